/- What Meet and Minus have; ranges that came in. -/
import Derived.Test.YtgppnbcneknpdaaKyMw
import Derived.Test.YtgppnbcneknpdaaKyOpen
namespace Go.Proofs.Ytgppnbcneknpdaa
open Go.ChangeShapes Go.WideShapes Go.ChangeAt Go.RowKit
set_option linter.unusedVariables false
set_option maxRecDepth 100000
namespace Ky

theorem inn_all (k : ByteArray) : inn all k = true := by
  unfold inn below all
  simp [lt_empty, nil_eq]

theorem inn_meet (l : List Rg) (k : ByteArray) : inn (meet l) k = l.all fun x => inn x k := by
  have key : ∀ (l : List Rg) (m : Rg), inn (l.foldl meet2 m) k = (inn m k && l.all fun x => inn x k) := by
    intro l
    induction l with
    | nil => intro m; simp
    | cons x t ih =>
      intro m
      rw [List.foldl_cons, ih, inn_meet2, List.all_cons, Bool.and_assoc]
  unfold meet
  rw [key, inn_all, Bool.true_and]

theorem hits_outs (whole : List Rg) (o : Rg) (k : ByteArray) : hits (outs whole o) k = (hits whole k && inn o k) := by
  unfold hits outs
  induction whole with
  | nil => simp
  | cons x t ih =>
    rw [List.map_cons, List.any_cons, List.any_cons, ih, inn_meet]
    simp only [List.all_cons, List.all_nil, Bool.and_true]
    cases inn x k <;> cases inn o k <;> simp

theorem hits_left (whole os : List Rg) (k : ByteArray) : hits (left whole os) k = (hits whole k && hits os k) := by
  induction os with
  | nil => simp [left, hits]
  | cons o t ih =>
    have e : left whole (o :: t) = outs whole o ++ left whole t := by unfold left; simp
    rw [e]
    have e2 : hits (outs whole o ++ left whole t) k = (hits (outs whole o) k || hits (left whole t) k) := by unfold hits; simp
    have e3 : hits (o :: t) k = (inn o k || hits t k) := by unfold hits; simp
    rw [e2, e3, ih, hits_outs]
    cases hits whole k <;> simp

theorem left_len (whole os : List Rg) : (left whole os).length = whole.length * os.length := by
  induction os with
  | nil => simp [left]
  | cons o t ih =>
    have e : left whole (o :: t) = outs whole o ++ left whole t := by unfold left; simp
    rw [e, List.length_append, ih, outs_len, List.length_cons, Nat.mul_add, Nat.mul_one, Nat.add_comm]

theorem mk_empty : (⟨#[]⟩ : ByteArray) = .empty := rfl

theorem hits_around (r : Rg) (k : ByteArray) : hits (around r) k = !inn r k := by
  obtain ⟨lo, hi⟩ := r
  obtain ⟨f, h0, h1, h2⟩ := ranks [lo, hi, k]
  simp only [List.forall_mem_cons, List.not_mem_nil, false_imp_iff, implies_true, and_true] at h1 h2
  have hk : lt k .empty = false := lt_empty k
  unfold around hits
  rw [List.any_append, mk_empty]
  show (((if nil lo then ([] : List Rg) else [⟨.empty, lo⟩]).any fun r => inn r k) || ((if nil hi then ([] : List Rg) else [⟨hi, .empty⟩]).any fun r => inn r k)) = !inn ⟨lo, hi⟩ k
  have ne : nil .empty = true := by rw [nil_eq]; simp
  rcases nil_cases lo with ⟨a1, a2⟩ | ⟨a1, a2⟩ <;> rcases nil_cases hi with ⟨b1, b2⟩ | ⟨b1, b2⟩ <;> rw [a1, b1] <;> unfold inn below <;> simp [a1, b1, ne, hk]
  · subst a2; simp [hk]
  · subst a2; simp [hk]

end Ky

section
variable {H : Type} {enc : TypeId × Value → H} {W : World}

/-- Ranges that a slice that came in leads to. -/
structure InR (w : World) (p : Option Addr) (len cap : Nat) (l : List Rg) : Prop where
  lenq : l.length = len
  rgs : Rgs w p l
  room : len ≤ 1048576
  nil : p = none → len = 0

theorem in_rgs {a : Option Addr} {len cap : Nat} {d : DataW H} {p : List MemPlace}
    (h : DataW.Trod enc Try.prog W 0 (fun _ => true) true 22 (.slice a len cap) d p) (hB : ∀ elems spare, d = .slice elems spare → elems.length + spare.length ≤ 1048576) : ∃ l, InR W a len cap l := by
  obtain ⟨fuel, hf⟩ := h
  have e2 : Try.prog.cellsOf 24 = 2 := by kernel_rfl
  rcases Go.Deep.open_slice Try.underlying22 hf with ⟨hcs, _⟩ | ⟨x, l, c, m, n, D, Pl, hcs, _, hl, hm, hmm, hx, hall⟩
  · simp [Value.cells] at hcs
    obtain ⟨rfl, rfl, rfl⟩ := hcs
    exact ⟨[], rfl, Rgs.nil _ _, by omega, fun _ => rfl⟩
  · simp [Value.cells] at hcs
    obtain ⟨rfl, rfl, rfl⟩ := hcs
    simp only [if_true] at hmm
    subst hmm
    rw [e2] at hall
    simp only [Prod.mk.injEq] at hx
    have hroom : len ≤ 1048576 := by
      have := hB _ _ hx.1
      simp at this
      omega
    haveI : Inhabited Rg := ⟨Ky.all⟩
    obtain ⟨G, hG⟩ := Go.Deep.choose_lt (n := len) (α := Rg) (p := fun i g => W.cells? 0 (x.add (i * 2)) 2 = some g.cells) (fun i hi => by
      obtain ⟨cs, h1, h2⟩ := hall i (by omega)
      obtain ⟨g, rfl⟩ := in_rg h2
      exact ⟨g, h1⟩)
    refine ⟨(List.range len).map G, by simp, fun hpos => ?_, hroom, (fun h => by cases h)⟩
    have hpos' : 0 < len := by simpa using hpos
    have h0 := rcells_at (hG 0 hpos') 0 _ rfl
    obtain ⟨b, off, spot⟩ := x
    have hspot : spot = none := by
      have := World.cell?_spot h0
      simpa [Addr.add] using this
    subst hspot
    refine ⟨b, off, rfl, fun i g hi => ?_⟩
    have hil : i < len := by
      have := (List.getElem?_eq_some_iff.1 hi).1
      simpa using this
    have hg : g = G i := by simpa [hil] using hi.symm
    subst hg
    have c0 := rcells_at (hG i hil) 0 _ rfl
    have c1 := rcells_at (hG i hil) 1 _ rfl
    rw [Addr.add_lit, Addr.add_lit] at c0 c1
    exact ⟨c0, c1⟩
end

end Go.Proofs.Ytgppnbcneknpdaa
