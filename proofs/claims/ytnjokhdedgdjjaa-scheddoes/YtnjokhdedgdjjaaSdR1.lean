/- The document's scheduler: in memory; what is asked of it. -/
import Derived.Test.YtnjokhdedgdjjaaSdO
import Derived.Test.YtnjokhdedgdjjaaSdFs
import Derived.Test.YtnjokhdedgdjjaaRoA
namespace Go.Proofs.Ytnjokhdedgdjjaa
open Go.RowKit Go.Maps
set_option linter.unusedVariables false
set_option maxRecDepth 100000

def rf (f : Fb) : List Value := [.int .i64 (f.num : Int), .int .i64 f.left, .int .i64 0]
def rfs (l : List Fb) : List Value := l.flatMap rf
theorem rfs_length (l : List Fb) : (rfs l).length = l.length * 3 := by
  induction l with
  | nil => rfl
  | cons x r ih => simp only [rfs, List.flatMap_cons, List.length_append, List.length_cons] at *; rw [ih]; simp [rf]; omega
theorem rfs_app (a b : List Fb) : rfs (a ++ b) = rfs a ++ rfs b := by simp [rfs]
theorem rfs_at : ∀ (l : List Fb) (i j : Nat) (f : Fb), l[i]? = some f → j < 3 → (rfs l)[i * 3 + j]? = (rf f)[j]?
  | [], i, j, f, h, _ => by simp at h
  | x :: r, 0, j, f, h, hj => by
    simp at h
    subst h
    simp only [rfs, List.flatMap_cons, Nat.zero_mul, Nat.zero_add]
    rw [List.getElem?_append_left (by simpa [rf] using hj)]
  | x :: r, i + 1, j, f, h, hj => by
    simp only [rfs, List.flatMap_cons]
    rw [List.getElem?_append_right (by simp [rf]; omega)]
    have e : (i + 1) * 3 + j - (rf x).length = i * 3 + j := by simp [rf]; omega
    rw [e]
    exact rfs_at r i j f (by simpa using h) hj

/-- Where the document's scheduler lies. -/
structure Gr where
  R : Nat
  va : Value
  vd : Value
  ve : Value

/-- The document's scheduler in memory: L is the number that was given last. -/
structure Rq (w : World) (r : Gr) (L : Nat) (s : Sc) : Prop where
  blk : Bk w r.R 74 #[.int .i64 (s.room : Int), .int .i64 (L : Int), r.va, r.vd, r.ve, .int .i64 s.steps]
  al : w.ownsRow 0 77 3 r.va s.fl.length (rfs s.fl)
  dn : w.ownsRow 0 2 1 r.vd s.done.length (intz s.done)
  en : Ro w 3 r.ve (ints s.box)
abbrev Rs (w : World) (r : Gr) (s : Sc) : Prop := Rq w r s.done.length s

def rt (r : Gr) : List Nat := r.R :: (r.va.ownBlock.toList ++ r.vd.ownBlock.toList ++ r.ve.ownBlock.toList)

theorem rt_sub {r : Gr} {P : Nat → Prop} (h1 : P r.R) (h2 : ∀ k, r.va.ownBlock = some k → P k) (h3 : ∀ k, r.vd.ownBlock = some k → P k) (h4 : ∀ k, r.ve.ownBlock = some k → P k) : ∀ x ∈ rt r, P x := by
  intro x hx
  simp only [rt, List.mem_cons, List.mem_append, opt_toList] at hx
  rcases hx with rfl | (h | h) | h
  · exact h1
  · exact h2 x h
  · exact h3 x h
  · exact h4 x h
theorem mem_rtR {r : Gr} : r.R ∈ rt r := by simp [rt]
theorem mem_rtA {r : Gr} {k : Nat} (h : r.va.ownBlock = some k) : k ∈ rt r := by simp [rt, h]
theorem mem_rtD {r : Gr} {k : Nat} (h : r.vd.ownBlock = some k) : k ∈ rt r := by simp [rt, h]
theorem mem_rtE {r : Gr} {k : Nat} (h : r.ve.ownBlock = some k) : k ∈ rt r := by simp [rt, h]

/-- What a call makes of it. -/
structure RT (w w' : World) (r r' : Gr) : Prop where
  tn : Tn (rt r) w w'
  same : r'.R = r.R
  sub : ∀ x ∈ rt r', x ∈ rt r ∨ w.heap.size ≤ x

theorem RT.refl (w : World) (r : Gr) : RT w w r r := ⟨Tn.refl _ _, rfl, fun x hx => .inl hx⟩
theorem RT.trans {w w' w'' : World} {r r' r'' : Gr} (h : RT w w' r r') (k : RT w' w'' r' r'') : RT w w'' r r'' :=
  ⟨h.tn.trans k.tn h.sub, k.same.trans h.same, fun x hx => by
    rcases k.sub x hx with h1 | h1
    · exact h.sub x h1
    · exact .inr (Nat.le_trans h.tn.size h1)⟩
theorem RT.still {w w' w'' : World} {r r' : Gr} (h : RT w w' r r') (k : Tn [] w' w'') : RT w w'' r r' := ⟨h.tn.trans k (by simp), h.same, h.sub⟩

section
variable {w w' : World} {r : Gr} {L : Nat} {s : Sc}

theorem Rq.tn {S : List Nat} (h : Rq w r L s) (t : Tn S w w') (hS : ∀ x ∈ rt r, x ∉ S) : Rq w' r L s where
  blk := h.blk.tn t (hS _ mem_rtR)
  al := owns_tn h.al t fun k hk => hS _ (mem_rtA hk)
  dn := owns_tn h.dn t fun k hk => hS _ (mem_rtD hk)
  en := h.en.tn t fun k hk => hS _ (mem_rtE hk)

theorem Rq.drew (h : Rq w r L s) (q : Nat) : Rq (w.drewN q) r L s := h.tn (S := []) ⟨rfl, rfl, rfl, Nat.le_refl _, fun _ _ _ => rfl⟩ (by simp)
theorem Rq.lt (h : Rq w r L s) : ∀ x ∈ rt r, x < w.heap.size := rt_sub h.blk.lt (fun k hk => row_block h.al k hk) (fun k hk => row_block h.dn k hk) (fun k hk => (h.en.lt hk).1)

theorem Rq.c0 (h : Rq w r L s) : w.cell? ⟨r.R, 0, none⟩ = some (.int .i64 (s.room : Int)) := h.blk.cell 0
theorem Rq.c1 (h : Rq w r L s) : w.cell? ⟨r.R, 1, none⟩ = some (.int .i64 (L : Int)) := h.blk.cell 1
theorem Rq.c2 (h : Rq w r L s) : w.cell? ⟨r.R, 2, none⟩ = some r.va := h.blk.cell 2
theorem Rq.c3 (h : Rq w r L s) : w.cell? ⟨r.R, 3, none⟩ = some r.vd := h.blk.cell 3
theorem Rq.c4 (h : Rq w r L s) : w.cell? ⟨r.R, 4, none⟩ = some r.ve := h.blk.cell 4
theorem Rq.c5 (h : Rq w r L s) : w.cell? ⟨r.R, 5, none⟩ = some (.int .i64 s.steps) := h.blk.cell 5

theorem Rq.fcell (h : Rq w r L s) {i : Nat} {f : Fb} (hi : s.fl[i]? = some f) : ∃ G k, r.va = .slice (some ⟨G, 0, none⟩) s.fl.length k ∧ s.fl.length ≤ k ∧ w.cell? ⟨G, i * 3, none⟩ = some (.int .i64 (f.num : Int)) ∧ w.cell? ⟨G, i * 3 + 1, none⟩ = some (.int .i64 f.left) ∧ w.cell? ⟨G, i * 3 + 2, none⟩ = some (.int .i64 0) ∧ w.frozen? ⟨G, i * 3 + 1, none⟩ = false := by
  have hlt := (List.getElem?_eq_some_iff.1 hi).1
  have hal := h.al
  rcases hal.2 with ⟨_, h0⟩ | ⟨G, k, cur, hv, _, hG, h1, h2, _⟩
  · omega
  · rw [hv] at hal
    refine ⟨G, k, hv, h1, ?_, ?_, ?_, (show Bk w G _ cur from hG).frozen _⟩
    · rw [World.ownsRow.cellAt hal (i * 3) (by omega)]
      exact rfs_at s.fl i 0 f hi (by omega)
    · rw [World.ownsRow.cellAt hal (i * 3 + 1) (by omega)]
      exact rfs_at s.fl i 1 f hi (by omega)
    · rw [World.ownsRow.cellAt hal (i * 3 + 2) (by omega)]
      exact rfs_at s.fl i 2 f hi (by omega)

theorem rnew_any (n : Nat) (h1 : 1 ≤ n) (h2 : n ≤ 4096) (D : Addr → Int) (w : World) : Calls Try.prog 8 #[.int .i64 (n : Int)] w fun e w' => ∃ r : Gr, e = .returned (.tuple #[.pointer (some ⟨r.R, 0, none⟩), .int .i64 0]) ∧ Rs w' r (Sc.new n D) ∧ Below w.heap.size w w' ∧ ∀ x ∈ rt r, w.heap.size ≤ x := by
  have HF : Hid (Rs (w.alloc (.cells #[.int .i64 (n : Int), .int .i64 0, .slice none 0 0, .slice none 0 0, .slice none 0 0, .int .i64 0] 74)) ⟨w.heap.size, .slice none 0 0, .slice none 0 0, .slice none 0 0⟩ (Sc.new n D) ∧ Below w.heap.size w (w.alloc (.cells #[.int .i64 (n : Int), .int .i64 0, .slice none 0 0, .slice none 0 0, .slice none 0 0, .int .i64 0] 74))) := ⟨⟨Bk.new _ _ _, World.ownsRow_nil _ _ _ _, World.ownsRow_nil _ _ _ _, .inl ⟨rfl, rfl⟩⟩, (Below.refl _ w).alloc (Nat.le_refl _) _⟩
  have g1 : ¬ (n : Int) < 1 := by omega
  have g2 : ¬ (4096 : Int) < (n : Int) := by omega
  clear h1 h2
  go_enter Try.func8, Try.ntmps8
  go_wp2
  go_ret2
  exact ⟨_, rfl, HF.out.1, HF.out.2, by simp [rt, Value.ownBlock]⟩

theorem rnew_bad (n : Int) (h : n < 1 ∨ 4096 < n) (w : World) : Calls Try.prog 8 #[.int .i64 n] w fun e w' => e = .returned (.tuple #[.pointer none, .int .i64 1]) ∧ w' = w := by
  by_cases g1 : n < 1
  · clear h
    go_enter Try.func8, Try.ntmps8
    go_wp2
    go_ret2
    exact ⟨rfl, rfl⟩
  · have g2 : (4096 : Int) < n := by omega
    clear h
    go_enter Try.func8, Try.ntmps8
    go_wp2
    go_ret2
    exact ⟨rfl, rfl⟩

theorem rsteps_any (h : Rs w r s) : Calls Try.prog 14 #[.pointer (some ⟨r.R, 0, none⟩)] w fun e w' => e = .returned (.int .i64 s.steps) ∧ w' = w := by
  have c5 := h.c5
  clear h
  go_enter Try.func14, Try.ntmps14
  go_wp2
  go_ret
  exact ⟨rfl, rfl⟩

theorem rof_any (h : Rs w r s) (q : Int) (hq : -9223372036854775808 ≤ q ∧ q ≤ 9223372036854775807) (hl : s.done.length ≤ 4611686018427387904) : Calls Try.prog 16 #[.pointer (some ⟨r.R, 0, none⟩), .int .i64 q] w fun e w' => e = .returned (.int .i64 (if 1 ≤ q ∧ q ≤ s.done.length then s.done.getD (q - 1).toNat 0 else 0)) ∧ w' = w := by
  have c3 := h.c3
  obtain ⟨p, c, hv, hc⟩ := row_form h.dn
  obtain ⟨out, hout⟩ : ∃ out, out = (if 1 ≤ q ∧ q ≤ s.done.length then s.done.getD (q - 1).toNat 0 else 0) := ⟨_, rfl⟩
  rw [← hout]
  by_cases g1 : q < 1
  · have e : out = 0 := by rw [hout, if_neg (by omega)]
    subst e
    rw [hv] at c3
    clear h hout
    go_enter Try.func16, Try.ntmps16
    go_wp2
    go_ret
    exact ⟨rfl, rfl⟩
  · by_cases g2 : ((s.done.length : Nat) : Int) < q
    · have e : out = 0 := by rw [hout, if_neg (by omega)]
      subst e
      rw [hv] at c3
      clear h hout
      generalize s.done.length = n at *
      go_enter Try.func16, Try.ntmps16
      go_wp2
      go_ret
      exact ⟨rfl, rfl⟩
    · obtain ⟨j, rfl⟩ : ∃ j : Nat, q = (j : Int) + 1 := ⟨(q - 1).toNat, by omega⟩
      have hj : j < s.done.length := by omega
      have e : s.done[j]? = some out := by
        rw [hout, if_pos (by omega)]
        rw [show ((j : Int) + 1 - 1).toNat = j by omega]
        simp [List.getD, List.getElem?_eq_getElem hj]
      obtain ⟨G, k, hv2⟩ := row_some h.dn (by omega)
      have cj : w.cell? ⟨G, j, none⟩ = some (.int .i64 out) := by
        have h1 := h.dn
        rw [hv2] at h1
        rw [World.ownsRow.cellAt h1 j (by omega)]
        simp [intz, e]
      rw [hv2] at c3
      have w1 : wrap64 ((j : Int) + 1 - 1) = (j : Int) := by unfold wrap64; omega
      have b1 : (0 : Int) ≤ (j : Int) := by omega
      have b2 : (j : Int) < ((s.done.length : Nat) : Int) := by omega
      clear h hout hv hv2 e
      generalize s.done.length = n at *
      go_enter Try.func16, Try.ntmps16
      go_wp2
      go_ret
      exact ⟨rfl, rfl⟩

/-- Where a fiber stands. -/
theorem rplace_any (h : Rs w r s) (q : Int) (hl : s.fl.length ≤ 4096) {out : Int} (ho : (∃ i f, out = ((i : Nat) : Int) ∧ s.fl[i]? = some f ∧ (f.num : Int) = q ∧ ∀ j, j < i → ∀ x, s.fl[j]? = some x → (x.num : Int) ≠ q) ∨ (out = -1 ∧ ∀ x ∈ s.fl, (x.num : Int) ≠ q)) :
    Calls Try.prog 44 #[.pointer (some ⟨r.R, 0, none⟩), .int .i64 q] w fun e w' => e = .returned (.int .i64 out) ∧ w' = w := by
  have c2 := h.c2
  have HH : Hid (Rs w r s) := h
  have HO : Hid ((∃ i f, out = ((i : Nat) : Int) ∧ s.fl[i]? = some f ∧ (f.num : Int) = q ∧ ∀ j, j < i → ∀ x, s.fl[j]? = some x → (x.num : Int) ≠ q) ∨ (out = -1 ∧ ∀ x ∈ s.fl, (x.num : Int) ≠ q)) := ho
  obtain ⟨p, c, hv, hc⟩ := row_form h.al
  rw [hv] at c2
  obtain ⟨n, hn⟩ : ∃ n, s.fl.length = n := ⟨_, rfl⟩
  have HN : Hid (s.fl.length = n) := hn
  have HV : Hid (r.va = .slice p s.fl.length c) := hv
  rw [hn] at c2 hl hc
  clear h ho hn hv
  go_enter Try.func44, Try.ntmps44
  go_wp2_with fail
  go_loopw [5] (fun iv wr => ∃ j : Nat, j ≤ n ∧ iv = .int .i64 (j : Int) ∧ wr = w ∧ Hid (∀ i, i < j → ∀ x, s.fl[i]? = some x → (x.num : Int) ≠ q)) (fun iv _ => n - (intOf iv).toNat)
  case atStart => exact ⟨0, Nat.zero_le _, rfl, rfl, fun i hi => absurd hi (Nat.not_lt_zero i)⟩
  case round =>
    obtain ⟨j, hj, rfl, rfl, HB⟩ := hrel
    by_cases hq : j < n
    · obtain ⟨f, hf⟩ : ∃ f, s.fl[j]? = some f := ⟨_, List.getElem?_eq_getElem (by rw [HN.out]; exact hq)⟩
      obtain ⟨G, k, hv, hk, x0, -, -, -⟩ := HH.out.fcell hf
      have hp : p = some ⟨G, 0, none⟩ ∧ c = k := by
        have := HV.out.symm.trans hv
        simp at this
        exact this
      obtain ⟨rfl, rfl⟩ := hp
      have hqi : (j : Int) < (n : Int) := by omega
      have b1 : (0 : Int) ≤ (j : Int) := by omega
      by_cases he : (f.num : Int) = q
      · have e : out = (j : Int) := by
          rcases HO.out with ⟨i, f', h1, h2, h3, h4⟩ | ⟨h1, h2⟩
          · rcases Nat.lt_trichotomy i j with hh | hh | hh
            · exact absurd h3 (HB.out i hh f' h2)
            · rw [h1, hh]
            · exact absurd he (h4 j hh f hf)
          · exact absurd he (h2 f (List.mem_of_getElem? hf))
        subst e
        clear hv HO HB HV
        generalize (f.num : Int) = y at *
        subst he
        go_wp2
        go_ret
        exact ⟨rfl, rfl⟩
      · have HE : Hid (¬ (f.num : Int) = q) := he
        have HF : Hid (s.fl[j]? = some f) := hf
        have hb : (((f.num : Nat) : Int) == q) = false := by simpa using he
        clear hv hf
        go_wp2
        go_roundw
        case rel =>
          refine ⟨j + 1, by omega, by go_num, trivial, fun i hi x hx => ?_⟩
          by_cases hij : i = j
          · subst hij
            have e1 := HF.out.symm.trans hx
            simp only [Option.some.injEq] at e1
            rw [← e1]
            exact HE.out
          · exact HB.out i (by omega) x hx
        case measure => simp [intOf]; omega
    · have hjn : j = n := by omega
      subst hjn
      have e : out = -1 := by
        rcases HO.out with ⟨i, f', h1, h2, h3, h4⟩ | ⟨h1, h2⟩
        · have := (List.getElem?_eq_some_iff.1 h2).1
          exact absurd h3 (HB.out i (by have := HN.out; omega) f' h2)
        · exact h1
      subst e
      clear HO HB HV
      go_wp2
      go_ret
      exact ⟨rfl, rfl⟩

end
end Go.Proofs.Ytnjokhdedgdjjaa
