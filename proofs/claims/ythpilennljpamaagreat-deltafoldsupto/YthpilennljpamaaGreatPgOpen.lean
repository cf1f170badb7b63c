/- Pages and entries that came in. -/
import Derived.Test.YthpilennljpamaaGreatPgM
import Derived.ProofKit
import Derived.OpenShut
import Derived.ShutString
import Derived.ChangeOld
import Derived.SizedLaws
import Derived.JoinedCond
import Derived.Deep.Slices
namespace Go.Proofs.YthpilennljpamaaGreat
open Go.ChangeShapes Go.WideShapes Go.ChangeAt Go.RowKit
open Go.ChangeMaps (open_string shut_string)
set_option linter.unusedVariables false
set_option maxRecDepth 100000

theorem own : ownKnob Tryz.prog.godebug = none := by kernel_rfl
theorem laidOut : laidOutB Tryz.prog = true := by kernel_rfl

theorem list2 {α : Type} {l : List α} (h : l.length = 2) : ∃ a b, l = [a, b] := by
  match l, h with
  | [a, b], _ => exact ⟨a, b, rfl⟩
theorem list3 {α : Type} {l : List α} (h : l.length = 3) : ∃ a b c, l = [a, b, c] := by
  match l, h with
  | [a, b, c], _ => exact ⟨a, b, c, rfl⟩
theorem list4 {α : Type} {l : List α} (h : l.length = 4) : ∃ a b c d, l = [a, b, c, d] := by
  match l, h with
  | [a, b, c, d], _ => exact ⟨a, b, c, d, rfl⟩
theorem list5 {α : Type} {l : List α} (h : l.length = 5) : ∃ a b c d e, l = [a, b, c, d, e] := by
  match l, h with
  | [a, b, c, d, e], _ => exact ⟨a, b, c, d, e, rfl⟩

theorem rcells_at {W : World} {a : Addr} {n : Nat} {cs : List Value} (h : W.cells? 0 a n = some cs) : ∀ j v, cs[j]? = some v → W.cell? (a.add j) = some v := by
  obtain ⟨_, hl, hc⟩ := World.cells?_some h
  intro j v hv
  have hj : j < n := by
    have := (List.getElem?_eq_some_iff.1 hv).1
    omega
  exact (hc j hj).trans hv

/-- A slice of entries that came in. -/
structure InE (M : Nat) (w : World) (p : Option Addr) (len cap : Nat) (l : List En) : Prop where
  lenq : l.length = len
  ens : Ens w p l
  room : len ≤ M
  nil : p = none → len = 0 ∧ cap = 0
  keys : ∀ e ∈ l, e.key.size ≤ 140737488351232
  le : len ≤ cap

section
variable {H : Type} {enc : TypeId × Value → H} {W : World} {fuel : Nat} {cs : List Value} {x : DataW H × List MemPlace}

theorem in_hnd (hf : DataW.trod enc Tryz.prog W 0 (fun _ => true) true fuel 28 cs = some x) : ∃ s g : Int, cs = [.int .i64 s, .int .i64 g] := by
  obtain ⟨ys, n, -, rfl, hlen, hys, hall⟩ := DataW.trod_struct Tryz.underlying28 hf
  have eT : Tryz.prog.cellsOf 28 = 2 := by kernel_rfl
  rw [eT] at hlen
  obtain ⟨c0, c1, rfl⟩ := list2 hlen
  obtain ⟨y0, y1, rfl⟩ := list2 (l := ys) hys
  have h0 : DataW.trod enc Tryz.prog W 0 (fun _ => true) true n 3 [c0] = some y0 := by
    have h : DataW.trod enc Tryz.prog W 0 (fun _ => true) true n 3 (List.take (Tryz.prog.cellsOf 3) (List.drop 0 [c0, c1])) = some y0 := hall 0 _ rfl
    rw [show Tryz.prog.cellsOf 3 = 1 by kernel_rfl] at h
    exact h
  have h1 : DataW.trod enc Tryz.prog W 0 (fun _ => true) true n 2 [c1] = some y1 := by
    have h : DataW.trod enc Tryz.prog W 0 (fun _ => true) true n 2 (List.take (Tryz.prog.cellsOf 2) (List.drop 1 [c0, c1])) = some y1 := hall 1 _ rfl
    rw [show Tryz.prog.cellsOf 2 = 1 by kernel_rfl] at h
    exact h
  obtain ⟨v0, q0, _, w0⟩ := DataW.trod_int Tryz.underlying3 h0
  obtain ⟨v1, q1, _, w1⟩ := DataW.trod_int Tryz.underlying2 h1
  simp only [List.cons.injEq, and_true] at q0 q1
  subst q0 q1
  exact ⟨v0, v1, rfl⟩

theorem in_en (hf : DataW.trod enc Tryz.prog W 0 (fun _ => true) true fuel 30 cs = some x) : ∃ e : En, cs = e.cells ∧ ∃ r, x.1 = .agg (.lit (.string e.key.data.toList) :: r) := by
  obtain ⟨ys, n, -, rfl, hlen, hys, hall⟩ := DataW.trod_struct Tryz.underlying30 hf
  have eT : Tryz.prog.cellsOf 30 = 4 := by kernel_rfl
  rw [eT] at hlen
  obtain ⟨c0, c1, c2, c3, rfl⟩ := list4 hlen
  obtain ⟨y0, y1, y2, rfl⟩ := list3 (l := ys) hys
  have h0 : DataW.trod enc Tryz.prog W 0 (fun _ => true) true n 9 [c0] = some y0 := by
    have h : DataW.trod enc Tryz.prog W 0 (fun _ => true) true n 9 (List.take (Tryz.prog.cellsOf 9) (List.drop 0 [c0, c1, c2, c3])) = some y0 := hall 0 _ rfl
    rw [show Tryz.prog.cellsOf 9 = 1 by kernel_rfl] at h
    exact h
  have h1 : DataW.trod enc Tryz.prog W 0 (fun _ => true) true n 28 [c1, c2] = some y1 := by
    have h : DataW.trod enc Tryz.prog W 0 (fun _ => true) true n 28 (List.take (Tryz.prog.cellsOf 28) (List.drop 1 [c0, c1, c2, c3])) = some y1 := hall 1 _ rfl
    rw [show Tryz.prog.cellsOf 28 = 2 by kernel_rfl] at h
    exact h
  have h2 : DataW.trod enc Tryz.prog W 0 (fun _ => true) true n 3 [c3] = some y2 := by
    have h : DataW.trod enc Tryz.prog W 0 (fun _ => true) true n 3 (List.take (Tryz.prog.cellsOf 3) (List.drop 3 [c0, c1, c2, c3])) = some y2 := hall 2 _ rfl
    rw [show Tryz.prog.cellsOf 3 = 1 by kernel_rfl] at h
    exact h
  obtain ⟨v0, q0, e0, _⟩ := DataW.trod_string Tryz.underlying9 h0
  obtain ⟨s, g, q1⟩ := in_hnd h1
  obtain ⟨v2, q2, _, _⟩ := DataW.trod_int Tryz.underlying3 h2
  simp only [List.cons.injEq, and_true] at q0 q1 q2
  obtain ⟨rfl, rfl⟩ := q1
  subst q0 q2
  refine ⟨⟨v0, s, g, v2⟩, rfl, [y1.1, y2.1], ?_⟩
  rw [e0]
  rfl

theorem in_ens {M : Nat} {a : Option Addr} {len cap : Nat} (hf : DataW.trod enc Tryz.prog W 0 (fun _ => true) true fuel 22 [.slice a len cap] = some x)
    (hB : ∀ elems spare, x.1 = .slice elems spare → elems.length + spare.length ≤ M ∧ ∀ y ∈ elems, ∀ k r, y = .agg (.lit (.string k) :: r) → k.length ≤ 140737488351232) : ∃ l, InE M W a len cap l := by
  have e2 : Tryz.prog.cellsOf 30 = 4 := by kernel_rfl
  rcases Go.Deep.open_slice Tryz.underlying22 hf with ⟨hcs, _⟩ | ⟨x', l, c, m, n, D, Pl, hcs, _, hl, hm, hmm, hx, hall⟩
  · simp at hcs
    obtain ⟨rfl, rfl, rfl⟩ := hcs
    exact ⟨[], rfl, Ens.nil _ _, Nat.zero_le _, fun _ => ⟨rfl, rfl⟩, by simp, Nat.le_refl _⟩
  · simp at hcs
    obtain ⟨rfl, rfl, rfl⟩ := hcs
    simp only [if_true] at hmm
    subst hmm
    rw [e2] at hall
    have hx1 := congrArg Prod.fst hx
    simp only at hx1
    obtain ⟨hr1, hr2⟩ := hB _ _ hx1
    have hroom : len ≤ M := by
      simp at hr1
      omega
    haveI : Inhabited En := ⟨En.zero⟩
    obtain ⟨G, hG⟩ := Go.Deep.choose_lt (n := len) (α := En) (p := fun i g => W.cells? 0 (x'.add (i * 4)) 4 = some g.cells ∧ g.key.size ≤ 140737488351232) (fun i hi => by
      obtain ⟨cs, h1, h2⟩ := hall i (by omega)
      obtain ⟨g, rfl, r, hr⟩ := in_en h2
      refine ⟨g, h1, ?_⟩
      have := hr2 (D i) (List.mem_map.2 ⟨i, List.mem_range.2 hi, rfl⟩) _ _ hr
      rwa [Array.length_toList] at this)
    refine ⟨(List.range len).map G, by simp, fun hpos => ?_, hroom, (fun h => by cases h), ?_, hl⟩
    · have hpos' : 0 < len := by simpa using hpos
      have h0 := rcells_at (hG 0 hpos').1 0 _ rfl
      obtain ⟨b, off, spot⟩ := x'
      have hspot : spot = none := by
        have := World.cell?_spot h0
        simpa [Addr.add] using this
      subst hspot
      refine ⟨b, off, rfl, fun i g hi => ?_⟩
      have hil : i < len := by
        have := (List.getElem?_eq_some_iff.1 hi).1
        simpa using this
      have hg : g = G i := by simpa [hil] using hi.symm
      subst hg
      have c0 := rcells_at (hG i hil).1 0 _ rfl
      have c1 := rcells_at (hG i hil).1 1 _ rfl
      have c2 := rcells_at (hG i hil).1 2 _ rfl
      have c3 := rcells_at (hG i hil).1 3 _ rfl
      rw [Addr.add_lit, Addr.add_lit] at c0 c1 c2 c3
      exact ⟨c0, c1, c2, c3⟩
    · intro g hg
      obtain ⟨i, hi, rfl⟩ := List.mem_map.1 hg
      exact (hG i (List.mem_range.1 hi)).2

theorem weights_all {e : TypeId} {d : DataW H} {n : Nat} : ∀ {l : List (DataW H)}, d ∈ l → n ∈ d.weights Tryz.prog e → n ∈ DataW.weightsAll Tryz.prog e l
  | y :: r, hd, hn => by
    simp only [DataW.weightsAll, List.mem_append]
    rcases List.mem_cons.1 hd with rfl | hd
    · exact .inl hn
    · exact .inr (weights_all hd hn)

theorem in_page {M : Nat} (hf : DataW.trod enc Tryz.prog W 0 (fun _ => true) true fuel 24 cs = some x)
    (hB : ∀ y0 y1 y2 y3 elems spare, x.1 = .agg [y0, y1, y2, y3, .slice elems spare] → elems.length + spare.length ≤ M ∧ ∀ y ∈ elems, ∀ k r, y = .agg (.lit (.string k) :: r) → k.length ≤ 140737488351232) :
    ∃ leaf lo hi r a len cap l, cs = [.bool leaf, .string lo, .string hi, .int .i64 r, .slice a len cap] ∧ InE M W a len cap l := by
  obtain ⟨ys, n, -, rfl, hlen, hys, hall⟩ := DataW.trod_struct Tryz.underlying24 hf
  have eT : Tryz.prog.cellsOf 24 = 5 := by kernel_rfl
  rw [eT] at hlen
  obtain ⟨c0, c1, c2, c3, c4, rfl⟩ := list5 hlen
  obtain ⟨y0, y1, y2, y3, y4, rfl⟩ := list5 (l := ys) hys
  have h0 : DataW.trod enc Tryz.prog W 0 (fun _ => true) true n 4 [c0] = some y0 := by
    have h : DataW.trod enc Tryz.prog W 0 (fun _ => true) true n 4 (List.take (Tryz.prog.cellsOf 4) (List.drop 0 [c0, c1, c2, c3, c4])) = some y0 := hall 0 _ rfl
    rw [show Tryz.prog.cellsOf 4 = 1 by kernel_rfl] at h
    exact h
  have h1 : DataW.trod enc Tryz.prog W 0 (fun _ => true) true n 9 [c1] = some y1 := by
    have h : DataW.trod enc Tryz.prog W 0 (fun _ => true) true n 9 (List.take (Tryz.prog.cellsOf 9) (List.drop 1 [c0, c1, c2, c3, c4])) = some y1 := hall 1 _ rfl
    rw [show Tryz.prog.cellsOf 9 = 1 by kernel_rfl] at h
    exact h
  have h2 : DataW.trod enc Tryz.prog W 0 (fun _ => true) true n 9 [c2] = some y2 := by
    have h : DataW.trod enc Tryz.prog W 0 (fun _ => true) true n 9 (List.take (Tryz.prog.cellsOf 9) (List.drop 2 [c0, c1, c2, c3, c4])) = some y2 := hall 2 _ rfl
    rw [show Tryz.prog.cellsOf 9 = 1 by kernel_rfl] at h
    exact h
  have h3 : DataW.trod enc Tryz.prog W 0 (fun _ => true) true n 3 [c3] = some y3 := by
    have h : DataW.trod enc Tryz.prog W 0 (fun _ => true) true n 3 (List.take (Tryz.prog.cellsOf 3) (List.drop 3 [c0, c1, c2, c3, c4])) = some y3 := hall 3 _ rfl
    rw [show Tryz.prog.cellsOf 3 = 1 by kernel_rfl] at h
    exact h
  have h4 : DataW.trod enc Tryz.prog W 0 (fun _ => true) true n 22 [c4] = some y4 := by
    have h : DataW.trod enc Tryz.prog W 0 (fun _ => true) true n 22 (List.take (Tryz.prog.cellsOf 22) (List.drop 4 [c0, c1, c2, c3, c4])) = some y4 := hall 4 _ rfl
    rw [show Tryz.prog.cellsOf 22 = 1 by kernel_rfl] at h
    exact h
  obtain ⟨v0, q0, _⟩ := DataW.trod_bool Tryz.underlying4 h0
  obtain ⟨v1, q1, _, _⟩ := DataW.trod_string Tryz.underlying9 h1
  obtain ⟨v2, q2, _, _⟩ := DataW.trod_string Tryz.underlying9 h2
  obtain ⟨v3, q3, _, _⟩ := DataW.trod_int Tryz.underlying3 h3
  obtain ⟨a, len, cap, q4⟩ : ∃ a len cap, c4 = .slice a len cap := by
    rcases Go.Deep.open_slice Tryz.underlying22 h4 with ⟨hcs, _⟩ | ⟨x', l, c, m, n, D, Pl, hcs, _⟩
    · simp at hcs; exact ⟨_, _, _, hcs⟩
    · simp at hcs; exact ⟨_, _, _, hcs⟩
  simp only [List.cons.injEq, and_true] at q0 q1 q2 q3
  subst q0 q1 q2 q3 q4
  obtain ⟨l, hl⟩ := in_ens (M := M) h4 (fun elems spare he => hB y0.1 y1.1 y2.1 y3.1 elems spare (by simp [he]))
  exact ⟨v0, v1, v2, v3, a, len, cap, l, rfl, hl⟩

theorem page_said {M : Nat} (hM : 3518437208780 ≤ M) (hW : ∀ n ∈ x.1.weights Tryz.prog 24, n ≤ 140737488351232) :
    ∀ y0 y1 y2 y3 elems spare, x.1 = .agg [y0, y1, y2, y3, .slice elems spare] → elems.length + spare.length ≤ M ∧ ∀ y ∈ elems, ∀ k r, y = .agg (.lit (.string k) :: r) → k.length ≤ 140737488351232 := by
  intro y0 y1 y2 y3 elems spare e
  have e40 : Tryz.prog.bytesOf 30 = 40 := by kernel_rfl
  have hin : ∀ n ∈ DataW.weights Tryz.prog 22 (.slice elems spare), n ∈ x.1.weights Tryz.prog 24 := by
    intro n hn
    rw [e, DataW.weights, Tryz.underlying24]
    simp [DataW.weightsEach]
    simp [hn]
  refine ⟨?_, fun y hy k r hk => ?_⟩
  · have := hW _ (hin ((elems.length + spare.length) * Tryz.prog.bytesOf 30) (by rw [DataW.weights, Tryz.underlying22]; simp))
    rw [e40] at this
    omega
  · refine hW _ (hin k.length ?_)
    rw [DataW.weights, Tryz.underlying22]
    simp only [List.mem_cons, List.mem_append]
    refine .inr (.inl (weights_all hy ?_))
    rw [hk, DataW.weights, Tryz.underlying30]
    simp [DataW.weightsEach, DataW.weights]
end

end Go.Proofs.YthpilennljpamaaGreat
