import Derived.Test.YtcolmebpbjjehabOpen
import Derived.Test.YtcolmebpbjjehabFrm
import Derived.Deep.Slices
namespace Go.Proofs.Ytcolmebpbjjehab
open Go.ChangeShapes Go.WideShapes Go.ChangeAt Go.RowKit
set_option linter.unusedVariables false

theorem bulk_append {H : Type} (a b : List (DataW H)) : Rows.uptoBulkAll (a ++ b) = Rows.uptoBulkAll a + Rows.uptoBulkAll b := by
  induction a with
  | nil => simp [Rows.uptoBulkAll]
  | cons x r ih => simp only [List.cons_append, Rows.uptoBulkAll, ih]; omega

theorem Rws.below {w w' : World} {p : Option Addr} {ls : List (Option Addr × Nat × List Int)} (h : Rws w p ls) {B : Nat} (hb : Below B w w') (hB : w.heap.size ≤ B) : Rws w' p ls := by
  intro hl
  obtain ⟨b, o, hp, hc⟩ := h hl
  refine ⟨b, o, hp, fun i hi => ?_⟩
  obtain ⟨h1, h2, h3⟩ := hc i hi
  refine ⟨?_, h2.below hb hB, h3⟩
  rw [hb.cell (p := ⟨b, o + i, none⟩) (Nat.lt_of_lt_of_le (World.block_lt_of_cell? w _ h1) hB)]
  exact h1

/-- A slice of slices of bytes that came in, of few bytes in all. -/
structure InR (w : World) (p : Option Addr) (len cap : Nat) (ls : List (Option Addr × Nat × List Int)) : Prop where
  lenq : ls.length = len
  rows : Rws w p ls
  small : (flat ls).length ≤ 1048576
  few : len ≤ 1048576
  nils : ∀ i (h : i < ls.length), ls[i].1 = none → ls[i].2.2.length = 0 ∧ ls[i].2.1 = 0

theorem InR.below {w w' : World} {p : Option Addr} {len cap : Nat} {ls : List (Option Addr × Nat × List Int)} (h : InR w p len cap ls) (hb : Below w.heap.size w w') : InR w' p len cap ls :=
  ⟨h.lenq, h.rows.below hb (Nat.le_refl _), h.small, h.few, h.nils⟩

/-- One slice of bytes, as its cell tells it. -/
theorem in_one {H : Type} {enc : TypeId × Value → H} {W : World} {v : Value} {d : DataW H} {pl : List MemPlace} {n : Nat}
    (h : DataW.trod enc Try.prog W 0 (fun _ => true) true n 22 [v] = some (d, pl)) :
    ∃ (q : Option Addr × Nat × List Int), v = .slice q.1 q.2.2.length q.2.1 ∧ Bys W q.1 q.2.2 ∧ (∀ y ∈ q.2.2, 0 ≤ y ∧ y < 256) ∧ (q.1 = none → q.2.2.length = 0 ∧ q.2.1 = 0) ∧ q.2.2.length ≤ Rows.uptoBulk d := by
  rcases open_ints Try.underlying22 Try.underlying5 (by kernel_rfl) h with ⟨hcs, _⟩ | ⟨x, l, c, zs, hcs, _, hl, hm, hz, hx, hcell, hwz⟩
  · simp only [List.cons.injEq, and_true] at hcs
    subst hcs
    exact ⟨(none, 0, []), rfl, Bys.nil _ _, by simp, fun _ => ⟨rfl, rfl⟩, Nat.zero_le _⟩
  · simp only [List.cons.injEq, and_true] at hcs
    subst hcs
    simp only [Prod.mk.injEq] at hx
    simp only [if_true] at hz
    have hlen : (zs.take l).length = l := by simp; omega
    refine ⟨(some x, c, zs.take l), by simp only [hlen], ?_, ?_, (fun e => by cases e), ?_⟩
    · intro hpos
      simp only [hlen] at hpos
      have h0 := hcell 0 (by omega)
      obtain ⟨b, off, spot⟩ := x
      have hspot : spot = none := by simpa [Addr.add] using World.cell?_spot h0
      subst hspot
      refine ⟨b, off, rfl, fun i hi => ?_⟩
      simp only [hlen] at hi
      have := hcell i (by omega)
      rw [Addr.add_lit] at this
      rw [this]
      simp [List.getD, hi]
    · intro y hy
      have := bounds_u8 (hwz y (List.mem_of_mem_take hy))
      omega
    · rw [hx.1]
      have := bulk_length (lits (H := H) .u8 (zs.take l))
      simp only [lits, List.length_map] at this
      simp only [Rows.uptoBulk, lits]
      omega

theorem flat_snoc (ls : List (Option Addr × Nat × List Int)) (q : Option Addr × Nat × List Int) : flat (ls ++ [q]) = flat ls ++ q.2.2 := by
  simp [flat]

theorem in_bytess {H : Type} {enc : TypeId × Value → H} {W : World} {a : Option Addr} {len cap : Nat} {d : DataW H} {p : List MemPlace}
    (h : DataW.Trod enc Try.prog W 0 (fun _ => true) true 40 (.slice a len cap) d p) (hB : Rows.uptoBulk d ≤ 1048576) : ∃ ls, InR W a len cap ls := by
  obtain ⟨fuel, hf⟩ := h
  rcases Go.Deep.open_slice1 Try.underlying40 (by kernel_rfl) hf with ⟨hcs, _⟩ | ⟨x, l, c, m, n, V, D, Pl, hcs, _, hl, hm, hmm, hx, hall⟩
  · simp [Value.cells] at hcs
    obtain ⟨rfl, rfl, rfl⟩ := hcs
    exact ⟨[], rfl, fun h => absurd h (Nat.lt_irrefl 0), by simp [flat], by omega, fun i h => absurd h (Nat.not_lt_zero i)⟩
  · simp [Value.cells] at hcs
    obtain ⟨rfl, rfl, rfl⟩ := hcs
    simp only [Prod.mk.injEq] at hx
    simp only [if_true] at hmm
    have step : ∀ k, k ≤ len → ∃ ls : List (Option Addr × Nat × List Int), ls.length = k ∧ (flat ls).length ≤ Rows.uptoBulkAll ((List.range k).map D) ∧
        ∀ i (hi : i < ls.length), W.cell? (x.add i) = some (.slice ls[i].1 ls[i].2.2.length ls[i].2.1) ∧ Bys W ls[i].1 ls[i].2.2 ∧ (∀ y ∈ ls[i].2.2, 0 ≤ y ∧ y < 256) ∧ (ls[i].1 = none → ls[i].2.2.length = 0 ∧ ls[i].2.1 = 0) := by
      intro k
      induction k with
      | zero => intro _; exact ⟨[], rfl, by simp [flat], fun i hi => absurd hi (Nat.not_lt_zero i)⟩
      | succ k ih =>
        intro hk
        obtain ⟨ls, h1, h2, h3⟩ := ih (by omega)
        obtain ⟨hc, ht⟩ := hall k (by omega)
        obtain ⟨q, hv, hby, hyb, hnil, hbk⟩ := in_one ht
        refine ⟨ls ++ [q], by simp [h1], ?_, ?_⟩
        · rw [flat_snoc, List.length_append, List.range_succ, List.map_append, bulk_append]
          simp only [List.map_cons, List.map_nil, Rows.uptoBulkAll]
          omega
        · intro i hi
          by_cases hik : i < ls.length
          · rw [List.getElem_append_left hik]
            exact h3 i hik
          · have e : i = ls.length := by simp at hi; omega
            subst e
            rw [List.getElem_append_right (Nat.le_refl _)]
            simp only [Nat.sub_self, List.getElem_cons_zero]
            rw [h1, hc, hv]
            exact ⟨rfl, hby, hyb, hnil⟩
    obtain ⟨ls, h1, h2, h3⟩ := step len (Nat.le_refl _)
    have hbk : Rows.uptoBulkAll ((List.range len).map D) ≤ 1048576 := by
      rw [hx.1] at hB
      simp only [Rows.uptoBulk] at hB
      omega
    have hfew : len ≤ 1048576 := by
      have := bulk_length ((List.range len).map D)
      simp only [List.length_map, List.length_range] at this
      omega
    refine ⟨ls, h1, ?_, by omega, hfew, fun i hi => (h3 i hi).2.2.2⟩
    intro hpos
    obtain ⟨b, off, spot⟩ := x
    have hspot : spot = none := by simpa [Addr.add] using World.cell?_spot (h3 0 hpos).1
    subst hspot
    refine ⟨b, off, rfl, fun i hi => ?_⟩
    obtain ⟨g1, g2, g3, g4⟩ := h3 i hi
    rw [Addr.add_lit] at g1
    refine ⟨g1, g2, ?_, g3⟩
    have hle : ls[i].2.2.length ≤ (flat ls).length := by
      have := flat_take ls i hi
      have e2 : flat ls = flat (ls.take (i + 1)) ++ flat (ls.drop (i + 1)) := by
        unfold flat
        rw [← List.flatten_append, ← List.map_append, List.take_append_drop]
      rw [e2, this]
      simp only [List.length_append]
      omega
    omega

theorem bulk_le {H : Type} {l : List (DataW H)} (hk : Rows.uptoSmall H l = true) {d : DataW H} (hd : d ∈ l) : Rows.uptoBulk d ≤ 1048576 := Nat.le_trans (bulk_part hd) (bulk_bound hk)

theorem flat_part (ls : List (Option Addr × Nat × List Int)) (k : Nat) : (flat (ls.take k)).length ≤ (flat ls).length := by
  have e2 : flat ls = flat (ls.take k) ++ flat (ls.drop k) := by
    unfold flat
    rw [← List.flatten_append, ← List.map_append, List.take_append_drop]
  rw [e2, List.length_append]
  omega
end Go.Proofs.Ytcolmebpbjjehab
