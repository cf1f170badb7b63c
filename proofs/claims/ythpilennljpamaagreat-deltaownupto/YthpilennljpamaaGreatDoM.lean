/- Deltas that came in, in a row. -/
import Derived.Test.YthpilennljpamaaGreatDlOpen
import Derived.Test.YthpilennljpamaaGreatDlBulk
import Derived.Test.YthpilennljpamaaGreatDlL
namespace Go.Proofs.YthpilennljpamaaGreat
open Go.ChangeShapes Go.WideShapes Go.ChangeAt Go.RowKit
open Go.ChangeMaps (open_string shut_string)
set_option linter.unusedVariables false
set_option maxRecDepth 100000

/-- Deltas that came in. -/
structure InDs (w : World) (p : Option Addr) (len cap : Nat) (L : List Dm) : Prop where
  lenq : L.length = len
  room : len ≤ 1048576
  le : len ≤ cap
  nil : p = none → len = 0 ∧ cap = 0
  des : Des w p L
  each : ∀ m ∈ L, m.n ≤ 1048576

theorem delta_bulk {H : Type} {d : DataW H} (hk : Rows.uptoBulk d ≤ 1048576) :
    ∀ y0 y1 y2 y3 z0 z1 z2 z3 elems spare, d = .agg [y0, y1, y2, y3, .agg [z0, z1, z2, z3, .slice elems spare]] → elems.length + spare.length ≤ 1048576 ∧ ∀ y ∈ elems, ∀ k r, y = .agg (.lit (.string k) :: r) → k.length ≤ 140737488351232 := by
  intro y0 y1 y2 y3 z0 z1 z2 z3 elems spare e
  subst e
  have h3 := bulk_length elems
  have h4 := bulk_length spare
  simp only [Rows.uptoBulk, Rows.uptoBulkAll] at hk
  refine ⟨by omega, fun y hy k r hy2 => ?_⟩
  have h5 := bulk_part hy
  rw [hy2] at h5
  simp only [Rows.uptoBulk, Rows.uptoBulkAll] at h5
  omega

theorem in_deltas {H : Type} {enc : TypeId × Value → H} {W : World} {a : Option Addr} {len cap : Nat} {d : DataW H} {p : List MemPlace} {ls : List (DataW H)} (hk : Rows.uptoSmall H ls = true) (hd : d ∈ ls)
    (h : DataW.Trod enc Tryz.prog W 0 (fun _ => true) true 25 (.slice a len cap) d p) : ∃ L, InDs W a len cap L := by
  obtain ⟨fuel, hf⟩ := h
  rcases Go.Deep.open_slice Tryz.underlying25 hf with ⟨hcs, _⟩ | ⟨x, l, c, m, n, D, Pl, hcs, _, hl, hm, hmm, hx, hall⟩
  · simp [Value.cells] at hcs
    obtain ⟨rfl, rfl, rfl⟩ := hcs
    exact ⟨[], rfl, Nat.zero_le _, Nat.le_refl _, fun _ => ⟨rfl, rfl⟩, Des.nil _ _, by simp⟩
  · simp [Value.cells] at hcs
    obtain ⟨rfl, rfl, rfl⟩ := hcs
    simp only [if_true] at hmm
    subst hmm
    have ek : Tryz.prog.cellsOf 32 = 12 := by kernel_rfl
    rw [ek] at hall
    simp only [Prod.mk.injEq] at hx
    have hroom := small_slice hk hd _ _ hx.1
    simp at hroom
    have hbulk : ∀ i, i < len → Rows.uptoBulk (D i) ≤ 1048576 := by
      intro i hi
      have h1 := bulk_part hd
      have h2 := bulk_bound hk
      rw [hx.1] at h1
      have h3 : D i ∈ (List.range len).map D := List.mem_map.2 ⟨i, List.mem_range.2 hi, rfl⟩
      have h4 := bulk_part h3
      simp only [Rows.uptoBulk] at h1
      omega
    have hin : Inhabited Dm := ⟨⟨Dl.zero, none, 0, 0⟩⟩
    obtain ⟨G, hG⟩ := Go.Deep.choose_lt (n := len) (α := Dm) (p := fun i g => W.cells? 0 (x.add (i * 12)) 12 = some g.cells ∧ g.Ok W ∧ g.n ≤ 1048576) (fun i hi => by
      obtain ⟨cs, h1, h2⟩ := hall i (by omega)
      obtain ⟨dd, pa, pn, pc, rfl, hr⟩ := in_delta (M := 1048576) h2 (delta_bulk (hbulk i hi))
      refine ⟨⟨dd, pa, pn, pc⟩, h1, ⟨hr.right.lenq, hr.right.ens, hr.right.nil, hr.right.le, ?_⟩, ?_⟩
      · exact Nat.le_trans hr.right.room (by decide)
      · exact hr.right.room)
    refine ⟨(List.range len).map G, by simp, by omega, hl, (fun h => by cases h), fun hpos => ?_, ?_⟩
    · have hpos' : 0 < len := by simpa using hpos
      have h0 := rcells_at (hG 0 hpos').1 0 _ rfl
      obtain ⟨b, off, spot⟩ := x
      have hspot : spot = none := by
        have := World.cell?_spot h0
        simpa [Addr.add] using this
      subst hspot
      refine ⟨b, off, rfl, fun i g hi => ?_⟩
      have hil : i < len := by
        have := (List.getElem?_eq_some_iff.1 hi).1
        simpa using this
      have hg : g = G i := by simpa [hil] using hi.symm
      subst hg
      refine ⟨fun j v hv => ?_, (hG i hil).2.1⟩
      have := rcells_at (hG i hil).1 j v hv
      rw [Addr.add_lit, Addr.add_lit] at this
      exact this
    · intro g hg
      obtain ⟨i, hi, rfl⟩ := List.mem_map.1 hg
      exact (hG i (List.mem_range.1 hi)).2.2

end Go.Proofs.YthpilennljpamaaGreat
