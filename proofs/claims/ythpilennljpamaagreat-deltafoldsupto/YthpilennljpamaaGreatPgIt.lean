/- What From hands back tells the entries; slices.Backward. -/
import Derived.Test.YthpilennljpamaaGreatItG
import Derived.Test.YthpilennljpamaaGreatPgRq
import Derived.Test.YthpilennljpamaaGreatPgB
namespace Go.Proofs.YthpilennljpamaaGreat
open Go.RowKit Go.Shelf Go.Sort
attribute [local go_sem] Oper.semAt_some
set_option linter.unusedVariables false
set_option maxRecDepth 100000

theorem KpP.cell {S : List Nat} {W W' : World} (h : KpP S W W') {b o : Nat} (hb : b ∈ S) : W'.cell? ⟨b, o, none⟩ = W.cell? ⟨b, o, none⟩ := by
  simp only [World.cell?, h b hb]

theorem Ens.kp {S : List Nat} {W W' : World} {p : Option Addr} {l : List En} (h : Ens W p l) (hk : KpP S W W') (hp : ∀ b o, p = some ⟨b, o, none⟩ → b ∈ S) : Ens W' p l := by
  intro hl
  obtain ⟨b, o, rfl, hc⟩ := h hl
  refine ⟨b, o, rfl, fun i g hi => ?_⟩
  have hb := hp b o rfl
  rw [hk.cell hb, hk.cell hb, hk.cell hb, hk.cell hb]
  exact hc i g hi

/-- A function value that goes through entries: its box, and the blocks that it reads. -/
structure Fm (W : World) (b : Nat) (S : List Nat) (L : List En) : Prop where
  ex : ∃ p c, Bk W b 22 #[.slice p L.length c] ∧ Ens W p L ∧ (0 < L.length → ∀ g o, p = some ⟨g, o, none⟩ → g ∈ S)
  h1 : b ∈ S
  lt : ∀ b ∈ S, b < W.heap.size
  reach : L.length ≤ 4398046511104

theorem Fm.kp {W W' : World} {b : Nat} {S : List Nat} {L : List En} (h : Fm W b S L) (hk : KpP S W W') : Fm W' b S L := by
  obtain ⟨p, c, k1, r1, s1⟩ := h.ex
  refine ⟨⟨p, c, hk.bk k1 h.h1, ?_, s1⟩, h.h1, hk.lt h.lt, h.reach⟩
  intro hl
  exact r1.kp hk (s1 hl) hl

abbrev encE (x : En) : Array Value := #[x.val]

theorem Ens.dropP {w : World} {p : Option Addr} {l : List En} (h : Ens w p l) (v : Nat) : Ens w (p.map fun x => x.add (v * 4)) (l.drop v) := by
  intro hl
  rw [List.length_drop] at hl
  obtain ⟨b, o, rfl, hc⟩ := h (by omega)
  have h2 : Ens w (some ⟨b, o, none⟩) l := fun _ => ⟨b, o, rfl, hc⟩
  rw [Option.map_some, Addr.add_lit]
  exact h2.drop v (by rw [List.length_drop]; omega)

end Go.Proofs.YthpilennljpamaaGreat
