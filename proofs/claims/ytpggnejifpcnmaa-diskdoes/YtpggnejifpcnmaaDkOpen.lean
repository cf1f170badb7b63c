/- What came in. -/
import Derived.Test.YtpggnejifpcnmaaDkSep
import Derived.ProofKit
import Derived.OpenShut
import Derived.ShutString
import Derived.ChangeOld
import Derived.SizedLaws
import Derived.JoinedCond
import Derived.Deep.Grids
namespace Go.Proofs.Ytpggnejifpcnmaa
open Go.ChangeShapes Go.WideShapes Go.ChangeAt Go.RowKit
set_option linter.unusedVariables false

theorem own : ownKnob Try.prog.godebug = none := by kernel_rfl
theorem laidOut : laidOutB Try.prog = true := by kernel_rfl
theorem bytes_bool : Try.prog.bytesOf 4 = 1 := by kernel_rfl

/-- A slice of bools that came in. -/
structure InK (w : World) (p : Option Addr) (len cap : Nat) (ks : List Bool) : Prop where
  lenq : ks.length = len
  bls : Bls w p ks
  le : len ≤ cap
  room : cap ≤ 140737488351232
  nil : p = none → len = 0 ∧ cap = 0

theorem in_bools {H : Type} {enc : TypeId × Value → H} {W : World} {a : Option Addr} {len cap : Nat} {d : DataW H} {p : List MemPlace}
    (h : DataW.Trod enc Try.prog W 0 (fun _ => true) true 31 (.slice a len cap) d p) (hB : ∀ elems spare, d = .slice elems spare → elems.length + spare.length ≤ 140737488351232) : ∃ ks, InK W a len cap ks := by
  obtain ⟨fuel, hf⟩ := h
  rcases Go.Deep.open_bools Try.underlying31 Try.underlying4 (by kernel_rfl) hf with ⟨hcs, _⟩ | ⟨x, l, c, Z, hcs, _, hl, hm, hx, hcell⟩
  · simp [Value.cells] at hcs
    obtain ⟨rfl, rfl, rfl⟩ := hcs
    exact ⟨[], rfl, Bls.nil _ _, Nat.le_refl _, Nat.zero_le _, fun _ => ⟨rfl, rfl⟩⟩
  · simp [Value.cells] at hcs
    obtain ⟨rfl, rfl, rfl⟩ := hcs
    simp only [Prod.mk.injEq] at hx
    have hb := hB _ _ hx.1
    simp only [List.length_map, List.length_range] at hb
    refine ⟨(List.range len).map Z, by simp, ?_, hl, by omega, (fun e => by cases e)⟩
    intro hpos
    simp at hpos
    have h0 := hcell 0 (by omega)
    obtain ⟨b, off, spot⟩ := x
    have hspot : spot = none := by simpa [Addr.add] using World.cell?_spot h0
    subst hspot
    refine ⟨b, off, rfl, fun i hi => ?_⟩
    simp at hi
    have := hcell i (by omega)
    rw [Addr.add_lit] at this
    rw [this]
    simp [List.getD, hi]

theorem InK.below {w w' : World} {p : Option Addr} {len cap : Nat} {ks : List Bool} (h : InK w p len cap ks) {B : Nat} (hb : Below B w w') (hB : ∀ ad, p = some ad → 0 < ks.length → ad.block < B) : InK w' p len cap ks := by
  refine ⟨h.lenq, fun hl => ?_, h.le, h.room, h.nil⟩
  obtain ⟨b, o, rfl, hc⟩ := h.bls hl
  exact ⟨b, o, rfl, fun i hi => (hb.cell (p := ⟨b, o + i, none⟩) (hB ⟨b, o, none⟩ rfl hl)).trans (hc i hi)⟩

theorem InK.lt {w : World} {p : Option Addr} {len cap : Nat} {ks : List Bool} (h : InK w p len cap ks) : ∀ ad, p = some ad → 0 < ks.length → ad.block < w.heap.size := by
  intro ad ha hl
  obtain ⟨b, o, rfl, hc⟩ := h.bls hl
  cases ha
  exact World.block_lt_of_cell? w _ (hc 0 hl)

end Go.Proofs.Ytpggnejifpcnmaa
