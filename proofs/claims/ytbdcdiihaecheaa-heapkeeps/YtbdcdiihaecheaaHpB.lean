/- A new heap. -/
import Derived.Test.YtbdcdiihaecheaaHpA
namespace Go.Proofs.Ytbdcdiihaecheaa
open Go.RowKit
set_option linter.unusedVariables false
set_option maxRecDepth 100000
set_option linter.unusedSectionVars false
variable [Inhabited Cl] [Inhabited Ln]

set_option maxHeartbeats 1000000 in
theorem hnew_any {w : World} {eB : Nat} {eb : List Nat} {e : Ep} (he : Epn w eB eb e) (n m : Nat) (n1 : 1 ≤ n) (n2 : n ≤ 65536) (m1 : 1 ≤ m) (m2 : m ≤ 65536) : Calls Try.prog 8 #[.int .i64 (n : Int), .int .i64 (m : Int), .pointer (some ⟨eB, 0, none⟩)] w fun r w' => r = .returned (.tuple #[.pointer (some ⟨w.heap.size + 2, 0, none⟩), .int .i64 0]) ∧ Arn Cl.cells 4 tAC tSC w' w.heap.size [w.heap.size] (Ar.fresh n) ∧ Arn Ln.cells 5 tAL tSL w' (w.heap.size + 1) [w.heap.size + 1] (Ar.fresh m) ∧ Bk w' (w.heap.size + 2) 70 (hpCells w.heap.size (w.heap.size + 1) eB (List.replicate 17 Sh.zero)) ∧ Below w.heap.size w w' ∧ w'.heap.size = w.heap.size + 3 := by
  obtain ⟨vs, rfl, hI⟩ := he
  have c0 : w.cell? ⟨eB, 0, none⟩ = some (.int .i64 (e.now : Int)) := (hI.blk.cell 0).trans (epCells_now _ _ _)
  have k1 := hI.n1
  have hne : ((e.now : Int) == 0) = false := by simp; omega
  generalize e.now = en at *
  clear hI
  go_enter Try.func8, Try.ntmps8
  go_wp2_with fail
  refine (now_any c0 k1).mono ?_
  rintro r w1 ⟨rfl, rfl⟩
  go_wp2_with fail
  refine (newC _ n n1 n2).mono ?_
  rintro r w2 ⟨rfl, hA, hb2, hs2⟩
  have HA : Hid _ := hA
  have HB2 : Hid _ := hb2
  clear hA hb2
  go_wp2_with fail
  refine (newL _ m m1 m2).mono ?_
  rintro r w3 ⟨rfl, hL, hb3, hs3⟩
  rw [hs2] at hL hs3
  simp only [hs2]
  have HL : Hid _ := hL
  have HB3 : Hid _ := hb3
  clear hL hb3
  go_wp2
  go_ret2
  have hz3 : w3.heap.size = w1.heap.size + 2 := by omega
  have h1 := HB2.out.size
  have h2 := HB3.out.size
  have t3 : Tn [] w2 w3 := Tn.of_below HB3.out []
  refine ⟨rfl, Arn.tn (Arn.tn HA.out t3 (by simp)) ((Tn.refl [] _).alloc _) (by simp), Arn.tn HL.out ((Tn.refl [] _).alloc _) (by simp), ?_, (HB2.out.trans (HB3.out.mono h1)).alloc (by omega) _, by simp [hz3]⟩
  rw [← hz3]
  exact Bk.new _ _ _

end Go.Proofs.Ytbdcdiihaecheaa
