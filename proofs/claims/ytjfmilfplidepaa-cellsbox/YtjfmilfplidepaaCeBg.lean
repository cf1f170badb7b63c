/- Is a cell swapped, and a box put to and taken from? -/
import Derived.Test.YtjfmilfplidepaaCeCI
import Derived.Test.YtjfmilfplidepaaCeBmS
namespace Go.Proofs.Ytjfmilfplidepaa
open Go.RowKit Go.Conc
set_option linter.unusedVariables false
set_option maxRecDepth 100000

theorem below_drewC {B : Nat} {a w : World} (h : Below B a w) (k : Nat) : Below B a (w.drewN k) := below_drewN h k

set_option maxHeartbeats 1000000 in
theorem begun_any (w : World) : Calls Try.prog 9 #[] w fun e w' => e = .returned (.bool true) ∧ Below w.heap.size w w' := by
  go_enter Try.func9, Try.ntmps9
  go_wp2_with fail
  refine (newCell_anyI 1 w).mono ?_
  rintro e w1 ⟨rfl, hw1⟩
  have H1 : Hid (CeI w1 w.heap.size 1 0 ∧ Below w.heap.size w w1) := by
    rw [hw1]
    exact ⟨Bk.new w _ _, (Below.refl _ w).alloc (Nat.le_refl _) _⟩
  clear hw1
  go_wp2_with fail
  refine (newBox_anyS 1 (by decide) (by decide) w1).mono ?_
  rintro e w2 ⟨rfl, hb2, t2⟩
  have HC2 : Hid (CeI w2 w.heap.size 1 0 ∧ Below w.heap.size w w2) := ⟨H1.out.1.below t2 H1.out.1.lt, H1.out.2.trans (t2.mono H1.out.2.size)⟩
  have HB2 : Hid (BxS w2 (w1.heap.size + 1) w1.heap.size 1 [] [] ∧ w.heap.size < w1.heap.size) := ⟨hb2, H1.out.1.lt⟩
  clear hb2 t2 H1
  go_wp2_with fail
  refine (cswap_hitI HC2.out.1 2).mono ?_
  rintro e w3 ⟨rfl, hc3, t3⟩
  have HC3 : Hid (CeI w3 w.heap.size 2 1 ∧ Below w.heap.size w w3) := ⟨by simpa [wrap64] using hc3, HC2.out.2.trans (t3.below HC2.out.2.size (by simp))⟩
  have HB3 : Hid (BxS w3 (w1.heap.size + 1) w1.heap.size 1 [] []) := HB2.out.1.tn t3 (by have := HB2.out.2; simp; omega) (by have := HB2.out.2; simp; omega) (by simp)
  clear hc3 t3 HC2
  go_wp2_with fail
  refine (put_anyS HB3.out ⟨#[120]⟩ (by decide)).mono ?_
  rintro e w4 ⟨rfl, ⟨b, hb4⟩, t4⟩
  have HC4 : Hid (CeI w4 w.heap.size 2 1 ∧ Below w.heap.size w w4) := ⟨HC3.out.1.tn t4 (by have := HB2.out.2; simp; omega), HC3.out.2.trans (t4.below HC3.out.2.size (by have := HB2.out.2; simp; omega))⟩
  have HB4 : Hid (BxS w4 (w1.heap.size + 1) w1.heap.size 1 [b] [⟨#[120]⟩]) := hb4
  clear hb4 t4 HC3 HB3
  go_wp2_with fail
  refine (cload_anyI HC4.out.1).mono ?_
  rintro e w5 ⟨rfl, k, rfl⟩
  have HB5 : Hid (BxS (w4.drewN k) (w1.heap.size + 1) w1.heap.size 1 [b] [⟨#[120]⟩]) := HB4.out.below (below_drewC (Below.refl _ _) k)
  have HW5 : Hid (Below w.heap.size w (w4.drewN k)) := below_drewC HC4.out.2 k
  clear HB4 HC4
  go_wp2_with fail
  refine (take_anyS HB5.out).mono ?_
  rintro e w6 ⟨rfl, hb6, t6⟩
  have HE : Hid (Below w.heap.size w w6) := HW5.out.trans (t6.below HW5.out.size (by have := HB2.out.2; simp; omega))
  clear hb6 t6
  go_wp2
  go_ret
  exact ⟨rfl, HE.out⟩
end Go.Proofs.Ytjfmilfplidepaa
