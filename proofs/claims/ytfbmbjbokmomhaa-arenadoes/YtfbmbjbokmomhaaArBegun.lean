/- A slot is given, and given anew. -/
import Derived.Test.YtfbmbjbokmomhaaArA7S
namespace Go.Proofs.Ytfbmbjbokmomhaa
open Go.RowKit
set_option linter.unusedVariables false
set_option maxRecDepth 100000

theorem good1 (x : Value) : (⟨1, [⟨1, true, x⟩], 0⟩ : Ar).Good 0 1 := ⟨by omega, by simp, rfl, rfl⟩
theorem good2 (x : Value) : (⟨1, [⟨2, true, x⟩], 0⟩ : Ar).Good 0 2 := ⟨by omega, by simp, rfl, rfl⟩

set_option maxHeartbeats 2000000 in
/-- cressetlaw04.begun. -/
theorem begun_any (w : World) : Calls Try.prog 9 #[] w fun e w' => e = .returned (.bool true) ∧ Below w.heap.size w w' := by
  go_enter Try.func9, Try.ntmps9
  go_wp2_with fail
  refine (newSS w 1 (by omega) (by omega)).mono ?_
  rintro e w1 ⟨rfl, h1, hb1, hs1⟩
  have H1 : Hid (AsS w.heap.size w1 w.heap.size (Ar.fresh 1) []) := h1
  have HB1 : Hid (Below w.heap.size w w1) := hb1
  clear h1 hb1 hs1
  go_wp2_with fail
  refine (putSS H1.out ⟨#[120]⟩ (by decide) (by decide) (by decide)).mono ?_
  rintro e w2 ⟨rfl, h2, hb2, -⟩
  have e2 : (Ar.fresh 1).put (.string ⟨#[120]⟩) = ⟨1, [⟨1, true, .string ⟨#[120]⟩⟩], 0⟩ := rfl
  rw [e2] at h2
  rw [show low (Ar.fresh 1).us = 0 from rfl, show (Ar.fresh 1).gen = 1 from rfl]
  have HB2 : Hid (Below w.heap.size w w2) := HB1.out.trans (hb2.mono (Nat.le_refl _))
  have ta : Tn [] w2 (w2.alloc (.cells #[.int .i64 0, .int .i64 1] 36)) := (Tn.refl _ _).alloc _
  have H2 : Hid (AsS w.heap.size (w2.alloc (.cells #[.int .i64 0, .int .i64 1] 36)) w.heap.size ⟨1, [⟨1, true, .string ⟨#[120]⟩⟩], 0⟩ []) := h2.quiet ta
  have HB3 : Hid (Below w.heap.size w (w2.alloc (.cells #[.int .i64 0, .int .i64 1] 36))) := HB2.out.alloc HB2.out.size _
  clear e2 h2 hb2 ta HB1 H1 HB2
  go_wp2_with fail
  refine (freeSS H2.out 0 1 (good1 _)).mono ?_
  rintro e w3 ⟨rfl, h3, hb3, -⟩
  have H3 : Hid (AsS w.heap.size w3 w.heap.size ⟨1, [⟨1, false, .string ⟨#[]⟩⟩], 0⟩ []) := h3
  have HB4 : Hid (Below w.heap.size w w3) := HB3.out.trans (hb3.mono (Nat.le_refl _))
  clear h3 hb3 H2 HB3
  go_wp2_with fail
  refine (putSS H3.out ⟨#[121]⟩ (by decide) (by decide) (by decide)).mono ?_
  rintro e w4 ⟨rfl, h4, hb4, -⟩
  have e4 : (⟨1, [⟨1, false, .string ⟨#[]⟩⟩], 0⟩ : Ar).put (.string ⟨#[121]⟩) = ⟨1, [⟨2, true, .string ⟨#[121]⟩⟩], 0⟩ := rfl
  rw [e4] at h4
  rw [show low (⟨1, [⟨1, false, .string ⟨#[]⟩⟩], 0⟩ : Ar).us = 0 from rfl, show (⟨1, [⟨1, false, .string ⟨#[]⟩⟩], 0⟩ : Ar).gen = 2 from rfl]
  have HB5 : Hid (Below w.heap.size w w4) := HB4.out.trans (hb4.mono (Nat.le_refl _))
  have ta : Tn [] w4 (w4.alloc (.cells #[.int .i64 0, .int .i64 2] 36)) := (Tn.refl _ _).alloc _
  have H5 : Hid (AsS w.heap.size (w4.alloc (.cells #[.int .i64 0, .int .i64 2] 36)) w.heap.size ⟨1, [⟨2, true, .string ⟨#[121]⟩⟩], 0⟩ []) := h4.quiet ta
  have HB6 : Hid (Below w.heap.size w (w4.alloc (.cells #[.int .i64 0, .int .i64 2] 36))) := HB5.out.alloc HB5.out.size _
  have HK6 : Hid (Bk (w4.alloc (.cells #[.int .i64 0, .int .i64 2] 36)) w4.heap.size 36 #[.int .i64 0, .int .i64 2]) := Bk.new _ _ _
  clear e4 h4 hb4 ta HB4 H3 HB5
  go_wp2_with fail
  refine (getSS H5.out 0 2 (good2 _)).mono ?_
  rintro e w5 ⟨rfl, ht5⟩
  have HB7 : Hid (Below w.heap.size w w5) := HB6.out.trans (ht5.below (Nat.le_refl _) (by simp) |>.mono HB6.out.size)
  have k0 : w5.cell? ⟨w4.heap.size, 0, none⟩ = some (.int .i64 0) := (HK6.out.tn ht5 (by simp)).cell 0
  have k1 : w5.cell? ⟨w4.heap.size, 1, none⟩ = some (.int .i64 2) := (HK6.out.tn ht5 (by simp)).cell 1
  rw [show (slAt [(⟨2, true, .string ⟨#[121]⟩⟩ : Sl)] (0 : Int).toNat).val = .string ⟨#[121]⟩ from rfl]
  clear ht5 HK6 HB6 H5
  go_wp2
  go_ret
  exact ⟨rfl, HB7.out⟩
end Go.Proofs.Ytfbmbjbokmomhaa
