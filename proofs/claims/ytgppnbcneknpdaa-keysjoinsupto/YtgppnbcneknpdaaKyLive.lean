/- Answers that the document fixes. -/
import Derived.Test.YtgppnbcneknpdaaKyP
namespace Go.Proofs.Ytgppnbcneknpdaa
open Go.RowKit
set_option linter.unusedVariables false
set_option maxRecDepth 100000

theorem Ky.list_mk (a : Array UInt8) : (ByteArray.mk a).toList = a.toList := ByteArray.toList_eq _

theorem live_lt : Ky.lt ⟨#[97, 98, 99]⟩ ⟨#[98]⟩ = true := by unfold Ky.lt; rw [Ky.list_mk, Ky.list_mk]; rfl
theorem live_sep : Ky.sep ⟨#[97, 98, 99]⟩ ⟨#[98]⟩ = ⟨#[98]⟩ := by unfold Ky.sep; rw [Ky.list_mk, Ky.list_mk]; rfl
theorem live_next : Ky.next ⟨#[97]⟩ = ⟨#[97, 0]⟩ := rfl
theorem live_in : Ky.inn ⟨⟨#[97]⟩, ⟨#[]⟩⟩ ⟨#[98]⟩ = true := by unfold Ky.inn Ky.below Ky.nil Ky.lt; simp only [Ky.list_mk]; rfl
theorem live_pre : Ky.pre ⟨#[97]⟩ = ⟨⟨#[97]⟩, ⟨#[98]⟩⟩ := by unfold Ky.pre; rw [Ky.list_mk]; rfl

set_option maxHeartbeats 800000 in
theorem live_any (w : World) : Calls Try.prog 11 #[] w fun r w' => r = .returned (.bool true) ∧ Below w.heap.size w w' := by
  go_enter Try.func11, Try.ntmps11
  go_wp2_with fail
  refine (sep_any _ _ _ (by decide) (by decide)).mono ?_
  rintro e w1 ⟨rfl, hb1⟩
  rw [live_lt, if_pos rfl, live_sep]
  have HB1 : Hid (Below w.heap.size w w1) := hb1
  clear hb1
  go_wp2_with fail
  refine (next_any _ _ (by decide)).mono ?_
  rintro e w2 ⟨rfl, rfl⟩
  rw [live_next]
  go_wp2_with fail
  refine (in_any ⟨⟨#[97]⟩, ⟨#[]⟩⟩ _ _).mono ?_
  rintro e w3 ⟨rfl, hb3⟩
  rw [live_in]
  have HB3 : Hid (Below w.heap.size w w3) := HB1.out.trans (hb3.mono HB1.out.size)
  clear hb3
  go_wp2_with fail
  refine (prefix_any _ _ (by decide)).mono ?_
  rintro e w4 ⟨rfl, hb4⟩
  rw [live_pre]
  have HB4 : Hid (Below w.heap.size w w4) := HB3.out.trans (hb4.mono HB3.out.size)
  clear hb4
  go_wp2
  go_ret
  exact ⟨rfl, HB4.out⟩
end Go.Proofs.Ytgppnbcneknpdaa
