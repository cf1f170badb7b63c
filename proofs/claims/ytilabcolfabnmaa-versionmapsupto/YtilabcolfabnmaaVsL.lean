/- live: the answers that the document fixes. -/
import Derived.Test.YtilabcolfabnmaaVsP
import Derived.Test.YtilabcolfabnmaaPrP
namespace Go.Proofs.Ytilabcolfabnmaa
open Go.RowKit Go.Sort
set_option linter.unusedVariables false
set_option maxRecDepth 100000

def Vr.ex : List Vs := [⟨9, ⟨#[98]⟩, false⟩, ⟨5, ⟨#[]⟩, true⟩, ⟨2, ⟨#[97]⟩, false⟩]
theorem ex_vals : Vr.val? (Vr.at? Vr.ex 4) = some ⟨#[97]⟩ ∧ Vr.val? (Vr.at? Vr.ex 5) = none ∧ (Vr.prune 6 Vr.ex).kept.length = 1 ∧ (Vr.prune 6 Vr.ex).rest.length = 2 ∧ Vr.check Vr.ex = 0 := by
  refine ⟨rfl, rfl, rfl, rfl, ?_⟩
  simp [Vr.check, Vr.ex, Vr.chk, Vr.fits, Vr.emp, ByteArray.toList_eq]
  decide

theorem flat_ex : (flat Vs.cells Vr.ex).toArray = #[.int .i64 9, .string ⟨#[98]⟩, .bool false, .int .i64 5, .string ⟨#[]⟩, .bool true, .int .i64 2, .string ⟨#[97]⟩, .bool false] := rfl

set_option maxHeartbeats 4000000 in
theorem live_any (w : World) : Calls Try.prog 9 #[] w fun e w' => e = .returned (.bool true) ∧ Below w.heap.size w w' := by
  obtain ⟨w1, hw1⟩ : ∃ w1, w.alloc (.cells #[.int .i64 9, .string ⟨#[98]⟩, .bool false, .int .i64 5, .string ⟨#[]⟩, .bool true, .int .i64 2, .string ⟨#[97]⟩, .bool false] 48) = w1 := ⟨_, rfl⟩
  have hb1 : Below w.heap.size w w1 := by rw [← hw1]; exact (Below.refl _ _).alloc (Nat.le_refl _) _
  have hk1 : Bk w1 w.heap.size 48 #[.int .i64 9, .string ⟨#[98]⟩, .bool false, .int .i64 5, .string ⟨#[]⟩, .bool true, .int .i64 2, .string ⟨#[97]⟩, .bool false] := by rw [← hw1]; exact Bk.new _ _ _
  have HX : Hid (Vrs w1 (some ⟨w.heap.size, 0, none⟩) Vr.ex) := fun _ => ⟨w.heap.size, 0, rfl, fun i x hi j v hv => by
    rw [Nat.zero_add, hk1.cell]
    have := flat_at vknd Vr.ex i x hi j v hv
    rw [← flat_ex]
    simpa using this⟩
  have HB1 : Hid (Below w.heap.size w w1) := hb1
  obtain ⟨e1, e2, e3, e4, e5⟩ := ex_vals
  have HE : Hid ((Vr.prune 6 Vr.ex).kept.length = 1 ∧ (Vr.prune 6 Vr.ex).rest.length = 2) := ⟨e3, e4⟩
  have HO : Hid (Vr.Okl Vr.ex) := fun i x hx => by
    have hm := List.mem_of_getElem? hx
    simp [Vr.ex] at hm
    rcases hm with rfl | rfl | rfl <;> decide
  clear hb1 hk1 e3 e4
  go_enter Try.func9, Try.ntmps9
  go_wp2_with fail
  refine (value_any (some ⟨w.heap.size, 0, none⟩) 3 3 Vr.ex 4 _ rfl HX.out (by decide)).mono ?_
  rintro e w2 ⟨rfl, hb2⟩
  rw [e1]
  have HX2 : Hid (Vrs w2 (some ⟨w.heap.size, 0, none⟩) Vr.ex) := Els.below HX.out hb2 (Nat.le_refl _)
  have HB2 : Hid (Below w.heap.size w w2) := HB1.out.trans (hb2.mono HB1.out.size)
  clear hb2 e1 HX HB1 hw1
  simp only [Vr.valV, Option.getD, Option.isSome]
  go_wp2_with fail
  refine (value_any (some ⟨w.heap.size, 0, none⟩) 3 3 Vr.ex 5 _ rfl HX2.out (by decide)).mono ?_
  rintro e w3 ⟨rfl, hb3⟩
  rw [e2]
  have HX3 : Hid (Vrs w3 (some ⟨w.heap.size, 0, none⟩) Vr.ex) := Els.below HX2.out hb3 (Nat.le_refl _)
  have HB3 : Hid (Below w.heap.size w w3) := HB2.out.trans (hb3.mono HB2.out.size)
  clear hb3 e2 HX2 HB2
  simp only [Vr.valV, Option.getD, Option.isSome]
  go_wp2_with fail
  refine (prune_any (some ⟨w.heap.size, 0, none⟩) 3 3 Vr.ex 6 _ rfl HX3.out (by decide)).mono ?_
  rintro e w4 ⟨v1, v2, rfl, ht⟩
  have HX4 : Hid (Vrs w4 (some ⟨w.heap.size, 0, none⟩) Vr.ex) := Els.below HX3.out ht.below (Nat.le_refl _)
  have HB4 : Hid (Below w.heap.size w w4) := HB3.out.trans (ht.below.mono HB3.out.size)
  obtain ⟨p1, c1, rfl, -⟩ := ht.o1.els vknd
  obtain ⟨p2, c2, rfl, -⟩ := ht.o2.els vknd
  rw [HE.out.1, HE.out.2]
  clear ht HX3 HB3
  go_wp2_with fail
  refine (check_any (some ⟨w.heap.size, 0, none⟩) 3 3 Vr.ex _ rfl HX4.out HO.out (by decide)).mono ?_
  rintro e w5 ⟨rfl, hb5⟩
  rw [e5]
  have HB5 : Hid (Below w.heap.size w w5) := HB4.out.trans (hb5.mono HB4.out.size)
  clear hb5 e5 HX4 HB4
  go_wp2_with fail
  refine (map_any none 0 0 [] _ rfl (Els.nil _ _) (fun i x h => by simp at h) (by decide)).mono ?_
  rintro e w6 ⟨B, v, m, w7, rfl, -, -, ha, rfl, rfl⟩
  have HB7 : Hid (Below w.heap.size w (w7.alloc (.cells #[v] 22))) := (HB5.out.trans (ha.below.mono HB5.out.size)).alloc (HB5.out.trans (ha.below.mono HB5.out.size)).size _
  have hne : ∀ b w, (binOp BinOp.neq 31 (.func (.func 28) #[] #[.pointer (some ⟨b, 0, none⟩)]) .nilFunc).run Try.prog w = .ok (.bool true) w := fun b w => by kernel_rfl
  clear ha HB5
  go_wp2
  go_ret
  exact ⟨rfl, HB7.out⟩
end Go.Proofs.Ytilabcolfabnmaa
