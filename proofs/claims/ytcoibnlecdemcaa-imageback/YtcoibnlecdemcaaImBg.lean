/- The law's live run. -/
import Derived.Test.YtcoibnlecdemcaaImB
namespace Go.Proofs.Ytcoibnlecdemcaa
open Go.RowKit
set_option linter.unusedVariables false
set_option maxRecDepth 100000

abbrev bgA : List Vs := [⟨7, ⟨#[121]⟩, false⟩, ⟨5, ⟨#[120]⟩, false⟩]
abbrev bgB : List Vs := [⟨6, ⟨#[]⟩, true⟩]
abbrev bgM1 : Im := ⟨6, ⟨#[]⟩, []⟩
abbrev bgM2 : Im := ⟨6, ⟨#[97]⟩, [⟨⟨#[97]⟩, ⟨#[120]⟩, 5⟩]⟩
abbrev bgM3 : Im := ⟨6, ⟨#[98]⟩, [⟨⟨#[97]⟩, ⟨#[120]⟩, 5⟩]⟩
theorem bg_ca : Vr.check bgA = 0 := by simp [Vr.check, Vr.chk, Vr.fits, Vr.emp, ByteArray.toList_eq, ByteArray.size]
theorem bg_cb : Vr.check bgB = 0 := by simp [Vr.check, Vr.chk, Vr.fits, Vr.emp, ByteArray.toList_eq, ByteArray.size]
theorem bg_ma : bgM1.mayE ⟨#[97]⟩ bgA = 0 := by
  unfold Im.mayE
  rw [if_pos (by simp [Rk.Rc.keyE, ByteArray.size]), if_neg (by simp [Rk.Rc.le, ByteArray.toList_eq, Op.bytesLess]), bg_ca]
theorem bg_mb : bgM2.mayE ⟨#[98]⟩ bgB = 0 := by
  unfold Im.mayE
  rw [if_pos (by simp [Rk.Rc.keyE, ByteArray.size]), if_neg (by simp [Rk.Rc.le, ByteArray.toList_eq, Op.bytesLess]), bg_cb]
theorem bg_a : bgM1.addE ⟨#[97]⟩ bgA = 0 ∧ bgM1.added ⟨#[97]⟩ bgA = bgM2 := by
  have hs : bgM1.sees bgA = some ⟨5, ⟨#[120]⟩, false⟩ := by simp [Im.sees, Vr.at?]
  have he : bgM1.addE ⟨#[97]⟩ bgA = 0 := by unfold Im.addE; rw [if_pos bg_ma, if_neg (by simp)]
  exact ⟨he, by unfold Im.added; rw [if_pos he, hs]; rfl⟩
theorem bg_b : bgM2.addE ⟨#[98]⟩ bgB = 0 ∧ bgM2.added ⟨#[98]⟩ bgB = bgM3 := by
  have hs : bgM2.sees bgB = none := by simp [Im.sees, Vr.at?]
  have he : bgM2.addE ⟨#[98]⟩ bgB = 0 := by unfold Im.addE; rw [if_pos bg_mb, if_neg (by simp)]
  exact ⟨he, by unfold Im.added; rw [if_pos he, hs]⟩
theorem bg_from : bgM3.from = ⟨#[98, 0]⟩ := by
  unfold Im.from
  rw [if_neg (by simp [ByteArray.size])]
  rfl

theorem vrs_of_bk {w : World} {b : Nat} {l : List Vs} (h : Bk w b 83 (flat Vs.cells l).toArray) : Vrs w (some ⟨b, 0, none⟩) l := fun _ => ⟨b, 0, rfl, fun i x hi j v hv => by
  have := flat_at vknd l i x hi j v hv
  rw [Nat.zero_add, h.cell]
  simpa using this⟩

set_option maxHeartbeats 1000000 in
theorem begun_any (w : World) : Calls Try.prog 11 #[] w fun e w' => e = .returned (.bool true) ∧ Below w.heap.size w w' := by
  have hnew := new_any 6 w (by omega) (by omega)
  go_enter Try.func11, Try.ntmps11
  go_wp2_with fail
  refine hnew.mono ?_
  rintro e w1 ⟨rfl, h1, b1⟩
  have HB1 : Hid (Below w.heap.size w w1) := b1
  obtain ⟨w2, hw2⟩ : ∃ w2, w1.alloc (.cells #[.int .i64 7, .string ⟨#[121]⟩, .bool false, .int .i64 5, .string ⟨#[120]⟩, .bool false] 83) = w2 := ⟨_, rfl⟩
  have b2 : Below w1.heap.size w1 w2 := by rw [← hw2]; exact (Below.refl _ _).alloc (Nat.le_refl _) _
  have k2 : Bk w2 w1.heap.size 83 #[.int .i64 7, .string ⟨#[121]⟩, .bool false, .int .i64 5, .string ⟨#[120]⟩, .bool false] := by rw [← hw2]; exact Bk.new _ _ _
  have HB2 : Hid (Below w.heap.size w w2) := b1.trans (b2.mono b1.size)
  have H2 : IsIm w2 w.heap.size w.heap.size (.slice none 0 0) bgM1 := h1.below b2
  have hadd := add_any H2 HB2.out.size (by simp) ⟨#[97]⟩ (some ⟨w1.heap.size, 0, none⟩) 2 2 bgA rfl (vrs_of_bk k2) (fun i x hx => by
    rcases i with _ | _ | i
    · simp at hx; subst hx; simp [ByteArray.size]
    · simp at hx; subst hx; simp [ByteArray.size]
    · simp at hx) (by omega)
  rw [bg_a.1, bg_a.2] at hadd
  clear b1 h1 b2 k2 H2 hnew
  go_wp2_with fail
  refine hadd.mono ?_
  rintro e w3 ⟨rfl, v3, h3⟩
  have HB3 : Hid (Below w.heap.size w w3) := HB2.out.trans (h3.tn.below HB2.out.size (by simp [Value.ownBlock]))
  obtain ⟨w4, hw4⟩ : ∃ w4, w3.alloc (.cells #[.int .i64 6, .string ⟨#[]⟩, .bool true] 83) = w4 := ⟨_, rfl⟩
  have b4 : Below w3.heap.size w3 w4 := by rw [← hw4]; exact (Below.refl _ _).alloc (Nat.le_refl _) _
  have k4 : Bk w4 w3.heap.size 83 #[.int .i64 6, .string ⟨#[]⟩, .bool true] := by rw [← hw4]; exact Bk.new _ _ _
  have HB4 : Hid (Below w.heap.size w w4) := HB3.out.trans (b4.mono HB3.out.size)
  have H4 : IsIm w4 w.heap.size w.heap.size v3 bgM2 := h3.is.below b4
  have hadd2 := add_any H4 HB4.out.size (by simp) ⟨#[98]⟩ (some ⟨w3.heap.size, 0, none⟩) 1 1 bgB rfl (vrs_of_bk k4) (fun i x hx => by
    rcases i with _ | i
    · simp at hx; subst hx; simp [ByteArray.size]
    · simp at hx) (by omega)
  rw [bg_b.1, bg_b.2] at hadd2
  have HV3 : Hid (∀ g, v3.ownBlock = some g → w.heap.size ≤ g) := fun g hg => (h3.is.row.blk hg).1
  clear h3 b4 k4 H4 hadd
  go_wp2_with fail
  refine hadd2.mono ?_
  rintro e w5 ⟨rfl, v5, h5⟩
  have HB5 : Hid (Below w.heap.size w w5) := HB4.out.trans (h5.tn.below HB4.out.size (by
    intro x hx
    rcases List.mem_cons.1 hx with rfl | hx
    · exact Nat.le_refl _
    · exact HV3.out x (opt_toList.1 hx)))
  have hlen := imlen_any h5.is
  have hfrom := imfrom_any h5.is (by simp [ByteArray.size])
  have hts := ts_any h5.is
  rw [bg_from] at hfrom
  simp only [List.length_cons, List.length_nil] at hlen
  clear h5 hadd2
  go_wp2_with (first
    | (go_at_call 16; refine hlen.mono ?_; rintro e w6 ⟨rfl, rfl⟩)
    | (go_at_call 14; refine hfrom.mono ?_; rintro e w6 ⟨rfl, rfl⟩)
    | (go_at_call 20; refine hts.mono ?_; rintro e w6 ⟨rfl, rfl⟩))
  all_goals go_ret
  all_goals exact ⟨by simp, HB5.out⟩
end Go.Proofs.Ytcoibnlecdemcaa
