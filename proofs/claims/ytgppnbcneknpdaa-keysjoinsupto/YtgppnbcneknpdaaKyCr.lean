/- In, Empty, Next, One, Meet, Overlap, Covers: the document's. -/
import Derived.Test.YtgppnbcneknpdaaKyC
import Derived.Test.YtgppnbcneknpdaaKyOrd
import Derived.Deep.RegionHeld3
import Derived.Deep.RegionLaw
namespace Go.Proofs.Ytgppnbcneknpdaa
open Go.RowKit
set_option linter.unusedVariables false
set_option maxRecDepth 100000


theorem rin_any (r : Rg) (k : ByteArray) (w : World) : Calls Try.prog 24 #[r.val, .string k] w fun e w' => e = .returned (.bool (Ky.inn r k)) ∧ Below w.heap.size w w' := by
  have HI : Hid (Ky.inn r k = (!Op.bytesLess k.toList r.lo.toList && (r.hi.toList.isEmpty || Op.bytesLess k.toList r.hi.toList))) := rfl
  cases h : Op.bytesLess k.toList r.lo.toList with
  | true =>
    rw [h] at HI
    go_enter Try.func24, Try.ntmps24
    go_wp2
    go_ret
    exact ⟨by rw [HI.out]; rfl, (Below.refl _ _).alloc (Nat.le_refl _) _⟩
  | false =>
    rw [h] at HI
    cases h2 : r.hi.toList.isEmpty with
    | true =>
      rw [h2] at HI
      go_enter Try.func24, Try.ntmps24
      go_wp2
      go_ret
      exact ⟨by rw [HI.out]; rfl, (Below.refl _ _).alloc (Nat.le_refl _) _⟩
    | false =>
      rw [h2] at HI
      go_enter Try.func24, Try.ntmps24
      go_wp2
      all_goals go_ret
      all_goals exact ⟨by rw [HI.out]; simp, (Below.refl _ _).alloc (Nat.le_refl _) _⟩

theorem rempty_any (r : Rg) (w : World) : Calls Try.prog 25 #[r.val] w fun e w' => e = .returned (.bool (Ky.emp r)) ∧ Below w.heap.size w w' := by
  have HI : Hid (Ky.emp r = !(r.hi.toList.isEmpty || Op.bytesLess r.lo.toList r.hi.toList)) := rfl
  have hle := Ky.leq_iff r.hi.toList r.lo.toList
  cases h2 : r.hi.toList.isEmpty with
  | true =>
    rw [h2] at HI
    clear hle
    go_enter Try.func25, Try.ntmps25
    go_wp2
    go_ret
    exact ⟨by rw [HI.out]; rfl, (Below.refl _ _).alloc (Nat.le_refl _) _⟩
  | false =>
    rw [h2] at HI
    go_enter Try.func25, Try.ntmps25
    go_wp2
    all_goals go_ret
    all_goals exact ⟨by rw [HI.out]; simp, (Below.refl _ _).alloc (Nat.le_refl _) _⟩

theorem rnext_any (k : ByteArray) (w : World) (hk : k.size ≤ 281474976710656) : Calls Try.prog 28 #[.string k] w fun e w' => e = .returned (.string (Ky.next k)) ∧ w' = w := by
  have hk1 : ¬ 9223372036854775807 < k.size + 1 := by omega
  go_enter Try.func28, Try.ntmps28
  go_wp2
  go_ret
  exact ⟨rfl, rfl⟩

theorem rone_any (k : ByteArray) (w : World) (hk : k.size ≤ 281474976710656) : Calls Try.prog 30 #[.string k] w fun e w' => e = .returned (Ky.one k).val ∧ Below w.heap.size w w' := by
  go_enter Try.func30, Try.ntmps30
  go_wp2_with fail
  refine (rnext_any k _ hk).mono ?_
  rintro e w1 ⟨rfl, rfl⟩
  go_wp2
  refine bodyPost_ret (results_rg rfl rfl (Bk.new _ _ _)) rfl ?_
  exact ⟨rfl, (Below.refl _ _).alloc (Nat.le_refl _) _⟩

theorem least_any (a b : ByteArray) (w : World) : Calls Try.prog 41 #[.string a, .string b] w fun e w' => e = .returned (.string (Ky.least a b)) ∧ w' = w := by
  have HI : Hid (Ky.least a b = if (a.toList.isEmpty || (!b.toList.isEmpty && Op.bytesLess b.toList a.toList)) = true then b else a) := rfl
  cases h1 : a.toList.isEmpty with
  | true =>
    rw [h1, if_pos (by simp)] at HI
    go_enter Try.func41, Try.ntmps41
    go_wp2
    go_ret
    exact ⟨by rw [HI.out]; rfl, rfl⟩
  | false =>
    rw [h1] at HI
    cases h2 : b.toList.isEmpty with
    | true =>
      rw [h2, if_neg (by simp)] at HI
      go_enter Try.func41, Try.ntmps41
      go_wp2
      go_ret
      exact ⟨by rw [HI.out]; rfl, rfl⟩
    | false =>
      cases h3 : Op.bytesLess b.toList a.toList with
      | true =>
        rw [h2, h3, if_pos (by rfl)] at HI
        go_enter Try.func41, Try.ntmps41
        go_wp2
        go_ret
        exact ⟨by rw [HI.out]; rfl, rfl⟩
      | false =>
        rw [h2, h3, if_neg (by simp)] at HI
        go_enter Try.func41, Try.ntmps41
        go_wp2
        go_ret
        exact ⟨by rw [HI.out]; rfl, rfl⟩

set_option maxHeartbeats 800000 in
theorem rmeet_any (p : Option Addr) (len cap : Nat) (l : List Rg) (w : World) (hlen : l.length = len) (hx : Rgs w p l) (hl : len ≤ 4611686018427387904) :
    Calls Try.prog 17 #[.slice p len cap] w fun e w' => e = .returned (Ky.meet l).val ∧ Below w.heap.size w w' := by
  obtain ⟨w1, hw1⟩ : ∃ w1, w1 = ((w.alloc (.cells #[.string ⟨#[]⟩, .string ⟨#[]⟩] 24)).alloc (.cells #[.string ⟨#[]⟩, .string ⟨#[]⟩] 24)) := ⟨_, rfl⟩
  have HB1 : Hid (Below w.heap.size w w1) := by rw [hw1]; exact ((Below.refl _ _).alloc (Nat.le_refl _) _).alloc (by simp) _
  have HK0 : Hid (Bk w1 w.heap.size 24 #[.string ⟨#[]⟩, .string ⟨#[]⟩]) := by rw [hw1]; exact (Bk.new _ _ _).alloc _
  have HK1 : Hid (Bk w1 (w.heap.size + 1) 24 #[.string ⟨#[]⟩, .string ⟨#[]⟩]) := by
    rw [hw1]
    have := Bk.new (w.alloc (.cells #[.string ⟨#[]⟩, .string ⟨#[]⟩] 24)) 24 #[.string ⟨#[]⟩, .string ⟨#[]⟩]
    simp at this
    exact this
  have HX : Hid (Rgs w p l) := hx
  have HL : Hid (l.length = len) := hlen
  clear hx hlen
  go_enter Try.func17, Try.ntmps17
  go_wp2_with fail
  rw [← hw1]
  clear hw1
  go_loopw [4] (fun i wr => ∃ (k : Nat) (m : Rg), k ≤ len ∧ i = .int .i64 k ∧ Hid (Below w.heap.size w wr) ∧ Hid (Bk wr w.heap.size 24 #[.string ⟨#[]⟩, .string ⟨#[]⟩]) ∧ Hid (Bk wr (w.heap.size + 1) 24 #[.string m.lo, .string m.hi]) ∧ Hid ((l.take k).foldl Ky.meet2 Ky.all = m)) (fun i _ => len - (intOf i).toNat)
  case atStart => exact ⟨0, Ky.all, Nat.zero_le _, rfl, HB1, HK0, HK1, rfl⟩
  case round =>
    obtain ⟨k, ⟨lo, hi⟩, hk, rfl, HW, HR, HM, HQ⟩ := hrel
    by_cases hlt : k < len
    · have hli : (k : Int) < (len : Int) := by omega
      obtain ⟨b, o, g, rfl, hg, hblt, d0, d1⟩ := HX.out.at (j := k) (by have := HL.out; omega)
      have HCC : Hid (∀ w', Below w.heap.size w w' → w'.cell? ⟨b, o + k * 2, none⟩ = some (.string g.lo) ∧ w'.cell? ⟨b, o + k * 2 + 1, none⟩ = some (.string g.hi)) := by
        intro w' hb
        exact ⟨(hb.cell (p := ⟨b, o + k * 2, none⟩) hblt).trans d0, (hb.cell (p := ⟨b, o + k * 2 + 1, none⟩) hblt).trans d1⟩
      clear d0 d1
      have HG : Hid ((l.take (k + 1)).foldl Ky.meet2 Ky.all = Ky.meet2 ⟨lo, hi⟩ g) := by unfold Hid; rw [Ky.foldl_at _ _ hg, HQ.out]
      obtain ⟨c0, c1⟩ := HCC.out _ HW.out
      have a0 := HM.out.cell 0
      have a1 := HM.out.cell 1
      have a2 := HM.out.frozen 0
      have a3 := HM.out.frozen 1
      simp at a0 a1
      have HLE : Hid (Ky.meet2 ⟨lo, hi⟩ g = ⟨if Op.bytesLess lo.toList g.lo.toList then g.lo else lo, Ky.least hi g.hi⟩) := by
        unfold Hid Ky.meet2
        rw [Ky.least_eq]
        rfl
      cases hc : Op.bytesLess lo.toList g.lo.toList with
      | true =>
        have hg0 : (!Op.bytesLess g.lo.toList lo.toList && !g.lo.toList == lo.toList) = true := (Ky.gtr_iff g.lo.toList lo.toList).trans hc
        have hg1 := hg0
        simp only [Bool.and_eq_true] at hg1
        obtain ⟨hg2, hg3⟩ := hg1
        have HF : Hid (Ky.meet2 ⟨lo, hi⟩ g = ⟨g.lo, Ky.least hi g.hi⟩) := by unfold Hid; rw [HLE.out, hc]; rfl
        have HM6 : Hid (Bk (wr.setCell ⟨w.heap.size + 1, 0, none⟩ (.string g.lo)).drew (w.heap.size + 1) 24 #[.string g.lo, .string hi]) := (HM.out.set 0 _).drew
        have HR6 : Hid (Bk (wr.setCell ⟨w.heap.size + 1, 0, none⟩ (.string g.lo)).drew w.heap.size 24 #[.string ⟨#[]⟩, .string ⟨#[]⟩]) := (HR.out.other (by simp) _).drew
        have HB6 : Hid (Below w.heap.size w (wr.setCell ⟨w.heap.size + 1, 0, none⟩ (.string g.lo)).drew) := (HW.out.setCell (by simp) _).drew
        go_wp2_with fail
        go_region
        go_wp2_with fail
        clear a0 a1 a2 a3 c0 c1 HM HR HW
        generalize (wr.setCell ⟨w.heap.size + 1, 0, none⟩ (.string g.lo)).drew = w6 at HM6 HR6 HB6 ⊢
        have a0 := HM6.out.cell 0
        have a1 := HM6.out.cell 1
        have a3 := HM6.out.frozen 1
        simp at a0 a1
        obtain ⟨c0, c1⟩ := HCC.out _ HB6.out
        go_region_law (first
          | (go_simp; go_at_call 41; refine (least_any hi g.hi _).mono ?_; rintro e v ⟨rfl, rfl⟩))
        all_goals go_wp2_with fail
        all_goals exact ⟨⟨k + 1, ⟨g.lo, Ky.least hi g.hi⟩, by omega, by go_num, (HB6.out.setCell (by simp) _).drew, (HR6.out.other (by simp) _).drew, (HM6.out.set 1 _).drew, HG.out.trans HF.out⟩, by simp [intOf]; omega⟩
      | false =>
        have hg0 : (!Op.bytesLess g.lo.toList lo.toList && !g.lo.toList == lo.toList) = false := (Ky.gtr_iff g.lo.toList lo.toList).trans hc
        have HF : Hid (Ky.meet2 ⟨lo, hi⟩ g = ⟨lo, Ky.least hi g.hi⟩) := by unfold Hid; rw [HLE.out, hc]; rfl
        have HM6 : Hid (Bk wr.drew (w.heap.size + 1) 24 #[.string lo, .string hi]) := HM.out.drew
        have HR6 : Hid (Bk wr.drew w.heap.size 24 #[.string ⟨#[]⟩, .string ⟨#[]⟩]) := HR.out.drew
        have HB6 : Hid (Below w.heap.size w wr.drew) := HW.out.drew
        go_wp2_with fail
        go_region
        go_wp2_with fail
        clear a0 a1 a2 a3 c0 c1 HM HR HW
        generalize wr.drew = w6 at HM6 HR6 HB6 ⊢
        have a0 := HM6.out.cell 0
        have a1 := HM6.out.cell 1
        have a3 := HM6.out.frozen 1
        simp at a0 a1
        obtain ⟨c0, c1⟩ := HCC.out _ HB6.out
        go_region_law (first
          | (go_simp; go_at_call 41; refine (least_any hi g.hi _).mono ?_; rintro e v ⟨rfl, rfl⟩))
        all_goals go_wp2_with fail
        all_goals exact ⟨⟨k + 1, ⟨lo, Ky.least hi g.hi⟩, by omega, by go_num, (HB6.out.setCell (by simp) _).drew, (HR6.out.other (by simp) _).drew, (HM6.out.set 1 _).drew, HG.out.trans HF.out⟩, by simp [intOf]; omega⟩
    · have hkk : k = len := by omega
      have hli : ¬ ((k : Int) < (len : Int)) := by omega
      have HF : Hid (Ky.meet l = ⟨lo, hi⟩) := by
        unfold Hid Ky.meet
        rw [← HQ.out, List.take_of_length_le (by have := HL.out; omega)]
      have a0 := HM.out.cell 0
      have a1 := HM.out.cell 1
      have b0 := HR.out.cell 0
      have b1 := HR.out.cell 1
      have b2 := HR.out.frozen 0
      have b3 := HR.out.frozen 1
      simp at a0 a1 b0 b1
      go_wp2
      refine bodyPost_ret (results_rg rfl rfl ((HR.out.set 0 _).set 1 _)) rfl ?_
      rw [HF.out]
      exact ⟨rfl, (HW.out.setCell (Nat.le_refl _) _).setCell (Nat.le_refl _) _⟩

set_option maxHeartbeats 800000 in
theorem roverlap_any (a b : Rg) (w : World) : Calls Try.prog 26 #[a.val, b.val] w fun e w' => e = .returned (.bool (Ky.overlap a b)) ∧ Below w.heap.size w w' := by
  obtain ⟨w1, hw1⟩ : ∃ w1, w1 = ((w.alloc (.cells #[.string a.lo, .string a.hi] 24)).alloc (.cells #[.string b.lo, .string b.hi] 24)) := ⟨_, rfl⟩
  have HB1 : Hid (Below w.heap.size w w1) := by rw [hw1]; exact ((Below.refl _ _).alloc (Nat.le_refl _) _).alloc (by simp) _
  have hsz : w1.heap.size = w.heap.size + 1 + 1 := by rw [hw1]; simp
  have HX : Hid (Rgs (w1.alloc (.cells #[.string a.lo, .string a.hi, .string b.lo, .string b.hi] 24)) (some ⟨w.heap.size + 1 + 1, 0, none⟩) [a, b]) := by
    have := rgs_two w1 a b
    rw [hsz] at this
    exact this
  have HB2 : Hid (Below w.heap.size w (w1.alloc (.cells #[.string a.lo, .string a.hi, .string b.lo, .string b.hi] 24))) := HB1.out.alloc HB1.out.size _
  subst hw1
  clear hsz
  go_enter Try.func26, Try.ntmps26
  go_wp2_with fail
  refine (rmeet_any _ 2 2 [a, b] _ rfl HX.out (by decide)).mono ?_
  rintro e w3 ⟨rfl, hb3⟩
  have HB3 : Hid (Below w.heap.size w w3) := HB2.out.trans (hb3.mono HB2.out.size)
  clear hb3
  go_wp2_with fail
  refine (rempty_any (Ky.meet [a, b]) _).mono ?_
  rintro e w4 ⟨rfl, hb4⟩
  have HB4 : Hid (Below w.heap.size w w4) := HB3.out.trans (hb4.mono HB3.out.size)
  clear hb4
  go_wp2
  go_ret
  exact ⟨rfl, HB4.out⟩

set_option maxHeartbeats 800000 in
theorem rcovers_any (a b : Rg) (w : World) : Calls Try.prog 27 #[a.val, b.val] w fun e w' => e = .returned (.bool (Ky.covers a b)) ∧ Below w.heap.size w w' := by
  obtain ⟨w1, hw1⟩ : ∃ w1, w1 = ((w.alloc (.cells #[.string a.lo, .string a.hi] 24)).alloc (.cells #[.string b.lo, .string b.hi] 24)) := ⟨_, rfl⟩
  have HB1 : Hid (Below w.heap.size w w1) := by rw [hw1]; exact ((Below.refl _ _).alloc (Nat.le_refl _) _).alloc (by simp) _
  have HKA : Hid (Bk w1 w.heap.size 24 #[.string a.lo, .string a.hi]) := by rw [hw1]; exact (Bk.new _ _ _).alloc _
  have HKB : Hid (Bk w1 (w.heap.size + 1) 24 #[.string b.lo, .string b.hi]) := by
    rw [hw1]
    have := Bk.new (w.alloc (.cells #[.string a.lo, .string a.hi] 24)) 24 #[.string b.lo, .string b.hi]
    simp at this
    exact this
  have HE : Hid (Ky.covers a b = (Ky.emp b || (!Op.bytesLess b.lo.toList a.lo.toList && (a.hi.toList.isEmpty || (!b.hi.toList.isEmpty && !Op.bytesLess a.hi.toList b.hi.toList))))) := by
    unfold Hid Ky.covers
    rw [Ky.ends_le]
    rfl
  have hl2 := Ky.leq_iff b.hi.toList a.hi.toList
  have hle : (Op.bytesLess a.lo.toList b.lo.toList || a.lo.toList == b.lo.toList) = !Op.bytesLess b.lo.toList a.lo.toList := by
    have := Ky.gtr_iff a.lo.toList b.lo.toList
    rw [← this, Bool.not_and, Bool.not_not, Bool.not_not]
  go_enter Try.func27, Try.ntmps27
  go_wp2_with fail
  rw [← hw1]
  clear hw1
  refine (rempty_any b _).mono ?_
  rintro e w3 ⟨rfl, hb3⟩
  have HB3 : Hid (Below w.heap.size w w3) := HB1.out.trans (hb3.mono HB1.out.size)
  have ka := HKA.out.below hb3 HKA.out.lt
  have kb := HKB.out.below hb3 HKB.out.lt
  have a0 := ka.cell 0
  have a1 := ka.cell 1
  have b0 := kb.cell 0
  have b1 := kb.cell 1
  simp at a0 a1 b0 b1
  clear ka kb hb3 HKA HKB
  cases he : Ky.emp b with
  | true =>
    rw [he] at HE
    go_wp2
    go_ret
    exact ⟨by rw [HE.out]; rfl, HB3.out⟩
  | false =>
    rw [he] at HE
    cases hc : Op.bytesLess b.lo.toList a.lo.toList with
    | true =>
      rw [hc] at HE hle
      go_wp2
      go_ret
      exact ⟨by rw [HE.out]; rfl, HB3.out⟩
    | false =>
      rw [hc] at HE hle
      cases h1 : a.hi.toList.isEmpty <;> cases h2 : b.hi.toList.isEmpty <;> rw [h1] at HE <;> try rw [h2] at HE
      all_goals go_wp2
      all_goals go_ret
      all_goals exact ⟨by rw [HE.out]; first | rfl | simp, HB3.out⟩
end Go.Proofs.Ytgppnbcneknpdaa
