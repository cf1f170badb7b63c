import Derived.Test.YtlfgclmgpbaenaaRef
namespace Go.Proofs.Ytlfgclmgpbaenaa
open Go.RowKit
set_option linter.unusedVariables false
set_option maxRecDepth 100000

/-- A slice of bytes that was just built. -/
theorem own_built (w : World) (base : Nat) (xs : List Int) (n : Nat) (hb : base ≤ w.heap.size) (hn : xs.length = n) (hm : n ≤ 9223372036854775807) :
    Own (w.alloc (.cells (xs.map (Value.int .u8)).toArray 5)) base (.slice (some ⟨w.heap.size, 0, none⟩) n n) n xs :=
  ⟨by simp [hn], .inr ⟨w.heap.size, n, _, rfl, hb, heap_alloc_new w _, Nat.le_refl _, by unfold maxLen; omega, by simp [hn], by simp [← hn, List.take_of_length_le]⟩⟩

theorem digits_q (base : Nat) (m : Int) (q : Nat) (ds : List Int) (w : World) (hq : Hid (Cd.nb m.toNat = q)) (hd : Hid (Cd.be q m.toNat = ds)) (hbase : base ≤ w.heap.size) (hm0 : 0 ≤ m) (hm1 : m < 18446744073709551616) :
    Calls Try.prog 82 #[.int .u64 m] w fun e w' => ∃ v, e = .returned v ∧ Own w' base v q ds ∧ Below base w w' := by
  have h := digits_any base m w hbase hm0 hm1
  rw [hq.out, hd.out] at h
  exact h

set_option maxHeartbeats 1000000 in
theorem refInt_mid (n : Int) (w : World) (h0 : -100 ≤ n) (h1 : n ≤ 100) :
    Calls Try.prog 69 #[.int .i64 n] w fun e w' => ∃ v, e = .returned v ∧ Own w' w.heap.size v (Cd.width n) (Cd.enc n) ∧ Below w.heap.size w w' := by
  have HW : Hid (Cd.width n = 1) := by simp [Hid, Cd.width, h0, h1]
  have HE : Hid (Cd.enc n = [n + 108]) := by simp [Hid, Cd.enc, h0, h1]
  go_enter Try.func69, Try.ntmps69
  go_wp2
  go_ret
  rw [HW.out, HE.out]
  exact ⟨_, rfl, own_built w _ [n + 108] 1 (Nat.le_refl _) rfl (by omega), (Below.refl _ _).alloc (Nat.le_refl _) _⟩

set_option maxHeartbeats 1000000 in
theorem refInt_hi (n : Int) (w : World) (h0 : 100 < n) (h1 : n ≤ 9223372036854775807) :
    Calls Try.prog 69 #[.int .i64 n] w fun e w' => ∃ v, e = .returned v ∧ Own w' w.heap.size v (Cd.width n) (Cd.enc n) ∧ Below w.heap.size w w' := by
  obtain ⟨i0, hi, hz0, hz1, hz2⟩ := info_parts u8info
  obtain ⟨q, hqe⟩ : ∃ q, Cd.nb (n).toNat = q := ⟨_, rfl⟩
  obtain ⟨ds, hds⟩ : ∃ ds, Cd.be q (n).toNat = ds := ⟨_, rfl⟩
  have hq := Cd.nb_pos (n).toNat
  have HDL : Hid (ds.length = q) := by rw [← hds]; exact Cd.be_length _ _
  have HW : Hid (Cd.width n = 1 + q) := by unfold Hid Cd.width; rw [if_neg (by omega), if_pos (by omega), hqe]
  have HE : Hid (Cd.enc n = (208 + (q : Int)) :: ds) := by unfold Hid Cd.enc; rw [if_neg (by omega), if_pos (by omega), hqe, hds]
  have HB : Hid (∀ y ∈ ds, 0 ≤ y ∧ y < 256) := by rw [← hds]; exact Cd.be_byte _ _
  rw [hqe] at hq
  have HQ : Hid _ := hqe
  have HD : Hid _ := hds
  clear hqe hds
  go_enter Try.func69, Try.ntmps69
  go_wp2_with fail
  refine (digits_q w.heap.size n q ds _ HQ HD (Nat.le_refl _) (by omega) (by omega)).mono ?_
  rintro e w1 ⟨v, rfl, HO, hb⟩
  obtain ⟨p, cc, hv, hcc, hpn, hbys⟩ := HO.bys
  rw [hv]
  obtain ⟨g, o, rfl, hcells⟩ := hbys (by rw [HDL.out]; omega)
  have HBY : Hid (Bys w1 (some ⟨g, o, none⟩) ds) := hbys
  have hsz : w.heap.size ≤ w1.heap.size := hb.size
  clear HO hv hcells hbys hpn
  have hown0 : Own (w1.alloc (.cells #[.int .u8 (208 + (q : Int))] 5)) w.heap.size (.slice (some ⟨w1.heap.size, 0, none⟩) 1 1) 1 [208 + (q : Int)] := own_built w1 _ [208 + (q : Int)] 1 hsz rfl (by omega)
  have hba : Below w1.heap.size w1 (w1.alloc (.cells #[.int .u8 (208 + (q : Int))] 5)) := (Below.refl _ _).alloc (Nat.le_refl _) _
  have HC : Hid (∀ ad, some (⟨g, o, none⟩ : Addr) = some ad → ∀ j u, (ds.map (Value.int .u8))[j]? = some u → (w1.alloc (.cells #[.int .u8 (208 + (q : Int))] 5)).cell? (ad.add j) = some u) := (HBY.out.below hba (Nat.le_refl _)).cells
  go_wp2_with (at_builtin; refine wpList_append_own _ rfl _ _ 42 rfl w.heap.size 5 i0 (.int .u8 0) 1 1 Try.underlying42 hi hz0 hz1 hz2 rfl (by decide) _ 1 ([208 + (q : Int)].map (Value.int .u8)) rfl hown0 ⟨g, o, none⟩ q cc (ds.map (Value.int .u8)) rfl (by simp [HDL.out]) (HC.out _ rfl) (ints_oneCell _ _) (by unfold maxLen; omega) (by omega) (by simp; omega) ?_)
  intro v' w2 hown' hg _
  have hb2 : Below w.heap.size w w2 := (hb.trans (hba.mono hsz)).grown hg (by simp; omega) (fun k hk => by simp [Value.ownBlock] at hk; omega)
  clear hg hba hown0 HC hb
  go_wp2
  go_ret
  rw [HW.out, HE.out]
  exact ⟨_, rfl, by simpa [Own] using hown', hb2⟩

set_option maxHeartbeats 1000000 in
theorem refInt_lo (n : Int) (w : World) (h0 : -9223372036854775808 ≤ n) (h1 : n < -100) :
    Calls Try.prog 69 #[.int .i64 n] w fun e w' => ∃ v, e = .returned v ∧ Own w' w.heap.size v (Cd.width n) (Cd.enc n) ∧ Below w.heap.size w w' := by
  obtain ⟨i0, hi, hz0, hz1, hz2⟩ := info_parts u8info
  obtain ⟨q, hqe⟩ : ∃ q, Cd.nb (-(n + 1)).toNat = q := ⟨_, rfl⟩
  obtain ⟨ds, hds⟩ : ∃ ds, Cd.be q (-(n + 1)).toNat = ds := ⟨_, rfl⟩
  have hq := Cd.nb_pos (-(n + 1)).toNat
  have HDL : Hid (ds.length = q) := by rw [← hds]; exact Cd.be_length _ _
  have HW : Hid (Cd.width n = 1 + q) := by unfold Hid Cd.width; rw [if_neg (by omega), if_neg (by omega), show -1 - n = -(n + 1) by omega, hqe]
  have HE : Hid (Cd.enc n = (8 - (q : Int)) :: ds.map (255 - ·)) := by unfold Hid Cd.enc; rw [if_neg (by omega), if_neg (by omega), show -1 - n = -(n + 1) by omega, hqe, hds]
  have HB : Hid (∀ y ∈ ds, 0 ≤ y ∧ y < 256) := by rw [← hds]; exact Cd.be_byte _ _
  rw [hqe] at hq
  have HQ : Hid _ := hqe
  have HD : Hid _ := hds
  clear hqe hds
  go_enter Try.func69, Try.ntmps69
  go_wp2_with fail
  refine (digits_q w.heap.size (-(n + 1)) q ds _ HQ HD (Nat.le_refl _) (by omega) (by omega)).mono ?_
  rintro e w1 ⟨v, rfl, HO, hb⟩
  obtain ⟨p, cc, hv, hcc, hpn, hbys⟩ := HO.bys
  rw [hv]
  obtain ⟨g, o, rfl, hcells⟩ := hbys (by rw [HDL.out]; omega)
  have HBY : Hid (Bys w1 (some ⟨g, o, none⟩) ds) := hbys
  have hsz : w.heap.size ≤ w1.heap.size := hb.size
  clear HO hv hcells hbys hpn
  have hown0 : Own (w1.alloc (.cells #[.int .u8 (8 - (q : Int))] 5)) w1.heap.size (.slice (some ⟨w1.heap.size, 0, none⟩) 1 1) 1 [8 - (q : Int)] := own_built w1 _ [8 - (q : Int)] 1 (Nat.le_refl _) rfl (by omega)
  have hba : Below w1.heap.size w1 (w1.alloc (.cells #[.int .u8 (8 - (q : Int))] 5)) := (Below.refl _ _).alloc (Nat.le_refl _) _
  go_wp2_with fail
  go_loopw [6, 7] (fun v i wr => ∃ k : Nat, k ≤ q ∧ i = .int .i64 k ∧ Own wr w1.heap.size v (1 + k) ((8 - (q : Int)) :: (ds.take k).map (255 - ·)) ∧ Below w1.heap.size w1 wr) (fun _ i _ => q - (intOf i).toNat)
  case atStart => exact ⟨0, Nat.zero_le _, rfl, hown0, hba⟩
  case round =>
    clear hown0 hba
    rename_i v i
    obtain ⟨k, hk, rfl, hown, hbel⟩ := hrel
    obtain ⟨p, c2, hv, hc2, _, _⟩ := hown.bys
    subst hv
    have hsz2 : w1.heap.size ≤ wr.heap.size := hbel.size
    by_cases hlt : k < q
    · obtain ⟨y, hy⟩ : ∃ y, ds.getD k 0 = y := ⟨_, rfl⟩
      have hcell : wr.cell? ⟨g, o + k, none⟩ = some (.int .u8 y) := by
        obtain ⟨g', o', e', hh⟩ := (HBY.out.below hbel (Nat.le_refl _)) (by rw [HDL.out]; omega)
        simp at e'
        rw [e'.1, e'.2, hh k (by rw [HDL.out]; exact hlt), hy]
      have hyb : 0 ≤ y ∧ y < 256 := by
        have hk2 : k < ds.length := by rw [HDL.out]; exact hlt
        rw [← hy]
        have := HB.out ds[k] (List.getElem_mem hk2)
        simpa [List.getD, hk2] using this
      have HT : Hid ((ds.take (k + 1)).map (255 - ·) = (ds.take k).map (255 - ·) ++ [255 - y]) := by
        unfold Hid
        rw [Cd.take_snoc ds k (by rw [HDL.out]; exact hlt), List.map_append, List.map_singleton, hy]
      clear hy
      go_wp2_with (at_builtin; refine wpList_append_own _ rfl _ _ 42 rfl w1.heap.size 5 i0 (.int .u8 0) 1 1 Try.underlying42 hi hz0 hz1 hz2 rfl (by decide) _ (1 + k) (((8 - (q : Int)) :: (ds.take k).map (255 - ·)).map (Value.int .u8)) rfl (World.ownsRow.alloc hown _) ⟨wr.heap.size, 0, none⟩ 1 1 [.int .u8 (255 - y)] rfl rfl (cell_one_new _ _ _) (ints_oneCell .u8 [255 - y]) (by unfold maxLen; omega) (by omega) (by simp; omega) ?_)
      intro v' w2 hown' hg _
      have hb2 : Below w1.heap.size w1 w2 := (hbel.alloc hsz2 _).grown hg (by simp; omega) (fun j hj => (hown.lt j hj).1)
      have HO : Own w2 w1.heap.size v' (1 + (k + 1)) ((8 - (q : Int)) :: (ds.take (k + 1)).map (255 - ·)) := by
        rw [HT.out]
        simpa [Own, Nat.add_assoc] using hown'
      clear hg hown' hown hbel hcell
      go_wp2
      go_roundw
      case rel => exact ⟨k + 1, by omega, by go_num, HO, hb2⟩
      case measure => simp [intOf]; omega
    · obtain rfl : k = q := by omega
      go_wp2
      go_ret
      rw [HW.out, HE.out]
      rw [List.take_of_length_le (by rw [HDL.out]; omega)] at hown
      exact ⟨_, rfl, hown.mono hsz, hb.trans (hbel.mono hsz)⟩

/-- cressetref01.Int. -/
theorem refInt_any (n : Int) (w : World) (h0 : -9223372036854775808 ≤ n) (h1 : n ≤ 9223372036854775807) :
    Calls Try.prog 69 #[.int .i64 n] w fun e w' => ∃ v, e = .returned v ∧ Own w' w.heap.size v (Cd.width n) (Cd.enc n) ∧ Below w.heap.size w w' := by
  rcases (show (-100 ≤ n ∧ n ≤ 100) ∨ n < -100 ∨ 100 < n by omega) with ⟨a, b⟩ | a | a
  · exact refInt_mid n w a b
  · exact refInt_lo n w h0 a
  · exact refInt_hi n w a h1
end Go.Proofs.Ytlfgclmgpbaenaa
