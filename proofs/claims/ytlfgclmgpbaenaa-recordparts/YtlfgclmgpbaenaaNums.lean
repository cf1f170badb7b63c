import Derived.Test.YtlfgclmgpbaenaaPuts
namespace Go.Proofs.Ytlfgclmgpbaenaa
open Go.RowKit
set_option linter.unusedVariables false

theorem wrap_neg (n : Int) (h0 : -9223372036854775808 ≤ n) (h1 : n < 0) : IntKind.u64.wrap n = n + 18446744073709551616 := by
  simp [IntKind.wrap, IntKind.bits, IntKind.signed]
  omega

theorem byte_at (m : Int) (k : Nat) (h : 0 ≤ m) : m / 2 ^ (8 * k) % 256 = ((m.toNat / 256 ^ k % 256 : Nat) : Int) := by
  obtain ⟨n, rfl⟩ := Int.eq_ofNat_of_zero_le h
  rw [Int.toNat_natCast, show (2 : Int) ^ (8 * k) = ((256 ^ k : Nat) : Int) by rw [Int.pow_mul]; simp]
  omega

set_option maxHeartbeats 400000 in
/-- codec.appendNumber. -/
theorem num_any (g cap base len : Nat) (xs : List Int) (m many : Int) (w : World) (hown : Own w base (.slice (some ⟨g, 0, none⟩) len cap) len xs) (hm0 : 0 ≤ m) (hm1 : m < 18446744073709551616)
    (hk0 : 0 ≤ many) (hk : many ≤ 8) (hroom : (len : Int) + many ≤ cap) :
    Calls Try.prog 122 #[.slice (some ⟨g, 0, none⟩) len cap, .int .u64 m, .int .i64 many] w fun e w' => e = .returned (.slice (some ⟨g, 0, none⟩) (len + many.toNat) cap) ∧
      Own w' base (.slice (some ⟨g, 0, none⟩) (len + many.toNat) cap) (len + many.toNat) (xs ++ Cd.be many.toNat m.toNat) ∧ w.grownBy w' (some g) := by
  obtain ⟨i0, hi, hz0, hz1, hz2⟩ := info_parts u8info
  obtain ⟨mk, rfl⟩ := Int.eq_ofNat_of_zero_le hk0
  rw [Int.toNat_natCast]
  go_enter Try.func122, Try.ntmps122
  go_wp2_with fail
  go_loopw [0, 7] (fun v i wr => ∃ (k ln : Nat) (ys : List Int), k ≤ mk ∧ i = .int .i64 ((k : Int) - 1) ∧ v = .slice (some ⟨g, 0, none⟩) ln cap ∧ Hid (ys ++ Cd.be k m.toNat = xs ++ Cd.be mk m.toNat) ∧ Hid (ln + k = len + mk) ∧ ln + k ≤ cap ∧
      Own wr base (.slice (some ⟨g, 0, none⟩) ln cap) ln ys ∧ w.grownBy wr (some g)) (fun _ i _ => (intOf i + 1).toNat)
  case atStart => exact ⟨mk, len, xs, Nat.le_refl _, rfl, rfl, rfl, rfl, by omega, hown, World.grownBy.refl _ _⟩
  case round =>
    clear hown
    obtain ⟨k, ln, ys, hkm, rfl, rfl, heq, hln, hyc, hown, hgr⟩ := hrel
    match k with
    | 0 =>
      go_wp2
      go_ret
      have e1 : ys = xs ++ Cd.be mk m.toNat := by simpa [Cd.be] using heq.out
      have e2 : ln = len + mk := hln.out
      subst e1
      subst e2
      exact ⟨by simp, hown, hgr⟩
    | k + 1 =>
      rw [show ((k + 1 : Nat) : Int) - 1 = (k : Int) by omega]
      go_wp2_with (at_builtin; refine wpList_append_fits _ rfl _ _ 42 rfl base 5 i0 1 Try.underlying42 hi hz1 g ln cap (ys.map (Value.int .u8)) rfl (World.ownsRow.alloc hown _) ⟨wr.heap.size, 0, none⟩ 1 1 [.int .u8 (m / 2 ^ (8 * k) % 256)] rfl rfl (cell_one_new _ _ _) (ints_oneCell .u8 [m / 2 ^ (8 * k) % 256]) (by omega) ?_)
      intro w1 hown1 hg1
      have hg2 : w.grownBy w1 (some g) := grown_trans hgr (grown_trans (World.grownBy_alloc _ _ _) hg1)
      have HO : Own w1 base (.slice (some ⟨g, 0, none⟩) (ln + 1) cap) (ln + 1) (ys ++ [m / 2 ^ (8 * k) % 256]) := by
        simpa [Own] using hown1
      have HQ : Hid ((ys ++ [m / 2 ^ (8 * k) % 256]) ++ Cd.be k m.toNat = xs ++ Cd.be mk m.toNat) := by
        have h := heq.out
        simp only [Cd.be, ← byte_at m k hm0] at h
        unfold Hid
        simpa using h
      have HL : Hid (ln + 1 + k = len + mk) := by have := hln.out; unfold Hid; omega
      clear hown1 hg1 hown hgr heq hln
      go_wp2
      go_roundw
      case rel => exact ⟨k, ln + 1, _, by omega, rfl, by simp, HQ, HL, by omega, HO, hg2⟩
      case measure => simp [intOf]

theorem width_lo (n : Int) (q : Nat) (w : World) (hq : Hid (Cd.nb (-1 - n).toNat = q)) (h0 : -9223372036854775808 ≤ n) (h1 : n < -100) :
    Calls Try.prog 94 #[.int .i64 n] w fun e w' => e = .returned (.int .i64 (1 + (q : Int))) ∧ w' = w := by
  rw [← hq.out]
  have hw : (Cd.width n : Int) = 1 + Cd.nb (-1 - n).toNat := by
    unfold Cd.width
    rw [if_neg (by omega), if_neg (by omega)]
    omega
  rw [← hw]
  exact width_any n w h0 (by omega)

theorem width_hi (n : Int) (q : Nat) (w : World) (hq : Hid (Cd.nb n.toNat = q)) (h0 : 100 < n) (h1 : n ≤ 9223372036854775807) :
    Calls Try.prog 94 #[.int .i64 n] w fun e w' => e = .returned (.int .i64 (1 + (q : Int))) ∧ w' = w := by
  rw [← hq.out]
  have hw : (Cd.width n : Int) = 1 + Cd.nb n.toNat := by
    unfold Cd.width
    rw [if_neg (by omega), if_pos (by omega)]
    omega
  rw [← hw]
  exact width_any n w (by omega) h1

theorem width_mid (n : Int) (w : World) (h0 : -100 ≤ n) (h1 : n ≤ 100) :
    Calls Try.prog 94 #[.int .i64 n] w fun e w' => e = .returned (.int .i64 1) ∧ w' = w := by
  have hw : (Cd.width n : Int) = 1 := by simp [Cd.width, h0, h1]
  rw [← hw]
  exact width_any n w (by omega) (by omega)

set_option maxRecDepth 100000 in
set_option maxHeartbeats 400000 in
/-- codec.appendInt. -/
theorem appendInt_any (g cap base len : Nat) (xs : List Int) (n : Int) (w : World) (hown : Own w base (.slice (some ⟨g, 0, none⟩) len cap) len xs) (h0 : -9223372036854775808 ≤ n) (h1 : n ≤ 9223372036854775807)
    (hroom : len + Cd.width n ≤ cap) :
    Calls Try.prog 118 #[.slice (some ⟨g, 0, none⟩) len cap, .int .i64 n] w fun e w' => e = .returned (.slice (some ⟨g, 0, none⟩) (len + Cd.width n) cap) ∧
      Own w' base (.slice (some ⟨g, 0, none⟩) (len + Cd.width n) cap) (len + Cd.width n) (xs ++ Cd.enc n) ∧ w.grownBy w' (some g) := by
  obtain ⟨i0, hi, hz0, hz1, hz2⟩ := info_parts u8info
  rcases (show (-100 ≤ n ∧ n ≤ 100) ∨ n < -100 ∨ 100 < n by omega) with ⟨a, b⟩ | a | a
  · rw [show Cd.width n = 1 by simp [Cd.width, a, b]] at hroom ⊢
    go_enter Try.func118, Try.ntmps118
    go_wp2_with fail
    refine (width_mid n _ a b).mono ?_
    rintro e w' ⟨rfl, rfl⟩
    go_wp2_with (at_builtin; refine wpList_append_fits _ rfl _ _ 42 rfl base 5 i0 1 Try.underlying42 hi hz1 g len cap (xs.map (Value.int .u8)) rfl (World.ownsRow.alloc hown _) ⟨w'.heap.size, 0, none⟩ 1 1 [.int .u8 (n + 108)] rfl rfl (cell_one_new _ _ _) (ints_oneCell .u8 [n + 108]) (by omega) ?_)
    intro w1 hown1 hg1
    have hg2 : w'.grownBy w1 (some g) := grown_trans (World.grownBy_alloc _ _ _) hg1
    clear hg1
    go_wp2
    go_ret
    exact ⟨by simp, by simpa [Own, Cd.enc, a, b] using hown1, hg2⟩
  · rw [show Cd.width n = 1 + Cd.nb (-1 - n).toNat by unfold Cd.width; rw [if_neg (by omega), if_neg (by omega)]] at hroom ⊢
    have HE : Hid (Cd.enc n = (8 - (Cd.nb (-1 - n).toNat : Int)) :: Cd.be (Cd.nb (-1 - n).toNat) (n + 18446744073709551616).toNat) := by
      unfold Hid Cd.enc
      rw [if_neg (by omega), if_neg (by omega), Cd.be_turn _ _ h0 (by omega) (Cd.nb_pos _).2]
    have hq := Cd.nb_pos (-1 - n).toNat
    obtain ⟨q, hqe⟩ : ∃ q, Cd.nb (-1 - n).toNat = q := ⟨_, rfl⟩
    have HQ : Hid (Cd.nb (-1 - n).toNat = q) := hqe
    rw [hqe] at hroom HE hq ⊢
    clear hqe
    go_enter Try.func118, Try.ntmps118
    go_wp2_with fail
    refine (width_lo n q _ HQ h0 a).mono ?_
    rintro e w' ⟨rfl, rfl⟩
    go_wp2_with (at_builtin; refine wpList_append_fits _ rfl _ _ 42 rfl base 5 i0 1 Try.underlying42 hi hz1 g len cap (xs.map (Value.int .u8)) rfl (World.ownsRow.alloc hown _) ⟨w'.heap.size, 0, none⟩ 1 1 [.int .u8 (8 - (1 + (q : Int) - 1))] rfl rfl (cell_one_new _ _ _) (ints_oneCell .u8 [8 - (1 + (q : Int) - 1)]) (by omega) ?_)
    intro w1 hown1 hg1
    have hg2 : w'.grownBy w1 (some g) := grown_trans (World.grownBy_alloc _ _ _) hg1
    have HO : Own w1 base (.slice (some ⟨g, 0, none⟩) (len + 1) cap) (len + 1) (xs ++ [8 - (1 + (q : Int) - 1)]) := by
      simpa [Own] using hown1
    clear hg1 hown1 hown
    go_wp2_with fail
    rw [wrap_neg n h0 (by omega)]
    refine (num_any g cap base (len + 1) _ (n + 18446744073709551616) (1 + (q : Int) - 1) _ HO (by omega) (by omega) (by omega) (by omega) (by omega)).mono ?_
    rintro e w2 ⟨rfl, HO2, hg3⟩
    have e1 : (1 + (q : Int) - 1).toNat = q := by omega
    rw [e1] at HO2 ⊢
    have hg4 := grown_trans hg2 hg3
    clear hg2 hg3 HO
    go_wp2
    go_ret
    refine ⟨?_, ?_, hg4⟩
    · simp only [Nat.add_assoc]
      rfl
    · rw [HE.out]
      simpa [Own, Nat.add_assoc, show 8 - (1 + (q : Int) - 1) = 8 - (q : Int) by omega] using HO2
  · rw [show Cd.width n = 1 + Cd.nb n.toNat by unfold Cd.width; rw [if_neg (by omega), if_pos (by omega)]] at hroom ⊢
    have HE : Hid (Cd.enc n = (208 + (Cd.nb n.toNat : Int)) :: Cd.be (Cd.nb n.toNat) (n).toNat) := by
      unfold Hid Cd.enc
      rw [if_neg (by omega), if_pos (by omega)]
    have hq := Cd.nb_pos n.toNat
    obtain ⟨q, hqe⟩ : ∃ q, Cd.nb n.toNat = q := ⟨_, rfl⟩
    have HQ : Hid (Cd.nb n.toNat = q) := hqe
    rw [hqe] at hroom HE hq ⊢
    clear hqe
    go_enter Try.func118, Try.ntmps118
    go_wp2_with fail
    refine (width_hi n q _ HQ a h1).mono ?_
    rintro e w' ⟨rfl, rfl⟩
    go_wp2_with (at_builtin; refine wpList_append_fits _ rfl _ _ 42 rfl base 5 i0 1 Try.underlying42 hi hz1 g len cap (xs.map (Value.int .u8)) rfl (World.ownsRow.alloc hown _) ⟨w'.heap.size, 0, none⟩ 1 1 [.int .u8 (208 + (1 + (q : Int) - 1))] rfl rfl (cell_one_new _ _ _) (ints_oneCell .u8 [208 + (1 + (q : Int) - 1)]) (by omega) ?_)
    intro w1 hown1 hg1
    have hg2 : w'.grownBy w1 (some g) := grown_trans (World.grownBy_alloc _ _ _) hg1
    have HO : Own w1 base (.slice (some ⟨g, 0, none⟩) (len + 1) cap) (len + 1) (xs ++ [208 + (1 + (q : Int) - 1)]) := by
      simpa [Own] using hown1
    clear hg1 hown1 hown
    go_wp2_with fail
    refine (num_any g cap base (len + 1) _ (n) (1 + (q : Int) - 1) _ HO (by omega) (by omega) (by omega) (by omega) (by omega)).mono ?_
    rintro e w2 ⟨rfl, HO2, hg3⟩
    have e1 : (1 + (q : Int) - 1).toNat = q := by omega
    rw [e1] at HO2 ⊢
    have hg4 := grown_trans hg2 hg3
    clear hg2 hg3 HO
    go_wp2
    go_ret
    refine ⟨?_, ?_, hg4⟩
    · simp only [Nat.add_assoc]
      rfl
    · rw [HE.out]
      simpa [Own, Nat.add_assoc, show 208 + (1 + (q : Int) - 1) = 208 + (q : Int) by omega] using HO2
end Go.Proofs.Ytlfgclmgpbaenaa
