import Derived.Test.YtlfgclmgpbaenaaNums
import Derived.Test.YtlfgclmgpbaenaaDigs
namespace Go.Proofs.Ytlfgclmgpbaenaa
open Go.RowKit
set_option linter.unusedVariables false
set_option maxRecDepth 100000

theorem byte_ne {m : Int} {k : Nat} (h0 : 0 ≤ m) (h : (m / 2 ^ (8 * k) % 256 != 0) = true) : m.toNat / 256 ^ k % 256 ≠ 0 := by
  rw [byte_at m k h0, bne_iff_ne] at h
  intro e
  rw [e] at h
  exact h rfl

theorem byte_eq {m : Int} {k : Nat} (h0 : 0 ≤ m) (h : (m / 2 ^ (8 * k) % 256 != 0) = false) : m.toNat / 256 ^ k % 256 = 0 := by
  rw [byte_at m k h0] at h
  have := bne_eq_false_iff_eq.1 h
  omega

set_option maxHeartbeats 1000000 in
/-- cressetref01.digits. -/
theorem digits_any (base : Nat) (m : Int) (w : World) (hbase : base ≤ w.heap.size) (hm0 : 0 ≤ m) (hm1 : m < 18446744073709551616) :
    Calls Try.prog 82 #[.int .u64 m] w fun e w' => ∃ v, e = .returned v ∧ Own w' base v (Cd.nb m.toNat) (Cd.be (Cd.nb m.toNat) m.toNat) ∧ Below base w w' := by
  obtain ⟨i0, hi, hz0, hz1, hz2⟩ := info_parts u8info
  have H8 : Hid ([] = Cd.dig m.toNat 8) := (Cd.dig_8 _).symm
  have H0 : Hid (Cd.dig m.toNat 0 = _) := Cd.dig_0 m.toNat
  have HL : Hid (∀ k, (Cd.dig m.toNat k).length = _) := Cd.dig_len m.toNat
  go_enter Try.func82, Try.ntmps82
  go_wp2_with fail
  go_loopw [3, 4] (fun v i wr => ∃ (k ln : Nat) (ys : List Int), k ≤ 8 ∧ i = .int .i64 ((k : Int) - 1) ∧ ln ≤ 8 - k ∧ Below base w wr ∧ Hid (Cd.dig m.toNat k = ys) ∧ Own wr base v ln ys) (fun _ i _ => (intOf i + 1).toNat)
  case atStart => exact ⟨8, 0, [], by omega, rfl, by omega, Below.refl _ _, H8.out.symm, World.ownsRow_nil _ _ _ _⟩
  case round =>
    rename_i v i
    obtain ⟨k, ln, ys, hk, rfl, hln, hbel, HYS, hown⟩ := hrel
    have hsz : base ≤ wr.heap.size := Nat.le_trans hbase hbel.size
    obtain ⟨p, cc, hv, hcc, hpn, _⟩ := hown.bys
    subst hv
    match k with
    | 0 =>
      have HR : Hid (Own wr base (.slice p ln cc) (Cd.nb m.toNat) (Cd.be (Cd.nb m.toNat) m.toNat)) := by
        have e1 : ys = Cd.be (Cd.nb m.toNat) m.toNat := by rw [← HYS.out, H0.out]
        have e2 : ln = Cd.nb m.toNat := by rw [← hown.len, e1, Cd.be_length]
        rw [← e1, ← e2]
        exact hown
      go_wp2
      go_ret
      exact ⟨_, rfl, HR.out, hbel⟩
    | k + 1 =>
      have hlen : ys.length = ln := hown.len
      have HLn : Hid (ys.length = ln) := hlen
      clear hlen
      rw [show ((k + 1 : Nat) : Int) - 1 = (k : Int) by omega]
      by_cases hX : (m / 2 ^ (8 * k) % 256 != 0) = true
      · (
          go_wp2_with (at_builtin; refine wpList_append_own _ rfl _ _ 42 rfl base 5 i0 (.int .u8 0) 1 1 Try.underlying42 hi hz0 hz1 hz2 rfl (by decide) _ ln (ys.map (Value.int .u8)) rfl (World.ownsRow.alloc hown _) ⟨wr.heap.size, 0, none⟩ 1 1 [.int .u8 (m / 2 ^ (8 * k) % 256)] rfl rfl (cell_one_new _ _ _) (ints_oneCell .u8 [m / 2 ^ (8 * k) % 256]) (by unfold maxLen; omega) (by omega) (by simp; omega) ?_)
          intro v1 w1 hown1 hg1 _
          have HD : Hid (Cd.dig m.toNat k = ys ++ [m / 2 ^ (8 * k) % 256]) := by
            unfold Hid
            rw [byte_at m k hm0, ← HYS.out]
            exact Cd.dig_yes _ _ (by omega) (Or.inl (byte_ne hm0 hX))
          have hb1 : Below base w w1 := (hbel.alloc hsz _).grown hg1 (by simp; omega) (fun j hj => ((hown.lt j hj).1))
          have HO : Own w1 base v1 (ln + 1) (ys ++ [m / 2 ^ (8 * k) % 256]) := by simpa [Own] using hown1
          have hsz1 : base ≤ w1.heap.size := Nat.le_trans hbase hb1.size
          clear hg1 hown1 hown hbel
          go_wp2
          go_roundw
          case rel => exact ⟨k, ln + 1, _, by omega, rfl, by omega, hb1, HD.out, HO⟩
          case measure => simp [intOf]
        )
      · have hX' : (m / 2 ^ (8 * k) % 256 != 0) = false := by simpa using hX
        clear hX
        by_cases hl : 0 < ln
        · (
          go_wp2_with (at_builtin; refine wpList_append_own _ rfl _ _ 42 rfl base 5 i0 (.int .u8 0) 1 1 Try.underlying42 hi hz0 hz1 hz2 rfl (by decide) _ ln (ys.map (Value.int .u8)) rfl (World.ownsRow.alloc hown _) ⟨wr.heap.size, 0, none⟩ 1 1 [.int .u8 (m / 2 ^ (8 * k) % 256)] rfl rfl (cell_one_new _ _ _) (ints_oneCell .u8 [m / 2 ^ (8 * k) % 256]) (by unfold maxLen; omega) (by omega) (by simp; omega) ?_)
          intro v1 w1 hown1 hg1 _
          have HD : Hid (Cd.dig m.toNat k = ys ++ [m / 2 ^ (8 * k) % 256]) := by
            unfold Hid
            rw [byte_at m k hm0, ← HYS.out]
            exact Cd.dig_yes _ _ (by omega) (Or.inr (Or.inl (by rw [HYS.out, HLn.out]; exact hl)))
          have hb1 : Below base w w1 := (hbel.alloc hsz _).grown hg1 (by simp; omega) (fun j hj => ((hown.lt j hj).1))
          have HO : Own w1 base v1 (ln + 1) (ys ++ [m / 2 ^ (8 * k) % 256]) := by simpa [Own] using hown1
          have hsz1 : base ≤ w1.heap.size := Nat.le_trans hbase hb1.size
          clear hg1 hown1 hown hbel
          go_wp2
          go_roundw
          case rel => exact ⟨k, ln + 1, _, by omega, rfl, by omega, hb1, HD.out, HO⟩
          case measure => simp [intOf]
          )
        · obtain rfl : ln = 0 := by omega
          by_cases h0 : k = 0
          · have hk0 : ((k : Int) == 0) = true := by simp; omega
            have HK : Hid (k = 0) := h0
            have hk9 : k ≤ 7 := by omega
            clear h0 hk
            (
            go_wp2_with (at_builtin; refine wpList_append_own _ rfl _ _ 42 rfl base 5 i0 (.int .u8 0) 1 1 Try.underlying42 hi hz0 hz1 hz2 rfl (by decide) _ 0 (ys.map (Value.int .u8)) rfl (World.ownsRow.alloc hown _) ⟨wr.heap.size, 0, none⟩ 1 1 [.int .u8 (m / 2 ^ (8 * k) % 256)] rfl rfl (cell_one_new _ _ _) (ints_oneCell .u8 [m / 2 ^ (8 * k) % 256]) (by unfold maxLen; omega) (by omega) (by simp; omega) ?_)
            intro v1 w1 hown1 hg1 _
            have HD : Hid (Cd.dig m.toNat k = ys ++ [m / 2 ^ (8 * k) % 256]) := by
              unfold Hid
              rw [byte_at m k hm0, ← HYS.out]
              exact Cd.dig_yes _ _ (by omega) (Or.inr (Or.inr HK.out))
            have hb1 : Below base w w1 := (hbel.alloc hsz _).grown hg1 (by simp; omega) (fun j hj => ((hown.lt j hj).1))
            have HO : Own w1 base v1 (0 + 1) (ys ++ [m / 2 ^ (8 * k) % 256]) := by simpa [Own] using hown1
            have hsz1 : base ≤ w1.heap.size := Nat.le_trans hbase hb1.size
            clear hg1 hown1 hown hbel
            go_wp2
            go_roundw
            case rel => exact ⟨k, 0 + 1, _, by omega, rfl, by have := HK.out; omega, hb1, HD.out, HO⟩
            case measure => simp [intOf]
            )
          · have hk0 : ((k : Int) == 0) = false := by simp; omega
            have HD : Hid (Cd.dig m.toNat k = ys) := by
              unfold Hid
              rw [← HYS.out]
              exact Cd.dig_no _ _ (by omega) (byte_eq hm0 hX') (by rw [HYS.out, HLn.out]; omega) h0
            go_wp2
            go_roundw
            case rel => exact ⟨k, 0, ys, by omega, rfl, by omega, hbel, HD, hown⟩
            case measure => simp [intOf]
end Go.Proofs.Ytlfgclmgpbaenaa
