import Derived.Test.YtlfgclmgpbaenaaInt
import Derived.Test.YtlfgclmgpbaenaaParse
namespace Go.Proofs.Ytlfgclmgpbaenaa
open Go.RowKit
set_option linter.unusedVariables false
set_option maxRecDepth 100000

set_option maxHeartbeats 2000000 in
theorem parse_0 (b o c len k : Nat) (h : Int) (r : List Int) (w : World) (hlen : len = r.length + 1) (hcap : len ≤ c) (hm : c ≤ 9223372036854775807) (hc0 : w.cell? ⟨b, o, none⟩ = some (.int .u8 h)) (hh : 0 ≤ h ∧ h < 256) (h0 : 208 < h) (h216 : h ≤ 216) (hkk : (k : Int) = h - 208) (hk : 1 ≤ k ∧ k ≤ 8)
    (hc : ∀ i, i < r.length → w.cell? ⟨b, o + (i + 1), none⟩ = some (.int .u8 (r.getD i 0))) (hy : ∀ y ∈ r, 0 ≤ y ∧ y < 256) :
    Calls Try.prog 85 #[.slice (some ⟨b, o, none⟩) len c] w fun e w' => e = .returned (three (Cd.long k 0 r)) ∧ w' = w := by
  have HC : Hid (∀ i, i < r.length → w.cell? ⟨b, o + (i + 1), none⟩ = some (.int .u8 (r.getD i 0))) := hc
  have HM : Hid (∀ y ∈ r, 0 ≤ y ∧ y < 256) := hy
  have HL : Hid (len = r.length + 1) := hlen
  have hl2 : ((len : Int) == 0) = false := by simp; omega
  have hl3 : 1 ≤ len := by omega
  have HK : Hid ((k : Int) = h - 208) := hkk
  have hK1 : (k : Int) ≤ h - 208 := by omega
  have hK2 : h - 208 ≤ (k : Int) := by omega
  by_cases h1 : r.length < k
  · have HE : Hid (Cd.long k 0 r = (0, 0, 10)) := by unfold Hid Cd.long; rw [if_pos h1]
    have hl1 : len ≤ k := by omega
    clear hc hy hlen hkk h1
    go_enter Try.func85, Try.ntmps85
    go_wp2
    go_ret3
    exact ⟨by rw [HE.out]; rfl, rfl⟩
  · have hl1 : k + 1 ≤ len := by omega
    have H1 : Hid (¬ r.length < k) := h1
    clear hc hy hlen hkk h1
    go_enter Try.func85, Try.ntmps85
    go_wp2_with fail
    go_loop [7, 8] (fun u i => ∃ (j : Nat) (x : Int), j ≤ k ∧ i = .int .i64 ((j : Int) + 1) ∧ u = .int .u64 x ∧ 0 ≤ x ∧ Hid (x = Cd.val ((r.take j).map (Cd.tn 0))) ∧ Hid (1 ≤ j → Cd.tn 0 (r.getD 0 0) ≠ 0)) (fun _ i => k + 1 - (intOf i).toNat)
    case atStart => exact ⟨0, 0, Nat.zero_le _, rfl, rfl, by omega, rfl, fun a => by omega⟩
    case round =>
      obtain ⟨j, x, hj, rfl, rfl, hx0, hx, hz⟩ := hrel
      by_cases hlt : j < k
      · have hjr : j < r.length := by have := H1.out; omega
        have hcell := HC.out j hjr
        obtain ⟨y, hye⟩ : ∃ y, y = r.getD j 0 := ⟨_, rfl⟩
        have hby : 0 ≤ y ∧ y < 256 := by
          rw [hye]
          have := HM.out r[j] (List.getElem_mem hjr)
          simpa [List.getD, hjr] using this
        rw [← hye] at hcell
        have HYE : Hid (y = r.getD j 0) := hye
        clear hye
        have hx2 : x < 72057594037927936 := by rw [hx.out]; exact val_small r 0 j HM.out (by omega)
        have HS : Hid (x * 256 + (y) = Cd.val ((r.take (j + 1)).map (Cd.tn 0))) := by
          unfold Hid
          rw [val_step r 0 j hjr, ← hx.out, ← HYE.out]
          simp [Cd.tn]
        by_cases hj0 : j = 0
        · subst hj0
          by_cases hy0 : y = 0
          · have HE : Hid (Cd.long k 0 r = (0, 0, 11)) := Cd.long_zero (by omega) hk HM.out H1.out (by rw [← HYE.out]; simp [Cd.tn]; omega)
            have hyb : ((y : Int) == 0) = true := by simp; omega
            have HY0 : Hid _ := hy0
            clear hy0
            go_wp2
            go_ret3
            exact ⟨by rw [HE.out]; rfl, rfl⟩
          · have HZ : Hid (1 ≤ 0 + 1 → Cd.tn 0 (r.getD 0 0) ≠ 0) := fun _ => by rw [← HYE.out]; simp [Cd.tn]; omega
            have hyb : ((y : Int) == 0) = false := by simp; omega
            have HY0 : Hid _ := hy0
            clear hy0
            go_wp2
            go_round
            case rel => exact ⟨1, x * 256 + (y), by omega, by go_num, by go_num, by omega, HS.out, fun _ => HZ.out (by omega)⟩
            case measure => simp [intOf]; omega
        · have hjb : (((j : Int) + 1) == 1) = false := by simp; omega
          have HZ : Hid (Cd.tn 0 (r.getD 0 0) ≠ 0) := hz.out (by omega)
          have HJ : Hid _ := hj0
          clear hj0
          go_wp2
          go_round
          case rel => exact ⟨j + 1, x * 256 + (y), by omega, by go_num, by go_num, by omega, HS.out, fun _ => HZ.out⟩
          case measure => simp [intOf]; omega
      · obtain rfl : j = k := by omega
        have HZ : Hid (Cd.tn 0 (r.getD 0 0) ≠ 0) := hz.out (by omega)
        by_cases h2 : 9223372036854775807 < x
        · have HE : Hid (Cd.long j 0 r = (0, 0, 11)) := Cd.long_over H1.out (by rw [← hx.out]; exact h2)
          go_wp2
          go_ret3
          exact ⟨by rw [HE.out]; rfl, rfl⟩
        · have h2' : x ≤ 9223372036854775807 := by omega
          clear h2
          by_cases h3 : -100 ≤ x ∧ x ≤ 100
          · have HE : Hid (Cd.long j 0 r = (0, 0, 11)) := Cd.long_in (by omega) hk HM.out H1.out (by rw [← hx.out]; exact h2') (by simp only [show ((0 : Int) = 255) = False by simp, if_false]; rw [← hx.out]; exact h3)
            obtain ⟨h4, h5⟩ := h3
            go_wp2
            go_ret3
            exact ⟨by rw [HE.out]; rfl, rfl⟩
          · have HE : Hid (Cd.long j 0 r = (x, 1 + (j : Int), 0)) := by
              have e := @Cd.long_out j 0 r (by omega) hk HM.out H1.out (by rw [← hx.out]; exact h2') HZ.out (by simp only [show ((0 : Int) = 255) = False by simp, if_false]; rw [← hx.out]; exact h3)
              simp only [show ((0 : Int) = 255) = False by simp, if_false] at e
              rw [← hx.out] at e
              exact e
            have HKK : Hid (1 + (j : Int) = 1 + (h - 208)) := by have := HK.out; unfold Hid; omega
            have h4 : 100 < x := by omega
            clear h3
            go_wp2
            go_ret3
            exact ⟨by rw [HE.out, HKK.out]; rfl, rfl⟩

set_option maxHeartbeats 2000000 in
theorem parse_255 (b o c len k : Nat) (h : Int) (r : List Int) (w : World) (hlen : len = r.length + 1) (hcap : len ≤ c) (hm : c ≤ 9223372036854775807) (hc0 : w.cell? ⟨b, o, none⟩ = some (.int .u8 h)) (hh : 0 ≤ h ∧ h < 256) (h0 : h < 8) (hkk : (k : Int) = 8 - h) (hk : 1 ≤ k ∧ k ≤ 8)
    (hc : ∀ i, i < r.length → w.cell? ⟨b, o + (i + 1), none⟩ = some (.int .u8 (r.getD i 0))) (hy : ∀ y ∈ r, 0 ≤ y ∧ y < 256) :
    Calls Try.prog 85 #[.slice (some ⟨b, o, none⟩) len c] w fun e w' => e = .returned (three (Cd.long k 255 r)) ∧ w' = w := by
  have HC : Hid (∀ i, i < r.length → w.cell? ⟨b, o + (i + 1), none⟩ = some (.int .u8 (r.getD i 0))) := hc
  have HM : Hid (∀ y ∈ r, 0 ≤ y ∧ y < 256) := hy
  have HL : Hid (len = r.length + 1) := hlen
  have hl2 : ((len : Int) == 0) = false := by simp; omega
  have hl3 : 1 ≤ len := by omega
  have HK : Hid ((k : Int) = 8 - h) := hkk
  have hK1 : (k : Int) ≤ 8 - h := by omega
  have hK2 : 8 - h ≤ (k : Int) := by omega
  by_cases h1 : r.length < k
  · have HE : Hid (Cd.long k 255 r = (0, 0, 10)) := by unfold Hid Cd.long; rw [if_pos h1]
    have hl1 : len ≤ k := by omega
    clear hc hy hlen hkk h1
    go_enter Try.func85, Try.ntmps85
    go_wp2
    go_ret3
    exact ⟨by rw [HE.out]; rfl, rfl⟩
  · have hl1 : k + 1 ≤ len := by omega
    have H1 : Hid (¬ r.length < k) := h1
    clear hc hy hlen hkk h1
    go_enter Try.func85, Try.ntmps85
    go_wp2_with fail
    go_loop [7, 8] (fun u i => ∃ (j : Nat) (x : Int), j ≤ k ∧ i = .int .i64 ((j : Int) + 1) ∧ u = .int .u64 x ∧ 0 ≤ x ∧ Hid (x = Cd.val ((r.take j).map (Cd.tn 255))) ∧ Hid (1 ≤ j → Cd.tn 255 (r.getD 0 0) ≠ 0)) (fun _ i => k + 1 - (intOf i).toNat)
    case atStart => exact ⟨0, 0, Nat.zero_le _, rfl, rfl, by omega, rfl, fun a => by omega⟩
    case round =>
      obtain ⟨j, x, hj, rfl, rfl, hx0, hx, hz⟩ := hrel
      by_cases hlt : j < k
      · have hjr : j < r.length := by have := H1.out; omega
        have hcell := HC.out j hjr
        obtain ⟨y, hye⟩ : ∃ y, y = r.getD j 0 := ⟨_, rfl⟩
        have hby : 0 ≤ y ∧ y < 256 := by
          rw [hye]
          have := HM.out r[j] (List.getElem_mem hjr)
          simpa [List.getD, hjr] using this
        rw [← hye] at hcell
        have HYE : Hid (y = r.getD j 0) := hye
        clear hye
        have hx2 : x < 72057594037927936 := by rw [hx.out]; exact val_small r 255 j HM.out (by omega)
        have HS : Hid (x * 256 + (255 - y) = Cd.val ((r.take (j + 1)).map (Cd.tn 255))) := by
          unfold Hid
          rw [val_step r 255 j hjr, ← hx.out, ← HYE.out]
          simp [Cd.tn]
        by_cases hj0 : j = 0
        · subst hj0
          by_cases hy0 : 255 - y = 0
          · have HE : Hid (Cd.long k 255 r = (0, 0, 11)) := Cd.long_zero (by omega) hk HM.out H1.out (by rw [← HYE.out]; simp [Cd.tn]; omega)
            have hyb : ((255 - y : Int) == 0) = true := by simp; omega
            have HY0 : Hid _ := hy0
            clear hy0
            go_wp2
            go_ret3
            exact ⟨by rw [HE.out]; rfl, rfl⟩
          · have HZ : Hid (1 ≤ 0 + 1 → Cd.tn 255 (r.getD 0 0) ≠ 0) := fun _ => by rw [← HYE.out]; simp [Cd.tn]; omega
            have hyb : ((255 - y : Int) == 0) = false := by simp; omega
            have HY0 : Hid _ := hy0
            clear hy0
            go_wp2
            go_round
            case rel => exact ⟨1, x * 256 + (255 - y), by omega, by go_num, by go_num, by omega, HS.out, fun _ => HZ.out (by omega)⟩
            case measure => simp [intOf]; omega
        · have hjb : (((j : Int) + 1) == 1) = false := by simp; omega
          have HZ : Hid (Cd.tn 255 (r.getD 0 0) ≠ 0) := hz.out (by omega)
          have HJ : Hid _ := hj0
          clear hj0
          go_wp2
          go_round
          case rel => exact ⟨j + 1, x * 256 + (255 - y), by omega, by go_num, by go_num, by omega, HS.out, fun _ => HZ.out⟩
          case measure => simp [intOf]; omega
      · obtain rfl : j = k := by omega
        have HZ : Hid (Cd.tn 255 (r.getD 0 0) ≠ 0) := hz.out (by omega)
        by_cases h2 : 9223372036854775807 < x
        · have HE : Hid (Cd.long j 255 r = (0, 0, 11)) := Cd.long_over H1.out (by rw [← hx.out]; exact h2)
          go_wp2
          go_ret3
          exact ⟨by rw [HE.out]; rfl, rfl⟩
        · have h2' : x ≤ 9223372036854775807 := by omega
          clear h2
          by_cases h3 : -100 ≤ -1 - x ∧ -1 - x ≤ 100
          · have HE : Hid (Cd.long j 255 r = (0, 0, 11)) := Cd.long_in (by omega) hk HM.out H1.out (by rw [← hx.out]; exact h2') (by simp only [if_true]; rw [← hx.out]; exact h3)
            obtain ⟨h4, h5⟩ := h3
            go_wp2
            go_ret3
            exact ⟨by rw [HE.out]; rfl, rfl⟩
          · have HE : Hid (Cd.long j 255 r = (-1 - x, 1 + (j : Int), 0)) := by
              have e := @Cd.long_out j 255 r (by omega) hk HM.out H1.out (by rw [← hx.out]; exact h2') HZ.out (by simp only [if_true]; rw [← hx.out]; exact h3)
              simp only [if_true] at e
              rw [← hx.out] at e
              exact e
            have HKK : Hid (1 + (j : Int) = 1 + (8 - h)) := by have := HK.out; unfold Hid; omega
            have h4 : -1 - x < -100 := by omega
            clear h3
            go_wp2
            go_ret3
            exact ⟨by rw [HE.out, HKK.out]; rfl, rfl⟩

set_option maxHeartbeats 400000 in
/-- cressetref01.ParseInt. -/
theorem parse_any (p : Option Addr) (c len : Nat) (xs : List Int) (w : World) (hlen : xs.length = len) (hx : Bys w p xs) (hcap : len ≤ c) (hm : c ≤ 9223372036854775807) (hy : ∀ y ∈ xs, 0 ≤ y ∧ y < 256) :
    Calls Try.prog 85 #[.slice p len c] w fun e w' => e = .returned (three (Cd.dec xs)) ∧ w' = w := by
  match xs, hlen, hx, hy with
  | [], hlen, _, _ =>
    simp at hlen
    subst hlen
    go_enter Try.func85, Try.ntmps85
    go_wp2
    go_ret3
    exact ⟨rfl, rfl⟩
  | h :: r, hlen, hx, hy =>
    obtain ⟨b, o, rfl, hc⟩ := hx (by simp)
    have HT : Hid (∀ i, i < r.length → w.cell? ⟨b, o + (i + 1), none⟩ = some (.int .u8 (r.getD i 0))) := cells_tail hc
    have hc0 : w.cell? ⟨b, o, none⟩ = some (.int .u8 h) := by simpa using hc 0 (by simp)
    have HY : Hid (∀ y ∈ r, 0 ≤ y ∧ y < 256) := fun y hm => hy y (by simp [hm])
    have hh := hy h (by simp)
    have HL : Hid (len = r.length + 1) := by simpa [Hid] using hlen.symm
    have hl1 : 1 ≤ len := by simp at hlen; omega
    have hl2 : ((len : Int) == 0) = false := by simp; omega
    clear hx hc hy hlen
    rcases (show 216 < h ∨ (208 < h ∧ h ≤ 216) ∨ h < 8 ∨ (8 ≤ h ∧ h ≤ 208) by omega) with a | ⟨a, b1⟩ | a | ⟨a, b1⟩
    · have HE : Hid (Cd.dec (h :: r) = (0, 0, 11)) := by unfold Hid; rw [Cd.dec_cons, if_pos a]
      go_enter Try.func85, Try.ntmps85
      go_wp2
      go_ret3
      exact ⟨by rw [HE.out]; rfl, rfl⟩
    · rw [show Cd.dec (h :: r) = Cd.long (h - 208).toNat 0 r by rw [Cd.dec_cons, if_neg (by omega), if_pos a]]
      exact parse_0 b o c len (h - 208).toNat h r w HL.out hcap hm hc0 hh a b1 (by omega) (by omega) HT.out HY.out
    · rw [show Cd.dec (h :: r) = Cd.long (8 - h).toNat 255 r by rw [Cd.dec_cons, if_neg (by omega), if_neg (by omega), if_pos a]]
      exact parse_255 b o c len (8 - h).toNat h r w HL.out hcap hm hc0 hh a (by omega) (by omega) HT.out HY.out
    · have HE : Hid (Cd.dec (h :: r) = (h - 108, 1, 0)) := by unfold Hid; rw [Cd.dec_cons, if_neg (by omega), if_neg (by omega), if_neg (by omega)]
      go_enter Try.func85, Try.ntmps85
      go_wp2
      go_ret3
      exact ⟨by rw [HE.out]; rfl, rfl⟩
end Go.Proofs.Ytlfgclmgpbaenaa
