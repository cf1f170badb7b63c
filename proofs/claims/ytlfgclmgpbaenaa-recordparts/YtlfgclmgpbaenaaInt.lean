import Derived.Test.YtlfgclmgpbaenaaReads
import Derived.Test.YtlfgclmgpbaenaaDec
namespace Go.Proofs.Ytlfgclmgpbaenaa
open Go.RowKit
set_option linter.unusedVariables false
set_option maxRecDepth 100000

/-- Three numbers as Go hands them back. -/
def three (x : Int × Int × Int) : Value := .tuple #[.int .i64 x.1, .int .i64 x.2.1, .int .i64 x.2.2]


set_option maxHeartbeats 400000 in
theorem longInt_0 (b o c : Nat) (kk : Int) (len : Nat) (r : List Int) (w : World) (hk : 1 ≤ kk ∧ kk ≤ 8) (hlen : len = r.length + 1) (hcap : len ≤ c) (hm : c ≤ 9223372036854775807)
    (hc : ∀ i, i < r.length → w.cell? ⟨b, o + (i + 1), none⟩ = some (.int .u8 (r.getD i 0))) (hy : ∀ y ∈ r, 0 ≤ y ∧ y < 256) :
    Calls Try.prog 92 #[.slice (some ⟨b, o, none⟩) len c, .int .i64 kk, .int .u8 0] w fun e w' => e = .returned (three (Cd.long kk.toNat 0 r)) ∧ w' = w := by
  obtain ⟨k, rfl⟩ := Int.eq_ofNat_of_zero_le (show 0 ≤ kk by omega)
  rw [Int.toNat_natCast]
  subst hlen
  have HC : Hid (∀ i, i < r.length → w.cell? ⟨b, o + (i + 1), none⟩ = some (.int .u8 (r.getD i 0))) := hc
  have HM : Hid (∀ y ∈ r, 0 ≤ y ∧ y < 256) := hy
  clear hc hy
  by_cases h1 : r.length < k
  · have HE : Hid (Cd.long k 0 r = (0, 0, 10)) := by unfold Hid Cd.long; rw [if_pos h1]
    go_enter Try.func92, Try.ntmps92
    go_wp2
    go_ret3
    exact ⟨by rw [HE.out]; rfl, rfl⟩
  · have hb0 := Cd.long_val_bd r k 0 HM.out
    obtain ⟨M, hMe⟩ : ∃ M, M = Cd.val ((r.take k).map (Cd.tn 0)) := ⟨_, rfl⟩
    rw [← hMe] at hb0
    have HME : Hid (M = Cd.val ((r.take k).map (Cd.tn 0))) := hMe
    clear hMe
    have num := fun w => number_any b (o + 1) (c - 1) k (r.take k) 0 w (by simp; omega) (by omega)
    have HN : Hid _ := num
    clear num
    go_enter Try.func92, Try.ntmps92
    go_wp2_with fail
    refine (HN.out _ (by
      intro i hi
      have := HC.out i (by omega)
      rw [show o + 1 + i = o + (i + 1) by omega, this]
      simp [List.getD, hi]) (by
      intro i hi
      have hi2 : i < r.length := by omega
      have := HM.out r[i] (List.getElem_mem hi2)
      simpa [List.getD, hi, List.getElem?_take, hi2] using this) (by simp)).mono ?_
    rintro e w' ⟨rfl, rfl⟩
    rw [← HME.out]
    by_cases h2 : 9223372036854775807 < M
    · have HR : Hid (Cd.long k 0 r = (0, 0, 11)) := Cd.long_over h1 (by rw [← HME.out]; exact h2)
      go_wp2
      go_ret3
      exact ⟨by rw [HR.out]; rfl, rfl⟩
    · have h2' : M ≤ 9223372036854775807 := by omega
      clear h2
      go_wp2_with fail
      refine (width_any (M) _ (by omega) (by omega)).mono ?_
      rintro e w1 ⟨rfl, rfl⟩
      obtain ⟨q, hq⟩ : ∃ q : Nat, q = Cd.width (M) := ⟨_, rfl⟩
      have HQ : Hid (q = Cd.width (M)) := hq
      rw [← hq]
      clear hq
      by_cases h3 : q = 1 + k
      · have HR : Hid (Cd.long k 0 r = (M, 1 + (k : Int), 0)) := by
          have e := @Cd.long_good0 k r h1 (by rw [← HME.out]; exact h2') (by rw [← HME.out, ← HQ.out]; exact h3)
          rw [← HME.out] at e
          exact e
        have hb : ((q : Int) != 1 + (k : Int)) = false := by simp; omega
        go_wp2
        go_ret3
        exact ⟨by rw [HR.out]; rfl, rfl⟩
      · have HR : Hid (Cd.long k 0 r = (0, 0, 11)) := Cd.long_bad0 h1 (by rw [← HME.out]; exact h2') (by rw [← HME.out, ← HQ.out]; exact h3)
        have hb : ((q : Int) != 1 + (k : Int)) = true := by simp; omega
        go_wp2
        go_ret3
        exact ⟨by rw [HR.out]; rfl, rfl⟩

set_option maxHeartbeats 400000 in
theorem longInt_255 (b o c : Nat) (kk : Int) (len : Nat) (r : List Int) (w : World) (hk : 1 ≤ kk ∧ kk ≤ 8) (hlen : len = r.length + 1) (hcap : len ≤ c) (hm : c ≤ 9223372036854775807)
    (hc : ∀ i, i < r.length → w.cell? ⟨b, o + (i + 1), none⟩ = some (.int .u8 (r.getD i 0))) (hy : ∀ y ∈ r, 0 ≤ y ∧ y < 256) :
    Calls Try.prog 92 #[.slice (some ⟨b, o, none⟩) len c, .int .i64 kk, .int .u8 255] w fun e w' => e = .returned (three (Cd.long kk.toNat 255 r)) ∧ w' = w := by
  obtain ⟨k, rfl⟩ := Int.eq_ofNat_of_zero_le (show 0 ≤ kk by omega)
  rw [Int.toNat_natCast]
  subst hlen
  have HC : Hid (∀ i, i < r.length → w.cell? ⟨b, o + (i + 1), none⟩ = some (.int .u8 (r.getD i 0))) := hc
  have HM : Hid (∀ y ∈ r, 0 ≤ y ∧ y < 256) := hy
  clear hc hy
  by_cases h1 : r.length < k
  · have HE : Hid (Cd.long k 255 r = (0, 0, 10)) := by unfold Hid Cd.long; rw [if_pos h1]
    go_enter Try.func92, Try.ntmps92
    go_wp2
    go_ret3
    exact ⟨by rw [HE.out]; rfl, rfl⟩
  · have hb0 := Cd.long_val_bd r k 255 HM.out
    obtain ⟨M, hMe⟩ : ∃ M, M = Cd.val ((r.take k).map (Cd.tn 255)) := ⟨_, rfl⟩
    rw [← hMe] at hb0
    have HME : Hid (M = Cd.val ((r.take k).map (Cd.tn 255))) := hMe
    clear hMe
    have num := fun w => number_any b (o + 1) (c - 1) k (r.take k) 255 w (by simp; omega) (by omega)
    have HN : Hid _ := num
    clear num
    go_enter Try.func92, Try.ntmps92
    go_wp2_with fail
    refine (HN.out _ (by
      intro i hi
      have := HC.out i (by omega)
      rw [show o + 1 + i = o + (i + 1) by omega, this]
      simp [List.getD, hi]) (by
      intro i hi
      have hi2 : i < r.length := by omega
      have := HM.out r[i] (List.getElem_mem hi2)
      simpa [List.getD, hi, List.getElem?_take, hi2] using this) (by simp)).mono ?_
    rintro e w' ⟨rfl, rfl⟩
    rw [← HME.out]
    by_cases h2 : 9223372036854775807 < M
    · have HR : Hid (Cd.long k 255 r = (0, 0, 11)) := Cd.long_over h1 (by rw [← HME.out]; exact h2)
      go_wp2
      go_ret3
      exact ⟨by rw [HR.out]; rfl, rfl⟩
    · have h2' : M ≤ 9223372036854775807 := by omega
      clear h2
      go_wp2_with fail
      refine (width_any (-1 - M) _ (by omega) (by omega)).mono ?_
      rintro e w1 ⟨rfl, rfl⟩
      obtain ⟨q, hq⟩ : ∃ q : Nat, q = Cd.width (-1 - M) := ⟨_, rfl⟩
      have HQ : Hid (q = Cd.width (-1 - M)) := hq
      rw [← hq]
      clear hq
      by_cases h3 : q = 1 + k
      · have HR : Hid (Cd.long k 255 r = (-1 - M, 1 + (k : Int), 0)) := by
          have e := @Cd.long_good255 k r h1 (by rw [← HME.out]; exact h2') (by rw [← HME.out, ← HQ.out]; exact h3)
          rw [← HME.out] at e
          exact e
        have hb : ((q : Int) != 1 + (k : Int)) = false := by simp; omega
        go_wp2
        go_ret3
        exact ⟨by rw [HR.out]; rfl, rfl⟩
      · have HR : Hid (Cd.long k 255 r = (0, 0, 11)) := Cd.long_bad255 h1 (by rw [← HME.out]; exact h2') (by rw [← HME.out, ← HQ.out]; exact h3)
        have hb : ((q : Int) != 1 + (k : Int)) = true := by simp; omega
        go_wp2
        go_ret3
        exact ⟨by rw [HR.out]; rfl, rfl⟩

theorem cells_tail {w : World} {b o : Nat} {h : Int} {r : List Int} (hc : ∀ i, i < (h :: r).length → w.cell? ⟨b, o + i, none⟩ = some (.int .u8 ((h :: r).getD i 0))) :
    ∀ i, i < r.length → w.cell? ⟨b, o + (i + 1), none⟩ = some (.int .u8 (r.getD i 0)) := by
  intro i hi
  have := hc (i + 1) (by simp; omega)
  rw [this]
  simp [List.getD]

set_option maxHeartbeats 400000 in
/-- codec.Int. -/
theorem int_any (p : Option Addr) (c len : Nat) (xs : List Int) (w : World) (hlen : xs.length = len) (hx : Bys w p xs) (hcap : len ≤ c) (hm : c ≤ 9223372036854775807) (hy : ∀ y ∈ xs, 0 ≤ y ∧ y < 256) :
    Calls Try.prog 84 #[.slice p len c] w fun e w' => e = .returned (three (Cd.dec xs)) ∧ w' = w := by
  match xs, hlen, hx, hy with
  | [], hlen, _, _ =>
    simp at hlen
    subst hlen
    go_enter Try.func84, Try.ntmps84
    go_wp2
    go_ret3
    exact ⟨rfl, rfl⟩
  | h :: r, hlen, hx, hy =>
    obtain ⟨b, o, rfl, hc⟩ := hx (by simp)
    have HT : Hid (∀ i, i < r.length → w.cell? ⟨b, o + (i + 1), none⟩ = some (.int .u8 (r.getD i 0))) := cells_tail hc
    have hc0 : w.cell? ⟨b, o, none⟩ = some (.int .u8 h) := by simpa using hc 0 (by simp)
    have HY : Hid (∀ y ∈ r, 0 ≤ y ∧ y < 256) := fun y hm => hy y (by simp [hm])
    have hh := hy h (by simp)
    have HL : Hid (len = r.length + 1) := by simpa [Hid] using hlen.symm
    have hl1 : 1 ≤ len := by simp at hlen; omega
    have hl2 : ((len : Int) == 0) = false := by simp; omega
    clear hx hc hy hlen
    rcases (show 216 < h ∨ (208 < h ∧ h ≤ 216) ∨ h < 8 ∨ (8 ≤ h ∧ h ≤ 208) by omega) with a | ⟨a, b1⟩ | a | ⟨a, b1⟩
    · have HE : Hid (Cd.dec (h :: r) = (0, 0, 11)) := by unfold Hid; rw [Cd.dec_cons, if_pos a]
      go_enter Try.func84, Try.ntmps84
      go_wp2
      go_ret3
      exact ⟨by rw [HE.out]; rfl, rfl⟩
    · have HE : Hid (Cd.dec (h :: r) = Cd.long (h - 208).toNat 0 r) := by unfold Hid; rw [Cd.dec_cons, if_neg (by omega), if_pos a]
      go_enter Try.func84, Try.ntmps84
      go_wp2_with fail
      refine (longInt_0 b o c _ len r _ (by omega) HL.out hcap hm HT.out HY.out).mono ?_
      rintro e w' ⟨rfl, rfl⟩
      rw [← HE.out]
      unfold three
      go_wp2
      go_ret3
      exact ⟨rfl, rfl⟩
    · have HE : Hid (Cd.dec (h :: r) = Cd.long (8 - h).toNat 255 r) := by unfold Hid; rw [Cd.dec_cons, if_neg (by omega), if_neg (by omega), if_pos a]
      go_enter Try.func84, Try.ntmps84
      go_wp2_with fail
      refine (longInt_255 b o c _ len r _ (by omega) HL.out hcap hm HT.out HY.out).mono ?_
      rintro e w' ⟨rfl, rfl⟩
      rw [← HE.out]
      unfold three
      go_wp2
      go_ret3
      exact ⟨rfl, rfl⟩
    · have HE : Hid (Cd.dec (h :: r) = (h - 108, 1, 0)) := by unfold Hid; rw [Cd.dec_cons, if_neg (by omega), if_neg (by omega), if_neg (by omega)]
      go_enter Try.func84, Try.ntmps84
      go_wp2
      go_ret3
      exact ⟨by rw [HE.out]; rfl, rfl⟩
end Go.Proofs.Ytlfgclmgpbaenaa
