import Derived.Test.YtlfgclmgpbaenaaText
import Derived.Test.YtlfgclmgpbaenaaPutFlag
import Derived.Test.YtlfgclmgpbaenaaRefParse
namespace Go.Proofs.Ytlfgclmgpbaenaa
open Go.RowKit
set_option linter.unusedVariables false
set_option maxRecDepth 100000

set_option maxHeartbeats 1000000 in
/-- codec.Flag. -/
theorem flag_any (p : Option Addr) (c len : Nat) (xs : List Int) (w : World) (hlen : xs.length = len) (hx : Bys w p xs) (hcap : len ≤ c) (hm : c ≤ 9223372036854775807) (hy : ∀ y ∈ xs, 0 ≤ y ∧ y < 256) :
    Calls Try.prog 87 #[.slice p len c] w fun e w' => e = .returned (.tuple #[.bool (Cd.decF xs).1, .int .i64 (Cd.decF xs).2.1, .int .i64 (Cd.decF xs).2.2]) ∧ w' = w := by
  have HX : Hid (Bys w p xs) := hx
  have HL : Hid (xs.length = len) := hlen
  have HY : Hid (∀ y ∈ xs, 0 ≤ y ∧ y < 256) := hy
  have hf := Cd.dec_facts xs hy
  obtain ⟨T, hT⟩ : ∃ T, T = Cd.decF xs := ⟨_, rfl⟩
  have HT : Hid (T = Cd.decF xs) := hT
  unfold Cd.decF at HT
  rw [← hT]
  clear hT
  obtain ⟨D, hD⟩ : ∃ D, Cd.dec xs = D := ⟨_, rfl⟩
  rw [hD] at HT hf
  have HD : Hid (Cd.dec xs = D) := hD
  obtain ⟨d1, d2, d3⟩ := D
  simp only at HT hf
  rw [hlen] at hf
  clear hx hlen hy hD
  by_cases h3 : d3 = 0
  · subst h3
    have hf1 : 1 ≤ d2 ∧ d2 ≤ 9 := by omega
    clear hf
    rcases (show d1 = 0 ∨ d1 = 1 ∨ (d1 ≠ 0 ∧ d1 ≠ 1) by omega) with rfl | rfl | ⟨ha, hb⟩
    · have HR : Hid (T = (false, d2, 0)) := by
        have := HT.out
        simpa [Hid] using this
      clear HT
      go_enter Try.func87, Try.ntmps87
      go_wp2_with fail
      refine (int_any p c len xs _ HL.out HX.out hcap hm HY.out).mono ?_
      rintro e w1 ⟨rfl, hw1⟩
      subst hw1
      rw [HD.out]
      unfold three
      go_wp2
      go_ret3
      rw [HR.out]
      exact ⟨rfl, rfl⟩
    · have HR : Hid (T = (true, d2, 0)) := by
        have := HT.out
        simpa [Hid] using this
      clear HT
      go_enter Try.func87, Try.ntmps87
      go_wp2_with fail
      refine (int_any p c len xs _ HL.out HX.out hcap hm HY.out).mono ?_
      rintro e w1 ⟨rfl, hw1⟩
      subst hw1
      rw [HD.out]
      unfold three
      go_wp2
      go_ret3
      rw [HR.out]
      exact ⟨rfl, rfl⟩
    · have HR : Hid (T = (false, 0, 11)) := by
        have := HT.out
        simpa [Hid, ha, hb] using this
      have hb0 : (d1 != 0) = true := by simpa using ha
      have hb1 : (d1 != 1) = true := by simpa using hb
      clear HT ha hb
      go_enter Try.func87, Try.ntmps87
      go_wp2_with fail
      refine (int_any p c len xs _ HL.out HX.out hcap hm HY.out).mono ?_
      rintro e w1 ⟨rfl, hw1⟩
      subst hw1
      rw [HD.out]
      unfold three
      go_wp2
      go_ret3
      rw [HR.out]
      exact ⟨rfl, rfl⟩
  · have hf1 : d1 = 0 ∧ d2 = 0 ∧ (d3 = 10 ∨ d3 = 11) := by omega
    obtain ⟨rfl, rfl, h4⟩ := hf1
    have HR : Hid (T = (false, 0, d3)) := by
      have := HT.out
      simpa [Hid, h3] using this
    have hb : (d3 != 0) = true := by simpa using h3
    have hb2 : (d3 == 0) = false := by simpa using h3
    clear hf HT h3
    have h5 : 1 ≤ d3 := by omega
    have H4 : Hid _ := h4
    clear h4
    (
      go_enter Try.func87, Try.ntmps87
      go_wp2_with fail
      refine (int_any p c len xs _ HL.out HX.out hcap hm HY.out).mono ?_
      rintro e w1 ⟨rfl, hw1⟩
      subst hw1
      rw [HD.out]
      unfold three
      go_wp2
      go_ret3
      rw [HR.out]
      exact ⟨rfl, rfl⟩
    )

set_option maxHeartbeats 1000000 in
/-- cressetref01.ParseFlag. -/
theorem parseFlag_any (p : Option Addr) (c len : Nat) (xs : List Int) (w : World) (hlen : xs.length = len) (hx : Bys w p xs) (hcap : len ≤ c) (hm : c ≤ 9223372036854775807) (hy : ∀ y ∈ xs, 0 ≤ y ∧ y < 256) :
    Calls Try.prog 88 #[.slice p len c] w fun e w' => e = .returned (.tuple #[.bool (Cd.decF xs).1, .int .i64 (Cd.decF xs).2.1, .int .i64 (Cd.decF xs).2.2]) ∧ w' = w := by
  have HX : Hid (Bys w p xs) := hx
  have HL : Hid (xs.length = len) := hlen
  have HY : Hid (∀ y ∈ xs, 0 ≤ y ∧ y < 256) := hy
  have hf := Cd.dec_facts xs hy
  obtain ⟨T, hT⟩ : ∃ T, T = Cd.decF xs := ⟨_, rfl⟩
  have HT : Hid (T = Cd.decF xs) := hT
  unfold Cd.decF at HT
  rw [← hT]
  clear hT
  obtain ⟨D, hD⟩ : ∃ D, Cd.dec xs = D := ⟨_, rfl⟩
  rw [hD] at HT hf
  have HD : Hid (Cd.dec xs = D) := hD
  obtain ⟨d1, d2, d3⟩ := D
  simp only at HT hf
  rw [hlen] at hf
  clear hx hlen hy hD
  by_cases h3 : d3 = 0
  · subst h3
    have hf1 : 1 ≤ d2 ∧ d2 ≤ 9 := by omega
    clear hf
    rcases (show d1 = 0 ∨ d1 = 1 ∨ (d1 ≠ 0 ∧ d1 ≠ 1) by omega) with rfl | rfl | ⟨ha, hb⟩
    · have HR : Hid (T = (false, d2, 0)) := by
        have := HT.out
        simpa [Hid] using this
      clear HT
      go_enter Try.func88, Try.ntmps88
      go_wp2_with fail
      refine (parse_any p c len xs _ HL.out HX.out hcap hm HY.out).mono ?_
      rintro e w1 ⟨rfl, hw1⟩
      subst hw1
      rw [HD.out]
      unfold three
      go_wp2
      go_ret3
      rw [HR.out]
      exact ⟨rfl, rfl⟩
    · have HR : Hid (T = (true, d2, 0)) := by
        have := HT.out
        simpa [Hid] using this
      clear HT
      go_enter Try.func88, Try.ntmps88
      go_wp2_with fail
      refine (parse_any p c len xs _ HL.out HX.out hcap hm HY.out).mono ?_
      rintro e w1 ⟨rfl, hw1⟩
      subst hw1
      rw [HD.out]
      unfold three
      go_wp2
      go_ret3
      rw [HR.out]
      exact ⟨rfl, rfl⟩
    · have HR : Hid (T = (false, 0, 11)) := by
        have := HT.out
        simpa [Hid, ha, hb] using this
      have hb0 : (d1 != 0) = true := by simpa using ha
      have hb1 : (d1 != 1) = true := by simpa using hb
      clear HT ha hb
      go_enter Try.func88, Try.ntmps88
      go_wp2_with fail
      refine (parse_any p c len xs _ HL.out HX.out hcap hm HY.out).mono ?_
      rintro e w1 ⟨rfl, hw1⟩
      subst hw1
      rw [HD.out]
      unfold three
      go_wp2
      go_ret3
      rw [HR.out]
      exact ⟨rfl, rfl⟩
  · have hf1 : d1 = 0 ∧ d2 = 0 ∧ (d3 = 10 ∨ d3 = 11) := by omega
    obtain ⟨rfl, rfl, h4⟩ := hf1
    have HR : Hid (T = (false, 0, d3)) := by
      have := HT.out
      simpa [Hid, h3] using this
    have hb : (d3 != 0) = true := by simpa using h3
    have hb2 : (d3 == 0) = false := by simpa using h3
    clear hf HT h3
    have h5 : 1 ≤ d3 := by omega
    have H4 : Hid _ := h4
    clear h4
    (
      go_enter Try.func88, Try.ntmps88
      go_wp2_with fail
      refine (parse_any p c len xs _ HL.out HX.out hcap hm HY.out).mono ?_
      rintro e w1 ⟨rfl, hw1⟩
      subst hw1
      rw [HD.out]
      unfold three
      go_wp2
      go_ret3
      rw [HR.out]
      exact ⟨rfl, rfl⟩
    )
end Go.Proofs.Ytlfgclmgpbaenaa
