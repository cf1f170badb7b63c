import Derived.Test.YtlfgclmgpbaenaaInt
import Derived.Test.YtlfgclmgpbaenaaByts
import Derived.Test.YtlfgclmgpbaenaaDecFacts
namespace Go.Proofs.Ytlfgclmgpbaenaa
open Go.RowKit
set_option linter.unusedVariables false
set_option maxRecDepth 100000

theorem bys_part {w : World} {b o : Nat} {xs : List Int} (h : Bys w (some ⟨b, o, none⟩) xs) (s n : Nat) (hn : s + n ≤ xs.length) : Bys w (some ⟨b, o + s, none⟩) ((xs.drop s).take n) := by
  intro hl
  simp at hl
  obtain ⟨b', o', e, hc⟩ := h (by omega)
  simp at e
  obtain ⟨rfl, rfl⟩ := e
  refine ⟨b, o + s, rfl, fun i hi => ?_⟩
  simp at hi
  rw [Nat.add_assoc, hc (s + i) (by omega)]
  simp [List.getD, show i < n by omega]

set_option maxHeartbeats 1000000 in
/-- codec.Text. -/
theorem text_any (p : Option Addr) (c len : Nat) (xs : List Int) (w : World) (hlen : xs.length = len) (hx : Bys w p xs) (hcap : len ≤ c) (hm : c ≤ 9223372036854775807) (hy : ∀ y ∈ xs, 0 ≤ y ∧ y < 256) :
    Calls Try.prog 91 #[.slice p len c] w fun e w' => e = .returned (.tuple #[.string (strOfNums (Cd.decT xs).1), .int .i64 (Cd.decT xs).2.1, .int .i64 (Cd.decT xs).2.2]) ∧ w' = w := by
  have HX : Hid (Bys w p xs) := hx
  have HL : Hid (xs.length = len) := hlen
  have HY : Hid (∀ y ∈ xs, 0 ≤ y ∧ y < 256) := hy
  have hf := Cd.dec_facts xs hy
  obtain ⟨T, hT⟩ : ∃ T, T = Cd.decT xs := ⟨_, rfl⟩
  have HT : Hid (T = Cd.decT xs) := hT
  unfold Cd.decT at HT
  rw [← hT]
  clear hT
  obtain ⟨D, hD⟩ : ∃ D, Cd.dec xs = D := ⟨_, rfl⟩
  rw [hD] at HT hf
  have HD : Hid (Cd.dec xs = D) := hD
  obtain ⟨d1, d2, d3⟩ := D
  simp only at HT hf
  rw [hlen] at hf HT
  clear hx hlen hy hD
  by_cases h3 : d3 = 0
  · subst h3
    have hf1 : 1 ≤ d2 ∧ d2 ≤ 9 ∧ d2 ≤ (len : Int) ∧ -9223372036854775808 ≤ d1 ∧ d1 ≤ 9223372036854775807 := by omega
    clear hf
    by_cases hneg : d1 < 0
    · have HR : Hid (T = ([], 0, 11)) := by
        have := HT.out
        simpa [Hid, hneg] using this
      clear HT
      go_enter Try.func91, Try.ntmps91
      go_wp2_with fail
      refine (int_any p c len xs _ HL.out HX.out hcap hm HY.out).mono ?_
      rintro e w1 ⟨rfl, hw1⟩
      subst hw1
      rw [HD.out]
      unfold three
      go_wp2
      go_ret3
      rw [HR.out]
      exact ⟨rfl, rfl⟩
    · by_cases hlong : d1 > (len : Int) - d2
      · have HR : Hid (T = ([], 0, 10)) := by
          have := HT.out
          simpa [Hid, hneg, hlong] using this
        clear HT
        go_enter Try.func91, Try.ntmps91
        go_wp2_with fail
        refine (int_any p c len xs _ HL.out HX.out hcap hm HY.out).mono ?_
        rintro e w1 ⟨rfl, hw1⟩
        subst hw1
        rw [HD.out]
        unfold three
        go_wp2
        go_ret3
        rw [HR.out]
        exact ⟨rfl, rfl⟩
      · obtain ⟨s, rfl⟩ := Int.eq_ofNat_of_zero_le (show 0 ≤ d2 by omega)
        obtain ⟨n, rfl⟩ := Int.eq_ofNat_of_zero_le (show 0 ≤ d1 by omega)
        have HR : Hid (T = ((xs.drop s).take n, (s : Int) + n, 0)) := by
          have := HT.out
          simpa [Hid, hneg, hlong] using this
        clear HT
        obtain ⟨b, o, rfl, hc0⟩ := HX.out (by rw [HL.out]; omega)
        clear hc0
        by_cases hcs : c = s
        · subst hcs
          obtain rfl : n = 0 := by omega
          have k1 := conv_str (Bys.nil w (some ⟨b, o, none⟩)) 0 0 rfl
          go_enter Try.func91, Try.ntmps91
          go_wp2_with fail
          refine (int_any (some ⟨b, o, none⟩) c len xs _ HL.out HX.out hcap hm HY.out).mono ?_
          rintro e w1 ⟨rfl, hw1⟩
          subst hw1
          rw [HD.out]
          unfold three
          go_wp2
          go_ret3
          rw [HR.out]
          exact ⟨rfl, rfl⟩
        · have k1 := conv_str (bys_part HX.out s n (by rw [HL.out]; omega)) n (c - s) (by simp [HL.out]; omega)
          have hcs' : s < c := by omega
          have HCS : Hid _ := hcs
          clear hcs
          go_enter Try.func91, Try.ntmps91
          go_wp2_with fail
          refine (int_any (some ⟨b, o, none⟩) c len xs _ HL.out HX.out hcap hm HY.out).mono ?_
          rintro e w1 ⟨rfl, hw1⟩
          subst hw1
          rw [HD.out]
          unfold three
          go_wp2
          go_ret3
          rw [HR.out]
          exact ⟨rfl, rfl⟩
  · have hf1 : d1 = 0 ∧ d2 = 0 ∧ (d3 = 10 ∨ d3 = 11) := by omega
    obtain ⟨rfl, rfl, h4⟩ := hf1
    have HR : Hid (T = ([], 0, d3)) := by
      have := HT.out
      simpa [Hid, h3] using this
    have hb : (d3 != 0) = true := by simpa using h3
    clear hf HT h3
    have h5 : 1 ≤ d3 := by omega
    have H4 : Hid _ := h4
    clear h4
    go_enter Try.func91, Try.ntmps91
    go_wp2_with fail
    refine (int_any p c len xs _ HL.out HX.out hcap hm HY.out).mono ?_
    rintro e w1 ⟨rfl, hw1⟩
    subst hw1
    rw [HD.out]
    unfold three
    go_wp2
    go_ret3
    rw [HR.out]
    exact ⟨rfl, rfl⟩
end Go.Proofs.Ytlfgclmgpbaenaa
