import Derived.Test.YtmjbfelfdhehbaaText
import Derived.Test.YtmjbfelfdhehbaaRefParse
import Derived.Test.YtmjbfelfdhehbaaRefInt
import Derived.Test.YtmjbfelfdhehbaaApp
namespace Go.Proofs.Ytmjbfelfdhehbaa
open Go.RowKit
set_option linter.unusedVariables false
set_option maxRecDepth 100000

set_option maxHeartbeats 1000000 in
/-- cressetref01.ParseBytes. -/
theorem parseBytes_len (p : Option Addr) (c len : Nat) (xs : List Int) (w : World) (hlen : xs.length = len) (hx : Bys w p xs) (hcap : len ≤ c) (hl47 : len ≤ 140737488355328) (hm : c ≤ 9223372036854775807) (hy : ∀ y ∈ xs, 0 ≤ y ∧ y < 256) :
    Calls Try.prog 80 #[.slice p len c] w fun e w' => ∃ v, e = .returned (.tuple #[v, .int .i64 (Cd.decT xs).2.1, .int .i64 (Cd.decT xs).2.2]) ∧ Own w' w.heap.size v (Cd.decT xs).1.length (Cd.decT xs).1 ∧ Below w.heap.size w w' := by
  have HX : Hid (Bys w p xs) := hx
  have HL : Hid (xs.length = len) := hlen
  have HY : Hid (∀ y ∈ xs, 0 ≤ y ∧ y < 256) := hy
  have hf := Cd.dec_facts xs hy
  obtain ⟨T, hT⟩ : ∃ T, T = Cd.decT xs := ⟨_, rfl⟩
  have HT : Hid (T = Cd.decT xs) := hT
  unfold Cd.decT at HT
  rw [← hT]
  clear hT
  obtain ⟨D, hD⟩ : ∃ D, Cd.dec xs = D := ⟨_, rfl⟩
  rw [hD] at HT hf
  have HD : Hid (Cd.dec xs = D) := hD
  obtain ⟨d1, d2, d3⟩ := D
  simp only at HT hf
  rw [hlen] at hf HT
  clear hx hlen hy hD
  by_cases h3 : d3 = 0
  · subst h3
    have hf1 : 1 ≤ d2 ∧ d2 ≤ 9 ∧ d2 ≤ (len : Int) ∧ -9223372036854775808 ≤ d1 ∧ d1 ≤ 9223372036854775807 := by omega
    clear hf
    by_cases hneg : d1 < 0
    · have HR : Hid (T = ([], 0, 11)) := by
        have := HT.out
        simpa [Hid, hneg] using this
      clear HT
      go_enter Try.func80, Try.ntmps80
      go_wp2_with fail
      refine (parse_any p c len xs _ HL.out HX.out hcap (by omega) HY.out).mono ?_
      rintro e w1 ⟨rfl, hw1⟩
      subst hw1
      rw [HD.out]
      unfold three
      go_wp2
      go_ret3
      rw [HR.out]
      exact ⟨_, rfl, World.ownsRow_nil _ _ _ _, Below.refl _ _⟩
    · by_cases hlong : d1 > (len : Int) - d2
      · have HR : Hid (T = ([], 0, 10)) := by
          have := HT.out
          simpa [Hid, hneg, hlong] using this
        clear HT
        go_enter Try.func80, Try.ntmps80
        go_wp2_with fail
        refine (parse_any p c len xs _ HL.out HX.out hcap (by omega) HY.out).mono ?_
        rintro e w1 ⟨rfl, hw1⟩
        subst hw1
        rw [HD.out]
        unfold three
        go_wp2
        go_ret3
        rw [HR.out]
        exact ⟨_, rfl, World.ownsRow_nil _ _ _ _, Below.refl _ _⟩
      · obtain ⟨s, rfl⟩ := Int.eq_ofNat_of_zero_le (show 0 ≤ d2 by omega)
        obtain ⟨n, rfl⟩ := Int.eq_ofNat_of_zero_le (show 0 ≤ d1 by omega)
        have HR : Hid (T = ((xs.drop s).take n, (s : Int) + n, 0)) := by
          have := HT.out
          simpa [Hid, hneg, hlong] using this
        clear HT
        obtain ⟨b, o, rfl, hc0⟩ := HX.out (by rw [HL.out]; omega)
        clear hc0
        by_cases hcs : c = s
        · subst hcs
          obtain rfl : n = 0 := by omega
          go_enter Try.func80, Try.ntmps80
          go_wp2_with fail
          refine (parse_any (some ⟨b, o, none⟩) c len xs _ HL.out HX.out hcap (by omega) HY.out).mono ?_
          rintro e w1 ⟨rfl, hw1⟩
          subst hw1
          rw [HD.out]
          unfold three
          go_wp2_with (at_builtin; refine app8 _ rfl _ _ rfl w1.heap.size (.slice none 0 0) 0 [] rfl (World.ownsRow_nil _ _ _ _) (some ⟨b, o, none⟩) 0 0 [] rfl (Bys.nil _ _) rfl (fun h => by cases h) (by omega) (Nat.le_refl _) ?_)
          intro v2 w2 HO2 hb2
          go_wp2
          go_ret3
          rw [HR.out]
          exact ⟨_, rfl, by simpa using HO2, hb2⟩
        · have hcs' : s < c := by omega
          have HCS : Hid _ := hcs
          clear hcs
          go_enter Try.func80, Try.ntmps80
          go_wp2_with fail
          refine (parse_any (some ⟨b, o, none⟩) c len xs _ HL.out HX.out hcap (by omega) HY.out).mono ?_
          rintro e w1 ⟨rfl, hw1⟩
          subst hw1
          rw [HD.out]
          unfold three
          go_wp2_with (at_builtin; refine app8 _ rfl _ _ rfl w1.heap.size (.slice none 0 0) 0 [] rfl (World.ownsRow_nil _ _ _ _) (some ⟨b, o + s, none⟩) (s + n - s) (c - s) ((xs.drop s).take n) rfl (bys_part HX.out s n (by rw [HL.out]; omega)) (by simp [HL.out]; omega) (fun h => by cases h) (by omega) (Nat.le_refl _) ?_)
          intro v2 w2 HO2 hb2
          go_wp2
          go_ret3
          rw [HR.out]
          refine ⟨_, rfl, ?_, hb2⟩
          have hl := HO2.len
          rw [hl]
          exact HO2
  · have hf1 : d1 = 0 ∧ d2 = 0 ∧ (d3 = 10 ∨ d3 = 11) := by omega
    obtain ⟨rfl, rfl, h4⟩ := hf1
    have HR : Hid (T = ([], 0, d3)) := by
      have := HT.out
      simpa [Hid, h3] using this
    have hb : (d3 != 0) = true := by simpa using h3
    clear hf HT h3
    have h5 : 1 ≤ d3 := by omega
    have H4 : Hid _ := h4
    clear h4
    go_enter Try.func80, Try.ntmps80
    go_wp2_with fail
    refine (parse_any p c len xs _ HL.out HX.out hcap (by omega) HY.out).mono ?_
    rintro e w1 ⟨rfl, hw1⟩
    subst hw1
    rw [HD.out]
    unfold three
    go_wp2
    go_ret3
    rw [HR.out]
    exact ⟨_, rfl, World.ownsRow_nil _ _ _ _, Below.refl _ _⟩

theorem parseBytes_any (p : Option Addr) (c len : Nat) (xs : List Int) (w : World) (hlen : xs.length = len) (hx : Bys w p xs) (hcap : len ≤ c) (hm : c ≤ 140737488355328) (hy : ∀ y ∈ xs, 0 ≤ y ∧ y < 256) :
    Calls Try.prog 80 #[.slice p len c] w fun e w' => ∃ v, e = .returned (.tuple #[v, .int .i64 (Cd.decT xs).2.1, .int .i64 (Cd.decT xs).2.2]) ∧ Own w' w.heap.size v (Cd.decT xs).1.length (Cd.decT xs).1 ∧ Below w.heap.size w w' :=
  parseBytes_len p c len xs w hlen hx hcap (by omega) (by omega) hy

set_option maxHeartbeats 1000000 in
/-- cressetref01.Bytes. -/
theorem refBytes_any (p : Option Addr) (c len : Nat) (xs : List Int) (w : World) (hlen : xs.length = len) (hx : Bys w p xs) (hm : len ≤ 140737488355300) (hp : p = none → len = 0 ∧ c = 0) :
    Calls Try.prog 68 #[.slice p len c] w fun e w' => ∃ v, e = .returned v ∧ Own w' w.heap.size v (Cd.width len + len) (Cd.enc len ++ xs) ∧ Below w.heap.size w w' := by
  have HX : Hid (Bys w p xs) := hx
  have HL : Hid (xs.length = len) := hlen
  have HP : Hid (p = none → len = 0 ∧ c = 0) := hp
  have hw := Cd.width_pos len
  clear hx hlen hp
  go_enter Try.func68, Try.ntmps68
  go_wp2_with fail
  refine (refInt_any len _ (by omega) (by omega)).mono ?_
  rintro e w1 ⟨v1, rfl, HO1, hb1⟩
  have hsz := hb1.size
  go_wp2_with (at_builtin; refine app8 _ rfl _ _ rfl w.heap.size v1 (Cd.width len) (Cd.enc len) rfl HO1 p len c xs rfl (HX.out.below hb1 (Nat.le_refl _)) HL.out HP.out (by omega) hsz ?_)
  intro v2 w2 HO2 hb2
  go_wp2
  go_ret
  exact ⟨_, rfl, HO2, hb1.trans hb2⟩
end Go.Proofs.Ytmjbfelfdhehbaa
