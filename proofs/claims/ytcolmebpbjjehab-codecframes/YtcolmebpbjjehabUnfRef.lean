import Derived.Test.YtcolmebpbjjehabUnf
namespace Go.Proofs.Ytcolmebpbjjehab
open Go.RowKit
set_option linter.unusedVariables false

set_option maxHeartbeats 2000000 in
/-- cressetref01.Unframe. -/
theorem refUnframe_any (p : Option Addr) (c len : Nat) (xs : List Int) (w : World) (hlen : xs.length = len) (hx : Bys w p xs) (hcap : len ≤ c) (hm : c ≤ 9223372036854775807) (hy : ∀ y ∈ xs, 0 ≤ y ∧ y < 256) :
    Calls Try.prog 18 #[.slice p len c] w fun e w' => ∃ v, e = .returned (.tuple #[v, .int .i64 (Cd.decU xs).2.1, .int .i64 (Cd.decU xs).2.2]) ∧ Own w' w.heap.size v (Cd.decU xs).1.length (Cd.decU xs).1 ∧ Below w.heap.size w w' := by
  have HX : Hid (Bys w p xs) := hx
  have HL : Hid (xs.length = len) := hlen
  have HY : Hid (∀ y ∈ xs, 0 ≤ y ∧ y < 256) := hy
  have hf := Cd.dec_facts xs hy
  obtain ⟨T, hT⟩ : ∃ T, T = Cd.decU xs := ⟨_, rfl⟩
  have HT : Hid (T = Cd.decU xs) := hT
  unfold Cd.decU at HT
  rw [← hT]
  clear hT
  obtain ⟨D, hD⟩ : ∃ D, Cd.dec xs = D := ⟨_, rfl⟩
  rw [hD] at HT hf
  have HD : Hid (Cd.dec xs = D) := hD
  obtain ⟨d1, d2, d3⟩ := D
  simp only at HT hf
  rw [hlen] at hf HT
  clear hx hlen hy hD
  by_cases h3 : d3 = 0
  · subst h3
    have hf1 : 1 ≤ d2 ∧ d2 ≤ 9 ∧ d2 ≤ (len : Int) ∧ -9223372036854775808 ≤ d1 ∧ d1 ≤ 9223372036854775807 := by omega
    clear hf
    rcases (show d1 < 0 ∨ 1048576 < d1 ∨ (0 ≤ d1 ∧ d1 ≤ 1048576 ∧ d1 + 4 > (len : Int) - d2) ∨ (0 ≤ d1 ∧ d1 ≤ 1048576 ∧ d1 + 4 ≤ (len : Int) - d2) by omega) with g1 | g1 | ⟨g1, g2, g3⟩ | ⟨g1, g2, g3⟩
    · have HR : Hid (T = ([], 0, 11)) := by
        have := HT.out
        simpa [Hid, g1] using this
      clear HT
      go_enter Try.func18, Try.ntmps18
      go_wp2_with fail
      refine (parse_any p c len xs _ HL.out HX.out hcap (by omega) HY.out).mono ?_
      rintro e w1 ⟨rfl, hw1⟩
      subst hw1
      rw [HD.out]
      unfold three
      go_wp2
      go_ret3
      rw [HR.out]
      exact ⟨_, rfl, World.ownsRow_nil _ _ _ _, Below.refl _ _⟩
    · have HR : Hid (T = ([], 0, 3)) := by
        have := HT.out
        simpa [Hid, g1, show ¬ d1 < 0 by omega] using this
      clear HT
      go_enter Try.func18, Try.ntmps18
      go_wp2_with fail
      refine (parse_any p c len xs _ HL.out HX.out hcap (by omega) HY.out).mono ?_
      rintro e w1 ⟨rfl, hw1⟩
      subst hw1
      rw [HD.out]
      unfold three
      go_wp2
      go_ret3
      rw [HR.out]
      exact ⟨_, rfl, World.ownsRow_nil _ _ _ _, Below.refl _ _⟩
    · have HR : Hid (T = ([], 0, 10)) := by
        have := HT.out
        simpa [Hid, g3, show ¬ d1 < 0 by omega, show ¬ 1048576 < d1 by omega] using this
      clear HT
      go_enter Try.func18, Try.ntmps18
      go_wp2_with fail
      refine (parse_any p c len xs _ HL.out HX.out hcap (by omega) HY.out).mono ?_
      rintro e w1 ⟨rfl, hw1⟩
      subst hw1
      rw [HD.out]
      unfold three
      go_wp2
      go_ret3
      rw [HR.out]
      exact ⟨_, rfl, World.ownsRow_nil _ _ _ _, Below.refl _ _⟩
    · obtain ⟨s, rfl⟩ := Int.eq_ofNat_of_zero_le (show 0 ≤ d2 by omega)
      obtain ⟨n, rfl⟩ := Int.eq_ofNat_of_zero_le (show 0 ≤ d1 by omega)
      have hsn : s + n + 4 ≤ len := by omega
      have hs1 : 1 ≤ s ∧ s ≤ 9 := by omega
      have hn1 : n ≤ 1048576 := by omega
      obtain ⟨held, hheld⟩ : ∃ held, (xs.drop s).take n = held := ⟨_, rfl⟩
      obtain ⟨four, hfour⟩ : ∃ four, (xs.drop (s + n)).take 4 = four := ⟨_, rfl⟩
      have HR : Hid (T = if Cd.be 4 (Cd.sum held).toNat = four then (held, (s : Int) + n + 4, 0) else ([], 0, 12)) := by
        have := HT.out
        rw [if_neg (by omega), if_neg (by omega), if_neg (by omega), if_neg (by omega)] at this
        rw [Int.toNat_natCast, Int.toNat_natCast, hheld, hfour] at this
        exact this
      clear HT
      obtain ⟨b, o, rfl, hc0⟩ := HX.out (by rw [HL.out]; omega)
      clear hc0
      have HH : Hid (Bys w (some ⟨b, o + s, none⟩) held) := by rw [← hheld]; exact bys_part HX.out s n (by rw [HL.out]; omega)
      have H4 : Hid (Bys w (some ⟨b, o + (s + n), none⟩) four) := by rw [← hfour]; exact bys_part HX.out (s + n) 4 (by rw [HL.out]; omega)
      have HHL : Hid (held.length = n) := by rw [← hheld]; simp [Hid, HL.out]; omega
      have H4L : Hid (four.length = 4) := by rw [← hfour]; simp [Hid, HL.out]; omega
      have HHB : Hid (∀ y ∈ held, 0 ≤ y ∧ y < 256) := by rw [← hheld]; exact fun y hy => HY.out y (List.mem_of_mem_drop (List.mem_of_mem_take hy))
      have H4B : Hid (∀ y ∈ four, 0 ≤ y ∧ y < 256) := by rw [← hfour]; exact fun y hy => HY.out y (List.mem_of_mem_drop (List.mem_of_mem_take hy))
      clear hheld hfour g1 g2 g3
      obtain ⟨S, hS⟩ : ∃ S, Cd.sum held = S := ⟨_, rfl⟩
      have hSb := Cd.sum_bd held
      rw [hS] at hSb HR
      have HS : Hid (Cd.sum held = S) := hS
      clear hS
      go_enter Try.func18, Try.ntmps18
      go_wp2_with fail
      refine (parse_any (some ⟨b, o, none⟩) c len xs _ HL.out HX.out hcap (by omega) HY.out).mono ?_
      rintro e w1 ⟨rfl, hw1⟩
      subst hw1
      rw [HD.out]
      unfold three
      go_wp2_with (at_builtin; refine app8 _ rfl _ _ rfl w1.heap.size (.slice none 0 0) 0 [] rfl (World.ownsRow_nil _ _ _ _) (some ⟨b, o + s, none⟩) (s + n - s) (c - s) held rfl HH.out (by rw [HHL.out]; omega) (fun h => by cases h) (by omega) (Nat.le_refl _) ?_)
      intro v2 w2 HO2 hb2
      have HO2' : Own w2 w1.heap.size v2 n held := by
        have e2 : s + n - s = n := by omega
        first
          | exact HO2
          | (rw [e2] at HO2; exact HO2)
          | (rw [e2] at HO2; simpa using HO2)
          | simpa using HO2
      obtain ⟨p2, c2, hv2, hc2, hp2, hby2⟩ := HO2'.bys
      clear HO2
      subst hv2
      have HX2 : Hid (Bys w2 (some ⟨b, o, none⟩) xs) := HX.out.below hb2 (Nat.le_refl _)
      have H42 : Hid (Bys w2 (some ⟨b, o + (s + n), none⟩) four) := H4.out.below hb2 (Nat.le_refl _)
      have HB2 : Hid (Bys w2 p2 held) := hby2
      clear hp2 hby2 HX HH H4
      go_wp2_with fail
      refine (refSum_any p2 c2 n held _ HHL.out HB2.out (by omega) HHB.out).mono ?_
      rintro e w3 ⟨rfl, hw3⟩
      subst hw3
      rw [HS.out]
      go_wp2_with fail
      refine (tail_any S _ hSb.1 hSb.2).mono ?_
      rintro e w4 ⟨v4, rfl, HO4, hb4⟩
      obtain ⟨p4, c4, hv4, hc4, hp4, hby4⟩ := HO4.bys
      subst hv4
      obtain ⟨tl, htl⟩ : ∃ tl, Cd.be 4 S.toNat = tl := ⟨_, rfl⟩
      have HTL : Hid (tl.length = 4) := by rw [← htl]; exact Cd.be_length _ _
      rw [htl] at HR hby4
      obtain ⟨g4, o4, rfl, hc4c⟩ := hby4 (by rw [HTL.out]; omega)
      have HT4 : Hid (∀ i, i < 4 → w4.cell? ⟨g4, o4 + i, none⟩ = some (.int .u8 (tl.getD i 0))) := fun i hi => hc4c i (by rw [HTL.out]; exact hi)
      have HF4 : Hid (∀ i, i < 4 → w4.cell? ⟨b, o + (s + n + i), none⟩ = some (.int .u8 (four.getD i 0))) := by
        intro i hi
        obtain ⟨b', o', e', hh⟩ := (H42.out.below hb4 (Nat.le_refl _)) (by rw [H4L.out]; omega)
        simp at e'
        have := hh i (by rw [H4L.out]; exact hi)
        rw [← e'.1, ← e'.2] at this
        rw [← this, Nat.add_assoc o (s + n) i]
      have HO5 : Own w4 w1.heap.size (.slice p2 n c2) n held := HO2'.below hb4 (Nat.le_refl _)
      have hb14 := hb2.trans (hb4.mono hb2.size)
      clear HO4 hp4 hby4 hc4c H42 HX2 HB2 HO2' hb2 hb4 htl
      go_wp2_with fail
      go_loopw [11] (fun i wr => ∃ (k q : Nat), k ≤ 4 ∧ i = .int .i64 k ∧ wr = w4.drewN q ∧ Hid (∀ j, j < k → four.getD j 0 = tl.getD j 0)) (fun i _ => 4 - (intOf i).toNat)
      case atStart => exact ⟨0, 0, by omega, rfl, rfl, fun j hj => by omega⟩
      case round =>
        obtain ⟨k, qq, hk, rfl, rfl, hall⟩ := hrel
        by_cases hk4 : k < 4
        · obtain ⟨y, hy⟩ : ∃ y, four.getD k 0 = y := ⟨_, rfl⟩
          obtain ⟨z, hz⟩ : ∃ z, tl.getD k 0 = z := ⟨_, rfl⟩
          have k1 : w4.cell? ⟨b, o + (s + n + k), none⟩ = some (.int .u8 y) := by rw [← hy]; exact HF4.out k hk4
          have k2 : w4.cell? ⟨g4, o4 + k, none⟩ = some (.int .u8 z) := by rw [← hz]; exact HT4.out k hk4
          have HYK : Hid (four.getD k 0 = y) := hy
          have HZK : Hid (tl.getD k 0 = z) := hz
          clear hy hz
          have b1 : (0 : Int) ≤ (s : Int) + (n : Int) + (k : Int) := by omega
          have b2 : (s : Int) + (n : Int) + (k : Int) < (len : Int) := by omega
          by_cases hyz : y = z
          · have hyzb : (y != z) = false := by simpa using hyz
            have HALL : Hid (∀ j, j < k + 1 → four.getD j 0 = tl.getD j 0) := by
              intro j hj
              by_cases hjk : j < k
              · exact hall.out j hjk
              · obtain rfl : j = k := by omega
                rw [HYK.out, HZK.out, hyz]
            clear hyz
            go_wp2_with fail
            go_region
            go_wp2
            go_roundw
            case rel => exact ⟨k + 1, qq + 1, by omega, by go_num, rfl, HALL⟩
            case measure => simp [intOf]; omega
          · have hyzb : (y != z) = true := by simpa using hyz
            have HR2 : Hid (T = ([], 0, 12)) := by
              rw [HR.out, Hid, if_neg]
              intro e
              apply hyz
              rw [← HYK.out, ← HZK.out, e]
            clear hyz
            go_wp2_with fail
            go_region
            go_wp2
            go_ret3
            rw [HR2.out]
            exact ⟨_, rfl, World.ownsRow_nil _ _ _ _, below_drewN hb14 (qq + 1)⟩
        · obtain rfl : k = 4 := by omega
          have HR2 : Hid (T = (held, (s : Int) + n + 4, 0)) := by
            rw [HR.out, Hid, if_pos]
            refine List.ext_getElem (by rw [HTL.out, H4L.out]) ?_
            intro i h1 h2
            have := hall.out i (by rw [← HTL.out]; exact h1)
            simpa [List.getD, h1, h2] using this.symm
          go_wp2
          go_ret3
          rw [HR2.out]
          exact ⟨_, rfl, by rw [HHL.out]; exact HO5.below (below_drewN (Below.refl _ _) qq) (Nat.le_refl _), below_drewN hb14 qq⟩
  · have hf1 : d1 = 0 ∧ d2 = 0 ∧ (d3 = 10 ∨ d3 = 11) := by omega
    obtain ⟨rfl, rfl, h4⟩ := hf1
    have HR : Hid (T = ([], 0, d3)) := by
      have := HT.out
      simpa [Hid, h3] using this
    have hb : (d3 != 0) = true := by simpa using h3
    clear hf HT h3
    have h5 : 1 ≤ d3 := by omega
    have H4 : Hid _ := h4
    clear h4
    (
      go_enter Try.func18, Try.ntmps18
      go_wp2_with fail
      refine (parse_any p c len xs _ HL.out HX.out hcap (by omega) HY.out).mono ?_
      rintro e w1 ⟨rfl, hw1⟩
      subst hw1
      rw [HD.out]
      unfold three
      go_wp2
      go_ret3
      rw [HR.out]
      exact ⟨_, rfl, World.ownsRow_nil _ _ _ _, Below.refl _ _⟩
    )
end Go.Proofs.Ytcolmebpbjjehab
