import Derived.Test.YtcolmebpbjjehabFrm
import Derived.Test.YtcolmebpbjjehabText
import Derived.Test.YtcolmebpbjjehabRefParse
import Derived.Deep.QuietTactic
import Derived.BigQuiet
namespace Go.Proofs.Ytcolmebpbjjehab
open Go.RowKit
set_option linter.unusedVariables false

set_option maxHeartbeats 1000000 in
/-- cressetref01.Bytes. -/
theorem refBytes_of (p : Option Addr) (c len : Nat) (xs : List Int) (w : World) (hlen : xs.length = len) (hx : Bys w p xs) (hm : len ≤ 140737488355300) (hp : p = none → len = 0 ∧ c = 0) :
    Calls Try.prog 31 #[.slice p len c] w fun e w' => ∃ v, e = .returned v ∧ Own w' w.heap.size v (Cd.width len + len) (Cd.enc len ++ xs) ∧ Below w.heap.size w w' := by
  have HX : Hid (Bys w p xs) := hx
  have HL : Hid (xs.length = len) := hlen
  have HP : Hid (p = none → len = 0 ∧ c = 0) := hp
  have hw := Cd.width_pos len
  clear hx hlen hp
  go_enter Try.func31, Try.ntmps31
  go_wp2_with fail
  refine (refInt_any len _ (by omega) (by omega)).mono ?_
  rintro e w1 ⟨v1, rfl, HO1, hb1⟩
  have hsz := hb1.size
  go_wp2_with (at_builtin; refine app8 _ rfl _ _ rfl w.heap.size v1 (Cd.width len) (Cd.enc len) rfl HO1 p len c xs rfl (HX.out.below hb1 (Nat.le_refl _)) HL.out HP.out (by omega) hsz ?_)
  intro v2 w2 HO2 hb2
  go_wp2
  go_ret
  exact ⟨_, rfl, HO2, hb1.trans hb2⟩

set_option maxHeartbeats 1000000 in
/-- cressetref01.Frame of bytes that are not too many. -/
theorem refFrame_any (p : Option Addr) (c n : Nat) (xs : List Int) (w : World) (hn : xs.length = n) (hx : Bys w p xs) (hp : p = none → n = 0 ∧ c = 0) (hm : n ≤ 1048576) (hy : ∀ y ∈ xs, 0 ≤ y ∧ y < 256) :
    Calls Try.prog 16 #[.slice p n c] w fun e w' => ∃ v, e = .returned (.tuple #[v, .int .i64 0]) ∧ Own w' w.heap.size v (Cd.width n + n + 4) (Cd.frm xs) ∧ Below w.heap.size w w' := by
  have HN : Hid (xs.length = n) := hn
  have HB : Hid (Bys w p xs) := hx
  have HP : Hid (p = none → n = 0 ∧ c = 0) := hp
  have HY : Hid (∀ y ∈ xs, 0 ≤ y ∧ y < 256) := hy
  have HF : Hid (Cd.enc n ++ xs ++ Cd.be 4 (Cd.sum xs).toNat = Cd.frm xs) := by unfold Hid Cd.frm; rw [hn]
  have hw := Cd.width_pos n
  have hs := Cd.sum_bd xs
  clear hn hx hp hy
  go_enter Try.func16, Try.ntmps16
  go_wp2_with fail
  refine (refBytes_of p c n xs _ HN.out HB.out (by omega) HP.out).mono ?_
  rintro e w1 ⟨v1, rfl, HO1, hb1⟩
  have HB1 : Hid (Bys w1 p xs) := HB.out.below hb1 (Nat.le_refl _)
  go_wp2_with fail
  refine (refSum_any p c n xs _ HN.out HB1.out (by omega) HY.out).mono ?_
  rintro e w2 ⟨rfl, hw2⟩
  subst hw2
  go_wp2_with fail
  refine (tail_any _ _ hs.1 hs.2).mono ?_
  rintro e w3 ⟨v3, rfl, HO3, hb3⟩
  have HO4 : Own w3 w.heap.size v1 (Cd.width n + n) (Cd.enc n ++ xs) := HO1.below hb3 (Nat.le_refl _)
  have hsz : w.heap.size ≤ w3.heap.size := Nat.le_trans hb1.size hb3.size
  obtain ⟨p3, c3, hv3, hc3, hp3, hby3⟩ := HO3.bys
  subst hv3
  have HQ : Hid (Bys w3 p3 (Cd.be 4 (Cd.sum xs).toNat)) := hby3
  have HN3 : Hid (p3 = none → 4 = 0 ∧ c3 = 0) := hp3
  have hb13 := hb1.trans (hb3.mono hb1.size)
  clear HO1 HO3 hp3 hby3 HB1 hb1 hb3
  go_wp2_with (at_builtin; refine app8 _ rfl _ _ rfl w.heap.size v1 (Cd.width n + n) (Cd.enc n ++ xs) rfl HO4 p3 4 c3 (Cd.be 4 (Cd.sum xs).toNat) rfl HQ.out (Cd.be_length _ _) HN3.out (by omega) hsz ?_)
  intro v4 w4 HO5 hb4
  rw [← List.append_assoc, HF.out] at HO5
  go_wp2
  go_ret2
  exact ⟨_, rfl, HO5, hb13.trans hb4⟩

set_option maxHeartbeats 400000 in
theorem refFrame_long (p : Option Addr) (c n : Nat) (w : World) (hm : 1048576 < n) (hm2 : n ≤ 9223372036854775807) :
    Calls Try.prog 16 #[.slice p n c] w fun e w' => e = .returned (.tuple #[.slice none 0 0, .int .i64 3]) ∧ w' = w := by
  go_enter Try.func16, Try.ntmps16
  go_wp2
  go_ret2
  exact ⟨rfl, rfl⟩

namespace Cd
/-- What the frame with which bytes begin holds, how many bytes it has, the error. -/
def decU (xs : List Int) : List Int × Int × Int :=
  if (dec xs).2.2 ≠ 0 then ([], 0, (dec xs).2.2)
  else if (dec xs).1 < 0 then ([], 0, 11)
  else if (dec xs).1 > 1048576 then ([], 0, 3)
  else if (dec xs).1 + 4 > xs.length - (dec xs).2.1 then ([], 0, 10)
  else if be 4 (sum ((xs.drop (dec xs).2.1.toNat).take (dec xs).1.toNat)).toNat = (xs.drop ((dec xs).2.1.toNat + (dec xs).1.toNat)).take 4 then ((xs.drop (dec xs).2.1.toNat).take (dec xs).1.toNat, (dec xs).2.1 + (dec xs).1 + 4, 0)
  else ([], 0, 12)
end Cd

set_option maxHeartbeats 2000000 in
/-- codec.Unframe. -/
theorem unframe_any (p : Option Addr) (c len : Nat) (xs : List Int) (w : World) (hlen : xs.length = len) (hx : Bys w p xs) (hcap : len ≤ c) (hm : c ≤ 9223372036854775807) (hy : ∀ y ∈ xs, 0 ≤ y ∧ y < 256) :
    Calls Try.prog 17 #[.slice p len c] w fun e w' => ∃ v, e = .returned (.tuple #[v, .int .i64 (Cd.decU xs).2.1, .int .i64 (Cd.decU xs).2.2]) ∧ Own w' w.heap.size v (Cd.decU xs).1.length (Cd.decU xs).1 ∧ Below w.heap.size w w' := by
  have HX : Hid (Bys w p xs) := hx
  have HL : Hid (xs.length = len) := hlen
  have HY : Hid (∀ y ∈ xs, 0 ≤ y ∧ y < 256) := hy
  have hf := Cd.dec_facts xs hy
  obtain ⟨T, hT⟩ : ∃ T, T = Cd.decU xs := ⟨_, rfl⟩
  have HT : Hid (T = Cd.decU xs) := hT
  unfold Cd.decU at HT
  rw [← hT]
  clear hT
  obtain ⟨D, hD⟩ : ∃ D, Cd.dec xs = D := ⟨_, rfl⟩
  rw [hD] at HT hf
  have HD : Hid (Cd.dec xs = D) := hD
  obtain ⟨d1, d2, d3⟩ := D
  simp only at HT hf
  rw [hlen] at hf HT
  clear hx hlen hy hD
  by_cases h3 : d3 = 0
  · subst h3
    have hf1 : 1 ≤ d2 ∧ d2 ≤ 9 ∧ d2 ≤ (len : Int) ∧ -9223372036854775808 ≤ d1 ∧ d1 ≤ 9223372036854775807 := by omega
    clear hf
    rcases (show d1 < 0 ∨ 1048576 < d1 ∨ (0 ≤ d1 ∧ d1 ≤ 1048576 ∧ d1 + 4 > (len : Int) - d2) ∨ (0 ≤ d1 ∧ d1 ≤ 1048576 ∧ d1 + 4 ≤ (len : Int) - d2) by omega) with g1 | g1 | ⟨g1, g2, g3⟩ | ⟨g1, g2, g3⟩
    · have HR : Hid (T = ([], 0, 11)) := by
        have := HT.out
        simpa [Hid, g1] using this
      clear HT
      go_enter Try.func17, Try.ntmps17
      go_wp2_with fail
      refine (int_any p c len xs _ HL.out HX.out hcap (by omega) HY.out).mono ?_
      rintro e w1 ⟨rfl, hw1⟩
      subst hw1
      rw [HD.out]
      unfold three
      go_wp2
      go_ret3
      rw [HR.out]
      exact ⟨_, rfl, World.ownsRow_nil _ _ _ _, Below.refl _ _⟩
    · have HR : Hid (T = ([], 0, 3)) := by
        have := HT.out
        simpa [Hid, g1, show ¬ d1 < 0 by omega] using this
      clear HT
      go_enter Try.func17, Try.ntmps17
      go_wp2_with fail
      refine (int_any p c len xs _ HL.out HX.out hcap (by omega) HY.out).mono ?_
      rintro e w1 ⟨rfl, hw1⟩
      subst hw1
      rw [HD.out]
      unfold three
      go_wp2
      go_ret3
      rw [HR.out]
      exact ⟨_, rfl, World.ownsRow_nil _ _ _ _, Below.refl _ _⟩
    · have HR : Hid (T = ([], 0, 10)) := by
        have := HT.out
        simpa [Hid, g3, show ¬ d1 < 0 by omega, show ¬ 1048576 < d1 by omega] using this
      clear HT
      go_enter Try.func17, Try.ntmps17
      go_wp2_with fail
      refine (int_any p c len xs _ HL.out HX.out hcap (by omega) HY.out).mono ?_
      rintro e w1 ⟨rfl, hw1⟩
      subst hw1
      rw [HD.out]
      unfold three
      go_wp2
      go_ret3
      rw [HR.out]
      exact ⟨_, rfl, World.ownsRow_nil _ _ _ _, Below.refl _ _⟩
    · obtain ⟨s, rfl⟩ := Int.eq_ofNat_of_zero_le (show 0 ≤ d2 by omega)
      obtain ⟨n, rfl⟩ := Int.eq_ofNat_of_zero_le (show 0 ≤ d1 by omega)
      have hsn : s + n + 4 ≤ len := by omega
      have hs1 : 1 ≤ s ∧ s ≤ 9 := by omega
      have hn1 : n ≤ 1048576 := by omega
      obtain ⟨held, hheld⟩ : ∃ held, (xs.drop s).take n = held := ⟨_, rfl⟩
      obtain ⟨four, hfour⟩ : ∃ four, (xs.drop (s + n)).take 4 = four := ⟨_, rfl⟩
      have HR : Hid (T = if Cd.be 4 (Cd.sum held).toNat = four then (held, (s : Int) + n + 4, 0) else ([], 0, 12)) := by
        have := HT.out
        rw [if_neg (by omega), if_neg (by omega), if_neg (by omega), if_neg (by omega)] at this
        rw [Int.toNat_natCast, Int.toNat_natCast, hheld, hfour] at this
        exact this
      clear HT
      obtain ⟨b, o, rfl, hc0⟩ := HX.out (by rw [HL.out]; omega)
      clear hc0
      have HH : Hid (Bys w (some ⟨b, o + s, none⟩) held) := by rw [← hheld]; exact bys_part HX.out s n (by rw [HL.out]; omega)
      have H4 : Hid (Bys w (some ⟨b, o + (s + n), none⟩) four) := by rw [← hfour]; exact bys_part HX.out (s + n) 4 (by rw [HL.out]; omega)
      have HHL : Hid (held.length = n) := by rw [← hheld]; simp [Hid, HL.out]; omega
      have H4L : Hid (four.length = 4) := by rw [← hfour]; simp [Hid, HL.out]; omega
      have HHB : Hid (∀ y ∈ held, 0 ≤ y ∧ y < 256) := by rw [← hheld]; exact fun y hy => HY.out y (List.mem_of_mem_drop (List.mem_of_mem_take hy))
      have H4B : Hid (∀ y ∈ four, 0 ≤ y ∧ y < 256) := by rw [← hfour]; exact fun y hy => HY.out y (List.mem_of_mem_drop (List.mem_of_mem_take hy))
      clear hheld hfour g1 g2 g3
      obtain ⟨S, hS⟩ : ∃ S, Cd.sum held = S := ⟨_, rfl⟩
      have hSb := Cd.sum_bd held
      rw [hS] at hSb HR
      have HS : Hid (Cd.sum held = S) := hS
      clear hS
      obtain ⟨V, hV⟩ : ∃ V, Cd.val four = V := ⟨_, rfl⟩
      have hVb := Cd.val_bd four H4B.out
      rw [hV, H4L.out] at hVb
      have HV : Hid (Cd.val (four.map (Cd.tn 0)) = V) := by rw [Cd.map_tn0]; exact hV
      have HVS : Hid (Cd.be 4 S.toNat = four ↔ V = S) := by
        unfold Hid
        constructor
        · intro h
          rw [← hV, ← h, Cd.val_be, Nat.mod_eq_of_lt (by simp only [Nat.reducePow]; omega)]
          omega
        · intro h
          have e := Cd.be_val four H4B.out
          rw [H4L.out, hV, h] at e
          exact e
      clear hV
      have hVb2 : 0 ≤ V ∧ V < 4294967296 := by omega
      clear hVb
      have HNC : Hid (∀ i, i < 4 → w.cell? ⟨b, o + (s + n) + i, none⟩ = some (.int .u8 (four.getD i 0))) := by
        intro i hi
        obtain ⟨b', o', e', hh⟩ := H4.out (by rw [H4L.out]; omega)
        simp at e'
        rw [e'.1, e'.2, hh i (by rw [H4L.out]; exact hi)]
      have HNB : Hid (∀ i, i < 4 → 0 ≤ four.getD i 0 ∧ four.getD i 0 < 256) := by
        intro i hi
        have hi2 : i < four.length := by rw [H4L.out]; exact hi
        have := H4B.out four[i] (List.getElem_mem hi2)
        simpa [List.getD, hi2] using this
      have hR1 : Hid (Rws (w.alloc (.cells #[.slice (some ⟨b, o + s, none⟩) n (c - s)] 22)) (some ⟨w.heap.size, 0, none⟩) [(some ⟨b, o + s, none⟩, c - s, held)]) := rows_one n (c - s) HHL.out HH.out (by omega) HHB.out
      go_enter Try.func17, Try.ntmps17
      go_wp2_with fail
      refine (int_any (some ⟨b, o, none⟩) c len xs _ HL.out HX.out hcap hm HY.out).mono ?_
      rintro e w1 ⟨rfl, hw1⟩
      subst hw1
      rw [HD.out]
      unfold three
      go_wp2_with fail
      refine (number_any b (o + (s + n)) (c - (s + n)) 4 four 0 _ H4L.out (by omega) HNC.out HNB.out (Or.inl rfl)).mono ?_
      rintro e w2 ⟨rfl, hw2⟩
      subst hw2
      rw [HV.out]
      go_wp2_with fail
      refine (sum_any _ _ 1 _ _ rfl hR1.out (by omega)).mono ?_
      rintro e w3 ⟨rfl, hw3⟩
      have hb3 : Below w2.heap.size w2 w3 := by rw [hw3]; exact (Below.refl _ _).alloc (Nat.le_refl _) _
      clear hw3 hR1
      rw [flat_one, HS.out]
      have HH3 : Hid (Bys w3 (some ⟨b, o + s, none⟩) held) := HH.out.below hb3 (Nat.le_refl _)
      by_cases hVS : V = S
      · have hVb3 : (V != S) = false := by simpa using hVS
        have HR2 : Hid (T = (held, (s : Int) + n + 4, 0)) := by rw [HR.out, Hid, if_pos (HVS.out.2 hVS)]
        clear hVS HR
        go_wp2_with fail
        refine (clone_any _ (c - s) n held _ HHL.out HH3.out (by omega) (fun h => by cases h)).mono ?_
        rintro e w4 ⟨v4, rfl, HO4, hb4⟩
        have HO5 : Own w4 w2.heap.size v4 n held := HO4.mono hb3.size
        have hb5 := hb3.trans (hb4.mono hb3.size)
        clear HO4
        go_wp2
        go_ret3
        rw [HR2.out]
        exact ⟨_, rfl, by rw [HHL.out]; exact HO5, hb5⟩
      · have hVb3 : (V != S) = true := by simpa using hVS
        have HR2 : Hid (T = ([], 0, 12)) := by rw [HR.out, Hid, if_neg (fun h => hVS (HVS.out.1 h))]
        clear hVS HR
        go_wp2
        go_ret3
        rw [HR2.out]
        exact ⟨_, rfl, World.ownsRow_nil _ _ _ _, hb3⟩
  · have hf1 : d1 = 0 ∧ d2 = 0 ∧ (d3 = 10 ∨ d3 = 11) := by omega
    obtain ⟨rfl, rfl, h4⟩ := hf1
    have HR : Hid (T = ([], 0, d3)) := by
      have := HT.out
      simpa [Hid, h3] using this
    have hb : (d3 != 0) = true := by simpa using h3
    clear hf HT h3
    have h5 : 1 ≤ d3 := by omega
    have H4 : Hid _ := h4
    clear h4
    (
      go_enter Try.func17, Try.ntmps17
      go_wp2_with fail
      refine (int_any p c len xs _ HL.out HX.out hcap (by omega) HY.out).mono ?_
      rintro e w1 ⟨rfl, hw1⟩
      subst hw1
      rw [HD.out]
      unfold three
      go_wp2
      go_ret3
      rw [HR.out]
      exact ⟨_, rfl, World.ownsRow_nil _ _ _ _, Below.refl _ _⟩
    )
end Go.Proofs.Ytcolmebpbjjehab
