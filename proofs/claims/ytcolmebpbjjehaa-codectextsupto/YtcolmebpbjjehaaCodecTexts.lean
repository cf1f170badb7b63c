/- codec.PutText, PutFlag, Text and Flag answer as the document's own words do; where what comes in is of bulk at most 1048576. -/
import Derived.Test.YtcolmebpbjjehaaOpen
import Derived.Test.YtcolmebpbjjehaaApp
import Derived.Test.YtcolmebpbjjehaaFlag
import Derived.Test.YtcolmebpbjjehaaPutText
import Derived.Test.YtcolmebpbjjehaaParses
import Derived.Test.YtcolmebpbjjehaaBack
import Derived.Test.YtcolmebpbjjehaaConvB
namespace Go.Proofs.Ytcolmebpbjjehaa
open Go.ChangeShapes Go.WideShapes Go.ChangeAt Go.RowKit
open Go.ChangeMaps (open_string shut_string)
set_option linter.unusedVariables false

theorem decT_byte (xs : List Int) (hb : ∀ x ∈ xs, 0 ≤ x ∧ x < 256) : ∀ y ∈ (Cd.decT xs).1, 0 ≤ y ∧ y < 256 := by
  rcases Cd.decT_facts xs hb with ⟨s, n, _, h, _⟩ | ⟨h, _⟩
  · rw [h]
    exact fun y hy => hb y (List.mem_of_mem_drop (List.mem_of_mem_take hy))
  · rw [h]
    simp

set_option maxHeartbeats 4000000 in
theorem texts_yes (s : ByteArray) (yes : Bool) (p : Option Addr) (len cap : Nat) (xs : List Int) (w : World) (hs : s.size ≤ 1048576) (hin : InB 1048576 w p len cap xs) :
    Calls Try.prog 4 #[.string s, .bool yes, .slice p len cap] w fun e w' => e = .returned (.bool true) ∧ Below w.heap.size w w' := by
  have HI : Hid (InB 1048576 w p len cap xs) := hin
  have hle := hin.le
  have hcap := hin.room
  clear hin
  obtain ⟨T, hT⟩ : ∃ T, Cd.decT xs = T := ⟨_, rfl⟩
  obtain ⟨G, hG⟩ : ∃ G, Cd.decF xs = G := ⟨_, rfl⟩
  have HT : Hid (Cd.decT xs = T) := hT
  have HG : Hid (Cd.decF xs = G) := hG
  have HTB : Hid (∀ y ∈ T.1, 0 ≤ y ∧ y < 256) := by rw [← hT]; exact decT_byte xs HI.out.byte
  clear hT hG
  obtain ⟨t1, t2, t3⟩ := T
  obtain ⟨g1, g2, g3⟩ := G
  simp only at HTB
  have hB1 := Cd.width_pos s.size
  go_enter Try.func4, Try.ntmps4
  go_wp2_with fail
  refine (text_any p cap len xs _ HI.out.lenq HI.out.bys hle (by omega) HI.out.byte).mono ?_
  rintro e w1 ⟨rfl, hw1⟩
  subst hw1
  rw [HT.out]
  simp only
  go_wp2_with fail
  refine (parseBytes_any p cap len xs _ HI.out.lenq HI.out.bys hle (by omega) HI.out.byte).mono ?_
  rintro e w2 ⟨v2, rfl, HO2, hb2⟩
  rw [HT.out] at HO2 ⊢
  simp only at HO2 ⊢
  have HI2 : Hid (InB 1048576 w2 p len cap xs) := HI.out.below hb2
  obtain ⟨p2, c2, hv2, hc2, hp2, hby2⟩ := HO2.bys
  subst hv2
  have HP2 : Hid (Bys w2 p2 t1) := hby2
  clear HI HO2 hp2 hby2
  go_wp2_with fail
  refine (flag_any p cap len xs _ HI2.out.lenq HI2.out.bys hle (by omega) HI2.out.byte).mono ?_
  rintro e w3 ⟨rfl, hw3⟩
  subst hw3
  rw [HG.out]
  simp only
  go_wp2_with fail
  refine (parseFlag_any p cap len xs _ HI2.out.lenq HI2.out.bys hle (by omega) HI2.out.byte).mono ?_
  rintro e w4 ⟨rfl, hw4⟩
  subst hw4
  rw [HG.out]
  simp only
  cases yes
  · have HF4 : Hid (Bys (w4.alloc (.cells #[.int .u8 108] 5)) (some ⟨w4.heap.size, 0, none⟩) [108]) := bys_laid w4 [108] _
    have hb4 : Below w4.heap.size w4 (w4.alloc (.cells #[.int .u8 108] 5)) := (Below.refl _ _).alloc (Nat.le_refl _) _
    have HI4 : Hid (InB 1048576 (w4.alloc (.cells #[.int .u8 108] 5)) p len cap xs) := HI2.out.below hb4
    have HP4 : Hid (Bys (w4.alloc (.cells #[.int .u8 108] 5)) p2 t1) := HP2.out.below hb4 (Nat.le_refl _)
    have hbB : Below w1.heap.size w1 (w4.alloc (.cells #[.int .u8 108] 5)) := hb2.trans (hb4.mono hb2.size)
    clear HI2 HP2
    go_wp2_with fail
    refine (live_any _).mono ?_
    rintro e w5 ⟨rfl, hb5⟩
    have HI5 : Hid (InB 1048576 w5 p len cap xs) := HI4.out.below hb5
    have HP5 : Hid (Bys w5 p2 t1) := HP4.out.below hb5 (Nat.le_refl _)
    have HF5 : Hid (Bys w5 (some ⟨w4.heap.size, 0, none⟩) [108]) := HF4.out.below hb5 (Nat.le_refl _)
    have hbC := hbB.trans (hb5.mono hbB.size)
    clear HI4 HP4 HF4 hb4 hb5 hbB hb2
    go_wp2_with fail
    refine (putText_any p cap len xs s _ HI5.out.lenq HI5.out.bys (by omega) HI5.out.nil).mono ?_
    rintro e w6 ⟨v6, rfl, HO6, hb6⟩
    have HI6 : Hid (InB 1048576 w6 p len cap xs) := HI5.out.below hb6
    have HP6 : Hid (Bys w6 p2 t1) := HP5.out.below hb6 (Nat.le_refl _)
    have HF6 : Hid (Bys w6 (some ⟨w4.heap.size, 0, none⟩) [108]) := HF5.out.below hb6 (Nat.le_refl _)
    have hbD := hbC.trans (hb6.mono hbC.size)
    obtain ⟨p6, c6, hv6, hc6, hp6, hby6⟩ := HO6.bys
    subst hv6
    have HL6 : Hid _ := HO6.len
    have HQ6 : Hid (Bys w6 p6 (xs ++ Cd.enc s.size ++ strB s)) := hby6
    clear HI5 HP5 HF5 hbC hb6 HO6 hp6 hby6
    go_wp2_with fail
    refine (clone_any p cap len xs _ HI6.out.lenq HI6.out.bys (by omega) HI6.out.nil).mono ?_
    rintro e w7 ⟨v7, rfl, HO7, hb7⟩
    obtain ⟨c8, w8, hrun8, hc8, hby8, hb8⟩ := conv_bytes w7 s
    have hb78 := hb7.trans (hb8.mono hb7.size)
    have HI8 : Hid (InB 1048576 w8 p len cap xs) := HI6.out.below hb78
    have HP8 : Hid (Bys w8 p2 t1) := HP6.out.below hb78 (Nat.le_refl _)
    have HF8 : Hid (Bys w8 (some ⟨w4.heap.size, 0, none⟩) [108]) := HF6.out.below hb78 (Nat.le_refl _)
    have HQ8 : Hid (Bys w8 p6 (xs ++ Cd.enc s.size ++ strB s)) := HQ6.out.below hb78 (Nat.le_refl _)
    have HO8 : Own w8 w6.heap.size v7 len xs := HO7.below hb8 (Nat.le_refl _)
    have HS8 : Hid (Bys w8 (some ⟨w7.heap.size, 0, none⟩) (strB s)) := hby8
    have hbE := hbD.trans (hb78.mono hbD.size)
    have hz6 : w1.heap.size ≤ w6.heap.size := hbD.size
    have hz8 : w6.heap.size ≤ w8.heap.size := hb78.size
    have HI6b := HI6
    have HP6b := HP6
    have HF6b := HF6
    have HQ6b := HQ6
    have hb68 : Hid (Below w6.heap.size w6 w8) := hb78
    clear HI6 HP6 HF6 hbD hb7 hb8 hby8 HQ6 HO7 hb78
    go_wp2_with fail
    clear hrun8
    refine (refBytes_any _ c8 s.size (strB s) _ (strB_length s) HS8.out (by omega) (fun h => by cases h)).mono ?_
    rintro e w9 ⟨v9, rfl, HO9, hb9⟩
    have HI9 : Hid (InB 1048576 w9 p len cap xs) := HI8.out.below hb9
    have HP9 : Hid (Bys w9 p2 t1) := HP8.out.below hb9 (Nat.le_refl _)
    have HF9 : Hid (Bys w9 (some ⟨w4.heap.size, 0, none⟩) [108]) := HF8.out.below hb9 (Nat.le_refl _)
    have HQ9 : Hid (Bys w9 p6 (xs ++ Cd.enc s.size ++ strB s)) := HQ8.out.below hb9 (Nat.le_refl _)
    have HC9 : Own w9 w6.heap.size v7 len xs := HO8.below hb9 (Nat.le_refl _)
    have hbF := hbE.trans (hb9.mono hbE.size)
    have hz9 : w6.heap.size ≤ w9.heap.size := Nat.le_trans hz8 hb9.size
    obtain ⟨p9, c9, hv9, hc9, hp9, hby9⟩ := HO9.bys
    subst hv9
    have HL9 : Hid _ := HO9.len
    have HR9 : Hid (Bys w9 p9 (Cd.enc s.size ++ strB s)) := hby9
    have HN9 : Hid (p9 = none → Cd.width s.size + s.size = 0 ∧ c9 = 0) := hp9
    have hb6b : Hid (Below w6.heap.size w6 w9) := hb68.out.trans (hb9.mono hz8)
    clear HI8 HP8 HF8 HQ8 HO8 HS8 hbE hb9 HO9 hp9 hby9 HI9 HP9 HF9 HQ9 hb68
    go_wp2_with (at_builtin; refine app8 _ rfl _ _ rfl w6.heap.size v7 len xs rfl HC9 p9 (Cd.width s.size + s.size) c9 (Cd.enc s.size ++ strB s) rfl HR9.out HL9.out HN9.out (by omega) hz9 ?_)
    intro v10 w10 HO10 hb10
    have hbG := hbF.trans (hb10.mono hz6)
    have hz10 : w6.heap.size ≤ w10.heap.size := Nat.le_trans hz9 hb10.size
    have HI10 : Hid (InB 1048576 w10 p len cap xs) := HI6b.out.below (hb6b.out.trans hb10)
    have HP10 : Hid (Bys w10 p2 t1) := HP6b.out.below (hb6b.out.trans hb10) (Nat.le_refl _)
    have HF10 : Hid (Bys w10 (some ⟨w4.heap.size, 0, none⟩) [108]) := HF6b.out.below (hb6b.out.trans hb10) (Nat.le_refl _)
    have HQ10 : Hid (Bys w10 p6 (xs ++ Cd.enc s.size ++ strB s)) := HQ6b.out.below (hb6b.out.trans hb10) (Nat.le_refl _)
    rw [← List.append_assoc] at HO10
    obtain ⟨p10, c10, hv10, hc10, hp10, hby10⟩ := HO10.bys
    subst hv10
    have HL10 : Hid _ := HO10.len
    have HR10 : Hid (Bys w10 p10 (xs ++ Cd.enc s.size ++ strB s)) := hby10
    have HB10 : Hid (∀ y ∈ xs ++ Cd.enc s.size ++ strB s, 0 ≤ y ∧ y < 256) := app_byte (app_byte HI10.out.byte (enc_byte _ (by omega) (by omega))) (strB_byte s)
    clear HO10 hb10 hp10 hby10 HC9 HR9 HN9 hbF HI6b HP6b HF6b HQ6b hb6b HL9
    go_wp2_with fail
    refine (equal_any p6 p10 c6 c10 _ _ _ _ _ HL6.out HL10.out HQ10.out HR10.out HB10.out HB10.out).mono ?_
    rintro e w11 ⟨rfl, hw11⟩
    subst hw11
    simp only [decide_true]
    clear HQ10 HR10 HL6 HL10 HB10
    go_wp2_with fail
    refine (putFlag_any p cap len xs false _ HI10.out.lenq HI10.out.bys (by omega) HI10.out.nil).mono ?_
    rintro e w12 ⟨rfl, HO12, hb12⟩
    simp only [Bool.false_eq_true, if_false] at HO12
    have HI12 : Hid (InB 1048576 w12 p len cap xs) := HI10.out.below hb12
    have HP12 : Hid (Bys w12 p2 t1) := HP10.out.below hb12 (Nat.le_refl _)
    have HF12 : Hid (Bys w12 (some ⟨w4.heap.size, 0, none⟩) [108]) := HF10.out.below hb12 (Nat.le_refl _)
    have HG12 : Hid (Bys w12 (some ⟨w11.heap.size, 0, none⟩) (xs ++ [108])) := HO12.at
    have HL12 : Hid _ := HO12.len
    have hbH := hbG.trans (hb12.mono hbG.size)
    clear HI10 HP10 HF10 hb12 HO12 hbG
    go_wp2_with fail
    refine (clone_any p cap len xs _ HI12.out.lenq HI12.out.bys (by omega) HI12.out.nil).mono ?_
    rintro e w13 ⟨v13, rfl, HO13, hb13⟩
    have hz13 : w12.heap.size ≤ w13.heap.size := hb13.size
    have hbI := hbH.trans (hb13.mono hbH.size)
    have HF13 : Hid (Bys w13 (some ⟨w4.heap.size, 0, none⟩) [108]) := HF12.out.below hb13 (Nat.le_refl _)
    go_wp2_with (at_builtin; refine app8 _ rfl _ _ rfl w12.heap.size v13 len xs rfl HO13 (some ⟨w4.heap.size, 0, none⟩) 1 1 [108] rfl HF13.out rfl (fun h => by cases h) (by omega) hz13 ?_)
    intro v14 w14 HO14 hb14
    have hbJ := hbI.trans (hb14.mono hbH.size)
    have hbK := hb13.trans hb14
    have HP14 : Hid (Bys w14 p2 t1) := HP12.out.below hbK (Nat.le_refl _)
    have HG14 : Hid (Bys w14 (some ⟨w11.heap.size, 0, none⟩) (xs ++ [108])) := HG12.out.below hbK (Nat.le_refl _)
    obtain ⟨p14, c14, hv14, hc14, hp14, hby14⟩ := HO14.bys
    subst hv14
    have HL14 : Hid _ := HO14.len
    have HR14 : Hid (Bys w14 p14 (xs ++ [108])) := hby14
    have HB14 : Hid (∀ y ∈ xs ++ [(108 : Int)], 0 ≤ y ∧ y < 256) := app_byte HI12.out.byte (by decide)
    clear HO14 hb14 hp14 hby14 HO13 hb13 HF13 HF12 hbI hbH hbK HP12 HG12
    go_wp2_with fail
    refine (equal_any _ p14 _ c14 _ _ _ _ _ HL12.out HL14.out HG14.out HR14.out HB14.out HB14.out).mono ?_
    rintro e w15 ⟨rfl, hw15⟩
    subst hw15
    simp only [decide_true]
    have k1 := conv_str HP14.out t1.length c2 rfl
    clear HG14 HR14 HL12 HL14 HB14 HI12
    go_wp2
    go_ret
    exact ⟨by simp, hbJ⟩
  · have HF4 : Hid (Bys (w4.alloc (.cells #[.int .u8 109] 5)) (some ⟨w4.heap.size, 0, none⟩) [109]) := bys_laid w4 [109] _
    have hb4 : Below w4.heap.size w4 (w4.alloc (.cells #[.int .u8 109] 5)) := (Below.refl _ _).alloc (Nat.le_refl _) _
    have HI4 : Hid (InB 1048576 (w4.alloc (.cells #[.int .u8 109] 5)) p len cap xs) := HI2.out.below hb4
    have HP4 : Hid (Bys (w4.alloc (.cells #[.int .u8 109] 5)) p2 t1) := HP2.out.below hb4 (Nat.le_refl _)
    have hbB : Below w1.heap.size w1 (w4.alloc (.cells #[.int .u8 109] 5)) := hb2.trans (hb4.mono hb2.size)
    clear HI2 HP2
    go_wp2_with fail
    refine (live_any _).mono ?_
    rintro e w5 ⟨rfl, hb5⟩
    have HI5 : Hid (InB 1048576 w5 p len cap xs) := HI4.out.below hb5
    have HP5 : Hid (Bys w5 p2 t1) := HP4.out.below hb5 (Nat.le_refl _)
    have HF5 : Hid (Bys w5 (some ⟨w4.heap.size, 0, none⟩) [109]) := HF4.out.below hb5 (Nat.le_refl _)
    have hbC := hbB.trans (hb5.mono hbB.size)
    clear HI4 HP4 HF4 hb4 hb5 hbB hb2
    go_wp2_with fail
    refine (putText_any p cap len xs s _ HI5.out.lenq HI5.out.bys (by omega) HI5.out.nil).mono ?_
    rintro e w6 ⟨v6, rfl, HO6, hb6⟩
    have HI6 : Hid (InB 1048576 w6 p len cap xs) := HI5.out.below hb6
    have HP6 : Hid (Bys w6 p2 t1) := HP5.out.below hb6 (Nat.le_refl _)
    have HF6 : Hid (Bys w6 (some ⟨w4.heap.size, 0, none⟩) [109]) := HF5.out.below hb6 (Nat.le_refl _)
    have hbD := hbC.trans (hb6.mono hbC.size)
    obtain ⟨p6, c6, hv6, hc6, hp6, hby6⟩ := HO6.bys
    subst hv6
    have HL6 : Hid _ := HO6.len
    have HQ6 : Hid (Bys w6 p6 (xs ++ Cd.enc s.size ++ strB s)) := hby6
    clear HI5 HP5 HF5 hbC hb6 HO6 hp6 hby6
    go_wp2_with fail
    refine (clone_any p cap len xs _ HI6.out.lenq HI6.out.bys (by omega) HI6.out.nil).mono ?_
    rintro e w7 ⟨v7, rfl, HO7, hb7⟩
    obtain ⟨c8, w8, hrun8, hc8, hby8, hb8⟩ := conv_bytes w7 s
    have hb78 := hb7.trans (hb8.mono hb7.size)
    have HI8 : Hid (InB 1048576 w8 p len cap xs) := HI6.out.below hb78
    have HP8 : Hid (Bys w8 p2 t1) := HP6.out.below hb78 (Nat.le_refl _)
    have HF8 : Hid (Bys w8 (some ⟨w4.heap.size, 0, none⟩) [109]) := HF6.out.below hb78 (Nat.le_refl _)
    have HQ8 : Hid (Bys w8 p6 (xs ++ Cd.enc s.size ++ strB s)) := HQ6.out.below hb78 (Nat.le_refl _)
    have HO8 : Own w8 w6.heap.size v7 len xs := HO7.below hb8 (Nat.le_refl _)
    have HS8 : Hid (Bys w8 (some ⟨w7.heap.size, 0, none⟩) (strB s)) := hby8
    have hbE := hbD.trans (hb78.mono hbD.size)
    have hz6 : w1.heap.size ≤ w6.heap.size := hbD.size
    have hz8 : w6.heap.size ≤ w8.heap.size := hb78.size
    have HI6b := HI6
    have HP6b := HP6
    have HF6b := HF6
    have HQ6b := HQ6
    have hb68 : Hid (Below w6.heap.size w6 w8) := hb78
    clear HI6 HP6 HF6 hbD hb7 hb8 hby8 HQ6 HO7 hb78
    go_wp2_with fail
    clear hrun8
    refine (refBytes_any _ c8 s.size (strB s) _ (strB_length s) HS8.out (by omega) (fun h => by cases h)).mono ?_
    rintro e w9 ⟨v9, rfl, HO9, hb9⟩
    have HI9 : Hid (InB 1048576 w9 p len cap xs) := HI8.out.below hb9
    have HP9 : Hid (Bys w9 p2 t1) := HP8.out.below hb9 (Nat.le_refl _)
    have HF9 : Hid (Bys w9 (some ⟨w4.heap.size, 0, none⟩) [109]) := HF8.out.below hb9 (Nat.le_refl _)
    have HQ9 : Hid (Bys w9 p6 (xs ++ Cd.enc s.size ++ strB s)) := HQ8.out.below hb9 (Nat.le_refl _)
    have HC9 : Own w9 w6.heap.size v7 len xs := HO8.below hb9 (Nat.le_refl _)
    have hbF := hbE.trans (hb9.mono hbE.size)
    have hz9 : w6.heap.size ≤ w9.heap.size := Nat.le_trans hz8 hb9.size
    obtain ⟨p9, c9, hv9, hc9, hp9, hby9⟩ := HO9.bys
    subst hv9
    have HL9 : Hid _ := HO9.len
    have HR9 : Hid (Bys w9 p9 (Cd.enc s.size ++ strB s)) := hby9
    have HN9 : Hid (p9 = none → Cd.width s.size + s.size = 0 ∧ c9 = 0) := hp9
    have hb6b : Hid (Below w6.heap.size w6 w9) := hb68.out.trans (hb9.mono hz8)
    clear HI8 HP8 HF8 HQ8 HO8 HS8 hbE hb9 HO9 hp9 hby9 HI9 HP9 HF9 HQ9 hb68
    go_wp2_with (at_builtin; refine app8 _ rfl _ _ rfl w6.heap.size v7 len xs rfl HC9 p9 (Cd.width s.size + s.size) c9 (Cd.enc s.size ++ strB s) rfl HR9.out HL9.out HN9.out (by omega) hz9 ?_)
    intro v10 w10 HO10 hb10
    have hbG := hbF.trans (hb10.mono hz6)
    have hz10 : w6.heap.size ≤ w10.heap.size := Nat.le_trans hz9 hb10.size
    have HI10 : Hid (InB 1048576 w10 p len cap xs) := HI6b.out.below (hb6b.out.trans hb10)
    have HP10 : Hid (Bys w10 p2 t1) := HP6b.out.below (hb6b.out.trans hb10) (Nat.le_refl _)
    have HF10 : Hid (Bys w10 (some ⟨w4.heap.size, 0, none⟩) [109]) := HF6b.out.below (hb6b.out.trans hb10) (Nat.le_refl _)
    have HQ10 : Hid (Bys w10 p6 (xs ++ Cd.enc s.size ++ strB s)) := HQ6b.out.below (hb6b.out.trans hb10) (Nat.le_refl _)
    rw [← List.append_assoc] at HO10
    obtain ⟨p10, c10, hv10, hc10, hp10, hby10⟩ := HO10.bys
    subst hv10
    have HL10 : Hid _ := HO10.len
    have HR10 : Hid (Bys w10 p10 (xs ++ Cd.enc s.size ++ strB s)) := hby10
    have HB10 : Hid (∀ y ∈ xs ++ Cd.enc s.size ++ strB s, 0 ≤ y ∧ y < 256) := app_byte (app_byte HI10.out.byte (enc_byte _ (by omega) (by omega))) (strB_byte s)
    clear HO10 hb10 hp10 hby10 HC9 HR9 HN9 hbF HI6b HP6b HF6b HQ6b hb6b HL9
    go_wp2_with fail
    refine (equal_any p6 p10 c6 c10 _ _ _ _ _ HL6.out HL10.out HQ10.out HR10.out HB10.out HB10.out).mono ?_
    rintro e w11 ⟨rfl, hw11⟩
    subst hw11
    simp only [decide_true]
    clear HQ10 HR10 HL6 HL10 HB10
    go_wp2_with fail
    refine (putFlag_any p cap len xs true _ HI10.out.lenq HI10.out.bys (by omega) HI10.out.nil).mono ?_
    rintro e w12 ⟨rfl, HO12, hb12⟩
    simp only [if_true] at HO12
    have HI12 : Hid (InB 1048576 w12 p len cap xs) := HI10.out.below hb12
    have HP12 : Hid (Bys w12 p2 t1) := HP10.out.below hb12 (Nat.le_refl _)
    have HF12 : Hid (Bys w12 (some ⟨w4.heap.size, 0, none⟩) [109]) := HF10.out.below hb12 (Nat.le_refl _)
    have HG12 : Hid (Bys w12 (some ⟨w11.heap.size, 0, none⟩) (xs ++ [109])) := HO12.at
    have HL12 : Hid _ := HO12.len
    have hbH := hbG.trans (hb12.mono hbG.size)
    clear HI10 HP10 HF10 hb12 HO12 hbG
    go_wp2_with fail
    refine (clone_any p cap len xs _ HI12.out.lenq HI12.out.bys (by omega) HI12.out.nil).mono ?_
    rintro e w13 ⟨v13, rfl, HO13, hb13⟩
    have hz13 : w12.heap.size ≤ w13.heap.size := hb13.size
    have hbI := hbH.trans (hb13.mono hbH.size)
    have HF13 : Hid (Bys w13 (some ⟨w4.heap.size, 0, none⟩) [109]) := HF12.out.below hb13 (Nat.le_refl _)
    go_wp2_with (at_builtin; refine app8 _ rfl _ _ rfl w12.heap.size v13 len xs rfl HO13 (some ⟨w4.heap.size, 0, none⟩) 1 1 [109] rfl HF13.out rfl (fun h => by cases h) (by omega) hz13 ?_)
    intro v14 w14 HO14 hb14
    have hbJ := hbI.trans (hb14.mono hbH.size)
    have hbK := hb13.trans hb14
    have HP14 : Hid (Bys w14 p2 t1) := HP12.out.below hbK (Nat.le_refl _)
    have HG14 : Hid (Bys w14 (some ⟨w11.heap.size, 0, none⟩) (xs ++ [109])) := HG12.out.below hbK (Nat.le_refl _)
    obtain ⟨p14, c14, hv14, hc14, hp14, hby14⟩ := HO14.bys
    subst hv14
    have HL14 : Hid _ := HO14.len
    have HR14 : Hid (Bys w14 p14 (xs ++ [109])) := hby14
    have HB14 : Hid (∀ y ∈ xs ++ [(109 : Int)], 0 ≤ y ∧ y < 256) := app_byte HI12.out.byte (by decide)
    clear HO14 hb14 hp14 hby14 HO13 hb13 HF13 HF12 hbI hbH hbK HP12 HG12
    go_wp2_with fail
    refine (equal_any _ p14 _ c14 _ _ _ _ _ HL12.out HL14.out HG14.out HR14.out HB14.out HB14.out).mono ?_
    rintro e w15 ⟨rfl, hw15⟩
    subst hw15
    simp only [decide_true]
    have k1 := conv_str HP14.out t1.length c2 rfl
    clear HG14 HR14 HL12 HL14 HB14 HI12
    go_wp2
    go_ret
    exact ⟨by simp, hbJ⟩

theorem walk_codecTexts (s : ByteArray) (yes : Bool) (p : Option Addr) (len cap : Nat) (xs : List Int) (w : World) (hs : s.size ≤ 1048576) (hin : InB 1048576 w p len cap xs) :
    Calls Try.prog 4 #[.string s, .bool yes, .slice p len cap] w fun e w' => e = .returned (.bool true) ∧ Below w.heap.size w w' := texts_yes s yes p len cap xs w hs hin

theorem contract_codecTexts (H : Type) (enc : TypeId × Value → H) (W : World) (base : Nat) (args : Array Value) (ds gs : List (DataW H)) (before : List MemPlace)
    (hval0 : ∀ (j : Nat) t v, Try.f4.params[j]? = some t → args[j]? = some v → Value.okWide Try.prog W .any base t v)
    (hW : DataW.Whole enc Try.prog Try.f4.params.toList Rows.codecTextsSpec.vars false W args.toList ds gs before) (hk : Rows.uptoSmall H (ds ++ gs) = true) :
    Calls Try.prog 4 args W fun e W' => ∃ v, e = .returned v ∧ Rows.codecTextsSpec.post enc Try.prog Try.f4 false true false false W args v W' := by
  have hval : ∀ (j : Nat) t v, Try.f4.params[j]? = some t → args[j]? = some v → Value.okWide Try.prog W .any base t v := hval0
  have hW' := hW
  obtain ⟨p, q, hA0, hV, rfl, hfz, hnd⟩ := hW
  have hA : DataW.TrodAll enc Try.prog W 0 (fun _ => true) true Try.f4.params.toList args.toList ds p := hA0
  rw [Try.params4] at hA hval
  obtain ⟨v0, vs0, d0, ds0, p0, q0, hargs, rfl, rfl, h0, r0⟩ := trodAll_cons hA
  obtain ⟨v1, vs1, d1, ds1, p1, q1, rfl, rfl, rfl, h1, r1⟩ := trodAll_cons r0
  obtain ⟨v2, vs2, d2, ds2, p2, q2, rfl, rfl, rfl, h2, r2⟩ := trodAll_cons r1
  obtain ⟨rfl, rfl, rfl⟩ := trodAll_nil r2
  obtain rfl : args = #[v0, v1, v2] := by cases args; simp_all
  obtain ⟨rfl, rfl⟩ := trodVars_none hV
  simp only [List.append_nil] at hk
  obtain ⟨a0, rfl, rfl, rfl, w0⟩ := open_string Try.underlying9 (hval 0 9 v0 rfl rfl) h0
  have s0 : a0.size ≤ 1048576 := small_string hk (by simp)
  obtain ⟨a1, rfl, rfl, rfl⟩ := open_bool Try.underlying4 (hval 1 4 v1 rfl rfl) h1
  obtain ⟨a2, len2, cap2, rfl⟩ := okWide_slice Try.underlying22 (hval 2 22 v2 rfl rfl)
  have k2 := h2
  have lt2 : ∀ x ∈ p2, x.block < W.heap.size := by obtain ⟨m, hm⟩ := k2; exact DataW.trod_lt m _ _ _ hm
  obtain ⟨z2, w2⟩ := in_bytes h2 (small_slice hk (by simp))
  clear hA0 hval0
  simp only [List.append_nil] at hW'
  refine (walk_codecTexts a0 a1 a2 len2 cap2 z2 W s0 w2).mono fun e W' ⟨he, bel⟩ => ?_
  subst he
  exact ⟨_, rfl, _, _, _, [], _, [], hW', trodAll_mk1 (shut_bool Try.underlying4 _), (trodAll_cons_mk (shut_string Try.underlying9 w0) (trodAll_cons_mk (shut_bool Try.underlying4 a1) (trodAll_cons_mk (Below.trod laidOut (by kernel_rfl) (of_decide_eq_true (by kernel_rfl)) k2 bel lt2) trodAll_mk0))), rfl, bel.frame _, fun h => by cases h⟩

set_option maxRecDepth 100000 in
theorem lifted_codecTexts (os : Os) (started : os.Started) (H : Type) (enc : TypeId × Value → H) (F : Stop.Interp) :
    ReturnsInHanded {} Try.checked os 4 .any ((Rows.OpenSpec.upto Rows.codecTextsSpec).pre6 enc Try.prog Try.f4 Rows.codecTextsUptoRow.domain false) (((Rows.OpenSpec.upto Rows.codecTextsSpec).at F).post enc Try.prog Try.f4 false true false false) := by
  refine returnsInHanded_of_cond (C := Try.checked) (s := Rows.OpenSpec.upto Rows.codecTextsSpec) (k := Rows.uptoSmall) rfl own started (by kernel_rfl) Try.func4
    (OpenSpec.witness (enc := enc) (C := Try.checked) (s := Rows.OpenSpec.upto Rows.codecTextsSpec) (k := Rows.uptoSmall) rfl false ⟨#[], #[.string .empty, .bool false, .slice none 0 0], []⟩ 8 (by kernel_rfl) (by kernel_rfl) (by kernel_rfl)
      (x := ([.lit (.string []), .lit (.bool false), .nil], [], [])) (by kernel_rfl) rfl (by kernel_rfl)) ?_
  intro W base args ds gs before hval hW _ hk _
  exact contract_codecTexts H enc W base args ds gs before hval hW hk

/-- The statement. -/
theorem codecTexts_holds : Rows.CodecTextsUptoSaid :=
  OpenClaim.holds_of_cond 4 Try.f4 rfl rfl rfl rfl rfl rfl rfl ⟨rfl, rfl, rfl, rfl, rfl⟩ rfl rfl rfl rfl rfl (by kernel_rfl) Try.func4 (by kernel_rfl)
    (of_decide_eq_true (by kernel_rfl)) (by unfold Func.isWrapper; first | (rw [if_pos (by decide +kernel)]; kernel_rfl) | (rw [if_neg (by decide +kernel)]; exact ⟨rfl, rfl⟩))
    (fun os started H enc _ F => lifted_codecTexts os started H enc F)
#print axioms codecTexts_holds
end Go.Proofs.Ytcolmebpbjjehaa
