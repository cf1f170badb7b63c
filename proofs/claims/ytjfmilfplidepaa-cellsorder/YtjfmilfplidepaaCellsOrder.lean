/- What is put into a box of pairs, as much as there is room for, is taken once, in order; a clone has the same. -/
import Derived.Test.YtjfmilfplidepaaCeBg
import Derived.Test.YtjfmilfplidepaaCeEq
import Derived.Test.YtjfmilfplidepaaCeOpen
namespace Go.Proofs.Ytjfmilfplidepaa
open Go.ChangeShapes Go.WideShapes Go.ChangeAt Go.RowKit
open Go.ChangeMaps (open_string shut_string)
set_option linter.unusedVariables false
set_option maxRecDepth 100000

/-- A box that this call made. -/
structure Bo (w wr : World) (B c n : Nat) (xs : List (Int × Int)) : Prop where
  box : ∃ bs, BxP wr B c n bs xs
  lc : w.heap.size ≤ c
  below : Below w.heap.size w wr

theorem Bo.still {w wr w' : World} {B c n : Nat} {xs : List (Int × Int)} (h : Bo w wr B c n xs) (hb : Below wr.heap.size wr w') : Bo w w' B c n xs := by
  obtain ⟨bs, hx⟩ := h.box
  exact ⟨⟨bs, hx.below hb⟩, h.lc, h.below.trans (hb.mono h.below.size)⟩

/-- A box and its clone. -/
structure Bp (w wr : World) (B c B' c' n : Nat) (xs : List (Int × Int)) : Prop where
  one : ∃ bs, BxP wr B c n bs xs
  two : ∃ bs, BxP wr B' c' n bs xs
  ne : c ≠ c'
  lc : w.heap.size ≤ c
  lc' : w.heap.size ≤ c'
  below : Below w.heap.size w wr

theorem Bp.still {w wr w' : World} {B c B' c' n : Nat} {xs : List (Int × Int)} (h : Bp w wr B c B' c' n xs) (hb : Below wr.heap.size wr w') : Bp w w' B c B' c' n xs := by
  obtain ⟨bs, hx⟩ := h.one
  obtain ⟨cs, hy⟩ := h.two
  exact ⟨⟨bs, hx.below hb⟩, ⟨cs, hy.below hb⟩, h.ne, h.lc, h.lc', h.below.trans (hb.mono h.below.size)⟩

set_option maxHeartbeats 8000000 in
theorem walk_cellsOrder (r : Int) (a : Option Addr) (len cap : Nat) (l : List (Int × Int)) (w : World) (hr : (Lit.int IntKind.u8 r).wf = true) (hin : InP w a len cap l) :
    Calls Try.prog 6 #[.int .u8 r, .slice a len cap] w fun e w' => e = .returned (.bool true) ∧ Below w.heap.size w w' := by
  obtain ⟨u0, u1⟩ := bounds_u8 hr
  clear hr
  obtain ⟨s, rfl⟩ : ∃ s : Nat, r = (s : Int) := ⟨r.toNat, by omega⟩
  obtain ⟨n, hn1, hn2, HN⟩ : ∃ n : Nat, 1 ≤ n ∧ n ≤ 50 ∧ Hid ((s : Int) % 50 + 1 = (n : Int)) := ⟨s % 50 + 1, by omega, by omega, by unfold Hid; omega⟩
  have hroom : len ≤ 8796093021952 := by have := hin.le; have := hin.room; omega
  have hle : len ≤ cap := hin.le
  have HL : Hid (l.length = len) := hin.lenq
  have HI : Hid (InP w a len cap l) := hin
  clear hin
  go_enter Try.func6, Try.ntmps6
  go_wp2_with fail
  rw [HN.out]
  clear HN u0 u1
  refine (newBox_anyP n hn1 (by omega) w).mono ?_
  rintro e w1 ⟨rfl, hb1, t1⟩
  have H1 : Hid (Bo w w1 (w.heap.size + 1) w.heap.size n []) := ⟨⟨_, hb1⟩, Nat.le_refl _, t1⟩
  clear hb1 t1
  go_wp2_with fail
  refine (begun_any w1).mono ?_
  rintro e w2 ⟨rfl, hb2⟩
  have H2 : Hid (Bo w w2 (w.heap.size + 1) w.heap.size n (l.take (min 0 n))) := by
    have := H1.out.still hb2
    simpa [Hid] using this
  clear hb2 H1
  obtain ⟨B, hB⟩ : ∃ B, w.heap.size + 1 = B := ⟨_, rfl⟩
  obtain ⟨c, hc⟩ : ∃ c, w.heap.size = c := ⟨_, rfl⟩
  rw [hB] at H2 ⊢
  have H2' : Hid (Bo w w2 B c n (l.take (min 0 n))) := by rw [← hc]; exact H2
  clear H2 hB hc
  go_wp2_with fail
  go_loopw [41] (fun iv wr => ∃ j : Nat, j ≤ len ∧ iv = .int .i64 j ∧ Hid (Bo w wr B c n (l.take (min j n)))) (fun iv _ => len - (intOf iv).toNat)
  case atStart => exact ⟨0, by omega, rfl, H2'⟩
  case round =>
    obtain ⟨j, hj, rfl, HB⟩ := hrel
    by_cases hlt : j < len
    · have hli : (j : Int) < (len : Int) := by omega
      obtain ⟨b, o, x, rfl, hx, _, hcx⟩ := (HI.out.up HB.out.below).at hlt
      have c0 : wr.cell? ⟨b, o + j * 2, none⟩ = some (.int .i64 x.1) := hcx 0 _ rfl
      have c1 : wr.cell? ⟨b, o + j * 2 + 1, none⟩ = some (.int .i64 x.2) := hcx 1 _ rfl
      have HX : Hid (l[j]? = some x) := hx
      clear hcx hx
      obtain ⟨wo, hwo⟩ : ∃ wo, wr.alloc (.cells #[.int .i64 x.1, .int .i64 x.2] 62) = wo := ⟨_, rfl⟩
      have hk : Bk wo wr.heap.size 62 #[.int .i64 x.1, .int .i64 x.2] := by rw [← hwo]; exact Bk.new _ _ _
      have d0 : wo.cell? ⟨wr.heap.size, 0, none⟩ = some (.int .i64 x.1) := hk.cell 0
      have d1 : wo.cell? ⟨wr.heap.size, 1, none⟩ = some (.int .i64 x.2) := hk.cell 1
      have HO : Hid (Bo w wo B c n (l.take (min j n))) := by rw [← hwo]; exact HB.out.still ((Below.refl _ wr).alloc (Nat.le_refl _) _)
      obtain ⟨bs, hbx⟩ := HO.out.box
      have HBX : Hid (BxP wo B c n bs (l.take (min j n))) := hbx
      clear hk hbx
      by_cases hjn : j < n
      · have hg : ¬ (n : Int) ≤ (j : Int) := by omega
        go_wp2_with fail
        refine (put_anyP HBX.out x (by have := HL.out; simp; omega)).mono ?_
        rintro e w3 ⟨rfl, ⟨b3, h3⟩, t3⟩
        have HE : Hid (Bo w w3 B c n (l.take (min (j + 1) n))) := by
          have e1 : min j n = j := by omega
          have e2 : min (j + 1) n = j + 1 := by omega
          rw [e1] at h3
          rw [e2, List.take_add_one, HX.out]
          exact ⟨⟨_, h3⟩, HO.out.lc, HO.out.below.trans (t3.below HO.out.below.size (by simpa using HO.out.lc))⟩
        clear h3 t3
        go_wp2
        go_roundw
        case rel => exact ⟨j + 1, by omega, by go_num, HE⟩
        case measure => simp [intOf]; omega
      · have hg : (n : Int) ≤ (j : Int) := by omega
        go_wp2_with fail
        refine (put_fullP HBX.out x (by have := HL.out; simp; omega)).mono ?_
        rintro e w3 ⟨rfl, h3, t3⟩
        have HE : Hid (Bo w w3 B c n (l.take (min (j + 1) n))) := by
          rw [show min (j + 1) n = min j n by omega]
          exact HO.out.still t3
        clear h3 t3
        go_wp2
        go_roundw
        case rel => exact ⟨j + 1, by omega, by go_num, HE⟩
        case measure => simp [intOf]; omega
    · have hli : ¬ (j : Int) < (len : Int) := by omega
      by_cases hnl : n < len
      · have hnl2 : (n : Int) < (len : Int) := by omega
        obtain ⟨xs, hxs⟩ : ∃ xs, xs = l.take n := ⟨_, rfl⟩
        have HM : Hid (xs = l.take n ∧ xs.length = n) := ⟨hxs, by rw [hxs]; have := HL.out; simp; omega⟩
        have HB2 : Hid (Bo w wr B c n xs) := by
          have := HB.out
          rw [show min j n = n by omega, ← hxs] at this
          exact this
        obtain ⟨bs, hbx⟩ := HB2.out.box
        have HBX : Hid (BxP wr B c n bs xs) := hbx
        clear hbx hxs HB
        go_wp2_with fail
        refine (bclone_anyP HBX.out (by omega)).mono ?_
        rintro e w3 ⟨rfl, h3, h3', t3⟩
        have H3 : Hid (Bp w w3 B c (wr.heap.size + 1) wr.heap.size n (xs.drop 0)) := by
          have := HB2.out.below.size
          have := HBX.out.ch.lt
          exact ⟨⟨_, h3⟩, ⟨_, h3'⟩, by omega, HB2.out.lc, by omega, HB2.out.below.trans (t3.below HB2.out.below.size (by simpa using HB2.out.lc))⟩
        clear h3 h3' t3
        obtain ⟨B', hB'⟩ : ∃ B', wr.heap.size + 1 = B' := ⟨_, rfl⟩
        obtain ⟨c', hc'⟩ : ∃ c', wr.heap.size = c' := ⟨_, rfl⟩
        rw [hB'] at H3 ⊢
        rw [hc'] at H3
        clear hB' hc' HBX HB2
        go_wp2_with fail
        go_loopw [66] (fun iv wr => ∃ i : Nat, i ≤ n ∧ iv = .int .i64 i ∧ Hid (Bp w wr B c B' c' n (xs.drop i))) (fun iv _ => n - (intOf iv).toNat)
        case atStart => exact ⟨0, by omega, rfl, H3⟩
        case round =>
          obtain ⟨i, hi, rfl, HP⟩ := hrel
          by_cases hlt : i < n
          · have hli : (i : Int) < (n : Int) := by omega
            obtain ⟨b, o, x, rfl, hx, _, hcx⟩ := (HI.out.up HP.out.below).at (j := i) (by omega)
            have c0 : wr.cell? ⟨b, o + i * 2, none⟩ = some (.int .i64 x.1) := hcx 0 _ rfl
            have c1 : wr.cell? ⟨b, o + i * 2 + 1, none⟩ = some (.int .i64 x.2) := hcx 1 _ rfl
            have hd : xs.drop i = x :: xs.drop (i + 1) := by
              have hxi : xs[i]? = some x := by rw [HM.out.1, List.getElem?_take, if_pos hlt]; exact hx
              have hl : i < xs.length := by rw [HM.out.2]; exact hlt
              rw [List.drop_eq_getElem_cons hl]
              congr 1
              rw [List.getElem?_eq_getElem hl] at hxi
              exact Option.some.inj hxi
            clear hcx hx
            obtain ⟨wo, hwo⟩ : ∃ wo, wr.alloc (.cells #[.int .i64 x.1, .int .i64 x.2] 62) = wo := ⟨_, rfl⟩
            have HK : Hid (Bk wo wr.heap.size 62 #[.int .i64 x.1, .int .i64 x.2]) := by rw [← hwo]; exact Bk.new _ _ _
            have HPO : Hid (Bp w wo B c B' c' n (x :: xs.drop (i + 1))) := by
              rw [← hwo, ← hd]
              exact HP.out.still ((Below.refl _ wr).alloc (Nat.le_refl _) _)
            obtain ⟨bs1, hb1⟩ := HPO.out.one
            have hbl := hb1.len
            obtain ⟨b1, bs1, rfl⟩ : ∃ b1 bs', bs1 = b1 :: bs' := by
              cases bs1 with
              | nil => simp at hbl
              | cons b1 bs' => exact ⟨b1, bs', rfl⟩
            have HB1 : Hid (BxP wo B c n (b1 :: bs1) (x :: xs.drop (i + 1))) := hb1
            clear hb1 hd hbl HP
            go_wp2_with fail
            refine (take_anyP HB1.out).mono ?_
            rintro e w4 ⟨rfl, h4, t4⟩
            have HK4 : Hid (Bk w4 wr.heap.size 62 #[.int .i64 x.1, .int .i64 x.2]) := HK.out.tn t4 (by simpa using HB1.out.ch.ne HK.out)
            obtain ⟨cs2, hc2⟩ := HPO.out.two
            have h42 := hc2.other HB1.out.ch (fun h => HPO.out.ne h.symm) t4
            obtain ⟨w5, hw5⟩ : ∃ w5, w4.alloc (.cells #[.int .i64 x.1, .int .i64 x.2] 62) = w5 := ⟨_, rfl⟩
            have hb5 : Below w4.heap.size w4 w5 := by rw [← hw5]; exact (Below.refl _ _).alloc (Nat.le_refl _) _
            have H5 : Hid (BxP w5 B c n bs1 (xs.drop (i + 1)) ∧ BxP w5 B' c' n cs2 (x :: xs.drop (i + 1)) ∧ Below w.heap.size w w5) := ⟨h4.below hb5, h42.below hb5, (HPO.out.below.trans (t4.below HPO.out.below.size (by simpa using HPO.out.lc))).trans (hb5.mono (by have := (HPO.out.below.trans (t4.below HPO.out.below.size (by simpa using HPO.out.lc))).size; omega))⟩
            have HK5 : Hid (Bk w5 wr.heap.size 62 #[.int .i64 x.1, .int .i64 x.2]) := HK4.out.below hb5 HK4.out.lt
            have HL5 : Hid (Bk w5 w4.heap.size 62 #[.int .i64 x.1, .int .i64 x.2]) := by rw [← hw5]; exact Bk.new _ _ _
            have hbl := hc2.len
            obtain ⟨b2, cs2, rfl⟩ : ∃ b2 cs', cs2 = b2 :: cs' := by
              cases cs2 with
              | nil => simp at hbl
              | cons b2 cs' => exact ⟨b2, cs', rfl⟩
            clear h4 t4 hc2 h42 hb5 hbl HB1 HK4 hwo c0 c1
            go_wp2_with fail
            refine (take_anyP H5.out.2.1).mono ?_
            rintro e w6 ⟨rfl, h6, t6⟩
            have HK6 : Hid (Bk w6 wr.heap.size 62 #[.int .i64 x.1, .int .i64 x.2]) := HK5.out.tn t6 (by simpa using H5.out.2.1.ch.ne HK5.out)
            have HL6 : Hid (Bk w6 w4.heap.size 62 #[.int .i64 x.1, .int .i64 x.2]) := HL5.out.tn t6 (by simpa using H5.out.2.1.ch.ne HL5.out)
            have h61 := H5.out.1.other H5.out.2.1.ch HPO.out.ne t6
            have HP6 : Hid (Bp w w6 B c B' c' n (xs.drop (i + 1))) := ⟨⟨_, h61⟩, ⟨_, h6⟩, HPO.out.ne, HPO.out.lc, HPO.out.lc', H5.out.2.2.trans (t6.below H5.out.2.2.size (by simpa using HPO.out.lc'))⟩
            obtain ⟨w7, hw7⟩ : ∃ w7, w6.alloc (.cells #[.int .i64 x.1, .int .i64 x.2] 62) = w7 := ⟨_, rfl⟩
            have hb7 : Below w6.heap.size w6 w7 := by rw [← hw7]; exact (Below.refl _ _).alloc (Nat.le_refl _) _
            have HP7 : Hid (Bp w w7 B c B' c' n (xs.drop (i + 1))) := HP6.out.still hb7
            have kk := HK6.out.below hb7 HK6.out.lt
            have kl := HL6.out.below hb7 HL6.out.lt
            have km : Bk w7 w6.heap.size 62 #[.int .i64 x.1, .int .i64 x.2] := by rw [← hw7]; exact Bk.new _ _ _
            have k0 : w7.cell? ⟨wr.heap.size, 0, none⟩ = some (.int .i64 x.1) := kk.cell 0
            have k1 : w7.cell? ⟨wr.heap.size, 1, none⟩ = some (.int .i64 x.2) := kk.cell 1
            have l0 : w7.cell? ⟨w4.heap.size, 0, none⟩ = some (.int .i64 x.1) := kl.cell 0
            have l1 : w7.cell? ⟨w4.heap.size, 1, none⟩ = some (.int .i64 x.2) := kl.cell 1
            have m0 : w7.cell? ⟨w6.heap.size, 0, none⟩ = some (.int .i64 x.1) := km.cell 0
            have m1 : w7.cell? ⟨w6.heap.size, 1, none⟩ = some (.int .i64 x.2) := km.cell 1
            have heq := eq_pair x.1 x.2 w7
            clear kk kl km hb7 h61 h6 t6 HK6 HL6 HK5 HL5 HK H5 HP6 hw5
            go_wp2
            go_roundw
            case rel => exact ⟨i + 1, by omega, by go_num, HP7⟩
            case measure => simp [intOf]; omega
          · have hli : ¬ (i : Int) < (n : Int) := by omega
            have HP8 : Hid (Bp w wr B c B' c' n []) := by
              have := HP.out
              rw [List.drop_eq_nil_of_le (by rw [HM.out.2]; omega)] at this
              exact this
            obtain ⟨bs1, hb1⟩ := HP8.out.one
            have HB1 : Hid (BxP wr B c n bs1 []) := hb1
            clear hb1 HP
            go_wp2_with fail
            refine (take_noneP HB1.out).mono ?_
            rintro e w4 ⟨rfl, hb4⟩
            have HP4 : Hid (Bp w w4 B c B' c' n []) := HP8.out.still hb4
            obtain ⟨bs2, hb2⟩ := HP4.out.two
            have HB2 : Hid (BxP w4 B' c' n bs2 []) := hb2
            clear hb2 hb4 HP8 HB1
            go_wp2_with fail
            refine (take_noneP HB2.out).mono ?_
            rintro e w5 ⟨rfl, hb5⟩
            obtain ⟨w6, hw6⟩ : ∃ w6, w5.alloc (.cells #[.int .i64 0, .int .i64 0] 62) = w6 := ⟨_, rfl⟩
            have HP6 : Hid (Bp w w6 B c B' c' n []) := by rw [← hw6]; exact (HP4.out.still hb5).still ((Below.refl _ _).alloc (Nat.le_refl _) _)
            have HW6 : Hid _ := hw6
            obtain ⟨bs3, hb3⟩ := HP6.out.one
            obtain ⟨bs4, hb4⟩ := HP6.out.two
            have HB3 : Hid (BxP w6 B c n bs3 []) := hb3
            have HB4 : Hid (BxP w6 B' c' n bs4 []) := hb4
            clear hb5 hb3 hb4 hw6
            go_wp2_with fail
            rw [HW6.out]
            refine (blen_anyP HB3.out 0 rfl).mono ?_
            rintro e w7 ⟨rfl, rfl⟩
            go_wp2_with fail
            refine (broom_anyP HB4.out).mono ?_
            rintro e w8 ⟨rfl, rfl⟩
            go_wp2
            go_ret
            exact ⟨rfl, HP6.out.below⟩
      · have hnl2 : ¬ (n : Int) < (len : Int) := by omega
        have hjl : j = len := by omega
        subst hjl
        obtain ⟨xs, hxs⟩ : ∃ xs, xs = l.take j := ⟨_, rfl⟩
        have HM : Hid (xs = l.take j ∧ xs.length = j) := ⟨hxs, by rw [hxs]; have := HL.out; simp; omega⟩
        have HB2 : Hid (Bo w wr B c n xs) := by
          have := HB.out
          rw [show min j n = j by omega, ← hxs] at this
          exact this
        obtain ⟨bs, hbx⟩ := HB2.out.box
        have HBX : Hid (BxP wr B c n bs xs) := hbx
        clear hbx hxs HB
        go_wp2_with fail
        refine (bclone_anyP HBX.out (by omega)).mono ?_
        rintro e w3 ⟨rfl, h3, h3', t3⟩
        have H3 : Hid (Bp w w3 B c (wr.heap.size + 1) wr.heap.size n (xs.drop 0)) := by
          have := HB2.out.below.size
          have := HBX.out.ch.lt
          exact ⟨⟨_, h3⟩, ⟨_, h3'⟩, by omega, HB2.out.lc, by omega, HB2.out.below.trans (t3.below HB2.out.below.size (by simpa using HB2.out.lc))⟩
        clear h3 h3' t3
        obtain ⟨B', hB'⟩ : ∃ B', wr.heap.size + 1 = B' := ⟨_, rfl⟩
        obtain ⟨c', hc'⟩ : ∃ c', wr.heap.size = c' := ⟨_, rfl⟩
        rw [hB'] at H3 ⊢
        rw [hc'] at H3
        clear hB' hc' HBX HB2
        go_wp2_with fail
        go_loopw [66] (fun iv wr => ∃ i : Nat, i ≤ j ∧ iv = .int .i64 i ∧ Hid (Bp w wr B c B' c' n (xs.drop i))) (fun iv _ => j - (intOf iv).toNat)
        case atStart => exact ⟨0, by omega, rfl, H3⟩
        case round =>
          obtain ⟨i, hi, rfl, HP⟩ := hrel
          by_cases hlt : i < j
          · have hli : (i : Int) < (j : Int) := by omega
            obtain ⟨b, o, x, rfl, hx, _, hcx⟩ := (HI.out.up HP.out.below).at (j := i) (by omega)
            have c0 : wr.cell? ⟨b, o + i * 2, none⟩ = some (.int .i64 x.1) := hcx 0 _ rfl
            have c1 : wr.cell? ⟨b, o + i * 2 + 1, none⟩ = some (.int .i64 x.2) := hcx 1 _ rfl
            have hd : xs.drop i = x :: xs.drop (i + 1) := by
              have hxi : xs[i]? = some x := by rw [HM.out.1, List.getElem?_take, if_pos hlt]; exact hx
              have hl : i < xs.length := by rw [HM.out.2]; exact hlt
              rw [List.drop_eq_getElem_cons hl]
              congr 1
              rw [List.getElem?_eq_getElem hl] at hxi
              exact Option.some.inj hxi
            clear hcx hx
            obtain ⟨wo, hwo⟩ : ∃ wo, wr.alloc (.cells #[.int .i64 x.1, .int .i64 x.2] 62) = wo := ⟨_, rfl⟩
            have HK : Hid (Bk wo wr.heap.size 62 #[.int .i64 x.1, .int .i64 x.2]) := by rw [← hwo]; exact Bk.new _ _ _
            have HPO : Hid (Bp w wo B c B' c' n (x :: xs.drop (i + 1))) := by
              rw [← hwo, ← hd]
              exact HP.out.still ((Below.refl _ wr).alloc (Nat.le_refl _) _)
            obtain ⟨bs1, hb1⟩ := HPO.out.one
            have hbl := hb1.len
            obtain ⟨b1, bs1, rfl⟩ : ∃ b1 bs', bs1 = b1 :: bs' := by
              cases bs1 with
              | nil => simp at hbl
              | cons b1 bs' => exact ⟨b1, bs', rfl⟩
            have HB1 : Hid (BxP wo B c n (b1 :: bs1) (x :: xs.drop (i + 1))) := hb1
            clear hb1 hd hbl HP
            go_wp2_with fail
            refine (take_anyP HB1.out).mono ?_
            rintro e w4 ⟨rfl, h4, t4⟩
            have HK4 : Hid (Bk w4 wr.heap.size 62 #[.int .i64 x.1, .int .i64 x.2]) := HK.out.tn t4 (by simpa using HB1.out.ch.ne HK.out)
            obtain ⟨cs2, hc2⟩ := HPO.out.two
            have h42 := hc2.other HB1.out.ch (fun h => HPO.out.ne h.symm) t4
            obtain ⟨w5, hw5⟩ : ∃ w5, w4.alloc (.cells #[.int .i64 x.1, .int .i64 x.2] 62) = w5 := ⟨_, rfl⟩
            have hb5 : Below w4.heap.size w4 w5 := by rw [← hw5]; exact (Below.refl _ _).alloc (Nat.le_refl _) _
            have H5 : Hid (BxP w5 B c n bs1 (xs.drop (i + 1)) ∧ BxP w5 B' c' n cs2 (x :: xs.drop (i + 1)) ∧ Below w.heap.size w w5) := ⟨h4.below hb5, h42.below hb5, (HPO.out.below.trans (t4.below HPO.out.below.size (by simpa using HPO.out.lc))).trans (hb5.mono (by have := (HPO.out.below.trans (t4.below HPO.out.below.size (by simpa using HPO.out.lc))).size; omega))⟩
            have HK5 : Hid (Bk w5 wr.heap.size 62 #[.int .i64 x.1, .int .i64 x.2]) := HK4.out.below hb5 HK4.out.lt
            have HL5 : Hid (Bk w5 w4.heap.size 62 #[.int .i64 x.1, .int .i64 x.2]) := by rw [← hw5]; exact Bk.new _ _ _
            have hbl := hc2.len
            obtain ⟨b2, cs2, rfl⟩ : ∃ b2 cs', cs2 = b2 :: cs' := by
              cases cs2 with
              | nil => simp at hbl
              | cons b2 cs' => exact ⟨b2, cs', rfl⟩
            clear h4 t4 hc2 h42 hb5 hbl HB1 HK4 hwo c0 c1
            go_wp2_with fail
            refine (take_anyP H5.out.2.1).mono ?_
            rintro e w6 ⟨rfl, h6, t6⟩
            have HK6 : Hid (Bk w6 wr.heap.size 62 #[.int .i64 x.1, .int .i64 x.2]) := HK5.out.tn t6 (by simpa using H5.out.2.1.ch.ne HK5.out)
            have HL6 : Hid (Bk w6 w4.heap.size 62 #[.int .i64 x.1, .int .i64 x.2]) := HL5.out.tn t6 (by simpa using H5.out.2.1.ch.ne HL5.out)
            have h61 := H5.out.1.other H5.out.2.1.ch HPO.out.ne t6
            have HP6 : Hid (Bp w w6 B c B' c' n (xs.drop (i + 1))) := ⟨⟨_, h61⟩, ⟨_, h6⟩, HPO.out.ne, HPO.out.lc, HPO.out.lc', H5.out.2.2.trans (t6.below H5.out.2.2.size (by simpa using HPO.out.lc'))⟩
            obtain ⟨w7, hw7⟩ : ∃ w7, w6.alloc (.cells #[.int .i64 x.1, .int .i64 x.2] 62) = w7 := ⟨_, rfl⟩
            have hb7 : Below w6.heap.size w6 w7 := by rw [← hw7]; exact (Below.refl _ _).alloc (Nat.le_refl _) _
            have HP7 : Hid (Bp w w7 B c B' c' n (xs.drop (i + 1))) := HP6.out.still hb7
            have kk := HK6.out.below hb7 HK6.out.lt
            have kl := HL6.out.below hb7 HL6.out.lt
            have km : Bk w7 w6.heap.size 62 #[.int .i64 x.1, .int .i64 x.2] := by rw [← hw7]; exact Bk.new _ _ _
            have k0 : w7.cell? ⟨wr.heap.size, 0, none⟩ = some (.int .i64 x.1) := kk.cell 0
            have k1 : w7.cell? ⟨wr.heap.size, 1, none⟩ = some (.int .i64 x.2) := kk.cell 1
            have l0 : w7.cell? ⟨w4.heap.size, 0, none⟩ = some (.int .i64 x.1) := kl.cell 0
            have l1 : w7.cell? ⟨w4.heap.size, 1, none⟩ = some (.int .i64 x.2) := kl.cell 1
            have m0 : w7.cell? ⟨w6.heap.size, 0, none⟩ = some (.int .i64 x.1) := km.cell 0
            have m1 : w7.cell? ⟨w6.heap.size, 1, none⟩ = some (.int .i64 x.2) := km.cell 1
            have heq := eq_pair x.1 x.2 w7
            clear kk kl km hb7 h61 h6 t6 HK6 HL6 HK5 HL5 HK H5 HP6 hw5
            go_wp2
            go_roundw
            case rel => exact ⟨i + 1, by omega, by go_num, HP7⟩
            case measure => simp [intOf]; omega
          · have hli : ¬ (i : Int) < (j : Int) := by omega
            have HP8 : Hid (Bp w wr B c B' c' n []) := by
              have := HP.out
              rw [List.drop_eq_nil_of_le (by rw [HM.out.2]; omega)] at this
              exact this
            obtain ⟨bs1, hb1⟩ := HP8.out.one
            have HB1 : Hid (BxP wr B c n bs1 []) := hb1
            clear hb1 HP
            go_wp2_with fail
            refine (take_noneP HB1.out).mono ?_
            rintro e w4 ⟨rfl, hb4⟩
            have HP4 : Hid (Bp w w4 B c B' c' n []) := HP8.out.still hb4
            obtain ⟨bs2, hb2⟩ := HP4.out.two
            have HB2 : Hid (BxP w4 B' c' n bs2 []) := hb2
            clear hb2 hb4 HP8 HB1
            go_wp2_with fail
            refine (take_noneP HB2.out).mono ?_
            rintro e w5 ⟨rfl, hb5⟩
            obtain ⟨w6, hw6⟩ : ∃ w6, w5.alloc (.cells #[.int .i64 0, .int .i64 0] 62) = w6 := ⟨_, rfl⟩
            have HP6 : Hid (Bp w w6 B c B' c' n []) := by rw [← hw6]; exact (HP4.out.still hb5).still ((Below.refl _ _).alloc (Nat.le_refl _) _)
            have HW6 : Hid _ := hw6
            obtain ⟨bs3, hb3⟩ := HP6.out.one
            obtain ⟨bs4, hb4⟩ := HP6.out.two
            have HB3 : Hid (BxP w6 B c n bs3 []) := hb3
            have HB4 : Hid (BxP w6 B' c' n bs4 []) := hb4
            clear hb5 hb3 hb4 hw6
            go_wp2_with fail
            rw [HW6.out]
            refine (blen_anyP HB3.out 0 rfl).mono ?_
            rintro e w7 ⟨rfl, rfl⟩
            go_wp2_with fail
            refine (broom_anyP HB4.out).mono ?_
            rintro e w8 ⟨rfl, rfl⟩
            go_wp2
            go_ret
            exact ⟨rfl, HP6.out.below⟩

set_option maxRecDepth 100000 in
set_option maxHeartbeats 2000000 in
theorem lifted_cellsOrder (os : Os) (started : os.Started) (H : Type) (enc : TypeId × Value → H) :
    ReturnsInHanded {} Try.checked os 6 .any (Rows.cellsOrderSpec.pre6 enc Try.prog Try.f6 Rows.cellsOrderRow.domain false) (Rows.cellsOrderSpec.post enc Try.prog Try.f6 false true false false) := by
  refine returnsInHanded_of_change_sized (C := Try.checked) own started (by kernel_rfl) Try.func6
    (ChangeSpec.witness6 (enc := enc) (C := Try.checked) false ⟨#[], #[.int .u8 0, .slice none 0 0], []⟩ 8 (by kernel_rfl) (by kernel_rfl) (by kernel_rfl) (by kernel_rfl)) ?_
  intro W base args ds gs before hval0 hW _ hsz0 _
  have hsz : (DataW.weightsEach Try.prog (Try.f6.params.toList ++ Rows.cellsOrderSpec.plain.varTypes Try.prog) (ds ++ gs)).all (· ≤ reachBytes) = true := hsz0
  clear hsz0
  have hval : ∀ (j : Nat) t v, Try.f6.params[j]? = some t → args[j]? = some v → Value.okWide Try.prog W .any base t v := hval0
  have hW' := hW
  obtain ⟨p, q, hA0, hV, rfl, hfz, hnd⟩ := hW
  have hA : DataW.TrodAll enc Try.prog W 0 (fun _ => true) true Try.f6.params.toList args.toList ds p := hA0
  rw [Try.params6] at hA hval hsz
  obtain ⟨v0, vs0, d0, ds0, p0, q0, hargs, rfl, rfl, h0, r0⟩ := trodAll_cons hA
  obtain ⟨v1, vs1, d1, ds1, p1, q1, rfl, rfl, rfl, h1, r1⟩ := trodAll_cons r0
  obtain ⟨rfl, rfl, rfl⟩ := trodAll_nil r1
  obtain rfl : args = #[v0, v1] := by cases args; simp_all
  obtain ⟨rfl, rfl⟩ := trodVars_none hV
  obtain ⟨a0, rfl, rfl, rfl, w0⟩ := open_int Try.underlying5 (hval 0 5 v0 rfl rfl) h0
  obtain ⟨a1, len1, cap1, rfl⟩ := okWide_slice Try.underlying58 (hval 1 58 v1 rfl rfl)
  have k1 := h1
  have lt1 : ∀ x ∈ p1, x.block < W.heap.size := by obtain ⟨m, hm⟩ := k1; exact DataW.trod_lt m _ _ _ hm
  obtain ⟨z1, w1⟩ : ∃ l, InP W a1 len1 cap1 l := by
    refine in_pairs h1 fun n hn => ?_
    have := of_decide_eq_true (List.all_eq_true.1 hsz _ (DataW.weights_mem_each (j := 1) (t := 58) rfl rfl n hn))
    simp only [reachBytes] at this
    omega
  clear hA0 hval0
  refine (walk_cellsOrder a0 a1 len1 cap1 z1 W w0 w1).mono fun e W' ⟨he, bel⟩ => ?_
  subst he
  exact ⟨_, rfl, _, _, _, [], _, [], hW', trodAll_mk1 (shut_bool Try.underlying4 _), (trodAll_cons_mk (shut_int Try.underlying5 w0) (trodAll_cons_mk (Below.trod laidOut (by kernel_rfl) (of_decide_eq_true (by kernel_rfl)) k1 bel lt1) trodAll_mk0)), rfl, bel.frame _, fun h => by cases h⟩

/-- The statement. -/
theorem cellsOrder_holds : Rows.CellsOrderSaid :=
  OpenClaim.holds_of_wide 6 Try.f6 rfl rfl rfl rfl rfl rfl rfl ⟨rfl, rfl, rfl, rfl, rfl⟩ rfl rfl rfl rfl rfl (by kernel_rfl) Try.func6 (by kernel_rfl)
    (of_decide_eq_true (by kernel_rfl)) (by unfold Func.isWrapper; first | (rw [if_pos (by decide +kernel)]; kernel_rfl) | (rw [if_neg (by decide +kernel)]; exact ⟨rfl, rfl⟩))
    (fun os started H enc _ => lifted_cellsOrder os started H enc)
#print axioms cellsOrder_holds
end Go.Proofs.Ytjfmilfplidepaa
