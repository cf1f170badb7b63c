/- What is handed in is left as it is, and what is answered is nobody's else. -/
import Derived.Test.YtahcfpfjijkchaaDkOwnM
namespace Go.Proofs.Ytahcfpfjijkchaa
open Go.ChangeShapes Go.WideShapes Go.ChangeAt Go.RowKit Go.Shelf
open Go.ChangeMaps (open_string shut_string)
set_option linter.unusedVariables false

theorem own_last (k : Nat) (hk : k < 4) (xs : List Int) (ks : List Bool) :
    ((((Dk.fresh 4).put k xs).setFuse 1 ks).2.bar).1 = 6 ∧ (((((Dk.fresh 4).put k xs).setFuse 1 ks).2.bar).2).last k = (if ks.getD 0 false = true then xs else zeros) ∧ (((((Dk.fresh 4).put k xs).setFuse 1 ks).2.bar).2).n = 4 := by
  have hz : dirts (upd (fun _ => none) k xs) k = [] := by
    simp only [dirts, List.filter_eq_nil_iff, List.mem_range]
    intro i hi
    have : ¬ i = k := by omega
    simp [upd, this]
  refine ⟨rfl, ?_, rfl⟩
  show loseS (upd (fun _ => none) k xs) ks (fun _ => zeros) k = _
  rw [loseS, hz]
  simp [upd]

set_option maxRecDepth 100000 in
set_option maxHeartbeats 4000000 in
theorem walk_diskOwn (i a b : Int) (p : Option Addr) (len cap : Nat) (ks : List Bool) (w : World) (hi : (Lit.int .i64 i).wf = true) (ha : (Lit.int .u8 a).wf = true) (hb : (Lit.int .u8 b).wf = true) (hin : InK w p len cap ks) :
    Calls Try.prog 8 #[.int .i64 i, .int .u8 a, .int .u8 b, .slice p len cap] w fun e w' => e = .returned (.bool true) ∧ Below w.heap.size w w' := by
  have HS : Hid (Sec (sct a b)) := sec_sct (by have := bounds_u8 ha; omega) (by have := bounds_u8 hb; omega)
  have HI : Hid (InK w p len cap ks) := hin
  have hlt := hin.lt
  have HLT : Hid (∀ ad, p = some ad → 0 < ks.length → ad.block < w.heap.size) := hlt
  have hle := hin.le
  have hroom := hin.room
  clear ha hb hin hi hlt
  go_enter Try.func8, Try.ntmps8
  go_wp2_with fail
  refine (newF 4 w (by omega) (by omega)).mono ?_
  rintro e w1 ⟨B, rfl, hd1, hb1⟩
  have HD1 : Hid (Sep w1 w.heap.size B (Dk.fresh 4) []) := Sep.of hd1
  have HB1 : Hid (Below w.heap.size w w1) := hb1
  clear hd1 hb1
  go_wp2_with fail
  refine (begun_any w1).mono ?_
  rintro e w2 ⟨rfl, hb2⟩
  have HD2 : Hid (Sep w2 w.heap.size B (Dk.fresh 4) []) := HD1.out.below hb2
  have HB2 : Hid (Below w.heap.size w w2) := HB1.out.trans (hb2.mono HB1.out.size)
  clear hb2 HD1 HB1
  go_wp2_with fail
  refine (sector_any a b w2).mono ?_
  rintro e w3 ⟨g3, rfl, hg3, hr3, hb3⟩
  have HD3 : Hid (Sep w3 w.heap.size B (Dk.fresh 4) [g3]) := HD2.out.add hb3 hg3 hr3.lt
  have HB3 : Hid (Below w.heap.size w w3) := HB2.out.trans (hb3.mono HB2.out.size)
  have HR3 : Hid (Row w3 g3 (sct a b)) := hr3
  have hg3w : w.heap.size ≤ g3 := Nat.le_trans HB2.out.size hg3
  clear hg3 hr3 hb3 HD2 HB2
  go_wp2_with fail
  refine (writeS HD3.out HB3.out.size i _ 512 _ (sct a b) HS.out.1 HR3.out.bys HS.out.2).mono ?_
  rintro e w4 ⟨rfl, hd4, hb4, hs4⟩
  have HB4 : Hid (Below w.heap.size w w4) := HB3.out.trans hb4
  by_cases hr : (Dk.fresh 4).reach i = 0
  · obtain ⟨_, k, rfl, hk⟩ := Dk.reach_ok hr
    have hk4 : k < 4 := hk
    have e4 : (Dk.fresh 4).write (k : Int) (sct a b) = (0, (Dk.fresh 4).put k (sct a b)) := by
      unfold Dk.write
      rw [if_neg (by simp [hr]), if_neg (by simp [HS.out.1]), Int.toNat_natCast, Dk.wrote_free rfl]
    rw [e4] at hd4 ⊢
    have HD4 : Hid (Sep w4 w.heap.size B ((Dk.fresh 4).put k (sct a b)) [g3]) := hd4
    have HG4 : Hid (∃ cur, Bk w4 g3 5 cur ∧ 512 ≤ cur.size) := by
      obtain ⟨cur, h1, h2⟩ := HR3.out
      refine ⟨cur, (hs4 g3 (by simp)).trans h1, ?_⟩
      have := h2 511 (by rw [sct_len]; omega)
      have := (Array.getElem?_eq_some_iff.1 this).1
      omega
    clear hd4 hb4 hs4 e4 hr HD3 HB3 HR3 hk
    go_wp2_with fail
    go_loopw [58] (fun i wr => ∃ (j : Nat) (cur : Array Value), j ≤ 512 ∧ i = .int .i64 j ∧ Bk wr g3 5 cur ∧ 512 ≤ cur.size ∧ Tn [g3] w4 wr) (fun i _ => 512 - (intOf i).toNat)
    case atStart =>
      obtain ⟨cur, h1, h2⟩ := HG4.out
      exact ⟨0, cur, by omega, rfl, h1, h2, Tn.refl _ _⟩
    case round =>
      obtain ⟨j, cur, hj, rfl, hbk, hsz, htn⟩ := hrel
      by_cases hjq : j < 512
      · have hji : (j : Int) < 512 := by omega
        have cj : wr.cell? ⟨g3, j, none⟩ = some (cur[j]'(by omega)) := by rw [hbk.cell]; exact Array.getElem?_eq_getElem (by omega)
        have fj := hbk.frozen j
        have HBK : Hid (Bk wr g3 5 cur) := hbk
        have HTN : Hid (Tn [g3] w4 wr) := htn
        clear hbk htn
        go_wp2
        go_roundw
        case rel => exact ⟨j + 1, _, by omega, by go_num, HBK.out.set j _, by simp; omega, HTN.out.setCell (by simp) _⟩
        case measure => simp [intOf]; omega
      · obtain rfl : j = 512 := by omega
        have HD5 : Hid (Sep wr w.heap.size B ((Dk.fresh 4).put k (sct a b)) [g3]) := HD4.out.other htn (by simp)
        have HB5 : Hid (Below w.heap.size w wr) := HB4.out.trans (htn.below HB4.out.size (by simp; exact hg3w))
        have HI5 : Hid (InK wr p len cap ks) := HI.out.below HB5.out HLT.out
        clear hbk htn HD4 HB4 HG4 HI
        go_wp2_with (refine wp_app_bools rfl _ _ rfl rfl p len cap ks rfl HI5.out.bls HI5.out.lenq HI5.out.nil (by omega) ?_; intro p6 c6 w6 hbl6 hge6 hnil6 hcap6 hpos6 hb6; refine Hid.out ?_)
        unfold Hid
        have HD6 : Hid (Sep w6 w.heap.size B ((Dk.fresh 4).put k (sct a b)) []) := (HD5.out.below hb6).fewer (by simp)
        have HD6g : Hid (∀ g, p6 = some ⟨g, 0, none⟩ → Sep w6 w.heap.size B ((Dk.fresh 4).put k (sct a b)) [g]) := fun g hg => (HD5.out.fewer (av' := []) (by simp)).add hb6 (hge6 _ hg).1 (hge6 _ hg).2
        have HB6 : Hid (Below w.heap.size w w6) := HB5.out.trans (hb6.mono HB5.out.size)
        have HBL6 : Hid (Bls w6 p6 ks) := hbl6
        have HNIL6 : Hid (p6 = none → len = 0 ∧ c6 = 0) := hnil6
        have HPOS6 : Hid (0 < len → ∃ g cur, p6 = some ⟨g, 0, none⟩ ∧ w.heap.size ≤ g ∧ Bk w6 g 4 cur) := fun h => by
          obtain ⟨g, cur, h1, h2⟩ := hpos6 h
          exact ⟨g, cur, h1, Nat.le_trans HB5.out.size (hge6 _ h1).1, h2⟩
        have HLQ : Hid (ks.length = len) := HI5.out.lenq
        have HI6 : Hid (InK w6 p len cap ks) := HI5.out.below (hb6.mono HB5.out.size) HLT.out
        clear hbl6 hge6 hnil6 hpos6 hb6 HD5 HB5 HI5
        have hfs : (((Dk.fresh 4).put k (sct a b)).setFuse 1 ks).1 = 0 := rfl
        obtain ⟨g6, HG6⟩ : ∃ g6, Hid (Sep w6 w.heap.size B ((Dk.fresh 4).put k (sct a b)) (if 0 < len then [g6] else []) ∧ (0 < len → p6 = some ⟨g6, 0, none⟩ ∧ w.heap.size ≤ g6 ∧ ∃ cur, Bk w6 g6 4 cur)) := by
          by_cases hl : 0 < len
          · obtain ⟨g, cur, h1, h2, h3⟩ := HPOS6.out hl
            refine ⟨g, ?_, fun _ => ⟨h1, h2, cur, h3⟩⟩
            rw [if_pos hl]
            exact HD6g.out g h1
          · refine ⟨0, ?_, fun h => absurd h hl⟩
            rw [if_neg hl]
            exact HD6.out
        clear HPOS6 HD6g HD6
        go_wp2_with fail
        refine (setFuseS HG6.out.1 HB6.out.size 1 (by omega) p6 c6 ks len HLQ.out HBL6.out HNIL6.out (by omega)).mono ?_
        rintro e w7 ⟨rfl, hd7, hb7, hs7⟩
        rw [hfs]
        have HD7 : Hid (Sep w7 w.heap.size B (((Dk.fresh 4).put k (sct a b)).setFuse 1 ks).2 (if 0 < len then [g6] else [])) := hd7
        have HB7 : Hid (Below w.heap.size w w7) := HB6.out.trans hb7
        have HG7 : Hid (0 < len → p6 = some ⟨g6, 0, none⟩ ∧ w.heap.size ≤ g6 ∧ ∃ cur, Bk w7 g6 4 cur ∧ len ≤ cur.size ∧ ∀ j, j < len → ∃ q, cur[j]? = some (.bool q)) := by
          intro hl
          obtain ⟨h1, h2, cur, h3⟩ := HG6.out.2 hl
          subst h1
          obtain ⟨g', o', he, hc⟩ := HBL6.out (by rw [HLQ.out]; exact hl)
          simp only [Option.some.injEq, Addr.mk.injEq] at he
          obtain ⟨rfl, rfl, _⟩ := he
          refine ⟨rfl, h2, cur, (hs7 g6 (by rw [if_pos hl]; simp)).trans h3, ?_, fun j hj => ?_⟩
          · have := hc (len - 1) (by rw [HLQ.out]; omega)
            rw [h3.cell] at this
            have := (Array.getElem?_eq_some_iff.1 this).1
            omega
          · have := hc j (by rw [HLQ.out]; exact hj)
            rw [h3.cell, Nat.zero_add] at this
            exact ⟨_, this⟩
        have HI7 : Hid (InK w7 p len cap ks) := HI6.out.below hb7 HLT.out
        generalize hd2 : (((Dk.fresh 4).put k (sct a b)).setFuse 1 ks).2 = d2 at *
        have HD2 : Hid ((((Dk.fresh 4).put k (sct a b)).setFuse 1 ks).2 = d2) := hd2
        clear hd7 hb7 hs7 hfs HG6 HB6 HBL6 HNIL6 HI6 hd2
        go_wp2_with fail
        go_loopw [72] (fun i wq => ∃ (j : Nat), j ≤ len ∧ i = .int .i64 j ∧ Tn (if 0 < len then [g6] else []) w7 wq ∧ (0 < len → ∃ cur, Bk wq g6 4 cur ∧ len ≤ cur.size ∧ ∀ j, j < len → ∃ q, cur[j]? = some (.bool q))) (fun i _ => len - (intOf i).toNat)
        case atStart => exact ⟨0, Nat.zero_le _, rfl, Tn.refl _ _, fun hl => (HG7.out hl).2.2⟩
        case round =>
          obtain ⟨j, hj, rfl, htn, hcur⟩ := hrel
          by_cases hjq : j < len
          · have hji : (j : Int) < (len : Int) := by omega
            obtain ⟨cur, hbk, hsz, hcs⟩ := hcur (by omega)
            obtain ⟨q, hq⟩ := hcs j hjq
            obtain ⟨rfl, _⟩ := HG7.out (by omega)
            have cj : wr.cell? ⟨g6, j, none⟩ = some (.bool q) := by rw [hbk.cell]; exact hq
            have fj := hbk.frozen j
            have HBK : Hid (Bk wr g6 4 cur) := hbk
            have HTN : Hid (Tn (if 0 < len then [g6] else []) w7 wr) := htn
            have HCS : Hid (∀ j, j < len → ∃ q, cur[j]? = some (.bool q)) := hcs
            clear hbk htn hcs hq hcur
            go_wp2
            go_roundw
            case rel =>
              refine ⟨j + 1, by omega, by go_num, HTN.out.setCell (.inl (by rw [if_pos (by omega)]; simp)) _, fun _ => ⟨_, HBK.out.set j _, by simpa using hsz, fun x hx => ?_⟩⟩
              rw [Array.getElem?_setIfInBounds]
              by_cases hxj : j = x
              · subst hxj
                rw [if_pos rfl, if_pos (by omega)]
                exact ⟨_, rfl⟩
              · rw [if_neg hxj]
                exact HCS.out x hx
            case measure => simp [intOf]; omega
          · obtain rfl : j = len := by omega
            have HD8 : Hid (Sep wr w.heap.size B d2 []) := (HD7.out.other htn (fun g hg => hg)).fewer (by simp)
            have HB8 : Hid (Below w.heap.size w wr) := HB7.out.trans (htn.below HB7.out.size (fun x hx => by
              by_cases hl : 0 < j
              · rw [if_pos hl] at hx
                simp at hx
                rw [hx]
                exact (HG7.out hl).2.1
              · rw [if_neg hl] at hx
                cases hx))
            have HI8 : Hid (InK wr p j cap ks) := HI7.out.below (htn.below HB7.out.size (fun x hx => by
              by_cases hl : 0 < j
              · rw [if_pos hl] at hx
                simp at hx
                rw [hx]
                exact (HG7.out hl).2.1
              · rw [if_neg hl] at hx
                cases hx)) HLT.out
            clear htn hcur HD7 HB7 HG7 HI7 hjq hj
            have HN2 : Hid (d2.n = 4) := by rw [← HD2.out]; rfl
            have HDN2 : Hid (d2.down = false) := by rw [← HD2.out]; rfl
            have HLA2 : Hid (d2.last k = sct a b) := by
              rw [← HD2.out]
              show ((upd (fun _ => none) k (sct a b) k).getD zeros) = _
              simp [upd]
            have HBAR : Hid (d2.bar.1 = 6 ∧ d2.bar.2.last k = (if ks.getD 0 false = true then sct a b else zeros) ∧ d2.bar.2.n = 4) := by
              rw [← HD2.out]
              exact own_last k hk4 (sct a b) ks
            clear HD2
            go_wp2_with fail
            refine (readS HD8.out k (by rw [HN2.out]; exact hk4) HDN2.out).mono ?_
            rintro e w9 ⟨gx, rfl, hgx, hrx, hd9, hb9⟩
            have HD9 : Hid (Sep w9 w.heap.size B d2 [gx]) := hd9
            have HB9 : Hid (Below w.heap.size w w9) := HB8.out.trans (hb9.mono HB8.out.size)
            have HI9 : Hid (InK w9 p j cap ks) := HI8.out.below (hb9.mono HB8.out.size) HLT.out
            have HGX : Hid (∃ cur, Bk w9 gx 5 cur ∧ 512 ≤ cur.size) := ⟨_, hrx, by rw [HLA2.out, secCells_512 (sct_len a b)]; exact Nat.le_refl _⟩
            have hgxw : w.heap.size ≤ gx := Nat.le_trans HB8.out.size hgx
            clear hgx hrx hd9 hb9 HD8 HB8 HI8
            go_wp2_with fail
            go_loopw [92] (fun i wr => ∃ (j : Nat) (cur : Array Value), j ≤ 512 ∧ i = .int .i64 j ∧ Bk wr gx 5 cur ∧ 512 ≤ cur.size ∧ Tn [gx] w9 wr) (fun i _ => 512 - (intOf i).toNat)
            case atStart =>
              obtain ⟨cur, h1, h2⟩ := HGX.out
              exact ⟨0, cur, by omega, rfl, h1, h2, Tn.refl _ _⟩
            case round =>
              obtain ⟨x, cur, hx, rfl, hbk, hsz, htn⟩ := hrel
              by_cases hxq : x < 512
              · have hxi : (x : Int) < 512 := by omega
                have cx : wr.cell? ⟨gx, x, none⟩ = some (cur[x]'(by omega)) := by rw [hbk.cell]; exact Array.getElem?_eq_getElem (by omega)
                have fx := hbk.frozen x
                have HBK : Hid (Bk wr gx 5 cur) := hbk
                have HTN : Hid (Tn [gx] w9 wr) := htn
                clear hbk htn
                go_wp2
                go_roundw
                case rel => exact ⟨x + 1, _, by omega, by go_num, HBK.out.set x _, by simp; omega, HTN.out.setCell (by simp) _⟩
                case measure => simp [intOf]; omega
              · obtain rfl : x = 512 := by omega
                have HDa : Hid (Sep wr w.heap.size B d2 []) := (HD9.out.other htn (by simp)).fewer (by simp)
                have hbx : Below w.heap.size w9 wr := htn.below HB9.out.size (by simp; exact hgxw)
                have HBa : Hid (Below w.heap.size w wr) := HB9.out.trans hbx
                have HIa : Hid (InK wr p j cap ks) := HI9.out.below hbx HLT.out
                clear hbk htn hbx HD9 HB9 HGX HI9
                go_wp2_with fail
                refine (readS HDa.out k (by rw [HN2.out]; exact hk4) HDN2.out).mono ?_
                rintro e wb ⟨gy, rfl, hgy, hry, hdb, hbb⟩
                rw [HLA2.out] at hry
                have HDb : Hid (Sep wb w.heap.size B d2 [gy]) := hdb
                have HBb : Hid (Below w.heap.size w wb) := HBa.out.trans (hbb.mono HBa.out.size)
                have HIb : Hid (InK wb p j cap ks) := HIa.out.below (hbb.mono HBa.out.size) HLT.out
                have HRY : Hid (Row wb gy (sct a b)) := Row.of_sec hry
                clear hgy hry hdb hbb HDa HBa HIa
                go_wp2_with fail
                refine (sector_any a b wb).mono ?_
                rintro e wc ⟨gc, rfl, hgc, hrc, hbc⟩
                have HDc : Hid (Sep wc w.heap.size B d2 []) := (HDb.out.below hbc).fewer (by simp)
                have HBc : Hid (Below w.heap.size w wc) := HBb.out.trans (hbc.mono HBb.out.size)
                have HIc : Hid (InK wc p j cap ks) := HIb.out.below (hbc.mono HBb.out.size) HLT.out
                have HRYc : Hid (Row wc gy (sct a b)) := HRY.out.below hbc HRY.out.lt
                have HRC : Hid (Row wc gc (sct a b)) := hrc
                clear hgc hrc hbc HDb HBb HIb HRY
                go_wp2_with fail
                refine (eqRow HRYc.out HRC.out HS.out HS.out _ _).mono ?_
                rintro e wd ⟨rfl, rfl⟩
                simp only [decide_true]
                go_wp2_with fail
                refine (barS HDc.out HBc.out.size).mono ?_
                rintro e we ⟨rfl, hde, hbe, _⟩
                rw [HBAR.out.1]
                have HDe : Hid (Sep we w.heap.size B d2.bar.2 []) := hde
                have HBe : Hid (Below w.heap.size w we) := HBc.out.trans hbe
                have HIe : Hid (InK we p j cap ks) := HIc.out.below hbe HLT.out
                clear hde hbe HDc HBc HIc HRYc HRC
                go_wp2_with fail
                refine (restartS HDe.out HBe.out.size).mono ?_
                rintro e wf ⟨rfl, hdf, hbf, _⟩
                have hl3 : ({ d2.bar.2 with down := false } : Dk).last k = (if ks.getD 0 false = true then sct a b else zeros) := HBAR.out.2.1
                have hn3 : ({ d2.bar.2 with down := false } : Dk).n = 4 := HBAR.out.2.2
                have hd3 : ({ d2.bar.2 with down := false } : Dk).down = false := rfl
                generalize ({ d2.bar.2 with down := false } : Dk) = d3 at *
                have HL3 : Hid (d3.last k = (if ks.getD 0 false = true then sct a b else zeros)) := hl3
                have HN3 : Hid (d3.n = 4) := hn3
                have HDN3 : Hid (d3.down = false) := hd3
                have HDf : Hid (Sep wf w.heap.size B d3 []) := hdf
                have HBf : Hid (Below w.heap.size w wf) := HBe.out.trans hbf
                have HIf : Hid (InK wf p j cap ks) := HIe.out.below hbf HLT.out
                clear hdf hbf HDe HBe HIe hl3 hn3 hd3 HBAR
                go_wp2_with fail
                refine (readS HDf.out k (by rw [HN3.out]; exact hk4) HDN3.out).mono ?_
                rintro e wg ⟨gz, rfl, hgz, hrz, hdg, hbg⟩
                have HBg : Hid (Below w.heap.size w wg) := HBf.out.trans (hbg.mono HBf.out.size)
                have HIg : Hid (InK wg p j cap ks) := HIf.out.below (hbg.mono HBf.out.size) HLT.out
                have HRZ : Hid (Row wg gz (d3.last k)) := Row.of_sec hrz
                clear hgz hrz hdg hbg HDf HBf HIf
                by_cases hl : 0 < j
                · obtain ⟨kb0, ko, rfl, hcs⟩ := HIg.out.bls (by rw [HIg.out.lenq]; exact hl)
                  have ck := hcs 0 (by rw [HIg.out.lenq]; exact hl)
                  rw [Nat.add_zero] at ck
                  have hli : (0 : Int) < (j : Int) := by omega
                  clear hcs
                  cases hq : ks.getD 0 false with
                  | true =>
                    rw [hq] at ck
                    have HR : Hid (Row wg gz (sct a b)) := by
                      have := HRZ.out
                      rw [HL3.out, hq] at this
                      exact this
                    clear hq
                    go_wp2_with fail
                    refine (sector_any a b wg).mono ?_
                    rintro e wh ⟨gh, rfl, hgh, hrh, hbh⟩
                    have HRh : Hid (Row wh gz (sct a b)) := HR.out.below hbh HR.out.lt
                    have HRh2 : Hid (Row wh gh (sct a b)) := hrh
                    have HBh : Hid (Below w.heap.size w wh) := HBg.out.trans (hbh.mono HBg.out.size)
                    clear hgh hrh hbh ck
                    go_wp2_with fail
                    refine (eqRow HRh.out HRh2.out HS.out HS.out _ _).mono ?_
                    rintro e wi ⟨rfl, rfl⟩
                    simp only [decide_true]
                    go_wp2
                    go_ret
                    exact ⟨rfl, HBh.out⟩
                  | false =>
                    rw [hq] at ck
                    have HR : Hid (Row wg gz zeros) := by
                      have := HRZ.out
                      rw [HL3.out, hq] at this
                      exact this
                    clear hq
                    go_wp2_with (refine wp_make_secW rfl _ _ rfl rfl rfl ?_; intro wh zd hld hzd hzbk hbh hsd; refine Hid.out ?_)
                    unfold Hid
                    have HRh : Hid (Row wh gz zeros) := HR.out.below hbh HR.out.lt
                    have HRh2 : Hid (Row wh wg.heap.size zd) := Row.of_sec hzbk
                    have HBh : Hid (Below w.heap.size w wh) := HBg.out.trans (hbh.mono HBg.out.size)
                    have HZ : Hid (zd = zeros) := hzd
                    clear hzd hzbk hbh hsd ck
                    go_wp2_with fail
                    refine (eqRow HRh.out HRh2.out sec_zeros (by rw [HZ.out]; exact sec_zeros) _ _).mono ?_
                    rintro e wi ⟨rfl, rfl⟩
                    rw [show decide (zeros = zd) = true from decide_eq_true HZ.out.symm]
                    go_wp2
                    go_ret
                    exact ⟨rfl, HBh.out⟩
                · obtain rfl : j = 0 := by omega
                  have HR : Hid (Row wg gz zeros) := by
                    have := HRZ.out
                    obtain rfl : ks = [] := List.eq_nil_of_length_eq_zero HIg.out.lenq
                    rw [HL3.out] at this
                    exact this
                  go_wp2_with (refine wp_make_secW rfl _ _ rfl rfl rfl ?_; intro wh zd hld hzd hzbk hbh hsd; refine Hid.out ?_)
                  unfold Hid
                  have HRh : Hid (Row wh gz zeros) := HR.out.below hbh HR.out.lt
                  have HRh2 : Hid (Row wh wg.heap.size zd) := Row.of_sec hzbk
                  have HBh : Hid (Below w.heap.size w wh) := HBg.out.trans (hbh.mono HBg.out.size)
                  have HZ : Hid (zd = zeros) := hzd
                  clear hzd hzbk hbh hsd
                  go_wp2_with fail
                  refine (eqRow HRh.out HRh2.out sec_zeros (by rw [HZ.out]; exact sec_zeros) _ _).mono ?_
                  rintro e wi ⟨rfl, rfl⟩
                  rw [show decide (zeros = zd) = true from decide_eq_true HZ.out.symm]
                  go_wp2
                  go_ret
                  exact ⟨rfl, HBh.out⟩
  · have hb : ((Dk.fresh 4).reach i != 0) = true := by simpa using hr
    have e4 : ((Dk.fresh 4).write i (sct a b)).1 = 20 ∧ (i < 0 ∨ 3 < i) := by
      have hw : ((Dk.fresh 4).write i (sct a b)).1 = (Dk.fresh 4).reach i := by
        unfold Dk.write
        rw [if_pos hr]
      rw [hw]
      by_cases hi : i < 0 ∨ 4 ≤ i
      · exact ⟨by simp [Dk.reach, Dk.fresh, hi], by omega⟩
      · exact absurd (by simp [Dk.reach, Dk.fresh, hi]) hr
    rw [e4.1]
    clear hb hd4 hb4 hs4
    rcases e4.2 with h0 | h0
    · go_wp2
      go_ret
      exact ⟨rfl, HB4.out⟩
    · have h1 : ¬ i < 0 := by omega
      go_wp2
      go_ret
      exact ⟨rfl, HB4.out⟩

set_option maxRecDepth 100000 in
theorem lifted_diskOwn (os : Os) (started : os.Started) (H : Type) (enc : TypeId × Value → H) :
    ReturnsInHanded {} Try.checked os 8 .any (Rows.diskOwnSpec.pre6 enc Try.prog Try.f8 Rows.diskOwnRow.domain false) (Rows.diskOwnSpec.post enc Try.prog Try.f8 false true false false) := by
  refine returnsInHanded_of_change_sized (C := Try.checked) own started (by kernel_rfl) Try.func8
    (ChangeSpec.witness6 (enc := enc) (C := Try.checked) false ⟨#[], #[.int .i64 0, .int .u8 0, .int .u8 0, .slice none 0 0], []⟩ 8 (by kernel_rfl) (by kernel_rfl) (by kernel_rfl) (by kernel_rfl)) ?_
  intro W base args ds gs before hval0 hW _ hsz0 _
  have hsz : (DataW.weightsEach Try.prog (Try.f8.params.toList ++ Rows.diskOwnSpec.plain.varTypes Try.prog) (ds ++ gs)).all (· ≤ reachBytes) = true := hsz0
  clear hsz0
  have hval : ∀ (j : Nat) t v, Try.f8.params[j]? = some t → args[j]? = some v → Value.okWide Try.prog W .any base t v := hval0
  have hW' := hW
  obtain ⟨p, q, hA0, hV, rfl, hfz, hnd⟩ := hW
  have hA : DataW.TrodAll enc Try.prog W 0 (fun _ => true) true Try.f8.params.toList args.toList ds p := hA0
  rw [Try.params8] at hA hval hsz
  obtain ⟨v0, vs0, d0, ds0, p0, q0, hargs, rfl, rfl, h0, r0⟩ := trodAll_cons hA
  obtain ⟨v1, vs1, d1, ds1, p1, q1, rfl, rfl, rfl, h1, r1⟩ := trodAll_cons r0
  obtain ⟨v2, vs2, d2, ds2, p2, q2, rfl, rfl, rfl, h2, r2⟩ := trodAll_cons r1
  obtain ⟨v3, vs3, d3, ds3, p3, q3, rfl, rfl, rfl, h3, r3⟩ := trodAll_cons r2
  obtain ⟨rfl, rfl, rfl⟩ := trodAll_nil r3
  obtain rfl : args = #[v0, v1, v2, v3] := by cases args; simp_all
  obtain ⟨rfl, rfl⟩ := trodVars_none hV
  obtain ⟨a0, rfl, rfl, rfl, w0⟩ := open_int Try.underlying3 (hval 0 3 v0 rfl rfl) h0
  obtain ⟨a1, rfl, rfl, rfl, w1⟩ := open_int Try.underlying5 (hval 1 5 v1 rfl rfl) h1
  obtain ⟨a2, rfl, rfl, rfl, w2⟩ := open_int Try.underlying5 (hval 2 5 v2 rfl rfl) h2
  obtain ⟨a3, len3, cap3, rfl⟩ := okWide_slice Try.underlying31 (hval 3 31 v3 rfl rfl)
  have k3 := h3
  have lt3 : ∀ x ∈ p3, x.block < W.heap.size := by obtain ⟨m, hm⟩ := k3; exact DataW.trod_lt m _ _ _ hm
  obtain ⟨z3, w3⟩ : ∃ ks, InK W a3 len3 cap3 ks := by
    refine in_bools h3 ?_
    intro elems spare hd
    have := sized_slice hsz (j := 3) (t := 31) (e := 4) rfl (by rw [hd]; rfl) Try.underlying31
    rw [bytes_bool] at this
    simp only [reachBytes] at this
    omega
  clear hA0 hval0
  refine (walk_diskOwn a0 a1 a2 a3 len3 cap3 z3 W w0 w1 w2 w3).mono fun e W' ⟨he, bel⟩ => ?_
  subst he
  exact ⟨_, rfl, _, _, _, [], _, [], hW', trodAll_mk1 (shut_bool Try.underlying4 _), (trodAll_cons_mk (shut_int Try.underlying3 w0) (trodAll_cons_mk (shut_int Try.underlying5 w1) (trodAll_cons_mk (shut_int Try.underlying5 w2) (trodAll_cons_mk (Below.trod laidOut (by kernel_rfl) (of_decide_eq_true (by kernel_rfl)) k3 bel lt3) trodAll_mk0)))), rfl, bel.frame _, fun h => by cases h⟩

/-- The statement. -/
theorem diskOwn_holds : Rows.DiskOwnSaid :=
  OpenClaim.holds_of_wide 8 Try.f8 rfl rfl rfl rfl rfl rfl rfl ⟨rfl, rfl, rfl, rfl, rfl⟩ rfl rfl rfl rfl rfl (by kernel_rfl) Try.func8 (by kernel_rfl)
    (of_decide_eq_true (by kernel_rfl)) (by unfold Func.isWrapper; first | (rw [if_pos (by decide +kernel)]; kernel_rfl) | (rw [if_neg (by decide +kernel)]; exact ⟨rfl, rfl⟩))
    (fun os started H enc _ => lifted_diskOwn os started H enc)
#print axioms diskOwn_holds
end Go.Proofs.Ytahcfpfjijkchaa
