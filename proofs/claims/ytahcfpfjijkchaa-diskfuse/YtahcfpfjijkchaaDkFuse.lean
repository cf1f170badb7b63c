/- A fuse at the n-th call. -/
import Derived.Test.YtahcfpfjijkchaaDkFuseM
import Derived.Deep.RegionHeld3
namespace Go.Proofs.Ytahcfpfjijkchaa
open Go.ChangeShapes Go.WideShapes Go.ChangeAt Go.RowKit Go.Shelf
set_option linter.unusedVariables false

/-- What stands ahead of a round. -/
structure FzAt (w wr : World) (n Bd Bc : Nat) (c : Dk) (l : Int) (ks : List Bool) : Prop where
  two : Two wr w.heap.size Bd Bc (fz c l ks) c
  plain : Plain c n
  below : Below w.heap.size w wr

set_option maxRecDepth 100000 in
set_option maxHeartbeats 4000000 in
theorem walk_diskFuse (i : Int) (q : Option Addr) (m qc : Nat) (os : List GOp) (x : Int) (p : Option Addr) (len cap : Nat) (ks : List Bool) (w : World) (hi : (Lit.int .i64 i).wf = true) (hos : InOps w q m qc os) (hx : (Lit.int .u8 x).wf = true) (hin : InK w p len cap ks) :
    Calls Try.prog 7 #[.int .i64 i, .slice q m qc, .int .u8 x, .slice p len cap] w fun e w' => e = .returned (.bool true) ∧ Below w.heap.size w w' := by
  have HI : Hid (InK w p len cap ks) := hin
  have HO : Hid (InOps w q m qc os) := hos
  have HLT : Hid (∀ ad, p = some ad → 0 < ks.length → ad.block < w.heap.size) := hin.lt
  have hle := hin.le
  have hroom := hin.room
  have hle2 := hos.le
  have hroom2 := hos.room
  have hx1 := bounds_u8 hx
  clear hin hos hi hx
  by_cases h1 : i < 1
  · go_enter Try.func7, Try.ntmps7
    go_wp2_with fail
    refine (begun_any w).mono ?_
    rintro e w2 ⟨rfl, hb2⟩
    go_wp2
    go_ret
    exact ⟨rfl, hb2⟩
  · by_cases h2 : 64 < i
    · go_enter Try.func7, Try.ntmps7
      go_wp2_with fail
      refine (begun_any w).mono ?_
      rintro e w2 ⟨rfl, hb2⟩
      go_wp2
      go_ret
      exact ⟨rfl, hb2⟩
    · obtain ⟨n, rfl⟩ : ∃ n : Nat, i = (n : Int) := ⟨i.toNat, by omega⟩
      go_enter Try.func7, Try.ntmps7
      go_wp2_with fail
      refine (new_any n w (by omega) (by omega)).mono ?_
      rintro e w1 ⟨Bd, bs1, rfl, hd1, hg1, hb1⟩
      have HD1 : Hid (Dsk w1 Bd bs1 (Dk.fresh n)) := hd1
      have HG1 : Hid (∀ b ∈ bs1, w.heap.size ≤ b) := hg1
      have HB1 : Hid (Below w.heap.size w w1) := hb1
      clear hd1 hg1 hb1
      go_wp2_with fail
      refine (new_any n w1 (by omega) (by omega)).mono ?_
      rintro e w2 ⟨Bc, bs2, rfl, hd2, hg2, hb2⟩
      have HT2 : Hid (Two w2 w.heap.size Bd Bc (Dk.fresh n) (Dk.fresh n)) := two_new HD1.out HG1.out HB1.out hd2 hg2 hb2
      have HB2 : Hid (Below w.heap.size w w2) := HB1.out.trans (hb2.mono HB1.out.size)
      clear hd2 hg2 hb2 HD1 HG1 HB1
      go_wp2_with fail
      refine (begun_any w2).mono ?_
      rintro e w3 ⟨rfl, hb3⟩
      have HT3 : Hid (Two w3 w.heap.size Bd Bc (Dk.fresh n) (Dk.fresh n)) := HT2.out.below hb3
      have HB3 : Hid (Below w.heap.size w w3) := HB2.out.trans (hb3.mono HB2.out.size)
      have HI3 : Hid (InK w3 p len cap ks) := HI.out.below HB3.out HLT.out
      clear hb3 HT2 HB2
      go_wp2_with fail
      obtain ⟨k, hk⟩ : ∃ k : Nat, x % 8 + 1 = (k : Int) := ⟨(x % 8 + 1).toNat, by omega⟩
      have hk1 : 1 ≤ k ∧ k ≤ 8 := by omega
      rw [hk]
      clear hk
      refine (setFuse2 HT3.out HB3.out.size k (by omega) p cap ks len HI3.out.lenq HI3.out.bls HI3.out.nil (by omega)).mono ?_
      rintro e w4 ⟨rfl, ht4, hb4⟩
      have e4 : (Dk.fresh n).setFuse k ks = (0, fz (Dk.fresh n) k ks) := by
        rw [Dk.setFuse, if_neg (by omega), if_neg (by omega)]
        rfl
      rw [e4] at ht4 ⊢
      have HF4 : Hid (FzAt w w4 n Bd Bc (Dk.fresh n) k ks) := ⟨ht4, Plain.fresh n, HB3.out.trans hb4⟩
      clear ht4 hb4 e4 HT3 HB3 HI3
      go_wp2_with fail
      go_loopw [14, 58] (fun dn iv wr => ∃ (j d : Nat) (c : Dk), j ≤ m ∧ iv = .int .i64 j ∧ dn = .int .i64 d ∧ d < k ∧ Hid (FzAt w wr n Bd Bc c (k - d) ks)) (fun _ iv _ => m - (intOf iv).toNat)
      case atStart => exact ⟨0, 0, Dk.fresh n, Nat.zero_le _, rfl, rfl, by omega, HF4⟩
      case round =>
        obtain ⟨j, d, c, hj, rfl, rfl, hd, HF⟩ := hrel
        clear HF4
        by_cases hq : j < m
        · have hqi : (j : Int) < (m : Int) := by omega
          have HO1 : Hid (InOps wr q m qc os) := HO.out.up HF.out.below
          obtain ⟨b, o, g, rfl, hg, hop, hblt, c0, c1, c2, c3, c4, c5, c6⟩ := HO1.out.at hq
          have HG : Hid (OpIn wr g) := hop
          have hpl := hop.pl
          have ha := hop.a
          have hb := hop.b
          clear hg hop HO1
          have hb5 : Below wr.heap.size wr (wr.alloc (.cells g.cells.toArray 34)) := (Below.refl _ _).alloc (Nat.le_refl _) _
          have hbk5 : Bk (wr.alloc (.cells g.cells.toArray 34)) wr.heap.size 34 g.cells.toArray := Bk.new _ _ _
          have hs5 : wr.heap.size < (wr.alloc (.cells g.cells.toArray 34)).heap.size := by simp
          have HT5 : Hid (TwoG (wr.alloc (.cells g.cells.toArray 34)) w.heap.size Bd Bc (fz c (k - d) ks) c wr.heap.size) := HF.out.two.with hb5 (Nat.le_refl _) hs5
          have HP : Hid (Plain c n) := HF.out.plain
          have HB5 : Hid (Below w.heap.size w (wr.alloc (.cells g.cells.toArray 34))) := HF.out.below.trans (hb5.mono HF.out.below.size)
          have HI5 : Hid (InK (wr.alloc (.cells g.cells.toArray 34)) p len cap ks) := HI.out.below HB5.out HLT.out
          have HK5 : Hid (Bk (wr.alloc (.cells g.cells.toArray 34)) wr.heap.size 34 g.cells.toArray) := hbk5
          have HS : Hid (Sec (sct g.a g.b)) := sec_sct ha hb
          clear hb5 hbk5 hs5 HF HG ha hb hpl
          by_cases h7 : g.dd = 1
          · have h7b : (g.dd == 1) = true := by simpa using h7
            clear h7
            go_wp2_with fail
            by_cases hkd : d + 1 = k
            · have hl1 : ((k : Int) - (d : Int)) = 1 := by omega
              rw [hl1] at HT5
              refine (bar2 HT5.out.two HB5.out.size).mono ?_
              rintro e w6 ⟨rfl, ht6, hb6⟩
              obtain ⟨f1, f2, f3, f4⟩ := fz_bar1 HP.out ks
              rw [f1]
              generalize (fz c 1 ks).bar.2 = d6 at *
              have HT6 : Hid (Two w6 w.heap.size Bd Bc d6 c) := ht6
              have HB6 : Hid (Below w.heap.size w w6) := HB5.out.trans hb6
              have HI6 : Hid (InK w6 p len cap ks) := HI.out.below HB6.out HLT.out
              have H2 : Hid (d6.down = true) := f2
              have H3 : Hid ((c.crash ks).1 = 0) := f3
              have H4 : Hid (sameD (c.crash ks).2 d6 = true) := f4
              have hkk : (d : Int) + 1 = (k : Int) := by omega
              clear f1 f2 f3 f4 ht6 hb6 HT5 HB5 HI5 HK5 hl1 c0 c1 c2 c3 c4 c5 c6
              go_wp2_with fail
              refine (crash2 HT6.out.swap HB6.out.size p cap ks len HI6.out.lenq HI6.out.bls HLT.out).mono ?_
              rintro e w7 ⟨rfl, ht7, hb7⟩
              rw [H3.out]
              have HT7 : Hid (Two w7 w.heap.size Bc Bd (c.crash ks).2 d6) := ht7
              have HB7 : Hid (Below w.heap.size w w7) := HB6.out.trans hb7
              clear ht7 hb7 HT6 HB6 HI6
              go_wp2_with fail
              refine (down2 HT7.out.swap).mono ?_
              rintro e w8 ⟨rfl, rfl⟩
              rw [H2.out]
              go_wp2_with fail
              refine (same2 HT7.out).mono ?_
              rintro e w9 ⟨rfl, hb9⟩
              rw [H4.out]
              have HB9 : Hid (Below w.heap.size w w9) := HB7.out.trans (hb9.mono HB7.out.size)
              clear hb9 HT7 HB7
              go_wp2
              go_ret
              exact ⟨rfl, HB9.out⟩
            · have hl1 : 1 < ((k : Int) - (d : Int)) := by omega
              refine (bar2 HT5.out.two HB5.out.size).mono ?_
              rintro e w6 ⟨rfl, ht6, hb6⟩
              rw [fz_bar HP.out hl1 ks] at ht6 ⊢
              have HT6 : Hid (Two w6 w.heap.size Bd Bc (fz c.flush (k - d - 1) ks) c) := ht6
              have HB6 : Hid (Below w.heap.size w w6) := HB5.out.trans hb6
              have hkk : (((d : Int) + 1) == (k : Int)) = false := by simp; omega
              clear ht6 hb6 HT5 HB5 HI5 HK5 hl1 c0 c1 c2 c3 c4 c5 c6
              go_wp2_with fail
              refine (bar2 HT6.out.swap HB6.out.size).mono ?_
              rintro e w7 ⟨rfl, ht7, hb7⟩
              rw [HP.out.bar.1] at ht7 ⊢
              have HF7 : Hid (FzAt w w7 n Bd Bc c.flush (k - ((d + 1 : Nat) : Int)) ks) := ⟨by rw [show (k : Int) - ((d + 1 : Nat) : Int) = k - d - 1 by omega]; exact ht7.swap, HP.out.bar.2, HB6.out.trans hb7⟩
              clear ht7 hb7 HT6 HB6
              go_wp2
              go_roundw
              case rel => exact ⟨j + 1, d + 1, c.flush, by omega, by go_num, by go_num, by omega, HF7⟩
              case measure => simp [intOf]; omega
          · have h7b : (g.dd == 1) = false := by simpa using h7
            clear h7
            have hbd : Below (wr.alloc (.cells g.cells.toArray 34)).heap.size (wr.alloc (.cells g.cells.toArray 34)) (wr.alloc (.cells g.cells.toArray 34)).drew := (Below.refl _ _).drew
            have HT5d : Hid (TwoG (wr.alloc (.cells g.cells.toArray 34)).drew w.heap.size Bd Bc (fz c (k - d) ks) c wr.heap.size) := HT5.out.below hbd
            have HB5d : Hid (Below w.heap.size w (wr.alloc (.cells g.cells.toArray 34)).drew) := HB5.out.drew
            have HK5d : Hid (Bk (wr.alloc (.cells g.cells.toArray 34)).drew wr.heap.size 34 g.cells.toArray) := HK5.out
            clear hbd HT5 HB5 HI5
            obtain ⟨cb1, cb2, cb3⟩ := op_box HK5.out
            go_wp2_with fail
            go_region_held3 (fun w' => w'.cell? ⟨wr.heap.size, 1, none⟩ = some (.int .i64 g.pl) ∧ w'.cell? ⟨wr.heap.size, 2, none⟩ = some (.int .u8 g.a) ∧ w'.cell? ⟨wr.heap.size, 3, none⟩ = some (.int .u8 g.b)) (go_keep) (first
              | (go_at_call 22; refine (sector_any g.a g.b _).mono ?_; rintro e w6 ⟨g6, rfl, hg6, hr6, hb6⟩; have ht6 := HT5d.out.below hb6; have hbk6 := HK5d.out.below hb6 HK5d.out.lt; have hbb6 := HB5d.out.trans (hb6.mono HB5d.out.size); have hk6 := op_box hbk6)
              | (go_at_call 23; refine (write2g ht6 hbb6.size g.pl _ 512 _ (sct g.a g.b) HS.out.1 hr6.bys HS.out.2).mono ?_; rintro e w7 ⟨rfl, ht7, hb7, he7⟩; have hbk7 : Bk w7 wr.heap.size 34 g.cells.toArray := he7.trans hbk6; have hbb7 := hbb6.trans hb7; have hk7 := op_box hbk7))
            have hbd8 : Below w7.heap.size w7 w7.drew := (Below.refl _ _).drew
            have HT8 : Hid (TwoG w7.drew w.heap.size Bd Bc ((fz c (k - d) ks).write g.pl (sct g.a g.b)).2 c wr.heap.size) := ht7.below hbd8
            have HB8 : Hid (Below w.heap.size w w7.drew) := hbb7.drew
            have HK8 : Hid (Bk w7.drew wr.heap.size 34 g.cells.toArray) := hbk7
            obtain ⟨cc1, cc2, cc3⟩ := hk7
            have HW : Hid (((fz c (k - d) ks).write g.pl (sct g.a g.b)).1 = ((fz c (k - d) ks).write g.pl (sct g.a g.b)).1 ) := rfl
            clear hg6 hr6 hb6 ht6 hbk6 hbb6 hk6 ht7 hb7 he7 hbk7 hbb7 HT5d HB5d HK5d HK5 hbd8 cb1 cb2 cb3 c0 c1 c2 c3 c4 c5 c6
            go_wp2_with fail
            go_region_held3 (fun w' => w'.cell? ⟨wr.heap.size, 1, none⟩ = some (.int .i64 g.pl) ∧ w'.cell? ⟨wr.heap.size, 2, none⟩ = some (.int .u8 g.a) ∧ w'.cell? ⟨wr.heap.size, 3, none⟩ = some (.int .u8 g.b)) (go_keep) (first
              | (go_at_call 22; refine (sector_any g.a g.b _).mono ?_; rintro e w6 ⟨g6, rfl, hg6, hr6, hb6⟩; have ht6 := HT8.out.below hb6; have hbk6 := HK8.out.below hb6 HK8.out.lt; have hbb6 := HB8.out.trans (hb6.mono HB8.out.size); have hk6 := op_box hbk6)
              | (go_at_call 23; refine (write2g ht6.swap hbb6.size g.pl _ 512 _ (sct g.a g.b) HS.out.1 hr6.bys HS.out.2).mono ?_; rintro e w9 ⟨rfl, ht9, hb9, he9⟩; have hbk9 : Bk w9 wr.heap.size 34 g.cells.toArray := he9.trans hbk6; have hbb9 := hbb6.trans hb9; have hk9 := op_box hbk9))
            have HT9 : Hid (Two w9 w.heap.size Bc Bd (c.write g.pl (sct g.a g.b)).2 ((fz c (k - d) ks).write g.pl (sct g.a g.b)).2) := ht9.two
            have HB9 : Hid (Below w.heap.size w w9) := hbb9
            clear hg6 hr6 hb6 ht6 hbk6 hbb6 hk6 ht9 hb9 he9 hbk9 hbb9 hk9 HT8 HB8 HK8 cc1 cc2 cc3
            rcases HP.out.write g.pl (sct g.a g.b) HS.out.1 with ⟨hr, hw⟩ | ⟨hr, hw, hpp⟩
            · rw [hw, fz_bad _ _ _ _ hr] at HT9 ⊢
              have HF9 : Hid (FzAt w w9 n Bd Bc c (k - d) ks) := ⟨HT9.out.swap, HP.out, HB9.out⟩
              have hrb : (c.reach g.pl == 0) = false := by simpa using hr
              have hrn : (c.reach g.pl != c.reach g.pl) = false := by simp
              clear hr hw HT9 HB9
              generalize c.reach g.pl = r at *
              go_wp2
              go_roundw
              case rel => exact ⟨j + 1, d, c, by omega, by go_num, rfl, hd, HF9⟩
              case measure => simp [intOf]; omega
            · by_cases hkd : d + 1 = k
              · have hl1 : ((k : Int) - (d : Int)) = 1 := by omega
                rw [hl1] at HT9 ⊢
                obtain ⟨f1, f2, f3, f4⟩ := fz_write1 HP.out ks g.pl (sct g.a g.b) HS.out.1 hr
                rw [hw] at HT9 ⊢
                rw [f1]
                generalize ((fz c 1 ks).write g.pl (sct g.a g.b)).2 = d6 at *
                generalize c.put g.pl.toNat (sct g.a g.b) = c6 at *
                have HI9 : Hid (InK w9 p len cap ks) := HI.out.below HB9.out HLT.out
                have H2 : Hid (d6.down = true) := f2
                have H3 : Hid ((c6.crash ks).1 = 0) := f3
                have H4 : Hid (sameD (c6.crash ks).2 d6 = true) := f4
                have hkk : (d : Int) + 1 = (k : Int) := by omega
                clear f1 f2 f3 f4 hw hpp hr hl1
                go_wp2_with fail
                refine (crash2 HT9.out HB9.out.size p cap ks len HI9.out.lenq HI9.out.bls HLT.out).mono ?_
                rintro e w7a ⟨rfl, ht7, hb7⟩
                rw [H3.out]
                have HT7 : Hid (Two w7a w.heap.size Bc Bd (c6.crash ks).2 d6) := ht7
                have HB7 : Hid (Below w.heap.size w w7a) := HB9.out.trans hb7
                clear ht7 hb7 HT9 HB9 HI9
                go_wp2_with fail
                refine (down2 HT7.out.swap).mono ?_
                rintro e w8 ⟨rfl, rfl⟩
                rw [H2.out]
                go_wp2_with fail
                refine (same2 HT7.out).mono ?_
                rintro e wa ⟨rfl, hba⟩
                rw [H4.out]
                have HBa : Hid (Below w.heap.size w wa) := HB7.out.trans (hba.mono HB7.out.size)
                clear hba HT7 HB7
                go_wp2
                go_ret
                exact ⟨rfl, HBa.out⟩
              · have hl1 : 1 < ((k : Int) - (d : Int)) := by omega
                rw [hw, fz_write (n := n) hl1 ks g.pl (sct g.a g.b) HS.out.1 hr] at HT9 ⊢
                have HF9 : Hid (FzAt w w9 n Bd Bc (c.put g.pl.toNat (sct g.a g.b)) (k - ((d + 1 : Nat) : Int)) ks) := ⟨by rw [show (k : Int) - ((d + 1 : Nat) : Int) = k - d - 1 by omega]; exact HT9.out.swap, hpp, HB9.out⟩
                have hkk : (((d : Int) + 1) == (k : Int)) = false := by simp; omega
                clear hr hw HT9 HB9 hl1 hpp
                go_wp2
                go_roundw
                case rel => exact ⟨j + 1, d + 1, _, by omega, by go_num, by go_num, by omega, HF9⟩
                case measure => simp [intOf]; omega
        · have HB : Hid (Below w.heap.size w wr) := HF.out.below
          have HT : Hid (Two wr w.heap.size Bd Bc (fz c (k - d) ks) c) := HF.out.two
          have HU : Hid ((fz c (k - d) ks).down = false) := HF.out.plain.up
          clear HF
          go_wp2_with fail
          refine (down2 HT.out).mono ?_
          rintro e w8 ⟨rfl, rfl⟩
          rw [HU.out]
          go_wp2
          go_ret
          exact ⟨rfl, HB.out⟩

end Go.Proofs.Ytahcfpfjijkchaa
