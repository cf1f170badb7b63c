/- A disk held against the document's. -/
import Derived.Test.YtpggnejifpcnmaaDkRdy
import Derived.Test.YtpggnejifpcnmaaDkPair
import Derived.BigQuiet
namespace Go.Proofs.Ytpggnejifpcnmaa
open Go.RowKit Go.Maps Go.Shelf
set_option linter.unusedVariables false
set_option maxRecDepth 100000

theorem sectors_any {w : World} {B : Nat} {bs : List Nat} {d : Dk} (h : Dsk w B bs d) : Calls Try.prog 39 #[.pointer (some ⟨B, 0, none⟩)] w fun e w' => e = .returned (.int .i64 d.n) ∧ w' = w := by
  have hma := made_any h
  obtain ⟨S, M, pd, cd, kb, -, h⟩ := h
  obtain ⟨c0, -⟩ := h.cells
  clear h
  go_enter Try.func39, Try.ntmps39
  go_wp2_with fail
  refine hma.mono ?_
  rintro e w1 ⟨rfl, rfl⟩
  clear hma
  go_wp2
  go_ret
  exact ⟨rfl, rfl⟩

theorem calls_any {w : World} {B : Nat} {bs : List Nat} {d : Dk} (h : Dsk w B bs d) : Calls Try.prog 15 #[.pointer (some ⟨B, 0, none⟩)] w fun e w' => e = .returned (.int .i64 d.calls) ∧ w' = w := by
  have hma := made_any h
  obtain ⟨S, M, pd, cd, kb, -, h⟩ := h
  obtain ⟨-, -, c2, -⟩ := h.cells
  clear h
  go_enter Try.func15, Try.ntmps15
  go_wp2_with fail
  refine hma.mono ?_
  rintro e w1 ⟨rfl, rfl⟩
  clear hma
  go_wp2
  go_ret
  exact ⟨rfl, rfl⟩

theorem Goes.below {α : Type} {val : α → Int} {m0 : Nat} {w w' : World} {Bs : Nat} {L : List α} (h : Goes val m0 w Bs L) (k : Below w.heap.size w w') : Goes val m0 w' Bs L := by
  obtain ⟨⟨p, cap, hb, hc⟩, h1, h2⟩ := h
  refine ⟨⟨p, cap, hb.tn (Tn.of_below k []) (by simp), fun h0 => ?_⟩, h1, h2⟩
  obtain ⟨b, off, hp, hm, hlt, hx⟩ := hc h0
  refine ⟨b, off, hp, hm, Nat.lt_of_lt_of_le hlt k.size, fun j x hj => ?_⟩
  rw [k.cell (p := ⟨b, off + j, none⟩) hlt]
  exact hx j x hj

set_option maxHeartbeats 2000000 in
theorem equalD_any {w : World} {B R : Nat} {bs rs : List Nat} {d : Dk} (h1 : Dsk w B bs d) (h2 : Rf w R rs d) (hdn : d.down = true → dirts d.dirty d.n = []) :
    Calls Try.prog 17 #[.pointer (some ⟨B, 0, none⟩), .pointer (some ⟨R, 0, none⟩)] w fun e w' => e = .returned (.bool true) ∧ Below w.heap.size w w' := by
  have HD : Hid (Dsk w B bs d) := h1
  have HR : Hid (Rf w R rs d) := h2
  have HDN : Hid (d.down = true → dirts d.dirty d.n = []) := hdn
  have HN2 : Hid (d.n ≤ 16384) := by obtain ⟨S, M, pd, cd, kb, -, h⟩ := h1; exact h.n2
  have hrd := rdirty h2
  clear h1 h2 hdn
  cases hdw : d.down with
  | true =>
    go_enter Try.func17, Try.ntmps17
    go_wp2_with fail
    refine hrd.mono ?_
    rintro e w1 ⟨p1, c1, rfl, -, hb1⟩
    have HB1 : Hid (Below w.heap.size w w1) := hb1
    have HD1 : Hid (Dsk w1 B bs d) := HD.out.below hb1
    have HR1 : Hid (Rf w1 R rs d) := HR.out.below hb1
    clear hrd hb1
    go_wp2_with fail
    refine (rdown HR1.out).mono ?_
    rintro e w1' ⟨rfl, rfl⟩
    rw [hdw]
    go_wp2_with fail
    refine (dirty_any HD1.out).mono ?_
    rintro e w2 ⟨Bs, rfl, hg, hb2⟩
    have HG2 : Hid (Goes (fun i : Nat => (i : Int)) w1'.heap.size w2 Bs []) := by rw [← HDN.out hdw]; exact hg
    have HD2 : Hid (Dsk w2 B bs d) := HD1.out.below hb2
    have HR2 : Hid (Rf w2 R rs d) := HR1.out.below hb2
    have HB2 : Hid (Below w.heap.size w w2) := HB1.out.trans (hb2.mono HB1.out.size)
    clear hg hb2 HD1 HR1 HB1
    go_wp2_with fail
    refine (told_any HG2.out none 0 0 [] rfl (Its.nil _ _) (by omega)).mono ?_
    rintro e w3 ⟨rfl, hb3⟩
    have HG3 : Hid (Goes (fun i : Nat => (i : Int)) w1'.heap.size w3 Bs []) := HG2.out.below hb3
    have HD3 : Hid (Dsk w3 B bs d) := HD2.out.below hb3
    have HR3 : Hid (Rf w3 R rs d) := HR2.out.below hb3
    have HB3 : Hid (Below w.heap.size w w3) := HB2.out.trans (hb3.mono HB2.out.size)
    rw [show decide (ints [] = []) = true from rfl]
    clear hb3 HD2 HR2 HB2 HG2
    go_wp2_with fail
    refine (told_any HG3.out none 0 0 [] rfl (Its.nil _ _) (by omega)).mono ?_
    rintro e w4 ⟨rfl, hb4⟩
    have HD4 : Hid (Dsk w4 B bs d) := HD3.out.below hb4
    have HR4 : Hid (Rf w4 R rs d) := HR3.out.below hb4
    have HB4 : Hid (Below w.heap.size w w4) := HB3.out.trans (hb4.mono HB3.out.size)
    rw [show decide (ints [] = []) = true from rfl]
    clear hb4 HD3 HR3 HB3 HG3
    go_wp2_with fail
    refine (sectors_any HD4.out).mono ?_
    rintro e w5 ⟨rfl, rfl⟩
    go_wp2_with fail
    refine (rsectors HR4.out).mono ?_
    rintro e w6 ⟨rfl, rfl⟩
    go_wp2_with fail
    refine (down_any HD4.out).mono ?_
    rintro e w7 ⟨rfl, rfl⟩
    rw [hdw]
    go_wp2_with fail
    refine (rdown HR4.out).mono ?_
    rintro e w8 ⟨rfl, rfl⟩
    rw [hdw]
    go_wp2_with fail
    refine (calls_any HD4.out).mono ?_
    rintro e w9 ⟨rfl, rfl⟩
    go_wp2_with fail
    refine (rcalls HR4.out).mono ?_
    rintro e w10 ⟨rfl, rfl⟩
    go_wp2_with fail
    refine (rdown HR4.out).mono ?_
    rintro e w11 ⟨rfl, rfl⟩
    rw [hdw]
    go_wp2
    go_ret
    exact ⟨rfl, HB4.out⟩
  | false =>
    obtain ⟨n, hn⟩ : ∃ n, d.n = n := ⟨_, rfl⟩
    have HN : Hid (d.n = n) := hn
    obtain ⟨m, hm⟩ : ∃ m, (dirts d.dirty d.n).length = m := ⟨_, rfl⟩
    have HM : Hid ((dirts d.dirty d.n).length = m) := hm
    have hmm : m ≤ 140737488355328 := by have := dirts_le d.dirty d.n; have := HN2.out; omega
    have hn2 : n ≤ 16384 := by have := HN2.out; omega
    have hml : (ints (dirts d.dirty d.n)).length = m := by rw [← hm]; simp [ints]
    rw [hm] at hrd
    clear hm hn
    go_enter Try.func17, Try.ntmps17
    go_wp2_with fail
    refine hrd.mono ?_
    rintro e w1 ⟨p1, c1, rfl, hi1, hb1⟩
    have HI1 : Hid (Its w1 p1 (ints (dirts d.dirty d.n))) := hi1
    have HB1 : Hid (Below w.heap.size w w1) := hb1
    have HD1 : Hid (Dsk w1 B bs d) := HD.out.below hb1
    have HR1 : Hid (Rf w1 R rs d) := HR.out.below hb1
    clear hrd hb1 hi1
    go_wp2_with fail
    refine (rdown HR1.out).mono ?_
    rintro e w1' ⟨rfl, rfl⟩
    rw [hdw]
    go_wp2_with fail
    refine (dirty_any HD1.out).mono ?_
    rintro e w2 ⟨Bs, rfl, hg, hb2⟩
    have HG2 : Hid (Goes (fun i : Nat => (i : Int)) w1'.heap.size w2 Bs (dirts d.dirty d.n)) := hg
    have HI2 : Hid (Its w2 p1 (ints (dirts d.dirty d.n))) := HI1.out.below hb2 (Nat.le_refl _)
    have HD2 : Hid (Dsk w2 B bs d) := HD1.out.below hb2
    have HR2 : Hid (Rf w2 R rs d) := HR1.out.below hb2
    have HB2 : Hid (Below w.heap.size w w2) := HB1.out.trans (hb2.mono HB1.out.size)
    clear hg hb2 HD1 HR1 HB1 HI1
    go_wp2_with fail
    refine (told_any HG2.out p1 m c1 _ hml HI2.out hmm).mono ?_
    rintro e w3 ⟨rfl, hb3⟩
    have HG3 : Hid (Goes (fun i : Nat => (i : Int)) w1'.heap.size w3 Bs (dirts d.dirty d.n)) := HG2.out.below hb3
    have HI3 : Hid (Its w3 p1 (ints (dirts d.dirty d.n))) := HI2.out.below hb3 (Nat.le_refl _)
    have HD3 : Hid (Dsk w3 B bs d) := HD2.out.below hb3
    have HR3 : Hid (Rf w3 R rs d) := HR2.out.below hb3
    have HB3 : Hid (Below w.heap.size w w3) := HB2.out.trans (hb3.mono HB2.out.size)
    rw [decide_eq_true rfl]
    clear hb3 HD2 HR2 HB2 HG2 HI2
    go_wp2_with fail
    refine (told_any HG3.out p1 m c1 _ hml HI3.out hmm).mono ?_
    rintro e w4 ⟨rfl, hb4⟩
    have HD4 : Hid (Dsk w4 B bs d) := HD3.out.below hb4
    have HR4 : Hid (Rf w4 R rs d) := HR3.out.below hb4
    have HB4 : Hid (Below w.heap.size w w4) := HB3.out.trans (hb4.mono HB3.out.size)
    rw [decide_eq_true rfl]
    clear hb4 HD3 HR3 HB3 HG3 HI3
    go_wp2_with fail
    refine (sectors_any HD4.out).mono ?_
    rintro e w5 ⟨rfl, rfl⟩
    go_wp2_with fail
    refine (rsectors HR4.out).mono ?_
    rintro e w6 ⟨rfl, rfl⟩
    go_wp2_with fail
    refine (down_any HD4.out).mono ?_
    rintro e w7 ⟨rfl, rfl⟩
    rw [hdw]
    go_wp2_with fail
    refine (rdown HR4.out).mono ?_
    rintro e w8 ⟨rfl, rfl⟩
    rw [hdw]
    go_wp2_with fail
    refine (calls_any HD4.out).mono ?_
    rintro e w9 ⟨rfl, rfl⟩
    go_wp2_with fail
    refine (rcalls HR4.out).mono ?_
    rintro e w10 ⟨rfl, rfl⟩
    go_wp2_with fail
    refine (rdown HR4.out).mono ?_
    rintro e w11 ⟨rfl, rfl⟩
    rw [hdw]
    go_wp2_with fail
    refine (rsectors HR4.out).mono ?_
    rintro e w12 ⟨rfl, rfl⟩
    rw [HN.out]
    clear HD4 HR4
    go_wp2_with fail
    go_loopw [49] (fun iv wr => ∃ j : Nat, j ≤ n ∧ iv = .int .i64 (j : Int) ∧ Hid (Below w.heap.size w wr)) (fun iv _ => n - (intOf iv).toNat)
    case atStart => exact ⟨0, Nat.zero_le _, rfl, HB4⟩
    case round =>
      obtain ⟨j, hj, rfl, HB⟩ := hrel
      have HDr : Hid (Dsk wr B bs d) := HD.out.below HB.out
      have HRr : Hid (Rf wr R rs d) := HR.out.below HB.out
      by_cases hq : j < n
      · have hqi : (j : Int) < (n : Int) := by omega
        have HRE : Hid (d.reach (j : Int) = 0) := by
          show _ = _
          have := HN.out
          simp [Dk.reach, hdw]
          omega
        go_wp2_with fail
        refine (read_all HDr.out (j : Int)).mono ?_
        rintro e wx ⟨v, rfl, hbx, -, hok⟩
        obtain ⟨g, rfl, -, hbk⟩ := hok HRE.out
        rw [HRE.out, Int.toNat_natCast] at *
        have HBX : Hid (Below w.heap.size w wx) := HB.out.trans (hbx.mono HB.out.size)
        have HJ : Hid (j < d.n) := by show _ < _; rw [HN.out]; exact hq
        have hln : (d.last j).length = 512 := (HDr.out.facts.2.2.1 j HJ.out).1
        have cv : ∀ k, (convert 32 9 (.slice (some ⟨g, 0, none⟩) 512 512)).run Try.prog (wx.drewN k) = .ok (.string (strOfNums (d.last j))) (wx.drewN k) := by
          intro k
          refine conv_str ?_ 512 512 hln
          have hbk' : Bk (wx.drewN k) g 5 (secCells (d.last j)) := hbk.tn (Tn.of_below (below_drewN (Below.refl _ _) k) []) (by simp)
          refine fun _ => ⟨g, 0, rfl, fun i hi => ?_⟩
          rw [hbk'.cell, Nat.zero_add, sec_cells_at]
          simp [List.getD, List.getElem?_eq_getElem hi]
        have HRX : Hid (∀ k, Rf (wx.drewN k) R rs d) := fun k => HRr.out.below (below_drewN hbx k)
        obtain ⟨xs, hxs⟩ : ∃ xs, strOfNums (d.last j) = xs := ⟨_, rfl⟩
        have HXS : Hid (strOfNums (d.last j) = xs) := hxs
        have HRT : Hid (∀ k, Calls Try.prog 41 #[.pointer (some ⟨R, 0, none⟩), .int .i64 (j : Int)] (wx.drewN k) fun e w' => e = .returned (.string xs) ∧ w' = wx.drewN k) := by
          intro k
          rw [← hxs]
          exact rat (HRX.out k) j HJ.out
        rw [hxs] at cv
        have hxx : (xs.toList == xs.toList) = true := by simp
        clear hbx hok hbk HDr HRr HB hln hxs HXS HRX
        go_wp2_with fail
        go_quiet (first | (go_at_call 41; refine Calls.quiet_of_same (HRT.out _)))
        have HBQ : Hid (Below w.heap.size w (wx.drewN nq)) := HBX.out.trans (below_drewN (Below.refl _ _) nq)
        generalize wx.drewN nq = wy at HBQ ⊢
        clear cv HRT HBX
        go_wp2
        go_roundw
        case rel => exact ⟨j + 1, by omega, by go_num, HBQ⟩
        case measure => simp [intOf]; omega
      · have hjn : j = n := by omega
        subst hjn
        go_wp2
        go_ret
        exact ⟨rfl, HB.out⟩

end Go.Proofs.Ytpggnejifpcnmaa
