/- PageSplits: any page's halves, any two pages as one, which pages are the same: as the document has it. -/
import Derived.Test.YtakibndjmhadnaaPgSr
import Derived.Test.YtakibndjmhadnaaPgMr
import Derived.Test.YtakibndjmhadnaaPgSm
import Derived.Test.YtakibndjmhadnaaPgLive
import Derived.Test.YtakibndjmhadnaaPgBulk
namespace Go.Proofs.Ytakibndjmhadnaa
open Go.ChangeShapes Go.WideShapes Go.ChangeAt Go.RowKit Go.Sort
open Go.ChangeMaps (open_string shut_string)
set_option linter.unusedVariables false
set_option maxRecDepth 100000

theorem Pg.split_len (g : Pp) (id : Int) : (Pg.split g id).1.l.length ≤ g.l.length ∧ (Pg.split g id).2.1.l.length ≤ g.l.length := by
  unfold Pg.split
  split
  · exact ⟨Nat.zero_le _, Nat.zero_le _⟩
  · split
    · exact ⟨Nat.zero_le _, Nat.zero_le _⟩
    · cases Pg.part g.leaf (Pg.keyAt g.l (g.l.length / 2 - 1)) (Pg.keyAt g.l (g.l.length / 2)) with
      | none => exact ⟨Nat.zero_le _, Nat.zero_le _⟩
      | some m => exact ⟨by simp; omega, by simp⟩

theorem Pg.merge_len (a b : Pp) : (Pg.merge a b).1.l.length ≤ a.l.length + b.l.length := by
  unfold Pg.merge
  split
  · simp
  · exact Nat.zero_le _

/-- A page's value that leads to entries, its parts by name. -/
theorem PgAt.parts {w : World} {base : Nat} {v : Value} {g : Pp} (h : PgAt w base v g) : ∃ f lo hi r p n c l, g = ⟨f, lo, hi, r, l⟩ ∧ v = pgv f lo hi r p n c ∧ l.length = n ∧ Ens w p l ∧ (p = none → n = 0) := by
  obtain ⟨p, c, hv, hs⟩ := h
  obtain ⟨f, lo, hi, r, l⟩ := g
  exact ⟨f, lo, hi, r, p, l.length, c, l, rfl, hv, rfl, hs.ens, fun e => hs.none e⟩

set_option maxHeartbeats 4000000 in
theorem walk_pageSplits (pf : Bool) (plo phi : ByteArray) (pr : Int) (pp : Option Addr) (pn pc : Nat) (pl : List En) (qf : Bool) (qlo qhi : ByteArray) (qr : Int) (qp : Option Addr) (qn qc : Nat) (ql : List En) (id : Int) (w : World) (hp : InE 1048576 w pp pn pc pl) (hq : InE 1048576 w qp qn qc ql) (hid : (Lit.int .i64 id).wf = true) :
    Calls Try.prog 5 #[pgv pf plo phi pr pp pn pc, pgv qf qlo qhi qr qp qn qc, .int .i64 id] w fun e w' => e = .returned (.bool true) ∧ Below w.heap.size w w' := by
  have HP : Hid (InE 1048576 w pp pn pc pl) := hp
  have HQ : Hid (InE 1048576 w qp qn qc ql) := hq
  have hpn : pn ≤ 1048576 := hp.room
  have hqn : qn ≤ 1048576 := hq.room
  clear hp hq hid
  obtain ⟨w0, hw0⟩ : ∃ w0, (w.alloc (.cells #[.bool pf, .string plo, .string phi, .int .i64 pr, .slice pp pn pc] 24)).alloc (.cells #[.bool qf, .string qlo, .string qhi, .int .i64 qr, .slice qp qn qc] 24) = w0 := ⟨_, rfl⟩
  have BW : Hid (Below w.heap.size w w0) := by rw [← hw0]; exact ((Below.refl _ _).alloc (Nat.le_refl _) _).alloc (by simp) _
  have HXp : Hid (Bk w0 w.heap.size 24 #[.bool pf, .string plo, .string phi, .int .i64 pr, .slice pp pn pc]) := by rw [← hw0]; exact (Bk.new _ _ _).alloc _
  have HXq : Hid (Bk w0 (w.heap.size + 1) 24 #[.bool qf, .string qlo, .string qhi, .int .i64 qr, .slice qp qn qc]) := by rw [← hw0]; exact Bk.new1 _ _ _ _
  have p0 : w0.cell? ⟨w.heap.size, 0, none⟩ = some (.bool pf) := HXp.out.cell 0
  have p1 : w0.cell? ⟨w.heap.size, 1, none⟩ = some (.string plo) := HXp.out.cell 1
  have p2 : w0.cell? ⟨w.heap.size, 2, none⟩ = some (.string phi) := HXp.out.cell 2
  have p3 : w0.cell? ⟨w.heap.size, 3, none⟩ = some (.int .i64 pr) := HXp.out.cell 3
  have p4 : w0.cell? ⟨w.heap.size, 4, none⟩ = some (.slice pp pn pc) := HXp.out.cell 4
  go_enter Try.func5, Try.ntmps5
  go_wp2_with fail
  refine (split_any pf plo phi pr pp pn pc pl id _ HP.out.lenq (HP.out.ens.below BW.out (Nat.le_refl _)) (by omega) HP.out.keys).mono ?_
  obtain ⟨⟨ga, gb, k⟩, hsp⟩ : ∃ o, Pg.split ⟨pf, plo, phi, pr, pl⟩ id = o := ⟨_, rfl⟩
  have hsl := Pg.split_len ⟨pf, plo, phi, pr, pl⟩ id
  rw [hsp] at hsl ⊢
  rintro e w1 ⟨v1, v2, rfl, hga, hgb, hb⟩
  obtain ⟨af, alo, ahi, ar, ap, an, ac, al, rfl, rfl, han, hae, -⟩ := hga.parts
  obtain ⟨bf, blo, bhi, br, bp, bn, bc, bl, rfl, rfl, hbn, hbe, -⟩ := hgb.parts
  have HSP : Hid (Pg.split ⟨pf, plo, phi, pr, pl⟩ id = (⟨af, alo, ahi, ar, al⟩, ⟨bf, blo, bhi, br, bl⟩, k)) := hsp
  have hl1 : an ≤ 1048576 := by have h1 := hsl.1; have h2 := HP.out.lenq; simp only at h1; omega
  have hl2 : bn ≤ 1048576 := by have h1 := hsl.2; have h2 := HP.out.lenq; simp only at h1; omega
  obtain ⟨w2, hw2⟩ : ∃ w2, (w1.alloc (.cells #[.bool af, .string alo, .string ahi, .int .i64 ar, .slice ap an ac] 24)).alloc (.cells #[.bool bf, .string blo, .string bhi, .int .i64 br, .slice bp bn bc] 24) = w2 := ⟨_, rfl⟩
  have hal : Below w1.heap.size w1 w2 := by rw [← hw2]; exact ((Below.refl _ _).alloc (Nat.le_refl _) _).alloc (by simp) _
  have HXa : Hid (Bk w2 w1.heap.size 24 #[.bool af, .string alo, .string ahi, .int .i64 ar, .slice ap an ac]) := by rw [← hw2]; exact (Bk.new _ _ _).alloc _
  have HXb : Hid (Bk w2 (w1.heap.size + 1) 24 #[.bool bf, .string blo, .string bhi, .int .i64 br, .slice bp bn bc]) := by rw [← hw2]; exact Bk.new1 _ _ _ _
  have hcn : Below w0.heap.size w0 w2 := hb.trans (hal.mono hb.size)
  have Bw0 : Hid (Below w0.heap.size w0 w2) := hcn
  have BW : Hid (Below w.heap.size w w2) := BW.out.trans (hcn.mono BW.out.size)
  have HEa : Hid (Ens w2 ap al) := hae.below hal (Nat.le_refl _)
  have HEb : Hid (Ens w2 bp bl) := hbe.below hal (Nat.le_refl _)
  have HNa : Hid (al.length = an) := han
  have HNb : Hid (bl.length = bn) := hbn
  have hxp := HXp.out.below Bw0.out HXp.out.lt
  have HYp : Hid (Bk w2 w.heap.size 24 #[.bool pf, .string plo, .string phi, .int .i64 pr, .slice pp pn pc]) := hxp
  clear hsp hsl hga hgb hb hal hcn hae hbe han hbn hxp p0 p1 p2 p3 p4 hw0
  have p0 : w2.cell? ⟨w.heap.size, 0, none⟩ = some (.bool pf) := HYp.out.cell 0
  have p1 : w2.cell? ⟨w.heap.size, 1, none⟩ = some (.string plo) := HYp.out.cell 1
  have p2 : w2.cell? ⟨w.heap.size, 2, none⟩ = some (.string phi) := HYp.out.cell 2
  have p3 : w2.cell? ⟨w.heap.size, 3, none⟩ = some (.int .i64 pr) := HYp.out.cell 3
  have p4 : w2.cell? ⟨w.heap.size, 4, none⟩ = some (.slice pp pn pc) := HYp.out.cell 4
  go_wp2_with fail
  clear hw2
  refine (rsplit_any pf plo phi pr pp pn pc pl id _ HP.out.lenq (HP.out.ens.below BW.out (Nat.le_refl _)) (by omega) HP.out.keys HP.out.nil).mono ?_
  rw [HSP.out]
  rintro e w3 ⟨v3, v4, rfl, hgc, hgd, hb⟩
  obtain ⟨cf, clo, chi, cr, cp, cn, cc, cl, hcq, rfl, hcn0, hce, -⟩ := hgc.parts
  obtain ⟨df, dlo, dhi, dr, dp, dn, dc, dl, hdq, rfl, hdn0, hde, -⟩ := hgd.parts
  simp only [Pp.mk.injEq] at hcq hdq
  obtain ⟨rfl, rfl, rfl, rfl, rfl⟩ := hcq
  obtain ⟨rfl, rfl, rfl, rfl, rfl⟩ := hdq
  obtain rfl : an = cn := by rw [← HNa.out, ← hcn0]
  obtain rfl : bn = dn := by rw [← HNb.out, ← hdn0]
  obtain ⟨w4, hw4⟩ : ∃ w4, (w3.alloc (.cells #[.bool af, .string alo, .string ahi, .int .i64 ar, .slice cp an cc] 24)).alloc (.cells #[.bool bf, .string blo, .string bhi, .int .i64 br, .slice dp bn dc] 24) = w4 := ⟨_, rfl⟩
  have hal : Below w3.heap.size w3 w4 := by rw [← hw4]; exact ((Below.refl _ _).alloc (Nat.le_refl _) _).alloc (by simp) _
  have HXc : Hid (Bk w4 w3.heap.size 24 #[.bool af, .string alo, .string ahi, .int .i64 ar, .slice cp an cc]) := by rw [← hw4]; exact (Bk.new _ _ _).alloc _
  have HXd : Hid (Bk w4 (w3.heap.size + 1) 24 #[.bool bf, .string blo, .string bhi, .int .i64 br, .slice dp bn dc]) := by rw [← hw4]; exact Bk.new1 _ _ _ _
  have hcn : Below w2.heap.size w2 w4 := hb.trans (hal.mono hb.size)
  have Bw0 : Hid (Below w0.heap.size w0 w4) := Bw0.out.trans (hcn.mono Bw0.out.size)
  have Bw2 : Hid (Below w2.heap.size w2 w4) := hcn
  have BW : Hid (Below w.heap.size w w4) := BW.out.trans (hcn.mono BW.out.size)
  have HEc : Hid (Ens w4 cp al) := hce.below hal (Nat.le_refl _)
  have HEd : Hid (Ens w4 dp bl) := hde.below hal (Nat.le_refl _)
  have hxp := HXp.out.below Bw0.out HXp.out.lt
  have HYp : Hid (Bk w4 w.heap.size 24 #[.bool pf, .string plo, .string phi, .int .i64 pr, .slice pp pn pc]) := hxp
  have hxq := HXq.out.below Bw0.out HXq.out.lt
  have HYq : Hid (Bk w4 (w.heap.size + 1) 24 #[.bool qf, .string qlo, .string qhi, .int .i64 qr, .slice qp qn qc]) := hxq
  clear hgc hgd hb hal hcn hce hde hcn0 hdn0 hxp hxq p0 p1 p2 p3 p4
  have p0 : w4.cell? ⟨w.heap.size, 0, none⟩ = some (.bool pf) := HYp.out.cell 0
  have p1 : w4.cell? ⟨w.heap.size, 1, none⟩ = some (.string plo) := HYp.out.cell 1
  have p2 : w4.cell? ⟨w.heap.size, 2, none⟩ = some (.string phi) := HYp.out.cell 2
  have p3 : w4.cell? ⟨w.heap.size, 3, none⟩ = some (.int .i64 pr) := HYp.out.cell 3
  have p4 : w4.cell? ⟨w.heap.size, 4, none⟩ = some (.slice pp pn pc) := HYp.out.cell 4
  have q0 : w4.cell? ⟨w.heap.size + 1, 0, none⟩ = some (.bool qf) := HYq.out.cell 0
  have q1 : w4.cell? ⟨w.heap.size + 1, 1, none⟩ = some (.string qlo) := HYq.out.cell 1
  have q2 : w4.cell? ⟨w.heap.size + 1, 2, none⟩ = some (.string qhi) := HYq.out.cell 2
  have q3 : w4.cell? ⟨w.heap.size + 1, 3, none⟩ = some (.int .i64 qr) := HYq.out.cell 3
  have q4 : w4.cell? ⟨w.heap.size + 1, 4, none⟩ = some (.slice qp qn qc) := HYq.out.cell 4
  go_wp2_with fail
  clear hw4
  refine (merge_any ⟨pf, plo, phi, pr, pl⟩ ⟨qf, qlo, qhi, qr, ql⟩ pp qp pn qn pc qc _ HP.out.lenq HQ.out.lenq (HP.out.ens.below BW.out (Nat.le_refl _)) (HQ.out.ens.below BW.out (Nat.le_refl _)) HP.out.nil HQ.out.nil (by omega) (by omega)).mono ?_
  obtain ⟨⟨gx, km⟩, hmg⟩ : ∃ o, Pg.merge ⟨pf, plo, phi, pr, pl⟩ ⟨qf, qlo, qhi, qr, ql⟩ = o := ⟨_, rfl⟩
  have hml := Pg.merge_len ⟨pf, plo, phi, pr, pl⟩ ⟨qf, qlo, qhi, qr, ql⟩
  rw [hmg] at hml ⊢
  rintro e w5 ⟨v5, rfl, hgx, hb⟩
  obtain ⟨xf, xlo, xhi, xr, xp, xn, xc, xl, rfl, rfl, hxn, hxe, -⟩ := hgx.parts
  have HMG : Hid (Pg.merge ⟨pf, plo, phi, pr, pl⟩ ⟨qf, qlo, qhi, qr, ql⟩ = (⟨xf, xlo, xhi, xr, xl⟩, km)) := hmg
  have hl3 : xn ≤ 2097152 := by have h1 := HP.out.lenq; have h2 := HQ.out.lenq; simp only at hml; omega
  obtain ⟨w6, hw6⟩ : ∃ w6, w5.alloc (.cells #[.bool xf, .string xlo, .string xhi, .int .i64 xr, .slice xp xn xc] 24) = w6 := ⟨_, rfl⟩
  have hal : Below w5.heap.size w5 w6 := by rw [← hw6]; exact (Below.refl _ _).alloc (Nat.le_refl _) _
  have HXx : Hid (Bk w6 w5.heap.size 24 #[.bool xf, .string xlo, .string xhi, .int .i64 xr, .slice xp xn xc]) := by rw [← hw6]; exact Bk.new _ _ _
  have hcn : Below w4.heap.size w4 w6 := hb.trans (hal.mono hb.size)
  have Bw0 : Hid (Below w0.heap.size w0 w6) := Bw0.out.trans (hcn.mono Bw0.out.size)
  have Bw2 : Hid (Below w2.heap.size w2 w6) := Bw2.out.trans (hcn.mono Bw2.out.size)
  have Bw4 : Hid (Below w4.heap.size w4 w6) := hcn
  have BW : Hid (Below w.heap.size w w6) := BW.out.trans (hcn.mono BW.out.size)
  have HEx : Hid (Ens w6 xp xl) := hxe.below hal (Nat.le_refl _)
  have HNx : Hid (xl.length = xn) := hxn
  have hxp := HXp.out.below Bw0.out HXp.out.lt
  have HYp : Hid (Bk w6 w.heap.size 24 #[.bool pf, .string plo, .string phi, .int .i64 pr, .slice pp pn pc]) := hxp
  have hxq := HXq.out.below Bw0.out HXq.out.lt
  have HYq : Hid (Bk w6 (w.heap.size + 1) 24 #[.bool qf, .string qlo, .string qhi, .int .i64 qr, .slice qp qn qc]) := hxq
  clear hmg hml hgx hb hal hcn hxe hxn hxp hxq p0 p1 p2 p3 p4 q0 q1 q2 q3 q4
  have p0 : w6.cell? ⟨w.heap.size, 0, none⟩ = some (.bool pf) := HYp.out.cell 0
  have p1 : w6.cell? ⟨w.heap.size, 1, none⟩ = some (.string plo) := HYp.out.cell 1
  have p2 : w6.cell? ⟨w.heap.size, 2, none⟩ = some (.string phi) := HYp.out.cell 2
  have p3 : w6.cell? ⟨w.heap.size, 3, none⟩ = some (.int .i64 pr) := HYp.out.cell 3
  have p4 : w6.cell? ⟨w.heap.size, 4, none⟩ = some (.slice pp pn pc) := HYp.out.cell 4
  have q0 : w6.cell? ⟨w.heap.size + 1, 0, none⟩ = some (.bool qf) := HYq.out.cell 0
  have q1 : w6.cell? ⟨w.heap.size + 1, 1, none⟩ = some (.string qlo) := HYq.out.cell 1
  have q2 : w6.cell? ⟨w.heap.size + 1, 2, none⟩ = some (.string qhi) := HYq.out.cell 2
  have q3 : w6.cell? ⟨w.heap.size + 1, 3, none⟩ = some (.int .i64 qr) := HYq.out.cell 3
  have q4 : w6.cell? ⟨w.heap.size + 1, 4, none⟩ = some (.slice qp qn qc) := HYq.out.cell 4
  go_wp2_with fail
  clear hw6
  refine (rmerge_any ⟨pf, plo, phi, pr, pl⟩ ⟨qf, qlo, qhi, qr, ql⟩ pp qp pn qn pc qc _ HP.out.lenq HQ.out.lenq (HP.out.ens.below BW.out (Nat.le_refl _)) (HQ.out.ens.below BW.out (Nat.le_refl _)) HP.out.nil HQ.out.nil (by omega) (by omega)).mono ?_
  rw [HMG.out]
  rintro e w7 ⟨v7, rfl, hgy, hb⟩
  obtain ⟨yf, ylo, yhi, yr, yp, yn, yc, yl, hyq, rfl, hyn, hye, -⟩ := hgy.parts
  simp only [Pp.mk.injEq] at hyq
  obtain ⟨rfl, rfl, rfl, rfl, rfl⟩ := hyq
  obtain rfl : xn = yn := by rw [← HNx.out, ← hyn]
  obtain ⟨w8, hw8⟩ : ∃ w8, w7.alloc (.cells #[.bool xf, .string xlo, .string xhi, .int .i64 xr, .slice yp xn yc] 24) = w8 := ⟨_, rfl⟩
  have hal : Below w7.heap.size w7 w8 := by rw [← hw8]; exact (Below.refl _ _).alloc (Nat.le_refl _) _
  have HXy : Hid (Bk w8 w7.heap.size 24 #[.bool xf, .string xlo, .string xhi, .int .i64 xr, .slice yp xn yc]) := by rw [← hw8]; exact Bk.new _ _ _
  have hcn : Below w6.heap.size w6 w8 := hb.trans (hal.mono hb.size)
  have Bw0 : Hid (Below w0.heap.size w0 w8) := Bw0.out.trans (hcn.mono Bw0.out.size)
  have Bw2 : Hid (Below w2.heap.size w2 w8) := Bw2.out.trans (hcn.mono Bw2.out.size)
  have Bw4 : Hid (Below w4.heap.size w4 w8) := Bw4.out.trans (hcn.mono Bw4.out.size)
  have Bw6 : Hid (Below w6.heap.size w6 w8) := hcn
  have BW : Hid (Below w.heap.size w w8) := BW.out.trans (hcn.mono BW.out.size)
  have HEy : Hid (Ens w8 yp xl) := hye.below hal (Nat.le_refl _)
  clear hgy hb hal hcn hye hyn p0 p1 p2 p3 p4 q0 q1 q2 q3 q4
  have hk := HXp.out.below Bw0.out HXp.out.lt
  have p0 := cell_regrown (show w8.cell? ⟨w.heap.size, 0, none⟩ = some (.bool pf) from hk.cell 0)
  have p1 := cell_regrown (show w8.cell? ⟨w.heap.size, 1, none⟩ = some (.string plo) from hk.cell 1)
  have p2 := cell_regrown (show w8.cell? ⟨w.heap.size, 2, none⟩ = some (.string phi) from hk.cell 2)
  have p3 := cell_regrown (show w8.cell? ⟨w.heap.size, 3, none⟩ = some (.int .i64 pr) from hk.cell 3)
  have p4 := cell_regrown (show w8.cell? ⟨w.heap.size, 4, none⟩ = some (.slice pp pn pc) from hk.cell 4)
  clear hk
  have hk := HXq.out.below Bw0.out HXq.out.lt
  have q0 := cell_regrown (show w8.cell? ⟨w.heap.size + 1, 0, none⟩ = some (.bool qf) from hk.cell 0)
  have q1 := cell_regrown (show w8.cell? ⟨w.heap.size + 1, 1, none⟩ = some (.string qlo) from hk.cell 1)
  have q2 := cell_regrown (show w8.cell? ⟨w.heap.size + 1, 2, none⟩ = some (.string qhi) from hk.cell 2)
  have q3 := cell_regrown (show w8.cell? ⟨w.heap.size + 1, 3, none⟩ = some (.int .i64 qr) from hk.cell 3)
  have q4 := cell_regrown (show w8.cell? ⟨w.heap.size + 1, 4, none⟩ = some (.slice qp qn qc) from hk.cell 4)
  clear hk
  have hk := HXa.out.below Bw2.out HXa.out.lt
  have a0 := cell_regrown (show w8.cell? ⟨w1.heap.size, 0, none⟩ = some (.bool af) from hk.cell 0)
  have a1 := cell_regrown (show w8.cell? ⟨w1.heap.size, 1, none⟩ = some (.string alo) from hk.cell 1)
  have a2 := cell_regrown (show w8.cell? ⟨w1.heap.size, 2, none⟩ = some (.string ahi) from hk.cell 2)
  have a3 := cell_regrown (show w8.cell? ⟨w1.heap.size, 3, none⟩ = some (.int .i64 ar) from hk.cell 3)
  have a4 := cell_regrown (show w8.cell? ⟨w1.heap.size, 4, none⟩ = some (.slice ap an ac) from hk.cell 4)
  clear hk
  have hk := HXb.out.below Bw2.out HXb.out.lt
  have b0 := cell_regrown (show w8.cell? ⟨w1.heap.size + 1, 0, none⟩ = some (.bool bf) from hk.cell 0)
  have b1 := cell_regrown (show w8.cell? ⟨w1.heap.size + 1, 1, none⟩ = some (.string blo) from hk.cell 1)
  have b2 := cell_regrown (show w8.cell? ⟨w1.heap.size + 1, 2, none⟩ = some (.string bhi) from hk.cell 2)
  have b3 := cell_regrown (show w8.cell? ⟨w1.heap.size + 1, 3, none⟩ = some (.int .i64 br) from hk.cell 3)
  have b4 := cell_regrown (show w8.cell? ⟨w1.heap.size + 1, 4, none⟩ = some (.slice bp bn bc) from hk.cell 4)
  clear hk
  have hk := HXc.out.below Bw4.out HXc.out.lt
  have c0 := cell_regrown (show w8.cell? ⟨w3.heap.size, 0, none⟩ = some (.bool af) from hk.cell 0)
  have c1 := cell_regrown (show w8.cell? ⟨w3.heap.size, 1, none⟩ = some (.string alo) from hk.cell 1)
  have c2 := cell_regrown (show w8.cell? ⟨w3.heap.size, 2, none⟩ = some (.string ahi) from hk.cell 2)
  have c3 := cell_regrown (show w8.cell? ⟨w3.heap.size, 3, none⟩ = some (.int .i64 ar) from hk.cell 3)
  have c4 := cell_regrown (show w8.cell? ⟨w3.heap.size, 4, none⟩ = some (.slice cp an cc) from hk.cell 4)
  clear hk
  have hk := HXd.out.below Bw4.out HXd.out.lt
  have d0 := cell_regrown (show w8.cell? ⟨w3.heap.size + 1, 0, none⟩ = some (.bool bf) from hk.cell 0)
  have d1 := cell_regrown (show w8.cell? ⟨w3.heap.size + 1, 1, none⟩ = some (.string blo) from hk.cell 1)
  have d2 := cell_regrown (show w8.cell? ⟨w3.heap.size + 1, 2, none⟩ = some (.string bhi) from hk.cell 2)
  have d3 := cell_regrown (show w8.cell? ⟨w3.heap.size + 1, 3, none⟩ = some (.int .i64 br) from hk.cell 3)
  have d4 := cell_regrown (show w8.cell? ⟨w3.heap.size + 1, 4, none⟩ = some (.slice dp bn dc) from hk.cell 4)
  clear hk
  have hk := HXx.out.below Bw6.out HXx.out.lt
  have x0 := cell_regrown (show w8.cell? ⟨w5.heap.size, 0, none⟩ = some (.bool xf) from hk.cell 0)
  have x1 := cell_regrown (show w8.cell? ⟨w5.heap.size, 1, none⟩ = some (.string xlo) from hk.cell 1)
  have x2 := cell_regrown (show w8.cell? ⟨w5.heap.size, 2, none⟩ = some (.string xhi) from hk.cell 2)
  have x3 := cell_regrown (show w8.cell? ⟨w5.heap.size, 3, none⟩ = some (.int .i64 xr) from hk.cell 3)
  have x4 := cell_regrown (show w8.cell? ⟨w5.heap.size, 4, none⟩ = some (.slice xp xn xc) from hk.cell 4)
  clear hk
  have hk := HXy.out
  have y0 := cell_regrown (show w8.cell? ⟨w7.heap.size, 0, none⟩ = some (.bool xf) from hk.cell 0)
  have y1 := cell_regrown (show w8.cell? ⟨w7.heap.size, 1, none⟩ = some (.string xlo) from hk.cell 1)
  have y2 := cell_regrown (show w8.cell? ⟨w7.heap.size, 2, none⟩ = some (.string xhi) from hk.cell 2)
  have y3 := cell_regrown (show w8.cell? ⟨w7.heap.size, 3, none⟩ = some (.int .i64 xr) from hk.cell 3)
  have y4 := cell_regrown (show w8.cell? ⟨w7.heap.size, 4, none⟩ = some (.slice yp xn yc) from hk.cell 4)
  clear hk
  have HEQ : Hid (∀ d os, Below w8.heap.size w8 (grow (redrawn w8 d) os)) := below_regrown w8
  have HEa8 : Hid (Ens w8 ap al) := HEa.out.below Bw2.out (Nat.le_refl _)
  have HEb8 : Hid (Ens w8 bp bl) := HEb.out.below Bw2.out (Nat.le_refl _)
  have HEc8 : Hid (Ens w8 cp al) := HEc.out.below Bw4.out (Nat.le_refl _)
  have HEd8 : Hid (Ens w8 dp bl) := HEd.out.below Bw4.out (Nat.le_refl _)
  have HEx8 : Hid (Ens w8 xp xl) := HEx.out.below Bw6.out (Nat.le_refl _)
  have HEp8 : Hid (Ens w8 pp pl) := HP.out.ens.below BW.out (Nat.le_refl _)
  have HEq8 : Hid (Ens w8 qp ql) := HQ.out.ens.below BW.out (Nat.le_refl _)
  obtain ⟨t, HT⟩ : ∃ t, Hid (Pg.same ⟨pf, plo, phi, pr, pl⟩ ⟨qf, qlo, qhi, qr, ql⟩ = t) := ⟨_, rfl⟩
  have cL : ∀ d os, Calls Try.prog 11 #[] (grow (redrawn w8 d) os) fun e w'' => e = .returned (.bool true) ∧ ∃ p : Regrown, w'' = grow (redrawn w8 p.d) p.os := fun d os => Calls.regrown_of (live_any _)
  have cA : ∀ d os, Calls Try.prog 27 #[.agg #[.bool af, .string alo, .string ahi, .int .i64 ar, .slice ap an ac], .agg #[.bool af, .string alo, .string ahi, .int .i64 ar, .slice cp an cc]] (grow (redrawn w8 d) os) fun e w'' => e = .returned (.bool true) ∧ ∃ p : Regrown, w'' = grow (redrawn w8 p.d) p.os := fun d os => Calls.regrown_of (by have := rsame_any ⟨af, alo, ahi, ar, al⟩ ⟨af, alo, ahi, ar, al⟩ ap cp an an ac cc (grow (redrawn w8 d) os) HNa.out HNa.out (HEa8.out.below (HEQ.out d os) (Nat.le_refl _)) (HEc8.out.below (HEQ.out d os) (Nat.le_refl _)) (by omega); rw [Pg.same_self] at this; exact this)
  have cB : ∀ d os, Calls Try.prog 27 #[.agg #[.bool bf, .string blo, .string bhi, .int .i64 br, .slice bp bn bc], .agg #[.bool bf, .string blo, .string bhi, .int .i64 br, .slice dp bn dc]] (grow (redrawn w8 d) os) fun e w'' => e = .returned (.bool true) ∧ ∃ p : Regrown, w'' = grow (redrawn w8 p.d) p.os := fun d os => Calls.regrown_of (by have := rsame_any ⟨bf, blo, bhi, br, bl⟩ ⟨bf, blo, bhi, br, bl⟩ bp dp bn bn bc dc (grow (redrawn w8 d) os) HNb.out HNb.out (HEb8.out.below (HEQ.out d os) (Nat.le_refl _)) (HEd8.out.below (HEQ.out d os) (Nat.le_refl _)) (by omega); rw [Pg.same_self] at this; exact this)
  have cX : ∀ d os, Calls Try.prog 27 #[.agg #[.bool xf, .string xlo, .string xhi, .int .i64 xr, .slice xp xn xc], .agg #[.bool xf, .string xlo, .string xhi, .int .i64 xr, .slice yp xn yc]] (grow (redrawn w8 d) os) fun e w'' => e = .returned (.bool true) ∧ ∃ p : Regrown, w'' = grow (redrawn w8 p.d) p.os := fun d os => Calls.regrown_of (by have := rsame_any ⟨xf, xlo, xhi, xr, xl⟩ ⟨xf, xlo, xhi, xr, xl⟩ xp yp xn xn xc yc (grow (redrawn w8 d) os) HNx.out HNx.out (HEx8.out.below (HEQ.out d os) (Nat.le_refl _)) (HEy.out.below (HEQ.out d os) (Nat.le_refl _)) (by omega); rw [Pg.same_self] at this; exact this)
  have cS : ∀ d os, Calls Try.prog 21 #[.agg #[.bool pf, .string plo, .string phi, .int .i64 pr, .slice pp pn pc], .agg #[.bool qf, .string qlo, .string qhi, .int .i64 qr, .slice qp qn qc]] (grow (redrawn w8 d) os) fun e w'' => e = .returned (.bool t) ∧ ∃ p : Regrown, w'' = grow (redrawn w8 p.d) p.os := fun d os => Calls.regrown_of (by have := same_any ⟨pf, plo, phi, pr, pl⟩ ⟨qf, qlo, qhi, qr, ql⟩ pp qp pn qn pc qc (grow (redrawn w8 d) os) HP.out.lenq HQ.out.lenq (HEp8.out.below (HEQ.out d os) (Nat.le_refl _)) (HEq8.out.below (HEQ.out d os) (Nat.le_refl _)) (by omega); rw [HT.out] at this; exact this)
  have cR : ∀ d os, Calls Try.prog 27 #[.agg #[.bool pf, .string plo, .string phi, .int .i64 pr, .slice pp pn pc], .agg #[.bool qf, .string qlo, .string qhi, .int .i64 qr, .slice qp qn qc]] (grow (redrawn w8 d) os) fun e w'' => e = .returned (.bool t) ∧ ∃ p : Regrown, w'' = grow (redrawn w8 p.d) p.os := fun d os => Calls.regrown_of (by have := rsame_any ⟨pf, plo, phi, pr, pl⟩ ⟨qf, qlo, qhi, qr, ql⟩ pp qp pn qn pc qc (grow (redrawn w8 d) os) HP.out.lenq HQ.out.lenq (HEp8.out.below (HEQ.out d os) (Nat.le_refl _)) (HEq8.out.below (HEQ.out d os) (Nat.le_refl _)) (by omega); rw [HT.out] at this; exact this)
  have tt : (t == t) = true := by simp
  have kk : (k == k) = true := by simp
  have mm : (km == km) = true := by simp
  clear HEa HEb HEc HEd HEx HEa8 HEb8 HEc8 HEd8 HEx8 HEp8 HEq8 HT HEQ HSP HMG HXp HXq HXa HXb HXc HXd HXx HXy Bw0 Bw2 Bw4 Bw6 HYp HYq
  go_wp2_with fail
  clear hw8
  refine wp_region_quiet_below (by kernel_rfl) (by kernel_rfl) ?_
  repeat (go_big_quiet_step (first | (go_at_call 11; exact cL _ _) | (go_at_call 21; exact cS _ _) | (go_at_call_of 27 (Value.agg #[.bool af, .string alo, .string ahi, .int .i64 ar, .slice ap an ac]); exact cA _ _) | (go_at_call_of 27 (Value.agg #[.bool bf, .string blo, .string bhi, .int .i64 br, .slice bp bn bc]); exact cB _ _) | (go_at_call_of 27 (Value.agg #[.bool xf, .string xlo, .string xhi, .int .i64 xr, .slice xp xn xc]); exact cX _ _) | (go_at_call_of 27 (Value.agg #[.bool pf, .string plo, .string phi, .int .i64 pr, .slice pp pn pc]); exact cR _ _)))
  refine wpQuiet_nil ?_
  intro _ hw'
  obtain ⟨⟨dq, osq⟩, hw''⟩ := hw'
  subst hw''
  have HF : Hid (Below w.heap.size w (grow (redrawn w8 dq) osq)) := BW.out.trans ((below_regrown w8 dq osq).mono BW.out.size)
  go_wp2
  go_ret
  exact ⟨rfl, HF.out⟩
  

theorem contract_pageSplits (H : Type) (enc : TypeId × Value → H) (W : World) (base : Nat) (args : Array Value) (ds gs : List (DataW H)) (before : List MemPlace)
    (hval0 : ∀ (j : Nat) t v, Try.f5.params[j]? = some t → args[j]? = some v → Value.okWide Try.prog W .any base t v)
    (hW : DataW.Whole enc Try.prog Try.f5.params.toList Rows.pageSplitsSpec.vars false W args.toList ds gs before) (hk : Rows.uptoSmall H (ds ++ gs) = true) :
    Calls Try.prog 5 args W fun e W' => ∃ v, e = .returned v ∧ Rows.pageSplitsSpec.post enc Try.prog Try.f5 false true false false W args v W' := by
  have hval : ∀ (j : Nat) t v, Try.f5.params[j]? = some t → args[j]? = some v → Value.okWide Try.prog W .any base t v := hval0
  have hW' := hW
  obtain ⟨p, q, hA0, hV, rfl, hfz, hnd⟩ := hW
  have hA : DataW.TrodAll enc Try.prog W 0 (fun _ => true) true Try.f5.params.toList args.toList ds p := hA0
  rw [Try.params5] at hA hval
  obtain ⟨v0, vs0, d0, ds0, p0, q0, hargs, rfl, rfl, h0, r0⟩ := trodAll_cons hA
  obtain ⟨v1, vs1, d1, ds1, p1, q1, rfl, rfl, rfl, h1, r1⟩ := trodAll_cons r0
  obtain ⟨v2, vs2, d2, ds2, p2, q2, rfl, rfl, rfl, h2, r2⟩ := trodAll_cons r1
  obtain ⟨rfl, rfl, rfl⟩ := trodAll_nil r2
  obtain rfl : args = #[v0, v1, v2] := by cases args; simp_all
  obtain ⟨rfl, rfl⟩ := trodVars_none hV
  simp only [List.append_nil] at hk
  have k0 := h0
  have lt0 : ∀ x ∈ p0, x.block < W.heap.size := by obtain ⟨m, hm⟩ := k0; exact DataW.trod_lt m _ _ _ hm
  obtain ⟨b0, lo0, hi0, r0', a0, len0, cap0, l0, e0, w0⟩ : ∃ leaf lo hi r a len cap l, v0 = .agg #[.bool leaf, .string lo, .string hi, .int .i64 r, .slice a len cap] ∧ InE 1048576 W a len cap l := by
    obtain ⟨cs, hcs, _⟩ := okWide_struct Try.underlying24 (hval 0 24 v0 rfl rfl)
    obtain ⟨fuel, hf⟩ := h0
    obtain ⟨b, lo, hi, r, a, len, cap, l, hg, ho⟩ := in_page (M := 1048576) hf (page_upto hk (by simp))
    refine ⟨b, lo, hi, r, a, len, cap, l, ?_, ho⟩
    rw [hcs] at hg ⊢
    congr 1
    apply Array.ext'
    simpa [Value.cells] using hg
  subst e0
  have k1 := h1
  have lt1 : ∀ x ∈ p1, x.block < W.heap.size := by obtain ⟨m, hm⟩ := k1; exact DataW.trod_lt m _ _ _ hm
  obtain ⟨b1, lo1, hi1, r1', a1, len1, cap1, l1, e1, w1⟩ : ∃ leaf lo hi r a len cap l, v1 = .agg #[.bool leaf, .string lo, .string hi, .int .i64 r, .slice a len cap] ∧ InE 1048576 W a len cap l := by
    obtain ⟨cs, hcs, _⟩ := okWide_struct Try.underlying24 (hval 1 24 v1 rfl rfl)
    obtain ⟨fuel, hf⟩ := h1
    obtain ⟨b, lo, hi, r, a, len, cap, l, hg, ho⟩ := in_page (M := 1048576) hf (page_upto hk (by simp))
    refine ⟨b, lo, hi, r, a, len, cap, l, ?_, ho⟩
    rw [hcs] at hg ⊢
    congr 1
    apply Array.ext'
    simpa [Value.cells] using hg
  subst e1
  obtain ⟨a2, rfl, rfl, rfl, w2⟩ := open_int Try.underlying3 (hval 2 3 v2 rfl rfl) h2
  clear hA0 hval0
  simp only [List.append_nil] at hW'
  refine (walk_pageSplits b0 lo0 hi0 r0' a0 len0 cap0 l0 b1 lo1 hi1 r1' a1 len1 cap1 l1 a2 W w0 w1 w2).mono fun e W' ⟨he, bel⟩ => ?_
  subst he
  exact ⟨_, rfl, _, _, _, [], _, [], hW', trodAll_mk1 (shut_bool Try.underlying4 _), (trodAll_cons_mk (Below.trod laidOut (by kernel_rfl) (of_decide_eq_true (by kernel_rfl)) k0 bel lt0) (trodAll_cons_mk (Below.trod laidOut (by kernel_rfl) (of_decide_eq_true (by kernel_rfl)) k1 bel lt1) (trodAll_cons_mk (shut_int Try.underlying3 w2) trodAll_mk0))), rfl, bel.frame _, fun h => by cases h⟩

set_option maxRecDepth 100000 in
set_option maxHeartbeats 2000000 in
theorem lifted_pageSplits (os : Os) (started : os.Started) (H : Type) (enc : TypeId × Value → H) (F : Stop.Interp) :
    ReturnsInHanded {} Try.checked os 5 .any ((Rows.OpenSpec.upto Rows.pageSplitsSpec).pre6 enc Try.prog Try.f5 Rows.pageSplitsUptoRow.domain false) (((Rows.OpenSpec.upto Rows.pageSplitsSpec).at F).post enc Try.prog Try.f5 false true false false) := by
  refine returnsInHanded_of_cond (C := Try.checked) (s := Rows.OpenSpec.upto Rows.pageSplitsSpec) (k := Rows.uptoSmall) rfl own started (by kernel_rfl) Try.func5
    (OpenSpec.witness (enc := enc) (C := Try.checked) (s := Rows.OpenSpec.upto Rows.pageSplitsSpec) (k := Rows.uptoSmall) rfl false ⟨#[], #[.agg #[.bool false, .string .empty, .string .empty, .int .i64 0, .slice none 0 0], .agg #[.bool false, .string .empty, .string .empty, .int .i64 0, .slice none 0 0], .int .i64 0], []⟩ 8 (by kernel_rfl) (by kernel_rfl) (by kernel_rfl)
      (x := ([.agg [.lit (.bool false), .lit (.string []), .lit (.string []), .lit (.int .i64 0), .nil], .agg [.lit (.bool false), .lit (.string []), .lit (.string []), .lit (.int .i64 0), .nil], .lit (.int .i64 0)], [], [])) (by kernel_rfl) rfl (by kernel_rfl)) ?_
  intro W base args ds gs before hval hW _ hk _
  exact contract_pageSplits H enc W base args ds gs before hval hW hk

/-- The statement. -/
theorem pageSplits_holds : Rows.PageSplitsUptoSaid :=
  OpenClaim.holds_of_cond 5 Try.f5 rfl rfl rfl rfl rfl rfl rfl ⟨rfl, rfl, rfl, rfl, rfl⟩ rfl rfl rfl rfl rfl (by kernel_rfl) Try.func5 (by kernel_rfl)
    (of_decide_eq_true (by kernel_rfl)) (by unfold Func.isWrapper; first | (rw [if_pos (by decide +kernel)]; kernel_rfl) | (rw [if_neg (by decide +kernel)]; exact ⟨rfl, rfl⟩))
    (fun os started H enc _ F => lifted_pageSplits os started H enc F)
#print axioms pageSplits_holds
end Go.Proofs.Ytakibndjmhadnaa
