/- PageChanges: any page with an entry, without a key: as the document has it. -/
import Derived.Test.YtakibndjmhadnaaPgPx
import Derived.Test.YtakibndjmhadnaaPgSm
import Derived.Test.YtakibndjmhadnaaPgLive
import Derived.Test.YtakibndjmhadnaaPgOpen
namespace Go.Proofs.Ytakibndjmhadnaa
open Go.ChangeShapes Go.WideShapes Go.ChangeAt Go.RowKit Go.Sort
open Go.ChangeMaps (open_string shut_string)
set_option linter.unusedVariables false
set_option maxRecDepth 100000

theorem Pg.put_len (g : Pp) (e : En) : (Pg.put g e).1.l.length ≤ g.l.length + 1 := by
  unfold Pg.put
  split
  · show (Pg.putL g.l e).length ≤ _
    unfold Pg.putL
    split
    · simp
    · unfold Pg.ins
      simp
      omega
  · exact Nat.zero_le _

theorem Pg.remove_len (g : Pp) (key : ByteArray) : (Pg.remove g key).1.l.length ≤ g.l.length := by
  unfold Pg.remove
  split
  · show (Pg.del _ _).length ≤ _
    unfold Pg.del
    simp
    omega
  · exact Nat.zero_le _

/-- A page's value that leads to entries, its parts by name. -/
theorem PgAt.parts {w : World} {base : Nat} {v : Value} {g : Pp} (h : PgAt w base v g) : ∃ f lo hi r p n c l, g = ⟨f, lo, hi, r, l⟩ ∧ v = pgv f lo hi r p n c ∧ l.length = n ∧ Ens w p l ∧ (p = none → n = 0) := by
  obtain ⟨p, c, hv, hs⟩ := h
  obtain ⟨f, lo, hi, r, l⟩ := g
  exact ⟨f, lo, hi, r, p, l.length, c, l, rfl, hv, rfl, hs.ens, fun e => hs.none e⟩

set_option maxHeartbeats 4000000 in
theorem walk_pageChanges (pf : Bool) (plo phi : ByteArray) (pr : Int) (pp : Option Addr) (pn pc : Nat) (pl : List En) (e : En) (key : ByteArray) (w : World) (hp : InE 3518437208780 w pp pn pc pl) (_hk : key.size ≤ 140737488351232) :
    Calls Try.prog 4 #[pgv pf plo phi pr pp pn pc, e.val, .string key] w fun x w' => x = .returned (.bool true) ∧ Below w.heap.size w w' := by
  have HP : Hid (InE 3518437208780 w pp pn pc pl) := hp
  have hpn : pn ≤ 3518437208780 := hp.room
  clear hp _hk
  obtain ⟨w0, hw0⟩ : ∃ w0, (w.alloc (.cells #[.bool pf, .string plo, .string phi, .int .i64 pr, .slice pp pn pc] 24)).alloc (.cells #[.string e.key, .int .i64 e.s, .int .i64 e.g, .int .i64 e.c] 28) = w0 := ⟨_, rfl⟩
  have BW : Hid (Below w.heap.size w w0) := by rw [← hw0]; exact ((Below.refl _ _).alloc (Nat.le_refl _) _).alloc (by simp) _
  have HXp : Hid (Bk w0 w.heap.size 24 #[.bool pf, .string plo, .string phi, .int .i64 pr, .slice pp pn pc]) := by rw [← hw0]; exact (Bk.new _ _ _).alloc _
  have HXe : Hid (Bk w0 (w.heap.size + 1) 28 #[.string e.key, .int .i64 e.s, .int .i64 e.g, .int .i64 e.c]) := by rw [← hw0]; exact Bk.new1 _ _ _ _
  have HYe : Hid (Bk w0 (w.heap.size + 1) 28 #[.string e.key, .int .i64 e.s, .int .i64 e.g, .int .i64 e.c]) := HXe.out
  have p0 : w0.cell? ⟨w.heap.size, 0, none⟩ = some (.bool pf) := HXp.out.cell 0
  have p1 : w0.cell? ⟨w.heap.size, 1, none⟩ = some (.string plo) := HXp.out.cell 1
  have p2 : w0.cell? ⟨w.heap.size, 2, none⟩ = some (.string phi) := HXp.out.cell 2
  have p3 : w0.cell? ⟨w.heap.size, 3, none⟩ = some (.int .i64 pr) := HXp.out.cell 3
  have p4 : w0.cell? ⟨w.heap.size, 4, none⟩ = some (.slice pp pn pc) := HXp.out.cell 4
  have e0 : w0.cell? ⟨w.heap.size + 1, 0, none⟩ = some (.string e.key) := HYe.out.cell 0
  have e1 : w0.cell? ⟨w.heap.size + 1, 1, none⟩ = some (.int .i64 e.s) := HYe.out.cell 1
  have e2 : w0.cell? ⟨w.heap.size + 1, 2, none⟩ = some (.int .i64 e.g) := HYe.out.cell 2
  have e3 : w0.cell? ⟨w.heap.size + 1, 3, none⟩ = some (.int .i64 e.c) := HYe.out.cell 3
  go_enter Try.func4, Try.ntmps4
  go_wp2_with fail
  refine (put_any pf plo phi pr pp pn pc pl e _ HP.out.lenq (HP.out.ens.below BW.out (Nat.le_refl _)) (by omega) HP.out.nil).mono ?_
  obtain ⟨⟨ga, ka⟩, hpt⟩ : ∃ o, Pg.put ⟨pf, plo, phi, pr, pl⟩ e = o := ⟨_, rfl⟩
  have hml := Pg.put_len ⟨pf, plo, phi, pr, pl⟩ e
  rw [hpt] at hml ⊢
  rintro x w1 ⟨v1, rfl, hga, hb⟩
  obtain ⟨af, alo, ahi, ar, ap, an, ac, al, rfl, rfl, han, hae, -⟩ := hga.parts
  have HPT : Hid (Pg.put ⟨pf, plo, phi, pr, pl⟩ e = (⟨af, alo, ahi, ar, al⟩, ka)) := hpt
  have hl1 : an ≤ 3518437208781 := by have h1 := HP.out.lenq; simp only at hml; omega
  obtain ⟨w2, hw2⟩ : ∃ w2, w1.alloc (.cells #[.bool af, .string alo, .string ahi, .int .i64 ar, .slice ap an ac] 24) = w2 := ⟨_, rfl⟩
  have hal : Below w1.heap.size w1 w2 := by rw [← hw2]; exact (Below.refl _ _).alloc (Nat.le_refl _) _
  have HXa : Hid (Bk w2 w1.heap.size 24 #[.bool af, .string alo, .string ahi, .int .i64 ar, .slice ap an ac]) := by rw [← hw2]; exact Bk.new _ _ _
  have hcn : Below w0.heap.size w0 w2 := hb.trans (hal.mono hb.size)
  have Bw0 : Hid (Below w0.heap.size w0 w2) := hcn
  have BW : Hid (Below w.heap.size w w2) := BW.out.trans (hcn.mono BW.out.size)
  have HEa : Hid (Ens w2 ap al) := hae.below hal (Nat.le_refl _)
  have HNa : Hid (al.length = an) := han
  have HYp : Hid (Bk w2 w.heap.size 24 #[.bool pf, .string plo, .string phi, .int .i64 pr, .slice pp pn pc]) := HXp.out.below Bw0.out HXp.out.lt
  have HYe : Hid (Bk w2 (w.heap.size + 1) 28 #[.string e.key, .int .i64 e.s, .int .i64 e.g, .int .i64 e.c]) := HXe.out.below Bw0.out HXe.out.lt
  clear hpt hml hga hb hal hcn hae han p0 p1 p2 p3 p4 e0 e1 e2 e3 hw0
  have p0 : w2.cell? ⟨w.heap.size, 0, none⟩ = some (.bool pf) := HYp.out.cell 0
  have p1 : w2.cell? ⟨w.heap.size, 1, none⟩ = some (.string plo) := HYp.out.cell 1
  have p2 : w2.cell? ⟨w.heap.size, 2, none⟩ = some (.string phi) := HYp.out.cell 2
  have p3 : w2.cell? ⟨w.heap.size, 3, none⟩ = some (.int .i64 pr) := HYp.out.cell 3
  have p4 : w2.cell? ⟨w.heap.size, 4, none⟩ = some (.slice pp pn pc) := HYp.out.cell 4
  have e0 : w2.cell? ⟨w.heap.size + 1, 0, none⟩ = some (.string e.key) := HYe.out.cell 0
  have e1 : w2.cell? ⟨w.heap.size + 1, 1, none⟩ = some (.int .i64 e.s) := HYe.out.cell 1
  have e2 : w2.cell? ⟨w.heap.size + 1, 2, none⟩ = some (.int .i64 e.g) := HYe.out.cell 2
  have e3 : w2.cell? ⟨w.heap.size + 1, 3, none⟩ = some (.int .i64 e.c) := HYe.out.cell 3
  go_wp2_with fail
  clear hw2
  refine (rput_any pf plo phi pr pp pn pc pl e _ HP.out.lenq (HP.out.ens.below BW.out (Nat.le_refl _)) (by omega) HP.out.nil HP.out.le).mono ?_
  rw [HPT.out]
  rintro x w3 ⟨v3, rfl, hgb, hb⟩
  obtain ⟨bf, blo, bhi, br, bp, bn, bc, bl, hbq, rfl, hbn, hbe, -⟩ := hgb.parts
  simp only [Pp.mk.injEq] at hbq
  obtain ⟨rfl, rfl, rfl, rfl, rfl⟩ := hbq
  obtain rfl : an = bn := by rw [← HNa.out, ← hbn]
  obtain ⟨w4, hw4⟩ : ∃ w4, w3.alloc (.cells #[.bool af, .string alo, .string ahi, .int .i64 ar, .slice bp an bc] 24) = w4 := ⟨_, rfl⟩
  have hal : Below w3.heap.size w3 w4 := by rw [← hw4]; exact (Below.refl _ _).alloc (Nat.le_refl _) _
  have HXb : Hid (Bk w4 w3.heap.size 24 #[.bool af, .string alo, .string ahi, .int .i64 ar, .slice bp an bc]) := by rw [← hw4]; exact Bk.new _ _ _
  have hcn : Below w2.heap.size w2 w4 := hb.trans (hal.mono hb.size)
  have Bw0 : Hid (Below w0.heap.size w0 w4) := Bw0.out.trans (hcn.mono Bw0.out.size)
  have Bw2 : Hid (Below w2.heap.size w2 w4) := hcn
  have BW : Hid (Below w.heap.size w w4) := BW.out.trans (hcn.mono BW.out.size)
  have HEb : Hid (Ens w4 bp al) := hbe.below hal (Nat.le_refl _)
  have HYp : Hid (Bk w4 w.heap.size 24 #[.bool pf, .string plo, .string phi, .int .i64 pr, .slice pp pn pc]) := HXp.out.below Bw0.out HXp.out.lt
  clear hgb hb hal hcn hbe hbn p0 p1 p2 p3 p4 e0 e1 e2 e3 HYe HPT
  have p0 : w4.cell? ⟨w.heap.size, 0, none⟩ = some (.bool pf) := HYp.out.cell 0
  have p1 : w4.cell? ⟨w.heap.size, 1, none⟩ = some (.string plo) := HYp.out.cell 1
  have p2 : w4.cell? ⟨w.heap.size, 2, none⟩ = some (.string phi) := HYp.out.cell 2
  have p3 : w4.cell? ⟨w.heap.size, 3, none⟩ = some (.int .i64 pr) := HYp.out.cell 3
  have p4 : w4.cell? ⟨w.heap.size, 4, none⟩ = some (.slice pp pn pc) := HYp.out.cell 4
  go_wp2_with fail
  clear hw4
  refine (remove_any pf plo phi pr pp pn pc pl key _ HP.out.lenq (HP.out.ens.below BW.out (Nat.le_refl _)) (by omega)).mono ?_
  obtain ⟨⟨gc, kc⟩, hrm⟩ : ∃ o, Pg.remove ⟨pf, plo, phi, pr, pl⟩ key = o := ⟨_, rfl⟩
  have hml := Pg.remove_len ⟨pf, plo, phi, pr, pl⟩ key
  rw [hrm] at hml ⊢
  rintro x w5 ⟨v5, rfl, hgc, hb⟩
  obtain ⟨cf, clo, chi, cr, cp, cn, cc, cl, rfl, rfl, hcn0, hce, -⟩ := hgc.parts
  have HRM : Hid (Pg.remove ⟨pf, plo, phi, pr, pl⟩ key = (⟨cf, clo, chi, cr, cl⟩, kc)) := hrm
  have hl2 : cn ≤ 3518437208781 := by have h1 := HP.out.lenq; simp only at hml; omega
  obtain ⟨w6, hw6⟩ : ∃ w6, w5.alloc (.cells #[.bool cf, .string clo, .string chi, .int .i64 cr, .slice cp cn cc] 24) = w6 := ⟨_, rfl⟩
  have hal : Below w5.heap.size w5 w6 := by rw [← hw6]; exact (Below.refl _ _).alloc (Nat.le_refl _) _
  have HXc : Hid (Bk w6 w5.heap.size 24 #[.bool cf, .string clo, .string chi, .int .i64 cr, .slice cp cn cc]) := by rw [← hw6]; exact Bk.new _ _ _
  have hcn : Below w4.heap.size w4 w6 := hb.trans (hal.mono hb.size)
  have Bw0 : Hid (Below w0.heap.size w0 w6) := Bw0.out.trans (hcn.mono Bw0.out.size)
  have Bw2 : Hid (Below w2.heap.size w2 w6) := Bw2.out.trans (hcn.mono Bw2.out.size)
  have Bw4 : Hid (Below w4.heap.size w4 w6) := hcn
  have BW : Hid (Below w.heap.size w w6) := BW.out.trans (hcn.mono BW.out.size)
  have HEc : Hid (Ens w6 cp cl) := hce.below hal (Nat.le_refl _)
  have HNc : Hid (cl.length = cn) := hcn0
  have HYp : Hid (Bk w6 w.heap.size 24 #[.bool pf, .string plo, .string phi, .int .i64 pr, .slice pp pn pc]) := HXp.out.below Bw0.out HXp.out.lt
  clear hrm hml hgc hb hal hcn hce hcn0 p0 p1 p2 p3 p4
  have p0 : w6.cell? ⟨w.heap.size, 0, none⟩ = some (.bool pf) := HYp.out.cell 0
  have p1 : w6.cell? ⟨w.heap.size, 1, none⟩ = some (.string plo) := HYp.out.cell 1
  have p2 : w6.cell? ⟨w.heap.size, 2, none⟩ = some (.string phi) := HYp.out.cell 2
  have p3 : w6.cell? ⟨w.heap.size, 3, none⟩ = some (.int .i64 pr) := HYp.out.cell 3
  have p4 : w6.cell? ⟨w.heap.size, 4, none⟩ = some (.slice pp pn pc) := HYp.out.cell 4
  go_wp2_with fail
  clear hw6
  refine (rremove_any pf plo phi pr pp pn pc pl key _ HP.out.lenq (HP.out.ens.below BW.out (Nat.le_refl _)) (by omega) HP.out.le).mono ?_
  rw [HRM.out]
  rintro x w7 ⟨v7, rfl, hgd, hb⟩
  obtain ⟨df, dlo, dhi, dr, dp, dn, dc, dl, hdq, rfl, hdn, hde, -⟩ := hgd.parts
  simp only [Pp.mk.injEq] at hdq
  obtain ⟨rfl, rfl, rfl, rfl, rfl⟩ := hdq
  obtain rfl : cn = dn := by rw [← HNc.out, ← hdn]
  obtain ⟨w8, hw8⟩ : ∃ w8, w7.alloc (.cells #[.bool cf, .string clo, .string chi, .int .i64 cr, .slice dp cn dc] 24) = w8 := ⟨_, rfl⟩
  have hal : Below w7.heap.size w7 w8 := by rw [← hw8]; exact (Below.refl _ _).alloc (Nat.le_refl _) _
  have HXd : Hid (Bk w8 w7.heap.size 24 #[.bool cf, .string clo, .string chi, .int .i64 cr, .slice dp cn dc]) := by rw [← hw8]; exact Bk.new _ _ _
  have hcn : Below w6.heap.size w6 w8 := hb.trans (hal.mono hb.size)
  have Bw0 : Hid (Below w0.heap.size w0 w8) := Bw0.out.trans (hcn.mono Bw0.out.size)
  have Bw2 : Hid (Below w2.heap.size w2 w8) := Bw2.out.trans (hcn.mono Bw2.out.size)
  have Bw4 : Hid (Below w4.heap.size w4 w8) := Bw4.out.trans (hcn.mono Bw4.out.size)
  have Bw6 : Hid (Below w6.heap.size w6 w8) := hcn
  have BW : Hid (Below w.heap.size w w8) := BW.out.trans (hcn.mono BW.out.size)
  have HEd : Hid (Ens w8 dp cl) := hde.below hal (Nat.le_refl _)
  clear hgd hb hal hcn hde hdn p0 p1 p2 p3 p4 HYp HRM
  go_wp2_with fail
  clear hw8
  refine (live_any _).mono ?_
  rintro x w9 ⟨rfl, hb⟩
  have HB9 : Hid (Below w8.heap.size w8 w9) := hb
  clear hb
  have hk : Bk w8 (w1.heap.size) 24 #[.bool af, .string alo, .string ahi, .int .i64 ar, .slice ap an ac] := HXa.out.below Bw2.out HXa.out.lt
  have hk9 := hk.below HB9.out hk.lt
  have a0 : w9.cell? ⟨w1.heap.size, 0, none⟩ = some (.bool af) := hk9.cell 0
  have a1 : w9.cell? ⟨w1.heap.size, 1, none⟩ = some (.string alo) := hk9.cell 1
  have a2 : w9.cell? ⟨w1.heap.size, 2, none⟩ = some (.string ahi) := hk9.cell 2
  have a3 : w9.cell? ⟨w1.heap.size, 3, none⟩ = some (.int .i64 ar) := hk9.cell 3
  have a4 : w9.cell? ⟨w1.heap.size, 4, none⟩ = some (.slice ap an ac) := hk9.cell 4
  clear hk hk9
  have hk : Bk w8 (w3.heap.size) 24 #[.bool af, .string alo, .string ahi, .int .i64 ar, .slice bp an bc] := HXb.out.below Bw4.out HXb.out.lt
  have hk9 := hk.below HB9.out hk.lt
  have b0 : w9.cell? ⟨w3.heap.size, 0, none⟩ = some (.bool af) := hk9.cell 0
  have b1 : w9.cell? ⟨w3.heap.size, 1, none⟩ = some (.string alo) := hk9.cell 1
  have b2 : w9.cell? ⟨w3.heap.size, 2, none⟩ = some (.string ahi) := hk9.cell 2
  have b3 : w9.cell? ⟨w3.heap.size, 3, none⟩ = some (.int .i64 ar) := hk9.cell 3
  have b4 : w9.cell? ⟨w3.heap.size, 4, none⟩ = some (.slice bp an bc) := hk9.cell 4
  clear hk hk9
  have hk : Bk w8 (w5.heap.size) 24 #[.bool cf, .string clo, .string chi, .int .i64 cr, .slice cp cn cc] := HXc.out.below Bw6.out HXc.out.lt
  have hk9 := hk.below HB9.out hk.lt
  have c0 : w9.cell? ⟨w5.heap.size, 0, none⟩ = some (.bool cf) := hk9.cell 0
  have c1 : w9.cell? ⟨w5.heap.size, 1, none⟩ = some (.string clo) := hk9.cell 1
  have c2 : w9.cell? ⟨w5.heap.size, 2, none⟩ = some (.string chi) := hk9.cell 2
  have c3 : w9.cell? ⟨w5.heap.size, 3, none⟩ = some (.int .i64 cr) := hk9.cell 3
  have c4 : w9.cell? ⟨w5.heap.size, 4, none⟩ = some (.slice cp cn cc) := hk9.cell 4
  clear hk hk9
  have hk : Bk w8 (w7.heap.size) 24 #[.bool cf, .string clo, .string chi, .int .i64 cr, .slice dp cn dc] := HXd.out
  have hk9 := hk.below HB9.out hk.lt
  have d0 : w9.cell? ⟨w7.heap.size, 0, none⟩ = some (.bool cf) := hk9.cell 0
  have d1 : w9.cell? ⟨w7.heap.size, 1, none⟩ = some (.string clo) := hk9.cell 1
  have d2 : w9.cell? ⟨w7.heap.size, 2, none⟩ = some (.string chi) := hk9.cell 2
  have d3 : w9.cell? ⟨w7.heap.size, 3, none⟩ = some (.int .i64 cr) := hk9.cell 3
  have d4 : w9.cell? ⟨w7.heap.size, 4, none⟩ = some (.slice dp cn dc) := hk9.cell 4
  clear hk hk9
  have HEa9 : Hid (Ens w9 ap al) := (HEa.out.below Bw2.out (Nat.le_refl _)).below HB9.out (Nat.le_refl _)
  have HEb9 : Hid (Ens w9 bp al) := (HEb.out.below Bw4.out (Nat.le_refl _)).below HB9.out (Nat.le_refl _)
  go_wp2_with fail
  refine (rsame_any ⟨af, alo, ahi, ar, al⟩ ⟨af, alo, ahi, ar, al⟩ ap bp an an ac bc _ HNa.out HNa.out HEa9.out HEb9.out (by omega)).mono ?_
  rw [Pg.same_self]
  rintro x w10 ⟨rfl, hb⟩
  have HB10 : Hid (Below w8.heap.size w8 w10) := HB9.out.trans (hb.mono HB9.out.size)
  clear hb a0 a1 a2 a3 a4 b0 b1 b2 b3 b4 c0 c1 c2 c3 c4 d0 d1 d2 d3 d4
  have hk : Bk w8 (w1.heap.size) 24 #[.bool af, .string alo, .string ahi, .int .i64 ar, .slice ap an ac] := HXa.out.below Bw2.out HXa.out.lt
  have hk9 := hk.below HB10.out hk.lt
  have a0 : w10.cell? ⟨w1.heap.size, 0, none⟩ = some (.bool af) := hk9.cell 0
  have a1 : w10.cell? ⟨w1.heap.size, 1, none⟩ = some (.string alo) := hk9.cell 1
  have a2 : w10.cell? ⟨w1.heap.size, 2, none⟩ = some (.string ahi) := hk9.cell 2
  have a3 : w10.cell? ⟨w1.heap.size, 3, none⟩ = some (.int .i64 ar) := hk9.cell 3
  have a4 : w10.cell? ⟨w1.heap.size, 4, none⟩ = some (.slice ap an ac) := hk9.cell 4
  clear hk hk9
  have hk : Bk w8 (w3.heap.size) 24 #[.bool af, .string alo, .string ahi, .int .i64 ar, .slice bp an bc] := HXb.out.below Bw4.out HXb.out.lt
  have hk9 := hk.below HB10.out hk.lt
  have b0 : w10.cell? ⟨w3.heap.size, 0, none⟩ = some (.bool af) := hk9.cell 0
  have b1 : w10.cell? ⟨w3.heap.size, 1, none⟩ = some (.string alo) := hk9.cell 1
  have b2 : w10.cell? ⟨w3.heap.size, 2, none⟩ = some (.string ahi) := hk9.cell 2
  have b3 : w10.cell? ⟨w3.heap.size, 3, none⟩ = some (.int .i64 ar) := hk9.cell 3
  have b4 : w10.cell? ⟨w3.heap.size, 4, none⟩ = some (.slice bp an bc) := hk9.cell 4
  clear hk hk9
  have hk : Bk w8 (w5.heap.size) 24 #[.bool cf, .string clo, .string chi, .int .i64 cr, .slice cp cn cc] := HXc.out.below Bw6.out HXc.out.lt
  have hk9 := hk.below HB10.out hk.lt
  have c0 : w10.cell? ⟨w5.heap.size, 0, none⟩ = some (.bool cf) := hk9.cell 0
  have c1 : w10.cell? ⟨w5.heap.size, 1, none⟩ = some (.string clo) := hk9.cell 1
  have c2 : w10.cell? ⟨w5.heap.size, 2, none⟩ = some (.string chi) := hk9.cell 2
  have c3 : w10.cell? ⟨w5.heap.size, 3, none⟩ = some (.int .i64 cr) := hk9.cell 3
  have c4 : w10.cell? ⟨w5.heap.size, 4, none⟩ = some (.slice cp cn cc) := hk9.cell 4
  clear hk hk9
  have hk : Bk w8 (w7.heap.size) 24 #[.bool cf, .string clo, .string chi, .int .i64 cr, .slice dp cn dc] := HXd.out
  have hk9 := hk.below HB10.out hk.lt
  have d0 : w10.cell? ⟨w7.heap.size, 0, none⟩ = some (.bool cf) := hk9.cell 0
  have d1 : w10.cell? ⟨w7.heap.size, 1, none⟩ = some (.string clo) := hk9.cell 1
  have d2 : w10.cell? ⟨w7.heap.size, 2, none⟩ = some (.string chi) := hk9.cell 2
  have d3 : w10.cell? ⟨w7.heap.size, 3, none⟩ = some (.int .i64 cr) := hk9.cell 3
  have d4 : w10.cell? ⟨w7.heap.size, 4, none⟩ = some (.slice dp cn dc) := hk9.cell 4
  clear hk hk9
  have HEc9 : Hid (Ens w10 cp cl) := (HEc.out.below Bw6.out (Nat.le_refl _)).below HB10.out (Nat.le_refl _)
  have HEd9 : Hid (Ens w10 dp cl) := HEd.out.below HB10.out (Nat.le_refl _)
  go_wp2_with fail
  refine (rsame_any ⟨cf, clo, chi, cr, cl⟩ ⟨cf, clo, chi, cr, cl⟩ cp dp cn cn cc dc _ HNc.out HNc.out HEc9.out HEd9.out (by omega)).mono ?_
  rw [Pg.same_self]
  rintro x w11 ⟨rfl, hb⟩
  have HF : Hid (Below w.heap.size w w11) := BW.out.trans ((HB10.out.trans (hb.mono HB10.out.size)).mono BW.out.size)
  clear hb a0 a1 a2 a3 a4 b0 b1 b2 b3 b4 c0 c1 c2 c3 c4 d0 d1 d2 d3 d4
  go_wp2
  go_ret
  exact ⟨rfl, HF.out⟩
  

set_option maxRecDepth 100000 in
set_option maxHeartbeats 2000000 in
theorem lifted_pageChanges (os : Os) (started : os.Started) (H : Type) (enc : TypeId × Value → H) :
    ReturnsInHanded {} Try.checked os 4 .any (Rows.pageChangesSpec.pre6 enc Try.prog Try.f4 Rows.pageChangesRow.domain false) (Rows.pageChangesSpec.post enc Try.prog Try.f4 false true false false) := by
  refine returnsInHanded_of_change_sized (C := Try.checked) own started (by kernel_rfl) Try.func4
    (ChangeSpec.witness6 (enc := enc) (C := Try.checked) false ⟨#[], #[.agg #[.bool false, .string .empty, .string .empty, .int .i64 0, .slice none 0 0], .agg #[.string .empty, .int .i64 0, .int .i64 0, .int .i64 0], .string .empty], []⟩ 8 (by kernel_rfl) (by kernel_rfl) (by kernel_rfl) (by kernel_rfl)) ?_
  intro W base args ds gs before hval0 hW _ hsz0 _
  have hsz : (DataW.weightsEach Try.prog (Try.f4.params.toList ++ Rows.pageChangesSpec.plain.varTypes Try.prog) (ds ++ gs)).all (· ≤ reachBytes) = true := hsz0
  clear hsz0
  have hval : ∀ (j : Nat) t v, Try.f4.params[j]? = some t → args[j]? = some v → Value.okWide Try.prog W .any base t v := hval0
  have hW' := hW
  obtain ⟨p, q, hA0, hV, rfl, hfz, hnd⟩ := hW
  have hA : DataW.TrodAll enc Try.prog W 0 (fun _ => true) true Try.f4.params.toList args.toList ds p := hA0
  rw [Try.params4] at hA hval hsz
  obtain ⟨v0, vs0, d0, ds0, p0, q0, hargs, rfl, rfl, h0, r0⟩ := trodAll_cons hA
  obtain ⟨v1, vs1, d1, ds1, p1, q1, rfl, rfl, rfl, h1, r1⟩ := trodAll_cons r0
  obtain ⟨v2, vs2, d2, ds2, p2, q2, rfl, rfl, rfl, h2, r2⟩ := trodAll_cons r1
  obtain ⟨rfl, rfl, rfl⟩ := trodAll_nil r2
  obtain rfl : args = #[v0, v1, v2] := by cases args; simp_all
  obtain ⟨rfl, rfl⟩ := trodVars_none hV
  have k0 := h0
  have lt0 : ∀ x ∈ p0, x.block < W.heap.size := by obtain ⟨m, hm⟩ := k0; exact DataW.trod_lt m _ _ _ hm
  obtain ⟨b0, lo0, hi0, r0', a0, len0, cap0, l0, e0, w0⟩ : ∃ leaf lo hi r a len cap l, v0 = .agg #[.bool leaf, .string lo, .string hi, .int .i64 r, .slice a len cap] ∧ InE 3518437208780 W a len cap l := by
    obtain ⟨cs, hcs, _⟩ := okWide_struct Try.underlying24 (hval 0 24 v0 rfl rfl)
    obtain ⟨fuel, hf⟩ := h0
    obtain ⟨b, lo, hi, r, a, len, cap, l, hg, ho⟩ := in_page (M := 3518437208780) hf (page_said (x := (d0, p0)) (Nat.le_refl _) (fun n hn => by
      have := of_decide_eq_true (List.all_eq_true.1 hsz _ (DataW.weights_mem_each (j := 0) (t := 24) rfl rfl n hn))
      simp only [reachBytes] at this
      omega))
    refine ⟨b, lo, hi, r, a, len, cap, l, ?_, ho⟩
    rw [hcs] at hg ⊢
    congr 1
    apply Array.ext'
    simpa [Value.cells] using hg
  subst e0
  have k1 := h1
  have lt1 : ∀ x ∈ p1, x.block < W.heap.size := by obtain ⟨m, hm⟩ := k1; exact DataW.trod_lt m _ _ _ hm
  obtain ⟨g1, e1⟩ : ∃ g : En, v1 = g.val := by
    obtain ⟨cs, hcs, _⟩ := okWide_struct Try.underlying28 (hval 1 28 v1 rfl rfl)
    obtain ⟨fuel, hf⟩ := h1
    obtain ⟨g, hg, _⟩ := in_en hf
    refine ⟨g, ?_⟩
    rw [hcs] at hg ⊢
    congr 1
    apply Array.ext'
    simpa [Value.cells, En.cells] using hg
  subst e1
  obtain ⟨a2, rfl, rfl, rfl, w2⟩ := open_string Try.underlying9 (hval 2 9 v2 rfl rfl) h2
  have s2 : a2.size ≤ 140737488351232 := by
    have := sized_string hsz (j := 2) (t := 9) rfl rfl
    have e : a2.data.toList.length = a2.size := by rw [Array.length_toList]; rfl
    simp only [reachBytes] at this
    omega
  clear hA0 hval0
  refine (walk_pageChanges b0 lo0 hi0 r0' a0 len0 cap0 l0 g1 a2 W w0 s2).mono fun e W' ⟨he, bel⟩ => ?_
  subst he
  exact ⟨_, rfl, _, _, _, [], _, [], hW', trodAll_mk1 (shut_bool Try.underlying4 _), (trodAll_cons_mk (Below.trod laidOut (by kernel_rfl) (of_decide_eq_true (by kernel_rfl)) k0 bel lt0) (trodAll_cons_mk (Below.trod laidOut (by kernel_rfl) (of_decide_eq_true (by kernel_rfl)) k1 bel lt1) (trodAll_cons_mk (shut_string Try.underlying9 w2) trodAll_mk0))), rfl, bel.frame _, fun h => by cases h⟩

/-- The statement. -/
theorem pageChanges_holds : Rows.PageChangesSaid :=
  OpenClaim.holds_of_wide 4 Try.f4 rfl rfl rfl rfl rfl rfl rfl ⟨rfl, rfl, rfl, rfl, rfl⟩ rfl rfl rfl rfl rfl (by kernel_rfl) Try.func4 (by kernel_rfl)
    (of_decide_eq_true (by kernel_rfl)) (by unfold Func.isWrapper; first | (rw [if_pos (by decide +kernel)]; kernel_rfl) | (rw [if_neg (by decide +kernel)]; exact ⟨rfl, rfl⟩))
    (fun os started H enc _ => lifted_pageChanges os started H enc)
#print axioms pageChanges_holds
end Go.Proofs.Ytakibndjmhadnaa
