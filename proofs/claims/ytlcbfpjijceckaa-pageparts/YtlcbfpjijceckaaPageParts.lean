/- PageParts: each key of a page belongs to just one of its halves, and is found there as it was. -/
import Derived.Test.YtlcbfpjijceckaaPgPt
import Derived.Test.YtlcbfpjijceckaaPgLive
import Derived.Test.YtlcbfpjijceckaaPgOpen
namespace Go.Proofs.Ytlcbfpjijceckaa
open Go.ChangeShapes Go.WideShapes Go.ChangeAt Go.RowKit Go.Sort
open Go.ChangeMaps (open_string shut_string)
set_option linter.unusedVariables false
set_option maxRecDepth 100000

theorem PgAt.parts {w : World} {base : Nat} {v : Value} {g : Pp} (h : PgAt w base v g) : ∃ f lo hi r p n c l, g = ⟨f, lo, hi, r, l⟩ ∧ v = pgv f lo hi r p n c ∧ l.length = n ∧ Ens w p l ∧ (p = none → n = 0) := by
  obtain ⟨p, c, hv, hs⟩ := h
  obtain ⟨f, lo, hi, r, l⟩ := g
  exact ⟨f, lo, hi, r, p, l.length, c, l, rfl, hv, rfl, hs.ens, fun e => hs.none e⟩

/-- The halves, where there are any. -/
theorem Pg.split_ok {g : Pp} {id : Int} (h : (Pg.split g id).2.2 = 0) : ∃ i m x y, i + 1 < g.l.length ∧ g.l[i]? = some x ∧ g.l[i + 1]? = some y ∧ Pg.part g.leaf x.key y.key = some m ∧ Pg.split g id = (⟨g.leaf, g.lo, m, id, g.l.take (i + 1)⟩, ⟨g.leaf, m, g.hi, g.r, g.l.drop (i + 1)⟩, 0) := by
  unfold Pg.split at h ⊢
  by_cases h1 : id < 1
  · rw [if_pos h1] at h; cases h
  · rw [if_neg h1] at h ⊢
    by_cases h2 : g.l.length < 2
    · rw [if_pos h2] at h; cases h
    · rw [if_neg h2] at h ⊢
      obtain ⟨i, hi⟩ : ∃ i, g.l.length / 2 = i + 1 := ⟨g.l.length / 2 - 1, by omega⟩
      have hx := List.getElem?_eq_getElem (l := g.l) (i := i) (by omega)
      have hy := List.getElem?_eq_getElem (l := g.l) (i := i + 1) (by omega)
      rw [hi, show i + 1 - 1 = i by omega, Pg.keyAt_some hx, Pg.keyAt_some hy] at h ⊢
      cases hp : Pg.part g.leaf (g.l[i]).key (g.l[i + 1]).key with
      | none => rw [hp] at h; cases h
      | some m => exact ⟨i, m, _, _, by omega, hx, hy, hp, rfl⟩

set_option maxHeartbeats 4000000 in
theorem walk_pageParts (pf : Bool) (plo phi : ByteArray) (pr : Int) (pp : Option Addr) (pn pc : Nat) (pl : List En) (key : ByteArray) (w : World) (hp : InE 3518437208780 w pp pn pc pl) (hkey : key.size ≤ 140737488351232) :
    Calls Try.prog 8 #[pgv pf plo phi pr pp pn pc, .string key] w fun e w' => e = .returned (.bool true) ∧ Below w.heap.size w w' := by
  have HP : Hid (InE 3518437208780 w pp pn pc pl) := hp
  have hpn : pn ≤ 3518437208780 := hp.room
  clear hp hkey
  obtain ⟨w0, hw0⟩ : ∃ w0, w.alloc (.cells #[.bool pf, .string plo, .string phi, .int .i64 pr, .slice pp pn pc] 24) = w0 := ⟨_, rfl⟩
  have BW : Hid (Below w.heap.size w w0) := by rw [← hw0]; exact (Below.refl _ _).alloc (Nat.le_refl _) _
  have HXp : Hid (Bk w0 w.heap.size 24 #[.bool pf, .string plo, .string phi, .int .i64 pr, .slice pp pn pc]) := by rw [← hw0]; exact Bk.new _ _ _
  have p0 : w0.cell? ⟨w.heap.size, 0, none⟩ = some (.bool pf) := HXp.out.cell 0
  have p1 : w0.cell? ⟨w.heap.size, 1, none⟩ = some (.string plo) := HXp.out.cell 1
  have p2 : w0.cell? ⟨w.heap.size, 2, none⟩ = some (.string phi) := HXp.out.cell 2
  have p3 : w0.cell? ⟨w.heap.size, 3, none⟩ = some (.int .i64 pr) := HXp.out.cell 3
  have p4 : w0.cell? ⟨w.heap.size, 4, none⟩ = some (.slice pp pn pc) := HXp.out.cell 4
  go_enter Try.func8, Try.ntmps8
  go_wp2_with fail
  refine (split_any pf plo phi pr pp pn pc pl 7 _ HP.out.lenq (HP.out.ens.below BW.out (Nat.le_refl _)) (by omega) HP.out.keys).mono ?_
  obtain ⟨⟨ga, gb, k⟩, hsp⟩ : ∃ o, Pg.split ⟨pf, plo, phi, pr, pl⟩ 7 = o := ⟨_, rfl⟩
  rw [hsp]
  rintro e w1 ⟨v1, v2, rfl, hga, hgb, hb⟩
  obtain ⟨af, alo, ahi, ar, ap, an, ac, al, rfl, rfl, han, hae, -⟩ := hga.parts
  obtain ⟨bf, blo, bhi, br, bp, bn, bc, bl, rfl, rfl, hbn, hbe, -⟩ := hgb.parts
  have HSP : Hid (Pg.split ⟨pf, plo, phi, pr, pl⟩ 7 = (⟨af, alo, ahi, ar, al⟩, ⟨bf, blo, bhi, br, bl⟩, k)) := hsp
  obtain ⟨w2, hw2⟩ : ∃ w2, (w1.alloc (.cells #[.bool af, .string alo, .string ahi, .int .i64 ar, .slice ap an ac] 24)).alloc (.cells #[.bool bf, .string blo, .string bhi, .int .i64 br, .slice bp bn bc] 24) = w2 := ⟨_, rfl⟩
  have hal : Below w1.heap.size w1 w2 := by rw [← hw2]; exact ((Below.refl _ _).alloc (Nat.le_refl _) _).alloc (by simp) _
  have hcn : Below w0.heap.size w0 w2 := hb.trans (hal.mono hb.size)
  have HCO : Hid (∀ W, Below w2.heap.size w2 W → (Bk W w.heap.size 24 #[.bool pf, .string plo, .string phi, .int .i64 pr, .slice pp pn pc] ∧ Bk W w1.heap.size 24 #[.bool af, .string alo, .string ahi, .int .i64 ar, .slice ap an ac] ∧ Bk W (w1.heap.size + 1) 24 #[.bool bf, .string blo, .string bhi, .int .i64 br, .slice bp bn bc]) ∧ (Ens W pp pl ∧ Ens W ap al ∧ Ens W bp bl) ∧ Below w.heap.size w W) := by
    intro W hW
    have k1 : Bk w2 w1.heap.size 24 #[.bool af, .string alo, .string ahi, .int .i64 ar, .slice ap an ac] := by rw [← hw2]; exact (Bk.new _ _ _).alloc _
    have k2 : Bk w2 (w1.heap.size + 1) 24 #[.bool bf, .string blo, .string bhi, .int .i64 br, .slice bp bn bc] := by rw [← hw2]; exact Bk.new1 _ _ _ _
    have k0 := HXp.out.below hcn HXp.out.lt
    have kw := BW.out.trans (hcn.mono BW.out.size)
    exact ⟨⟨k0.below hW k0.lt, k1.below hW k1.lt, k2.below hW k2.lt⟩, ⟨(HP.out.ens.below kw (Nat.le_refl _)).below hW (Nat.le_refl _), (hae.below hal (Nat.le_refl _)).below hW (Nat.le_refl _), (hbe.below hal (Nat.le_refl _)).below hW (Nat.le_refl _)⟩, kw.trans (hW.mono kw.size)⟩
  have HNa : Hid (al.length = an) := han
  have HNb : Hid (bl.length = bn) := hbn
  obtain ⟨⟨hxp, -, -⟩, ⟨hep, -, -⟩, hbw⟩ := HCO.out w2 (Below.refl _ _)
  have HEp : Hid (Ens w2 pp pl) := hep
  have HBW : Hid (Below w.heap.size w w2) := hbw
  clear p0 p1 p2 p3 p4
  have p0 : w2.cell? ⟨w.heap.size, 0, none⟩ = some (.bool pf) := hxp.cell 0
  have p1 : w2.cell? ⟨w.heap.size, 1, none⟩ = some (.string plo) := hxp.cell 1
  have p2 : w2.cell? ⟨w.heap.size, 2, none⟩ = some (.string phi) := hxp.cell 2
  have p3 : w2.cell? ⟨w.heap.size, 3, none⟩ = some (.int .i64 pr) := hxp.cell 3
  have p4 : w2.cell? ⟨w.heap.size, 4, none⟩ = some (.slice pp pn pc) := hxp.cell 4
  clear hsp hga hgb hb hal hcn hae hbe han hbn hxp hep hbw HXp BW hw0
  go_wp2_with fail
  clear hw2
  refine (rcheck_any pf plo phi pr pp pn pc pl _ HP.out.lenq HEp.out (by omega)).mono ?_
  cases hmay : Pg.may pf ⟨plo, phi⟩ pr pl with
  | false =>
    simp only [Bool.false_eq_true, if_false]
    rintro e w3 ⟨rfl, hb3⟩
    have HB3 : Hid (Below w.heap.size w w3) := HBW.out.trans (hb3.mono HBW.out.size)
    clear hb3 p0 p1 p2 p3 p4
    go_wp2_with fail
    refine (live_any _).mono ?_
    rintro e w4 ⟨rfl, hb4⟩
    have HB4 : Hid (Below w.heap.size w w4) := HB3.out.trans (hb4.mono HB3.out.size)
    clear hb4
    go_wp2
    go_ret
    exact ⟨rfl, HB4.out⟩
  | true =>
    simp only [if_true]
    rintro e w3 ⟨rfl, hb3⟩
    have HB3 : Hid (Below w.heap.size w w3) := HBW.out.trans (hb3.mono HBW.out.size)
    have HC3 : Hid (Below w2.heap.size w2 w3) := hb3
    clear hb3 p0 p1 p2 p3 p4
    by_cases hk : k = 0
    · subst hk
      obtain ⟨i, m, x, y, hil, hgx, hgy, hpt, hse⟩ := Pg.split_ok (g := ⟨pf, plo, phi, pr, pl⟩) (id := 7) (by rw [HSP.out])
      rw [HSP.out] at hse
      simp only [Prod.mk.injEq, Pp.mk.injEq, and_true] at hse
      obtain ⟨⟨u1, u2, u3, u4, u5⟩, ⟨u6, u7, u8, u9, u0⟩⟩ := hse
      obtain rfl := u1.symm
      obtain rfl := u2.symm
      obtain rfl := u3.symm
      obtain rfl := u4.symm
      obtain rfl := u5.symm
      obtain rfl := u6.symm
      obtain rfl := u7.symm
      obtain rfl := u8.symm
      obtain rfl := u9.symm
      obtain rfl := u0.symm
      simp only at hil hgx hgy hpt
      obtain ⟨-, hfit, -, -⟩ := Pg.may_parts hmay
      have hris := Pg.fits_ris hfit
      obtain ⟨hm1, hm2, hm3⟩ := Pg.part_facts hpt (hris i x y hgx hgy)
      have hin := Pg.parts_in (k := key) (Pg.fits_in hfit hgx) (Pg.fits_in hfit hgy) hm1 hm2 hm3
      have HIA : Hid (Ky.inn ⟨plo, m⟩ key = (Ky.inn ⟨plo, phi⟩ key && Ky.lt key m)) := hin.1
      have HIB : Hid (Ky.inn ⟨m, phi⟩ key = (Ky.inn ⟨plo, phi⟩ key && !Ky.lt key m)) := hin.2
      have HFL : Hid (Ky.lt key m = true → Pg.find pf pl key = Pg.find pf (pl.take (i + 1)) key) := fun hh => Pg.find_left hil (fun j b hj hb => by
        by_cases hji : j = i + 1
        · subst hji; rw [hgy] at hb; cases hb; exact hm2
        · exact Ky.le_trans hm2 (hris.ord.le (j - (i + 1)) (i + 1) y b hgy (by rw [show i + 1 + (j - (i + 1)) = j by omega]; exact hb))) hh
      have HFR : Hid (Ky.lt key m = false → Pg.find pf pl key = Pg.find pf (pl.drop (i + 1)) key) := fun hh => Pg.find_right hil (fun j b hj hb => by
        by_cases hji : j = i
        · subst hji; rw [hgx] at hb; cases hb; exact hm1
        · exact Ky.lt_of_le (hris.ord.le (i - j) j b x hb (by rw [show j + (i - j) = i by omega]; exact hgx)) hm1) hh (fun hlf b hb => by
        rw [hgy] at hb; cases hb
        rw [hlf] at hpt; simp [Pg.part] at hpt; rw [hpt]; exact hh)
      have HOP : Hid (Pg.Ord pl) := hris.ord
      have HOA : Hid (Pg.Ord (pl.take (i + 1))) := fun j a b ha hb => by
        have h2 : j + 1 < i + 1 := by have := (List.getElem?_eq_some_iff.1 hb).1; rw [List.length_take] at this; omega
        rw [List.getElem?_take_of_lt (by omega)] at ha hb
        exact hris.ord j a b ha hb
      have HOB : Hid (Pg.Ord (pl.drop (i + 1))) := fun j a b ha hb => by
        rw [List.getElem?_drop] at ha hb
        exact hris.ord (i + 1 + j) a b ha hb
      have hbA : an ≤ 3518437208780 := by have h1 := HNa.out; have h2 := HP.out.lenq; rw [List.length_take] at h1; omega
      have hbB : bn ≤ 3518437208780 := by have h1 := HNb.out; have h2 := HP.out.lenq; rw [List.length_drop] at h1; omega
      clear hil hgx hgy hpt hfit hris hm1 hm2 hm3 hin hmay HSP
      go_wp2_with fail
      refine (live_any _).mono ?_
      rintro e w4 ⟨rfl, hb⟩
      have HC4 : Hid (Below w2.heap.size w2 w4) := HC3.out.trans (hb.mono HC3.out.size)
      obtain ⟨⟨hxp, hxa, hxb⟩, ⟨hep, hea, heb⟩, hbw⟩ := HCO.out w4 HC4.out
      have p0 : w4.cell? ⟨w.heap.size, 0, none⟩ = some (.bool pf) := hxp.cell 0
      have p1 : w4.cell? ⟨w.heap.size, 1, none⟩ = some (.string plo) := hxp.cell 1
      have p2 : w4.cell? ⟨w.heap.size, 2, none⟩ = some (.string phi) := hxp.cell 2
      have p3 : w4.cell? ⟨w.heap.size, 3, none⟩ = some (.int .i64 pr) := hxp.cell 3
      have p4 : w4.cell? ⟨w.heap.size, 4, none⟩ = some (.slice pp pn pc) := hxp.cell 4
      clear hb hxp hxa hxb hep hea heb hbw
      go_wp2_with fail
      refine (has_any pf plo phi pr pp pn pc _ key).mono ?_
      rintro e w5 ⟨rfl, hb⟩
      have HC5 : Hid (Below w2.heap.size w2 w5) := HC4.out.trans (hb.mono HC4.out.size)
      obtain ⟨⟨hxp, hxa, hxb⟩, ⟨hep, hea, heb⟩, hbw⟩ := HCO.out w5 HC5.out
      clear p0 p1 p2 p3 p4
      have a0 : w5.cell? ⟨w1.heap.size, 0, none⟩ = some (.bool pf) := hxa.cell 0
      have a1 : w5.cell? ⟨w1.heap.size, 1, none⟩ = some (.string plo) := hxa.cell 1
      have a2 : w5.cell? ⟨w1.heap.size, 2, none⟩ = some (.string m) := hxa.cell 2
      have a3 : w5.cell? ⟨w1.heap.size, 3, none⟩ = some (.int .i64 7) := hxa.cell 3
      have a4 : w5.cell? ⟨w1.heap.size, 4, none⟩ = some (.slice ap an ac) := hxa.cell 4
      have HBW5 : Hid (Below w.heap.size w w5) := hbw
      clear hb hxp hxb hep hea heb hbw hxa
      cases hip : Ky.inn ⟨plo, phi⟩ key with
      | false =>
        rw [hip] at HIA HIB
        rw [Bool.false_and] at HIA HIB
        go_wp2_with fail
        refine (has_any pf plo m 7 ap an ac _ key).mono ?_
        rw [HIA.out]
        rintro e w6 ⟨rfl, hb⟩
        have HC6 : Hid (Below w2.heap.size w2 w6) := HC5.out.trans (hb.mono HC5.out.size)
        obtain ⟨⟨hxp, hxa, hxb⟩, ⟨hep, hea, heb⟩, hbw⟩ := HCO.out w6 HC6.out
        clear a0 a1 a2 a3 a4
        have b0 : w6.cell? ⟨w1.heap.size + 1, 0, none⟩ = some (.bool pf) := hxb.cell 0
        have b1 : w6.cell? ⟨w1.heap.size + 1, 1, none⟩ = some (.string m) := hxb.cell 1
        have b2 : w6.cell? ⟨w1.heap.size + 1, 2, none⟩ = some (.string phi) := hxb.cell 2
        have b3 : w6.cell? ⟨w1.heap.size + 1, 3, none⟩ = some (.int .i64 pr) := hxb.cell 3
        have b4 : w6.cell? ⟨w1.heap.size + 1, 4, none⟩ = some (.slice bp bn bc) := hxb.cell 4
        clear hb hxp hxb hep hea heb hbw hxa
        go_wp2_with fail
        refine (has_any pf m phi pr bp bn bc _ key).mono ?_
        rw [HIB.out]
        rintro e w7 ⟨rfl, hb⟩
        have HC7 : Hid (Below w2.heap.size w2 w7) := HC6.out.trans (hb.mono HC6.out.size)
        obtain ⟨⟨hxp, hxa, hxb⟩, ⟨hep, hea, heb⟩, hbw⟩ := HCO.out w7 HC7.out
        have HF : Hid (Below w.heap.size w w7) := hbw
        clear hb hxp hxb hep hea heb hbw hxa
        go_wp2
        go_ret
        exact ⟨rfl, HF.out⟩
      | true =>
        rw [hip] at HIA HIB
        rw [Bool.true_and] at HIA HIB
        obtain ⟨⟨hxp, hxa, hxb⟩, ⟨hep, hea, heb⟩, hbw⟩ := HCO.out w5 HC5.out
        have ra0 := cell_regrown (show w5.cell? ⟨w1.heap.size, 0, none⟩ = some (.bool pf) from hxa.cell 0)
        have ra1 := cell_regrown (show w5.cell? ⟨w1.heap.size, 1, none⟩ = some (.string plo) from hxa.cell 1)
        have ra2 := cell_regrown (show w5.cell? ⟨w1.heap.size, 2, none⟩ = some (.string m) from hxa.cell 2)
        have ra3 := cell_regrown (show w5.cell? ⟨w1.heap.size, 3, none⟩ = some (.int .i64 7) from hxa.cell 3)
        have ra4 := cell_regrown (show w5.cell? ⟨w1.heap.size, 4, none⟩ = some (.slice ap an ac) from hxa.cell 4)
        have rb0 := cell_regrown (show w5.cell? ⟨w1.heap.size + 1, 0, none⟩ = some (.bool pf) from hxb.cell 0)
        have rb1 := cell_regrown (show w5.cell? ⟨w1.heap.size + 1, 1, none⟩ = some (.string m) from hxb.cell 1)
        have rb2 := cell_regrown (show w5.cell? ⟨w1.heap.size + 1, 2, none⟩ = some (.string phi) from hxb.cell 2)
        have rb3 := cell_regrown (show w5.cell? ⟨w1.heap.size + 1, 3, none⟩ = some (.int .i64 pr) from hxb.cell 3)
        have rb4 := cell_regrown (show w5.cell? ⟨w1.heap.size + 1, 4, none⟩ = some (.slice bp bn bc) from hxb.cell 4)
        have hA := fun d os => has_any pf plo m 7 ap an ac (grow (redrawn w5 d) os) key
        have hB := fun d os => has_any pf m phi pr bp bn bc (grow (redrawn w5 d) os) key
        have HRG : Hid (∀ d os, Below w5.heap.size w5 (grow (redrawn w5 d) os)) := below_regrown w5
        clear hxp hxa hxb hep hea heb hbw a0 a1 a2 a3 a4
        cases hlt : Ky.lt key m with
        | true =>
          rw [hlt] at HIA HIB
          rw [Bool.not_true] at HIB
          have cA : ∀ d os, Calls Try.prog 14 #[.agg #[.bool pf, .string plo, .string m, .int .i64 7, .slice ap an ac], .string key] (grow (redrawn w5 d) os) fun e w'' => e = .returned (.bool true) ∧ ∃ p : Regrown, w'' = grow (redrawn w5 p.d) p.os := fun d os => Calls.regrown_of (by have := hA d os; rw [HIA.out] at this; exact this)
          have cB : ∀ d os, Calls Try.prog 14 #[.agg #[.bool pf, .string m, .string phi, .int .i64 pr, .slice bp bn bc], .string key] (grow (redrawn w5 d) os) fun e w'' => e = .returned (.bool false) ∧ ∃ p : Regrown, w'' = grow (redrawn w5 p.d) p.os := fun d os => Calls.regrown_of (by have := hB d os; rw [HIB.out] at this; exact this)
          clear hA hB
          go_wp2_with fail
          refine wp_region_quiet_below (by kernel_rfl) (by kernel_rfl) ?_
          repeat (go_big_quiet_step (first | (go_at_call_of 14 (Value.agg #[.bool pf, .string plo, .string m, .int .i64 7, .slice ap an ac]); exact cA _ _) | (go_at_call_of 14 (Value.agg #[.bool pf, .string m, .string phi, .int .i64 pr, .slice bp bn bc]); exact cB _ _)))
          refine wpQuiet_nil ?_
          intro _ hw'
          obtain ⟨⟨dq, osq⟩, hw''⟩ := hw'
          subst hw''
          obtain ⟨w6, hw6⟩ : ∃ w6, w6 = grow (redrawn w5 dq) osq := ⟨_, rfl⟩
          rw [← hw6]
          have hb : Below w5.heap.size w5 w6 := by rw [hw6]; exact HRG.out dq osq
          have HC6 : Hid (Below w2.heap.size w2 w6) := HC5.out.trans (hb.mono HC5.out.size)
          obtain ⟨⟨hxp, hxa, hxb⟩, ⟨hep, hea, heb⟩, hbw⟩ := HCO.out w6 HC6.out
          clear cA cB ra0 ra1 ra2 ra3 ra4 rb0 rb1 rb2 rb3 rb4 hw6
          obtain ⟨w7, hw7⟩ : ∃ w7, w6.alloc (.cells #[.bool pf, .string plo, .string m, .int .i64 7, .slice ap an ac] 24) = w7 := ⟨_, rfl⟩
          have hb7 : Below w6.heap.size w6 w7 := by rw [← hw7]; exact (Below.refl _ _).alloc (Nat.le_refl _) _
          have HX7 : Hid (Bk w7 w6.heap.size 24 #[.bool pf, .string plo, .string m, .int .i64 7, .slice ap an ac]) := by rw [← hw7]; exact Bk.new _ _ _
          have HC7 : Hid (Below w2.heap.size w2 w7) := HC6.out.trans (hb7.mono HC6.out.size)
          have a0 : w6.cell? ⟨w1.heap.size, 0, none⟩ = some (.bool pf) := hxa.cell 0
          have a1 : w6.cell? ⟨w1.heap.size, 1, none⟩ = some (.string plo) := hxa.cell 1
          have a2 : w6.cell? ⟨w1.heap.size, 2, none⟩ = some (.string m) := hxa.cell 2
          have a3 : w6.cell? ⟨w1.heap.size, 3, none⟩ = some (.int .i64 7) := hxa.cell 3
          have a4 : w6.cell? ⟨w1.heap.size, 4, none⟩ = some (.slice ap an ac) := hxa.cell 4
          clear hxp hxa hxb hep hea heb hbw hb
          obtain ⟨⟨hxp, hxa, hxb⟩, ⟨hep, hea, heb⟩, hbw⟩ := HCO.out w7 HC7.out
          have b0 : w7.cell? ⟨w1.heap.size + 1, 0, none⟩ = some (.bool pf) := hxb.cell 0
          have b1 : w7.cell? ⟨w1.heap.size + 1, 1, none⟩ = some (.string m) := hxb.cell 1
          have b2 : w7.cell? ⟨w1.heap.size + 1, 2, none⟩ = some (.string phi) := hxb.cell 2
          have b3 : w7.cell? ⟨w1.heap.size + 1, 3, none⟩ = some (.int .i64 pr) := hxb.cell 3
          have b4 : w7.cell? ⟨w1.heap.size + 1, 4, none⟩ = some (.slice bp bn bc) := hxb.cell 4
          clear hxp hxa hxb hep hea heb hbw hb7
          go_wp2_with fail
          clear hw7
          refine (has_any pf m phi pr bp bn bc _ key).mono ?_
          rw [HIB.out]
          rintro e w8 ⟨rfl, hb⟩
          have HC8 : Hid (Below w2.heap.size w2 w8) := HC7.out.trans (hb.mono HC7.out.size)
          obtain ⟨⟨hxp, hxa, hxb⟩, ⟨hep, hea, heb⟩, hbw⟩ := HCO.out w8 HC8.out
          have HX8 : Hid (Bk w8 w6.heap.size 24 #[.bool pf, .string plo, .string m, .int .i64 7, .slice ap an ac]) := HX7.out.below hb HX7.out.lt
          clear a0 a1 a2 a3 a4 b0 b1 b2 b3 b4
          have p0 : w8.cell? ⟨w.heap.size, 0, none⟩ = some (.bool pf) := hxp.cell 0
          have p1 : w8.cell? ⟨w.heap.size, 1, none⟩ = some (.string plo) := hxp.cell 1
          have p2 : w8.cell? ⟨w.heap.size, 2, none⟩ = some (.string phi) := hxp.cell 2
          have p3 : w8.cell? ⟨w.heap.size, 3, none⟩ = some (.int .i64 pr) := hxp.cell 3
          have p4 : w8.cell? ⟨w.heap.size, 4, none⟩ = some (.slice pp pn pc) := hxp.cell 4
          have HEp8 : Hid (Ens w8 pp pl) := hep
          clear hb hxp hxa hxb hep hea heb hbw
          go_wp2_with fail
          refine (find_ord pf plo phi pr pp pn pc pl key _ HP.out.lenq HEp8.out (by omega) (fun _ => HOP.out)).mono ?_
          obtain ⟨out, hout⟩ : ∃ out, Pg.find pf pl key = out := ⟨_, rfl⟩
          have HOUT : Hid (Pg.find pf pl key = out) := hout
          rw [hout]
          clear hout
          rintro e wA ⟨rfl, hb⟩
          have HCA : Hid (Below w2.heap.size w2 wA) := HC8.out.trans (hb.mono HC8.out.size)
          have HXA : Hid (Bk wA w6.heap.size 24 #[.bool pf, .string plo, .string m, .int .i64 7, .slice ap an ac]) := HX8.out.below hb HX8.out.lt
          obtain ⟨⟨xk, xs, xg, xc⟩, hox⟩ : ∃ e : En, out.getD En.zero = e := ⟨_, rfl⟩
          obtain ⟨t, hot⟩ : ∃ t, out.isSome = t := ⟨_, rfl⟩
          have HFV : Hid (fv out = .tuple #[.agg #[.string xk, .int .i64 xs, .int .i64 xg, .int .i64 xc], .bool t]) := by rw [Hid]; unfold fv; rw [hox, hot]
          rw [HFV.out]
          clear hox hot p0 p1 p2 p3 p4
          obtain ⟨wB, hwB⟩ : ∃ wB, wA.alloc (.cells #[.string xk, .int .i64 xs, .int .i64 xg, .int .i64 xc] 28) = wB := ⟨_, rfl⟩
          have hbB2 : Below wA.heap.size wA wB := by rw [← hwB]; exact (Below.refl _ _).alloc (Nat.le_refl _) _
          have HEB : Hid (Bk wB wA.heap.size 28 #[.string xk, .int .i64 xs, .int .i64 xg, .int .i64 xc]) := by rw [← hwB]; exact Bk.new _ _ _
          have HXB : Hid (Bk wB w6.heap.size 24 #[.bool pf, .string plo, .string m, .int .i64 7, .slice ap an ac]) := HXA.out.below hbB2 HXA.out.lt
          have HCB : Hid (Below w2.heap.size w2 wB) := HCA.out.trans (hbB2.mono HCA.out.size)
          obtain ⟨-, ⟨-, hea, heb⟩, -⟩ := HCO.out wB HCB.out
          have HEH : Hid (Ens wB ap (pl.take (i + 1))) := hea
          have h0 : wB.cell? ⟨w6.heap.size, 0, none⟩ = some (.bool pf) := HXB.out.cell 0
          have h1 : wB.cell? ⟨w6.heap.size, 1, none⟩ = some (.string plo) := HXB.out.cell 1
          have h2 : wB.cell? ⟨w6.heap.size, 2, none⟩ = some (.string m) := HXB.out.cell 2
          have h3 : wB.cell? ⟨w6.heap.size, 3, none⟩ = some (.int .i64 7) := HXB.out.cell 3
          have h4 : wB.cell? ⟨w6.heap.size, 4, none⟩ = some (.slice ap an ac) := HXB.out.cell 4
          clear hb hbB2 hea heb
          go_wp2_with fail
          clear hwB
          refine (find_ord pf plo m 7 ap an ac (pl.take (i + 1)) key _ HNa.out HEH.out (by omega) (fun _ => HOA.out)).mono ?_
          rw [← HFL.out hlt, HOUT.out, HFV.out]
          rintro e wC ⟨rfl, hb⟩
          have HEC : Hid (Bk wC wA.heap.size 28 #[.string xk, .int .i64 xs, .int .i64 xg, .int .i64 xc]) := HEB.out.below hb HEB.out.lt
          have HCC : Hid (Below w2.heap.size w2 wC) := HCB.out.trans (hb.mono HCB.out.size)
          clear hb h0 h1 h2 h3 h4
          obtain ⟨wD, hwD⟩ : ∃ wD, wC.alloc (.cells #[.string xk, .int .i64 xs, .int .i64 xg, .int .i64 xc] 28) = wD := ⟨_, rfl⟩
          have hbD : Below wC.heap.size wC wD := by rw [← hwD]; exact (Below.refl _ _).alloc (Nat.le_refl _) _
          have HYD : Hid (Bk wD wC.heap.size 28 #[.string xk, .int .i64 xs, .int .i64 xg, .int .i64 xc]) := by rw [← hwD]; exact Bk.new _ _ _
          have HXD : Hid (Bk wD wA.heap.size 28 #[.string xk, .int .i64 xs, .int .i64 xg, .int .i64 xc]) := HEC.out.below hbD HEC.out.lt
          have HCD : Hid (Below w2.heap.size w2 wD) := HCC.out.trans (hbD.mono HCC.out.size)
          clear hbD
          have x0 : wD.cell? ⟨wA.heap.size, 0, none⟩ = some (.string xk) := HXD.out.cell 0
          have x1 : wD.cell? ⟨wA.heap.size, 1, none⟩ = some (.int .i64 xs) := HXD.out.cell 1
          have x2 : wD.cell? ⟨wA.heap.size, 2, none⟩ = some (.int .i64 xg) := HXD.out.cell 2
          have x3 : wD.cell? ⟨wA.heap.size, 3, none⟩ = some (.int .i64 xc) := HXD.out.cell 3
          have y0 : wD.cell? ⟨wC.heap.size, 0, none⟩ = some (.string xk) := HYD.out.cell 0
          have y1 : wD.cell? ⟨wC.heap.size, 1, none⟩ = some (.int .i64 xs) := HYD.out.cell 1
          have y2 : wD.cell? ⟨wC.heap.size, 2, none⟩ = some (.int .i64 xg) := HYD.out.cell 2
          have y3 : wD.cell? ⟨wC.heap.size, 3, none⟩ = some (.int .i64 xc) := HYD.out.cell 3
          have HF : Hid (Below w.heap.size w wD) := (HCO.out wD HCD.out).2.2
          have tt : (t == t) = true := by simp
          go_wp2
          go_ret
          exact ⟨rfl, HF.out⟩
        | false =>
          rw [hlt] at HIA HIB
          rw [Bool.not_false] at HIB
          have cA : ∀ d os, Calls Try.prog 14 #[.agg #[.bool pf, .string plo, .string m, .int .i64 7, .slice ap an ac], .string key] (grow (redrawn w5 d) os) fun e w'' => e = .returned (.bool false) ∧ ∃ p : Regrown, w'' = grow (redrawn w5 p.d) p.os := fun d os => Calls.regrown_of (by have := hA d os; rw [HIA.out] at this; exact this)
          have cB : ∀ d os, Calls Try.prog 14 #[.agg #[.bool pf, .string m, .string phi, .int .i64 pr, .slice bp bn bc], .string key] (grow (redrawn w5 d) os) fun e w'' => e = .returned (.bool true) ∧ ∃ p : Regrown, w'' = grow (redrawn w5 p.d) p.os := fun d os => Calls.regrown_of (by have := hB d os; rw [HIB.out] at this; exact this)
          clear hA hB
          go_wp2_with fail
          refine wp_region_quiet_below (by kernel_rfl) (by kernel_rfl) ?_
          repeat (go_big_quiet_step (first | (go_at_call_of 14 (Value.agg #[.bool pf, .string plo, .string m, .int .i64 7, .slice ap an ac]); exact cA _ _) | (go_at_call_of 14 (Value.agg #[.bool pf, .string m, .string phi, .int .i64 pr, .slice bp bn bc]); exact cB _ _)))
          refine wpQuiet_nil ?_
          intro _ hw'
          obtain ⟨⟨dq, osq⟩, hw''⟩ := hw'
          subst hw''
          obtain ⟨w6, hw6⟩ : ∃ w6, w6 = grow (redrawn w5 dq) osq := ⟨_, rfl⟩
          rw [← hw6]
          have hb : Below w5.heap.size w5 w6 := by rw [hw6]; exact HRG.out dq osq
          have HC6 : Hid (Below w2.heap.size w2 w6) := HC5.out.trans (hb.mono HC5.out.size)
          obtain ⟨⟨hxp, hxa, hxb⟩, ⟨hep, hea, heb⟩, hbw⟩ := HCO.out w6 HC6.out
          clear cA cB ra0 ra1 ra2 ra3 ra4 rb0 rb1 rb2 rb3 rb4 hw6
          obtain ⟨w7, hw7⟩ : ∃ w7, w6.alloc (.cells #[.bool pf, .string plo, .string m, .int .i64 7, .slice ap an ac] 24) = w7 := ⟨_, rfl⟩
          have hb7 : Below w6.heap.size w6 w7 := by rw [← hw7]; exact (Below.refl _ _).alloc (Nat.le_refl _) _
          have HX7 : Hid (Bk w7 w6.heap.size 24 #[.bool pf, .string plo, .string m, .int .i64 7, .slice ap an ac]) := by rw [← hw7]; exact Bk.new _ _ _
          have HC7 : Hid (Below w2.heap.size w2 w7) := HC6.out.trans (hb7.mono HC6.out.size)
          have a0 : w6.cell? ⟨w1.heap.size, 0, none⟩ = some (.bool pf) := hxa.cell 0
          have a1 : w6.cell? ⟨w1.heap.size, 1, none⟩ = some (.string plo) := hxa.cell 1
          have a2 : w6.cell? ⟨w1.heap.size, 2, none⟩ = some (.string m) := hxa.cell 2
          have a3 : w6.cell? ⟨w1.heap.size, 3, none⟩ = some (.int .i64 7) := hxa.cell 3
          have a4 : w6.cell? ⟨w1.heap.size, 4, none⟩ = some (.slice ap an ac) := hxa.cell 4
          clear hxp hxa hxb hep hea heb hbw hb
          obtain ⟨⟨hxp, hxa, hxb⟩, ⟨hep, hea, heb⟩, hbw⟩ := HCO.out w7 HC7.out
          have b0 : w7.cell? ⟨w1.heap.size + 1, 0, none⟩ = some (.bool pf) := hxb.cell 0
          have b1 : w7.cell? ⟨w1.heap.size + 1, 1, none⟩ = some (.string m) := hxb.cell 1
          have b2 : w7.cell? ⟨w1.heap.size + 1, 2, none⟩ = some (.string phi) := hxb.cell 2
          have b3 : w7.cell? ⟨w1.heap.size + 1, 3, none⟩ = some (.int .i64 pr) := hxb.cell 3
          have b4 : w7.cell? ⟨w1.heap.size + 1, 4, none⟩ = some (.slice bp bn bc) := hxb.cell 4
          clear hxp hxa hxb hep hea heb hbw hb7
          go_wp2_with fail
          clear hw7
          refine (has_any pf m phi pr bp bn bc _ key).mono ?_
          rw [HIB.out]
          rintro e w8 ⟨rfl, hb⟩
          have HC8 : Hid (Below w2.heap.size w2 w8) := HC7.out.trans (hb.mono HC7.out.size)
          obtain ⟨⟨hxp, hxa, hxb⟩, ⟨hep, hea, heb⟩, hbw⟩ := HCO.out w8 HC8.out
          have HX8 : Hid (Bk w8 w6.heap.size 24 #[.bool pf, .string plo, .string m, .int .i64 7, .slice ap an ac]) := HX7.out.below hb HX7.out.lt
          clear a0 a1 a2 a3 a4 b0 b1 b2 b3 b4
          have b0 : w8.cell? ⟨w1.heap.size + 1, 0, none⟩ = some (.bool pf) := hxb.cell 0
          have b1 : w8.cell? ⟨w1.heap.size + 1, 1, none⟩ = some (.string m) := hxb.cell 1
          have b2 : w8.cell? ⟨w1.heap.size + 1, 2, none⟩ = some (.string phi) := hxb.cell 2
          have b3 : w8.cell? ⟨w1.heap.size + 1, 3, none⟩ = some (.int .i64 pr) := hxb.cell 3
          have b4 : w8.cell? ⟨w1.heap.size + 1, 4, none⟩ = some (.slice bp bn bc) := hxb.cell 4
          have x0 : w8.cell? ⟨w6.heap.size, 0, none⟩ = some (.bool pf) := HX8.out.cell 0
          have z0 : w8.frozen? ⟨w6.heap.size, 0, none⟩ = false := HX8.out.frozen 0
          have x1 : w8.cell? ⟨w6.heap.size, 1, none⟩ = some (.string plo) := HX8.out.cell 1
          have z1 : w8.frozen? ⟨w6.heap.size, 1, none⟩ = false := HX8.out.frozen 1
          have x2 : w8.cell? ⟨w6.heap.size, 2, none⟩ = some (.string m) := HX8.out.cell 2
          have z2 : w8.frozen? ⟨w6.heap.size, 2, none⟩ = false := HX8.out.frozen 2
          have x3 : w8.cell? ⟨w6.heap.size, 3, none⟩ = some (.int .i64 7) := HX8.out.cell 3
          have z3 : w8.frozen? ⟨w6.heap.size, 3, none⟩ = false := HX8.out.frozen 3
          have x4 : w8.cell? ⟨w6.heap.size, 4, none⟩ = some (.slice ap an ac) := HX8.out.cell 4
          have z4 : w8.frozen? ⟨w6.heap.size, 4, none⟩ = false := HX8.out.frozen 4
          have hlw : w1.heap.size + 1 < w6.heap.size := by have h1 := (HCO.out w6 HC6.out).1.2.2.lt; exact h1
          have hlp : w.heap.size < w6.heap.size := by have h1 := (HCO.out w6 HC6.out).1.1.lt; exact h1
          have HLW : Hid (w2.heap.size ≤ w6.heap.size) := HC6.out.size
          obtain ⟨w9, hw9⟩ : ∃ w9, put5 w8 w6.heap.size (.bool pf) (.string m) (.string phi) (.int .i64 pr) (.slice bp bn bc) = w9 := ⟨_, rfl⟩
          have ht9 : Tn [w6.heap.size] w8 w9 := by rw [← hw9]; exact (Tn.refl _ _).five (.inl (by simp)) _ _ _ _ _
          have HX9 : Hid (Bk w9 w6.heap.size 24 #[.bool pf, .string m, .string phi, .int .i64 pr, .slice bp bn bc]) := by rw [← hw9]; exact Bk.five HX8.out _ _ _ _ _
          have hb9 : Below w2.heap.size w8 w9 := ht9.below HC8.out.size (by intro x hx; simp at hx; subst hx; exact HLW.out)
          have HC9 : Hid (Below w2.heap.size w2 w9) := HC8.out.trans hb9
          clear hb hxp hxa hxb hep hea heb hbw
          unfold put5 at hw9
          obtain ⟨⟨hxp, hxa, hxb⟩, ⟨hep, hea, heb⟩, hbw⟩ := HCO.out w9 HC9.out
          have p0 : w9.cell? ⟨w.heap.size, 0, none⟩ = some (.bool pf) := hxp.cell 0
          have p1 : w9.cell? ⟨w.heap.size, 1, none⟩ = some (.string plo) := hxp.cell 1
          have p2 : w9.cell? ⟨w.heap.size, 2, none⟩ = some (.string phi) := hxp.cell 2
          have p3 : w9.cell? ⟨w.heap.size, 3, none⟩ = some (.int .i64 pr) := hxp.cell 3
          have p4 : w9.cell? ⟨w.heap.size, 4, none⟩ = some (.slice pp pn pc) := hxp.cell 4
          have HEp8 : Hid (Ens w9 pp pl) := hep
          clear ht9 hb9 hxp hxa hxb hep hea heb hbw
          go_wp2_with fail
          try rw [hw9]
          clear hw9 b0 b1 b2 b3 b4 x0 x1 x2 x3 x4 z0 z1 z2 z3 z4 hlw hlp
          refine (find_ord pf plo phi pr pp pn pc pl key _ HP.out.lenq HEp8.out (by omega) (fun _ => HOP.out)).mono ?_
          obtain ⟨out, hout⟩ : ∃ out, Pg.find pf pl key = out := ⟨_, rfl⟩
          have HOUT : Hid (Pg.find pf pl key = out) := hout
          rw [hout]
          clear hout
          rintro e wA ⟨rfl, hb⟩
          have HCA : Hid (Below w2.heap.size w2 wA) := HC9.out.trans (hb.mono HC9.out.size)
          have HXA : Hid (Bk wA w6.heap.size 24 #[.bool pf, .string m, .string phi, .int .i64 pr, .slice bp bn bc]) := HX9.out.below hb HX9.out.lt
          obtain ⟨⟨xk, xs, xg, xc⟩, hox⟩ : ∃ e : En, out.getD En.zero = e := ⟨_, rfl⟩
          obtain ⟨t, hot⟩ : ∃ t, out.isSome = t := ⟨_, rfl⟩
          have HFV : Hid (fv out = .tuple #[.agg #[.string xk, .int .i64 xs, .int .i64 xg, .int .i64 xc], .bool t]) := by rw [Hid]; unfold fv; rw [hox, hot]
          rw [HFV.out]
          clear hox hot p0 p1 p2 p3 p4
          obtain ⟨wB, hwB⟩ : ∃ wB, wA.alloc (.cells #[.string xk, .int .i64 xs, .int .i64 xg, .int .i64 xc] 28) = wB := ⟨_, rfl⟩
          have hbB2 : Below wA.heap.size wA wB := by rw [← hwB]; exact (Below.refl _ _).alloc (Nat.le_refl _) _
          have HEB : Hid (Bk wB wA.heap.size 28 #[.string xk, .int .i64 xs, .int .i64 xg, .int .i64 xc]) := by rw [← hwB]; exact Bk.new _ _ _
          have HXB : Hid (Bk wB w6.heap.size 24 #[.bool pf, .string m, .string phi, .int .i64 pr, .slice bp bn bc]) := HXA.out.below hbB2 HXA.out.lt
          have HCB : Hid (Below w2.heap.size w2 wB) := HCA.out.trans (hbB2.mono HCA.out.size)
          obtain ⟨-, ⟨-, hea, heb⟩, -⟩ := HCO.out wB HCB.out
          have HEH : Hid (Ens wB bp (pl.drop (i + 1))) := heb
          have h0 : wB.cell? ⟨w6.heap.size, 0, none⟩ = some (.bool pf) := HXB.out.cell 0
          have h1 : wB.cell? ⟨w6.heap.size, 1, none⟩ = some (.string m) := HXB.out.cell 1
          have h2 : wB.cell? ⟨w6.heap.size, 2, none⟩ = some (.string phi) := HXB.out.cell 2
          have h3 : wB.cell? ⟨w6.heap.size, 3, none⟩ = some (.int .i64 pr) := HXB.out.cell 3
          have h4 : wB.cell? ⟨w6.heap.size, 4, none⟩ = some (.slice bp bn bc) := HXB.out.cell 4
          clear hb hbB2 hea heb
          go_wp2_with fail
          clear hwB
          refine (find_ord pf m phi pr bp bn bc (pl.drop (i + 1)) key _ HNb.out HEH.out (by omega) (fun _ => HOB.out)).mono ?_
          rw [← HFR.out hlt, HOUT.out, HFV.out]
          rintro e wC ⟨rfl, hb⟩
          have HEC : Hid (Bk wC wA.heap.size 28 #[.string xk, .int .i64 xs, .int .i64 xg, .int .i64 xc]) := HEB.out.below hb HEB.out.lt
          have HCC : Hid (Below w2.heap.size w2 wC) := HCB.out.trans (hb.mono HCB.out.size)
          clear hb h0 h1 h2 h3 h4
          obtain ⟨wD, hwD⟩ : ∃ wD, wC.alloc (.cells #[.string xk, .int .i64 xs, .int .i64 xg, .int .i64 xc] 28) = wD := ⟨_, rfl⟩
          have hbD : Below wC.heap.size wC wD := by rw [← hwD]; exact (Below.refl _ _).alloc (Nat.le_refl _) _
          have HYD : Hid (Bk wD wC.heap.size 28 #[.string xk, .int .i64 xs, .int .i64 xg, .int .i64 xc]) := by rw [← hwD]; exact Bk.new _ _ _
          have HXD : Hid (Bk wD wA.heap.size 28 #[.string xk, .int .i64 xs, .int .i64 xg, .int .i64 xc]) := HEC.out.below hbD HEC.out.lt
          have HCD : Hid (Below w2.heap.size w2 wD) := HCC.out.trans (hbD.mono HCC.out.size)
          clear hbD
          have x0 : wD.cell? ⟨wA.heap.size, 0, none⟩ = some (.string xk) := HXD.out.cell 0
          have x1 : wD.cell? ⟨wA.heap.size, 1, none⟩ = some (.int .i64 xs) := HXD.out.cell 1
          have x2 : wD.cell? ⟨wA.heap.size, 2, none⟩ = some (.int .i64 xg) := HXD.out.cell 2
          have x3 : wD.cell? ⟨wA.heap.size, 3, none⟩ = some (.int .i64 xc) := HXD.out.cell 3
          have y0 : wD.cell? ⟨wC.heap.size, 0, none⟩ = some (.string xk) := HYD.out.cell 0
          have y1 : wD.cell? ⟨wC.heap.size, 1, none⟩ = some (.int .i64 xs) := HYD.out.cell 1
          have y2 : wD.cell? ⟨wC.heap.size, 2, none⟩ = some (.int .i64 xg) := HYD.out.cell 2
          have y3 : wD.cell? ⟨wC.heap.size, 3, none⟩ = some (.int .i64 xc) := HYD.out.cell 3
          have HF : Hid (Below w.heap.size w wD) := (HCO.out wD HCD.out).2.2
          have tt : (t == t) = true := by simp
          go_wp2
          go_ret
          exact ⟨rfl, HF.out⟩
    · have hkn : (k != 0) = true := by simp [hk]
      go_wp2_with fail
      refine (live_any _).mono ?_
      rintro e w4 ⟨rfl, hb4⟩
      have HB4 : Hid (Below w.heap.size w w4) := HB3.out.trans (hb4.mono HB3.out.size)
      clear hb4
      go_wp2
      go_ret
      exact ⟨rfl, HB4.out⟩


set_option maxRecDepth 100000 in
set_option maxHeartbeats 2000000 in
theorem lifted_pageParts (os : Os) (started : os.Started) (H : Type) (enc : TypeId × Value → H) :
    ReturnsInHanded {} Try.checked os 8 .any (Rows.pagePartsSpec.pre6 enc Try.prog Try.f8 Rows.pagePartsRow.domain false) (Rows.pagePartsSpec.post enc Try.prog Try.f8 false true false false) := by
  refine returnsInHanded_of_change_sized (C := Try.checked) own started (by kernel_rfl) Try.func8
    (ChangeSpec.witness6 (enc := enc) (C := Try.checked) false ⟨#[], #[.agg #[.bool false, .string .empty, .string .empty, .int .i64 0, .slice none 0 0], .string .empty], []⟩ 8 (by kernel_rfl) (by kernel_rfl) (by kernel_rfl) (by kernel_rfl)) ?_
  intro W base args ds gs before hval0 hW _ hsz0 _
  have hsz : (DataW.weightsEach Try.prog (Try.f8.params.toList ++ Rows.pagePartsSpec.plain.varTypes Try.prog) (ds ++ gs)).all (· ≤ reachBytes) = true := hsz0
  clear hsz0
  have hval : ∀ (j : Nat) t v, Try.f8.params[j]? = some t → args[j]? = some v → Value.okWide Try.prog W .any base t v := hval0
  have hW' := hW
  obtain ⟨p, q, hA0, hV, rfl, hfz, hnd⟩ := hW
  have hA : DataW.TrodAll enc Try.prog W 0 (fun _ => true) true Try.f8.params.toList args.toList ds p := hA0
  rw [Try.params8] at hA hval hsz
  obtain ⟨v0, vs0, d0, ds0, p0, q0, hargs, rfl, rfl, h0, r0⟩ := trodAll_cons hA
  obtain ⟨v1, vs1, d1, ds1, p1, q1, rfl, rfl, rfl, h1, r1⟩ := trodAll_cons r0
  obtain ⟨rfl, rfl, rfl⟩ := trodAll_nil r1
  obtain rfl : args = #[v0, v1] := by cases args; simp_all
  obtain ⟨rfl, rfl⟩ := trodVars_none hV
  have k0 := h0
  have lt0 : ∀ x ∈ p0, x.block < W.heap.size := by obtain ⟨m, hm⟩ := k0; exact DataW.trod_lt m _ _ _ hm
  obtain ⟨b0, lo0, hi0, r0', a0, len0, cap0, l0, e0, w0⟩ : ∃ leaf lo hi r a len cap l, v0 = .agg #[.bool leaf, .string lo, .string hi, .int .i64 r, .slice a len cap] ∧ InE 3518437208780 W a len cap l := by
    obtain ⟨cs, hcs, _⟩ := okWide_struct Try.underlying24 (hval 0 24 v0 rfl rfl)
    obtain ⟨fuel, hf⟩ := h0
    obtain ⟨b, lo, hi, r, a, len, cap, l, hg, ho⟩ := in_page (M := 3518437208780) hf (page_said (x := (d0, p0)) (Nat.le_refl _) (fun n hn => by
      have := of_decide_eq_true (List.all_eq_true.1 hsz _ (DataW.weights_mem_each (j := 0) (t := 24) rfl rfl n hn))
      simp only [reachBytes] at this
      omega))
    refine ⟨b, lo, hi, r, a, len, cap, l, ?_, ho⟩
    rw [hcs] at hg ⊢
    congr 1
    apply Array.ext'
    simpa [Value.cells] using hg
  subst e0
  obtain ⟨a1, rfl, rfl, rfl, w1⟩ := open_string Try.underlying9 (hval 1 9 v1 rfl rfl) h1
  have s1 : a1.size ≤ 140737488351232 := by
    have := sized_string hsz (j := 1) (t := 9) rfl rfl
    have e : a1.data.toList.length = a1.size := by rw [Array.length_toList]; rfl
    simp only [reachBytes] at this
    omega
  clear hA0 hval0
  refine (walk_pageParts b0 lo0 hi0 r0' a0 len0 cap0 l0 a1 W w0 s1).mono fun e W' ⟨he, bel⟩ => ?_
  subst he
  exact ⟨_, rfl, _, _, _, [], _, [], hW', trodAll_mk1 (shut_bool Try.underlying4 _), (trodAll_cons_mk (Below.trod laidOut (by kernel_rfl) (of_decide_eq_true (by kernel_rfl)) k0 bel lt0) (trodAll_cons_mk (shut_string Try.underlying9 w1) trodAll_mk0)), rfl, bel.frame _, fun h => by cases h⟩

/-- The statement. -/
theorem pageParts_holds : Rows.PagePartsSaid :=
  OpenClaim.holds_of_wide 8 Try.f8 rfl rfl rfl rfl rfl rfl rfl ⟨rfl, rfl, rfl, rfl, rfl⟩ rfl rfl rfl rfl rfl (by kernel_rfl) Try.func8 (by kernel_rfl)
    (of_decide_eq_true (by kernel_rfl)) (by unfold Func.isWrapper; first | (rw [if_pos (by decide +kernel)]; kernel_rfl) | (rw [if_neg (by decide +kernel)]; exact ⟨rfl, rfl⟩))
    (fun os started H enc _ => lifted_pageParts os started H enc)
#print axioms pageParts_holds
end Go.Proofs.Ytlcbfpjijceckaa
