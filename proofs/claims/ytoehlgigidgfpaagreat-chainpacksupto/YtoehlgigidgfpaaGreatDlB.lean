/- A page by a delta: applied, Apply (the code's). -/
import Derived.Test.YtoehlgigidgfpaaGreatDlA
namespace Go.Proofs.YtoehlgigidgfpaaGreat
open Go.RowKit Go.Sort
set_option linter.unusedVariables false
set_option maxRecDepth 100000

theorem Dl.apply_1 {g : Pp} {e : En} {key : ByteArray} {pg : Int} {rt : Pp} (h : Dl.may ⟨1, e, key, pg, rt⟩ = true) : Dl.apply g ⟨1, e, key, pg, rt⟩ = Pg.put g e := by unfold Dl.apply; rw [h]; rfl
theorem Dl.apply_2 {g : Pp} {e : En} {key : ByteArray} {pg : Int} {rt : Pp} (h : Dl.may ⟨2, e, key, pg, rt⟩ = true) : Dl.apply g ⟨2, e, key, pg, rt⟩ = if Ky.inn ⟨g.lo, g.hi⟩ key then (Dl.without g key, 0) else (Pg.zero, 73) := by unfold Dl.apply; rw [h]; rfl
theorem Dl.apply_3 {g : Pp} {e : En} {key : ByteArray} {pg : Int} {rt : Pp} (h : Dl.may ⟨3, e, key, pg, rt⟩ = true) : Dl.apply g ⟨3, e, key, pg, rt⟩ = if Ky.lt g.lo key && Ky.inn ⟨g.lo, g.hi⟩ key then (Dl.upTo g key pg, 0) else (Pg.zero, 90) := by unfold Dl.apply; rw [h]; rfl
theorem Dl.apply_4 {g : Pp} {e : En} {key : ByteArray} {pg : Int} {rt : Pp} (h : Dl.may ⟨4, e, key, pg, rt⟩ = true) : Dl.apply g ⟨4, e, key, pg, rt⟩ = Pg.merge g rt := by unfold Dl.apply; rw [h]; rfl
theorem Dl.apply_5 {g : Pp} {e : En} {key : ByteArray} {pg : Int} {rt : Pp} (h : Dl.may ⟨5, e, key, pg, rt⟩ = true) : Dl.apply g ⟨5, e, key, pg, rt⟩ = (Pg.zero, 91) := by unfold Dl.apply; rw [h]; rfl
theorem Dl.apply_not {g : Pp} {d : De} (h : Dl.may d = false) : Dl.apply g d = (Pg.zero, 90) := by unfold Dl.apply; rw [h]; rfl
theorem Dl.may_kind {d : De} (h : Dl.may d = true) : d.k = 1 ∨ d.k = 2 ∨ d.k = 3 ∨ d.k = 4 ∨ d.k = 5 := by
  unfold Dl.may Dl.fits at h
  by_cases h1 : d.k = 1
  · exact .inl h1
  · by_cases h2 : d.k = 2
    · exact .inr (.inl h2)
    · by_cases h3 : d.k = 3
      · exact .inr (.inr (.inl h3))
      · by_cases h4 : d.k = 4
        · exact .inr (.inr (.inr (.inl h4)))
        · by_cases h5 : d.k = 5
          · exact .inr (.inr (.inr (.inr h5)))
          · simp [h1, h2, h3, h4, h5] at h

set_option maxHeartbeats 2000000 in
theorem applied_not (dk : Int) (pf : Bool) (plo phi : ByteArray) (pr : Int) (pp : Option Addr) (pn pc : Nat) (pl : List En) (dek : ByteArray) (des deg dec : Int) (dkey : ByteArray) (dpg : Int) (dleaf : Bool) (dlo dhi : ByteArray) (dr : Int) (dp : Option Addr) (dn dc : Nat) (dl : List En) (w : World) (hlen : pl.length = pn) (hx : Ens w pp pl) (hl : pn ≤ 3518437208780) (hp : pp = none → pn = 0 ∧ pc = 0) (hdn : dl.length = dn) (hdx : Ens w dp dl) (hdl : (pn + dn) * 40 ≤ 140737488355328) (hdp : dp = none → dn = 0 ∧ dc = 0) (hmay : Dl.may ⟨dk, ⟨dek, des, deg, dec⟩, dkey, dpg, ⟨dleaf, dlo, dhi, dr, dl⟩⟩ = false) :
    Calls Tryz.prog 131 #[pgv pf plo phi pr pp pn pc, .agg #[.int .i64 dk, .string dek, .int .i64 des, .int .i64 deg, .int .i64 dec, .string dkey, .int .i64 dpg, .bool dleaf, .string dlo, .string dhi, .int .i64 dr, .slice dp dn dc]] w fun e w' => Done w (Dl.apply ⟨pf, plo, phi, pr, pl⟩ ⟨dk, ⟨dek, des, deg, dec⟩, dkey, dpg, ⟨dleaf, dlo, dhi, dr, dl⟩⟩) e w' := by
  obtain ⟨out, HO⟩ : ∃ out : Pp × Int, Hid (Dl.apply ⟨pf, plo, phi, pr, pl⟩ ⟨dk, ⟨dek, des, deg, dec⟩, dkey, dpg, ⟨dleaf, dlo, dhi, dr, dl⟩⟩ = out) := ⟨_, rfl⟩
  rw [HO.out]
  have HX : Hid (Ens w pp pl) := hx
  have HL : Hid (pl.length = pn) := hlen
  have HDX : Hid (Ens w dp dl) := hdx
  have HDL : Hid (dl.length = dn) := hdn
  have HM : Hid (Dl.may ⟨dk, ⟨dek, des, deg, dec⟩, dkey, dpg, ⟨dleaf, dlo, dhi, dr, dl⟩⟩ = false) := hmay
  clear hx hlen hdx hdn hmay
  obtain ⟨w0, hw0⟩ : ∃ w0, ((w.alloc (.cells #[.bool pf, .string plo, .string phi, .int .i64 pr, .slice pp pn pc] 29)).alloc (.cells #[.int .i64 dk, .string dek, .int .i64 des, .int .i64 deg, .int .i64 dec, .string dkey, .int .i64 dpg, .bool dleaf, .string dlo, .string dhi, .int .i64 dr, .slice dp dn dc] 35)).alloc (.cells #[.bool false, .string ⟨#[]⟩, .string ⟨#[]⟩, .int .i64 0, .slice none 0 0] 29) = w0 := ⟨_, rfl⟩
  have HB0 : Hid (Below w.heap.size w w0) := by rw [← hw0]; exact (((Below.refl _ _).alloc (Nat.le_refl _) _).alloc (by simp) _).alloc (by simp; omega) _
  have HK0 : Hid (Bk w0 w.heap.size 29 #[.bool pf, .string plo, .string phi, .int .i64 pr, .slice pp pn pc]) := by rw [← hw0]; exact ((Bk.new _ _ _).alloc _).alloc _
  have HD0 : Hid (Bk w0 (w.heap.size + 1) 35 #[.int .i64 dk, .string dek, .int .i64 des, .int .i64 deg, .int .i64 dec, .string dkey, .int .i64 dpg, .bool dleaf, .string dlo, .string dhi, .int .i64 dr, .slice dp dn dc]) := by rw [← hw0]; exact (Bk.new1 _ _ _ _).alloc _
  have HR0 : Hid (Bk w0 (w.heap.size + 1 + 1) 29 #[.bool false, .string ⟨#[]⟩, .string ⟨#[]⟩, .int .i64 0, .slice none 0 0]) := by rw [← hw0]; exact Bk.new2 _ _ _ _ _
  have x0 : w0.cell? ⟨w.heap.size + 1, 0, none⟩ = some (.int .i64 dk) := HD0.out.cell 0
  have x1 : w0.cell? ⟨w.heap.size + 1, 1, none⟩ = some (.string dek) := HD0.out.cell 1
  have x2 : w0.cell? ⟨w.heap.size + 1, 2, none⟩ = some (.int .i64 des) := HD0.out.cell 2
  have x3 : w0.cell? ⟨w.heap.size + 1, 3, none⟩ = some (.int .i64 deg) := HD0.out.cell 3
  have x4 : w0.cell? ⟨w.heap.size + 1, 4, none⟩ = some (.int .i64 dec) := HD0.out.cell 4
  have x5 : w0.cell? ⟨w.heap.size + 1, 5, none⟩ = some (.string dkey) := HD0.out.cell 5
  have x6 : w0.cell? ⟨w.heap.size + 1, 6, none⟩ = some (.int .i64 dpg) := HD0.out.cell 6
  have x7 : w0.cell? ⟨w.heap.size + 1, 7, none⟩ = some (.bool dleaf) := HD0.out.cell 7
  have x8 : w0.cell? ⟨w.heap.size + 1, 8, none⟩ = some (.string dlo) := HD0.out.cell 8
  have x9 : w0.cell? ⟨w.heap.size + 1, 9, none⟩ = some (.string dhi) := HD0.out.cell 9
  have x10 : w0.cell? ⟨w.heap.size + 1, 10, none⟩ = some (.int .i64 dr) := HD0.out.cell 10
  have x11 : w0.cell? ⟨w.heap.size + 1, 11, none⟩ = some (.slice dp dn dc) := HD0.out.cell 11
  go_enter Tryz.func131, Tryz.ntmps131
  go_wp2_with fail
  clear hw0
  refine (dcheck_any ⟨dk, ⟨dek, des, deg, dec⟩, dkey, dpg, ⟨dleaf, dlo, dhi, dr, dl⟩⟩ dp dn dc _ HDL.out (HDX.out.below HB0.out (Nat.le_refl _)) (by omega)).mono ?_
  rw [HM.out]
  rintro e w1 ⟨rfl, hb1⟩
  clear x0 x1 x2 x3 x4 x5 x6 x7 x8 x9 x10 x11
  have HB1 : Hid (Below w.heap.size w w1) := HB0.out.trans (hb1.mono HB0.out.size)
  have HK1 : Hid (Bk w1 w.heap.size 29 #[.bool pf, .string plo, .string phi, .int .i64 pr, .slice pp pn pc]) := HK0.out.below hb1 HK0.out.lt
  have HD1 : Hid (Bk w1 (w.heap.size + 1) 35 #[.int .i64 dk, .string dek, .int .i64 des, .int .i64 deg, .int .i64 dec, .string dkey, .int .i64 dpg, .bool dleaf, .string dlo, .string dhi, .int .i64 dr, .slice dp dn dc]) := HD0.out.below hb1 HD0.out.lt
  have HR1 : Hid (Bk w1 (w.heap.size + 1 + 1) 29 #[.bool false, .string ⟨#[]⟩, .string ⟨#[]⟩, .int .i64 0, .slice none 0 0]) := HR0.out.below hb1 HR0.out.lt
  have HS1 : Hid (w.heap.size + 1 + 1 < w1.heap.size) := HR1.out.lt
  clear hb1
  simp only [Bool.false_eq_true, if_false]
  go_wp2_with fail
  refine (refuse_no 90 (by decide) _).mono ?_
  rintro e w2 ⟨rfl, rfl⟩
  refine ⟨rfl, ?_⟩
  rw [← HO.out, Dl.apply_not HM.out]
  exact ⟨.inr ⟨by decide, rfl⟩, HB1.out⟩

set_option maxHeartbeats 2000000 in
theorem applied_1 (pf : Bool) (plo phi : ByteArray) (pr : Int) (pp : Option Addr) (pn pc : Nat) (pl : List En) (dek : ByteArray) (des deg dec : Int) (dkey : ByteArray) (dpg : Int) (dleaf : Bool) (dlo dhi : ByteArray) (dr : Int) (dp : Option Addr) (dn dc : Nat) (dl : List En) (w : World) (hlen : pl.length = pn) (hx : Ens w pp pl) (hl : pn ≤ 3518437208780) (hp : pp = none → pn = 0 ∧ pc = 0) (hdn : dl.length = dn) (hdx : Ens w dp dl) (hdl : (pn + dn) * 40 ≤ 140737488355328) (hdp : dp = none → dn = 0 ∧ dc = 0) (hmay : Dl.may ⟨1, ⟨dek, des, deg, dec⟩, dkey, dpg, ⟨dleaf, dlo, dhi, dr, dl⟩⟩ = true) :
    Calls Tryz.prog 131 #[pgv pf plo phi pr pp pn pc, .agg #[.int .i64 1, .string dek, .int .i64 des, .int .i64 deg, .int .i64 dec, .string dkey, .int .i64 dpg, .bool dleaf, .string dlo, .string dhi, .int .i64 dr, .slice dp dn dc]] w fun e w' => Done w (Dl.apply ⟨pf, plo, phi, pr, pl⟩ ⟨1, ⟨dek, des, deg, dec⟩, dkey, dpg, ⟨dleaf, dlo, dhi, dr, dl⟩⟩) e w' := by
  obtain ⟨out, HO⟩ : ∃ out : Pp × Int, Hid (Dl.apply ⟨pf, plo, phi, pr, pl⟩ ⟨1, ⟨dek, des, deg, dec⟩, dkey, dpg, ⟨dleaf, dlo, dhi, dr, dl⟩⟩ = out) := ⟨_, rfl⟩
  rw [HO.out]
  have HX : Hid (Ens w pp pl) := hx
  have HL : Hid (pl.length = pn) := hlen
  have HDX : Hid (Ens w dp dl) := hdx
  have HDL : Hid (dl.length = dn) := hdn
  have HM : Hid (Dl.may ⟨1, ⟨dek, des, deg, dec⟩, dkey, dpg, ⟨dleaf, dlo, dhi, dr, dl⟩⟩ = true) := hmay
  clear hx hlen hdx hdn hmay
  obtain ⟨w0, hw0⟩ : ∃ w0, ((w.alloc (.cells #[.bool pf, .string plo, .string phi, .int .i64 pr, .slice pp pn pc] 29)).alloc (.cells #[.int .i64 1, .string dek, .int .i64 des, .int .i64 deg, .int .i64 dec, .string dkey, .int .i64 dpg, .bool dleaf, .string dlo, .string dhi, .int .i64 dr, .slice dp dn dc] 35)).alloc (.cells #[.bool false, .string ⟨#[]⟩, .string ⟨#[]⟩, .int .i64 0, .slice none 0 0] 29) = w0 := ⟨_, rfl⟩
  have HB0 : Hid (Below w.heap.size w w0) := by rw [← hw0]; exact (((Below.refl _ _).alloc (Nat.le_refl _) _).alloc (by simp) _).alloc (by simp; omega) _
  have HK0 : Hid (Bk w0 w.heap.size 29 #[.bool pf, .string plo, .string phi, .int .i64 pr, .slice pp pn pc]) := by rw [← hw0]; exact ((Bk.new _ _ _).alloc _).alloc _
  have HD0 : Hid (Bk w0 (w.heap.size + 1) 35 #[.int .i64 1, .string dek, .int .i64 des, .int .i64 deg, .int .i64 dec, .string dkey, .int .i64 dpg, .bool dleaf, .string dlo, .string dhi, .int .i64 dr, .slice dp dn dc]) := by rw [← hw0]; exact (Bk.new1 _ _ _ _).alloc _
  have HR0 : Hid (Bk w0 (w.heap.size + 1 + 1) 29 #[.bool false, .string ⟨#[]⟩, .string ⟨#[]⟩, .int .i64 0, .slice none 0 0]) := by rw [← hw0]; exact Bk.new2 _ _ _ _ _
  have x0 : w0.cell? ⟨w.heap.size + 1, 0, none⟩ = some (.int .i64 1) := HD0.out.cell 0
  have x1 : w0.cell? ⟨w.heap.size + 1, 1, none⟩ = some (.string dek) := HD0.out.cell 1
  have x2 : w0.cell? ⟨w.heap.size + 1, 2, none⟩ = some (.int .i64 des) := HD0.out.cell 2
  have x3 : w0.cell? ⟨w.heap.size + 1, 3, none⟩ = some (.int .i64 deg) := HD0.out.cell 3
  have x4 : w0.cell? ⟨w.heap.size + 1, 4, none⟩ = some (.int .i64 dec) := HD0.out.cell 4
  have x5 : w0.cell? ⟨w.heap.size + 1, 5, none⟩ = some (.string dkey) := HD0.out.cell 5
  have x6 : w0.cell? ⟨w.heap.size + 1, 6, none⟩ = some (.int .i64 dpg) := HD0.out.cell 6
  have x7 : w0.cell? ⟨w.heap.size + 1, 7, none⟩ = some (.bool dleaf) := HD0.out.cell 7
  have x8 : w0.cell? ⟨w.heap.size + 1, 8, none⟩ = some (.string dlo) := HD0.out.cell 8
  have x9 : w0.cell? ⟨w.heap.size + 1, 9, none⟩ = some (.string dhi) := HD0.out.cell 9
  have x10 : w0.cell? ⟨w.heap.size + 1, 10, none⟩ = some (.int .i64 dr) := HD0.out.cell 10
  have x11 : w0.cell? ⟨w.heap.size + 1, 11, none⟩ = some (.slice dp dn dc) := HD0.out.cell 11
  go_enter Tryz.func131, Tryz.ntmps131
  go_wp2_with fail
  clear hw0
  refine (dcheck_any ⟨1, ⟨dek, des, deg, dec⟩, dkey, dpg, ⟨dleaf, dlo, dhi, dr, dl⟩⟩ dp dn dc _ HDL.out (HDX.out.below HB0.out (Nat.le_refl _)) (by omega)).mono ?_
  rw [HM.out]
  rintro e w1 ⟨rfl, hb1⟩
  clear x0 x1 x2 x3 x4 x5 x6 x7 x8 x9 x10 x11
  have HB1 : Hid (Below w.heap.size w w1) := HB0.out.trans (hb1.mono HB0.out.size)
  have HK1 : Hid (Bk w1 w.heap.size 29 #[.bool pf, .string plo, .string phi, .int .i64 pr, .slice pp pn pc]) := HK0.out.below hb1 HK0.out.lt
  have HD1 : Hid (Bk w1 (w.heap.size + 1) 35 #[.int .i64 1, .string dek, .int .i64 des, .int .i64 deg, .int .i64 dec, .string dkey, .int .i64 dpg, .bool dleaf, .string dlo, .string dhi, .int .i64 dr, .slice dp dn dc]) := HD0.out.below hb1 HD0.out.lt
  have HR1 : Hid (Bk w1 (w.heap.size + 1 + 1) 29 #[.bool false, .string ⟨#[]⟩, .string ⟨#[]⟩, .int .i64 0, .slice none 0 0]) := HR0.out.below hb1 HR0.out.lt
  have HS1 : Hid (w.heap.size + 1 + 1 < w1.heap.size) := HR1.out.lt
  clear hb1
  simp only [if_true]
  go_wp2_with fail
  refine (refuse_ok _).mono ?_
  rintro e w2 ⟨rfl, hw2⟩
  have HB2 : Hid (Below w.heap.size w w2) := by rw [hw2]; exact HB1.out
  have HK2 : Hid (Bk w2 w.heap.size 29 #[.bool pf, .string plo, .string phi, .int .i64 pr, .slice pp pn pc]) := by rw [hw2]; exact HK1.out
  have HD2 : Hid (Bk w2 (w.heap.size + 1) 35 #[.int .i64 1, .string dek, .int .i64 des, .int .i64 deg, .int .i64 dec, .string dkey, .int .i64 dpg, .bool dleaf, .string dlo, .string dhi, .int .i64 dr, .slice dp dn dc]) := by rw [hw2]; exact HD1.out
  have HR2 : Hid (Bk w2 (w.heap.size + 1 + 1) 29 #[.bool false, .string ⟨#[]⟩, .string ⟨#[]⟩, .int .i64 0, .slice none 0 0]) := by rw [hw2]; exact HR1.out
  have HS1 : Hid (w.heap.size + 1 + 1 < w2.heap.size) := HR2.out.lt
  clear hw2 HB1 HK1 HD1 HR1
  have a0 : w2.cell? ⟨w.heap.size, 0, none⟩ = some (.bool pf) := HK2.out.cell 0
  have a1 : w2.cell? ⟨w.heap.size, 1, none⟩ = some (.string plo) := HK2.out.cell 1
  have a2 : w2.cell? ⟨w.heap.size, 2, none⟩ = some (.string phi) := HK2.out.cell 2
  have a3 : w2.cell? ⟨w.heap.size, 3, none⟩ = some (.int .i64 pr) := HK2.out.cell 3
  have a4 : w2.cell? ⟨w.heap.size, 4, none⟩ = some (.slice pp pn pc) := HK2.out.cell 4
  have x0 : w2.cell? ⟨w.heap.size + 1, 0, none⟩ = some (.int .i64 1) := HD2.out.cell 0
  have x1 : w2.cell? ⟨w.heap.size + 1, 1, none⟩ = some (.string dek) := HD2.out.cell 1
  have x2 : w2.cell? ⟨w.heap.size + 1, 2, none⟩ = some (.int .i64 des) := HD2.out.cell 2
  have x3 : w2.cell? ⟨w.heap.size + 1, 3, none⟩ = some (.int .i64 deg) := HD2.out.cell 3
  have x4 : w2.cell? ⟨w.heap.size + 1, 4, none⟩ = some (.int .i64 dec) := HD2.out.cell 4
  have x5 : w2.cell? ⟨w.heap.size + 1, 5, none⟩ = some (.string dkey) := HD2.out.cell 5
  have x6 : w2.cell? ⟨w.heap.size + 1, 6, none⟩ = some (.int .i64 dpg) := HD2.out.cell 6
  have x7 : w2.cell? ⟨w.heap.size + 1, 7, none⟩ = some (.bool dleaf) := HD2.out.cell 7
  have x8 : w2.cell? ⟨w.heap.size + 1, 8, none⟩ = some (.string dlo) := HD2.out.cell 8
  have x9 : w2.cell? ⟨w.heap.size + 1, 9, none⟩ = some (.string dhi) := HD2.out.cell 9
  have x10 : w2.cell? ⟨w.heap.size + 1, 10, none⟩ = some (.int .i64 dr) := HD2.out.cell 10
  have x11 : w2.cell? ⟨w.heap.size + 1, 11, none⟩ = some (.slice dp dn dc) := HD2.out.cell 11
  go_wp2_with fail
  refine (put_any pf plo phi pr pp pn pc pl ⟨dek, des, deg, dec⟩ _ HL.out (HX.out.below HB2.out (Nat.le_refl _)) (by omega) hp).mono ?_
  obtain ⟨⟨G, kk⟩, hpt⟩ : ∃ o : Pp × Int, Pg.put ⟨pf, plo, phi, pr, pl⟩ ⟨dek, des, deg, dec⟩ = o := ⟨_, rfl⟩
  rw [hpt]
  rintro e w3 ⟨v3, rfl, hg3, hb3⟩
  clear a0 a1 a2 a3 a4
  clear x0 x1 x2 x3 x4 x5 x6 x7 x8 x9 x10 x11
  have HF : Hid (out = (G, kk)) := by rw [Hid, ← HO.out, show Dl.apply ⟨pf, plo, phi, pr, pl⟩ ⟨1, ⟨dek, des, deg, dec⟩, dkey, dpg, ⟨dleaf, dlo, dhi, dr, dl⟩⟩ = _ from Dl.apply_1 HM.out, hpt]
  have HB3 : Hid (Below w.heap.size w w3) := HB2.out.trans (hb3.mono HB2.out.size)
  have HR3 : Hid (Bk w3 (w.heap.size + 1 + 1) 29 #[.bool false, .string ⟨#[]⟩, .string ⟨#[]⟩, .int .i64 0, .slice none 0 0]) := HR2.out.below hb3 HR2.out.lt
  have HBW3 : Hid (w2.heap.size ≤ w3.heap.size) := hb3.size
  obtain ⟨Gf, Glo, Ghi, Gr, Gl⟩ := G
  obtain ⟨Gp, Gc, rfl, hg4⟩ := hg3.pv
  simp only at hg4 ⊢
  obtain ⟨Gn, hGn⟩ : ∃ Gn, Gl.length = Gn := ⟨_, rfl⟩
  rw [hGn] at hg4 ⊢
  have HG3 : Hid (PgAt w3 w2.heap.size (pgv Gf Glo Ghi Gr Gp Gn Gc) ⟨Gf, Glo, Ghi, Gr, Gl⟩) := hg4
  clear hg3 hg4 hb3 hGn hpt
  by_cases hk0 : kk = 0
  · subst hk0
    go_wp2_with fail
    refine (sure_ok Gf Glo Ghi Gr Gp Gn Gc _).mono ?_
    rintro e w4 ⟨rfl, hb4⟩
    have HB4 : Hid (Below w.heap.size w w4) := HB3.out.trans (hb4.mono HB3.out.size)
    have HR4 : Hid (Bk w4 (w.heap.size + 1 + 1) 29 #[.bool false, .string ⟨#[]⟩, .string ⟨#[]⟩, .int .i64 0, .slice none 0 0]) := HR3.out.below hb4 HR3.out.lt
    have HG4 : Hid (PgAt w4 w2.heap.size (pgv Gf Glo Ghi Gr Gp Gn Gc) ⟨Gf, Glo, Ghi, Gr, Gl⟩) := HG3.out.below hb4 (Nat.le_refl _)
    clear hb4
    have b0 : w4.cell? ⟨w.heap.size + 1 + 1, 0, none⟩ = some (.bool false) := HR4.out.cell 0
    have bf0 : w4.frozen? ⟨w.heap.size + 1 + 1, 0, none⟩ = false := HR4.out.frozen 0
    have b1 : w4.cell? ⟨w.heap.size + 1 + 1, 1, none⟩ = some (.string ⟨#[]⟩) := HR4.out.cell 1
    have bf1 : w4.frozen? ⟨w.heap.size + 1 + 1, 1, none⟩ = false := HR4.out.frozen 1
    have b2 : w4.cell? ⟨w.heap.size + 1 + 1, 2, none⟩ = some (.string ⟨#[]⟩) := HR4.out.cell 2
    have bf2 : w4.frozen? ⟨w.heap.size + 1 + 1, 2, none⟩ = false := HR4.out.frozen 2
    have b3 : w4.cell? ⟨w.heap.size + 1 + 1, 3, none⟩ = some (.int .i64 0) := HR4.out.cell 3
    have bf3 : w4.frozen? ⟨w.heap.size + 1 + 1, 3, none⟩ = false := HR4.out.frozen 3
    have b4 : w4.cell? ⟨w.heap.size + 1 + 1, 4, none⟩ = some (.slice none 0 0) := HR4.out.cell 4
    have bf4 : w4.frozen? ⟨w.heap.size + 1 + 1, 4, none⟩ = false := HR4.out.frozen 4
    go_wp2
    clear b0 bf0 b1 bf1 b2 bf2 b3 bf3 b4 bf4
    have k1 := HR4.out.five (.bool Gf) (.string Glo) (.string Ghi) (.int .i64 Gr) (.slice Gp Gn Gc)
    have ht : Tn [w.heap.size + 1 + 1] w4 _ := (Tn.refl _ w4).five (R := w.heap.size + 1 + 1) (.inl (by simp)) (.bool Gf) (.string Glo) (.string Ghi) (.int .i64 Gr) (.slice Gp Gn Gc)
    refine bodyPost_ret (results_one (T' := 29) (cs := [.bool Gf, .string Glo, .string Ghi, .int .i64 Gr, .slice Gp Gn Gc]) rfl rfl pg_agg pg_size rfl k1) rfl ?_
    rw [HF.out]
    exact ⟨.inl ⟨rfl, _, rfl, (HG4.out.tn ht (by have := HS1.out; simp; omega)).mono HB2.out.size⟩, HB4.out.trans (ht.below HB4.out.size (by simp; omega))⟩
  · go_wp2_with fail
    refine (sure_no Gf Glo Ghi Gr Gp Gn Gc _ kk hk0).mono ?_
    rintro e w4 ⟨rfl, hb4⟩
    have HB4 : Hid (Below w.heap.size w w4) := HB3.out.trans (hb4.mono HB3.out.size)
    have HR4 : Hid (Bk w4 (w.heap.size + 1 + 1) 29 #[.bool false, .string ⟨#[]⟩, .string ⟨#[]⟩, .int .i64 0, .slice none 0 0]) := HR3.out.below hb4 HR3.out.lt
    refine ⟨rfl, ?_⟩
    rw [HF.out]
    exact ⟨.inr ⟨hk0, rfl⟩, HB4.out⟩

set_option maxHeartbeats 2000000 in
theorem applied_2 (pf : Bool) (plo phi : ByteArray) (pr : Int) (pp : Option Addr) (pn pc : Nat) (pl : List En) (dek : ByteArray) (des deg dec : Int) (dkey : ByteArray) (dpg : Int) (dleaf : Bool) (dlo dhi : ByteArray) (dr : Int) (dp : Option Addr) (dn dc : Nat) (dl : List En) (w : World) (hlen : pl.length = pn) (hx : Ens w pp pl) (hl : pn ≤ 3518437208780) (hp : pp = none → pn = 0 ∧ pc = 0) (hdn : dl.length = dn) (hdx : Ens w dp dl) (hdl : (pn + dn) * 40 ≤ 140737488355328) (hdp : dp = none → dn = 0 ∧ dc = 0) (hmay : Dl.may ⟨2, ⟨dek, des, deg, dec⟩, dkey, dpg, ⟨dleaf, dlo, dhi, dr, dl⟩⟩ = true) :
    Calls Tryz.prog 131 #[pgv pf plo phi pr pp pn pc, .agg #[.int .i64 2, .string dek, .int .i64 des, .int .i64 deg, .int .i64 dec, .string dkey, .int .i64 dpg, .bool dleaf, .string dlo, .string dhi, .int .i64 dr, .slice dp dn dc]] w fun e w' => Done w (Dl.apply ⟨pf, plo, phi, pr, pl⟩ ⟨2, ⟨dek, des, deg, dec⟩, dkey, dpg, ⟨dleaf, dlo, dhi, dr, dl⟩⟩) e w' := by
  obtain ⟨out, HO⟩ : ∃ out : Pp × Int, Hid (Dl.apply ⟨pf, plo, phi, pr, pl⟩ ⟨2, ⟨dek, des, deg, dec⟩, dkey, dpg, ⟨dleaf, dlo, dhi, dr, dl⟩⟩ = out) := ⟨_, rfl⟩
  rw [HO.out]
  have HX : Hid (Ens w pp pl) := hx
  have HL : Hid (pl.length = pn) := hlen
  have HDX : Hid (Ens w dp dl) := hdx
  have HDL : Hid (dl.length = dn) := hdn
  have HM : Hid (Dl.may ⟨2, ⟨dek, des, deg, dec⟩, dkey, dpg, ⟨dleaf, dlo, dhi, dr, dl⟩⟩ = true) := hmay
  clear hx hlen hdx hdn hmay
  obtain ⟨w0, hw0⟩ : ∃ w0, ((w.alloc (.cells #[.bool pf, .string plo, .string phi, .int .i64 pr, .slice pp pn pc] 29)).alloc (.cells #[.int .i64 2, .string dek, .int .i64 des, .int .i64 deg, .int .i64 dec, .string dkey, .int .i64 dpg, .bool dleaf, .string dlo, .string dhi, .int .i64 dr, .slice dp dn dc] 35)).alloc (.cells #[.bool false, .string ⟨#[]⟩, .string ⟨#[]⟩, .int .i64 0, .slice none 0 0] 29) = w0 := ⟨_, rfl⟩
  have HB0 : Hid (Below w.heap.size w w0) := by rw [← hw0]; exact (((Below.refl _ _).alloc (Nat.le_refl _) _).alloc (by simp) _).alloc (by simp; omega) _
  have HK0 : Hid (Bk w0 w.heap.size 29 #[.bool pf, .string plo, .string phi, .int .i64 pr, .slice pp pn pc]) := by rw [← hw0]; exact ((Bk.new _ _ _).alloc _).alloc _
  have HD0 : Hid (Bk w0 (w.heap.size + 1) 35 #[.int .i64 2, .string dek, .int .i64 des, .int .i64 deg, .int .i64 dec, .string dkey, .int .i64 dpg, .bool dleaf, .string dlo, .string dhi, .int .i64 dr, .slice dp dn dc]) := by rw [← hw0]; exact (Bk.new1 _ _ _ _).alloc _
  have HR0 : Hid (Bk w0 (w.heap.size + 1 + 1) 29 #[.bool false, .string ⟨#[]⟩, .string ⟨#[]⟩, .int .i64 0, .slice none 0 0]) := by rw [← hw0]; exact Bk.new2 _ _ _ _ _
  have x0 : w0.cell? ⟨w.heap.size + 1, 0, none⟩ = some (.int .i64 2) := HD0.out.cell 0
  have x1 : w0.cell? ⟨w.heap.size + 1, 1, none⟩ = some (.string dek) := HD0.out.cell 1
  have x2 : w0.cell? ⟨w.heap.size + 1, 2, none⟩ = some (.int .i64 des) := HD0.out.cell 2
  have x3 : w0.cell? ⟨w.heap.size + 1, 3, none⟩ = some (.int .i64 deg) := HD0.out.cell 3
  have x4 : w0.cell? ⟨w.heap.size + 1, 4, none⟩ = some (.int .i64 dec) := HD0.out.cell 4
  have x5 : w0.cell? ⟨w.heap.size + 1, 5, none⟩ = some (.string dkey) := HD0.out.cell 5
  have x6 : w0.cell? ⟨w.heap.size + 1, 6, none⟩ = some (.int .i64 dpg) := HD0.out.cell 6
  have x7 : w0.cell? ⟨w.heap.size + 1, 7, none⟩ = some (.bool dleaf) := HD0.out.cell 7
  have x8 : w0.cell? ⟨w.heap.size + 1, 8, none⟩ = some (.string dlo) := HD0.out.cell 8
  have x9 : w0.cell? ⟨w.heap.size + 1, 9, none⟩ = some (.string dhi) := HD0.out.cell 9
  have x10 : w0.cell? ⟨w.heap.size + 1, 10, none⟩ = some (.int .i64 dr) := HD0.out.cell 10
  have x11 : w0.cell? ⟨w.heap.size + 1, 11, none⟩ = some (.slice dp dn dc) := HD0.out.cell 11
  go_enter Tryz.func131, Tryz.ntmps131
  go_wp2_with fail
  clear hw0
  refine (dcheck_any ⟨2, ⟨dek, des, deg, dec⟩, dkey, dpg, ⟨dleaf, dlo, dhi, dr, dl⟩⟩ dp dn dc _ HDL.out (HDX.out.below HB0.out (Nat.le_refl _)) (by omega)).mono ?_
  rw [HM.out]
  rintro e w1 ⟨rfl, hb1⟩
  clear x0 x1 x2 x3 x4 x5 x6 x7 x8 x9 x10 x11
  have HB1 : Hid (Below w.heap.size w w1) := HB0.out.trans (hb1.mono HB0.out.size)
  have HK1 : Hid (Bk w1 w.heap.size 29 #[.bool pf, .string plo, .string phi, .int .i64 pr, .slice pp pn pc]) := HK0.out.below hb1 HK0.out.lt
  have HD1 : Hid (Bk w1 (w.heap.size + 1) 35 #[.int .i64 2, .string dek, .int .i64 des, .int .i64 deg, .int .i64 dec, .string dkey, .int .i64 dpg, .bool dleaf, .string dlo, .string dhi, .int .i64 dr, .slice dp dn dc]) := HD0.out.below hb1 HD0.out.lt
  have HR1 : Hid (Bk w1 (w.heap.size + 1 + 1) 29 #[.bool false, .string ⟨#[]⟩, .string ⟨#[]⟩, .int .i64 0, .slice none 0 0]) := HR0.out.below hb1 HR0.out.lt
  have HS1 : Hid (w.heap.size + 1 + 1 < w1.heap.size) := HR1.out.lt
  clear hb1
  simp only [if_true]
  go_wp2_with fail
  refine (refuse_ok _).mono ?_
  rintro e w2 ⟨rfl, hw2⟩
  have HB2 : Hid (Below w.heap.size w w2) := by rw [hw2]; exact HB1.out
  have HK2 : Hid (Bk w2 w.heap.size 29 #[.bool pf, .string plo, .string phi, .int .i64 pr, .slice pp pn pc]) := by rw [hw2]; exact HK1.out
  have HD2 : Hid (Bk w2 (w.heap.size + 1) 35 #[.int .i64 2, .string dek, .int .i64 des, .int .i64 deg, .int .i64 dec, .string dkey, .int .i64 dpg, .bool dleaf, .string dlo, .string dhi, .int .i64 dr, .slice dp dn dc]) := by rw [hw2]; exact HD1.out
  have HR2 : Hid (Bk w2 (w.heap.size + 1 + 1) 29 #[.bool false, .string ⟨#[]⟩, .string ⟨#[]⟩, .int .i64 0, .slice none 0 0]) := by rw [hw2]; exact HR1.out
  have HS1 : Hid (w.heap.size + 1 + 1 < w2.heap.size) := HR2.out.lt
  clear hw2 HB1 HK1 HD1 HR1
  have a0 : w2.cell? ⟨w.heap.size, 0, none⟩ = some (.bool pf) := HK2.out.cell 0
  have a1 : w2.cell? ⟨w.heap.size, 1, none⟩ = some (.string plo) := HK2.out.cell 1
  have a2 : w2.cell? ⟨w.heap.size, 2, none⟩ = some (.string phi) := HK2.out.cell 2
  have a3 : w2.cell? ⟨w.heap.size, 3, none⟩ = some (.int .i64 pr) := HK2.out.cell 3
  have a4 : w2.cell? ⟨w.heap.size, 4, none⟩ = some (.slice pp pn pc) := HK2.out.cell 4
  have x0 : w2.cell? ⟨w.heap.size + 1, 0, none⟩ = some (.int .i64 2) := HD2.out.cell 0
  have x1 : w2.cell? ⟨w.heap.size + 1, 1, none⟩ = some (.string dek) := HD2.out.cell 1
  have x2 : w2.cell? ⟨w.heap.size + 1, 2, none⟩ = some (.int .i64 des) := HD2.out.cell 2
  have x3 : w2.cell? ⟨w.heap.size + 1, 3, none⟩ = some (.int .i64 deg) := HD2.out.cell 3
  have x4 : w2.cell? ⟨w.heap.size + 1, 4, none⟩ = some (.int .i64 dec) := HD2.out.cell 4
  have x5 : w2.cell? ⟨w.heap.size + 1, 5, none⟩ = some (.string dkey) := HD2.out.cell 5
  have x6 : w2.cell? ⟨w.heap.size + 1, 6, none⟩ = some (.int .i64 dpg) := HD2.out.cell 6
  have x7 : w2.cell? ⟨w.heap.size + 1, 7, none⟩ = some (.bool dleaf) := HD2.out.cell 7
  have x8 : w2.cell? ⟨w.heap.size + 1, 8, none⟩ = some (.string dlo) := HD2.out.cell 8
  have x9 : w2.cell? ⟨w.heap.size + 1, 9, none⟩ = some (.string dhi) := HD2.out.cell 9
  have x10 : w2.cell? ⟨w.heap.size + 1, 10, none⟩ = some (.int .i64 dr) := HD2.out.cell 10
  have x11 : w2.cell? ⟨w.heap.size + 1, 11, none⟩ = some (.slice dp dn dc) := HD2.out.cell 11
  go_wp2_with fail
  refine (without_any pf plo phi pr pp pn pc pl dkey _ HL.out (HX.out.below HB2.out (Nat.le_refl _)) (by omega) (fun h => (hp h).1)).mono ?_
  obtain ⟨⟨G, kk⟩, hpt⟩ : ∃ o : Pp × Int, (if Ky.inn ⟨plo, phi⟩ dkey then (Dl.without ⟨pf, plo, phi, pr, pl⟩ dkey, 0) else (Pg.zero, 73) : Pp × Int) = o := ⟨_, rfl⟩
  rw [hpt]
  rintro e w3 ⟨hdone, hb3⟩
  clear a0 a1 a2 a3 a4
  clear x0 x1 x2 x3 x4 x5 x6 x7 x8 x9 x10 x11
  have HF : Hid (out = (G, kk)) := by rw [Hid, ← HO.out, show Dl.apply ⟨pf, plo, phi, pr, pl⟩ ⟨2, ⟨dek, des, deg, dec⟩, dkey, dpg, ⟨dleaf, dlo, dhi, dr, dl⟩⟩ = _ from Dl.apply_2 HM.out, hpt]
  have HB3 : Hid (Below w.heap.size w w3) := HB2.out.trans (hb3.mono HB2.out.size)
  have HR3 : Hid (Bk w3 (w.heap.size + 1 + 1) 29 #[.bool false, .string ⟨#[]⟩, .string ⟨#[]⟩, .int .i64 0, .slice none 0 0]) := HR2.out.below hb3 HR2.out.lt
  rcases hdone with ⟨hk0, v3, rfl, hg3⟩ | ⟨hk0, rfl⟩
  · simp only at hk0 hg3
    subst hk0
    obtain ⟨Gf, Glo, Ghi, Gr, Gl⟩ := G
    obtain ⟨Gp, Gc, rfl, hg4⟩ := hg3.pv
    simp only at hg4 ⊢
    obtain ⟨Gn, hGn⟩ : ∃ Gn, Gl.length = Gn := ⟨_, rfl⟩
    rw [hGn] at hg4 ⊢
    have HG3 : Hid (PgAt w3 w2.heap.size (pgv Gf Glo Ghi Gr Gp Gn Gc) ⟨Gf, Glo, Ghi, Gr, Gl⟩) := hg4
    clear hg3 hg4 hb3 hGn hpt
    have b0 : w3.cell? ⟨w.heap.size + 1 + 1, 0, none⟩ = some (.bool false) := HR3.out.cell 0
    have bf0 : w3.frozen? ⟨w.heap.size + 1 + 1, 0, none⟩ = false := HR3.out.frozen 0
    have b1 : w3.cell? ⟨w.heap.size + 1 + 1, 1, none⟩ = some (.string ⟨#[]⟩) := HR3.out.cell 1
    have bf1 : w3.frozen? ⟨w.heap.size + 1 + 1, 1, none⟩ = false := HR3.out.frozen 1
    have b2 : w3.cell? ⟨w.heap.size + 1 + 1, 2, none⟩ = some (.string ⟨#[]⟩) := HR3.out.cell 2
    have bf2 : w3.frozen? ⟨w.heap.size + 1 + 1, 2, none⟩ = false := HR3.out.frozen 2
    have b3 : w3.cell? ⟨w.heap.size + 1 + 1, 3, none⟩ = some (.int .i64 0) := HR3.out.cell 3
    have bf3 : w3.frozen? ⟨w.heap.size + 1 + 1, 3, none⟩ = false := HR3.out.frozen 3
    have b4 : w3.cell? ⟨w.heap.size + 1 + 1, 4, none⟩ = some (.slice none 0 0) := HR3.out.cell 4
    have bf4 : w3.frozen? ⟨w.heap.size + 1 + 1, 4, none⟩ = false := HR3.out.frozen 4
    go_wp2
    clear b0 bf0 b1 bf1 b2 bf2 b3 bf3 b4 bf4
    have k1 := HR3.out.five (.bool Gf) (.string Glo) (.string Ghi) (.int .i64 Gr) (.slice Gp Gn Gc)
    have ht : Tn [w.heap.size + 1 + 1] w3 _ := (Tn.refl _ w3).five (R := w.heap.size + 1 + 1) (.inl (by simp)) (.bool Gf) (.string Glo) (.string Ghi) (.int .i64 Gr) (.slice Gp Gn Gc)
    refine bodyPost_ret (results_one (T' := 29) (cs := [.bool Gf, .string Glo, .string Ghi, .int .i64 Gr, .slice Gp Gn Gc]) rfl rfl pg_agg pg_size rfl k1) rfl ?_
    rw [HF.out]
    exact ⟨.inl ⟨rfl, _, rfl, (HG3.out.tn ht (by have := HS1.out; simp; omega)).mono HB2.out.size⟩, HB3.out.trans (ht.below HB3.out.size (by simp; omega))⟩
  · refine ⟨rfl, ?_⟩
    rw [HF.out]
    exact ⟨.inr ⟨hk0, rfl⟩, HB3.out⟩

set_option maxHeartbeats 2000000 in
theorem applied_3 (pf : Bool) (plo phi : ByteArray) (pr : Int) (pp : Option Addr) (pn pc : Nat) (pl : List En) (dek : ByteArray) (des deg dec : Int) (dkey : ByteArray) (dpg : Int) (dleaf : Bool) (dlo dhi : ByteArray) (dr : Int) (dp : Option Addr) (dn dc : Nat) (dl : List En) (w : World) (hlen : pl.length = pn) (hx : Ens w pp pl) (hl : pn ≤ 3518437208780) (hp : pp = none → pn = 0 ∧ pc = 0) (hdn : dl.length = dn) (hdx : Ens w dp dl) (hdl : (pn + dn) * 40 ≤ 140737488355328) (hdp : dp = none → dn = 0 ∧ dc = 0) (hmay : Dl.may ⟨3, ⟨dek, des, deg, dec⟩, dkey, dpg, ⟨dleaf, dlo, dhi, dr, dl⟩⟩ = true) :
    Calls Tryz.prog 131 #[pgv pf plo phi pr pp pn pc, .agg #[.int .i64 3, .string dek, .int .i64 des, .int .i64 deg, .int .i64 dec, .string dkey, .int .i64 dpg, .bool dleaf, .string dlo, .string dhi, .int .i64 dr, .slice dp dn dc]] w fun e w' => Done w (Dl.apply ⟨pf, plo, phi, pr, pl⟩ ⟨3, ⟨dek, des, deg, dec⟩, dkey, dpg, ⟨dleaf, dlo, dhi, dr, dl⟩⟩) e w' := by
  obtain ⟨out, HO⟩ : ∃ out : Pp × Int, Hid (Dl.apply ⟨pf, plo, phi, pr, pl⟩ ⟨3, ⟨dek, des, deg, dec⟩, dkey, dpg, ⟨dleaf, dlo, dhi, dr, dl⟩⟩ = out) := ⟨_, rfl⟩
  rw [HO.out]
  have HX : Hid (Ens w pp pl) := hx
  have HL : Hid (pl.length = pn) := hlen
  have HDX : Hid (Ens w dp dl) := hdx
  have HDL : Hid (dl.length = dn) := hdn
  have HM : Hid (Dl.may ⟨3, ⟨dek, des, deg, dec⟩, dkey, dpg, ⟨dleaf, dlo, dhi, dr, dl⟩⟩ = true) := hmay
  clear hx hlen hdx hdn hmay
  obtain ⟨w0, hw0⟩ : ∃ w0, ((w.alloc (.cells #[.bool pf, .string plo, .string phi, .int .i64 pr, .slice pp pn pc] 29)).alloc (.cells #[.int .i64 3, .string dek, .int .i64 des, .int .i64 deg, .int .i64 dec, .string dkey, .int .i64 dpg, .bool dleaf, .string dlo, .string dhi, .int .i64 dr, .slice dp dn dc] 35)).alloc (.cells #[.bool false, .string ⟨#[]⟩, .string ⟨#[]⟩, .int .i64 0, .slice none 0 0] 29) = w0 := ⟨_, rfl⟩
  have HB0 : Hid (Below w.heap.size w w0) := by rw [← hw0]; exact (((Below.refl _ _).alloc (Nat.le_refl _) _).alloc (by simp) _).alloc (by simp; omega) _
  have HK0 : Hid (Bk w0 w.heap.size 29 #[.bool pf, .string plo, .string phi, .int .i64 pr, .slice pp pn pc]) := by rw [← hw0]; exact ((Bk.new _ _ _).alloc _).alloc _
  have HD0 : Hid (Bk w0 (w.heap.size + 1) 35 #[.int .i64 3, .string dek, .int .i64 des, .int .i64 deg, .int .i64 dec, .string dkey, .int .i64 dpg, .bool dleaf, .string dlo, .string dhi, .int .i64 dr, .slice dp dn dc]) := by rw [← hw0]; exact (Bk.new1 _ _ _ _).alloc _
  have HR0 : Hid (Bk w0 (w.heap.size + 1 + 1) 29 #[.bool false, .string ⟨#[]⟩, .string ⟨#[]⟩, .int .i64 0, .slice none 0 0]) := by rw [← hw0]; exact Bk.new2 _ _ _ _ _
  have x0 : w0.cell? ⟨w.heap.size + 1, 0, none⟩ = some (.int .i64 3) := HD0.out.cell 0
  have x1 : w0.cell? ⟨w.heap.size + 1, 1, none⟩ = some (.string dek) := HD0.out.cell 1
  have x2 : w0.cell? ⟨w.heap.size + 1, 2, none⟩ = some (.int .i64 des) := HD0.out.cell 2
  have x3 : w0.cell? ⟨w.heap.size + 1, 3, none⟩ = some (.int .i64 deg) := HD0.out.cell 3
  have x4 : w0.cell? ⟨w.heap.size + 1, 4, none⟩ = some (.int .i64 dec) := HD0.out.cell 4
  have x5 : w0.cell? ⟨w.heap.size + 1, 5, none⟩ = some (.string dkey) := HD0.out.cell 5
  have x6 : w0.cell? ⟨w.heap.size + 1, 6, none⟩ = some (.int .i64 dpg) := HD0.out.cell 6
  have x7 : w0.cell? ⟨w.heap.size + 1, 7, none⟩ = some (.bool dleaf) := HD0.out.cell 7
  have x8 : w0.cell? ⟨w.heap.size + 1, 8, none⟩ = some (.string dlo) := HD0.out.cell 8
  have x9 : w0.cell? ⟨w.heap.size + 1, 9, none⟩ = some (.string dhi) := HD0.out.cell 9
  have x10 : w0.cell? ⟨w.heap.size + 1, 10, none⟩ = some (.int .i64 dr) := HD0.out.cell 10
  have x11 : w0.cell? ⟨w.heap.size + 1, 11, none⟩ = some (.slice dp dn dc) := HD0.out.cell 11
  go_enter Tryz.func131, Tryz.ntmps131
  go_wp2_with fail
  clear hw0
  refine (dcheck_any ⟨3, ⟨dek, des, deg, dec⟩, dkey, dpg, ⟨dleaf, dlo, dhi, dr, dl⟩⟩ dp dn dc _ HDL.out (HDX.out.below HB0.out (Nat.le_refl _)) (by omega)).mono ?_
  rw [HM.out]
  rintro e w1 ⟨rfl, hb1⟩
  clear x0 x1 x2 x3 x4 x5 x6 x7 x8 x9 x10 x11
  have HB1 : Hid (Below w.heap.size w w1) := HB0.out.trans (hb1.mono HB0.out.size)
  have HK1 : Hid (Bk w1 w.heap.size 29 #[.bool pf, .string plo, .string phi, .int .i64 pr, .slice pp pn pc]) := HK0.out.below hb1 HK0.out.lt
  have HD1 : Hid (Bk w1 (w.heap.size + 1) 35 #[.int .i64 3, .string dek, .int .i64 des, .int .i64 deg, .int .i64 dec, .string dkey, .int .i64 dpg, .bool dleaf, .string dlo, .string dhi, .int .i64 dr, .slice dp dn dc]) := HD0.out.below hb1 HD0.out.lt
  have HR1 : Hid (Bk w1 (w.heap.size + 1 + 1) 29 #[.bool false, .string ⟨#[]⟩, .string ⟨#[]⟩, .int .i64 0, .slice none 0 0]) := HR0.out.below hb1 HR0.out.lt
  have HS1 : Hid (w.heap.size + 1 + 1 < w1.heap.size) := HR1.out.lt
  clear hb1
  simp only [if_true]
  go_wp2_with fail
  refine (refuse_ok _).mono ?_
  rintro e w2 ⟨rfl, hw2⟩
  have HB2 : Hid (Below w.heap.size w w2) := by rw [hw2]; exact HB1.out
  have HK2 : Hid (Bk w2 w.heap.size 29 #[.bool pf, .string plo, .string phi, .int .i64 pr, .slice pp pn pc]) := by rw [hw2]; exact HK1.out
  have HD2 : Hid (Bk w2 (w.heap.size + 1) 35 #[.int .i64 3, .string dek, .int .i64 des, .int .i64 deg, .int .i64 dec, .string dkey, .int .i64 dpg, .bool dleaf, .string dlo, .string dhi, .int .i64 dr, .slice dp dn dc]) := by rw [hw2]; exact HD1.out
  have HR2 : Hid (Bk w2 (w.heap.size + 1 + 1) 29 #[.bool false, .string ⟨#[]⟩, .string ⟨#[]⟩, .int .i64 0, .slice none 0 0]) := by rw [hw2]; exact HR1.out
  have HS1 : Hid (w.heap.size + 1 + 1 < w2.heap.size) := HR2.out.lt
  clear hw2 HB1 HK1 HD1 HR1
  have a0 : w2.cell? ⟨w.heap.size, 0, none⟩ = some (.bool pf) := HK2.out.cell 0
  have a1 : w2.cell? ⟨w.heap.size, 1, none⟩ = some (.string plo) := HK2.out.cell 1
  have a2 : w2.cell? ⟨w.heap.size, 2, none⟩ = some (.string phi) := HK2.out.cell 2
  have a3 : w2.cell? ⟨w.heap.size, 3, none⟩ = some (.int .i64 pr) := HK2.out.cell 3
  have a4 : w2.cell? ⟨w.heap.size, 4, none⟩ = some (.slice pp pn pc) := HK2.out.cell 4
  have x0 : w2.cell? ⟨w.heap.size + 1, 0, none⟩ = some (.int .i64 3) := HD2.out.cell 0
  have x1 : w2.cell? ⟨w.heap.size + 1, 1, none⟩ = some (.string dek) := HD2.out.cell 1
  have x2 : w2.cell? ⟨w.heap.size + 1, 2, none⟩ = some (.int .i64 des) := HD2.out.cell 2
  have x3 : w2.cell? ⟨w.heap.size + 1, 3, none⟩ = some (.int .i64 deg) := HD2.out.cell 3
  have x4 : w2.cell? ⟨w.heap.size + 1, 4, none⟩ = some (.int .i64 dec) := HD2.out.cell 4
  have x5 : w2.cell? ⟨w.heap.size + 1, 5, none⟩ = some (.string dkey) := HD2.out.cell 5
  have x6 : w2.cell? ⟨w.heap.size + 1, 6, none⟩ = some (.int .i64 dpg) := HD2.out.cell 6
  have x7 : w2.cell? ⟨w.heap.size + 1, 7, none⟩ = some (.bool dleaf) := HD2.out.cell 7
  have x8 : w2.cell? ⟨w.heap.size + 1, 8, none⟩ = some (.string dlo) := HD2.out.cell 8
  have x9 : w2.cell? ⟨w.heap.size + 1, 9, none⟩ = some (.string dhi) := HD2.out.cell 9
  have x10 : w2.cell? ⟨w.heap.size + 1, 10, none⟩ = some (.int .i64 dr) := HD2.out.cell 10
  have x11 : w2.cell? ⟨w.heap.size + 1, 11, none⟩ = some (.slice dp dn dc) := HD2.out.cell 11
  go_wp2_with fail
  refine (upTo_any pf plo phi pr pp pn pc pl dkey dpg _ HL.out (HX.out.below HB2.out (Nat.le_refl _)) (by omega) (fun h => (hp h).1)).mono ?_
  obtain ⟨⟨G, kk⟩, hpt⟩ : ∃ o : Pp × Int, (if Ky.lt plo dkey && Ky.inn ⟨plo, phi⟩ dkey then (Dl.upTo ⟨pf, plo, phi, pr, pl⟩ dkey dpg, 0) else (Pg.zero, 90) : Pp × Int) = o := ⟨_, rfl⟩
  rw [hpt]
  rintro e w3 ⟨hdone, hb3⟩
  clear a0 a1 a2 a3 a4
  clear x0 x1 x2 x3 x4 x5 x6 x7 x8 x9 x10 x11
  have HF : Hid (out = (G, kk)) := by rw [Hid, ← HO.out, show Dl.apply ⟨pf, plo, phi, pr, pl⟩ ⟨3, ⟨dek, des, deg, dec⟩, dkey, dpg, ⟨dleaf, dlo, dhi, dr, dl⟩⟩ = _ from Dl.apply_3 HM.out, hpt]
  have HB3 : Hid (Below w.heap.size w w3) := HB2.out.trans (hb3.mono HB2.out.size)
  have HR3 : Hid (Bk w3 (w.heap.size + 1 + 1) 29 #[.bool false, .string ⟨#[]⟩, .string ⟨#[]⟩, .int .i64 0, .slice none 0 0]) := HR2.out.below hb3 HR2.out.lt
  rcases hdone with ⟨hk0, v3, rfl, hg3⟩ | ⟨hk0, rfl⟩
  · simp only at hk0 hg3
    subst hk0
    obtain ⟨Gf, Glo, Ghi, Gr, Gl⟩ := G
    obtain ⟨Gp, Gc, rfl, hg4⟩ := hg3.pv
    simp only at hg4 ⊢
    obtain ⟨Gn, hGn⟩ : ∃ Gn, Gl.length = Gn := ⟨_, rfl⟩
    rw [hGn] at hg4 ⊢
    have HG3 : Hid (PgAt w3 w2.heap.size (pgv Gf Glo Ghi Gr Gp Gn Gc) ⟨Gf, Glo, Ghi, Gr, Gl⟩) := hg4
    clear hg3 hg4 hb3 hGn hpt
    have b0 : w3.cell? ⟨w.heap.size + 1 + 1, 0, none⟩ = some (.bool false) := HR3.out.cell 0
    have bf0 : w3.frozen? ⟨w.heap.size + 1 + 1, 0, none⟩ = false := HR3.out.frozen 0
    have b1 : w3.cell? ⟨w.heap.size + 1 + 1, 1, none⟩ = some (.string ⟨#[]⟩) := HR3.out.cell 1
    have bf1 : w3.frozen? ⟨w.heap.size + 1 + 1, 1, none⟩ = false := HR3.out.frozen 1
    have b2 : w3.cell? ⟨w.heap.size + 1 + 1, 2, none⟩ = some (.string ⟨#[]⟩) := HR3.out.cell 2
    have bf2 : w3.frozen? ⟨w.heap.size + 1 + 1, 2, none⟩ = false := HR3.out.frozen 2
    have b3 : w3.cell? ⟨w.heap.size + 1 + 1, 3, none⟩ = some (.int .i64 0) := HR3.out.cell 3
    have bf3 : w3.frozen? ⟨w.heap.size + 1 + 1, 3, none⟩ = false := HR3.out.frozen 3
    have b4 : w3.cell? ⟨w.heap.size + 1 + 1, 4, none⟩ = some (.slice none 0 0) := HR3.out.cell 4
    have bf4 : w3.frozen? ⟨w.heap.size + 1 + 1, 4, none⟩ = false := HR3.out.frozen 4
    go_wp2
    clear b0 bf0 b1 bf1 b2 bf2 b3 bf3 b4 bf4
    have k1 := HR3.out.five (.bool Gf) (.string Glo) (.string Ghi) (.int .i64 Gr) (.slice Gp Gn Gc)
    have ht : Tn [w.heap.size + 1 + 1] w3 _ := (Tn.refl _ w3).five (R := w.heap.size + 1 + 1) (.inl (by simp)) (.bool Gf) (.string Glo) (.string Ghi) (.int .i64 Gr) (.slice Gp Gn Gc)
    refine bodyPost_ret (results_one (T' := 29) (cs := [.bool Gf, .string Glo, .string Ghi, .int .i64 Gr, .slice Gp Gn Gc]) rfl rfl pg_agg pg_size rfl k1) rfl ?_
    rw [HF.out]
    exact ⟨.inl ⟨rfl, _, rfl, (HG3.out.tn ht (by have := HS1.out; simp; omega)).mono HB2.out.size⟩, HB3.out.trans (ht.below HB3.out.size (by simp; omega))⟩
  · refine ⟨rfl, ?_⟩
    rw [HF.out]
    exact ⟨.inr ⟨hk0, rfl⟩, HB3.out⟩

set_option maxHeartbeats 2000000 in
theorem applied_4 (pf : Bool) (plo phi : ByteArray) (pr : Int) (pp : Option Addr) (pn pc : Nat) (pl : List En) (dek : ByteArray) (des deg dec : Int) (dkey : ByteArray) (dpg : Int) (dleaf : Bool) (dlo dhi : ByteArray) (dr : Int) (dp : Option Addr) (dn dc : Nat) (dl : List En) (w : World) (hlen : pl.length = pn) (hx : Ens w pp pl) (hl : pn ≤ 3518437208780) (hp : pp = none → pn = 0 ∧ pc = 0) (hdn : dl.length = dn) (hdx : Ens w dp dl) (hdl : (pn + dn) * 40 ≤ 140737488355328) (hdp : dp = none → dn = 0 ∧ dc = 0) (hmay : Dl.may ⟨4, ⟨dek, des, deg, dec⟩, dkey, dpg, ⟨dleaf, dlo, dhi, dr, dl⟩⟩ = true) :
    Calls Tryz.prog 131 #[pgv pf plo phi pr pp pn pc, .agg #[.int .i64 4, .string dek, .int .i64 des, .int .i64 deg, .int .i64 dec, .string dkey, .int .i64 dpg, .bool dleaf, .string dlo, .string dhi, .int .i64 dr, .slice dp dn dc]] w fun e w' => Done w (Dl.apply ⟨pf, plo, phi, pr, pl⟩ ⟨4, ⟨dek, des, deg, dec⟩, dkey, dpg, ⟨dleaf, dlo, dhi, dr, dl⟩⟩) e w' := by
  obtain ⟨out, HO⟩ : ∃ out : Pp × Int, Hid (Dl.apply ⟨pf, plo, phi, pr, pl⟩ ⟨4, ⟨dek, des, deg, dec⟩, dkey, dpg, ⟨dleaf, dlo, dhi, dr, dl⟩⟩ = out) := ⟨_, rfl⟩
  rw [HO.out]
  have HX : Hid (Ens w pp pl) := hx
  have HL : Hid (pl.length = pn) := hlen
  have HDX : Hid (Ens w dp dl) := hdx
  have HDL : Hid (dl.length = dn) := hdn
  have HM : Hid (Dl.may ⟨4, ⟨dek, des, deg, dec⟩, dkey, dpg, ⟨dleaf, dlo, dhi, dr, dl⟩⟩ = true) := hmay
  clear hx hlen hdx hdn hmay
  obtain ⟨w0, hw0⟩ : ∃ w0, ((w.alloc (.cells #[.bool pf, .string plo, .string phi, .int .i64 pr, .slice pp pn pc] 29)).alloc (.cells #[.int .i64 4, .string dek, .int .i64 des, .int .i64 deg, .int .i64 dec, .string dkey, .int .i64 dpg, .bool dleaf, .string dlo, .string dhi, .int .i64 dr, .slice dp dn dc] 35)).alloc (.cells #[.bool false, .string ⟨#[]⟩, .string ⟨#[]⟩, .int .i64 0, .slice none 0 0] 29) = w0 := ⟨_, rfl⟩
  have HB0 : Hid (Below w.heap.size w w0) := by rw [← hw0]; exact (((Below.refl _ _).alloc (Nat.le_refl _) _).alloc (by simp) _).alloc (by simp; omega) _
  have HK0 : Hid (Bk w0 w.heap.size 29 #[.bool pf, .string plo, .string phi, .int .i64 pr, .slice pp pn pc]) := by rw [← hw0]; exact ((Bk.new _ _ _).alloc _).alloc _
  have HD0 : Hid (Bk w0 (w.heap.size + 1) 35 #[.int .i64 4, .string dek, .int .i64 des, .int .i64 deg, .int .i64 dec, .string dkey, .int .i64 dpg, .bool dleaf, .string dlo, .string dhi, .int .i64 dr, .slice dp dn dc]) := by rw [← hw0]; exact (Bk.new1 _ _ _ _).alloc _
  have HR0 : Hid (Bk w0 (w.heap.size + 1 + 1) 29 #[.bool false, .string ⟨#[]⟩, .string ⟨#[]⟩, .int .i64 0, .slice none 0 0]) := by rw [← hw0]; exact Bk.new2 _ _ _ _ _
  have x0 : w0.cell? ⟨w.heap.size + 1, 0, none⟩ = some (.int .i64 4) := HD0.out.cell 0
  have x1 : w0.cell? ⟨w.heap.size + 1, 1, none⟩ = some (.string dek) := HD0.out.cell 1
  have x2 : w0.cell? ⟨w.heap.size + 1, 2, none⟩ = some (.int .i64 des) := HD0.out.cell 2
  have x3 : w0.cell? ⟨w.heap.size + 1, 3, none⟩ = some (.int .i64 deg) := HD0.out.cell 3
  have x4 : w0.cell? ⟨w.heap.size + 1, 4, none⟩ = some (.int .i64 dec) := HD0.out.cell 4
  have x5 : w0.cell? ⟨w.heap.size + 1, 5, none⟩ = some (.string dkey) := HD0.out.cell 5
  have x6 : w0.cell? ⟨w.heap.size + 1, 6, none⟩ = some (.int .i64 dpg) := HD0.out.cell 6
  have x7 : w0.cell? ⟨w.heap.size + 1, 7, none⟩ = some (.bool dleaf) := HD0.out.cell 7
  have x8 : w0.cell? ⟨w.heap.size + 1, 8, none⟩ = some (.string dlo) := HD0.out.cell 8
  have x9 : w0.cell? ⟨w.heap.size + 1, 9, none⟩ = some (.string dhi) := HD0.out.cell 9
  have x10 : w0.cell? ⟨w.heap.size + 1, 10, none⟩ = some (.int .i64 dr) := HD0.out.cell 10
  have x11 : w0.cell? ⟨w.heap.size + 1, 11, none⟩ = some (.slice dp dn dc) := HD0.out.cell 11
  go_enter Tryz.func131, Tryz.ntmps131
  go_wp2_with fail
  clear hw0
  refine (dcheck_any ⟨4, ⟨dek, des, deg, dec⟩, dkey, dpg, ⟨dleaf, dlo, dhi, dr, dl⟩⟩ dp dn dc _ HDL.out (HDX.out.below HB0.out (Nat.le_refl _)) (by omega)).mono ?_
  rw [HM.out]
  rintro e w1 ⟨rfl, hb1⟩
  clear x0 x1 x2 x3 x4 x5 x6 x7 x8 x9 x10 x11
  have HB1 : Hid (Below w.heap.size w w1) := HB0.out.trans (hb1.mono HB0.out.size)
  have HK1 : Hid (Bk w1 w.heap.size 29 #[.bool pf, .string plo, .string phi, .int .i64 pr, .slice pp pn pc]) := HK0.out.below hb1 HK0.out.lt
  have HD1 : Hid (Bk w1 (w.heap.size + 1) 35 #[.int .i64 4, .string dek, .int .i64 des, .int .i64 deg, .int .i64 dec, .string dkey, .int .i64 dpg, .bool dleaf, .string dlo, .string dhi, .int .i64 dr, .slice dp dn dc]) := HD0.out.below hb1 HD0.out.lt
  have HR1 : Hid (Bk w1 (w.heap.size + 1 + 1) 29 #[.bool false, .string ⟨#[]⟩, .string ⟨#[]⟩, .int .i64 0, .slice none 0 0]) := HR0.out.below hb1 HR0.out.lt
  have HS1 : Hid (w.heap.size + 1 + 1 < w1.heap.size) := HR1.out.lt
  clear hb1
  simp only [if_true]
  go_wp2_with fail
  refine (refuse_ok _).mono ?_
  rintro e w2 ⟨rfl, hw2⟩
  have HB2 : Hid (Below w.heap.size w w2) := by rw [hw2]; exact HB1.out
  have HK2 : Hid (Bk w2 w.heap.size 29 #[.bool pf, .string plo, .string phi, .int .i64 pr, .slice pp pn pc]) := by rw [hw2]; exact HK1.out
  have HD2 : Hid (Bk w2 (w.heap.size + 1) 35 #[.int .i64 4, .string dek, .int .i64 des, .int .i64 deg, .int .i64 dec, .string dkey, .int .i64 dpg, .bool dleaf, .string dlo, .string dhi, .int .i64 dr, .slice dp dn dc]) := by rw [hw2]; exact HD1.out
  have HR2 : Hid (Bk w2 (w.heap.size + 1 + 1) 29 #[.bool false, .string ⟨#[]⟩, .string ⟨#[]⟩, .int .i64 0, .slice none 0 0]) := by rw [hw2]; exact HR1.out
  have HS1 : Hid (w.heap.size + 1 + 1 < w2.heap.size) := HR2.out.lt
  clear hw2 HB1 HK1 HD1 HR1
  have a0 : w2.cell? ⟨w.heap.size, 0, none⟩ = some (.bool pf) := HK2.out.cell 0
  have a1 : w2.cell? ⟨w.heap.size, 1, none⟩ = some (.string plo) := HK2.out.cell 1
  have a2 : w2.cell? ⟨w.heap.size, 2, none⟩ = some (.string phi) := HK2.out.cell 2
  have a3 : w2.cell? ⟨w.heap.size, 3, none⟩ = some (.int .i64 pr) := HK2.out.cell 3
  have a4 : w2.cell? ⟨w.heap.size, 4, none⟩ = some (.slice pp pn pc) := HK2.out.cell 4
  have x0 : w2.cell? ⟨w.heap.size + 1, 0, none⟩ = some (.int .i64 4) := HD2.out.cell 0
  have x1 : w2.cell? ⟨w.heap.size + 1, 1, none⟩ = some (.string dek) := HD2.out.cell 1
  have x2 : w2.cell? ⟨w.heap.size + 1, 2, none⟩ = some (.int .i64 des) := HD2.out.cell 2
  have x3 : w2.cell? ⟨w.heap.size + 1, 3, none⟩ = some (.int .i64 deg) := HD2.out.cell 3
  have x4 : w2.cell? ⟨w.heap.size + 1, 4, none⟩ = some (.int .i64 dec) := HD2.out.cell 4
  have x5 : w2.cell? ⟨w.heap.size + 1, 5, none⟩ = some (.string dkey) := HD2.out.cell 5
  have x6 : w2.cell? ⟨w.heap.size + 1, 6, none⟩ = some (.int .i64 dpg) := HD2.out.cell 6
  have x7 : w2.cell? ⟨w.heap.size + 1, 7, none⟩ = some (.bool dleaf) := HD2.out.cell 7
  have x8 : w2.cell? ⟨w.heap.size + 1, 8, none⟩ = some (.string dlo) := HD2.out.cell 8
  have x9 : w2.cell? ⟨w.heap.size + 1, 9, none⟩ = some (.string dhi) := HD2.out.cell 9
  have x10 : w2.cell? ⟨w.heap.size + 1, 10, none⟩ = some (.int .i64 dr) := HD2.out.cell 10
  have x11 : w2.cell? ⟨w.heap.size + 1, 11, none⟩ = some (.slice dp dn dc) := HD2.out.cell 11
  go_wp2_with fail
  refine (merge_any ⟨pf, plo, phi, pr, pl⟩ ⟨dleaf, dlo, dhi, dr, dl⟩ pp dp pn dn pc dc _ HL.out HDL.out (HX.out.below HB2.out (Nat.le_refl _)) (HDX.out.below HB2.out (Nat.le_refl _)) hp hdp hdl (by omega)).mono ?_
  obtain ⟨⟨G, kk⟩, hpt⟩ : ∃ o : Pp × Int, Pg.merge ⟨pf, plo, phi, pr, pl⟩ ⟨dleaf, dlo, dhi, dr, dl⟩ = o := ⟨_, rfl⟩
  rw [hpt]
  rintro e w3 ⟨v3, rfl, hg3, hb3⟩
  clear a0 a1 a2 a3 a4
  clear x0 x1 x2 x3 x4 x5 x6 x7 x8 x9 x10 x11
  have HF : Hid (out = (G, kk)) := by rw [Hid, ← HO.out, show Dl.apply ⟨pf, plo, phi, pr, pl⟩ ⟨4, ⟨dek, des, deg, dec⟩, dkey, dpg, ⟨dleaf, dlo, dhi, dr, dl⟩⟩ = _ from Dl.apply_4 HM.out, hpt]
  have HB3 : Hid (Below w.heap.size w w3) := HB2.out.trans (hb3.mono HB2.out.size)
  have HR3 : Hid (Bk w3 (w.heap.size + 1 + 1) 29 #[.bool false, .string ⟨#[]⟩, .string ⟨#[]⟩, .int .i64 0, .slice none 0 0]) := HR2.out.below hb3 HR2.out.lt
  have HBW3 : Hid (w2.heap.size ≤ w3.heap.size) := hb3.size
  obtain ⟨Gf, Glo, Ghi, Gr, Gl⟩ := G
  obtain ⟨Gp, Gc, rfl, hg4⟩ := hg3.pv
  simp only at hg4 ⊢
  obtain ⟨Gn, hGn⟩ : ∃ Gn, Gl.length = Gn := ⟨_, rfl⟩
  rw [hGn] at hg4 ⊢
  have HG3 : Hid (PgAt w3 w2.heap.size (pgv Gf Glo Ghi Gr Gp Gn Gc) ⟨Gf, Glo, Ghi, Gr, Gl⟩) := hg4
  clear hg3 hg4 hb3 hGn hpt
  by_cases hk0 : kk = 0
  · subst hk0
    go_wp2_with fail
    refine (sure_ok Gf Glo Ghi Gr Gp Gn Gc _).mono ?_
    rintro e w4 ⟨rfl, hb4⟩
    have HB4 : Hid (Below w.heap.size w w4) := HB3.out.trans (hb4.mono HB3.out.size)
    have HR4 : Hid (Bk w4 (w.heap.size + 1 + 1) 29 #[.bool false, .string ⟨#[]⟩, .string ⟨#[]⟩, .int .i64 0, .slice none 0 0]) := HR3.out.below hb4 HR3.out.lt
    have HG4 : Hid (PgAt w4 w2.heap.size (pgv Gf Glo Ghi Gr Gp Gn Gc) ⟨Gf, Glo, Ghi, Gr, Gl⟩) := HG3.out.below hb4 (Nat.le_refl _)
    clear hb4
    have b0 : w4.cell? ⟨w.heap.size + 1 + 1, 0, none⟩ = some (.bool false) := HR4.out.cell 0
    have bf0 : w4.frozen? ⟨w.heap.size + 1 + 1, 0, none⟩ = false := HR4.out.frozen 0
    have b1 : w4.cell? ⟨w.heap.size + 1 + 1, 1, none⟩ = some (.string ⟨#[]⟩) := HR4.out.cell 1
    have bf1 : w4.frozen? ⟨w.heap.size + 1 + 1, 1, none⟩ = false := HR4.out.frozen 1
    have b2 : w4.cell? ⟨w.heap.size + 1 + 1, 2, none⟩ = some (.string ⟨#[]⟩) := HR4.out.cell 2
    have bf2 : w4.frozen? ⟨w.heap.size + 1 + 1, 2, none⟩ = false := HR4.out.frozen 2
    have b3 : w4.cell? ⟨w.heap.size + 1 + 1, 3, none⟩ = some (.int .i64 0) := HR4.out.cell 3
    have bf3 : w4.frozen? ⟨w.heap.size + 1 + 1, 3, none⟩ = false := HR4.out.frozen 3
    have b4 : w4.cell? ⟨w.heap.size + 1 + 1, 4, none⟩ = some (.slice none 0 0) := HR4.out.cell 4
    have bf4 : w4.frozen? ⟨w.heap.size + 1 + 1, 4, none⟩ = false := HR4.out.frozen 4
    go_wp2
    clear b0 bf0 b1 bf1 b2 bf2 b3 bf3 b4 bf4
    have k1 := HR4.out.five (.bool Gf) (.string Glo) (.string Ghi) (.int .i64 Gr) (.slice Gp Gn Gc)
    have ht : Tn [w.heap.size + 1 + 1] w4 _ := (Tn.refl _ w4).five (R := w.heap.size + 1 + 1) (.inl (by simp)) (.bool Gf) (.string Glo) (.string Ghi) (.int .i64 Gr) (.slice Gp Gn Gc)
    refine bodyPost_ret (results_one (T' := 29) (cs := [.bool Gf, .string Glo, .string Ghi, .int .i64 Gr, .slice Gp Gn Gc]) rfl rfl pg_agg pg_size rfl k1) rfl ?_
    rw [HF.out]
    exact ⟨.inl ⟨rfl, _, rfl, (HG4.out.tn ht (by have := HS1.out; simp; omega)).mono HB2.out.size⟩, HB4.out.trans (ht.below HB4.out.size (by simp; omega))⟩
  · go_wp2_with fail
    refine (sure_no Gf Glo Ghi Gr Gp Gn Gc _ kk hk0).mono ?_
    rintro e w4 ⟨rfl, hb4⟩
    have HB4 : Hid (Below w.heap.size w w4) := HB3.out.trans (hb4.mono HB3.out.size)
    have HR4 : Hid (Bk w4 (w.heap.size + 1 + 1) 29 #[.bool false, .string ⟨#[]⟩, .string ⟨#[]⟩, .int .i64 0, .slice none 0 0]) := HR3.out.below hb4 HR3.out.lt
    refine ⟨rfl, ?_⟩
    rw [HF.out]
    exact ⟨.inr ⟨hk0, rfl⟩, HB4.out⟩

set_option maxHeartbeats 2000000 in
theorem applied_5 (pf : Bool) (plo phi : ByteArray) (pr : Int) (pp : Option Addr) (pn pc : Nat) (pl : List En) (dek : ByteArray) (des deg dec : Int) (dkey : ByteArray) (dpg : Int) (dleaf : Bool) (dlo dhi : ByteArray) (dr : Int) (dp : Option Addr) (dn dc : Nat) (dl : List En) (w : World) (hlen : pl.length = pn) (hx : Ens w pp pl) (hl : pn ≤ 3518437208780) (hp : pp = none → pn = 0 ∧ pc = 0) (hdn : dl.length = dn) (hdx : Ens w dp dl) (hdl : (pn + dn) * 40 ≤ 140737488355328) (hdp : dp = none → dn = 0 ∧ dc = 0) (hmay : Dl.may ⟨5, ⟨dek, des, deg, dec⟩, dkey, dpg, ⟨dleaf, dlo, dhi, dr, dl⟩⟩ = true) :
    Calls Tryz.prog 131 #[pgv pf plo phi pr pp pn pc, .agg #[.int .i64 5, .string dek, .int .i64 des, .int .i64 deg, .int .i64 dec, .string dkey, .int .i64 dpg, .bool dleaf, .string dlo, .string dhi, .int .i64 dr, .slice dp dn dc]] w fun e w' => Done w (Dl.apply ⟨pf, plo, phi, pr, pl⟩ ⟨5, ⟨dek, des, deg, dec⟩, dkey, dpg, ⟨dleaf, dlo, dhi, dr, dl⟩⟩) e w' := by
  obtain ⟨out, HO⟩ : ∃ out : Pp × Int, Hid (Dl.apply ⟨pf, plo, phi, pr, pl⟩ ⟨5, ⟨dek, des, deg, dec⟩, dkey, dpg, ⟨dleaf, dlo, dhi, dr, dl⟩⟩ = out) := ⟨_, rfl⟩
  rw [HO.out]
  have HX : Hid (Ens w pp pl) := hx
  have HL : Hid (pl.length = pn) := hlen
  have HDX : Hid (Ens w dp dl) := hdx
  have HDL : Hid (dl.length = dn) := hdn
  have HM : Hid (Dl.may ⟨5, ⟨dek, des, deg, dec⟩, dkey, dpg, ⟨dleaf, dlo, dhi, dr, dl⟩⟩ = true) := hmay
  clear hx hlen hdx hdn hmay
  obtain ⟨w0, hw0⟩ : ∃ w0, ((w.alloc (.cells #[.bool pf, .string plo, .string phi, .int .i64 pr, .slice pp pn pc] 29)).alloc (.cells #[.int .i64 5, .string dek, .int .i64 des, .int .i64 deg, .int .i64 dec, .string dkey, .int .i64 dpg, .bool dleaf, .string dlo, .string dhi, .int .i64 dr, .slice dp dn dc] 35)).alloc (.cells #[.bool false, .string ⟨#[]⟩, .string ⟨#[]⟩, .int .i64 0, .slice none 0 0] 29) = w0 := ⟨_, rfl⟩
  have HB0 : Hid (Below w.heap.size w w0) := by rw [← hw0]; exact (((Below.refl _ _).alloc (Nat.le_refl _) _).alloc (by simp) _).alloc (by simp; omega) _
  have HK0 : Hid (Bk w0 w.heap.size 29 #[.bool pf, .string plo, .string phi, .int .i64 pr, .slice pp pn pc]) := by rw [← hw0]; exact ((Bk.new _ _ _).alloc _).alloc _
  have HD0 : Hid (Bk w0 (w.heap.size + 1) 35 #[.int .i64 5, .string dek, .int .i64 des, .int .i64 deg, .int .i64 dec, .string dkey, .int .i64 dpg, .bool dleaf, .string dlo, .string dhi, .int .i64 dr, .slice dp dn dc]) := by rw [← hw0]; exact (Bk.new1 _ _ _ _).alloc _
  have HR0 : Hid (Bk w0 (w.heap.size + 1 + 1) 29 #[.bool false, .string ⟨#[]⟩, .string ⟨#[]⟩, .int .i64 0, .slice none 0 0]) := by rw [← hw0]; exact Bk.new2 _ _ _ _ _
  have x0 : w0.cell? ⟨w.heap.size + 1, 0, none⟩ = some (.int .i64 5) := HD0.out.cell 0
  have x1 : w0.cell? ⟨w.heap.size + 1, 1, none⟩ = some (.string dek) := HD0.out.cell 1
  have x2 : w0.cell? ⟨w.heap.size + 1, 2, none⟩ = some (.int .i64 des) := HD0.out.cell 2
  have x3 : w0.cell? ⟨w.heap.size + 1, 3, none⟩ = some (.int .i64 deg) := HD0.out.cell 3
  have x4 : w0.cell? ⟨w.heap.size + 1, 4, none⟩ = some (.int .i64 dec) := HD0.out.cell 4
  have x5 : w0.cell? ⟨w.heap.size + 1, 5, none⟩ = some (.string dkey) := HD0.out.cell 5
  have x6 : w0.cell? ⟨w.heap.size + 1, 6, none⟩ = some (.int .i64 dpg) := HD0.out.cell 6
  have x7 : w0.cell? ⟨w.heap.size + 1, 7, none⟩ = some (.bool dleaf) := HD0.out.cell 7
  have x8 : w0.cell? ⟨w.heap.size + 1, 8, none⟩ = some (.string dlo) := HD0.out.cell 8
  have x9 : w0.cell? ⟨w.heap.size + 1, 9, none⟩ = some (.string dhi) := HD0.out.cell 9
  have x10 : w0.cell? ⟨w.heap.size + 1, 10, none⟩ = some (.int .i64 dr) := HD0.out.cell 10
  have x11 : w0.cell? ⟨w.heap.size + 1, 11, none⟩ = some (.slice dp dn dc) := HD0.out.cell 11
  go_enter Tryz.func131, Tryz.ntmps131
  go_wp2_with fail
  clear hw0
  refine (dcheck_any ⟨5, ⟨dek, des, deg, dec⟩, dkey, dpg, ⟨dleaf, dlo, dhi, dr, dl⟩⟩ dp dn dc _ HDL.out (HDX.out.below HB0.out (Nat.le_refl _)) (by omega)).mono ?_
  rw [HM.out]
  rintro e w1 ⟨rfl, hb1⟩
  clear x0 x1 x2 x3 x4 x5 x6 x7 x8 x9 x10 x11
  have HB1 : Hid (Below w.heap.size w w1) := HB0.out.trans (hb1.mono HB0.out.size)
  have HK1 : Hid (Bk w1 w.heap.size 29 #[.bool pf, .string plo, .string phi, .int .i64 pr, .slice pp pn pc]) := HK0.out.below hb1 HK0.out.lt
  have HD1 : Hid (Bk w1 (w.heap.size + 1) 35 #[.int .i64 5, .string dek, .int .i64 des, .int .i64 deg, .int .i64 dec, .string dkey, .int .i64 dpg, .bool dleaf, .string dlo, .string dhi, .int .i64 dr, .slice dp dn dc]) := HD0.out.below hb1 HD0.out.lt
  have HR1 : Hid (Bk w1 (w.heap.size + 1 + 1) 29 #[.bool false, .string ⟨#[]⟩, .string ⟨#[]⟩, .int .i64 0, .slice none 0 0]) := HR0.out.below hb1 HR0.out.lt
  have HS1 : Hid (w.heap.size + 1 + 1 < w1.heap.size) := HR1.out.lt
  clear hb1
  simp only [if_true]
  go_wp2_with fail
  refine (refuse_ok _).mono ?_
  rintro e w2 ⟨rfl, hw2⟩
  have HB2 : Hid (Below w.heap.size w w2) := by rw [hw2]; exact HB1.out
  have HK2 : Hid (Bk w2 w.heap.size 29 #[.bool pf, .string plo, .string phi, .int .i64 pr, .slice pp pn pc]) := by rw [hw2]; exact HK1.out
  have HD2 : Hid (Bk w2 (w.heap.size + 1) 35 #[.int .i64 5, .string dek, .int .i64 des, .int .i64 deg, .int .i64 dec, .string dkey, .int .i64 dpg, .bool dleaf, .string dlo, .string dhi, .int .i64 dr, .slice dp dn dc]) := by rw [hw2]; exact HD1.out
  have HR2 : Hid (Bk w2 (w.heap.size + 1 + 1) 29 #[.bool false, .string ⟨#[]⟩, .string ⟨#[]⟩, .int .i64 0, .slice none 0 0]) := by rw [hw2]; exact HR1.out
  have HS1 : Hid (w.heap.size + 1 + 1 < w2.heap.size) := HR2.out.lt
  clear hw2 HB1 HK1 HD1 HR1
  have x0 : w2.cell? ⟨w.heap.size + 1, 0, none⟩ = some (.int .i64 5) := HD2.out.cell 0
  have x1 : w2.cell? ⟨w.heap.size + 1, 1, none⟩ = some (.string dek) := HD2.out.cell 1
  have x2 : w2.cell? ⟨w.heap.size + 1, 2, none⟩ = some (.int .i64 des) := HD2.out.cell 2
  have x3 : w2.cell? ⟨w.heap.size + 1, 3, none⟩ = some (.int .i64 deg) := HD2.out.cell 3
  have x4 : w2.cell? ⟨w.heap.size + 1, 4, none⟩ = some (.int .i64 dec) := HD2.out.cell 4
  have x5 : w2.cell? ⟨w.heap.size + 1, 5, none⟩ = some (.string dkey) := HD2.out.cell 5
  have x6 : w2.cell? ⟨w.heap.size + 1, 6, none⟩ = some (.int .i64 dpg) := HD2.out.cell 6
  have x7 : w2.cell? ⟨w.heap.size + 1, 7, none⟩ = some (.bool dleaf) := HD2.out.cell 7
  have x8 : w2.cell? ⟨w.heap.size + 1, 8, none⟩ = some (.string dlo) := HD2.out.cell 8
  have x9 : w2.cell? ⟨w.heap.size + 1, 9, none⟩ = some (.string dhi) := HD2.out.cell 9
  have x10 : w2.cell? ⟨w.heap.size + 1, 10, none⟩ = some (.int .i64 dr) := HD2.out.cell 10
  have x11 : w2.cell? ⟨w.heap.size + 1, 11, none⟩ = some (.slice dp dn dc) := HD2.out.cell 11
  go_wp2
  refine ⟨rfl, ?_⟩
  rw [← HO.out, Dl.apply_5 HM.out]
  exact ⟨.inr ⟨by decide, rfl⟩, HB2.out⟩

theorem Dl.apply_zero (g : Pp) (d : De) (h : (Dl.apply g d).2 ≠ 0) : (Dl.apply g d).1 = Pg.zero := by
  unfold Dl.apply at h ⊢
  by_cases hm : Dl.may d = true
  · rw [if_pos hm] at h ⊢
    by_cases h1 : d.k = 1
    · rw [if_pos h1] at h ⊢
      unfold Pg.put at h ⊢
      split
      · rename_i hh
        rw [if_pos hh] at h
        exact absurd rfl h
      · rfl
    · rw [if_neg h1] at h ⊢
      by_cases h2 : d.k = 2
      · rw [if_pos h2] at h ⊢
        split
        · rename_i hh
          rw [if_pos hh] at h
          exact absurd rfl h
        · rfl
      · rw [if_neg h2] at h ⊢
        by_cases h3 : d.k = 3
        · rw [if_pos h3] at h ⊢
          split
          · rename_i hh
            rw [if_pos hh] at h
            exact absurd rfl h
          · rfl
        · rw [if_neg h3] at h ⊢
          by_cases h4 : d.k = 4
          · rw [if_pos h4] at h ⊢
            unfold Pg.merge at h ⊢
            split
            · rename_i hh
              rw [if_pos hh] at h
              exact absurd rfl h
            · rfl
          · rw [if_neg h4]
  · rw [if_neg hm]

theorem applied_any (g : Pp) (d : De) (pp dp : Option Addr) (pn pc dn dc : Nat) (w : World) (hlen : g.l.length = pn) (hx : Ens w pp g.l) (hl : pn ≤ 3518437208780) (hp : pp = none → pn = 0 ∧ pc = 0) (hdn : d.rt.l.length = dn) (hdx : Ens w dp d.rt.l) (hdl : (pn + dn) * 40 ≤ 140737488355328) (hdp : dp = none → dn = 0 ∧ dc = 0) :
    Calls Tryz.prog 131 #[pgv g.leaf g.lo g.hi g.r pp pn pc, dlv d.k d.e d.key d.pg d.rt.leaf d.rt.lo d.rt.hi d.rt.r dp dn dc] w fun e w' => Done w (Dl.apply g d) e w' := by
  obtain ⟨pf, plo, phi, pr, pl⟩ := g
  obtain ⟨dk, ⟨dek, des, deg, dec⟩, dkey, dpg, ⟨dleaf, dlo, dhi, dr, dl⟩⟩ := d
  cases hm : Dl.may ⟨dk, ⟨dek, des, deg, dec⟩, dkey, dpg, ⟨dleaf, dlo, dhi, dr, dl⟩⟩ with
  | false => exact applied_not dk pf plo phi pr pp pn pc pl dek des deg dec dkey dpg dleaf dlo dhi dr dp dn dc dl w hlen hx hl hp hdn hdx hdl hdp hm
  | true =>
    rcases Dl.may_kind hm with h | h | h | h | h <;> simp only at h <;> subst h
    · exact applied_1 pf plo phi pr pp pn pc pl dek des deg dec dkey dpg dleaf dlo dhi dr dp dn dc dl w hlen hx hl hp hdn hdx hdl hdp hm
    · exact applied_2 pf plo phi pr pp pn pc pl dek des deg dec dkey dpg dleaf dlo dhi dr dp dn dc dl w hlen hx hl hp hdn hdx hdl hdp hm
    · exact applied_3 pf plo phi pr pp pn pc pl dek des deg dec dkey dpg dleaf dlo dhi dr dp dn dc dl w hlen hx hl hp hdn hdx hdl hdp hm
    · exact applied_4 pf plo phi pr pp pn pc pl dek des deg dec dkey dpg dleaf dlo dhi dr dp dn dc dl w hlen hx hl hp hdn hdx hdl hdp hm
    · exact applied_5 pf plo phi pr pp pn pc pl dek des deg dec dkey dpg dleaf dlo dhi dr dp dn dc dl w hlen hx hl hp hdn hdx hdl hdp hm

end Go.Proofs.YtoehlgigidgfpaaGreat
