/- restore, Undo. -/
import Derived.Test.YtkmlholjglmfnaaGreatDlB
namespace Go.Proofs.YtkmlholjglmfnaaGreat
open Go.RowKit Go.Sort
set_option linter.unusedVariables false
set_option maxRecDepth 100000

theorem Pg.find_idx (p : En → Bool) : ∀ l : List En, l.find? p = if l.any p then l[l.findIdx p]? else none
  | [] => rfl
  | a :: r => by
    simp only [List.find?_cons, List.any_cons, List.findIdx_cons]
    cases h : p a with
    | true => simp
    | false => simp [Pg.find_idx p r]

theorem restore1_any (key : ByteArray) (w : World) (B : Nat) (hf : Bk w B 9 #[.string key]) : TstE 60 #[.pointer (some ⟨B, 0, none⟩)] (Pg.is key) w := by
  intro W x hb
  have hf' := hf.below hb hf.lt
  obtain ⟨w0, hw0⟩ : ∃ w0, W.alloc (.cells #[.string x.key, .int .i64 x.s, .int .i64 x.g, .int .i64 x.c] 28) = w0 := ⟨_, rfl⟩
  have hb0 : Below W.heap.size W w0 := by rw [← hw0]; exact (Below.refl _ _).alloc (Nat.le_refl _) _
  have f0 : w0.cell? ⟨B, 0, none⟩ = some (.string key) := (hf'.below hb0 hf'.lt).cell 0
  have x0 : w0.cell? ⟨W.heap.size, 0, none⟩ = some (.string x.key) := by rw [← hw0]; exact (Bk.new W 28 #[.string x.key, .int .i64 x.s, .int .i64 x.g, .int .i64 x.c]).cell 0
  have HB0 : Hid (Below W.heap.size W w0) := hb0
  clear hf hf' hb hb0
  show Calls Tryz.prog 60 #[x.val, .pointer (some ⟨B, 0, none⟩)] W _
  go_enter Tryz.func60, Tryz.ntmps60
  go_wp2
  go_ret
  exact ⟨rfl, HB0.out⟩

/-- A delta whose page is none. -/
abbrev bare (k : Int) (e : En) (key : ByteArray) (pg : Int) : Value := dlv k e key pg false ⟨#[]⟩ ⟨#[]⟩ 0 none 0 0

set_option maxHeartbeats 2000000 in
theorem restore_any (pf : Bool) (plo phi : ByteArray) (pr : Int) (pp : Option Addr) (pn pc : Nat) (pl : List En) (key : ByteArray) (w : World) (hlen : pl.length = pn) (hx : Ens w pp pl) (hl : pn ≤ 3518437208780) :
    Calls Tryz.prog 33 #[pgv pf plo phi pr pp pn pc, .string key] w fun e w' => e = .returned (bare (Dl.restore ⟨pf, plo, phi, pr, pl⟩ key).k (Dl.restore ⟨pf, plo, phi, pr, pl⟩ key).e (Dl.restore ⟨pf, plo, phi, pr, pl⟩ key).key (Dl.restore ⟨pf, plo, phi, pr, pl⟩ key).pg) ∧ Below w.heap.size w w' := by
  have hmf : ∀ (fn : Fn) (first cap : Array Value) (w : World), (Instr.makeFunc fn first cap).run Tryz.prog w = .ok (.func fn first cap) w := fun _ _ _ _ => rfl
  have eg : ∀ args w, (callFunc 60 args).run Tryz.prog w = .ok (.enter 60 args) w := enters_of Tryz.func60 (by kernel_rfl) rfl
  have HX : Hid (Ens w pp pl) := hx
  have HN : Hid (pl.length = pn) := hlen
  clear hx hlen
  obtain ⟨D, HD⟩ : ∃ D, Hid (Dl.restore ⟨pf, plo, phi, pr, pl⟩ key = D) := ⟨_, rfl⟩
  rw [HD.out]
  obtain ⟨w0, hw0⟩ : ∃ w0, ((w.alloc (.cells #[.bool pf, .string plo, .string phi, .int .i64 pr, .slice pp pn pc] 24)).alloc (.cells #[.string key] 9)).alloc (.cells #[.int .i64 0, .string ⟨#[]⟩, .int .i64 0, .int .i64 0, .int .i64 0, .string ⟨#[]⟩, .int .i64 0, .bool false, .string ⟨#[]⟩, .string ⟨#[]⟩, .int .i64 0, .slice none 0 0] 30) = w0 := ⟨_, rfl⟩
  have HB0 : Hid (Below w.heap.size w w0) := by rw [← hw0]; exact (((Below.refl _ _).alloc (Nat.le_refl _) _).alloc (by simp) _).alloc (by simp; omega) _
  have HK0 : Hid (Bk w0 w.heap.size 24 #[.bool pf, .string plo, .string phi, .int .i64 pr, .slice pp pn pc]) := by rw [← hw0]; exact ((Bk.new _ _ _).alloc _).alloc _
  have HY0 : Hid (Bk w0 (w.heap.size + 1) 9 #[.string key]) := by rw [← hw0]; exact (Bk.new1 _ _ _ _).alloc _
  have HR0 : Hid (Bk w0 (w.heap.size + 1 + 1) 30 #[.int .i64 0, .string ⟨#[]⟩, .int .i64 0, .int .i64 0, .int .i64 0, .string ⟨#[]⟩, .int .i64 0, .bool false, .string ⟨#[]⟩, .string ⟨#[]⟩, .int .i64 0, .slice none 0 0]) := by rw [← hw0]; exact Bk.new2 _ _ _ _ _
  have a4 : w0.cell? ⟨w.heap.size, 4, none⟩ = some (.slice pp pn pc) := HK0.out.cell 4
  go_enter Tryz.func33, Tryz.ntmps33
  go_wp2_with fail
  refine (idxE_any 60 _ (Pg.is key) eg pp pn pc pl _ (restore1_any key w0 (w.heap.size + 1) HY0.out) HN.out (HX.out.below HB0.out (Nat.le_refl _)) (by omega)).mono ?_
  rintro e w1 ⟨rfl, hb1⟩
  have HB1 : Hid (Below w.heap.size w w1) := HB0.out.trans (hb1.mono HB0.out.size)
  have HK1 : Hid (Bk w1 w.heap.size 24 #[.bool pf, .string plo, .string phi, .int .i64 pr, .slice pp pn pc]) := HK0.out.below hb1 HK0.out.lt
  have HY1 : Hid (Bk w1 (w.heap.size + 1) 9 #[.string key]) := HY0.out.below hb1 HY0.out.lt
  have HR1 : Hid (Bk w1 (w.heap.size + 1 + 1) 30 #[.int .i64 0, .string ⟨#[]⟩, .int .i64 0, .int .i64 0, .int .i64 0, .string ⟨#[]⟩, .int .i64 0, .bool false, .string ⟨#[]⟩, .string ⟨#[]⟩, .int .i64 0, .slice none 0 0]) := HR0.out.below hb1 HR0.out.lt
  clear hb1 a4 hw0 HK0 HY0 HR0 HB0
  have y0 : w1.cell? ⟨w.heap.size + 1, 0, none⟩ = some (.string key) := HY1.out.cell 0
  have a4 : w1.cell? ⟨w.heap.size, 4, none⟩ = some (.slice pp pn pc) := HK1.out.cell 4
  have b0 : w1.cell? ⟨w.heap.size + 1 + 1, 0, none⟩ = some (.int .i64 0) := HR1.out.cell 0
  have bf0 : w1.frozen? ⟨w.heap.size + 1 + 1, 0, none⟩ = false := HR1.out.frozen 0
  have b1 : w1.cell? ⟨w.heap.size + 1 + 1, 1, none⟩ = some (.string ⟨#[]⟩) := HR1.out.cell 1
  have bf1 : w1.frozen? ⟨w.heap.size + 1 + 1, 1, none⟩ = false := HR1.out.frozen 1
  have b2 : w1.cell? ⟨w.heap.size + 1 + 1, 2, none⟩ = some (.int .i64 0) := HR1.out.cell 2
  have bf2 : w1.frozen? ⟨w.heap.size + 1 + 1, 2, none⟩ = false := HR1.out.frozen 2
  have b3 : w1.cell? ⟨w.heap.size + 1 + 1, 3, none⟩ = some (.int .i64 0) := HR1.out.cell 3
  have bf3 : w1.frozen? ⟨w.heap.size + 1 + 1, 3, none⟩ = false := HR1.out.frozen 3
  have b4 : w1.cell? ⟨w.heap.size + 1 + 1, 4, none⟩ = some (.int .i64 0) := HR1.out.cell 4
  have bf4 : w1.frozen? ⟨w.heap.size + 1 + 1, 4, none⟩ = false := HR1.out.frozen 4
  have b5 : w1.cell? ⟨w.heap.size + 1 + 1, 5, none⟩ = some (.string ⟨#[]⟩) := HR1.out.cell 5
  have bf5 : w1.frozen? ⟨w.heap.size + 1 + 1, 5, none⟩ = false := HR1.out.frozen 5
  have b6 : w1.cell? ⟨w.heap.size + 1 + 1, 6, none⟩ = some (.int .i64 0) := HR1.out.cell 6
  have bf6 : w1.frozen? ⟨w.heap.size + 1 + 1, 6, none⟩ = false := HR1.out.frozen 6
  have b7 : w1.cell? ⟨w.heap.size + 1 + 1, 7, none⟩ = some (.bool false) := HR1.out.cell 7
  have bf7 : w1.frozen? ⟨w.heap.size + 1 + 1, 7, none⟩ = false := HR1.out.frozen 7
  have b8 : w1.cell? ⟨w.heap.size + 1 + 1, 8, none⟩ = some (.string ⟨#[]⟩) := HR1.out.cell 8
  have bf8 : w1.frozen? ⟨w.heap.size + 1 + 1, 8, none⟩ = false := HR1.out.frozen 8
  have b9 : w1.cell? ⟨w.heap.size + 1 + 1, 9, none⟩ = some (.string ⟨#[]⟩) := HR1.out.cell 9
  have bf9 : w1.frozen? ⟨w.heap.size + 1 + 1, 9, none⟩ = false := HR1.out.frozen 9
  have b10 : w1.cell? ⟨w.heap.size + 1 + 1, 10, none⟩ = some (.int .i64 0) := HR1.out.cell 10
  have bf10 : w1.frozen? ⟨w.heap.size + 1 + 1, 10, none⟩ = false := HR1.out.frozen 10
  have b11 : w1.cell? ⟨w.heap.size + 1 + 1, 11, none⟩ = some (.slice none 0 0) := HR1.out.cell 11
  have bf11 : w1.frozen? ⟨w.heap.size + 1 + 1, 11, none⟩ = false := HR1.out.frozen 11
  unfold Pg.idx
  cases hany : pl.any (Pg.is key) with
  | false =>
    rw [if_neg (by simp)]
    have hD : D = ⟨2, En.zero, key, 0, Pg.zero⟩ := by
      rw [← HD.out]
      unfold Dl.restore
      rw [Pg.find_idx, hany]
      rfl
    subst hD
    go_wp2
    clear b0 bf0 b1 bf1 b2 bf2 b3 bf3 b4 bf4 b5 bf5 b6 bf6 b7 bf7 b8 bf8 b9 bf9 b10 bf10 b11 bf11
    clear y0 a4
    have k1 := HR1.out.twelve (.int .i64 2) (.string ⟨#[]⟩) (.int .i64 0) (.int .i64 0) (.int .i64 0) (.string key) (.int .i64 0) (.bool false) (.string ⟨#[]⟩) (.string ⟨#[]⟩) (.int .i64 0) (.slice none 0 0)
    have ht : Tn [w.heap.size + 1 + 1] w1 _ := (Tn.refl _ w1).twelve (R := w.heap.size + 1 + 1) (.inl (by simp)) (.int .i64 2) (.string ⟨#[]⟩) (.int .i64 0) (.int .i64 0) (.int .i64 0) (.string key) (.int .i64 0) (.bool false) (.string ⟨#[]⟩) (.string ⟨#[]⟩) (.int .i64 0) (.slice none 0 0)
    refine bodyPost_ret (results_one (T' := 30) (cs := [.int .i64 2, .string ⟨#[]⟩, .int .i64 0, .int .i64 0, .int .i64 0, .string key, .int .i64 0, .bool false, .string ⟨#[]⟩, .string ⟨#[]⟩, .int .i64 0, .slice none 0 0]) rfl rfl dl_agg dl_size rfl k1) rfl ?_
    exact ⟨rfl, HB1.out.trans (ht.below HB1.out.size (by simp; omega))⟩
  | true =>
    rw [if_pos (by simp)]
    obtain ⟨j, hj⟩ : ∃ j, pl.findIdx (Pg.is key) = j := ⟨_, rfl⟩
    have hjl : j < pl.length := by
      rw [← hj]
      exact List.findIdx_lt_length_of_exists (by simpa using hany)
    obtain ⟨B, O, x, rfl, hgx, hlt, c0, c1, c2, c3⟩ := (HX.out.below HB1.out (Nat.le_refl _)).at hjl
    have hD : D = ⟨1, x, ⟨#[]⟩, 0, Pg.zero⟩ := by
      rw [← HD.out]
      unfold Dl.restore
      rw [Pg.find_idx, hany, hj, if_pos rfl]
      simp only [hgx]
    subst hD
    rw [hj]
    have hjn : j < pn := by have := HN.out; omega
    have hji : (j : Int) < (pn : Int) := by omega
    have hj0 : ¬ ((j : Int) < 0) := by omega
    obtain ⟨xk, xs, xg, xc⟩ := x
    simp only at c0 c1 c2 c3
    clear hany hj hgx hjl
    go_wp2
    clear b0 bf0 b1 bf1 b2 bf2 b3 bf3 b4 bf4 b5 bf5 b6 bf6 b7 bf7 b8 bf8 b9 bf9 b10 bf10 b11 bf11
    clear y0 a4
    have k1 := HR1.out.twelve (.int .i64 1) (.string xk) (.int .i64 xs) (.int .i64 xg) (.int .i64 xc) (.string ⟨#[]⟩) (.int .i64 0) (.bool false) (.string ⟨#[]⟩) (.string ⟨#[]⟩) (.int .i64 0) (.slice none 0 0)
    have ht : Tn [w.heap.size + 1 + 1] w1 _ := (Tn.refl _ w1).twelve (R := w.heap.size + 1 + 1) (.inl (by simp)) (.int .i64 1) (.string xk) (.int .i64 xs) (.int .i64 xg) (.int .i64 xc) (.string ⟨#[]⟩) (.int .i64 0) (.bool false) (.string ⟨#[]⟩) (.string ⟨#[]⟩) (.int .i64 0) (.slice none 0 0)
    refine bodyPost_ret (results_one (T' := 30) (cs := [.int .i64 1, .string xk, .int .i64 xs, .int .i64 xg, .int .i64 xc, .string ⟨#[]⟩, .int .i64 0, .bool false, .string ⟨#[]⟩, .string ⟨#[]⟩, .int .i64 0, .slice none 0 0]) rfl rfl dl_agg dl_size rfl k1) rfl ?_
    exact ⟨rfl, HB1.out.trans (ht.below HB1.out.size (by simp; omega))⟩

/-- What Undo answers. -/
abbrev undone (o : Option De) : Value := .tuple #[bare (o.getD Dl.zero).k (o.getD Dl.zero).e (o.getD Dl.zero).key (o.getD Dl.zero).pg, .bool o.isSome]

set_option maxHeartbeats 4000000 in
theorem undo_any (g : Pp) (d : De) (pp dp : Option Addr) (pn pc dn dc : Nat) (w : World) (hlen : g.l.length = pn) (hx : Ens w pp g.l) (hl : pn ≤ 3518437208780) (hp : pp = none → pn = 0 ∧ pc = 0) (hdn : d.rt.l.length = dn) (hdx : Ens w dp d.rt.l) (hdl : (pn + dn) * 40 ≤ 140737488355328) (hdp : dp = none → dn = 0 ∧ dc = 0) :
    Calls Tryz.prog 11 #[pgv g.leaf g.lo g.hi g.r pp pn pc, dlv d.k d.e d.key d.pg d.rt.leaf d.rt.lo d.rt.hi d.rt.r dp dn dc] w fun e w' => e = .returned (undone (Dl.undo g d)) ∧ Below w.heap.size w w' := by
  have hq := fun (W : World) (h : Below w.heap.size w W) => apply_any g d pp dp pn pc dn dc W hlen (hx.below h (Nat.le_refl _)) hl hp hdn (hdx.below h (Nat.le_refl _)) hdl hdp
  have hr := fun (W : World) (key : ByteArray) (h : Below w.heap.size w W) => restore_any g.leaf g.lo g.hi g.r pp pn pc g.l key W hlen (hx.below h (Nat.le_refl _)) hl
  obtain ⟨U, HU⟩ : ∃ U, Hid (Dl.undo g d = U) := ⟨_, rfl⟩
  rw [HU.out]
  have HU' : Hid ((if (Dl.apply g d).2 = 0 then if d.k = 1 then some (Dl.restore g d.e.key) else if d.k = 2 then some (Dl.restore g d.key) else none else none) = U) := HU.out
  obtain ⟨⟨G, kk⟩, HO⟩ : ∃ out, Hid (Dl.apply g d = out) := ⟨_, rfl⟩
  rw [HO.out] at HU'
  simp only [HO.out] at hq
  have HQ : Hid _ := hq
  have HRS : Hid _ := hr
  clear hq hr hx hlen hdn hdx HO HU
  obtain ⟨rst, HRT⟩ : ∃ rst : ByteArray → De, Hid (∀ key, Dl.restore g key = rst key) := ⟨fun key => Dl.restore g key, fun _ => rfl⟩
  simp only [HRT.out] at HU' HRS
  clear HRT
  obtain ⟨pf, plo, phi, pr, pl⟩ := g
  obtain ⟨dk, ⟨dek, des, deg, dec⟩, dkey, dpg, ⟨dleaf, dlo, dhi, dr, dl⟩⟩ := d
  simp only at *
  obtain ⟨w0, hw0⟩ : ∃ w0, ((w.alloc (.cells #[.bool pf, .string plo, .string phi, .int .i64 pr, .slice pp pn pc] 24)).alloc (.cells #[.int .i64 dk, .string dek, .int .i64 des, .int .i64 deg, .int .i64 dec, .string dkey, .int .i64 dpg, .bool dleaf, .string dlo, .string dhi, .int .i64 dr, .slice dp dn dc] 30)).alloc (.cells #[.int .i64 0, .string ⟨#[]⟩, .int .i64 0, .int .i64 0, .int .i64 0, .string ⟨#[]⟩, .int .i64 0, .bool false, .string ⟨#[]⟩, .string ⟨#[]⟩, .int .i64 0, .slice none 0 0] 30) = w0 := ⟨_, rfl⟩
  have HB0 : Hid (Below w.heap.size w w0) := by rw [← hw0]; exact (((Below.refl _ _).alloc (Nat.le_refl _) _).alloc (by simp) _).alloc (by simp; omega) _
  have HK0 : Hid (Bk w0 w.heap.size 24 #[.bool pf, .string plo, .string phi, .int .i64 pr, .slice pp pn pc]) := by rw [← hw0]; exact ((Bk.new _ _ _).alloc _).alloc _
  have HY0 : Hid (Bk w0 (w.heap.size + 1) 30 #[.int .i64 dk, .string dek, .int .i64 des, .int .i64 deg, .int .i64 dec, .string dkey, .int .i64 dpg, .bool dleaf, .string dlo, .string dhi, .int .i64 dr, .slice dp dn dc]) := by rw [← hw0]; exact (Bk.new1 _ _ _ _).alloc _
  have HR0 : Hid (Bk w0 (w.heap.size + 1 + 1) 30 #[.int .i64 0, .string ⟨#[]⟩, .int .i64 0, .int .i64 0, .int .i64 0, .string ⟨#[]⟩, .int .i64 0, .bool false, .string ⟨#[]⟩, .string ⟨#[]⟩, .int .i64 0, .slice none 0 0]) := by rw [← hw0]; exact Bk.new2 _ _ _ _ _
  have a0 : w0.cell? ⟨w.heap.size, 0, none⟩ = some (.bool pf) := HK0.out.cell 0
  have a1 : w0.cell? ⟨w.heap.size, 1, none⟩ = some (.string plo) := HK0.out.cell 1
  have a2 : w0.cell? ⟨w.heap.size, 2, none⟩ = some (.string phi) := HK0.out.cell 2
  have a3 : w0.cell? ⟨w.heap.size, 3, none⟩ = some (.int .i64 pr) := HK0.out.cell 3
  have a4 : w0.cell? ⟨w.heap.size, 4, none⟩ = some (.slice pp pn pc) := HK0.out.cell 4
  have y0 : w0.cell? ⟨w.heap.size + 1, 0, none⟩ = some (.int .i64 dk) := HY0.out.cell 0
  have y1 : w0.cell? ⟨w.heap.size + 1, 1, none⟩ = some (.string dek) := HY0.out.cell 1
  have y2 : w0.cell? ⟨w.heap.size + 1, 2, none⟩ = some (.int .i64 des) := HY0.out.cell 2
  have y3 : w0.cell? ⟨w.heap.size + 1, 3, none⟩ = some (.int .i64 deg) := HY0.out.cell 3
  have y4 : w0.cell? ⟨w.heap.size + 1, 4, none⟩ = some (.int .i64 dec) := HY0.out.cell 4
  have y5 : w0.cell? ⟨w.heap.size + 1, 5, none⟩ = some (.string dkey) := HY0.out.cell 5
  have y6 : w0.cell? ⟨w.heap.size + 1, 6, none⟩ = some (.int .i64 dpg) := HY0.out.cell 6
  have y7 : w0.cell? ⟨w.heap.size + 1, 7, none⟩ = some (.bool dleaf) := HY0.out.cell 7
  have y8 : w0.cell? ⟨w.heap.size + 1, 8, none⟩ = some (.string dlo) := HY0.out.cell 8
  have y9 : w0.cell? ⟨w.heap.size + 1, 9, none⟩ = some (.string dhi) := HY0.out.cell 9
  have y10 : w0.cell? ⟨w.heap.size + 1, 10, none⟩ = some (.int .i64 dr) := HY0.out.cell 10
  have y11 : w0.cell? ⟨w.heap.size + 1, 11, none⟩ = some (.slice dp dn dc) := HY0.out.cell 11
  go_enter Tryz.func11, Tryz.ntmps11
  go_wp2_with fail
  refine (HQ.out _ HB0.out).mono ?_
  rintro e w1 ⟨v, rfl, hg3, hb1⟩
  obtain ⟨Gp, Gc, rfl, -⟩ := hg3.pv
  obtain ⟨Gf, Glo, Ghi, Gr, Gl⟩ := G
  simp only
  obtain ⟨Gn, hGn⟩ : ∃ Gn, Gl.length = Gn := ⟨_, rfl⟩
  rw [hGn]
  have HB1 : Hid (Below w.heap.size w w1) := HB0.out.trans (hb1.mono HB0.out.size)
  have HK1 : Hid (Bk w1 w.heap.size 24 #[.bool pf, .string plo, .string phi, .int .i64 pr, .slice pp pn pc]) := HK0.out.below hb1 HK0.out.lt
  have HY1 : Hid (Bk w1 (w.heap.size + 1) 30 #[.int .i64 dk, .string dek, .int .i64 des, .int .i64 deg, .int .i64 dec, .string dkey, .int .i64 dpg, .bool dleaf, .string dlo, .string dhi, .int .i64 dr, .slice dp dn dc]) := HY0.out.below hb1 HY0.out.lt
  have HR1 : Hid (Bk w1 (w.heap.size + 1 + 1) 30 #[.int .i64 0, .string ⟨#[]⟩, .int .i64 0, .int .i64 0, .int .i64 0, .string ⟨#[]⟩, .int .i64 0, .bool false, .string ⟨#[]⟩, .string ⟨#[]⟩, .int .i64 0, .slice none 0 0]) := HR0.out.below hb1 HR0.out.lt
  clear a0 a1 a2 a3 a4
  clear y0 y1 y2 y3 y4 y5 y6 y7 y8 y9 y10 y11
  clear hb1 hw0 HK0 HY0 HR0 HB0 hg3 hGn HQ
  obtain ⟨w2, hw2⟩ : ∃ w2, w1.alloc (.cells #[.bool Gf, .string Glo, .string Ghi, .int .i64 Gr, .slice Gp Gn Gc] 24) = w2 := ⟨_, rfl⟩
  have hb2 : Below w1.heap.size w1 w2 := by rw [← hw2]; exact (Below.refl _ _).alloc (Nat.le_refl _) _
  have HB2 : Hid (Below w.heap.size w w2) := HB1.out.trans (hb2.mono HB1.out.size)
  have HK2 : Hid (Bk w2 w.heap.size 24 #[.bool pf, .string plo, .string phi, .int .i64 pr, .slice pp pn pc]) := HK1.out.below hb2 HK1.out.lt
  have HY2 : Hid (Bk w2 (w.heap.size + 1) 30 #[.int .i64 dk, .string dek, .int .i64 des, .int .i64 deg, .int .i64 dec, .string dkey, .int .i64 dpg, .bool dleaf, .string dlo, .string dhi, .int .i64 dr, .slice dp dn dc]) := HY1.out.below hb2 HY1.out.lt
  have HR2 : Hid (Bk w2 (w.heap.size + 1 + 1) 30 #[.int .i64 0, .string ⟨#[]⟩, .int .i64 0, .int .i64 0, .int .i64 0, .string ⟨#[]⟩, .int .i64 0, .bool false, .string ⟨#[]⟩, .string ⟨#[]⟩, .int .i64 0, .slice none 0 0]) := HR1.out.below hb2 HR1.out.lt
  clear hb2 HB1 HK1 HY1 HR1
  have a0 : w2.cell? ⟨w.heap.size, 0, none⟩ = some (.bool pf) := HK2.out.cell 0
  have a1 : w2.cell? ⟨w.heap.size, 1, none⟩ = some (.string plo) := HK2.out.cell 1
  have a2 : w2.cell? ⟨w.heap.size, 2, none⟩ = some (.string phi) := HK2.out.cell 2
  have a3 : w2.cell? ⟨w.heap.size, 3, none⟩ = some (.int .i64 pr) := HK2.out.cell 3
  have a4 : w2.cell? ⟨w.heap.size, 4, none⟩ = some (.slice pp pn pc) := HK2.out.cell 4
  have y0 : w2.cell? ⟨w.heap.size + 1, 0, none⟩ = some (.int .i64 dk) := HY2.out.cell 0
  have y1 : w2.cell? ⟨w.heap.size + 1, 1, none⟩ = some (.string dek) := HY2.out.cell 1
  have y2 : w2.cell? ⟨w.heap.size + 1, 2, none⟩ = some (.int .i64 des) := HY2.out.cell 2
  have y3 : w2.cell? ⟨w.heap.size + 1, 3, none⟩ = some (.int .i64 deg) := HY2.out.cell 3
  have y4 : w2.cell? ⟨w.heap.size + 1, 4, none⟩ = some (.int .i64 dec) := HY2.out.cell 4
  have y5 : w2.cell? ⟨w.heap.size + 1, 5, none⟩ = some (.string dkey) := HY2.out.cell 5
  have y6 : w2.cell? ⟨w.heap.size + 1, 6, none⟩ = some (.int .i64 dpg) := HY2.out.cell 6
  have y7 : w2.cell? ⟨w.heap.size + 1, 7, none⟩ = some (.bool dleaf) := HY2.out.cell 7
  have y8 : w2.cell? ⟨w.heap.size + 1, 8, none⟩ = some (.string dlo) := HY2.out.cell 8
  have y9 : w2.cell? ⟨w.heap.size + 1, 9, none⟩ = some (.string dhi) := HY2.out.cell 9
  have y10 : w2.cell? ⟨w.heap.size + 1, 10, none⟩ = some (.int .i64 dr) := HY2.out.cell 10
  have y11 : w2.cell? ⟨w.heap.size + 1, 11, none⟩ = some (.slice dp dn dc) := HY2.out.cell 11
  have b0 : w2.cell? ⟨w.heap.size + 1 + 1, 0, none⟩ = some (.int .i64 0) := HR2.out.cell 0
  have bf0 : w2.frozen? ⟨w.heap.size + 1 + 1, 0, none⟩ = false := HR2.out.frozen 0
  have b1 : w2.cell? ⟨w.heap.size + 1 + 1, 1, none⟩ = some (.string ⟨#[]⟩) := HR2.out.cell 1
  have bf1 : w2.frozen? ⟨w.heap.size + 1 + 1, 1, none⟩ = false := HR2.out.frozen 1
  have b2 : w2.cell? ⟨w.heap.size + 1 + 1, 2, none⟩ = some (.int .i64 0) := HR2.out.cell 2
  have bf2 : w2.frozen? ⟨w.heap.size + 1 + 1, 2, none⟩ = false := HR2.out.frozen 2
  have b3 : w2.cell? ⟨w.heap.size + 1 + 1, 3, none⟩ = some (.int .i64 0) := HR2.out.cell 3
  have bf3 : w2.frozen? ⟨w.heap.size + 1 + 1, 3, none⟩ = false := HR2.out.frozen 3
  have b4 : w2.cell? ⟨w.heap.size + 1 + 1, 4, none⟩ = some (.int .i64 0) := HR2.out.cell 4
  have bf4 : w2.frozen? ⟨w.heap.size + 1 + 1, 4, none⟩ = false := HR2.out.frozen 4
  have b5 : w2.cell? ⟨w.heap.size + 1 + 1, 5, none⟩ = some (.string ⟨#[]⟩) := HR2.out.cell 5
  have bf5 : w2.frozen? ⟨w.heap.size + 1 + 1, 5, none⟩ = false := HR2.out.frozen 5
  have b6 : w2.cell? ⟨w.heap.size + 1 + 1, 6, none⟩ = some (.int .i64 0) := HR2.out.cell 6
  have bf6 : w2.frozen? ⟨w.heap.size + 1 + 1, 6, none⟩ = false := HR2.out.frozen 6
  have b7 : w2.cell? ⟨w.heap.size + 1 + 1, 7, none⟩ = some (.bool false) := HR2.out.cell 7
  have bf7 : w2.frozen? ⟨w.heap.size + 1 + 1, 7, none⟩ = false := HR2.out.frozen 7
  have b8 : w2.cell? ⟨w.heap.size + 1 + 1, 8, none⟩ = some (.string ⟨#[]⟩) := HR2.out.cell 8
  have bf8 : w2.frozen? ⟨w.heap.size + 1 + 1, 8, none⟩ = false := HR2.out.frozen 8
  have b9 : w2.cell? ⟨w.heap.size + 1 + 1, 9, none⟩ = some (.string ⟨#[]⟩) := HR2.out.cell 9
  have bf9 : w2.frozen? ⟨w.heap.size + 1 + 1, 9, none⟩ = false := HR2.out.frozen 9
  have b10 : w2.cell? ⟨w.heap.size + 1 + 1, 10, none⟩ = some (.int .i64 0) := HR2.out.cell 10
  have bf10 : w2.frozen? ⟨w.heap.size + 1 + 1, 10, none⟩ = false := HR2.out.frozen 10
  have b11 : w2.cell? ⟨w.heap.size + 1 + 1, 11, none⟩ = some (.slice none 0 0) := HR2.out.cell 11
  have bf11 : w2.frozen? ⟨w.heap.size + 1 + 1, 11, none⟩ = false := HR2.out.frozen 11
  have HEND : Hid (∀ W, Below w.heap.size w W → Bk W (w.heap.size + 1 + 1) 30 #[.int .i64 0, .string ⟨#[]⟩, .int .i64 0, .int .i64 0, .int .i64 0, .string ⟨#[]⟩, .int .i64 0, .bool false, .string ⟨#[]⟩, .string ⟨#[]⟩, .int .i64 0, .slice none 0 0] → ∀ x0 x1 x2 x3 x4 x5 x6 x7 x8 x9 x10 x11, Bk (put12 W (w.heap.size + 1 + 1) x0 x1 x2 x3 x4 x5 x6 x7 x8 x9 x10 x11) (w.heap.size + 1 + 1) 30 #[x0, x1, x2, x3, x4, x5, x6, x7, x8, x9, x10, x11] ∧ Below w.heap.size w (put12 W (w.heap.size + 1 + 1) x0 x1 x2 x3 x4 x5 x6 x7 x8 x9 x10 x11)) := by
    intro W hW hk x0 x1 x2 x3 x4 x5 x6 x7 x8 x9 x10 x11
    have ht : Tn [w.heap.size + 1 + 1] W _ := (Tn.refl _ W).twelve (R := w.heap.size + 1 + 1) (.inl (by simp)) x0 x1 x2 x3 x4 x5 x6 x7 x8 x9 x10 x11
    exact ⟨hk.twelve _ _ _ _ _ _ _ _ _ _ _ _, hW.trans (ht.below hW.size (by simp; omega))⟩
  by_cases h0 : kk = 0
  · subst h0
    by_cases h1 : dk = 1
    · subst h1
      have hU : U = some (rst dek) := by rw [← HU'.out, if_pos rfl, if_pos rfl]
      subst hU
      go_wp2_with fail
      clear a0 a1 a2 a3 a4
      clear y0 y1 y2 y3 y4 y5 y6 y7 y8 y9 y10 y11
      clear b0 bf0 b1 bf1 b2 bf2 b3 bf3 b4 bf4 b5 bf5 b6 bf6 b7 bf7 b8 bf8 b9 bf9 b10 bf10 b11 bf11
      clear hw2
      refine (HRS.out _ dek HB2.out).mono ?_
      rintro e w3 ⟨rfl, hb3⟩
      have HB3 : Hid (Below w.heap.size w w3) := HB2.out.trans (hb3.mono HB2.out.size)
      have HR3 : Hid (Bk w3 (w.heap.size + 1 + 1) 30 #[.int .i64 0, .string ⟨#[]⟩, .int .i64 0, .int .i64 0, .int .i64 0, .string ⟨#[]⟩, .int .i64 0, .bool false, .string ⟨#[]⟩, .string ⟨#[]⟩, .int .i64 0, .slice none 0 0]) := HR2.out.below hb3 HR2.out.lt
      clear hb3
      obtain ⟨⟨zk, ⟨zek, zes, zeg, zec⟩, zkey, zpg, zrt⟩, hz⟩ : ∃ z, rst dek = z := ⟨_, rfl⟩
      rw [hz]
      simp only
      have b0 : w3.cell? ⟨w.heap.size + 1 + 1, 0, none⟩ = some (.int .i64 0) := HR3.out.cell 0
      have bf0 : w3.frozen? ⟨w.heap.size + 1 + 1, 0, none⟩ = false := HR3.out.frozen 0
      have b1 : w3.cell? ⟨w.heap.size + 1 + 1, 1, none⟩ = some (.string ⟨#[]⟩) := HR3.out.cell 1
      have bf1 : w3.frozen? ⟨w.heap.size + 1 + 1, 1, none⟩ = false := HR3.out.frozen 1
      have b2 : w3.cell? ⟨w.heap.size + 1 + 1, 2, none⟩ = some (.int .i64 0) := HR3.out.cell 2
      have bf2 : w3.frozen? ⟨w.heap.size + 1 + 1, 2, none⟩ = false := HR3.out.frozen 2
      have b3 : w3.cell? ⟨w.heap.size + 1 + 1, 3, none⟩ = some (.int .i64 0) := HR3.out.cell 3
      have bf3 : w3.frozen? ⟨w.heap.size + 1 + 1, 3, none⟩ = false := HR3.out.frozen 3
      have b4 : w3.cell? ⟨w.heap.size + 1 + 1, 4, none⟩ = some (.int .i64 0) := HR3.out.cell 4
      have bf4 : w3.frozen? ⟨w.heap.size + 1 + 1, 4, none⟩ = false := HR3.out.frozen 4
      have b5 : w3.cell? ⟨w.heap.size + 1 + 1, 5, none⟩ = some (.string ⟨#[]⟩) := HR3.out.cell 5
      have bf5 : w3.frozen? ⟨w.heap.size + 1 + 1, 5, none⟩ = false := HR3.out.frozen 5
      have b6 : w3.cell? ⟨w.heap.size + 1 + 1, 6, none⟩ = some (.int .i64 0) := HR3.out.cell 6
      have bf6 : w3.frozen? ⟨w.heap.size + 1 + 1, 6, none⟩ = false := HR3.out.frozen 6
      have b7 : w3.cell? ⟨w.heap.size + 1 + 1, 7, none⟩ = some (.bool false) := HR3.out.cell 7
      have bf7 : w3.frozen? ⟨w.heap.size + 1 + 1, 7, none⟩ = false := HR3.out.frozen 7
      have b8 : w3.cell? ⟨w.heap.size + 1 + 1, 8, none⟩ = some (.string ⟨#[]⟩) := HR3.out.cell 8
      have bf8 : w3.frozen? ⟨w.heap.size + 1 + 1, 8, none⟩ = false := HR3.out.frozen 8
      have b9 : w3.cell? ⟨w.heap.size + 1 + 1, 9, none⟩ = some (.string ⟨#[]⟩) := HR3.out.cell 9
      have bf9 : w3.frozen? ⟨w.heap.size + 1 + 1, 9, none⟩ = false := HR3.out.frozen 9
      have b10 : w3.cell? ⟨w.heap.size + 1 + 1, 10, none⟩ = some (.int .i64 0) := HR3.out.cell 10
      have bf10 : w3.frozen? ⟨w.heap.size + 1 + 1, 10, none⟩ = false := HR3.out.frozen 10
      have b11 : w3.cell? ⟨w.heap.size + 1 + 1, 11, none⟩ = some (.slice none 0 0) := HR3.out.cell 11
      have bf11 : w3.frozen? ⟨w.heap.size + 1 + 1, 11, none⟩ = false := HR3.out.frozen 11
      go_wp2
      clear b0 bf0 b1 bf1 b2 bf2 b3 bf3 b4 bf4 b5 bf5 b6 bf6 b7 bf7 b8 bf8 b9 bf9 b10 bf10 b11 bf11
      have k1 := HEND.out w3 HB3.out HR3.out (.int .i64 zk) (.string zek) (.int .i64 zes) (.int .i64 zeg) (.int .i64 zec) (.string zkey) (.int .i64 zpg) (.bool false) (.string ⟨#[]⟩) (.string ⟨#[]⟩) (.int .i64 0) (.slice none 0 0)
      refine bodyPost_ret (results_two (T' := 30) (cs := [.int .i64 zk, .string zek, .int .i64 zes, .int .i64 zeg, .int .i64 zec, .string zkey, .int .i64 zpg, .bool false, .string ⟨#[]⟩, .string ⟨#[]⟩, .int .i64 0, .slice none 0 0]) rfl rfl dl_agg dl_size rfl k1.1) rfl ?_
      exact ⟨by unfold undone; rw [Option.getD_some, hz]; rfl, k1.2⟩
    · by_cases h2 : dk = 2
      · subst h2
        have hU : U = some (rst dkey) := by rw [← HU'.out, if_pos rfl, if_neg h1, if_pos rfl]
        subst hU
        go_wp2_with fail
        clear a0 a1 a2 a3 a4
        clear y0 y1 y2 y3 y4 y5 y6 y7 y8 y9 y10 y11
        clear b0 bf0 b1 bf1 b2 bf2 b3 bf3 b4 bf4 b5 bf5 b6 bf6 b7 bf7 b8 bf8 b9 bf9 b10 bf10 b11 bf11
        clear hw2
        refine (HRS.out _ dkey HB2.out).mono ?_
        rintro e w3 ⟨rfl, hb3⟩
        have HB3 : Hid (Below w.heap.size w w3) := HB2.out.trans (hb3.mono HB2.out.size)
        have HR3 : Hid (Bk w3 (w.heap.size + 1 + 1) 30 #[.int .i64 0, .string ⟨#[]⟩, .int .i64 0, .int .i64 0, .int .i64 0, .string ⟨#[]⟩, .int .i64 0, .bool false, .string ⟨#[]⟩, .string ⟨#[]⟩, .int .i64 0, .slice none 0 0]) := HR2.out.below hb3 HR2.out.lt
        clear hb3
        obtain ⟨⟨zk, ⟨zek, zes, zeg, zec⟩, zkey, zpg, zrt⟩, hz⟩ : ∃ z, rst dkey = z := ⟨_, rfl⟩
        rw [hz]
        simp only
        have b0 : w3.cell? ⟨w.heap.size + 1 + 1, 0, none⟩ = some (.int .i64 0) := HR3.out.cell 0
        have bf0 : w3.frozen? ⟨w.heap.size + 1 + 1, 0, none⟩ = false := HR3.out.frozen 0
        have b1 : w3.cell? ⟨w.heap.size + 1 + 1, 1, none⟩ = some (.string ⟨#[]⟩) := HR3.out.cell 1
        have bf1 : w3.frozen? ⟨w.heap.size + 1 + 1, 1, none⟩ = false := HR3.out.frozen 1
        have b2 : w3.cell? ⟨w.heap.size + 1 + 1, 2, none⟩ = some (.int .i64 0) := HR3.out.cell 2
        have bf2 : w3.frozen? ⟨w.heap.size + 1 + 1, 2, none⟩ = false := HR3.out.frozen 2
        have b3 : w3.cell? ⟨w.heap.size + 1 + 1, 3, none⟩ = some (.int .i64 0) := HR3.out.cell 3
        have bf3 : w3.frozen? ⟨w.heap.size + 1 + 1, 3, none⟩ = false := HR3.out.frozen 3
        have b4 : w3.cell? ⟨w.heap.size + 1 + 1, 4, none⟩ = some (.int .i64 0) := HR3.out.cell 4
        have bf4 : w3.frozen? ⟨w.heap.size + 1 + 1, 4, none⟩ = false := HR3.out.frozen 4
        have b5 : w3.cell? ⟨w.heap.size + 1 + 1, 5, none⟩ = some (.string ⟨#[]⟩) := HR3.out.cell 5
        have bf5 : w3.frozen? ⟨w.heap.size + 1 + 1, 5, none⟩ = false := HR3.out.frozen 5
        have b6 : w3.cell? ⟨w.heap.size + 1 + 1, 6, none⟩ = some (.int .i64 0) := HR3.out.cell 6
        have bf6 : w3.frozen? ⟨w.heap.size + 1 + 1, 6, none⟩ = false := HR3.out.frozen 6
        have b7 : w3.cell? ⟨w.heap.size + 1 + 1, 7, none⟩ = some (.bool false) := HR3.out.cell 7
        have bf7 : w3.frozen? ⟨w.heap.size + 1 + 1, 7, none⟩ = false := HR3.out.frozen 7
        have b8 : w3.cell? ⟨w.heap.size + 1 + 1, 8, none⟩ = some (.string ⟨#[]⟩) := HR3.out.cell 8
        have bf8 : w3.frozen? ⟨w.heap.size + 1 + 1, 8, none⟩ = false := HR3.out.frozen 8
        have b9 : w3.cell? ⟨w.heap.size + 1 + 1, 9, none⟩ = some (.string ⟨#[]⟩) := HR3.out.cell 9
        have bf9 : w3.frozen? ⟨w.heap.size + 1 + 1, 9, none⟩ = false := HR3.out.frozen 9
        have b10 : w3.cell? ⟨w.heap.size + 1 + 1, 10, none⟩ = some (.int .i64 0) := HR3.out.cell 10
        have bf10 : w3.frozen? ⟨w.heap.size + 1 + 1, 10, none⟩ = false := HR3.out.frozen 10
        have b11 : w3.cell? ⟨w.heap.size + 1 + 1, 11, none⟩ = some (.slice none 0 0) := HR3.out.cell 11
        have bf11 : w3.frozen? ⟨w.heap.size + 1 + 1, 11, none⟩ = false := HR3.out.frozen 11
        go_wp2
        clear b0 bf0 b1 bf1 b2 bf2 b3 bf3 b4 bf4 b5 bf5 b6 bf6 b7 bf7 b8 bf8 b9 bf9 b10 bf10 b11 bf11
        have k1 := HEND.out w3 HB3.out HR3.out (.int .i64 zk) (.string zek) (.int .i64 zes) (.int .i64 zeg) (.int .i64 zec) (.string zkey) (.int .i64 zpg) (.bool false) (.string ⟨#[]⟩) (.string ⟨#[]⟩) (.int .i64 0) (.slice none 0 0)
        refine bodyPost_ret (results_two (T' := 30) (cs := [.int .i64 zk, .string zek, .int .i64 zes, .int .i64 zeg, .int .i64 zec, .string zkey, .int .i64 zpg, .bool false, .string ⟨#[]⟩, .string ⟨#[]⟩, .int .i64 0, .slice none 0 0]) rfl rfl dl_agg dl_size rfl k1.1) rfl ?_
        exact ⟨by unfold undone; rw [Option.getD_some, hz]; rfl, k1.2⟩
      · have hU : U = none := by rw [← HU'.out, if_pos rfl, if_neg h1, if_neg h2]
        subst hU
        go_wp2
        clear a0 a1 a2 a3 a4
        clear y0 y1 y2 y3 y4 y5 y6 y7 y8 y9 y10 y11
        clear b0 bf0 b1 bf1 b2 bf2 b3 bf3 b4 bf4 b5 bf5 b6 bf6 b7 bf7 b8 bf8 b9 bf9 b10 bf10 b11 bf11
        clear hw2
        have k1 := HEND.out w2 HB2.out HR2.out (.int .i64 0) (.string ⟨#[]⟩) (.int .i64 0) (.int .i64 0) (.int .i64 0) (.string ⟨#[]⟩) (.int .i64 0) (.bool false) (.string ⟨#[]⟩) (.string ⟨#[]⟩) (.int .i64 0) (.slice none 0 0)
        refine bodyPost_ret (results_two (T' := 30) (cs := [.int .i64 0, .string ⟨#[]⟩, .int .i64 0, .int .i64 0, .int .i64 0, .string ⟨#[]⟩, .int .i64 0, .bool false, .string ⟨#[]⟩, .string ⟨#[]⟩, .int .i64 0, .slice none 0 0]) rfl rfl dl_agg dl_size rfl k1.1) rfl ?_
        exact ⟨rfl, k1.2⟩
  · have hU : U = none := by rw [← HU'.out, if_neg h0]
    subst hU
    go_wp2
    clear a0 a1 a2 a3 a4
    clear y0 y1 y2 y3 y4 y5 y6 y7 y8 y9 y10 y11
    clear b0 bf0 b1 bf1 b2 bf2 b3 bf3 b4 bf4 b5 bf5 b6 bf6 b7 bf7 b8 bf8 b9 bf9 b10 bf10 b11 bf11
    clear hw2
    have k1 := HEND.out w2 HB2.out HR2.out (.int .i64 0) (.string ⟨#[]⟩) (.int .i64 0) (.int .i64 0) (.int .i64 0) (.string ⟨#[]⟩) (.int .i64 0) (.bool false) (.string ⟨#[]⟩) (.string ⟨#[]⟩) (.int .i64 0) (.slice none 0 0)
    refine bodyPost_ret (results_two (T' := 30) (cs := [.int .i64 0, .string ⟨#[]⟩, .int .i64 0, .int .i64 0, .int .i64 0, .string ⟨#[]⟩, .int .i64 0, .bool false, .string ⟨#[]⟩, .string ⟨#[]⟩, .int .i64 0, .slice none 0 0]) rfl rfl dl_agg dl_size rfl k1.1) rfl ?_
    exact ⟨rfl, k1.2⟩

end Go.Proofs.YtkmlholjglmfnaaGreat
