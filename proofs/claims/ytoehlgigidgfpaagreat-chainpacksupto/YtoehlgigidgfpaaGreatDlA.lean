/- A page by a delta (the code's). -/
import Derived.Test.YtoehlgigidgfpaaGreatDlQ
import Derived.Test.YtoehlgigidgfpaaGreatDlD
import Derived.Test.YtoehlgigidgfpaaGreatPgPu
import Derived.Test.YtoehlgigidgfpaaGreatPgRm
import Derived.Test.YtoehlgigidgfpaaGreatPgMm
namespace Go.Proofs.YtoehlgigidgfpaaGreat
open Go.RowKit Go.Sort
set_option linter.unusedVariables false
set_option maxRecDepth 100000

/-- What comes of a call that may refuse: a page in memory of the call's own, or the panic that tells the error. -/
def Done (w : World) (out : Pp × Int) (e : Ending) (w' : World) : Prop :=
  ((out.2 = 0 ∧ ∃ v, e = .returned v ∧ PgAt w' w.heap.size v out.1) ∨ (out.2 ≠ 0 ∧ e = pan out.2)) ∧ Below w.heap.size w w'

theorem PgAt.pv {w : World} {base : Nat} {v : Value} {g : Pp} (h : PgAt w base v g) : ∃ p c, v = pgv g.leaf g.lo g.hi g.r p g.l.length c ∧ PgAt w base (pgv g.leaf g.lo g.hi g.r p g.l.length c) g := by
  obtain ⟨p, c, rfl, hs⟩ := h
  exact ⟨p, c, rfl, p, c, rfl, hs⟩

theorem PgAt.own {w : World} {base : Nat} {p : Option Addr} {n c : Nat} {leaf : Bool} {lo hi : ByteArray} {r : Int} {l : List En} (hn : l.length = n) (h : OwnE w base (.slice p n c) l) : PgAt w base (pgv leaf lo hi r p n c) ⟨leaf, lo, hi, r, l⟩ := by
  subst hn
  exact ⟨p, c, rfl, h.seg⟩

set_option maxHeartbeats 2000000 in
theorem without_any (pf : Bool) (plo phi : ByteArray) (pr : Int) (pp : Option Addr) (pn pc : Nat) (pl : List En) (key : ByteArray) (w : World) (hlen : pl.length = pn) (hx : Ens w pp pl) (hl : pn ≤ 3518437208782) (hp : pp = none → pn = 0) :
    Calls Tryz.prog 146 #[pgv pf plo phi pr pp pn pc, .string key] w fun e w' => Done w (if Ky.inn ⟨plo, phi⟩ key then (Dl.without ⟨pf, plo, phi, pr, pl⟩ key, 0) else (Pg.zero, 73)) e w' := by
  obtain ⟨out, HO⟩ : ∃ out : Pp × Int, Hid ((if Ky.inn ⟨plo, phi⟩ key then (Dl.without ⟨pf, plo, phi, pr, pl⟩ key, 0) else (Pg.zero, 73)) = out) := ⟨_, rfl⟩
  rw [HO.out]
  have HX : Hid (Ens w pp pl) := hx
  have HL : Hid (pl.length = pn) := hlen
  clear hx hlen
  obtain ⟨w0, hw0⟩ : ∃ w0, (w.alloc (.cells #[.bool pf, .string plo, .string phi, .int .i64 pr, .slice pp pn pc] 29)).alloc (.cells #[.bool false, .string ⟨#[]⟩, .string ⟨#[]⟩, .int .i64 0, .slice none 0 0] 29) = w0 := ⟨_, rfl⟩
  have HB0 : Hid (Below w.heap.size w w0) := by rw [← hw0]; exact ((Below.refl _ _).alloc (Nat.le_refl _) _).alloc (by simp) _
  have HK0 : Hid (Bk w0 w.heap.size 29 #[.bool pf, .string plo, .string phi, .int .i64 pr, .slice pp pn pc]) := by rw [← hw0]; exact (Bk.new _ _ _).alloc _
  have HR0 : Hid (Bk w0 (w.heap.size + 1) 29 #[.bool false, .string ⟨#[]⟩, .string ⟨#[]⟩, .int .i64 0, .slice none 0 0]) := by rw [← hw0]; exact Bk.new1 _ _ _ _
  have HS0 : Hid (w.heap.size + 1 < w0.heap.size) := HR0.out.lt
  have a0 : w0.cell? ⟨w.heap.size, 0, none⟩ = some (.bool pf) := HK0.out.cell 0
  have a1 : w0.cell? ⟨w.heap.size, 1, none⟩ = some (.string plo) := HK0.out.cell 1
  have a2 : w0.cell? ⟨w.heap.size, 2, none⟩ = some (.string phi) := HK0.out.cell 2
  have a3 : w0.cell? ⟨w.heap.size, 3, none⟩ = some (.int .i64 pr) := HK0.out.cell 3
  have a4 : w0.cell? ⟨w.heap.size, 4, none⟩ = some (.slice pp pn pc) := HK0.out.cell 4
  go_enter Tryz.func146, Tryz.ntmps146
  go_wp2_with fail
  clear hw0
  refine (has_any pf plo phi pr pp pn pc _ key).mono ?_
  rintro e w1 ⟨rfl, hb1⟩
  have HB1 : Hid (Below w.heap.size w w1) := HB0.out.trans (hb1.mono HB0.out.size)
  have HK1 : Hid (Bk w1 w.heap.size 29 #[.bool pf, .string plo, .string phi, .int .i64 pr, .slice pp pn pc]) := HK0.out.below hb1 HK0.out.lt
  have HR1 : Hid (Bk w1 (w.heap.size + 1) 29 #[.bool false, .string ⟨#[]⟩, .string ⟨#[]⟩, .int .i64 0, .slice none 0 0]) := HR0.out.below hb1 HR0.out.lt
  have HS1 : Hid (w.heap.size + 1 < w1.heap.size) := HR1.out.lt
  clear hb1
  clear a0 a1 a2 a3 a4
  cases hin : Ky.inn ⟨plo, phi⟩ key with
  | false =>
    have HF : Hid (out = (Pg.zero, 73)) := by rw [Hid, ← HO.out, hin]; rfl
    go_wp2
    refine ⟨rfl, ?_⟩
    rw [HF.out]
    exact ⟨.inr ⟨by decide, rfl⟩, HB1.out⟩
  | true =>
    have HF : Hid (out = (Dl.without ⟨pf, plo, phi, pr, pl⟩ key, 0)) := by rw [Hid, ← HO.out, hin]; rfl
    have a0 : w1.cell? ⟨w.heap.size, 0, none⟩ = some (.bool pf) := HK1.out.cell 0
    have a1 : w1.cell? ⟨w.heap.size, 1, none⟩ = some (.string plo) := HK1.out.cell 1
    have a2 : w1.cell? ⟨w.heap.size, 2, none⟩ = some (.string phi) := HK1.out.cell 2
    have a3 : w1.cell? ⟨w.heap.size, 3, none⟩ = some (.int .i64 pr) := HK1.out.cell 3
    have a4 : w1.cell? ⟨w.heap.size, 4, none⟩ = some (.slice pp pn pc) := HK1.out.cell 4
    go_wp2_with fail
    refine (remove_any pf plo phi pr pp pn pc pl key _ HL.out (HX.out.below HB1.out (Nat.le_refl _)) hl).mono ?_
    rintro e w2 ⟨v2, rfl, hg2, hb2⟩
    clear a0 a1 a2 a3 a4
    have HB2 : Hid (Below w.heap.size w w2) := HB1.out.trans (hb2.mono HB1.out.size)
    have HK2 : Hid (Bk w2 w.heap.size 29 #[.bool pf, .string plo, .string phi, .int .i64 pr, .slice pp pn pc]) := HK1.out.below hb2 HK1.out.lt
    have HR2 : Hid (Bk w2 (w.heap.size + 1) 29 #[.bool false, .string ⟨#[]⟩, .string ⟨#[]⟩, .int .i64 0, .slice none 0 0]) := HR1.out.below hb2 HR1.out.lt
    cases hq : pl.any (Pg.is key) with
    | true =>
      have hrm : Pg.remove ⟨pf, plo, phi, pr, pl⟩ key = (Dl.without ⟨pf, plo, phi, pr, pl⟩ key, 0) := by unfold Pg.remove Dl.without; simp only [hq, if_true]
      rw [hrm] at hg2 ⊢
      generalize Dl.without ⟨pf, plo, phi, pr, pl⟩ key = G at *
      obtain ⟨Gf, Glo, Ghi, Gr, Gl⟩ := G
      obtain ⟨Gp, Gc, rfl, hg3⟩ := hg2.pv
      simp only at hg3 ⊢
      obtain ⟨Gn, hGn⟩ : ∃ Gn, Gl.length = Gn := ⟨_, rfl⟩
      rw [hGn] at hg3 ⊢
      have HG : Hid (PgAt w2 w1.heap.size (pgv Gf Glo Ghi Gr Gp Gn Gc) ⟨Gf, Glo, Ghi, Gr, Gl⟩) := hg3
      clear hg2 hg3 hb2 hrm hq hin hGn
      obtain ⟨w3, hw3⟩ : ∃ w3, w2.alloc (.cells #[.bool Gf, .string Glo, .string Ghi, .int .i64 Gr, .slice Gp Gn Gc] 29) = w3 := ⟨_, rfl⟩
      have HB3 : Hid (Below w.heap.size w w3) := by rw [← hw3]; exact HB2.out.alloc HB2.out.size _
      have HR3 : Hid (Bk w3 (w.heap.size + 1) 29 #[.bool false, .string ⟨#[]⟩, .string ⟨#[]⟩, .int .i64 0, .slice none 0 0]) := by rw [← hw3]; exact HR2.out.alloc _
      have HQ3 : Hid (Bk w3 w2.heap.size 29 #[.bool Gf, .string Glo, .string Ghi, .int .i64 Gr, .slice Gp Gn Gc]) := by rw [← hw3]; exact Bk.new _ _ _
      have HG3 : Hid (PgAt w3 w1.heap.size (pgv Gf Glo Ghi Gr Gp Gn Gc) ⟨Gf, Glo, Ghi, Gr, Gl⟩) := by rw [← hw3]; exact HG.out.below ((Below.refl _ _).alloc (Nat.le_refl _) _) (Nat.le_refl _)
      have hne : w2.heap.size ≠ w.heap.size + 1 := by have := HR2.out.lt; omega
      have q0 : w3.cell? ⟨w2.heap.size, 0, none⟩ = some (.bool Gf) := HQ3.out.cell 0
      have q1 : w3.cell? ⟨w2.heap.size, 1, none⟩ = some (.string Glo) := HQ3.out.cell 1
      have q2 : w3.cell? ⟨w2.heap.size, 2, none⟩ = some (.string Ghi) := HQ3.out.cell 2
      have q3 : w3.cell? ⟨w2.heap.size, 3, none⟩ = some (.int .i64 Gr) := HQ3.out.cell 3
      have q4 : w3.cell? ⟨w2.heap.size, 4, none⟩ = some (.slice Gp Gn Gc) := HQ3.out.cell 4
      have b0 : w3.cell? ⟨w.heap.size + 1, 0, none⟩ = some (.bool false) := HR3.out.cell 0
      have bf0 : w3.frozen? ⟨w.heap.size + 1, 0, none⟩ = false := HR3.out.frozen 0
      have b1 : w3.cell? ⟨w.heap.size + 1, 1, none⟩ = some (.string ⟨#[]⟩) := HR3.out.cell 1
      have bf1 : w3.frozen? ⟨w.heap.size + 1, 1, none⟩ = false := HR3.out.frozen 1
      have b2 : w3.cell? ⟨w.heap.size + 1, 2, none⟩ = some (.string ⟨#[]⟩) := HR3.out.cell 2
      have bf2 : w3.frozen? ⟨w.heap.size + 1, 2, none⟩ = false := HR3.out.frozen 2
      have b3 : w3.cell? ⟨w.heap.size + 1, 3, none⟩ = some (.int .i64 0) := HR3.out.cell 3
      have bf3 : w3.frozen? ⟨w.heap.size + 1, 3, none⟩ = false := HR3.out.frozen 3
      have b4 : w3.cell? ⟨w.heap.size + 1, 4, none⟩ = some (.slice none 0 0) := HR3.out.cell 4
      have bf4 : w3.frozen? ⟨w.heap.size + 1, 4, none⟩ = false := HR3.out.frozen 4
      go_wp2
      clear q0 q1 q2 q3 q4
      clear b0 bf0 b1 bf1 b2 bf2 b3 bf3 b4 bf4
      have k1 := HR3.out.five (.bool Gf) (.string Glo) (.string Ghi) (.int .i64 Gr) (.slice Gp Gn Gc)
      have ht : Tn [w.heap.size + 1] w3 _ := (Tn.refl _ w3).five (R := w.heap.size + 1) (.inl (by simp)) (.bool Gf) (.string Glo) (.string Ghi) (.int .i64 Gr) (.slice Gp Gn Gc)
      refine bodyPost_ret (results_one (T' := 29) (cs := [.bool Gf, .string Glo, .string Ghi, .int .i64 Gr, .slice Gp Gn Gc]) rfl rfl pg_agg pg_size rfl k1) rfl ?_
      rw [HF.out]
      exact ⟨.inl ⟨rfl, _, rfl, (HG3.out.tn ht (by have := HS1.out; simp; omega)).mono HB1.out.size⟩, HB3.out.trans (ht.below HB3.out.size (by simp))⟩
    | false =>
      have hrm : Pg.remove ⟨pf, plo, phi, pr, pl⟩ key = (Pg.zero, 4) := by unfold Pg.remove; simp only [hq]; rfl
      have HWQ : Hid (Dl.without ⟨pf, plo, phi, pr, pl⟩ key = ⟨pf, plo, phi, pr, pl⟩) := by unfold Hid Dl.without; simp only [hq]; rfl
      rw [hrm] at hg2 ⊢
      obtain ⟨Gp, Gc, rfl, hg3⟩ := hg2.pv
      simp only [List.length_nil] at hg3 ⊢
      clear hg2 hb2 hrm hq hin hg3
      obtain ⟨w3, hw3⟩ : ∃ w3, w2.alloc (.cells #[.bool false, .string ⟨#[]⟩, .string ⟨#[]⟩, .int .i64 0, .slice Gp 0 Gc] 29) = w3 := ⟨_, rfl⟩
      have HB3 : Hid (Below w.heap.size w w3) := by rw [← hw3]; exact HB2.out.alloc HB2.out.size _
      have HR3 : Hid (Bk w3 (w.heap.size + 1) 29 #[.bool false, .string ⟨#[]⟩, .string ⟨#[]⟩, .int .i64 0, .slice none 0 0]) := by rw [← hw3]; exact HR2.out.alloc _
      have HK3 : Hid (Bk w3 w.heap.size 29 #[.bool pf, .string plo, .string phi, .int .i64 pr, .slice pp pn pc]) := by rw [← hw3]; exact HK2.out.alloc _
      have a0 : w3.cell? ⟨w.heap.size, 0, none⟩ = some (.bool pf) := HK3.out.cell 0
      have a1 : w3.cell? ⟨w.heap.size, 1, none⟩ = some (.string plo) := HK3.out.cell 1
      have a2 : w3.cell? ⟨w.heap.size, 2, none⟩ = some (.string phi) := HK3.out.cell 2
      have a3 : w3.cell? ⟨w.heap.size, 3, none⟩ = some (.int .i64 pr) := HK3.out.cell 3
      have a4 : w3.cell? ⟨w.heap.size, 4, none⟩ = some (.slice pp pn pc) := HK3.out.cell 4
      go_wp2_with fail
      refine (pclone_any pf plo phi pr pp pn pc pl _ HL.out (HX.out.below HB3.out (Nat.le_refl _)) hl hp).mono ?_
      rintro e w4 ⟨qp, qc, rfl, ho4, hb4⟩
      clear a0 a1 a2 a3 a4
      have HO4 : Hid (OwnE w4 w3.heap.size (.slice qp pn qc) pl) := ho4
      have HB4 : Hid (Below w.heap.size w w4) := HB3.out.trans (hb4.mono HB3.out.size)
      have HR4 : Hid (Bk w4 (w.heap.size + 1) 29 #[.bool false, .string ⟨#[]⟩, .string ⟨#[]⟩, .int .i64 0, .slice none 0 0]) := HR3.out.below hb4 HR3.out.lt
      have HS3 : Hid (w.heap.size + 1 < w3.heap.size) := HR3.out.lt
      clear ho4 hb4
      have b0 : w4.cell? ⟨w.heap.size + 1, 0, none⟩ = some (.bool false) := HR4.out.cell 0
      have bf0 : w4.frozen? ⟨w.heap.size + 1, 0, none⟩ = false := HR4.out.frozen 0
      have b1 : w4.cell? ⟨w.heap.size + 1, 1, none⟩ = some (.string ⟨#[]⟩) := HR4.out.cell 1
      have bf1 : w4.frozen? ⟨w.heap.size + 1, 1, none⟩ = false := HR4.out.frozen 1
      have b2 : w4.cell? ⟨w.heap.size + 1, 2, none⟩ = some (.string ⟨#[]⟩) := HR4.out.cell 2
      have bf2 : w4.frozen? ⟨w.heap.size + 1, 2, none⟩ = false := HR4.out.frozen 2
      have b3 : w4.cell? ⟨w.heap.size + 1, 3, none⟩ = some (.int .i64 0) := HR4.out.cell 3
      have bf3 : w4.frozen? ⟨w.heap.size + 1, 3, none⟩ = false := HR4.out.frozen 3
      have b4 : w4.cell? ⟨w.heap.size + 1, 4, none⟩ = some (.slice none 0 0) := HR4.out.cell 4
      have bf4 : w4.frozen? ⟨w.heap.size + 1, 4, none⟩ = false := HR4.out.frozen 4
      go_wp2
      clear b0 bf0 b1 bf1 b2 bf2 b3 bf3 b4 bf4
      have k1 := HR4.out.five (.bool pf) (.string plo) (.string phi) (.int .i64 pr) (.slice qp pn qc)
      have ht : Tn [w.heap.size + 1] w4 _ := (Tn.refl _ w4).five (R := w.heap.size + 1) (.inl (by simp)) (.bool pf) (.string plo) (.string phi) (.int .i64 pr) (.slice qp pn qc)
      refine bodyPost_ret (results_one (T' := 29) (cs := [.bool pf, .string plo, .string phi, .int .i64 pr, .slice qp pn qc]) rfl rfl pg_agg pg_size rfl k1) rfl ?_
      rw [HF.out, HWQ.out]
      exact ⟨.inl ⟨rfl, _, rfl, PgAt.own HL.out ((HO4.out.tn ht (by have := HS3.out; simp; omega)).mono HB3.out.size)⟩, HB4.out.trans (ht.below HB4.out.size (by simp))⟩

theorem upTo1_any (key : ByteArray) (B base : Nat) (w : World) (hk : Bk w B 9 #[.string key]) (hB : B < base) (W : World) (x : En) (hb : Below base w W) :
    Calls Tryz.prog 166 (#[x.val] ++ #[.pointer (some ⟨B, 0, none⟩)]) W fun e w' => e = .returned (.bool (!Ky.lt x.key key)) ∧ Below W.heap.size W w' := by
  have hk' : Bk W B 9 #[.string key] := (hb.block B hB).trans hk
  have c0 : W.cell? ⟨B, 0, none⟩ = some (.string key) := hk'.cell 0
  have hlt := hk'.lt
  have hne : B ≠ W.heap.size := by omega
  have HB : Hid (Below W.heap.size W (W.alloc (.cells #[.string x.key, .int .i64 x.s, .int .i64 x.g, .int .i64 x.c] 33))) := (Below.refl _ _).alloc (Nat.le_refl _) _
  have c1 : (W.alloc (.cells #[.string x.key, .int .i64 x.s, .int .i64 x.g, .int .i64 x.c] 33)).cell? ⟨B, 0, none⟩ = some (.string key) := (hk'.alloc _).cell 0
  show Calls Tryz.prog 166 #[x.val, .pointer (some ⟨B, 0, none⟩)] W _
  go_enter Tryz.func166, Tryz.ntmps166
  go_wp2
  go_ret
  exact ⟨rfl, HB.out⟩

set_option maxHeartbeats 2000000 in
theorem upTo_any (pf : Bool) (plo phi : ByteArray) (pr : Int) (pp : Option Addr) (pn pc : Nat) (pl : List En) (key : ByteArray) (r : Int) (w : World) (hlen : pl.length = pn) (hx : Ens w pp pl) (hl : pn ≤ 3518437208782) (hp : pp = none → pn = 0) :
    Calls Tryz.prog 147 #[pgv pf plo phi pr pp pn pc, .string key, .int .i64 r] w fun e w' => Done w (if Ky.lt plo key && Ky.inn ⟨plo, phi⟩ key then (Dl.upTo ⟨pf, plo, phi, pr, pl⟩ key r, 0) else (Pg.zero, 90)) e w' := by
  have hmf : ∀ (fn : Fn) (first cap : Array Value) (w : World), (Instr.makeFunc fn first cap).run Tryz.prog w = .ok (.func fn first cap) w := fun _ _ _ _ => rfl
  have eg : ∀ args w, (callFunc 166 args).run Tryz.prog w = .ok (.enter 166 args) w := enters_of Tryz.func166 (by kernel_rfl) rfl
  obtain ⟨out, HO⟩ : ∃ out : Pp × Int, Hid ((if Ky.lt plo key && Ky.inn ⟨plo, phi⟩ key then (Dl.upTo ⟨pf, plo, phi, pr, pl⟩ key r, 0) else (Pg.zero, 90)) = out) := ⟨_, rfl⟩
  rw [HO.out]
  have HX : Hid (Ens w pp pl) := hx
  have HL : Hid (pl.length = pn) := hlen
  clear hx hlen
  obtain ⟨w0, hw0⟩ : ∃ w0, ((w.alloc (.cells #[.bool pf, .string plo, .string phi, .int .i64 pr, .slice pp pn pc] 29)).alloc (.cells #[.string key] 9)).alloc (.cells #[.bool false, .string ⟨#[]⟩, .string ⟨#[]⟩, .int .i64 0, .slice none 0 0] 29) = w0 := ⟨_, rfl⟩
  have HB0 : Hid (Below w.heap.size w w0) := by rw [← hw0]; exact (((Below.refl _ _).alloc (Nat.le_refl _) _).alloc (by simp) _).alloc (by simp; omega) _
  have HK0 : Hid (Bk w0 w.heap.size 29 #[.bool pf, .string plo, .string phi, .int .i64 pr, .slice pp pn pc]) := by rw [← hw0]; exact ((Bk.new _ _ _).alloc _).alloc _
  have HY0 : Hid (Bk w0 (w.heap.size + 1) 9 #[.string key]) := by rw [← hw0]; exact (Bk.new1 _ _ _ _).alloc _
  have HR0 : Hid (Bk w0 (w.heap.size + 1 + 1) 29 #[.bool false, .string ⟨#[]⟩, .string ⟨#[]⟩, .int .i64 0, .slice none 0 0]) := by rw [← hw0]; exact Bk.new2 _ _ _ _ _
  have a0 : w0.cell? ⟨w.heap.size, 0, none⟩ = some (.bool pf) := HK0.out.cell 0
  have a1 : w0.cell? ⟨w.heap.size, 1, none⟩ = some (.string plo) := HK0.out.cell 1
  have a2 : w0.cell? ⟨w.heap.size, 2, none⟩ = some (.string phi) := HK0.out.cell 2
  have a3 : w0.cell? ⟨w.heap.size, 3, none⟩ = some (.int .i64 pr) := HK0.out.cell 3
  have a4 : w0.cell? ⟨w.heap.size, 4, none⟩ = some (.slice pp pn pc) := HK0.out.cell 4
  have y0 : w0.cell? ⟨w.heap.size + 1, 0, none⟩ = some (.string key) := HY0.out.cell 0
  go_enter Tryz.func147, Tryz.ntmps147
  cases hlo : Ky.lt plo key with
  | false =>
    have HF : Hid (out = (Pg.zero, 90)) := by rw [Hid, ← HO.out, hlo]; rfl
    have hle : (Op.bytesLess key.toList plo.toList || key.toList == plo.toList) = true := by rw [Ky.leq_iff]; show (!Ky.lt plo key) = true; rw [hlo]; rfl
    clear HO hlo
    go_wp2
    clear hw0
    refine ⟨rfl, ?_⟩
    rw [HF.out]
    exact ⟨.inr ⟨by decide, rfl⟩, HB0.out⟩
  | true =>
    have hle : (Op.bytesLess key.toList plo.toList || key.toList == plo.toList) = false := by rw [Ky.leq_iff]; show (!Ky.lt plo key) = false; rw [hlo]; rfl
    have HO2 : Hid ((if Ky.inn ⟨plo, phi⟩ key then (Dl.upTo ⟨pf, plo, phi, pr, pl⟩ key r, 0) else (Pg.zero, 90)) = out) := by rw [Hid, ← HO.out, hlo]; rfl
    clear HO hlo
    go_wp2_with fail
    clear hw0
    refine (has_any pf plo phi pr pp pn pc _ key).mono ?_
    rintro e w1 ⟨rfl, hb1⟩
    have HB1 : Hid (Below w.heap.size w w1) := HB0.out.trans (hb1.mono HB0.out.size)
    have HK1 : Hid (Bk w1 w.heap.size 29 #[.bool pf, .string plo, .string phi, .int .i64 pr, .slice pp pn pc]) := HK0.out.below hb1 HK0.out.lt
    have HY1 : Hid (Bk w1 (w.heap.size + 1) 9 #[.string key]) := HY0.out.below hb1 HY0.out.lt
    have HR1 : Hid (Bk w1 (w.heap.size + 1 + 1) 29 #[.bool false, .string ⟨#[]⟩, .string ⟨#[]⟩, .int .i64 0, .slice none 0 0]) := HR0.out.below hb1 HR0.out.lt
    have HS1 : Hid (w.heap.size + 1 + 1 < w1.heap.size) := HR1.out.lt
    clear hb1 y0
    clear a0 a1 a2 a3 a4
    cases hin : Ky.inn ⟨plo, phi⟩ key with
    | false =>
      have HF : Hid (out = (Pg.zero, 90)) := by rw [Hid, ← HO2.out, hin]; rfl
      go_wp2
      refine ⟨rfl, ?_⟩
      rw [HF.out]
      exact ⟨.inr ⟨by decide, rfl⟩, HB1.out⟩
    | true =>
      have HF : Hid (out = (Dl.upTo ⟨pf, plo, phi, pr, pl⟩ key r, 0)) := by rw [Hid, ← HO2.out, hin]; rfl
      clear HO2 hin
      have a0 : w1.cell? ⟨w.heap.size, 0, none⟩ = some (.bool pf) := HK1.out.cell 0
      have a1 : w1.cell? ⟨w.heap.size, 1, none⟩ = some (.string plo) := HK1.out.cell 1
      have a2 : w1.cell? ⟨w.heap.size, 2, none⟩ = some (.string phi) := HK1.out.cell 2
      have a3 : w1.cell? ⟨w.heap.size, 3, none⟩ = some (.int .i64 pr) := HK1.out.cell 3
      have a4 : w1.cell? ⟨w.heap.size, 4, none⟩ = some (.slice pp pn pc) := HK1.out.cell 4
      go_wp2_with fail
      refine (pclone_any pf plo phi pr pp pn pc pl _ HL.out (HX.out.below HB1.out (Nat.le_refl _)) hl hp).mono ?_
      rintro e w2 ⟨qp, qc, rfl, ho2, hb2⟩
      clear a0 a1 a2 a3 a4
      have HO2 : Hid (OwnE w2 w1.heap.size (.slice qp pn qc) pl) := ho2
      have HB2 : Hid (Below w.heap.size w w2) := HB1.out.trans (hb2.mono HB1.out.size)
      have HBB2 : Hid (w1.heap.size ≤ w2.heap.size) := hb2.size
      have HK2 : Hid (Bk w2 w.heap.size 29 #[.bool pf, .string plo, .string phi, .int .i64 pr, .slice pp pn pc]) := HK1.out.below hb2 HK1.out.lt
      have HY2 : Hid (Bk w2 (w.heap.size + 1) 9 #[.string key]) := HY1.out.below hb2 HY1.out.lt
      have HR2 : Hid (Bk w2 (w.heap.size + 1 + 1) 29 #[.bool false, .string ⟨#[]⟩, .string ⟨#[]⟩, .int .i64 0, .slice none 0 0]) := HR1.out.below hb2 HR1.out.lt
      clear ho2 hb2
      obtain ⟨w3, hw3⟩ : ∃ w3, put5 w2 w.heap.size (.bool pf) (.string plo) (.string phi) (.int .i64 pr) (.slice qp pn qc) = w3 := ⟨_, rfl⟩
      have ht3 : Tn [w.heap.size] w2 w3 := by rw [← hw3]; exact (Tn.refl _ w2).five (.inl (by simp)) _ _ _ _ _
      have HK3 : Hid (Bk w3 w.heap.size 29 #[.bool pf, .string plo, .string phi, .int .i64 pr, .slice qp pn qc]) := by rw [← hw3]; exact HK2.out.five _ _ _ _ _
      have HY3 : Hid (Bk w3 (w.heap.size + 1) 9 #[.string key]) := HY2.out.tn ht3 (by simp)
      have HR3 : Hid (Bk w3 (w.heap.size + 1 + 1) 29 #[.bool false, .string ⟨#[]⟩, .string ⟨#[]⟩, .int .i64 0, .slice none 0 0]) := HR2.out.tn ht3 (by simp; try omega)
      have HO3 : Hid (OwnE w3 w1.heap.size (.slice qp pn qc) pl) := HO2.out.tn ht3 (by have := HS1.out; simp; omega)
      have HB3 : Hid (Below w.heap.size w w3) := HB2.out.trans (ht3.below HB2.out.size (by simp))
      have HBB3 : Hid (w1.heap.size ≤ w3.heap.size) := Nat.le_trans HBB2.out ht3.size
      have a0 : w2.cell? ⟨w.heap.size, 0, none⟩ = some (.bool pf) := HK2.out.cell 0
      have af0 : w2.frozen? ⟨w.heap.size, 0, none⟩ = false := HK2.out.frozen 0
      have a1 : w2.cell? ⟨w.heap.size, 1, none⟩ = some (.string plo) := HK2.out.cell 1
      have af1 : w2.frozen? ⟨w.heap.size, 1, none⟩ = false := HK2.out.frozen 1
      have a2 : w2.cell? ⟨w.heap.size, 2, none⟩ = some (.string phi) := HK2.out.cell 2
      have af2 : w2.frozen? ⟨w.heap.size, 2, none⟩ = false := HK2.out.frozen 2
      have a3 : w2.cell? ⟨w.heap.size, 3, none⟩ = some (.int .i64 pr) := HK2.out.cell 3
      have af3 : w2.frozen? ⟨w.heap.size, 3, none⟩ = false := HK2.out.frozen 3
      have a4 : w2.cell? ⟨w.heap.size, 4, none⟩ = some (.slice pp pn pc) := HK2.out.cell 4
      have af4 : w2.frozen? ⟨w.heap.size, 4, none⟩ = false := HK2.out.frozen 4
      unfold put5 at hw3
      have b4 : w3.cell? ⟨w.heap.size, 4, none⟩ = some (.slice qp pn qc) := HK3.out.cell 4
      go_wp2_with fail
      clear hw3 ht3
      clear a0 af0 a1 af1 a2 af2 a3 af3 a4 af4
      refine (deleteE_any 166 #[.pointer (some ⟨w.heap.size + 1, 0, none⟩)] (fun x => !Ky.lt x.key key) eg qp pn qc pl w1.heap.size w3 HL.out HO3.out HBB3.out (by omega) (fun W x hb => upTo1_any key (w.heap.size + 1) w1.heap.size w3 HY3.out (by have := HS1.out; omega) W x hb)).mono ?_
      rintro e w4 ⟨v4, rfl, ho4, hb4⟩
      obtain ⟨fp, fc, rfl, -, -⟩ := ho4.ens
      have HFL : Hid ((pl.filter fun x => !(!Ky.lt x.key key)) = pl.filter fun x => Ky.lt x.key key) := by unfold Hid; simp
      rw [HFL.out] at ho4 ⊢
      obtain ⟨fl, hfl⟩ : ∃ fl, (pl.filter fun x => Ky.lt x.key key) = fl := ⟨_, rfl⟩
      have HFF : Hid (Dl.upTo ⟨pf, plo, phi, pr, pl⟩ key r = ⟨pf, plo, key, r, fl⟩) := by rw [Hid, ← hfl]; rfl
      rw [hfl] at ho4 ⊢
      obtain ⟨fn, hfn⟩ : ∃ fn, fl.length = fn := ⟨_, rfl⟩
      rw [hfn] at ho4 ⊢
      have HFN : Hid (fl.length = fn) := hfn
      have HO4 : Hid (OwnE w4 w1.heap.size (.slice fp fn fc) fl) := ho4
      have HB4 : Hid (Below w.heap.size w w4) := HB3.out.trans (hb4.mono HB1.out.size)
      have HK4 : Hid (Bk w4 w.heap.size 29 #[.bool pf, .string plo, .string phi, .int .i64 pr, .slice qp pn qc]) := (hb4.block _ (by have := HS1.out; omega)).trans HK3.out
      have HY4 : Hid (Bk w4 (w.heap.size + 1) 9 #[.string key]) := (hb4.block _ (by have := HS1.out; omega)).trans HY3.out
      have HR4 : Hid (Bk w4 (w.heap.size + 1 + 1) 29 #[.bool false, .string ⟨#[]⟩, .string ⟨#[]⟩, .int .i64 0, .slice none 0 0]) := (hb4.block _ HS1.out).trans HR3.out
      clear ho4 hb4 b4 hfl hfn HFL
      have a0 : w4.cell? ⟨w.heap.size, 0, none⟩ = some (.bool pf) := HK4.out.cell 0
      have af0 : w4.frozen? ⟨w.heap.size, 0, none⟩ = false := HK4.out.frozen 0
      have a1 : w4.cell? ⟨w.heap.size, 1, none⟩ = some (.string plo) := HK4.out.cell 1
      have af1 : w4.frozen? ⟨w.heap.size, 1, none⟩ = false := HK4.out.frozen 1
      have a2 : w4.cell? ⟨w.heap.size, 2, none⟩ = some (.string phi) := HK4.out.cell 2
      have af2 : w4.frozen? ⟨w.heap.size, 2, none⟩ = false := HK4.out.frozen 2
      have a3 : w4.cell? ⟨w.heap.size, 3, none⟩ = some (.int .i64 pr) := HK4.out.cell 3
      have af3 : w4.frozen? ⟨w.heap.size, 3, none⟩ = false := HK4.out.frozen 3
      have a4 : w4.cell? ⟨w.heap.size, 4, none⟩ = some (.slice qp pn qc) := HK4.out.cell 4
      have af4 : w4.frozen? ⟨w.heap.size, 4, none⟩ = false := HK4.out.frozen 4
      have b0 : w4.cell? ⟨w.heap.size + 1 + 1, 0, none⟩ = some (.bool false) := HR4.out.cell 0
      have bf0 : w4.frozen? ⟨w.heap.size + 1 + 1, 0, none⟩ = false := HR4.out.frozen 0
      have b1 : w4.cell? ⟨w.heap.size + 1 + 1, 1, none⟩ = some (.string ⟨#[]⟩) := HR4.out.cell 1
      have bf1 : w4.frozen? ⟨w.heap.size + 1 + 1, 1, none⟩ = false := HR4.out.frozen 1
      have b2 : w4.cell? ⟨w.heap.size + 1 + 1, 2, none⟩ = some (.string ⟨#[]⟩) := HR4.out.cell 2
      have bf2 : w4.frozen? ⟨w.heap.size + 1 + 1, 2, none⟩ = false := HR4.out.frozen 2
      have b3 : w4.cell? ⟨w.heap.size + 1 + 1, 3, none⟩ = some (.int .i64 0) := HR4.out.cell 3
      have bf3 : w4.frozen? ⟨w.heap.size + 1 + 1, 3, none⟩ = false := HR4.out.frozen 3
      have b4 : w4.cell? ⟨w.heap.size + 1 + 1, 4, none⟩ = some (.slice none 0 0) := HR4.out.cell 4
      have bf4 : w4.frozen? ⟨w.heap.size + 1 + 1, 4, none⟩ = false := HR4.out.frozen 4
      have y0 : w4.cell? ⟨w.heap.size + 1, 0, none⟩ = some (.string key) := HY4.out.cell 0
      go_wp2
      clear a0 af0 a1 af1 a2 af2 a3 af3 a4 af4
      clear b0 bf0 b1 bf1 b2 bf2 b3 bf3 b4 bf4
      clear y0
      have k0 := ((HR4.out.other (p := ⟨w.heap.size, 4, none⟩) (by simp; omega) (.slice fp fn fc)).other (p := ⟨w.heap.size, 2, none⟩) (by simp; omega) (.string key)).other (p := ⟨w.heap.size, 3, none⟩) (by simp; omega) (.int .i64 r)
      have k1 := k0.five (.bool pf) (.string plo) (.string key) (.int .i64 r) (.slice fp fn fc)
      have ht0 : Tn [w.heap.size, w.heap.size + 1 + 1] w4 _ := (((Tn.refl _ w4).setCell (p := ⟨w.heap.size, 4, none⟩) (.inl (by simp)) (.slice fp fn fc)).setCell (p := ⟨w.heap.size, 2, none⟩) (.inl (by simp)) (.string key)).setCell (p := ⟨w.heap.size, 3, none⟩) (.inl (by simp)) (.int .i64 r)
      have ht : Tn [w.heap.size, w.heap.size + 1 + 1] w4 _ := ht0.five (R := w.heap.size + 1 + 1) (.inl (by simp)) (.bool pf) (.string plo) (.string key) (.int .i64 r) (.slice fp fn fc)
      refine bodyPost_ret (results_one (T' := 29) (cs := [.bool pf, .string plo, .string key, .int .i64 r, .slice fp fn fc]) rfl rfl pg_agg pg_size rfl k1) rfl ?_
      rw [HF.out, HFF.out]
      exact ⟨.inl ⟨rfl, _, rfl, PgAt.own HFN.out ((HO4.out.tn ht (by have := HS1.out; simp; omega)).mono HB1.out.size)⟩, HB4.out.trans (ht.below HB4.out.size (by simp; omega))⟩

end Go.Proofs.YtoehlgigidgfpaaGreat
