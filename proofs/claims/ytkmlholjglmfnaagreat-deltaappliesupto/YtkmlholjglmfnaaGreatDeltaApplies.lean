/- DeltaApplies: any page by any delta, and which deltas may be: as the document has it. -/
import Derived.Test.YtkmlholjglmfnaaGreatPgMg
import Derived.Deep.RegionHeld3
import Derived.Test.YtkmlholjglmfnaaGreatPgMm
import Derived.Test.YtkmlholjglmfnaaGreatDlR
import Derived.Test.YtkmlholjglmfnaaGreatDlA
import Derived.Test.YtkmlholjglmfnaaGreatPgPx
import Derived.Test.YtkmlholjglmfnaaGreatDlU
import Derived.Test.YtkmlholjglmfnaaGreatPgM
import Derived.ProofKit
import Derived.OpenShut
import Derived.ShutString
import Derived.ChangeOld
import Derived.SizedLaws
import Derived.JoinedCond
import Derived.Deep.Slices
import Derived.Test.YtkmlholjglmfnaaGreatDlM
import Derived.Test.YtkmlholjglmfnaaGreatDlV
namespace Go.Proofs.YtkmlholjglmfnaaGreat
open Go.RowKit Go.Sort
set_option linter.unusedVariables false
set_option maxRecDepth 100000

set_option maxHeartbeats 1000000 in
theorem rclone_any (leaf : Bool) (lo hi : ByteArray) (r : Int) (p : Option Addr) (len cap : Nat) (l : List En) (w : World) (hlen : l.length = len) (hx : Ens w p l) (hl : len ≤ 3518437208782) (hp : p = none → len = 0 ∧ cap = 0) :
    Calls Tryz.prog 58 #[pgv leaf lo hi r p len cap] w fun e w' => ∃ p' cap', e = .returned (pgv leaf lo hi r p' len cap') ∧ OwnE w' w.heap.size (.slice p' len cap') l ∧ Below w.heap.size w w' := by
  obtain ⟨w0, hw0⟩ : ∃ w0, (w.alloc (.cells (pgc leaf lo hi r p len cap) 24)).alloc (.cells #[.bool false, .string ⟨#[]⟩, .string ⟨#[]⟩, .int .i64 0, .slice none 0 0] 24) = w0 := ⟨_, rfl⟩
  have HB0 : Hid (Below w.heap.size w w0) := by rw [← hw0]; exact ((Below.refl _ _).alloc (Nat.le_refl _) _).alloc (by simp) _
  have HK0 : Hid (Bk w0 w.heap.size 24 (pgc leaf lo hi r p len cap)) := by rw [← hw0]; exact (Bk.new _ _ _).alloc _
  have HR0 : Hid (Bk w0 (w.heap.size + 1) 24 #[.bool false, .string ⟨#[]⟩, .string ⟨#[]⟩, .int .i64 0, .slice none 0 0]) := by rw [← hw0]; exact Bk.new1 _ _ _ _
  have HL : Hid (l.length = len) := hlen
  obtain ⟨v1, w1, hr, ho, hg, hor⟩ := run_appE w0 w0.heap.size 22 (.slice none 0 0) [] l p len cap hlen (hx.below HB0.out (Nat.le_refl _)) hp (OwnE.nil _ _) (by simp; omega) (Nat.le_refl _)
  have hb : Below w0.heap.size w0 w1 := (Below.refl _ _).grown hg (Nat.le_refl _) (fun k hk => by cases hk)
  rw [List.nil_append] at ho
  obtain ⟨q, c, rfl, -, -⟩ := ho.ens
  have HR : Hid _ := hr
  have HO : Hid (OwnE w1 w0.heap.size (.slice q l.length c) l) := ho
  have HB1 : Hid (Below w.heap.size w w1) := HB0.out.trans (hb.mono HB0.out.size)
  have HK1 : Hid (Bk w1 w.heap.size 24 (pgc leaf lo hi r p len cap)) := HK0.out.below hb HK0.out.lt
  have HR1 : Hid (Bk w1 (w.heap.size + 1) 24 #[.bool false, .string ⟨#[]⟩, .string ⟨#[]⟩, .int .i64 0, .slice none 0 0]) := HR0.out.below hb HR0.out.lt
  have HS0 : Hid (w.heap.size + 1 < w0.heap.size) := HR0.out.lt
  rw [hlen] at HO HR
  clear ho hb hr hg hor hx hlen hp
  have k4 : w0.cell? ⟨w.heap.size, 4, none⟩ = some (.slice p len cap) := HK0.out.cell 4
  have a0 : w1.cell? ⟨w.heap.size, 0, none⟩ = some (.bool leaf) := HK1.out.cell 0
  have a1 : w1.cell? ⟨w.heap.size, 1, none⟩ = some (.string lo) := HK1.out.cell 1
  have a2 : w1.cell? ⟨w.heap.size, 2, none⟩ = some (.string hi) := HK1.out.cell 2
  have a3 : w1.cell? ⟨w.heap.size, 3, none⟩ = some (.int .i64 r) := HK1.out.cell 3
  have a4 : w1.cell? ⟨w.heap.size, 4, none⟩ = some (.slice p len cap) := HK1.out.cell 4
  have f4 : w1.frozen? ⟨w.heap.size, 4, none⟩ = false := HK1.out.frozen 4
  have b0 : w1.cell? ⟨w.heap.size + 1, 0, none⟩ = some (.bool false) := HR1.out.cell 0
  have b1 : w1.cell? ⟨w.heap.size + 1, 1, none⟩ = some (.string ⟨#[]⟩) := HR1.out.cell 1
  have b2 : w1.cell? ⟨w.heap.size + 1, 2, none⟩ = some (.string ⟨#[]⟩) := HR1.out.cell 2
  have b3 : w1.cell? ⟨w.heap.size + 1, 3, none⟩ = some (.int .i64 0) := HR1.out.cell 3
  have b4 : w1.cell? ⟨w.heap.size + 1, 4, none⟩ = some (.slice none 0 0) := HR1.out.cell 4
  have g0 : w1.frozen? ⟨w.heap.size + 1, 0, none⟩ = false := HR1.out.frozen 0
  have g1 : w1.frozen? ⟨w.heap.size + 1, 1, none⟩ = false := HR1.out.frozen 1
  have g2 : w1.frozen? ⟨w.heap.size + 1, 2, none⟩ = false := HR1.out.frozen 2
  have g3 : w1.frozen? ⟨w.heap.size + 1, 3, none⟩ = false := HR1.out.frozen 3
  have g4 : w1.frozen? ⟨w.heap.size + 1, 4, none⟩ = false := HR1.out.frozen 4
  go_enter Tryz.func58, Tryz.ntmps58
  go_wp2_with (at_builtin; refine Lib.wpList_append_run _ rfl _ _ _ _ rfl _ _ rfl rfl _ _ HR.out ?_)
  refine bodyPost_ret (results_one (cs := [.bool leaf, .string lo, .string hi, .int .i64 r, .slice q len c]) rfl rfl pg_agg pg_size rfl (((HR1.out.other (p := ⟨w.heap.size, 4, none⟩) (by simp) _).five _ _ _ _ _))) rfl ?_
  have ht : Tn [w.heap.size, w.heap.size + 1] w1 (put5 (w1.setCell ⟨w.heap.size, 4, none⟩ (.slice q len c)) (w.heap.size + 1) (.bool leaf) (.string lo) (.string hi) (.int .i64 r) (.slice q len c)) :=
    ((Tn.refl _ _).setCell (p := ⟨w.heap.size, 4, none⟩) (.inl (by simp)) _).five (.inl (by simp)) _ _ _ _ _
  have hs0 := HS0.out
  refine ⟨q, c, rfl, (HO.out.tn ht (by simp; omega)).mono HB0.out.size, HB1.out.trans (ht.below HB1.out.size (by simp))⟩

end Go.Proofs.YtkmlholjglmfnaaGreat

namespace Go.Proofs.YtkmlholjglmfnaaGreat
open Go.RowKit Go.Sort
set_option linter.unusedVariables false
set_option maxRecDepth 100000

set_option maxHeartbeats 2000000 in
theorem rmerge_any (a b : Pp) (pa pb : Option Addr) (na nb ca cb : Nat) (w : World) (hna : a.l.length = na) (hnb : b.l.length = nb) (ha : Ens w pa a.l) (hb : Ens w pb b.l) (hpa : pa = none → na = 0 ∧ ca = 0) (hpb : pb = none → nb = 0 ∧ cb = 0) (hl : (na + nb) * 40 ≤ 140737488355328) (hla : na ≤ 3518437208782) :
    Calls Tryz.prog 32 #[pgv a.leaf a.lo a.hi a.r pa na ca, pgv b.leaf b.lo b.hi b.r pb nb cb] w fun e w' => ∃ v, e = .returned (.tuple #[v, .int .i64 (Pg.merge a b).2]) ∧ PgAt w' w.heap.size v (Pg.merge a b).1 ∧ Below w.heap.size w w' := by
  obtain ⟨w0, hw0⟩ : ∃ w0, w0 = ((w.alloc (.cells (pgc a.leaf a.lo a.hi a.r pa na ca) 24)).alloc (.cells (pgc b.leaf b.lo b.hi b.r pb nb cb) 24)).alloc (.cells zc 24) := ⟨_, rfl⟩
  have HB0 : Hid (Below w.heap.size w w0) := by rw [hw0]; exact (((Below.refl _ _).alloc (Nat.le_refl _) _).alloc (by simp) _).alloc (by simp; omega) _
  have HK0 : Hid (Bk w0 w.heap.size 24 (pgc a.leaf a.lo a.hi a.r pa na ca)) := by rw [hw0]; exact ((Bk.new _ _ _).alloc _).alloc _
  have HR0 : Hid (Bk w0 (w.heap.size + 1) 24 (pgc b.leaf b.lo b.hi b.r pb nb cb)) := by rw [hw0]; exact (Bk.new1 _ _ _ _).alloc _
  have HS0 : Hid (Bk w0 (w.heap.size + 1 + 1) 24 zc) := by rw [hw0]; exact Bk.new2 _ _ _ _ _
  have HNA : Hid (a.l.length = na) := hna
  have HNB : Hid (b.l.length = nb) := hnb
  have HA : Hid (Ens w pa a.l) := ha
  have HE : Hid (Ens w pb b.l) := hb
  have HPA : Hid (pa = none → na = 0 ∧ ca = 0) := hpa
  have HPB : Hid (pb = none → nb = 0 ∧ cb = 0) := hpb
  obtain ⟨out, hout⟩ : ∃ out, Pg.merge a b = out := ⟨_, rfl⟩
  rw [hout]
  have HO : Hid (out = if (a.leaf == b.leaf) && (!a.hi.toList.isEmpty && (a.hi.toList == b.lo.toList)) then (⟨a.leaf, a.lo, b.hi, b.r, a.l ++ b.l⟩, 0) else (Pg.zero, 72)) := hout.symm
  clear hout hna hnb ha hb hpa hpb
  obtain ⟨la, aa, ab, ar, al⟩ := a
  obtain ⟨lb, ba, bb, br, bl⟩ := b
  simp only at *
  have a0 : w0.cell? ⟨w.heap.size, 0, none⟩ = some (.bool la) := HK0.out.cell 0
  have a1 : w0.cell? ⟨w.heap.size, 1, none⟩ = some (.string aa) := HK0.out.cell 1
  have a2 : w0.cell? ⟨w.heap.size, 2, none⟩ = some (.string ab) := HK0.out.cell 2
  have a4 : w0.cell? ⟨w.heap.size, 4, none⟩ = some (.slice pa na ca) := HK0.out.cell 4
  have b0 : w0.cell? ⟨w.heap.size + 1, 0, none⟩ = some (.bool lb) := HR0.out.cell 0
  have b1 : w0.cell? ⟨w.heap.size + 1, 1, none⟩ = some (.string ba) := HR0.out.cell 1
  have b2 : w0.cell? ⟨w.heap.size + 1, 2, none⟩ = some (.string bb) := HR0.out.cell 2
  have b3 : w0.cell? ⟨w.heap.size + 1, 3, none⟩ = some (.int .i64 br) := HR0.out.cell 3
  have b4 : w0.cell? ⟨w.heap.size + 1, 4, none⟩ = some (.slice pb nb cb) := HR0.out.cell 4
  cases h0 : (la == lb) with
  | false =>
    rw [h0] at HO
    have HQ : Hid (out = (Pg.zero, 72)) := HO
    go_enter Tryz.func32, Tryz.ntmps32
    go_wp2_with fail
    all_goals try rw [← hw0]
    all_goals try clear hw0
    refine bodyPost_ret (results_two (cs := [.bool false, .string ⟨#[]⟩, .string ⟨#[]⟩, .int .i64 0, .slice none 0 0]) rfl rfl pg_agg pg_size rfl HS0.out) rfl ?_
    rw [HQ.out]
    exact ⟨_, rfl, PgAt.zero _ _, HB0.out⟩
  | true =>
    cases h1 : ab.toList.isEmpty with
    | true =>
      rw [h0, h1] at HO
      have HQ : Hid (out = (Pg.zero, 72)) := HO
      go_enter Tryz.func32, Tryz.ntmps32
      go_wp2_with fail
      all_goals try rw [← hw0]
      all_goals try clear hw0
      refine bodyPost_ret (results_two (cs := [.bool false, .string ⟨#[]⟩, .string ⟨#[]⟩, .int .i64 0, .slice none 0 0]) rfl rfl pg_agg pg_size rfl HS0.out) rfl ?_
      rw [HQ.out]
      exact ⟨_, rfl, PgAt.zero _ _, HB0.out⟩
    | false =>
      cases h2 : (ab.toList == ba.toList) with
      | false =>
        rw [h0, h1, h2] at HO
        have HQ : Hid (out = (Pg.zero, 72)) := HO
        go_enter Tryz.func32, Tryz.ntmps32
        go_wp2_with fail
        all_goals try rw [← hw0]
        all_goals try clear hw0
        refine bodyPost_ret (results_two (cs := [.bool false, .string ⟨#[]⟩, .string ⟨#[]⟩, .int .i64 0, .slice none 0 0]) rfl rfl pg_agg pg_size rfl HS0.out) rfl ?_
        rw [HQ.out]
        exact ⟨_, rfl, PgAt.zero _ _, HB0.out⟩
      | true =>
        rw [h0, h1, h2] at HO
        have HQ : Hid (out = (⟨la, aa, bb, br, al ++ bl⟩, 0)) := HO
        go_enter Tryz.func32, Tryz.ntmps32
        have a3 : w0.cell? ⟨w.heap.size, 3, none⟩ = some (.int .i64 ar) := HK0.out.cell 3
        go_wp2_with fail
        all_goals try rw [← hw0]
        all_goals try clear hw0
        clear a0 a1 a2 a3 a4 b0 b1 b2 b3 b4
        refine (rclone_any la aa ab ar pa na ca al _ HNA.out (HA.out.below HB0.out (Nat.le_refl _)) hla HPA.out).mono ?_
        rintro e w1 ⟨p1, c1, rfl, ho1, hb1⟩
        obtain ⟨wa, hwa⟩ : ∃ wa, w1.alloc (.cells #[.bool la, .string aa, .string ab, .int .i64 ar, .slice p1 na c1] 24) = wa := ⟨_, rfl⟩
        have hba : Below w1.heap.size w1 wa := by rw [← hwa]; exact (Below.refl _ _).alloc (Nat.le_refl _) _
        have hXa : Bk wa w1.heap.size 24 #[.bool la, .string aa, .string ab, .int .i64 ar, .slice p1 na c1] := by rw [← hwa]; exact Bk.new _ _ _
        have hb1a : Below w0.heap.size w0 wa := hb1.trans (hba.mono hb1.size)
        have hoa : OwnE wa w0.heap.size (.slice p1 na c1) al := ho1.below hba (Nat.le_refl _)
        obtain ⟨v2, w2, hr, ho2, hg2, h5⟩ := run_appE wa w0.heap.size 22 (.slice p1 na c1) al bl pb nb cb HNB.out ((HE.out.below HB0.out (Nat.le_refl _)).below hb1a (Nat.le_refl _)) HPB.out hoa (by rw [HNA.out]; exact hl) hb1a.size
        have hb2 : Below w0.heap.size w0 w2 := hb1a.grown hg2 hb1a.size (fun k hk => (World.ownsRow.lt hoa k hk).1)
        have hX2 : Bk w2 w1.heap.size 24 #[.bool la, .string aa, .string ab, .int .i64 ar, .slice p1 na c1] := (hg2.block _ hXa.lt (fun e => by have := (World.ownsRow.lt ho1 _ e.symm).2; omega)).trans hXa
        obtain ⟨q2, d2, rfl, -, -⟩ := ho2.ens
        have HNE : Hid (∀ g o, q2 = some ⟨g, o, none⟩ → g ≠ w1.heap.size) := by
          intro g o hq
          subst hq
          rcases h5 with e | e
          · have := (World.ownsRow.lt ho1 g e.symm).2
            omega
          · have h6 : some g = some wa.heap.size := e
            have h7 := Option.some.inj h6
            have h8 : wa.heap.size = w1.heap.size + 1 := by rw [← hwa]; simp
            omega
        obtain ⟨n2, HN2⟩ : ∃ n2, Hid ((al ++ bl).length = n2) := ⟨_, rfl⟩
        rw [HN2.out] at ho2 hr
        have HR : Hid _ := hr
        have HO2 : Hid (OwnE w2 w0.heap.size (.slice q2 n2 d2) (al ++ bl)) := ho2
        have HX2 : Hid (Bk w2 w1.heap.size 24 #[.bool la, .string aa, .string ab, .int .i64 ar, .slice p1 na c1]) := hX2
        have HB2 : Hid (Below w.heap.size w w2) := HB0.out.trans (hb2.mono HB0.out.size)
        have HR2 : Hid (Bk w2 (w.heap.size + 1) 24 (pgc lb ba bb br pb nb cb)) := HR0.out.below hb2 HR0.out.lt
        have HS2 : Hid (Bk w2 (w.heap.size + 1 + 1) 24 zc) := HS0.out.below hb2 HS0.out.lt
        have HRa : Hid (Bk wa (w.heap.size + 1) 24 (pgc lb ba bb br pb nb cb)) := HR0.out.below hb1a HR0.out.lt
        have HSZ : Hid (w.heap.size + 1 + 1 < w0.heap.size ∧ w0.heap.size ≤ w1.heap.size) := ⟨HS0.out.lt, hb1.size⟩
        have ya : wa.cell? ⟨w1.heap.size, 4, none⟩ = some (.slice p1 na c1) := hXa.cell 4
        have yb : wa.cell? ⟨w.heap.size + 1, 4, none⟩ = some (.slice pb nb cb) := HRa.out.cell 4
        clear ho1 hb1 hba hXa hb1a hoa hr ho2 hg2 hb2 hX2 h5
        have m1 : ¬ w1.heap.size = w.heap.size + 1 + 1 := by have := HSZ.out; omega
        have m2 : ¬ w.heap.size + 1 + 1 = w1.heap.size := by have := HSZ.out; omega
        have m3 : ¬ w1.heap.size = w.heap.size + 1 := by have := HSZ.out; omega
        have m4 : ¬ w.heap.size + 1 = w1.heap.size := by have := HSZ.out; omega
        have x0 : w2.cell? ⟨w1.heap.size, 0, none⟩ = some (.bool la) := HX2.out.cell 0
        have x1 : w2.cell? ⟨w1.heap.size, 1, none⟩ = some (.string aa) := HX2.out.cell 1
        have x2 : w2.cell? ⟨w1.heap.size, 2, none⟩ = some (.string ab) := HX2.out.cell 2
        have x3 : w2.cell? ⟨w1.heap.size, 3, none⟩ = some (.int .i64 ar) := HX2.out.cell 3
        have x4 : w2.cell? ⟨w1.heap.size, 4, none⟩ = some (.slice p1 na c1) := HX2.out.cell 4
        have z2 : w2.frozen? ⟨w1.heap.size, 2, none⟩ = false := HX2.out.frozen 2
        have z3 : w2.frozen? ⟨w1.heap.size, 3, none⟩ = false := HX2.out.frozen 3
        have z4 : w2.frozen? ⟨w1.heap.size, 4, none⟩ = false := HX2.out.frozen 4
        have y2 : w2.cell? ⟨w.heap.size + 1, 2, none⟩ = some (.string bb) := HR2.out.cell 2
        have y3 : w2.cell? ⟨w.heap.size + 1, 3, none⟩ = some (.int .i64 br) := HR2.out.cell 3
        have c0 : w2.cell? ⟨w.heap.size + 1 + 1, 0, none⟩ = some (.bool false) := HS2.out.cell 0
        have f0 : w2.frozen? ⟨w.heap.size + 1 + 1, 0, none⟩ = false := HS2.out.frozen 0
        have c1 : w2.cell? ⟨w.heap.size + 1 + 1, 1, none⟩ = some (.string ⟨#[]⟩) := HS2.out.cell 1
        have f1 : w2.frozen? ⟨w.heap.size + 1 + 1, 1, none⟩ = false := HS2.out.frozen 1
        have c2 : w2.cell? ⟨w.heap.size + 1 + 1, 2, none⟩ = some (.string ⟨#[]⟩) := HS2.out.cell 2
        have f2 : w2.frozen? ⟨w.heap.size + 1 + 1, 2, none⟩ = false := HS2.out.frozen 2
        have c3 : w2.cell? ⟨w.heap.size + 1 + 1, 3, none⟩ = some (.int .i64 0) := HS2.out.cell 3
        have f3 : w2.frozen? ⟨w.heap.size + 1 + 1, 3, none⟩ = false := HS2.out.frozen 3
        have c4 : w2.cell? ⟨w.heap.size + 1 + 1, 4, none⟩ = some (.slice none 0 0) := HS2.out.cell 4
        have f4 : w2.frozen? ⟨w.heap.size + 1 + 1, 4, none⟩ = false := HS2.out.frozen 4
        go_wp2_with (at_builtin; refine Lib.wpList_append_run _ rfl _ _ _ _ rfl _ _ rfl rfl _ _ HR.out ?_)
        go_region
        go_wp2
        obtain ⟨we, hwe⟩ : ∃ we, we = (put5 (((w2.setCell ⟨w1.heap.size, 4, none⟩ (.slice q2 n2 d2)).setCell ⟨w1.heap.size, 2, none⟩ (.string bb)).setCell ⟨w1.heap.size, 3, none⟩ (.int .i64 br)) (w.heap.size + 1 + 1) (.bool la) (.string aa) (.string bb) (.int .i64 br) (.slice q2 n2 d2)).drew := ⟨_, rfl⟩
        have hA : Bk we (w.heap.size + 1 + 1) 24 #[.bool la, .string aa, .string bb, .int .i64 br, .slice q2 n2 d2] := by
          rw [hwe]
          exact (Bk.five (((HS2.out.other (p := ⟨w1.heap.size, 4, none⟩) m2 _).other (p := ⟨w1.heap.size, 2, none⟩) m2 _).other (p := ⟨w1.heap.size, 3, none⟩) m2 _) _ _ _ _ _).drew
        have ht : Tn [w1.heap.size, w.heap.size + 1 + 1] w2 we := by
          rw [hwe]
          exact (((((Tn.refl _ _).setCell (p := ⟨w1.heap.size, 4, none⟩) (.inl (by simp)) _).setCell (p := ⟨w1.heap.size, 2, none⟩) (.inl (by simp)) _).setCell (p := ⟨w1.heap.size, 3, none⟩) (.inl (by simp)) _).five (.inl (by simp)) _ _ _ _ _).drew
        unfold put5 at hwe
        rw [← hwe]
        clear hwe
        refine bodyPost_ret (results_two (cs := [.bool la, .string aa, .string bb, .int .i64 br, .slice q2 n2 d2]) rfl rfl pg_agg pg_size rfl hA) rfl ?_
        rw [HQ.out]
        have hlt := HSZ.out
        refine ⟨_, rfl, ⟨q2, d2, by simp only [HN2.out], ?_⟩, HB2.out.trans (ht.below HB2.out.size (by simp; omega))⟩
        simp only [HN2.out]
        refine (HO2.out.seg.keep fun g o hq => ht.block g (HO2.out.seg.lt hq).2 ?_).mono HB0.out.size
        have h1 := HNE.out g o hq
        have h2 := (HO2.out.seg.lt hq).1
        simp only [List.mem_cons, List.not_mem_nil, or_false]
        omega

end Go.Proofs.YtkmlholjglmfnaaGreat

namespace Go.Proofs.YtkmlholjglmfnaaGreat
open Go.RowKit Go.Sort
set_option linter.unusedVariables false
set_option maxRecDepth 100000

/-- A value that leads to a page. -/
def Pat (w : World) (v : Value) (g : Pp) : Prop := ∃ p c, v = pgv g.leaf g.lo g.hi g.r p g.l.length c ∧ Ens w p g.l

theorem OwnE.down {w : World} {base : Nat} {p : Option Addr} {len cap : Nat} {l : List En} (h : OwnE w base (.slice p len cap) l) : Ens w p l := by
  obtain ⟨q, c, hv, he, -⟩ := h.ens
  cases hv
  exact he

theorem PgAt.pat {w : World} {base : Nat} {v : Value} {g : Pp} (h : PgAt w base v g) : Pat w v g := by
  obtain ⟨p, c, hv, hs⟩ := h
  exact ⟨p, c, hv, hs.ens⟩
theorem Pat.below {w w' : World} {v : Value} {g : Pp} (h : Pat w v g) {B : Nat} (hb : Below B w w') (hB : w.heap.size ≤ B) : Pat w' v g := by
  obtain ⟨p, c, hv, hs⟩ := h
  exact ⟨p, c, hv, hs.below hb hB⟩
theorem Pat.pv {w : World} {v : Value} {g : Pp} (h : Pat w v g) : ∃ p c, v = pgv g.leaf g.lo g.hi g.r p g.l.length c ∧ Ens w p g.l := h

set_option maxHeartbeats 4000000 in
theorem rapply_0 (pf : Bool) (plo phi : ByteArray) (pr : Int) (pp : Option Addr) (pn pc : Nat) (dk : Int) (dek : ByteArray) (des deg dec : Int) (dkey : ByteArray) (dpg : Int) (dleaf : Bool) (dlo dhi : ByteArray) (dr : Int) (dp : Option Addr) (dn dc : Nat) (w : World) (hc : ∀ W, Below w.heap.size w W → Calls Tryz.prog 15 #[.agg #[.int .i64 dk, .string dek, .int .i64 des, .int .i64 deg, .int .i64 dec, .string dkey, .int .i64 dpg, .bool dleaf, .string dlo, .string dhi, .int .i64 dr, .slice dp dn dc]] W fun e w' => e = .returned (.int .i64 90) ∧ Below W.heap.size W w') :
    Calls Tryz.prog 10 #[.agg #[.bool pf, .string plo, .string phi, .int .i64 pr, .slice pp pn pc], .agg #[.int .i64 dk, .string dek, .int .i64 des, .int .i64 deg, .int .i64 dec, .string dkey, .int .i64 dpg, .bool dleaf, .string dlo, .string dhi, .int .i64 dr, .slice dp dn dc]] w fun e w' => ∃ v, e = .returned (.tuple #[v, .int .i64 90]) ∧ Pat w' v ⟨false, ⟨#[]⟩, ⟨#[]⟩, 0, []⟩ ∧ Below w.heap.size w w' := by
  have HC : Hid _ := hc
  clear hc
  obtain ⟨w0, hw0⟩ : ∃ w0, ((w.alloc (.cells #[.bool pf, .string plo, .string phi, .int .i64 pr, .slice pp pn pc] 24)).alloc (.cells #[.int .i64 dk, .string dek, .int .i64 des, .int .i64 deg, .int .i64 dec, .string dkey, .int .i64 dpg, .bool dleaf, .string dlo, .string dhi, .int .i64 dr, .slice dp dn dc] 30)).alloc (.cells #[.bool false, .string ⟨#[]⟩, .string ⟨#[]⟩, .int .i64 0, .slice none 0 0] 24) = w0 := ⟨_, rfl⟩
  have HB0 : Hid (Below w.heap.size w w0) := by rw [← hw0]; exact (((Below.refl _ _).alloc (Nat.le_refl _) _).alloc (by simp) _).alloc (by simp; omega) _
  have HK0 : Hid (Bk w0 w.heap.size 24 #[.bool pf, .string plo, .string phi, .int .i64 pr, .slice pp pn pc]) := by rw [← hw0]; exact ((Bk.new _ _ _).alloc _).alloc _
  have HY0 : Hid (Bk w0 (w.heap.size + 1) 30 #[.int .i64 dk, .string dek, .int .i64 des, .int .i64 deg, .int .i64 dec, .string dkey, .int .i64 dpg, .bool dleaf, .string dlo, .string dhi, .int .i64 dr, .slice dp dn dc]) := by rw [← hw0]; exact (Bk.new1 _ _ _ _).alloc _
  have HR0 : Hid (Bk w0 (w.heap.size + 1 + 1) 24 #[.bool false, .string ⟨#[]⟩, .string ⟨#[]⟩, .int .i64 0, .slice none 0 0]) := by rw [← hw0]; exact Bk.new2 _ _ _ _ _
  have y0 : w0.cell? ⟨w.heap.size + 1, 0, none⟩ = some (.int .i64 dk) := HY0.out.cell 0
  have y1 : w0.cell? ⟨w.heap.size + 1, 1, none⟩ = some (.string dek) := HY0.out.cell 1
  have y2 : w0.cell? ⟨w.heap.size + 1, 2, none⟩ = some (.int .i64 des) := HY0.out.cell 2
  have y3 : w0.cell? ⟨w.heap.size + 1, 3, none⟩ = some (.int .i64 deg) := HY0.out.cell 3
  have y4 : w0.cell? ⟨w.heap.size + 1, 4, none⟩ = some (.int .i64 dec) := HY0.out.cell 4
  have y5 : w0.cell? ⟨w.heap.size + 1, 5, none⟩ = some (.string dkey) := HY0.out.cell 5
  have y6 : w0.cell? ⟨w.heap.size + 1, 6, none⟩ = some (.int .i64 dpg) := HY0.out.cell 6
  have y7 : w0.cell? ⟨w.heap.size + 1, 7, none⟩ = some (.bool dleaf) := HY0.out.cell 7
  have y8 : w0.cell? ⟨w.heap.size + 1, 8, none⟩ = some (.string dlo) := HY0.out.cell 8
  have y9 : w0.cell? ⟨w.heap.size + 1, 9, none⟩ = some (.string dhi) := HY0.out.cell 9
  have y10 : w0.cell? ⟨w.heap.size + 1, 10, none⟩ = some (.int .i64 dr) := HY0.out.cell 10
  have y11 : w0.cell? ⟨w.heap.size + 1, 11, none⟩ = some (.slice dp dn dc) := HY0.out.cell 11
  go_enter Tryz.func10, Tryz.ntmps10
  go_wp2_with fail
  refine (HC.out _ HB0.out).mono ?_
  rintro e w1 ⟨rfl, hb⟩
  clear y0 y1 y2 y3 y4 y5 y6 y7 y8 y9 y10 y11
  clear hw0 HC
  have HB1 : Hid (Below w.heap.size w w1) := HB0.out.trans (hb.mono HB0.out.size)
  have HK1 : Hid (Bk w1 w.heap.size 24 #[.bool pf, .string plo, .string phi, .int .i64 pr, .slice pp pn pc]) := HK0.out.below hb HK0.out.lt
  have HY1 : Hid (Bk w1 (w.heap.size + 1) 30 #[.int .i64 dk, .string dek, .int .i64 des, .int .i64 deg, .int .i64 dec, .string dkey, .int .i64 dpg, .bool dleaf, .string dlo, .string dhi, .int .i64 dr, .slice dp dn dc]) := HY0.out.below hb HY0.out.lt
  have HR1 : Hid (Bk w1 (w.heap.size + 1 + 1) 24 #[.bool false, .string ⟨#[]⟩, .string ⟨#[]⟩, .int .i64 0, .slice none 0 0]) := HR0.out.below hb HR0.out.lt
  clear hb HB0 HK0 HY0 HR0
  have a0 : w1.cell? ⟨w.heap.size, 0, none⟩ = some (.bool pf) := HK1.out.cell 0
  have a1 : w1.cell? ⟨w.heap.size, 1, none⟩ = some (.string plo) := HK1.out.cell 1
  have a2 : w1.cell? ⟨w.heap.size, 2, none⟩ = some (.string phi) := HK1.out.cell 2
  have a3 : w1.cell? ⟨w.heap.size, 3, none⟩ = some (.int .i64 pr) := HK1.out.cell 3
  have a4 : w1.cell? ⟨w.heap.size, 4, none⟩ = some (.slice pp pn pc) := HK1.out.cell 4
  have y0 : w1.cell? ⟨w.heap.size + 1, 0, none⟩ = some (.int .i64 dk) := HY1.out.cell 0
  have y1 : w1.cell? ⟨w.heap.size + 1, 1, none⟩ = some (.string dek) := HY1.out.cell 1
  have y2 : w1.cell? ⟨w.heap.size + 1, 2, none⟩ = some (.int .i64 des) := HY1.out.cell 2
  have y3 : w1.cell? ⟨w.heap.size + 1, 3, none⟩ = some (.int .i64 deg) := HY1.out.cell 3
  have y4 : w1.cell? ⟨w.heap.size + 1, 4, none⟩ = some (.int .i64 dec) := HY1.out.cell 4
  have y5 : w1.cell? ⟨w.heap.size + 1, 5, none⟩ = some (.string dkey) := HY1.out.cell 5
  have y6 : w1.cell? ⟨w.heap.size + 1, 6, none⟩ = some (.int .i64 dpg) := HY1.out.cell 6
  have y7 : w1.cell? ⟨w.heap.size + 1, 7, none⟩ = some (.bool dleaf) := HY1.out.cell 7
  have y8 : w1.cell? ⟨w.heap.size + 1, 8, none⟩ = some (.string dlo) := HY1.out.cell 8
  have y9 : w1.cell? ⟨w.heap.size + 1, 9, none⟩ = some (.string dhi) := HY1.out.cell 9
  have y10 : w1.cell? ⟨w.heap.size + 1, 10, none⟩ = some (.int .i64 dr) := HY1.out.cell 10
  have y11 : w1.cell? ⟨w.heap.size + 1, 11, none⟩ = some (.slice dp dn dc) := HY1.out.cell 11
  have b0 : w1.cell? ⟨w.heap.size + 1 + 1, 0, none⟩ = some (.bool false) := HR1.out.cell 0
  have bf0 : w1.frozen? ⟨w.heap.size + 1 + 1, 0, none⟩ = false := HR1.out.frozen 0
  have b1 : w1.cell? ⟨w.heap.size + 1 + 1, 1, none⟩ = some (.string ⟨#[]⟩) := HR1.out.cell 1
  have bf1 : w1.frozen? ⟨w.heap.size + 1 + 1, 1, none⟩ = false := HR1.out.frozen 1
  have b2 : w1.cell? ⟨w.heap.size + 1 + 1, 2, none⟩ = some (.string ⟨#[]⟩) := HR1.out.cell 2
  have bf2 : w1.frozen? ⟨w.heap.size + 1 + 1, 2, none⟩ = false := HR1.out.frozen 2
  have b3 : w1.cell? ⟨w.heap.size + 1 + 1, 3, none⟩ = some (.int .i64 0) := HR1.out.cell 3
  have bf3 : w1.frozen? ⟨w.heap.size + 1 + 1, 3, none⟩ = false := HR1.out.frozen 3
  have b4 : w1.cell? ⟨w.heap.size + 1 + 1, 4, none⟩ = some (.slice none 0 0) := HR1.out.cell 4
  have bf4 : w1.frozen? ⟨w.heap.size + 1 + 1, 4, none⟩ = false := HR1.out.frozen 4
  go_wp2
  clear a0 a1 a2 a3 a4
  clear y0 y1 y2 y3 y4 y5 y6 y7 y8 y9 y10 y11
  clear b0 bf0 b1 bf1 b2 bf2 b3 bf3 b4 bf4
  have k1 := HR1.out.five (.bool false) (.string ⟨#[]⟩) (.string ⟨#[]⟩) (.int .i64 0) (.slice none 0 0)
  have ht : Tn [w.heap.size + 1 + 1] w1 _ := (Tn.refl _ w1).five (R := w.heap.size + 1 + 1) (.inl (by simp)) (.bool false) (.string ⟨#[]⟩) (.string ⟨#[]⟩) (.int .i64 0) (.slice none 0 0)
  have hz := HB1.out.trans (ht.below HB1.out.size (by simp; omega))
  refine bodyPost_ret (results_two (T' := 24) (cs := [.bool false, .string ⟨#[]⟩, .string ⟨#[]⟩, .int .i64 0, .slice none 0 0]) rfl rfl pg_agg pg_size rfl k1) rfl ?_
  exact ⟨_, rfl, ⟨none, 0, rfl, Ens.nil _ _⟩, hz⟩

set_option maxHeartbeats 4000000 in
theorem rapply_1 (pf : Bool) (plo phi : ByteArray) (pr : Int) (pp : Option Addr) (pn pc : Nat) (dek : ByteArray) (des deg dec : Int) (dkey : ByteArray) (dpg : Int) (dleaf : Bool) (dlo dhi : ByteArray) (dr : Int) (dp : Option Addr) (dn dc : Nat) (w : World) (hc : ∀ W, Below w.heap.size w W → Calls Tryz.prog 15 #[.agg #[.int .i64 1, .string dek, .int .i64 des, .int .i64 deg, .int .i64 dec, .string dkey, .int .i64 dpg, .bool dleaf, .string dlo, .string dhi, .int .i64 dr, .slice dp dn dc]] W fun e w' => e = .returned (.int .i64 0) ∧ Below W.heap.size W w') (G : Pp) (kk : Int) (hq : ∀ W, Below w.heap.size w W → Calls Tryz.prog 30 #[.agg #[.bool pf, .string plo, .string phi, .int .i64 pr, .slice pp pn pc], .agg #[.string dek, .int .i64 des, .int .i64 deg, .int .i64 dec]] W fun e w' => ∃ v, e = .returned (.tuple #[v, .int .i64 kk]) ∧ PgAt w' W.heap.size v G ∧ Below W.heap.size W w') :
    Calls Tryz.prog 10 #[.agg #[.bool pf, .string plo, .string phi, .int .i64 pr, .slice pp pn pc], .agg #[.int .i64 1, .string dek, .int .i64 des, .int .i64 deg, .int .i64 dec, .string dkey, .int .i64 dpg, .bool dleaf, .string dlo, .string dhi, .int .i64 dr, .slice dp dn dc]] w fun e w' => ∃ v, e = .returned (.tuple #[v, .int .i64 kk]) ∧ Pat w' v G ∧ Below w.heap.size w w' := by
  have HQ : Hid _ := hq
  clear hq
  have HC : Hid _ := hc
  clear hc
  obtain ⟨w0, hw0⟩ : ∃ w0, ((w.alloc (.cells #[.bool pf, .string plo, .string phi, .int .i64 pr, .slice pp pn pc] 24)).alloc (.cells #[.int .i64 1, .string dek, .int .i64 des, .int .i64 deg, .int .i64 dec, .string dkey, .int .i64 dpg, .bool dleaf, .string dlo, .string dhi, .int .i64 dr, .slice dp dn dc] 30)).alloc (.cells #[.bool false, .string ⟨#[]⟩, .string ⟨#[]⟩, .int .i64 0, .slice none 0 0] 24) = w0 := ⟨_, rfl⟩
  have HB0 : Hid (Below w.heap.size w w0) := by rw [← hw0]; exact (((Below.refl _ _).alloc (Nat.le_refl _) _).alloc (by simp) _).alloc (by simp; omega) _
  have HK0 : Hid (Bk w0 w.heap.size 24 #[.bool pf, .string plo, .string phi, .int .i64 pr, .slice pp pn pc]) := by rw [← hw0]; exact ((Bk.new _ _ _).alloc _).alloc _
  have HY0 : Hid (Bk w0 (w.heap.size + 1) 30 #[.int .i64 1, .string dek, .int .i64 des, .int .i64 deg, .int .i64 dec, .string dkey, .int .i64 dpg, .bool dleaf, .string dlo, .string dhi, .int .i64 dr, .slice dp dn dc]) := by rw [← hw0]; exact (Bk.new1 _ _ _ _).alloc _
  have HR0 : Hid (Bk w0 (w.heap.size + 1 + 1) 24 #[.bool false, .string ⟨#[]⟩, .string ⟨#[]⟩, .int .i64 0, .slice none 0 0]) := by rw [← hw0]; exact Bk.new2 _ _ _ _ _
  have y0 : w0.cell? ⟨w.heap.size + 1, 0, none⟩ = some (.int .i64 1) := HY0.out.cell 0
  have y1 : w0.cell? ⟨w.heap.size + 1, 1, none⟩ = some (.string dek) := HY0.out.cell 1
  have y2 : w0.cell? ⟨w.heap.size + 1, 2, none⟩ = some (.int .i64 des) := HY0.out.cell 2
  have y3 : w0.cell? ⟨w.heap.size + 1, 3, none⟩ = some (.int .i64 deg) := HY0.out.cell 3
  have y4 : w0.cell? ⟨w.heap.size + 1, 4, none⟩ = some (.int .i64 dec) := HY0.out.cell 4
  have y5 : w0.cell? ⟨w.heap.size + 1, 5, none⟩ = some (.string dkey) := HY0.out.cell 5
  have y6 : w0.cell? ⟨w.heap.size + 1, 6, none⟩ = some (.int .i64 dpg) := HY0.out.cell 6
  have y7 : w0.cell? ⟨w.heap.size + 1, 7, none⟩ = some (.bool dleaf) := HY0.out.cell 7
  have y8 : w0.cell? ⟨w.heap.size + 1, 8, none⟩ = some (.string dlo) := HY0.out.cell 8
  have y9 : w0.cell? ⟨w.heap.size + 1, 9, none⟩ = some (.string dhi) := HY0.out.cell 9
  have y10 : w0.cell? ⟨w.heap.size + 1, 10, none⟩ = some (.int .i64 dr) := HY0.out.cell 10
  have y11 : w0.cell? ⟨w.heap.size + 1, 11, none⟩ = some (.slice dp dn dc) := HY0.out.cell 11
  go_enter Tryz.func10, Tryz.ntmps10
  go_wp2_with fail
  refine (HC.out _ HB0.out).mono ?_
  rintro e w1 ⟨rfl, hb⟩
  clear y0 y1 y2 y3 y4 y5 y6 y7 y8 y9 y10 y11
  clear hw0 HC
  have HB1 : Hid (Below w.heap.size w w1) := HB0.out.trans (hb.mono HB0.out.size)
  have HK1 : Hid (Bk w1 w.heap.size 24 #[.bool pf, .string plo, .string phi, .int .i64 pr, .slice pp pn pc]) := HK0.out.below hb HK0.out.lt
  have HY1 : Hid (Bk w1 (w.heap.size + 1) 30 #[.int .i64 1, .string dek, .int .i64 des, .int .i64 deg, .int .i64 dec, .string dkey, .int .i64 dpg, .bool dleaf, .string dlo, .string dhi, .int .i64 dr, .slice dp dn dc]) := HY0.out.below hb HY0.out.lt
  have HR1 : Hid (Bk w1 (w.heap.size + 1 + 1) 24 #[.bool false, .string ⟨#[]⟩, .string ⟨#[]⟩, .int .i64 0, .slice none 0 0]) := HR0.out.below hb HR0.out.lt
  clear hb HB0 HK0 HY0 HR0
  have a0 : w1.cell? ⟨w.heap.size, 0, none⟩ = some (.bool pf) := HK1.out.cell 0
  have a1 : w1.cell? ⟨w.heap.size, 1, none⟩ = some (.string plo) := HK1.out.cell 1
  have a2 : w1.cell? ⟨w.heap.size, 2, none⟩ = some (.string phi) := HK1.out.cell 2
  have a3 : w1.cell? ⟨w.heap.size, 3, none⟩ = some (.int .i64 pr) := HK1.out.cell 3
  have a4 : w1.cell? ⟨w.heap.size, 4, none⟩ = some (.slice pp pn pc) := HK1.out.cell 4
  have y0 : w1.cell? ⟨w.heap.size + 1, 0, none⟩ = some (.int .i64 1) := HY1.out.cell 0
  have y1 : w1.cell? ⟨w.heap.size + 1, 1, none⟩ = some (.string dek) := HY1.out.cell 1
  have y2 : w1.cell? ⟨w.heap.size + 1, 2, none⟩ = some (.int .i64 des) := HY1.out.cell 2
  have y3 : w1.cell? ⟨w.heap.size + 1, 3, none⟩ = some (.int .i64 deg) := HY1.out.cell 3
  have y4 : w1.cell? ⟨w.heap.size + 1, 4, none⟩ = some (.int .i64 dec) := HY1.out.cell 4
  have y5 : w1.cell? ⟨w.heap.size + 1, 5, none⟩ = some (.string dkey) := HY1.out.cell 5
  have y6 : w1.cell? ⟨w.heap.size + 1, 6, none⟩ = some (.int .i64 dpg) := HY1.out.cell 6
  have y7 : w1.cell? ⟨w.heap.size + 1, 7, none⟩ = some (.bool dleaf) := HY1.out.cell 7
  have y8 : w1.cell? ⟨w.heap.size + 1, 8, none⟩ = some (.string dlo) := HY1.out.cell 8
  have y9 : w1.cell? ⟨w.heap.size + 1, 9, none⟩ = some (.string dhi) := HY1.out.cell 9
  have y10 : w1.cell? ⟨w.heap.size + 1, 10, none⟩ = some (.int .i64 dr) := HY1.out.cell 10
  have y11 : w1.cell? ⟨w.heap.size + 1, 11, none⟩ = some (.slice dp dn dc) := HY1.out.cell 11
  have b0 : w1.cell? ⟨w.heap.size + 1 + 1, 0, none⟩ = some (.bool false) := HR1.out.cell 0
  have bf0 : w1.frozen? ⟨w.heap.size + 1 + 1, 0, none⟩ = false := HR1.out.frozen 0
  have b1 : w1.cell? ⟨w.heap.size + 1 + 1, 1, none⟩ = some (.string ⟨#[]⟩) := HR1.out.cell 1
  have bf1 : w1.frozen? ⟨w.heap.size + 1 + 1, 1, none⟩ = false := HR1.out.frozen 1
  have b2 : w1.cell? ⟨w.heap.size + 1 + 1, 2, none⟩ = some (.string ⟨#[]⟩) := HR1.out.cell 2
  have bf2 : w1.frozen? ⟨w.heap.size + 1 + 1, 2, none⟩ = false := HR1.out.frozen 2
  have b3 : w1.cell? ⟨w.heap.size + 1 + 1, 3, none⟩ = some (.int .i64 0) := HR1.out.cell 3
  have bf3 : w1.frozen? ⟨w.heap.size + 1 + 1, 3, none⟩ = false := HR1.out.frozen 3
  have b4 : w1.cell? ⟨w.heap.size + 1 + 1, 4, none⟩ = some (.slice none 0 0) := HR1.out.cell 4
  have bf4 : w1.frozen? ⟨w.heap.size + 1 + 1, 4, none⟩ = false := HR1.out.frozen 4
  go_wp2_with fail
  refine (HQ.out _ HB1.out).mono ?_
  rintro e w2 ⟨v, rfl, hg, hb⟩
  obtain ⟨Gp, Gc, rfl, hg4⟩ := hg.pv
  obtain ⟨Gf, Glo, Ghi, Gr, Gl⟩ := G
  simp only at hg4 ⊢
  obtain ⟨Gn, hGn⟩ : ∃ Gn, Gl.length = Gn := ⟨_, rfl⟩
  rw [hGn] at hg4 ⊢
  have HG : Hid (PgAt w2 w1.heap.size (pgv Gf Glo Ghi Gr Gp Gn Gc) ⟨Gf, Glo, Ghi, Gr, Gl⟩) := hg4
  have HS : Hid (w.heap.size + 1 + 1 < w1.heap.size) := HR1.out.lt
  clear hg hg4 hGn HQ
  clear a0 a1 a2 a3 a4
  clear y0 y1 y2 y3 y4 y5 y6 y7 y8 y9 y10 y11
  clear b0 bf0 b1 bf1 b2 bf2 b3 bf3 b4 bf4
  have HB2 : Hid (Below w.heap.size w w2) := HB1.out.trans (hb.mono HB1.out.size)
  have HK2 : Hid (Bk w2 w.heap.size 24 #[.bool pf, .string plo, .string phi, .int .i64 pr, .slice pp pn pc]) := HK1.out.below hb HK1.out.lt
  have HY2 : Hid (Bk w2 (w.heap.size + 1) 30 #[.int .i64 1, .string dek, .int .i64 des, .int .i64 deg, .int .i64 dec, .string dkey, .int .i64 dpg, .bool dleaf, .string dlo, .string dhi, .int .i64 dr, .slice dp dn dc]) := HY1.out.below hb HY1.out.lt
  have HR2 : Hid (Bk w2 (w.heap.size + 1 + 1) 24 #[.bool false, .string ⟨#[]⟩, .string ⟨#[]⟩, .int .i64 0, .slice none 0 0]) := HR1.out.below hb HR1.out.lt
  clear hb HB1 HK1 HY1 HR1
  have b0 : w2.cell? ⟨w.heap.size + 1 + 1, 0, none⟩ = some (.bool false) := HR2.out.cell 0
  have bf0 : w2.frozen? ⟨w.heap.size + 1 + 1, 0, none⟩ = false := HR2.out.frozen 0
  have b1 : w2.cell? ⟨w.heap.size + 1 + 1, 1, none⟩ = some (.string ⟨#[]⟩) := HR2.out.cell 1
  have bf1 : w2.frozen? ⟨w.heap.size + 1 + 1, 1, none⟩ = false := HR2.out.frozen 1
  have b2 : w2.cell? ⟨w.heap.size + 1 + 1, 2, none⟩ = some (.string ⟨#[]⟩) := HR2.out.cell 2
  have bf2 : w2.frozen? ⟨w.heap.size + 1 + 1, 2, none⟩ = false := HR2.out.frozen 2
  have b3 : w2.cell? ⟨w.heap.size + 1 + 1, 3, none⟩ = some (.int .i64 0) := HR2.out.cell 3
  have bf3 : w2.frozen? ⟨w.heap.size + 1 + 1, 3, none⟩ = false := HR2.out.frozen 3
  have b4 : w2.cell? ⟨w.heap.size + 1 + 1, 4, none⟩ = some (.slice none 0 0) := HR2.out.cell 4
  have bf4 : w2.frozen? ⟨w.heap.size + 1 + 1, 4, none⟩ = false := HR2.out.frozen 4
  go_wp2
  clear b0 bf0 b1 bf1 b2 bf2 b3 bf3 b4 bf4
  have k1 := HR2.out.five (.bool Gf) (.string Glo) (.string Ghi) (.int .i64 Gr) (.slice Gp Gn Gc)
  have ht : Tn [w.heap.size + 1 + 1] w2 _ := (Tn.refl _ w2).five (R := w.heap.size + 1 + 1) (.inl (by simp)) (.bool Gf) (.string Glo) (.string Ghi) (.int .i64 Gr) (.slice Gp Gn Gc)
  have hz := HB2.out.trans (ht.below HB2.out.size (by simp; omega))
  refine bodyPost_ret (results_two (T' := 24) (cs := [.bool Gf, .string Glo, .string Ghi, .int .i64 Gr, .slice Gp Gn Gc]) rfl rfl pg_agg pg_size rfl k1) rfl ?_
  exact ⟨_, rfl, (HG.out.tn ht (by have := HS.out; simp; omega)).pat, hz⟩

set_option maxHeartbeats 4000000 in
theorem rapply_2o (pf : Bool) (plo phi : ByteArray) (pr : Int) (pp : Option Addr) (pn pc : Nat) (dek : ByteArray) (des deg dec : Int) (dkey : ByteArray) (dpg : Int) (dleaf : Bool) (dlo dhi : ByteArray) (dr : Int) (dp : Option Addr) (dn dc : Nat) (w : World) (hc : ∀ W, Below w.heap.size w W → Calls Tryz.prog 15 #[.agg #[.int .i64 2, .string dek, .int .i64 des, .int .i64 deg, .int .i64 dec, .string dkey, .int .i64 dpg, .bool dleaf, .string dlo, .string dhi, .int .i64 dr, .slice dp dn dc]] W fun e w' => e = .returned (.int .i64 0) ∧ Below W.heap.size W w') (hh : ∀ W, Below w.heap.size w W → Calls Tryz.prog 26 #[.agg #[.bool pf, .string plo, .string phi, .int .i64 pr, .slice pp pn pc], .string dkey] W fun e w' => e = .returned (.bool false) ∧ Below W.heap.size W w') :
    Calls Tryz.prog 10 #[.agg #[.bool pf, .string plo, .string phi, .int .i64 pr, .slice pp pn pc], .agg #[.int .i64 2, .string dek, .int .i64 des, .int .i64 deg, .int .i64 dec, .string dkey, .int .i64 dpg, .bool dleaf, .string dlo, .string dhi, .int .i64 dr, .slice dp dn dc]] w fun e w' => ∃ v, e = .returned (.tuple #[v, .int .i64 73]) ∧ Pat w' v ⟨false, ⟨#[]⟩, ⟨#[]⟩, 0, []⟩ ∧ Below w.heap.size w w' := by
  have HH : Hid _ := hh
  clear hh
  have HC : Hid _ := hc
  clear hc
  obtain ⟨w0, hw0⟩ : ∃ w0, ((w.alloc (.cells #[.bool pf, .string plo, .string phi, .int .i64 pr, .slice pp pn pc] 24)).alloc (.cells #[.int .i64 2, .string dek, .int .i64 des, .int .i64 deg, .int .i64 dec, .string dkey, .int .i64 dpg, .bool dleaf, .string dlo, .string dhi, .int .i64 dr, .slice dp dn dc] 30)).alloc (.cells #[.bool false, .string ⟨#[]⟩, .string ⟨#[]⟩, .int .i64 0, .slice none 0 0] 24) = w0 := ⟨_, rfl⟩
  have HB0 : Hid (Below w.heap.size w w0) := by rw [← hw0]; exact (((Below.refl _ _).alloc (Nat.le_refl _) _).alloc (by simp) _).alloc (by simp; omega) _
  have HK0 : Hid (Bk w0 w.heap.size 24 #[.bool pf, .string plo, .string phi, .int .i64 pr, .slice pp pn pc]) := by rw [← hw0]; exact ((Bk.new _ _ _).alloc _).alloc _
  have HY0 : Hid (Bk w0 (w.heap.size + 1) 30 #[.int .i64 2, .string dek, .int .i64 des, .int .i64 deg, .int .i64 dec, .string dkey, .int .i64 dpg, .bool dleaf, .string dlo, .string dhi, .int .i64 dr, .slice dp dn dc]) := by rw [← hw0]; exact (Bk.new1 _ _ _ _).alloc _
  have HR0 : Hid (Bk w0 (w.heap.size + 1 + 1) 24 #[.bool false, .string ⟨#[]⟩, .string ⟨#[]⟩, .int .i64 0, .slice none 0 0]) := by rw [← hw0]; exact Bk.new2 _ _ _ _ _
  have y0 : w0.cell? ⟨w.heap.size + 1, 0, none⟩ = some (.int .i64 2) := HY0.out.cell 0
  have y1 : w0.cell? ⟨w.heap.size + 1, 1, none⟩ = some (.string dek) := HY0.out.cell 1
  have y2 : w0.cell? ⟨w.heap.size + 1, 2, none⟩ = some (.int .i64 des) := HY0.out.cell 2
  have y3 : w0.cell? ⟨w.heap.size + 1, 3, none⟩ = some (.int .i64 deg) := HY0.out.cell 3
  have y4 : w0.cell? ⟨w.heap.size + 1, 4, none⟩ = some (.int .i64 dec) := HY0.out.cell 4
  have y5 : w0.cell? ⟨w.heap.size + 1, 5, none⟩ = some (.string dkey) := HY0.out.cell 5
  have y6 : w0.cell? ⟨w.heap.size + 1, 6, none⟩ = some (.int .i64 dpg) := HY0.out.cell 6
  have y7 : w0.cell? ⟨w.heap.size + 1, 7, none⟩ = some (.bool dleaf) := HY0.out.cell 7
  have y8 : w0.cell? ⟨w.heap.size + 1, 8, none⟩ = some (.string dlo) := HY0.out.cell 8
  have y9 : w0.cell? ⟨w.heap.size + 1, 9, none⟩ = some (.string dhi) := HY0.out.cell 9
  have y10 : w0.cell? ⟨w.heap.size + 1, 10, none⟩ = some (.int .i64 dr) := HY0.out.cell 10
  have y11 : w0.cell? ⟨w.heap.size + 1, 11, none⟩ = some (.slice dp dn dc) := HY0.out.cell 11
  go_enter Tryz.func10, Tryz.ntmps10
  go_wp2_with fail
  refine (HC.out _ HB0.out).mono ?_
  rintro e w1 ⟨rfl, hb⟩
  clear y0 y1 y2 y3 y4 y5 y6 y7 y8 y9 y10 y11
  clear hw0 HC
  have HB1 : Hid (Below w.heap.size w w1) := HB0.out.trans (hb.mono HB0.out.size)
  have HK1 : Hid (Bk w1 w.heap.size 24 #[.bool pf, .string plo, .string phi, .int .i64 pr, .slice pp pn pc]) := HK0.out.below hb HK0.out.lt
  have HY1 : Hid (Bk w1 (w.heap.size + 1) 30 #[.int .i64 2, .string dek, .int .i64 des, .int .i64 deg, .int .i64 dec, .string dkey, .int .i64 dpg, .bool dleaf, .string dlo, .string dhi, .int .i64 dr, .slice dp dn dc]) := HY0.out.below hb HY0.out.lt
  have HR1 : Hid (Bk w1 (w.heap.size + 1 + 1) 24 #[.bool false, .string ⟨#[]⟩, .string ⟨#[]⟩, .int .i64 0, .slice none 0 0]) := HR0.out.below hb HR0.out.lt
  clear hb HB0 HK0 HY0 HR0
  have a0 : w1.cell? ⟨w.heap.size, 0, none⟩ = some (.bool pf) := HK1.out.cell 0
  have a1 : w1.cell? ⟨w.heap.size, 1, none⟩ = some (.string plo) := HK1.out.cell 1
  have a2 : w1.cell? ⟨w.heap.size, 2, none⟩ = some (.string phi) := HK1.out.cell 2
  have a3 : w1.cell? ⟨w.heap.size, 3, none⟩ = some (.int .i64 pr) := HK1.out.cell 3
  have a4 : w1.cell? ⟨w.heap.size, 4, none⟩ = some (.slice pp pn pc) := HK1.out.cell 4
  have y0 : w1.cell? ⟨w.heap.size + 1, 0, none⟩ = some (.int .i64 2) := HY1.out.cell 0
  have y1 : w1.cell? ⟨w.heap.size + 1, 1, none⟩ = some (.string dek) := HY1.out.cell 1
  have y2 : w1.cell? ⟨w.heap.size + 1, 2, none⟩ = some (.int .i64 des) := HY1.out.cell 2
  have y3 : w1.cell? ⟨w.heap.size + 1, 3, none⟩ = some (.int .i64 deg) := HY1.out.cell 3
  have y4 : w1.cell? ⟨w.heap.size + 1, 4, none⟩ = some (.int .i64 dec) := HY1.out.cell 4
  have y5 : w1.cell? ⟨w.heap.size + 1, 5, none⟩ = some (.string dkey) := HY1.out.cell 5
  have y6 : w1.cell? ⟨w.heap.size + 1, 6, none⟩ = some (.int .i64 dpg) := HY1.out.cell 6
  have y7 : w1.cell? ⟨w.heap.size + 1, 7, none⟩ = some (.bool dleaf) := HY1.out.cell 7
  have y8 : w1.cell? ⟨w.heap.size + 1, 8, none⟩ = some (.string dlo) := HY1.out.cell 8
  have y9 : w1.cell? ⟨w.heap.size + 1, 9, none⟩ = some (.string dhi) := HY1.out.cell 9
  have y10 : w1.cell? ⟨w.heap.size + 1, 10, none⟩ = some (.int .i64 dr) := HY1.out.cell 10
  have y11 : w1.cell? ⟨w.heap.size + 1, 11, none⟩ = some (.slice dp dn dc) := HY1.out.cell 11
  have b0 : w1.cell? ⟨w.heap.size + 1 + 1, 0, none⟩ = some (.bool false) := HR1.out.cell 0
  have bf0 : w1.frozen? ⟨w.heap.size + 1 + 1, 0, none⟩ = false := HR1.out.frozen 0
  have b1 : w1.cell? ⟨w.heap.size + 1 + 1, 1, none⟩ = some (.string ⟨#[]⟩) := HR1.out.cell 1
  have bf1 : w1.frozen? ⟨w.heap.size + 1 + 1, 1, none⟩ = false := HR1.out.frozen 1
  have b2 : w1.cell? ⟨w.heap.size + 1 + 1, 2, none⟩ = some (.string ⟨#[]⟩) := HR1.out.cell 2
  have bf2 : w1.frozen? ⟨w.heap.size + 1 + 1, 2, none⟩ = false := HR1.out.frozen 2
  have b3 : w1.cell? ⟨w.heap.size + 1 + 1, 3, none⟩ = some (.int .i64 0) := HR1.out.cell 3
  have bf3 : w1.frozen? ⟨w.heap.size + 1 + 1, 3, none⟩ = false := HR1.out.frozen 3
  have b4 : w1.cell? ⟨w.heap.size + 1 + 1, 4, none⟩ = some (.slice none 0 0) := HR1.out.cell 4
  have bf4 : w1.frozen? ⟨w.heap.size + 1 + 1, 4, none⟩ = false := HR1.out.frozen 4
  go_wp2_with fail
  refine (HH.out _ HB1.out).mono ?_
  rintro e w2 ⟨rfl, hb⟩
  clear a0 a1 a2 a3 a4
  clear y0 y1 y2 y3 y4 y5 y6 y7 y8 y9 y10 y11
  clear b0 bf0 b1 bf1 b2 bf2 b3 bf3 b4 bf4
  have HB2 : Hid (Below w.heap.size w w2) := HB1.out.trans (hb.mono HB1.out.size)
  have HK2 : Hid (Bk w2 w.heap.size 24 #[.bool pf, .string plo, .string phi, .int .i64 pr, .slice pp pn pc]) := HK1.out.below hb HK1.out.lt
  have HY2 : Hid (Bk w2 (w.heap.size + 1) 30 #[.int .i64 2, .string dek, .int .i64 des, .int .i64 deg, .int .i64 dec, .string dkey, .int .i64 dpg, .bool dleaf, .string dlo, .string dhi, .int .i64 dr, .slice dp dn dc]) := HY1.out.below hb HY1.out.lt
  have HR2 : Hid (Bk w2 (w.heap.size + 1 + 1) 24 #[.bool false, .string ⟨#[]⟩, .string ⟨#[]⟩, .int .i64 0, .slice none 0 0]) := HR1.out.below hb HR1.out.lt
  clear hb HB1 HK1 HY1 HR1
  clear HH
  have a0 : w2.cell? ⟨w.heap.size, 0, none⟩ = some (.bool pf) := HK2.out.cell 0
  have a1 : w2.cell? ⟨w.heap.size, 1, none⟩ = some (.string plo) := HK2.out.cell 1
  have a2 : w2.cell? ⟨w.heap.size, 2, none⟩ = some (.string phi) := HK2.out.cell 2
  have a3 : w2.cell? ⟨w.heap.size, 3, none⟩ = some (.int .i64 pr) := HK2.out.cell 3
  have a4 : w2.cell? ⟨w.heap.size, 4, none⟩ = some (.slice pp pn pc) := HK2.out.cell 4
  have y0 : w2.cell? ⟨w.heap.size + 1, 0, none⟩ = some (.int .i64 2) := HY2.out.cell 0
  have y1 : w2.cell? ⟨w.heap.size + 1, 1, none⟩ = some (.string dek) := HY2.out.cell 1
  have y2 : w2.cell? ⟨w.heap.size + 1, 2, none⟩ = some (.int .i64 des) := HY2.out.cell 2
  have y3 : w2.cell? ⟨w.heap.size + 1, 3, none⟩ = some (.int .i64 deg) := HY2.out.cell 3
  have y4 : w2.cell? ⟨w.heap.size + 1, 4, none⟩ = some (.int .i64 dec) := HY2.out.cell 4
  have y5 : w2.cell? ⟨w.heap.size + 1, 5, none⟩ = some (.string dkey) := HY2.out.cell 5
  have y6 : w2.cell? ⟨w.heap.size + 1, 6, none⟩ = some (.int .i64 dpg) := HY2.out.cell 6
  have y7 : w2.cell? ⟨w.heap.size + 1, 7, none⟩ = some (.bool dleaf) := HY2.out.cell 7
  have y8 : w2.cell? ⟨w.heap.size + 1, 8, none⟩ = some (.string dlo) := HY2.out.cell 8
  have y9 : w2.cell? ⟨w.heap.size + 1, 9, none⟩ = some (.string dhi) := HY2.out.cell 9
  have y10 : w2.cell? ⟨w.heap.size + 1, 10, none⟩ = some (.int .i64 dr) := HY2.out.cell 10
  have y11 : w2.cell? ⟨w.heap.size + 1, 11, none⟩ = some (.slice dp dn dc) := HY2.out.cell 11
  have b0 : w2.cell? ⟨w.heap.size + 1 + 1, 0, none⟩ = some (.bool false) := HR2.out.cell 0
  have bf0 : w2.frozen? ⟨w.heap.size + 1 + 1, 0, none⟩ = false := HR2.out.frozen 0
  have b1 : w2.cell? ⟨w.heap.size + 1 + 1, 1, none⟩ = some (.string ⟨#[]⟩) := HR2.out.cell 1
  have bf1 : w2.frozen? ⟨w.heap.size + 1 + 1, 1, none⟩ = false := HR2.out.frozen 1
  have b2 : w2.cell? ⟨w.heap.size + 1 + 1, 2, none⟩ = some (.string ⟨#[]⟩) := HR2.out.cell 2
  have bf2 : w2.frozen? ⟨w.heap.size + 1 + 1, 2, none⟩ = false := HR2.out.frozen 2
  have b3 : w2.cell? ⟨w.heap.size + 1 + 1, 3, none⟩ = some (.int .i64 0) := HR2.out.cell 3
  have bf3 : w2.frozen? ⟨w.heap.size + 1 + 1, 3, none⟩ = false := HR2.out.frozen 3
  have b4 : w2.cell? ⟨w.heap.size + 1 + 1, 4, none⟩ = some (.slice none 0 0) := HR2.out.cell 4
  have bf4 : w2.frozen? ⟨w.heap.size + 1 + 1, 4, none⟩ = false := HR2.out.frozen 4
  go_wp2
  clear a0 a1 a2 a3 a4
  clear y0 y1 y2 y3 y4 y5 y6 y7 y8 y9 y10 y11
  clear b0 bf0 b1 bf1 b2 bf2 b3 bf3 b4 bf4
  have k1 := HR2.out.five (.bool false) (.string ⟨#[]⟩) (.string ⟨#[]⟩) (.int .i64 0) (.slice none 0 0)
  have ht : Tn [w.heap.size + 1 + 1] w2 _ := (Tn.refl _ w2).five (R := w.heap.size + 1 + 1) (.inl (by simp)) (.bool false) (.string ⟨#[]⟩) (.string ⟨#[]⟩) (.int .i64 0) (.slice none 0 0)
  have hz := HB2.out.trans (ht.below HB2.out.size (by simp; omega))
  refine bodyPost_ret (results_two (T' := 24) (cs := [.bool false, .string ⟨#[]⟩, .string ⟨#[]⟩, .int .i64 0, .slice none 0 0]) rfl rfl pg_agg pg_size rfl k1) rfl ?_
  exact ⟨_, rfl, ⟨none, 0, rfl, Ens.nil _ _⟩, hz⟩

set_option maxHeartbeats 4000000 in
theorem rapply_2 (pf : Bool) (plo phi : ByteArray) (pr : Int) (pp : Option Addr) (pn pc : Nat) (dek : ByteArray) (des deg dec : Int) (dkey : ByteArray) (dpg : Int) (dleaf : Bool) (dlo dhi : ByteArray) (dr : Int) (dp : Option Addr) (dn dc : Nat) (w : World) (pl : List En) (hlen : pl.length = pn) (hx : Ens w pp pl) (hc : ∀ W, Below w.heap.size w W → Calls Tryz.prog 15 #[.agg #[.int .i64 2, .string dek, .int .i64 des, .int .i64 deg, .int .i64 dec, .string dkey, .int .i64 dpg, .bool dleaf, .string dlo, .string dhi, .int .i64 dr, .slice dp dn dc]] W fun e w' => e = .returned (.int .i64 0) ∧ Below W.heap.size W w') (hh : ∀ W, Below w.heap.size w W → Calls Tryz.prog 26 #[.agg #[.bool pf, .string plo, .string phi, .int .i64 pr, .slice pp pn pc], .string dkey] W fun e w' => e = .returned (.bool true) ∧ Below W.heap.size W w') (G : Pp) (kk : Int) (hq : ∀ W, Below w.heap.size w W → Calls Tryz.prog 31 #[.agg #[.bool pf, .string plo, .string phi, .int .i64 pr, .slice pp pn pc], .string dkey] W fun e w' => ∃ v, e = .returned (.tuple #[v, .int .i64 kk]) ∧ PgAt w' W.heap.size v G ∧ Below W.heap.size W w') :
    Calls Tryz.prog 10 #[.agg #[.bool pf, .string plo, .string phi, .int .i64 pr, .slice pp pn pc], .agg #[.int .i64 2, .string dek, .int .i64 des, .int .i64 deg, .int .i64 dec, .string dkey, .int .i64 dpg, .bool dleaf, .string dlo, .string dhi, .int .i64 dr, .slice dp dn dc]] w fun e w' => ∃ v, e = .returned (.tuple #[v, .int .i64 0]) ∧ Pat w' v (if kk = 0 then G else ⟨pf, plo, phi, pr, pl⟩) ∧ Below w.heap.size w w' := by
  have HH : Hid _ := hh
  have HQ : Hid _ := hq
  have HX : Hid (Ens w pp pl) := hx
  clear hh hq hx
  have HC : Hid _ := hc
  clear hc
  obtain ⟨w0, hw0⟩ : ∃ w0, ((w.alloc (.cells #[.bool pf, .string plo, .string phi, .int .i64 pr, .slice pp pn pc] 24)).alloc (.cells #[.int .i64 2, .string dek, .int .i64 des, .int .i64 deg, .int .i64 dec, .string dkey, .int .i64 dpg, .bool dleaf, .string dlo, .string dhi, .int .i64 dr, .slice dp dn dc] 30)).alloc (.cells #[.bool false, .string ⟨#[]⟩, .string ⟨#[]⟩, .int .i64 0, .slice none 0 0] 24) = w0 := ⟨_, rfl⟩
  have HB0 : Hid (Below w.heap.size w w0) := by rw [← hw0]; exact (((Below.refl _ _).alloc (Nat.le_refl _) _).alloc (by simp) _).alloc (by simp; omega) _
  have HK0 : Hid (Bk w0 w.heap.size 24 #[.bool pf, .string plo, .string phi, .int .i64 pr, .slice pp pn pc]) := by rw [← hw0]; exact ((Bk.new _ _ _).alloc _).alloc _
  have HY0 : Hid (Bk w0 (w.heap.size + 1) 30 #[.int .i64 2, .string dek, .int .i64 des, .int .i64 deg, .int .i64 dec, .string dkey, .int .i64 dpg, .bool dleaf, .string dlo, .string dhi, .int .i64 dr, .slice dp dn dc]) := by rw [← hw0]; exact (Bk.new1 _ _ _ _).alloc _
  have HR0 : Hid (Bk w0 (w.heap.size + 1 + 1) 24 #[.bool false, .string ⟨#[]⟩, .string ⟨#[]⟩, .int .i64 0, .slice none 0 0]) := by rw [← hw0]; exact Bk.new2 _ _ _ _ _
  have y0 : w0.cell? ⟨w.heap.size + 1, 0, none⟩ = some (.int .i64 2) := HY0.out.cell 0
  have y1 : w0.cell? ⟨w.heap.size + 1, 1, none⟩ = some (.string dek) := HY0.out.cell 1
  have y2 : w0.cell? ⟨w.heap.size + 1, 2, none⟩ = some (.int .i64 des) := HY0.out.cell 2
  have y3 : w0.cell? ⟨w.heap.size + 1, 3, none⟩ = some (.int .i64 deg) := HY0.out.cell 3
  have y4 : w0.cell? ⟨w.heap.size + 1, 4, none⟩ = some (.int .i64 dec) := HY0.out.cell 4
  have y5 : w0.cell? ⟨w.heap.size + 1, 5, none⟩ = some (.string dkey) := HY0.out.cell 5
  have y6 : w0.cell? ⟨w.heap.size + 1, 6, none⟩ = some (.int .i64 dpg) := HY0.out.cell 6
  have y7 : w0.cell? ⟨w.heap.size + 1, 7, none⟩ = some (.bool dleaf) := HY0.out.cell 7
  have y8 : w0.cell? ⟨w.heap.size + 1, 8, none⟩ = some (.string dlo) := HY0.out.cell 8
  have y9 : w0.cell? ⟨w.heap.size + 1, 9, none⟩ = some (.string dhi) := HY0.out.cell 9
  have y10 : w0.cell? ⟨w.heap.size + 1, 10, none⟩ = some (.int .i64 dr) := HY0.out.cell 10
  have y11 : w0.cell? ⟨w.heap.size + 1, 11, none⟩ = some (.slice dp dn dc) := HY0.out.cell 11
  go_enter Tryz.func10, Tryz.ntmps10
  go_wp2_with fail
  refine (HC.out _ HB0.out).mono ?_
  rintro e w1 ⟨rfl, hb⟩
  clear y0 y1 y2 y3 y4 y5 y6 y7 y8 y9 y10 y11
  clear hw0 HC
  have HB1 : Hid (Below w.heap.size w w1) := HB0.out.trans (hb.mono HB0.out.size)
  have HK1 : Hid (Bk w1 w.heap.size 24 #[.bool pf, .string plo, .string phi, .int .i64 pr, .slice pp pn pc]) := HK0.out.below hb HK0.out.lt
  have HY1 : Hid (Bk w1 (w.heap.size + 1) 30 #[.int .i64 2, .string dek, .int .i64 des, .int .i64 deg, .int .i64 dec, .string dkey, .int .i64 dpg, .bool dleaf, .string dlo, .string dhi, .int .i64 dr, .slice dp dn dc]) := HY0.out.below hb HY0.out.lt
  have HR1 : Hid (Bk w1 (w.heap.size + 1 + 1) 24 #[.bool false, .string ⟨#[]⟩, .string ⟨#[]⟩, .int .i64 0, .slice none 0 0]) := HR0.out.below hb HR0.out.lt
  clear hb HB0 HK0 HY0 HR0
  have a0 : w1.cell? ⟨w.heap.size, 0, none⟩ = some (.bool pf) := HK1.out.cell 0
  have a1 : w1.cell? ⟨w.heap.size, 1, none⟩ = some (.string plo) := HK1.out.cell 1
  have a2 : w1.cell? ⟨w.heap.size, 2, none⟩ = some (.string phi) := HK1.out.cell 2
  have a3 : w1.cell? ⟨w.heap.size, 3, none⟩ = some (.int .i64 pr) := HK1.out.cell 3
  have a4 : w1.cell? ⟨w.heap.size, 4, none⟩ = some (.slice pp pn pc) := HK1.out.cell 4
  have y0 : w1.cell? ⟨w.heap.size + 1, 0, none⟩ = some (.int .i64 2) := HY1.out.cell 0
  have y1 : w1.cell? ⟨w.heap.size + 1, 1, none⟩ = some (.string dek) := HY1.out.cell 1
  have y2 : w1.cell? ⟨w.heap.size + 1, 2, none⟩ = some (.int .i64 des) := HY1.out.cell 2
  have y3 : w1.cell? ⟨w.heap.size + 1, 3, none⟩ = some (.int .i64 deg) := HY1.out.cell 3
  have y4 : w1.cell? ⟨w.heap.size + 1, 4, none⟩ = some (.int .i64 dec) := HY1.out.cell 4
  have y5 : w1.cell? ⟨w.heap.size + 1, 5, none⟩ = some (.string dkey) := HY1.out.cell 5
  have y6 : w1.cell? ⟨w.heap.size + 1, 6, none⟩ = some (.int .i64 dpg) := HY1.out.cell 6
  have y7 : w1.cell? ⟨w.heap.size + 1, 7, none⟩ = some (.bool dleaf) := HY1.out.cell 7
  have y8 : w1.cell? ⟨w.heap.size + 1, 8, none⟩ = some (.string dlo) := HY1.out.cell 8
  have y9 : w1.cell? ⟨w.heap.size + 1, 9, none⟩ = some (.string dhi) := HY1.out.cell 9
  have y10 : w1.cell? ⟨w.heap.size + 1, 10, none⟩ = some (.int .i64 dr) := HY1.out.cell 10
  have y11 : w1.cell? ⟨w.heap.size + 1, 11, none⟩ = some (.slice dp dn dc) := HY1.out.cell 11
  have b0 : w1.cell? ⟨w.heap.size + 1 + 1, 0, none⟩ = some (.bool false) := HR1.out.cell 0
  have bf0 : w1.frozen? ⟨w.heap.size + 1 + 1, 0, none⟩ = false := HR1.out.frozen 0
  have b1 : w1.cell? ⟨w.heap.size + 1 + 1, 1, none⟩ = some (.string ⟨#[]⟩) := HR1.out.cell 1
  have bf1 : w1.frozen? ⟨w.heap.size + 1 + 1, 1, none⟩ = false := HR1.out.frozen 1
  have b2 : w1.cell? ⟨w.heap.size + 1 + 1, 2, none⟩ = some (.string ⟨#[]⟩) := HR1.out.cell 2
  have bf2 : w1.frozen? ⟨w.heap.size + 1 + 1, 2, none⟩ = false := HR1.out.frozen 2
  have b3 : w1.cell? ⟨w.heap.size + 1 + 1, 3, none⟩ = some (.int .i64 0) := HR1.out.cell 3
  have bf3 : w1.frozen? ⟨w.heap.size + 1 + 1, 3, none⟩ = false := HR1.out.frozen 3
  have b4 : w1.cell? ⟨w.heap.size + 1 + 1, 4, none⟩ = some (.slice none 0 0) := HR1.out.cell 4
  have bf4 : w1.frozen? ⟨w.heap.size + 1 + 1, 4, none⟩ = false := HR1.out.frozen 4
  go_wp2_with fail
  refine (HH.out _ HB1.out).mono ?_
  rintro e w2 ⟨rfl, hb⟩
  clear a0 a1 a2 a3 a4
  clear y0 y1 y2 y3 y4 y5 y6 y7 y8 y9 y10 y11
  clear b0 bf0 b1 bf1 b2 bf2 b3 bf3 b4 bf4
  have HB2 : Hid (Below w.heap.size w w2) := HB1.out.trans (hb.mono HB1.out.size)
  have HK2 : Hid (Bk w2 w.heap.size 24 #[.bool pf, .string plo, .string phi, .int .i64 pr, .slice pp pn pc]) := HK1.out.below hb HK1.out.lt
  have HY2 : Hid (Bk w2 (w.heap.size + 1) 30 #[.int .i64 2, .string dek, .int .i64 des, .int .i64 deg, .int .i64 dec, .string dkey, .int .i64 dpg, .bool dleaf, .string dlo, .string dhi, .int .i64 dr, .slice dp dn dc]) := HY1.out.below hb HY1.out.lt
  have HR2 : Hid (Bk w2 (w.heap.size + 1 + 1) 24 #[.bool false, .string ⟨#[]⟩, .string ⟨#[]⟩, .int .i64 0, .slice none 0 0]) := HR1.out.below hb HR1.out.lt
  clear hb HB1 HK1 HY1 HR1
  clear HH
  have a0 : w2.cell? ⟨w.heap.size, 0, none⟩ = some (.bool pf) := HK2.out.cell 0
  have a1 : w2.cell? ⟨w.heap.size, 1, none⟩ = some (.string plo) := HK2.out.cell 1
  have a2 : w2.cell? ⟨w.heap.size, 2, none⟩ = some (.string phi) := HK2.out.cell 2
  have a3 : w2.cell? ⟨w.heap.size, 3, none⟩ = some (.int .i64 pr) := HK2.out.cell 3
  have a4 : w2.cell? ⟨w.heap.size, 4, none⟩ = some (.slice pp pn pc) := HK2.out.cell 4
  have y0 : w2.cell? ⟨w.heap.size + 1, 0, none⟩ = some (.int .i64 2) := HY2.out.cell 0
  have y1 : w2.cell? ⟨w.heap.size + 1, 1, none⟩ = some (.string dek) := HY2.out.cell 1
  have y2 : w2.cell? ⟨w.heap.size + 1, 2, none⟩ = some (.int .i64 des) := HY2.out.cell 2
  have y3 : w2.cell? ⟨w.heap.size + 1, 3, none⟩ = some (.int .i64 deg) := HY2.out.cell 3
  have y4 : w2.cell? ⟨w.heap.size + 1, 4, none⟩ = some (.int .i64 dec) := HY2.out.cell 4
  have y5 : w2.cell? ⟨w.heap.size + 1, 5, none⟩ = some (.string dkey) := HY2.out.cell 5
  have y6 : w2.cell? ⟨w.heap.size + 1, 6, none⟩ = some (.int .i64 dpg) := HY2.out.cell 6
  have y7 : w2.cell? ⟨w.heap.size + 1, 7, none⟩ = some (.bool dleaf) := HY2.out.cell 7
  have y8 : w2.cell? ⟨w.heap.size + 1, 8, none⟩ = some (.string dlo) := HY2.out.cell 8
  have y9 : w2.cell? ⟨w.heap.size + 1, 9, none⟩ = some (.string dhi) := HY2.out.cell 9
  have y10 : w2.cell? ⟨w.heap.size + 1, 10, none⟩ = some (.int .i64 dr) := HY2.out.cell 10
  have y11 : w2.cell? ⟨w.heap.size + 1, 11, none⟩ = some (.slice dp dn dc) := HY2.out.cell 11
  have b0 : w2.cell? ⟨w.heap.size + 1 + 1, 0, none⟩ = some (.bool false) := HR2.out.cell 0
  have bf0 : w2.frozen? ⟨w.heap.size + 1 + 1, 0, none⟩ = false := HR2.out.frozen 0
  have b1 : w2.cell? ⟨w.heap.size + 1 + 1, 1, none⟩ = some (.string ⟨#[]⟩) := HR2.out.cell 1
  have bf1 : w2.frozen? ⟨w.heap.size + 1 + 1, 1, none⟩ = false := HR2.out.frozen 1
  have b2 : w2.cell? ⟨w.heap.size + 1 + 1, 2, none⟩ = some (.string ⟨#[]⟩) := HR2.out.cell 2
  have bf2 : w2.frozen? ⟨w.heap.size + 1 + 1, 2, none⟩ = false := HR2.out.frozen 2
  have b3 : w2.cell? ⟨w.heap.size + 1 + 1, 3, none⟩ = some (.int .i64 0) := HR2.out.cell 3
  have bf3 : w2.frozen? ⟨w.heap.size + 1 + 1, 3, none⟩ = false := HR2.out.frozen 3
  have b4 : w2.cell? ⟨w.heap.size + 1 + 1, 4, none⟩ = some (.slice none 0 0) := HR2.out.cell 4
  have bf4 : w2.frozen? ⟨w.heap.size + 1 + 1, 4, none⟩ = false := HR2.out.frozen 4
  go_wp2_with fail
  refine (HQ.out _ HB2.out).mono ?_
  rintro e w3 ⟨v, rfl, hg, hb⟩
  obtain ⟨Gp, Gc, rfl, hg4⟩ := hg.pv
  obtain ⟨Gf, Glo, Ghi, Gr, Gl⟩ := G
  simp only at hg4 ⊢
  obtain ⟨Gn, hGn⟩ : ∃ Gn, Gl.length = Gn := ⟨_, rfl⟩
  rw [hGn] at hg4 ⊢
  have HG : Hid (PgAt w3 w2.heap.size (pgv Gf Glo Ghi Gr Gp Gn Gc) ⟨Gf, Glo, Ghi, Gr, Gl⟩) := hg4
  have HS : Hid (w.heap.size + 1 + 1 < w2.heap.size) := HR2.out.lt
  clear hg hg4 hGn HQ
  clear a0 a1 a2 a3 a4
  clear y0 y1 y2 y3 y4 y5 y6 y7 y8 y9 y10 y11
  clear b0 bf0 b1 bf1 b2 bf2 b3 bf3 b4 bf4
  have HB3 : Hid (Below w.heap.size w w3) := HB2.out.trans (hb.mono HB2.out.size)
  have HK3 : Hid (Bk w3 w.heap.size 24 #[.bool pf, .string plo, .string phi, .int .i64 pr, .slice pp pn pc]) := HK2.out.below hb HK2.out.lt
  have HY3 : Hid (Bk w3 (w.heap.size + 1) 30 #[.int .i64 2, .string dek, .int .i64 des, .int .i64 deg, .int .i64 dec, .string dkey, .int .i64 dpg, .bool dleaf, .string dlo, .string dhi, .int .i64 dr, .slice dp dn dc]) := HY2.out.below hb HY2.out.lt
  have HR3 : Hid (Bk w3 (w.heap.size + 1 + 1) 24 #[.bool false, .string ⟨#[]⟩, .string ⟨#[]⟩, .int .i64 0, .slice none 0 0]) := HR2.out.below hb HR2.out.lt
  clear hb HB2 HK2 HY2 HR2
  obtain ⟨w4, hw4⟩ : ∃ w4, w3.alloc (.cells #[.bool Gf, .string Glo, .string Ghi, .int .i64 Gr, .slice Gp Gn Gc] 24) = w4 := ⟨_, rfl⟩
  have hb : Below w3.heap.size w3 w4 := by rw [← hw4]; exact (Below.refl _ _).alloc (Nat.le_refl _) _
  have HG4 : Hid (Bk w4 w3.heap.size 24 #[.bool Gf, .string Glo, .string Ghi, .int .i64 Gr, .slice Gp Gn Gc]) := by rw [← hw4]; exact Bk.new _ _ _
  have HGG : Hid (PgAt w4 w2.heap.size (pgv Gf Glo Ghi Gr Gp Gn Gc) ⟨Gf, Glo, Ghi, Gr, Gl⟩) := HG.out.below hb (Nat.le_refl _)
  clear HG
  have HB4 : Hid (Below w.heap.size w w4) := HB3.out.trans (hb.mono HB3.out.size)
  have HK4 : Hid (Bk w4 w.heap.size 24 #[.bool pf, .string plo, .string phi, .int .i64 pr, .slice pp pn pc]) := HK3.out.below hb HK3.out.lt
  have HY4 : Hid (Bk w4 (w.heap.size + 1) 30 #[.int .i64 2, .string dek, .int .i64 des, .int .i64 deg, .int .i64 dec, .string dkey, .int .i64 dpg, .bool dleaf, .string dlo, .string dhi, .int .i64 dr, .slice dp dn dc]) := HY3.out.below hb HY3.out.lt
  have HR4 : Hid (Bk w4 (w.heap.size + 1 + 1) 24 #[.bool false, .string ⟨#[]⟩, .string ⟨#[]⟩, .int .i64 0, .slice none 0 0]) := HR3.out.below hb HR3.out.lt
  clear hb HB3 HK3 HY3 HR3
  have a0 : w4.cell? ⟨w.heap.size, 0, none⟩ = some (.bool pf) := HK4.out.cell 0
  have a1 : w4.cell? ⟨w.heap.size, 1, none⟩ = some (.string plo) := HK4.out.cell 1
  have a2 : w4.cell? ⟨w.heap.size, 2, none⟩ = some (.string phi) := HK4.out.cell 2
  have a3 : w4.cell? ⟨w.heap.size, 3, none⟩ = some (.int .i64 pr) := HK4.out.cell 3
  have a4 : w4.cell? ⟨w.heap.size, 4, none⟩ = some (.slice pp pn pc) := HK4.out.cell 4
  have y0 : w4.cell? ⟨w.heap.size + 1, 0, none⟩ = some (.int .i64 2) := HY4.out.cell 0
  have y1 : w4.cell? ⟨w.heap.size + 1, 1, none⟩ = some (.string dek) := HY4.out.cell 1
  have y2 : w4.cell? ⟨w.heap.size + 1, 2, none⟩ = some (.int .i64 des) := HY4.out.cell 2
  have y3 : w4.cell? ⟨w.heap.size + 1, 3, none⟩ = some (.int .i64 deg) := HY4.out.cell 3
  have y4 : w4.cell? ⟨w.heap.size + 1, 4, none⟩ = some (.int .i64 dec) := HY4.out.cell 4
  have y5 : w4.cell? ⟨w.heap.size + 1, 5, none⟩ = some (.string dkey) := HY4.out.cell 5
  have y6 : w4.cell? ⟨w.heap.size + 1, 6, none⟩ = some (.int .i64 dpg) := HY4.out.cell 6
  have y7 : w4.cell? ⟨w.heap.size + 1, 7, none⟩ = some (.bool dleaf) := HY4.out.cell 7
  have y8 : w4.cell? ⟨w.heap.size + 1, 8, none⟩ = some (.string dlo) := HY4.out.cell 8
  have y9 : w4.cell? ⟨w.heap.size + 1, 9, none⟩ = some (.string dhi) := HY4.out.cell 9
  have y10 : w4.cell? ⟨w.heap.size + 1, 10, none⟩ = some (.int .i64 dr) := HY4.out.cell 10
  have y11 : w4.cell? ⟨w.heap.size + 1, 11, none⟩ = some (.slice dp dn dc) := HY4.out.cell 11
  have b0 : w4.cell? ⟨w.heap.size + 1 + 1, 0, none⟩ = some (.bool false) := HR4.out.cell 0
  have bf0 : w4.frozen? ⟨w.heap.size + 1 + 1, 0, none⟩ = false := HR4.out.frozen 0
  have b1 : w4.cell? ⟨w.heap.size + 1 + 1, 1, none⟩ = some (.string ⟨#[]⟩) := HR4.out.cell 1
  have bf1 : w4.frozen? ⟨w.heap.size + 1 + 1, 1, none⟩ = false := HR4.out.frozen 1
  have b2 : w4.cell? ⟨w.heap.size + 1 + 1, 2, none⟩ = some (.string ⟨#[]⟩) := HR4.out.cell 2
  have bf2 : w4.frozen? ⟨w.heap.size + 1 + 1, 2, none⟩ = false := HR4.out.frozen 2
  have b3 : w4.cell? ⟨w.heap.size + 1 + 1, 3, none⟩ = some (.int .i64 0) := HR4.out.cell 3
  have bf3 : w4.frozen? ⟨w.heap.size + 1 + 1, 3, none⟩ = false := HR4.out.frozen 3
  have b4 : w4.cell? ⟨w.heap.size + 1 + 1, 4, none⟩ = some (.slice none 0 0) := HR4.out.cell 4
  have bf4 : w4.frozen? ⟨w.heap.size + 1 + 1, 4, none⟩ = false := HR4.out.frozen 4
  have g0 : w4.cell? ⟨w3.heap.size, 0, none⟩ = some (.bool Gf) := HG4.out.cell 0
  have g1 : w4.cell? ⟨w3.heap.size, 1, none⟩ = some (.string Glo) := HG4.out.cell 1
  have g2 : w4.cell? ⟨w3.heap.size, 2, none⟩ = some (.string Ghi) := HG4.out.cell 2
  have g3 : w4.cell? ⟨w3.heap.size, 3, none⟩ = some (.int .i64 Gr) := HG4.out.cell 3
  have g4 : w4.cell? ⟨w3.heap.size, 4, none⟩ = some (.slice Gp Gn Gc) := HG4.out.cell 4
  by_cases h0 : kk = 0
  · subst h0
    go_wp2
    clear hw4
    clear a0 a1 a2 a3 a4
    clear y0 y1 y2 y3 y4 y5 y6 y7 y8 y9 y10 y11
    clear b0 bf0 b1 bf1 b2 bf2 b3 bf3 b4 bf4
    clear g0 g1 g2 g3 g4
    try rw [if_pos rfl]
    have k1 := HR4.out.five (.bool Gf) (.string Glo) (.string Ghi) (.int .i64 Gr) (.slice Gp Gn Gc)
    have ht : Tn [w.heap.size + 1 + 1] w4 _ := (Tn.refl _ w4).five (R := w.heap.size + 1 + 1) (.inl (by simp)) (.bool Gf) (.string Glo) (.string Ghi) (.int .i64 Gr) (.slice Gp Gn Gc)
    have hz := HB4.out.trans (ht.below HB4.out.size (by simp; omega))
    refine bodyPost_ret (results_two (T' := 24) (cs := [.bool Gf, .string Glo, .string Ghi, .int .i64 Gr, .slice Gp Gn Gc]) rfl rfl pg_agg pg_size rfl k1) rfl ?_
    exact ⟨_, rfl, (HGG.out.tn ht (by have := HS.out; simp; omega)).pat, hz⟩
  · go_wp2
    clear hw4
    clear a0 a1 a2 a3 a4
    clear y0 y1 y2 y3 y4 y5 y6 y7 y8 y9 y10 y11
    clear b0 bf0 b1 bf1 b2 bf2 b3 bf3 b4 bf4
    clear g0 g1 g2 g3 g4
    try rw [if_neg h0]
    have k1 := HR4.out.five (.bool pf) (.string plo) (.string phi) (.int .i64 pr) (.slice pp pn pc)
    have ht : Tn [w.heap.size + 1 + 1] w4 _ := (Tn.refl _ w4).five (R := w.heap.size + 1 + 1) (.inl (by simp)) (.bool pf) (.string plo) (.string phi) (.int .i64 pr) (.slice pp pn pc)
    have hz := HB4.out.trans (ht.below HB4.out.size (by simp; omega))
    refine bodyPost_ret (results_two (T' := 24) (cs := [.bool pf, .string plo, .string phi, .int .i64 pr, .slice pp pn pc]) rfl rfl pg_agg pg_size rfl k1) rfl ?_
    exact ⟨_, rfl, ⟨_, _, by rw [hlen], HX.out.below hz (Nat.le_refl _)⟩, hz⟩

set_option maxHeartbeats 4000000 in
theorem rapply_3l (pf : Bool) (plo phi : ByteArray) (pr : Int) (pp : Option Addr) (pn pc : Nat) (dek : ByteArray) (des deg dec : Int) (dkey : ByteArray) (dpg : Int) (dleaf : Bool) (dlo dhi : ByteArray) (dr : Int) (dp : Option Addr) (dn dc : Nat) (w : World) (hc : ∀ W, Below w.heap.size w W → Calls Tryz.prog 15 #[.agg #[.int .i64 3, .string dek, .int .i64 des, .int .i64 deg, .int .i64 dec, .string dkey, .int .i64 dpg, .bool dleaf, .string dlo, .string dhi, .int .i64 dr, .slice dp dn dc]] W fun e w' => e = .returned (.int .i64 0) ∧ Below W.heap.size W w') (hlo : Ky.lt plo dkey = false) :
    Calls Tryz.prog 10 #[.agg #[.bool pf, .string plo, .string phi, .int .i64 pr, .slice pp pn pc], .agg #[.int .i64 3, .string dek, .int .i64 des, .int .i64 deg, .int .i64 dec, .string dkey, .int .i64 dpg, .bool dleaf, .string dlo, .string dhi, .int .i64 dr, .slice dp dn dc]] w fun e w' => ∃ v, e = .returned (.tuple #[v, .int .i64 90]) ∧ Pat w' v ⟨false, ⟨#[]⟩, ⟨#[]⟩, 0, []⟩ ∧ Below w.heap.size w w' := by
  have hle : (Op.bytesLess dkey.toList plo.toList || dkey.toList == plo.toList) = true := by rw [Ky.leq_iff]; show (!Ky.lt plo dkey) = true; rw [hlo]; rfl
  clear hlo
  have HC : Hid _ := hc
  clear hc
  obtain ⟨w0, hw0⟩ : ∃ w0, ((w.alloc (.cells #[.bool pf, .string plo, .string phi, .int .i64 pr, .slice pp pn pc] 24)).alloc (.cells #[.int .i64 3, .string dek, .int .i64 des, .int .i64 deg, .int .i64 dec, .string dkey, .int .i64 dpg, .bool dleaf, .string dlo, .string dhi, .int .i64 dr, .slice dp dn dc] 30)).alloc (.cells #[.bool false, .string ⟨#[]⟩, .string ⟨#[]⟩, .int .i64 0, .slice none 0 0] 24) = w0 := ⟨_, rfl⟩
  have HB0 : Hid (Below w.heap.size w w0) := by rw [← hw0]; exact (((Below.refl _ _).alloc (Nat.le_refl _) _).alloc (by simp) _).alloc (by simp; omega) _
  have HK0 : Hid (Bk w0 w.heap.size 24 #[.bool pf, .string plo, .string phi, .int .i64 pr, .slice pp pn pc]) := by rw [← hw0]; exact ((Bk.new _ _ _).alloc _).alloc _
  have HY0 : Hid (Bk w0 (w.heap.size + 1) 30 #[.int .i64 3, .string dek, .int .i64 des, .int .i64 deg, .int .i64 dec, .string dkey, .int .i64 dpg, .bool dleaf, .string dlo, .string dhi, .int .i64 dr, .slice dp dn dc]) := by rw [← hw0]; exact (Bk.new1 _ _ _ _).alloc _
  have HR0 : Hid (Bk w0 (w.heap.size + 1 + 1) 24 #[.bool false, .string ⟨#[]⟩, .string ⟨#[]⟩, .int .i64 0, .slice none 0 0]) := by rw [← hw0]; exact Bk.new2 _ _ _ _ _
  have y0 : w0.cell? ⟨w.heap.size + 1, 0, none⟩ = some (.int .i64 3) := HY0.out.cell 0
  have y1 : w0.cell? ⟨w.heap.size + 1, 1, none⟩ = some (.string dek) := HY0.out.cell 1
  have y2 : w0.cell? ⟨w.heap.size + 1, 2, none⟩ = some (.int .i64 des) := HY0.out.cell 2
  have y3 : w0.cell? ⟨w.heap.size + 1, 3, none⟩ = some (.int .i64 deg) := HY0.out.cell 3
  have y4 : w0.cell? ⟨w.heap.size + 1, 4, none⟩ = some (.int .i64 dec) := HY0.out.cell 4
  have y5 : w0.cell? ⟨w.heap.size + 1, 5, none⟩ = some (.string dkey) := HY0.out.cell 5
  have y6 : w0.cell? ⟨w.heap.size + 1, 6, none⟩ = some (.int .i64 dpg) := HY0.out.cell 6
  have y7 : w0.cell? ⟨w.heap.size + 1, 7, none⟩ = some (.bool dleaf) := HY0.out.cell 7
  have y8 : w0.cell? ⟨w.heap.size + 1, 8, none⟩ = some (.string dlo) := HY0.out.cell 8
  have y9 : w0.cell? ⟨w.heap.size + 1, 9, none⟩ = some (.string dhi) := HY0.out.cell 9
  have y10 : w0.cell? ⟨w.heap.size + 1, 10, none⟩ = some (.int .i64 dr) := HY0.out.cell 10
  have y11 : w0.cell? ⟨w.heap.size + 1, 11, none⟩ = some (.slice dp dn dc) := HY0.out.cell 11
  go_enter Tryz.func10, Tryz.ntmps10
  go_wp2_with fail
  refine (HC.out _ HB0.out).mono ?_
  rintro e w1 ⟨rfl, hb⟩
  clear y0 y1 y2 y3 y4 y5 y6 y7 y8 y9 y10 y11
  clear hw0 HC
  have HB1 : Hid (Below w.heap.size w w1) := HB0.out.trans (hb.mono HB0.out.size)
  have HK1 : Hid (Bk w1 w.heap.size 24 #[.bool pf, .string plo, .string phi, .int .i64 pr, .slice pp pn pc]) := HK0.out.below hb HK0.out.lt
  have HY1 : Hid (Bk w1 (w.heap.size + 1) 30 #[.int .i64 3, .string dek, .int .i64 des, .int .i64 deg, .int .i64 dec, .string dkey, .int .i64 dpg, .bool dleaf, .string dlo, .string dhi, .int .i64 dr, .slice dp dn dc]) := HY0.out.below hb HY0.out.lt
  have HR1 : Hid (Bk w1 (w.heap.size + 1 + 1) 24 #[.bool false, .string ⟨#[]⟩, .string ⟨#[]⟩, .int .i64 0, .slice none 0 0]) := HR0.out.below hb HR0.out.lt
  clear hb HB0 HK0 HY0 HR0
  have a0 : w1.cell? ⟨w.heap.size, 0, none⟩ = some (.bool pf) := HK1.out.cell 0
  have a1 : w1.cell? ⟨w.heap.size, 1, none⟩ = some (.string plo) := HK1.out.cell 1
  have a2 : w1.cell? ⟨w.heap.size, 2, none⟩ = some (.string phi) := HK1.out.cell 2
  have a3 : w1.cell? ⟨w.heap.size, 3, none⟩ = some (.int .i64 pr) := HK1.out.cell 3
  have a4 : w1.cell? ⟨w.heap.size, 4, none⟩ = some (.slice pp pn pc) := HK1.out.cell 4
  have y0 : w1.cell? ⟨w.heap.size + 1, 0, none⟩ = some (.int .i64 3) := HY1.out.cell 0
  have y1 : w1.cell? ⟨w.heap.size + 1, 1, none⟩ = some (.string dek) := HY1.out.cell 1
  have y2 : w1.cell? ⟨w.heap.size + 1, 2, none⟩ = some (.int .i64 des) := HY1.out.cell 2
  have y3 : w1.cell? ⟨w.heap.size + 1, 3, none⟩ = some (.int .i64 deg) := HY1.out.cell 3
  have y4 : w1.cell? ⟨w.heap.size + 1, 4, none⟩ = some (.int .i64 dec) := HY1.out.cell 4
  have y5 : w1.cell? ⟨w.heap.size + 1, 5, none⟩ = some (.string dkey) := HY1.out.cell 5
  have y6 : w1.cell? ⟨w.heap.size + 1, 6, none⟩ = some (.int .i64 dpg) := HY1.out.cell 6
  have y7 : w1.cell? ⟨w.heap.size + 1, 7, none⟩ = some (.bool dleaf) := HY1.out.cell 7
  have y8 : w1.cell? ⟨w.heap.size + 1, 8, none⟩ = some (.string dlo) := HY1.out.cell 8
  have y9 : w1.cell? ⟨w.heap.size + 1, 9, none⟩ = some (.string dhi) := HY1.out.cell 9
  have y10 : w1.cell? ⟨w.heap.size + 1, 10, none⟩ = some (.int .i64 dr) := HY1.out.cell 10
  have y11 : w1.cell? ⟨w.heap.size + 1, 11, none⟩ = some (.slice dp dn dc) := HY1.out.cell 11
  have b0 : w1.cell? ⟨w.heap.size + 1 + 1, 0, none⟩ = some (.bool false) := HR1.out.cell 0
  have bf0 : w1.frozen? ⟨w.heap.size + 1 + 1, 0, none⟩ = false := HR1.out.frozen 0
  have b1 : w1.cell? ⟨w.heap.size + 1 + 1, 1, none⟩ = some (.string ⟨#[]⟩) := HR1.out.cell 1
  have bf1 : w1.frozen? ⟨w.heap.size + 1 + 1, 1, none⟩ = false := HR1.out.frozen 1
  have b2 : w1.cell? ⟨w.heap.size + 1 + 1, 2, none⟩ = some (.string ⟨#[]⟩) := HR1.out.cell 2
  have bf2 : w1.frozen? ⟨w.heap.size + 1 + 1, 2, none⟩ = false := HR1.out.frozen 2
  have b3 : w1.cell? ⟨w.heap.size + 1 + 1, 3, none⟩ = some (.int .i64 0) := HR1.out.cell 3
  have bf3 : w1.frozen? ⟨w.heap.size + 1 + 1, 3, none⟩ = false := HR1.out.frozen 3
  have b4 : w1.cell? ⟨w.heap.size + 1 + 1, 4, none⟩ = some (.slice none 0 0) := HR1.out.cell 4
  have bf4 : w1.frozen? ⟨w.heap.size + 1 + 1, 4, none⟩ = false := HR1.out.frozen 4
  go_wp2
  clear a0 a1 a2 a3 a4
  clear y0 y1 y2 y3 y4 y5 y6 y7 y8 y9 y10 y11
  clear b0 bf0 b1 bf1 b2 bf2 b3 bf3 b4 bf4
  have k1 := HR1.out.five (.bool false) (.string ⟨#[]⟩) (.string ⟨#[]⟩) (.int .i64 0) (.slice none 0 0)
  have ht : Tn [w.heap.size + 1 + 1] w1 _ := (Tn.refl _ w1).five (R := w.heap.size + 1 + 1) (.inl (by simp)) (.bool false) (.string ⟨#[]⟩) (.string ⟨#[]⟩) (.int .i64 0) (.slice none 0 0)
  have hz := HB1.out.trans (ht.below HB1.out.size (by simp; omega))
  refine bodyPost_ret (results_two (T' := 24) (cs := [.bool false, .string ⟨#[]⟩, .string ⟨#[]⟩, .int .i64 0, .slice none 0 0]) rfl rfl pg_agg pg_size rfl k1) rfl ?_
  exact ⟨_, rfl, ⟨none, 0, rfl, Ens.nil _ _⟩, hz⟩

set_option maxHeartbeats 4000000 in
theorem rapply_3o (pf : Bool) (plo phi : ByteArray) (pr : Int) (pp : Option Addr) (pn pc : Nat) (dek : ByteArray) (des deg dec : Int) (dkey : ByteArray) (dpg : Int) (dleaf : Bool) (dlo dhi : ByteArray) (dr : Int) (dp : Option Addr) (dn dc : Nat) (w : World) (hc : ∀ W, Below w.heap.size w W → Calls Tryz.prog 15 #[.agg #[.int .i64 3, .string dek, .int .i64 des, .int .i64 deg, .int .i64 dec, .string dkey, .int .i64 dpg, .bool dleaf, .string dlo, .string dhi, .int .i64 dr, .slice dp dn dc]] W fun e w' => e = .returned (.int .i64 0) ∧ Below W.heap.size W w') (hlo : Ky.lt plo dkey = true) (hh : ∀ W, Below w.heap.size w W → Calls Tryz.prog 26 #[.agg #[.bool pf, .string plo, .string phi, .int .i64 pr, .slice pp pn pc], .string dkey] W fun e w' => e = .returned (.bool false) ∧ Below W.heap.size W w') :
    Calls Tryz.prog 10 #[.agg #[.bool pf, .string plo, .string phi, .int .i64 pr, .slice pp pn pc], .agg #[.int .i64 3, .string dek, .int .i64 des, .int .i64 deg, .int .i64 dec, .string dkey, .int .i64 dpg, .bool dleaf, .string dlo, .string dhi, .int .i64 dr, .slice dp dn dc]] w fun e w' => ∃ v, e = .returned (.tuple #[v, .int .i64 90]) ∧ Pat w' v ⟨false, ⟨#[]⟩, ⟨#[]⟩, 0, []⟩ ∧ Below w.heap.size w w' := by
  have hle : (Op.bytesLess dkey.toList plo.toList || dkey.toList == plo.toList) = false := by rw [Ky.leq_iff]; show (!Ky.lt plo dkey) = false; rw [hlo]; rfl
  clear hlo
  have HH : Hid _ := hh
  clear hh
  have HC : Hid _ := hc
  clear hc
  obtain ⟨w0, hw0⟩ : ∃ w0, ((w.alloc (.cells #[.bool pf, .string plo, .string phi, .int .i64 pr, .slice pp pn pc] 24)).alloc (.cells #[.int .i64 3, .string dek, .int .i64 des, .int .i64 deg, .int .i64 dec, .string dkey, .int .i64 dpg, .bool dleaf, .string dlo, .string dhi, .int .i64 dr, .slice dp dn dc] 30)).alloc (.cells #[.bool false, .string ⟨#[]⟩, .string ⟨#[]⟩, .int .i64 0, .slice none 0 0] 24) = w0 := ⟨_, rfl⟩
  have HB0 : Hid (Below w.heap.size w w0) := by rw [← hw0]; exact (((Below.refl _ _).alloc (Nat.le_refl _) _).alloc (by simp) _).alloc (by simp; omega) _
  have HK0 : Hid (Bk w0 w.heap.size 24 #[.bool pf, .string plo, .string phi, .int .i64 pr, .slice pp pn pc]) := by rw [← hw0]; exact ((Bk.new _ _ _).alloc _).alloc _
  have HY0 : Hid (Bk w0 (w.heap.size + 1) 30 #[.int .i64 3, .string dek, .int .i64 des, .int .i64 deg, .int .i64 dec, .string dkey, .int .i64 dpg, .bool dleaf, .string dlo, .string dhi, .int .i64 dr, .slice dp dn dc]) := by rw [← hw0]; exact (Bk.new1 _ _ _ _).alloc _
  have HR0 : Hid (Bk w0 (w.heap.size + 1 + 1) 24 #[.bool false, .string ⟨#[]⟩, .string ⟨#[]⟩, .int .i64 0, .slice none 0 0]) := by rw [← hw0]; exact Bk.new2 _ _ _ _ _
  have y0 : w0.cell? ⟨w.heap.size + 1, 0, none⟩ = some (.int .i64 3) := HY0.out.cell 0
  have y1 : w0.cell? ⟨w.heap.size + 1, 1, none⟩ = some (.string dek) := HY0.out.cell 1
  have y2 : w0.cell? ⟨w.heap.size + 1, 2, none⟩ = some (.int .i64 des) := HY0.out.cell 2
  have y3 : w0.cell? ⟨w.heap.size + 1, 3, none⟩ = some (.int .i64 deg) := HY0.out.cell 3
  have y4 : w0.cell? ⟨w.heap.size + 1, 4, none⟩ = some (.int .i64 dec) := HY0.out.cell 4
  have y5 : w0.cell? ⟨w.heap.size + 1, 5, none⟩ = some (.string dkey) := HY0.out.cell 5
  have y6 : w0.cell? ⟨w.heap.size + 1, 6, none⟩ = some (.int .i64 dpg) := HY0.out.cell 6
  have y7 : w0.cell? ⟨w.heap.size + 1, 7, none⟩ = some (.bool dleaf) := HY0.out.cell 7
  have y8 : w0.cell? ⟨w.heap.size + 1, 8, none⟩ = some (.string dlo) := HY0.out.cell 8
  have y9 : w0.cell? ⟨w.heap.size + 1, 9, none⟩ = some (.string dhi) := HY0.out.cell 9
  have y10 : w0.cell? ⟨w.heap.size + 1, 10, none⟩ = some (.int .i64 dr) := HY0.out.cell 10
  have y11 : w0.cell? ⟨w.heap.size + 1, 11, none⟩ = some (.slice dp dn dc) := HY0.out.cell 11
  go_enter Tryz.func10, Tryz.ntmps10
  go_wp2_with fail
  refine (HC.out _ HB0.out).mono ?_
  rintro e w1 ⟨rfl, hb⟩
  clear y0 y1 y2 y3 y4 y5 y6 y7 y8 y9 y10 y11
  clear hw0 HC
  have HB1 : Hid (Below w.heap.size w w1) := HB0.out.trans (hb.mono HB0.out.size)
  have HK1 : Hid (Bk w1 w.heap.size 24 #[.bool pf, .string plo, .string phi, .int .i64 pr, .slice pp pn pc]) := HK0.out.below hb HK0.out.lt
  have HY1 : Hid (Bk w1 (w.heap.size + 1) 30 #[.int .i64 3, .string dek, .int .i64 des, .int .i64 deg, .int .i64 dec, .string dkey, .int .i64 dpg, .bool dleaf, .string dlo, .string dhi, .int .i64 dr, .slice dp dn dc]) := HY0.out.below hb HY0.out.lt
  have HR1 : Hid (Bk w1 (w.heap.size + 1 + 1) 24 #[.bool false, .string ⟨#[]⟩, .string ⟨#[]⟩, .int .i64 0, .slice none 0 0]) := HR0.out.below hb HR0.out.lt
  clear hb HB0 HK0 HY0 HR0
  have a0 : w1.cell? ⟨w.heap.size, 0, none⟩ = some (.bool pf) := HK1.out.cell 0
  have a1 : w1.cell? ⟨w.heap.size, 1, none⟩ = some (.string plo) := HK1.out.cell 1
  have a2 : w1.cell? ⟨w.heap.size, 2, none⟩ = some (.string phi) := HK1.out.cell 2
  have a3 : w1.cell? ⟨w.heap.size, 3, none⟩ = some (.int .i64 pr) := HK1.out.cell 3
  have a4 : w1.cell? ⟨w.heap.size, 4, none⟩ = some (.slice pp pn pc) := HK1.out.cell 4
  have y0 : w1.cell? ⟨w.heap.size + 1, 0, none⟩ = some (.int .i64 3) := HY1.out.cell 0
  have y1 : w1.cell? ⟨w.heap.size + 1, 1, none⟩ = some (.string dek) := HY1.out.cell 1
  have y2 : w1.cell? ⟨w.heap.size + 1, 2, none⟩ = some (.int .i64 des) := HY1.out.cell 2
  have y3 : w1.cell? ⟨w.heap.size + 1, 3, none⟩ = some (.int .i64 deg) := HY1.out.cell 3
  have y4 : w1.cell? ⟨w.heap.size + 1, 4, none⟩ = some (.int .i64 dec) := HY1.out.cell 4
  have y5 : w1.cell? ⟨w.heap.size + 1, 5, none⟩ = some (.string dkey) := HY1.out.cell 5
  have y6 : w1.cell? ⟨w.heap.size + 1, 6, none⟩ = some (.int .i64 dpg) := HY1.out.cell 6
  have y7 : w1.cell? ⟨w.heap.size + 1, 7, none⟩ = some (.bool dleaf) := HY1.out.cell 7
  have y8 : w1.cell? ⟨w.heap.size + 1, 8, none⟩ = some (.string dlo) := HY1.out.cell 8
  have y9 : w1.cell? ⟨w.heap.size + 1, 9, none⟩ = some (.string dhi) := HY1.out.cell 9
  have y10 : w1.cell? ⟨w.heap.size + 1, 10, none⟩ = some (.int .i64 dr) := HY1.out.cell 10
  have y11 : w1.cell? ⟨w.heap.size + 1, 11, none⟩ = some (.slice dp dn dc) := HY1.out.cell 11
  have b0 : w1.cell? ⟨w.heap.size + 1 + 1, 0, none⟩ = some (.bool false) := HR1.out.cell 0
  have bf0 : w1.frozen? ⟨w.heap.size + 1 + 1, 0, none⟩ = false := HR1.out.frozen 0
  have b1 : w1.cell? ⟨w.heap.size + 1 + 1, 1, none⟩ = some (.string ⟨#[]⟩) := HR1.out.cell 1
  have bf1 : w1.frozen? ⟨w.heap.size + 1 + 1, 1, none⟩ = false := HR1.out.frozen 1
  have b2 : w1.cell? ⟨w.heap.size + 1 + 1, 2, none⟩ = some (.string ⟨#[]⟩) := HR1.out.cell 2
  have bf2 : w1.frozen? ⟨w.heap.size + 1 + 1, 2, none⟩ = false := HR1.out.frozen 2
  have b3 : w1.cell? ⟨w.heap.size + 1 + 1, 3, none⟩ = some (.int .i64 0) := HR1.out.cell 3
  have bf3 : w1.frozen? ⟨w.heap.size + 1 + 1, 3, none⟩ = false := HR1.out.frozen 3
  have b4 : w1.cell? ⟨w.heap.size + 1 + 1, 4, none⟩ = some (.slice none 0 0) := HR1.out.cell 4
  have bf4 : w1.frozen? ⟨w.heap.size + 1 + 1, 4, none⟩ = false := HR1.out.frozen 4
  go_wp2_with fail
  refine (HH.out _ HB1.out).mono ?_
  rintro e w2 ⟨rfl, hb⟩
  clear a0 a1 a2 a3 a4
  clear y0 y1 y2 y3 y4 y5 y6 y7 y8 y9 y10 y11
  clear b0 bf0 b1 bf1 b2 bf2 b3 bf3 b4 bf4
  have HB2 : Hid (Below w.heap.size w w2) := HB1.out.trans (hb.mono HB1.out.size)
  have HK2 : Hid (Bk w2 w.heap.size 24 #[.bool pf, .string plo, .string phi, .int .i64 pr, .slice pp pn pc]) := HK1.out.below hb HK1.out.lt
  have HY2 : Hid (Bk w2 (w.heap.size + 1) 30 #[.int .i64 3, .string dek, .int .i64 des, .int .i64 deg, .int .i64 dec, .string dkey, .int .i64 dpg, .bool dleaf, .string dlo, .string dhi, .int .i64 dr, .slice dp dn dc]) := HY1.out.below hb HY1.out.lt
  have HR2 : Hid (Bk w2 (w.heap.size + 1 + 1) 24 #[.bool false, .string ⟨#[]⟩, .string ⟨#[]⟩, .int .i64 0, .slice none 0 0]) := HR1.out.below hb HR1.out.lt
  clear hb HB1 HK1 HY1 HR1
  clear HH
  have a0 : w2.cell? ⟨w.heap.size, 0, none⟩ = some (.bool pf) := HK2.out.cell 0
  have a1 : w2.cell? ⟨w.heap.size, 1, none⟩ = some (.string plo) := HK2.out.cell 1
  have a2 : w2.cell? ⟨w.heap.size, 2, none⟩ = some (.string phi) := HK2.out.cell 2
  have a3 : w2.cell? ⟨w.heap.size, 3, none⟩ = some (.int .i64 pr) := HK2.out.cell 3
  have a4 : w2.cell? ⟨w.heap.size, 4, none⟩ = some (.slice pp pn pc) := HK2.out.cell 4
  have y0 : w2.cell? ⟨w.heap.size + 1, 0, none⟩ = some (.int .i64 3) := HY2.out.cell 0
  have y1 : w2.cell? ⟨w.heap.size + 1, 1, none⟩ = some (.string dek) := HY2.out.cell 1
  have y2 : w2.cell? ⟨w.heap.size + 1, 2, none⟩ = some (.int .i64 des) := HY2.out.cell 2
  have y3 : w2.cell? ⟨w.heap.size + 1, 3, none⟩ = some (.int .i64 deg) := HY2.out.cell 3
  have y4 : w2.cell? ⟨w.heap.size + 1, 4, none⟩ = some (.int .i64 dec) := HY2.out.cell 4
  have y5 : w2.cell? ⟨w.heap.size + 1, 5, none⟩ = some (.string dkey) := HY2.out.cell 5
  have y6 : w2.cell? ⟨w.heap.size + 1, 6, none⟩ = some (.int .i64 dpg) := HY2.out.cell 6
  have y7 : w2.cell? ⟨w.heap.size + 1, 7, none⟩ = some (.bool dleaf) := HY2.out.cell 7
  have y8 : w2.cell? ⟨w.heap.size + 1, 8, none⟩ = some (.string dlo) := HY2.out.cell 8
  have y9 : w2.cell? ⟨w.heap.size + 1, 9, none⟩ = some (.string dhi) := HY2.out.cell 9
  have y10 : w2.cell? ⟨w.heap.size + 1, 10, none⟩ = some (.int .i64 dr) := HY2.out.cell 10
  have y11 : w2.cell? ⟨w.heap.size + 1, 11, none⟩ = some (.slice dp dn dc) := HY2.out.cell 11
  have b0 : w2.cell? ⟨w.heap.size + 1 + 1, 0, none⟩ = some (.bool false) := HR2.out.cell 0
  have bf0 : w2.frozen? ⟨w.heap.size + 1 + 1, 0, none⟩ = false := HR2.out.frozen 0
  have b1 : w2.cell? ⟨w.heap.size + 1 + 1, 1, none⟩ = some (.string ⟨#[]⟩) := HR2.out.cell 1
  have bf1 : w2.frozen? ⟨w.heap.size + 1 + 1, 1, none⟩ = false := HR2.out.frozen 1
  have b2 : w2.cell? ⟨w.heap.size + 1 + 1, 2, none⟩ = some (.string ⟨#[]⟩) := HR2.out.cell 2
  have bf2 : w2.frozen? ⟨w.heap.size + 1 + 1, 2, none⟩ = false := HR2.out.frozen 2
  have b3 : w2.cell? ⟨w.heap.size + 1 + 1, 3, none⟩ = some (.int .i64 0) := HR2.out.cell 3
  have bf3 : w2.frozen? ⟨w.heap.size + 1 + 1, 3, none⟩ = false := HR2.out.frozen 3
  have b4 : w2.cell? ⟨w.heap.size + 1 + 1, 4, none⟩ = some (.slice none 0 0) := HR2.out.cell 4
  have bf4 : w2.frozen? ⟨w.heap.size + 1 + 1, 4, none⟩ = false := HR2.out.frozen 4
  go_wp2
  clear a0 a1 a2 a3 a4
  clear y0 y1 y2 y3 y4 y5 y6 y7 y8 y9 y10 y11
  clear b0 bf0 b1 bf1 b2 bf2 b3 bf3 b4 bf4
  have k1 := HR2.out.five (.bool false) (.string ⟨#[]⟩) (.string ⟨#[]⟩) (.int .i64 0) (.slice none 0 0)
  have ht : Tn [w.heap.size + 1 + 1] w2 _ := (Tn.refl _ w2).five (R := w.heap.size + 1 + 1) (.inl (by simp)) (.bool false) (.string ⟨#[]⟩) (.string ⟨#[]⟩) (.int .i64 0) (.slice none 0 0)
  have hz := HB2.out.trans (ht.below HB2.out.size (by simp; omega))
  refine bodyPost_ret (results_two (T' := 24) (cs := [.bool false, .string ⟨#[]⟩, .string ⟨#[]⟩, .int .i64 0, .slice none 0 0]) rfl rfl pg_agg pg_size rfl k1) rfl ?_
  exact ⟨_, rfl, ⟨none, 0, rfl, Ens.nil _ _⟩, hz⟩

set_option maxHeartbeats 4000000 in
theorem rapply_3 (pf : Bool) (plo phi : ByteArray) (pr : Int) (pp : Option Addr) (pn pc : Nat) (dek : ByteArray) (des deg dec : Int) (dkey : ByteArray) (dpg : Int) (dleaf : Bool) (dlo dhi : ByteArray) (dr : Int) (dp : Option Addr) (dn dc : Nat) (w : World) (pl : List En) (hlen : pl.length = pn) (hx : Ens w pp pl) (hl : pn ≤ 3518437208780) (hc : ∀ W, Below w.heap.size w W → Calls Tryz.prog 15 #[.agg #[.int .i64 3, .string dek, .int .i64 des, .int .i64 deg, .int .i64 dec, .string dkey, .int .i64 dpg, .bool dleaf, .string dlo, .string dhi, .int .i64 dr, .slice dp dn dc]] W fun e w' => e = .returned (.int .i64 0) ∧ Below W.heap.size W w') (hlo : Ky.lt plo dkey = true) (hh : ∀ W, Below w.heap.size w W → Calls Tryz.prog 26 #[.agg #[.bool pf, .string plo, .string phi, .int .i64 pr, .slice pp pn pc], .string dkey] W fun e w' => e = .returned (.bool true) ∧ Below W.heap.size W w') :
    Calls Tryz.prog 10 #[.agg #[.bool pf, .string plo, .string phi, .int .i64 pr, .slice pp pn pc], .agg #[.int .i64 3, .string dek, .int .i64 des, .int .i64 deg, .int .i64 dec, .string dkey, .int .i64 dpg, .bool dleaf, .string dlo, .string dhi, .int .i64 dr, .slice dp dn dc]] w fun e w' => ∃ v, e = .returned (.tuple #[v, .int .i64 0]) ∧ Pat w' v ⟨pf, plo, dkey, dpg, pl.filter fun e => Ky.lt e.key dkey⟩ ∧ Below w.heap.size w w' := by
  have hle : (Op.bytesLess dkey.toList plo.toList || dkey.toList == plo.toList) = false := by rw [Ky.leq_iff]; show (!Ky.lt plo dkey) = false; rw [hlo]; rfl
  clear hlo
  have HH : Hid _ := hh
  have HX : Hid (Ens w pp pl) := hx
  clear hh hx
  have HC : Hid _ := hc
  clear hc
  obtain ⟨w0, hw0⟩ : ∃ w0, ((w.alloc (.cells #[.bool pf, .string plo, .string phi, .int .i64 pr, .slice pp pn pc] 24)).alloc (.cells #[.int .i64 3, .string dek, .int .i64 des, .int .i64 deg, .int .i64 dec, .string dkey, .int .i64 dpg, .bool dleaf, .string dlo, .string dhi, .int .i64 dr, .slice dp dn dc] 30)).alloc (.cells #[.bool false, .string ⟨#[]⟩, .string ⟨#[]⟩, .int .i64 0, .slice none 0 0] 24) = w0 := ⟨_, rfl⟩
  have HB0 : Hid (Below w.heap.size w w0) := by rw [← hw0]; exact (((Below.refl _ _).alloc (Nat.le_refl _) _).alloc (by simp) _).alloc (by simp; omega) _
  have HK0 : Hid (Bk w0 w.heap.size 24 #[.bool pf, .string plo, .string phi, .int .i64 pr, .slice pp pn pc]) := by rw [← hw0]; exact ((Bk.new _ _ _).alloc _).alloc _
  have HY0 : Hid (Bk w0 (w.heap.size + 1) 30 #[.int .i64 3, .string dek, .int .i64 des, .int .i64 deg, .int .i64 dec, .string dkey, .int .i64 dpg, .bool dleaf, .string dlo, .string dhi, .int .i64 dr, .slice dp dn dc]) := by rw [← hw0]; exact (Bk.new1 _ _ _ _).alloc _
  have HR0 : Hid (Bk w0 (w.heap.size + 1 + 1) 24 #[.bool false, .string ⟨#[]⟩, .string ⟨#[]⟩, .int .i64 0, .slice none 0 0]) := by rw [← hw0]; exact Bk.new2 _ _ _ _ _
  have y0 : w0.cell? ⟨w.heap.size + 1, 0, none⟩ = some (.int .i64 3) := HY0.out.cell 0
  have y1 : w0.cell? ⟨w.heap.size + 1, 1, none⟩ = some (.string dek) := HY0.out.cell 1
  have y2 : w0.cell? ⟨w.heap.size + 1, 2, none⟩ = some (.int .i64 des) := HY0.out.cell 2
  have y3 : w0.cell? ⟨w.heap.size + 1, 3, none⟩ = some (.int .i64 deg) := HY0.out.cell 3
  have y4 : w0.cell? ⟨w.heap.size + 1, 4, none⟩ = some (.int .i64 dec) := HY0.out.cell 4
  have y5 : w0.cell? ⟨w.heap.size + 1, 5, none⟩ = some (.string dkey) := HY0.out.cell 5
  have y6 : w0.cell? ⟨w.heap.size + 1, 6, none⟩ = some (.int .i64 dpg) := HY0.out.cell 6
  have y7 : w0.cell? ⟨w.heap.size + 1, 7, none⟩ = some (.bool dleaf) := HY0.out.cell 7
  have y8 : w0.cell? ⟨w.heap.size + 1, 8, none⟩ = some (.string dlo) := HY0.out.cell 8
  have y9 : w0.cell? ⟨w.heap.size + 1, 9, none⟩ = some (.string dhi) := HY0.out.cell 9
  have y10 : w0.cell? ⟨w.heap.size + 1, 10, none⟩ = some (.int .i64 dr) := HY0.out.cell 10
  have y11 : w0.cell? ⟨w.heap.size + 1, 11, none⟩ = some (.slice dp dn dc) := HY0.out.cell 11
  go_enter Tryz.func10, Tryz.ntmps10
  go_wp2_with fail
  refine (HC.out _ HB0.out).mono ?_
  rintro e w1 ⟨rfl, hb⟩
  clear y0 y1 y2 y3 y4 y5 y6 y7 y8 y9 y10 y11
  clear hw0 HC
  have HB1 : Hid (Below w.heap.size w w1) := HB0.out.trans (hb.mono HB0.out.size)
  have HK1 : Hid (Bk w1 w.heap.size 24 #[.bool pf, .string plo, .string phi, .int .i64 pr, .slice pp pn pc]) := HK0.out.below hb HK0.out.lt
  have HY1 : Hid (Bk w1 (w.heap.size + 1) 30 #[.int .i64 3, .string dek, .int .i64 des, .int .i64 deg, .int .i64 dec, .string dkey, .int .i64 dpg, .bool dleaf, .string dlo, .string dhi, .int .i64 dr, .slice dp dn dc]) := HY0.out.below hb HY0.out.lt
  have HR1 : Hid (Bk w1 (w.heap.size + 1 + 1) 24 #[.bool false, .string ⟨#[]⟩, .string ⟨#[]⟩, .int .i64 0, .slice none 0 0]) := HR0.out.below hb HR0.out.lt
  clear hb HB0 HK0 HY0 HR0
  have a0 : w1.cell? ⟨w.heap.size, 0, none⟩ = some (.bool pf) := HK1.out.cell 0
  have a1 : w1.cell? ⟨w.heap.size, 1, none⟩ = some (.string plo) := HK1.out.cell 1
  have a2 : w1.cell? ⟨w.heap.size, 2, none⟩ = some (.string phi) := HK1.out.cell 2
  have a3 : w1.cell? ⟨w.heap.size, 3, none⟩ = some (.int .i64 pr) := HK1.out.cell 3
  have a4 : w1.cell? ⟨w.heap.size, 4, none⟩ = some (.slice pp pn pc) := HK1.out.cell 4
  have y0 : w1.cell? ⟨w.heap.size + 1, 0, none⟩ = some (.int .i64 3) := HY1.out.cell 0
  have y1 : w1.cell? ⟨w.heap.size + 1, 1, none⟩ = some (.string dek) := HY1.out.cell 1
  have y2 : w1.cell? ⟨w.heap.size + 1, 2, none⟩ = some (.int .i64 des) := HY1.out.cell 2
  have y3 : w1.cell? ⟨w.heap.size + 1, 3, none⟩ = some (.int .i64 deg) := HY1.out.cell 3
  have y4 : w1.cell? ⟨w.heap.size + 1, 4, none⟩ = some (.int .i64 dec) := HY1.out.cell 4
  have y5 : w1.cell? ⟨w.heap.size + 1, 5, none⟩ = some (.string dkey) := HY1.out.cell 5
  have y6 : w1.cell? ⟨w.heap.size + 1, 6, none⟩ = some (.int .i64 dpg) := HY1.out.cell 6
  have y7 : w1.cell? ⟨w.heap.size + 1, 7, none⟩ = some (.bool dleaf) := HY1.out.cell 7
  have y8 : w1.cell? ⟨w.heap.size + 1, 8, none⟩ = some (.string dlo) := HY1.out.cell 8
  have y9 : w1.cell? ⟨w.heap.size + 1, 9, none⟩ = some (.string dhi) := HY1.out.cell 9
  have y10 : w1.cell? ⟨w.heap.size + 1, 10, none⟩ = some (.int .i64 dr) := HY1.out.cell 10
  have y11 : w1.cell? ⟨w.heap.size + 1, 11, none⟩ = some (.slice dp dn dc) := HY1.out.cell 11
  have b0 : w1.cell? ⟨w.heap.size + 1 + 1, 0, none⟩ = some (.bool false) := HR1.out.cell 0
  have bf0 : w1.frozen? ⟨w.heap.size + 1 + 1, 0, none⟩ = false := HR1.out.frozen 0
  have b1 : w1.cell? ⟨w.heap.size + 1 + 1, 1, none⟩ = some (.string ⟨#[]⟩) := HR1.out.cell 1
  have bf1 : w1.frozen? ⟨w.heap.size + 1 + 1, 1, none⟩ = false := HR1.out.frozen 1
  have b2 : w1.cell? ⟨w.heap.size + 1 + 1, 2, none⟩ = some (.string ⟨#[]⟩) := HR1.out.cell 2
  have bf2 : w1.frozen? ⟨w.heap.size + 1 + 1, 2, none⟩ = false := HR1.out.frozen 2
  have b3 : w1.cell? ⟨w.heap.size + 1 + 1, 3, none⟩ = some (.int .i64 0) := HR1.out.cell 3
  have bf3 : w1.frozen? ⟨w.heap.size + 1 + 1, 3, none⟩ = false := HR1.out.frozen 3
  have b4 : w1.cell? ⟨w.heap.size + 1 + 1, 4, none⟩ = some (.slice none 0 0) := HR1.out.cell 4
  have bf4 : w1.frozen? ⟨w.heap.size + 1 + 1, 4, none⟩ = false := HR1.out.frozen 4
  go_wp2_with fail
  refine (HH.out _ HB1.out).mono ?_
  rintro e w2 ⟨rfl, hb⟩
  clear a0 a1 a2 a3 a4
  clear y0 y1 y2 y3 y4 y5 y6 y7 y8 y9 y10 y11
  clear b0 bf0 b1 bf1 b2 bf2 b3 bf3 b4 bf4
  have HB2 : Hid (Below w.heap.size w w2) := HB1.out.trans (hb.mono HB1.out.size)
  have HK2 : Hid (Bk w2 w.heap.size 24 #[.bool pf, .string plo, .string phi, .int .i64 pr, .slice pp pn pc]) := HK1.out.below hb HK1.out.lt
  have HY2 : Hid (Bk w2 (w.heap.size + 1) 30 #[.int .i64 3, .string dek, .int .i64 des, .int .i64 deg, .int .i64 dec, .string dkey, .int .i64 dpg, .bool dleaf, .string dlo, .string dhi, .int .i64 dr, .slice dp dn dc]) := HY1.out.below hb HY1.out.lt
  have HR2 : Hid (Bk w2 (w.heap.size + 1 + 1) 24 #[.bool false, .string ⟨#[]⟩, .string ⟨#[]⟩, .int .i64 0, .slice none 0 0]) := HR1.out.below hb HR1.out.lt
  clear hb HB1 HK1 HY1 HR1
  clear HH
  have a0 : w2.cell? ⟨w.heap.size, 0, none⟩ = some (.bool pf) := HK2.out.cell 0
  have a1 : w2.cell? ⟨w.heap.size, 1, none⟩ = some (.string plo) := HK2.out.cell 1
  have a2 : w2.cell? ⟨w.heap.size, 2, none⟩ = some (.string phi) := HK2.out.cell 2
  have a3 : w2.cell? ⟨w.heap.size, 3, none⟩ = some (.int .i64 pr) := HK2.out.cell 3
  have a4 : w2.cell? ⟨w.heap.size, 4, none⟩ = some (.slice pp pn pc) := HK2.out.cell 4
  have y0 : w2.cell? ⟨w.heap.size + 1, 0, none⟩ = some (.int .i64 3) := HY2.out.cell 0
  have y1 : w2.cell? ⟨w.heap.size + 1, 1, none⟩ = some (.string dek) := HY2.out.cell 1
  have y2 : w2.cell? ⟨w.heap.size + 1, 2, none⟩ = some (.int .i64 des) := HY2.out.cell 2
  have y3 : w2.cell? ⟨w.heap.size + 1, 3, none⟩ = some (.int .i64 deg) := HY2.out.cell 3
  have y4 : w2.cell? ⟨w.heap.size + 1, 4, none⟩ = some (.int .i64 dec) := HY2.out.cell 4
  have y5 : w2.cell? ⟨w.heap.size + 1, 5, none⟩ = some (.string dkey) := HY2.out.cell 5
  have y6 : w2.cell? ⟨w.heap.size + 1, 6, none⟩ = some (.int .i64 dpg) := HY2.out.cell 6
  have y7 : w2.cell? ⟨w.heap.size + 1, 7, none⟩ = some (.bool dleaf) := HY2.out.cell 7
  have y8 : w2.cell? ⟨w.heap.size + 1, 8, none⟩ = some (.string dlo) := HY2.out.cell 8
  have y9 : w2.cell? ⟨w.heap.size + 1, 9, none⟩ = some (.string dhi) := HY2.out.cell 9
  have y10 : w2.cell? ⟨w.heap.size + 1, 10, none⟩ = some (.int .i64 dr) := HY2.out.cell 10
  have y11 : w2.cell? ⟨w.heap.size + 1, 11, none⟩ = some (.slice dp dn dc) := HY2.out.cell 11
  have b0 : w2.cell? ⟨w.heap.size + 1 + 1, 0, none⟩ = some (.bool false) := HR2.out.cell 0
  have bf0 : w2.frozen? ⟨w.heap.size + 1 + 1, 0, none⟩ = false := HR2.out.frozen 0
  have b1 : w2.cell? ⟨w.heap.size + 1 + 1, 1, none⟩ = some (.string ⟨#[]⟩) := HR2.out.cell 1
  have bf1 : w2.frozen? ⟨w.heap.size + 1 + 1, 1, none⟩ = false := HR2.out.frozen 1
  have b2 : w2.cell? ⟨w.heap.size + 1 + 1, 2, none⟩ = some (.string ⟨#[]⟩) := HR2.out.cell 2
  have bf2 : w2.frozen? ⟨w.heap.size + 1 + 1, 2, none⟩ = false := HR2.out.frozen 2
  have b3 : w2.cell? ⟨w.heap.size + 1 + 1, 3, none⟩ = some (.int .i64 0) := HR2.out.cell 3
  have bf3 : w2.frozen? ⟨w.heap.size + 1 + 1, 3, none⟩ = false := HR2.out.frozen 3
  have b4 : w2.cell? ⟨w.heap.size + 1 + 1, 4, none⟩ = some (.slice none 0 0) := HR2.out.cell 4
  have bf4 : w2.frozen? ⟨w.heap.size + 1 + 1, 4, none⟩ = false := HR2.out.frozen 4
  go_wp2_with fail
  clear hle
  clear a0 a1 a2 a3 a4
  clear y0 y1 y2 y3 y4 y5 y6 y7 y8 y9 y10 y11
  clear b0 bf0 b1 bf1 b2 bf2 b3 bf3 b4 bf4
  go_loopw [9, 10] (fun lv iv wr => ∃ j : Nat, j ≤ pn ∧ iv = .int .i64 j ∧ Hid (OwnE wr w2.heap.size lv ((pl.take j).filter fun e => Ky.lt e.key dkey)) ∧ Hid (Below w2.heap.size w2 wr)) (fun _ iv _ => pn - (intOf iv).toNat)
  case atStart => exact ⟨0, Nat.zero_le _, rfl, OwnE.nil _ _, Below.refl _ _⟩
  case round =>
    obtain ⟨j, hj, rfl, HO, HW⟩ := hrel
    have HKr : Hid (Bk wr w.heap.size 24 #[.bool pf, .string plo, .string phi, .int .i64 pr, .slice pp pn pc]) := HK2.out.below HW.out HK2.out.lt
    have HYr : Hid (Bk wr (w.heap.size + 1) 30 #[.int .i64 3, .string dek, .int .i64 des, .int .i64 deg, .int .i64 dec, .string dkey, .int .i64 dpg, .bool dleaf, .string dlo, .string dhi, .int .i64 dr, .slice dp dn dc]) := HY2.out.below HW.out HY2.out.lt
    have HRr : Hid (Bk wr (w.heap.size + 1 + 1) 24 #[.bool false, .string ⟨#[]⟩, .string ⟨#[]⟩, .int .i64 0, .slice none 0 0]) := HR2.out.below HW.out HR2.out.lt
    have HBr : Hid (Below w.heap.size w wr) := HB2.out.trans (HW.out.mono HB2.out.size)
    by_cases hlt : j < pn
    · have hli : (j : Int) < (pn : Int) := by omega
      have hj0 : (0 : Int) ≤ (j : Int) := by omega
      obtain ⟨b, o, x, rfl, hgx, hblt, x0, x1, x2, x3⟩ := (HX.out.below HBr.out (Nat.le_refl _)).at (j := j) (by omega)
      have a4 : wr.cell? ⟨w.heap.size, 4, none⟩ = some (.slice (some ⟨b, o, none⟩) pn pc) := HKr.out.cell 4
      have y5 : wr.cell? ⟨w.heap.size + 1, 5, none⟩ = some (.string dkey) := HYr.out.cell 5
      cases hq : Ky.lt x.key dkey with
      | true =>
        have HT : Hid (((pl.take (j + 1)).filter fun e => Ky.lt e.key dkey) = ((pl.take j).filter fun e => Ky.lt e.key dkey) ++ [x]) := by
          rw [Hid, List.take_add_one, hgx, List.filter_append]
          simp [hq]
        have hqs : Op.bytesLess x.key.toList dkey.toList = true := hq
        clear hq hgx
        go_wp2_with fail
        go_quiet (fail)
        have HWq : Hid (Below w2.heap.size w2 (wr.drewN nq)) := below_drewN HW.out nq
        have HOq : Hid (OwnE (wr.drewN nq) w2.heap.size u9 ((pl.take j).filter fun e => Ky.lt e.key dkey)) := HO.out.below (below_drewN (Below.refl _ _) nq) (Nat.le_refl _)
        have HXq : Hid (Ens (wr.drewN nq) (some ⟨b, o, none⟩) pl) := (HX.out.below HBr.out (Nat.le_refl _)).below (below_drewN (Below.refl _ _) nq) (Nat.le_refl _)
        have HKq : Hid (Bk (wr.drewN nq) w.heap.size 24 #[.bool pf, .string plo, .string phi, .int .i64 pr, .slice (some ⟨b, o, none⟩) pn pc]) := HKr.out.below (below_drewN (Below.refl _ _) nq) HKr.out.lt
        have c0 : (wr.drewN nq).cell? ⟨b, o + j * 4, none⟩ = some (.string x.key) := by rw [(below_drewN (Below.refl wr.heap.size wr) nq).cell (p := ⟨b, o + j * 4, none⟩) hblt]; exact x0
        have c1 : (wr.drewN nq).cell? ⟨b, o + j * 4 + 1, none⟩ = some (.int .i64 x.s) := by rw [(below_drewN (Below.refl wr.heap.size wr) nq).cell (p := ⟨b, o + j * 4 + 1, none⟩) hblt]; exact x1
        have c2 : (wr.drewN nq).cell? ⟨b, o + j * 4 + 2, none⟩ = some (.int .i64 x.g) := by rw [(below_drewN (Below.refl wr.heap.size wr) nq).cell (p := ⟨b, o + j * 4 + 2, none⟩) hblt]; exact x2
        have c3 : (wr.drewN nq).cell? ⟨b, o + j * 4 + 3, none⟩ = some (.int .i64 x.c) := by rw [(below_drewN (Below.refl wr.heap.size wr) nq).cell (p := ⟨b, o + j * 4 + 3, none⟩) hblt]; exact x3
        generalize wr.drewN nq = wq at HWq HOq HXq HKq c0 c1 c2 c3 ⊢
        clear a4 y5 x0 x1 x2 x3 HKr HYr HRr HBr HO HW
        have a4 : wq.cell? ⟨w.heap.size, 4, none⟩ = some (.slice (some ⟨b, o, none⟩) pn pc) := HKq.out.cell 4
        have hbA : Below w2.heap.size w2 (wq.alloc (.cells #[.string x.key, .int .i64 x.s, .int .i64 x.g, .int .i64 x.c] 28)) := HWq.out.alloc HWq.out.size _
        obtain ⟨v3, w3, hr3, ho3, hb3⟩ := app_entry (w0 := w2) (l := ((pl.take j).filter fun e => Ky.lt e.key dkey)) (e := x) (by have := List.length_filter_le (fun e => Ky.lt e.key dkey) (pl.take j); have := List.length_take_le j pl; omega) _ u9 wq.heap.size hbA (HOq.out.below ((Below.refl _ wq).alloc (Nat.le_refl _) _) (Nat.le_refl _)) (ens_one wq x)
        have HR3 : Hid _ := hr3
        have HO3 : Hid (OwnE w3 w2.heap.size v3 ((pl.take (j + 1)).filter fun e => Ky.lt e.key dkey)) := by rw [HT.out]; exact ho3
        have HW3 : Hid (Below w2.heap.size w2 w3) := hb3
        clear hr3 ho3 hb3 hbA HT hqs
        go_wp2_with (at_builtin; refine Lib.wpList_append_run _ rfl _ _ _ _ rfl _ _ rfl rfl _ _ HR3.out ?_)
        go_roundw
        case rel => exact ⟨j + 1, by omega, by go_num, HO3, HW3⟩
        case measure => simp [intOf]; omega
      | false =>
        have HT : Hid (((pl.take (j + 1)).filter fun e => Ky.lt e.key dkey) = ((pl.take j).filter fun e => Ky.lt e.key dkey)) := by
          rw [Hid, List.take_add_one, hgx, List.filter_append]
          simp [hq]
        have hqs : Op.bytesLess x.key.toList dkey.toList = false := hq
        clear hq hgx
        go_wp2_with fail
        go_quiet (fail)
        have HWq : Hid (Below w2.heap.size w2 (wr.drewN nq)) := below_drewN HW.out nq
        have HOq : Hid (OwnE (wr.drewN nq) w2.heap.size u9 ((pl.take (j + 1)).filter fun e => Ky.lt e.key dkey)) := by rw [HT.out]; exact HO.out.below (below_drewN (Below.refl _ _) nq) (Nat.le_refl _)
        clear a4 y5 x0 x1 x2 x3
        go_wp2
        go_roundw
        case rel => exact ⟨j + 1, by omega, by go_num, HOq, HWq⟩
        case measure => simp [intOf]; omega
    · have hje : pn = j := by omega
      have hni : ¬ (j : Int) < (pn : Int) := by omega
      have HOE : Hid (OwnE wr w2.heap.size u9 ((pl).filter fun e => Ky.lt e.key dkey)) := by have := HO.out; rw [List.take_of_length_le (by omega)] at this; exact this
      clear HO hlt hj
      obtain ⟨q9, c9, hv9, hq9, -⟩ := HOE.out.ens
      subst hv9
      obtain ⟨n9, hn9⟩ : ∃ n9, ((pl).filter fun e => Ky.lt e.key dkey).length = n9 := ⟨_, rfl⟩
      rw [hn9] at HOE ⊢
      have HN9 : Hid (((pl).filter fun e => Ky.lt e.key dkey).length = n9) := hn9
      have HQ9 : Hid (Ens wr q9 ((pl).filter fun e => Ky.lt e.key dkey)) := hq9
      have HS9 : Hid (w.heap.size + 1 + 1 < w2.heap.size) := HR2.out.lt
      clear hn9 hq9
      have HKd : Hid (Bk wr.drew w.heap.size 24 #[.bool pf, .string plo, .string phi, .int .i64 pr, .slice pp pn pc]) := HKr.out.drew
      have HYd : Hid (Bk wr.drew (w.heap.size + 1) 30 #[.int .i64 3, .string dek, .int .i64 des, .int .i64 deg, .int .i64 dec, .string dkey, .int .i64 dpg, .bool dleaf, .string dlo, .string dhi, .int .i64 dr, .slice dp dn dc]) := HYr.out.drew
      have HRd : Hid (Bk wr.drew (w.heap.size + 1 + 1) 24 #[.bool false, .string ⟨#[]⟩, .string ⟨#[]⟩, .int .i64 0, .slice none 0 0]) := HRr.out.drew
      have HBd : Hid (Below w.heap.size w wr.drew) := HBr.out.drew
      have HOd : Hid (OwnE wr.drew w2.heap.size (.slice q9 n9 c9) ((pl).filter fun e => Ky.lt e.key dkey)) := HOE.out.below ((Below.refl _ _).drew) (Nat.le_refl _)
      have a0 : wr.cell? ⟨w.heap.size, 0, none⟩ = some (.bool pf) := HKr.out.cell 0
      have af0 : wr.frozen? ⟨w.heap.size, 0, none⟩ = false := HKr.out.frozen 0
      have a1 : wr.cell? ⟨w.heap.size, 1, none⟩ = some (.string plo) := HKr.out.cell 1
      have af1 : wr.frozen? ⟨w.heap.size, 1, none⟩ = false := HKr.out.frozen 1
      have a2 : wr.cell? ⟨w.heap.size, 2, none⟩ = some (.string phi) := HKr.out.cell 2
      have af2 : wr.frozen? ⟨w.heap.size, 2, none⟩ = false := HKr.out.frozen 2
      have a3 : wr.cell? ⟨w.heap.size, 3, none⟩ = some (.int .i64 pr) := HKr.out.cell 3
      have af3 : wr.frozen? ⟨w.heap.size, 3, none⟩ = false := HKr.out.frozen 3
      have a4 : wr.cell? ⟨w.heap.size, 4, none⟩ = some (.slice pp pn pc) := HKr.out.cell 4
      have af4 : wr.frozen? ⟨w.heap.size, 4, none⟩ = false := HKr.out.frozen 4
      have y0 : wr.cell? ⟨w.heap.size + 1, 0, none⟩ = some (.int .i64 3) := HYr.out.cell 0
      have y1 : wr.cell? ⟨w.heap.size + 1, 1, none⟩ = some (.string dek) := HYr.out.cell 1
      have y2 : wr.cell? ⟨w.heap.size + 1, 2, none⟩ = some (.int .i64 des) := HYr.out.cell 2
      have y3 : wr.cell? ⟨w.heap.size + 1, 3, none⟩ = some (.int .i64 deg) := HYr.out.cell 3
      have y4 : wr.cell? ⟨w.heap.size + 1, 4, none⟩ = some (.int .i64 dec) := HYr.out.cell 4
      have y5 : wr.cell? ⟨w.heap.size + 1, 5, none⟩ = some (.string dkey) := HYr.out.cell 5
      have y6 : wr.cell? ⟨w.heap.size + 1, 6, none⟩ = some (.int .i64 dpg) := HYr.out.cell 6
      have y7 : wr.cell? ⟨w.heap.size + 1, 7, none⟩ = some (.bool dleaf) := HYr.out.cell 7
      have y8 : wr.cell? ⟨w.heap.size + 1, 8, none⟩ = some (.string dlo) := HYr.out.cell 8
      have y9 : wr.cell? ⟨w.heap.size + 1, 9, none⟩ = some (.string dhi) := HYr.out.cell 9
      have y10 : wr.cell? ⟨w.heap.size + 1, 10, none⟩ = some (.int .i64 dr) := HYr.out.cell 10
      have y11 : wr.cell? ⟨w.heap.size + 1, 11, none⟩ = some (.slice dp dn dc) := HYr.out.cell 11
      have b0 : wr.cell? ⟨w.heap.size + 1 + 1, 0, none⟩ = some (.bool false) := HRr.out.cell 0
      have bf0 : wr.frozen? ⟨w.heap.size + 1 + 1, 0, none⟩ = false := HRr.out.frozen 0
      have b1 : wr.cell? ⟨w.heap.size + 1 + 1, 1, none⟩ = some (.string ⟨#[]⟩) := HRr.out.cell 1
      have bf1 : wr.frozen? ⟨w.heap.size + 1 + 1, 1, none⟩ = false := HRr.out.frozen 1
      have b2 : wr.cell? ⟨w.heap.size + 1 + 1, 2, none⟩ = some (.string ⟨#[]⟩) := HRr.out.cell 2
      have bf2 : wr.frozen? ⟨w.heap.size + 1 + 1, 2, none⟩ = false := HRr.out.frozen 2
      have b3 : wr.cell? ⟨w.heap.size + 1 + 1, 3, none⟩ = some (.int .i64 0) := HRr.out.cell 3
      have bf3 : wr.frozen? ⟨w.heap.size + 1 + 1, 3, none⟩ = false := HRr.out.frozen 3
      have b4 : wr.cell? ⟨w.heap.size + 1 + 1, 4, none⟩ = some (.slice none 0 0) := HRr.out.cell 4
      have bf4 : wr.frozen? ⟨w.heap.size + 1 + 1, 4, none⟩ = false := HRr.out.frozen 4
      go_wp2_with fail
      go_region
      go_wp2
      clear a0 af0 a1 af1 a2 af2 a3 af3 a4 af4
      clear y0 y1 y2 y3 y4 y5 y6 y7 y8 y9 y10 y11
      clear b0 bf0 b1 bf1 b2 bf2 b3 bf3 b4 bf4
      have k1 := ((((HRr.out.other (p := ⟨w.heap.size, 4, none⟩) (by simp; try omega) (.slice q9 n9 c9)).other (p := ⟨w.heap.size, 2, none⟩) (by simp; try omega) (.string dkey)).other (p := ⟨w.heap.size, 3, none⟩) (by simp; try omega) (.int .i64 dpg)).five (.bool pf) (.string plo) (.string dkey) (.int .i64 dpg) (.slice q9 n9 c9)).drew
      have ht : Tn [w.heap.size, w.heap.size + 1 + 1] wr _ := ((((Tn.refl _ wr).setCell (p := ⟨w.heap.size, 4, none⟩) (.inl (by simp)) (.slice q9 n9 c9)).setCell (p := ⟨w.heap.size, 2, none⟩) (.inl (by simp)) (.string dkey)).setCell (p := ⟨w.heap.size, 3, none⟩) (.inl (by simp)) (.int .i64 dpg)).five (R := w.heap.size + 1 + 1) (.inl (by simp)) (.bool pf) (.string plo) (.string dkey) (.int .i64 dpg) (.slice q9 n9 c9)
      have hz := (HBr.out.trans (ht.below HBr.out.size (by simp; try omega))).drew
      have he := ((HOE.out.tn ht (by have := HS9.out; simp; omega)).below ((Below.refl _ _).drew) (Nat.le_refl _)).down
      refine bodyPost_ret (results_two (T' := 24) (cs := [.bool pf, .string plo, .string dkey, .int .i64 dpg, .slice q9 n9 c9]) rfl rfl pg_agg pg_size rfl k1) rfl ?_
      exact ⟨_, rfl, ⟨q9, c9, by rw [HN9.out], he⟩, hz⟩

set_option maxHeartbeats 4000000 in
theorem rapply_4 (pf : Bool) (plo phi : ByteArray) (pr : Int) (pp : Option Addr) (pn pc : Nat) (dek : ByteArray) (des deg dec : Int) (dkey : ByteArray) (dpg : Int) (dleaf : Bool) (dlo dhi : ByteArray) (dr : Int) (dp : Option Addr) (dn dc : Nat) (w : World) (hc : ∀ W, Below w.heap.size w W → Calls Tryz.prog 15 #[.agg #[.int .i64 4, .string dek, .int .i64 des, .int .i64 deg, .int .i64 dec, .string dkey, .int .i64 dpg, .bool dleaf, .string dlo, .string dhi, .int .i64 dr, .slice dp dn dc]] W fun e w' => e = .returned (.int .i64 0) ∧ Below W.heap.size W w') (G : Pp) (kk : Int) (hq : ∀ W, Below w.heap.size w W → Calls Tryz.prog 32 #[.agg #[.bool pf, .string plo, .string phi, .int .i64 pr, .slice pp pn pc], .agg #[.bool dleaf, .string dlo, .string dhi, .int .i64 dr, .slice dp dn dc]] W fun e w' => ∃ v, e = .returned (.tuple #[v, .int .i64 kk]) ∧ PgAt w' W.heap.size v G ∧ Below W.heap.size W w') :
    Calls Tryz.prog 10 #[.agg #[.bool pf, .string plo, .string phi, .int .i64 pr, .slice pp pn pc], .agg #[.int .i64 4, .string dek, .int .i64 des, .int .i64 deg, .int .i64 dec, .string dkey, .int .i64 dpg, .bool dleaf, .string dlo, .string dhi, .int .i64 dr, .slice dp dn dc]] w fun e w' => ∃ v, e = .returned (.tuple #[v, .int .i64 kk]) ∧ Pat w' v G ∧ Below w.heap.size w w' := by
  have HQ : Hid _ := hq
  clear hq
  have HC : Hid _ := hc
  clear hc
  obtain ⟨w0, hw0⟩ : ∃ w0, ((w.alloc (.cells #[.bool pf, .string plo, .string phi, .int .i64 pr, .slice pp pn pc] 24)).alloc (.cells #[.int .i64 4, .string dek, .int .i64 des, .int .i64 deg, .int .i64 dec, .string dkey, .int .i64 dpg, .bool dleaf, .string dlo, .string dhi, .int .i64 dr, .slice dp dn dc] 30)).alloc (.cells #[.bool false, .string ⟨#[]⟩, .string ⟨#[]⟩, .int .i64 0, .slice none 0 0] 24) = w0 := ⟨_, rfl⟩
  have HB0 : Hid (Below w.heap.size w w0) := by rw [← hw0]; exact (((Below.refl _ _).alloc (Nat.le_refl _) _).alloc (by simp) _).alloc (by simp; omega) _
  have HK0 : Hid (Bk w0 w.heap.size 24 #[.bool pf, .string plo, .string phi, .int .i64 pr, .slice pp pn pc]) := by rw [← hw0]; exact ((Bk.new _ _ _).alloc _).alloc _
  have HY0 : Hid (Bk w0 (w.heap.size + 1) 30 #[.int .i64 4, .string dek, .int .i64 des, .int .i64 deg, .int .i64 dec, .string dkey, .int .i64 dpg, .bool dleaf, .string dlo, .string dhi, .int .i64 dr, .slice dp dn dc]) := by rw [← hw0]; exact (Bk.new1 _ _ _ _).alloc _
  have HR0 : Hid (Bk w0 (w.heap.size + 1 + 1) 24 #[.bool false, .string ⟨#[]⟩, .string ⟨#[]⟩, .int .i64 0, .slice none 0 0]) := by rw [← hw0]; exact Bk.new2 _ _ _ _ _
  have y0 : w0.cell? ⟨w.heap.size + 1, 0, none⟩ = some (.int .i64 4) := HY0.out.cell 0
  have y1 : w0.cell? ⟨w.heap.size + 1, 1, none⟩ = some (.string dek) := HY0.out.cell 1
  have y2 : w0.cell? ⟨w.heap.size + 1, 2, none⟩ = some (.int .i64 des) := HY0.out.cell 2
  have y3 : w0.cell? ⟨w.heap.size + 1, 3, none⟩ = some (.int .i64 deg) := HY0.out.cell 3
  have y4 : w0.cell? ⟨w.heap.size + 1, 4, none⟩ = some (.int .i64 dec) := HY0.out.cell 4
  have y5 : w0.cell? ⟨w.heap.size + 1, 5, none⟩ = some (.string dkey) := HY0.out.cell 5
  have y6 : w0.cell? ⟨w.heap.size + 1, 6, none⟩ = some (.int .i64 dpg) := HY0.out.cell 6
  have y7 : w0.cell? ⟨w.heap.size + 1, 7, none⟩ = some (.bool dleaf) := HY0.out.cell 7
  have y8 : w0.cell? ⟨w.heap.size + 1, 8, none⟩ = some (.string dlo) := HY0.out.cell 8
  have y9 : w0.cell? ⟨w.heap.size + 1, 9, none⟩ = some (.string dhi) := HY0.out.cell 9
  have y10 : w0.cell? ⟨w.heap.size + 1, 10, none⟩ = some (.int .i64 dr) := HY0.out.cell 10
  have y11 : w0.cell? ⟨w.heap.size + 1, 11, none⟩ = some (.slice dp dn dc) := HY0.out.cell 11
  go_enter Tryz.func10, Tryz.ntmps10
  go_wp2_with fail
  refine (HC.out _ HB0.out).mono ?_
  rintro e w1 ⟨rfl, hb⟩
  clear y0 y1 y2 y3 y4 y5 y6 y7 y8 y9 y10 y11
  clear hw0 HC
  have HB1 : Hid (Below w.heap.size w w1) := HB0.out.trans (hb.mono HB0.out.size)
  have HK1 : Hid (Bk w1 w.heap.size 24 #[.bool pf, .string plo, .string phi, .int .i64 pr, .slice pp pn pc]) := HK0.out.below hb HK0.out.lt
  have HY1 : Hid (Bk w1 (w.heap.size + 1) 30 #[.int .i64 4, .string dek, .int .i64 des, .int .i64 deg, .int .i64 dec, .string dkey, .int .i64 dpg, .bool dleaf, .string dlo, .string dhi, .int .i64 dr, .slice dp dn dc]) := HY0.out.below hb HY0.out.lt
  have HR1 : Hid (Bk w1 (w.heap.size + 1 + 1) 24 #[.bool false, .string ⟨#[]⟩, .string ⟨#[]⟩, .int .i64 0, .slice none 0 0]) := HR0.out.below hb HR0.out.lt
  clear hb HB0 HK0 HY0 HR0
  have a0 : w1.cell? ⟨w.heap.size, 0, none⟩ = some (.bool pf) := HK1.out.cell 0
  have a1 : w1.cell? ⟨w.heap.size, 1, none⟩ = some (.string plo) := HK1.out.cell 1
  have a2 : w1.cell? ⟨w.heap.size, 2, none⟩ = some (.string phi) := HK1.out.cell 2
  have a3 : w1.cell? ⟨w.heap.size, 3, none⟩ = some (.int .i64 pr) := HK1.out.cell 3
  have a4 : w1.cell? ⟨w.heap.size, 4, none⟩ = some (.slice pp pn pc) := HK1.out.cell 4
  have y0 : w1.cell? ⟨w.heap.size + 1, 0, none⟩ = some (.int .i64 4) := HY1.out.cell 0
  have y1 : w1.cell? ⟨w.heap.size + 1, 1, none⟩ = some (.string dek) := HY1.out.cell 1
  have y2 : w1.cell? ⟨w.heap.size + 1, 2, none⟩ = some (.int .i64 des) := HY1.out.cell 2
  have y3 : w1.cell? ⟨w.heap.size + 1, 3, none⟩ = some (.int .i64 deg) := HY1.out.cell 3
  have y4 : w1.cell? ⟨w.heap.size + 1, 4, none⟩ = some (.int .i64 dec) := HY1.out.cell 4
  have y5 : w1.cell? ⟨w.heap.size + 1, 5, none⟩ = some (.string dkey) := HY1.out.cell 5
  have y6 : w1.cell? ⟨w.heap.size + 1, 6, none⟩ = some (.int .i64 dpg) := HY1.out.cell 6
  have y7 : w1.cell? ⟨w.heap.size + 1, 7, none⟩ = some (.bool dleaf) := HY1.out.cell 7
  have y8 : w1.cell? ⟨w.heap.size + 1, 8, none⟩ = some (.string dlo) := HY1.out.cell 8
  have y9 : w1.cell? ⟨w.heap.size + 1, 9, none⟩ = some (.string dhi) := HY1.out.cell 9
  have y10 : w1.cell? ⟨w.heap.size + 1, 10, none⟩ = some (.int .i64 dr) := HY1.out.cell 10
  have y11 : w1.cell? ⟨w.heap.size + 1, 11, none⟩ = some (.slice dp dn dc) := HY1.out.cell 11
  have b0 : w1.cell? ⟨w.heap.size + 1 + 1, 0, none⟩ = some (.bool false) := HR1.out.cell 0
  have bf0 : w1.frozen? ⟨w.heap.size + 1 + 1, 0, none⟩ = false := HR1.out.frozen 0
  have b1 : w1.cell? ⟨w.heap.size + 1 + 1, 1, none⟩ = some (.string ⟨#[]⟩) := HR1.out.cell 1
  have bf1 : w1.frozen? ⟨w.heap.size + 1 + 1, 1, none⟩ = false := HR1.out.frozen 1
  have b2 : w1.cell? ⟨w.heap.size + 1 + 1, 2, none⟩ = some (.string ⟨#[]⟩) := HR1.out.cell 2
  have bf2 : w1.frozen? ⟨w.heap.size + 1 + 1, 2, none⟩ = false := HR1.out.frozen 2
  have b3 : w1.cell? ⟨w.heap.size + 1 + 1, 3, none⟩ = some (.int .i64 0) := HR1.out.cell 3
  have bf3 : w1.frozen? ⟨w.heap.size + 1 + 1, 3, none⟩ = false := HR1.out.frozen 3
  have b4 : w1.cell? ⟨w.heap.size + 1 + 1, 4, none⟩ = some (.slice none 0 0) := HR1.out.cell 4
  have bf4 : w1.frozen? ⟨w.heap.size + 1 + 1, 4, none⟩ = false := HR1.out.frozen 4
  go_wp2_with fail
  refine (HQ.out _ HB1.out).mono ?_
  rintro e w2 ⟨v, rfl, hg, hb⟩
  obtain ⟨Gp, Gc, rfl, hg4⟩ := hg.pv
  obtain ⟨Gf, Glo, Ghi, Gr, Gl⟩ := G
  simp only at hg4 ⊢
  obtain ⟨Gn, hGn⟩ : ∃ Gn, Gl.length = Gn := ⟨_, rfl⟩
  rw [hGn] at hg4 ⊢
  have HG : Hid (PgAt w2 w1.heap.size (pgv Gf Glo Ghi Gr Gp Gn Gc) ⟨Gf, Glo, Ghi, Gr, Gl⟩) := hg4
  have HS : Hid (w.heap.size + 1 + 1 < w1.heap.size) := HR1.out.lt
  clear hg hg4 hGn HQ
  clear a0 a1 a2 a3 a4
  clear y0 y1 y2 y3 y4 y5 y6 y7 y8 y9 y10 y11
  clear b0 bf0 b1 bf1 b2 bf2 b3 bf3 b4 bf4
  have HB2 : Hid (Below w.heap.size w w2) := HB1.out.trans (hb.mono HB1.out.size)
  have HK2 : Hid (Bk w2 w.heap.size 24 #[.bool pf, .string plo, .string phi, .int .i64 pr, .slice pp pn pc]) := HK1.out.below hb HK1.out.lt
  have HY2 : Hid (Bk w2 (w.heap.size + 1) 30 #[.int .i64 4, .string dek, .int .i64 des, .int .i64 deg, .int .i64 dec, .string dkey, .int .i64 dpg, .bool dleaf, .string dlo, .string dhi, .int .i64 dr, .slice dp dn dc]) := HY1.out.below hb HY1.out.lt
  have HR2 : Hid (Bk w2 (w.heap.size + 1 + 1) 24 #[.bool false, .string ⟨#[]⟩, .string ⟨#[]⟩, .int .i64 0, .slice none 0 0]) := HR1.out.below hb HR1.out.lt
  clear hb HB1 HK1 HY1 HR1
  have b0 : w2.cell? ⟨w.heap.size + 1 + 1, 0, none⟩ = some (.bool false) := HR2.out.cell 0
  have bf0 : w2.frozen? ⟨w.heap.size + 1 + 1, 0, none⟩ = false := HR2.out.frozen 0
  have b1 : w2.cell? ⟨w.heap.size + 1 + 1, 1, none⟩ = some (.string ⟨#[]⟩) := HR2.out.cell 1
  have bf1 : w2.frozen? ⟨w.heap.size + 1 + 1, 1, none⟩ = false := HR2.out.frozen 1
  have b2 : w2.cell? ⟨w.heap.size + 1 + 1, 2, none⟩ = some (.string ⟨#[]⟩) := HR2.out.cell 2
  have bf2 : w2.frozen? ⟨w.heap.size + 1 + 1, 2, none⟩ = false := HR2.out.frozen 2
  have b3 : w2.cell? ⟨w.heap.size + 1 + 1, 3, none⟩ = some (.int .i64 0) := HR2.out.cell 3
  have bf3 : w2.frozen? ⟨w.heap.size + 1 + 1, 3, none⟩ = false := HR2.out.frozen 3
  have b4 : w2.cell? ⟨w.heap.size + 1 + 1, 4, none⟩ = some (.slice none 0 0) := HR2.out.cell 4
  have bf4 : w2.frozen? ⟨w.heap.size + 1 + 1, 4, none⟩ = false := HR2.out.frozen 4
  go_wp2
  clear b0 bf0 b1 bf1 b2 bf2 b3 bf3 b4 bf4
  have k1 := HR2.out.five (.bool Gf) (.string Glo) (.string Ghi) (.int .i64 Gr) (.slice Gp Gn Gc)
  have ht : Tn [w.heap.size + 1 + 1] w2 _ := (Tn.refl _ w2).five (R := w.heap.size + 1 + 1) (.inl (by simp)) (.bool Gf) (.string Glo) (.string Ghi) (.int .i64 Gr) (.slice Gp Gn Gc)
  have hz := HB2.out.trans (ht.below HB2.out.size (by simp; omega))
  refine bodyPost_ret (results_two (T' := 24) (cs := [.bool Gf, .string Glo, .string Ghi, .int .i64 Gr, .slice Gp Gn Gc]) rfl rfl pg_agg pg_size rfl k1) rfl ?_
  exact ⟨_, rfl, (HG.out.tn ht (by have := HS.out; simp; omega)).pat, hz⟩

set_option maxHeartbeats 4000000 in
theorem rapply_5 (pf : Bool) (plo phi : ByteArray) (pr : Int) (pp : Option Addr) (pn pc : Nat) (dek : ByteArray) (des deg dec : Int) (dkey : ByteArray) (dpg : Int) (dleaf : Bool) (dlo dhi : ByteArray) (dr : Int) (dp : Option Addr) (dn dc : Nat) (w : World) (hc : ∀ W, Below w.heap.size w W → Calls Tryz.prog 15 #[.agg #[.int .i64 5, .string dek, .int .i64 des, .int .i64 deg, .int .i64 dec, .string dkey, .int .i64 dpg, .bool dleaf, .string dlo, .string dhi, .int .i64 dr, .slice dp dn dc]] W fun e w' => e = .returned (.int .i64 0) ∧ Below W.heap.size W w') :
    Calls Tryz.prog 10 #[.agg #[.bool pf, .string plo, .string phi, .int .i64 pr, .slice pp pn pc], .agg #[.int .i64 5, .string dek, .int .i64 des, .int .i64 deg, .int .i64 dec, .string dkey, .int .i64 dpg, .bool dleaf, .string dlo, .string dhi, .int .i64 dr, .slice dp dn dc]] w fun e w' => ∃ v, e = .returned (.tuple #[v, .int .i64 91]) ∧ Pat w' v ⟨false, ⟨#[]⟩, ⟨#[]⟩, 0, []⟩ ∧ Below w.heap.size w w' := by
  have HC : Hid _ := hc
  clear hc
  obtain ⟨w0, hw0⟩ : ∃ w0, ((w.alloc (.cells #[.bool pf, .string plo, .string phi, .int .i64 pr, .slice pp pn pc] 24)).alloc (.cells #[.int .i64 5, .string dek, .int .i64 des, .int .i64 deg, .int .i64 dec, .string dkey, .int .i64 dpg, .bool dleaf, .string dlo, .string dhi, .int .i64 dr, .slice dp dn dc] 30)).alloc (.cells #[.bool false, .string ⟨#[]⟩, .string ⟨#[]⟩, .int .i64 0, .slice none 0 0] 24) = w0 := ⟨_, rfl⟩
  have HB0 : Hid (Below w.heap.size w w0) := by rw [← hw0]; exact (((Below.refl _ _).alloc (Nat.le_refl _) _).alloc (by simp) _).alloc (by simp; omega) _
  have HK0 : Hid (Bk w0 w.heap.size 24 #[.bool pf, .string plo, .string phi, .int .i64 pr, .slice pp pn pc]) := by rw [← hw0]; exact ((Bk.new _ _ _).alloc _).alloc _
  have HY0 : Hid (Bk w0 (w.heap.size + 1) 30 #[.int .i64 5, .string dek, .int .i64 des, .int .i64 deg, .int .i64 dec, .string dkey, .int .i64 dpg, .bool dleaf, .string dlo, .string dhi, .int .i64 dr, .slice dp dn dc]) := by rw [← hw0]; exact (Bk.new1 _ _ _ _).alloc _
  have HR0 : Hid (Bk w0 (w.heap.size + 1 + 1) 24 #[.bool false, .string ⟨#[]⟩, .string ⟨#[]⟩, .int .i64 0, .slice none 0 0]) := by rw [← hw0]; exact Bk.new2 _ _ _ _ _
  have y0 : w0.cell? ⟨w.heap.size + 1, 0, none⟩ = some (.int .i64 5) := HY0.out.cell 0
  have y1 : w0.cell? ⟨w.heap.size + 1, 1, none⟩ = some (.string dek) := HY0.out.cell 1
  have y2 : w0.cell? ⟨w.heap.size + 1, 2, none⟩ = some (.int .i64 des) := HY0.out.cell 2
  have y3 : w0.cell? ⟨w.heap.size + 1, 3, none⟩ = some (.int .i64 deg) := HY0.out.cell 3
  have y4 : w0.cell? ⟨w.heap.size + 1, 4, none⟩ = some (.int .i64 dec) := HY0.out.cell 4
  have y5 : w0.cell? ⟨w.heap.size + 1, 5, none⟩ = some (.string dkey) := HY0.out.cell 5
  have y6 : w0.cell? ⟨w.heap.size + 1, 6, none⟩ = some (.int .i64 dpg) := HY0.out.cell 6
  have y7 : w0.cell? ⟨w.heap.size + 1, 7, none⟩ = some (.bool dleaf) := HY0.out.cell 7
  have y8 : w0.cell? ⟨w.heap.size + 1, 8, none⟩ = some (.string dlo) := HY0.out.cell 8
  have y9 : w0.cell? ⟨w.heap.size + 1, 9, none⟩ = some (.string dhi) := HY0.out.cell 9
  have y10 : w0.cell? ⟨w.heap.size + 1, 10, none⟩ = some (.int .i64 dr) := HY0.out.cell 10
  have y11 : w0.cell? ⟨w.heap.size + 1, 11, none⟩ = some (.slice dp dn dc) := HY0.out.cell 11
  go_enter Tryz.func10, Tryz.ntmps10
  go_wp2_with fail
  refine (HC.out _ HB0.out).mono ?_
  rintro e w1 ⟨rfl, hb⟩
  clear y0 y1 y2 y3 y4 y5 y6 y7 y8 y9 y10 y11
  clear hw0 HC
  have HB1 : Hid (Below w.heap.size w w1) := HB0.out.trans (hb.mono HB0.out.size)
  have HK1 : Hid (Bk w1 w.heap.size 24 #[.bool pf, .string plo, .string phi, .int .i64 pr, .slice pp pn pc]) := HK0.out.below hb HK0.out.lt
  have HY1 : Hid (Bk w1 (w.heap.size + 1) 30 #[.int .i64 5, .string dek, .int .i64 des, .int .i64 deg, .int .i64 dec, .string dkey, .int .i64 dpg, .bool dleaf, .string dlo, .string dhi, .int .i64 dr, .slice dp dn dc]) := HY0.out.below hb HY0.out.lt
  have HR1 : Hid (Bk w1 (w.heap.size + 1 + 1) 24 #[.bool false, .string ⟨#[]⟩, .string ⟨#[]⟩, .int .i64 0, .slice none 0 0]) := HR0.out.below hb HR0.out.lt
  clear hb HB0 HK0 HY0 HR0
  have a0 : w1.cell? ⟨w.heap.size, 0, none⟩ = some (.bool pf) := HK1.out.cell 0
  have a1 : w1.cell? ⟨w.heap.size, 1, none⟩ = some (.string plo) := HK1.out.cell 1
  have a2 : w1.cell? ⟨w.heap.size, 2, none⟩ = some (.string phi) := HK1.out.cell 2
  have a3 : w1.cell? ⟨w.heap.size, 3, none⟩ = some (.int .i64 pr) := HK1.out.cell 3
  have a4 : w1.cell? ⟨w.heap.size, 4, none⟩ = some (.slice pp pn pc) := HK1.out.cell 4
  have y0 : w1.cell? ⟨w.heap.size + 1, 0, none⟩ = some (.int .i64 5) := HY1.out.cell 0
  have y1 : w1.cell? ⟨w.heap.size + 1, 1, none⟩ = some (.string dek) := HY1.out.cell 1
  have y2 : w1.cell? ⟨w.heap.size + 1, 2, none⟩ = some (.int .i64 des) := HY1.out.cell 2
  have y3 : w1.cell? ⟨w.heap.size + 1, 3, none⟩ = some (.int .i64 deg) := HY1.out.cell 3
  have y4 : w1.cell? ⟨w.heap.size + 1, 4, none⟩ = some (.int .i64 dec) := HY1.out.cell 4
  have y5 : w1.cell? ⟨w.heap.size + 1, 5, none⟩ = some (.string dkey) := HY1.out.cell 5
  have y6 : w1.cell? ⟨w.heap.size + 1, 6, none⟩ = some (.int .i64 dpg) := HY1.out.cell 6
  have y7 : w1.cell? ⟨w.heap.size + 1, 7, none⟩ = some (.bool dleaf) := HY1.out.cell 7
  have y8 : w1.cell? ⟨w.heap.size + 1, 8, none⟩ = some (.string dlo) := HY1.out.cell 8
  have y9 : w1.cell? ⟨w.heap.size + 1, 9, none⟩ = some (.string dhi) := HY1.out.cell 9
  have y10 : w1.cell? ⟨w.heap.size + 1, 10, none⟩ = some (.int .i64 dr) := HY1.out.cell 10
  have y11 : w1.cell? ⟨w.heap.size + 1, 11, none⟩ = some (.slice dp dn dc) := HY1.out.cell 11
  have b0 : w1.cell? ⟨w.heap.size + 1 + 1, 0, none⟩ = some (.bool false) := HR1.out.cell 0
  have bf0 : w1.frozen? ⟨w.heap.size + 1 + 1, 0, none⟩ = false := HR1.out.frozen 0
  have b1 : w1.cell? ⟨w.heap.size + 1 + 1, 1, none⟩ = some (.string ⟨#[]⟩) := HR1.out.cell 1
  have bf1 : w1.frozen? ⟨w.heap.size + 1 + 1, 1, none⟩ = false := HR1.out.frozen 1
  have b2 : w1.cell? ⟨w.heap.size + 1 + 1, 2, none⟩ = some (.string ⟨#[]⟩) := HR1.out.cell 2
  have bf2 : w1.frozen? ⟨w.heap.size + 1 + 1, 2, none⟩ = false := HR1.out.frozen 2
  have b3 : w1.cell? ⟨w.heap.size + 1 + 1, 3, none⟩ = some (.int .i64 0) := HR1.out.cell 3
  have bf3 : w1.frozen? ⟨w.heap.size + 1 + 1, 3, none⟩ = false := HR1.out.frozen 3
  have b4 : w1.cell? ⟨w.heap.size + 1 + 1, 4, none⟩ = some (.slice none 0 0) := HR1.out.cell 4
  have bf4 : w1.frozen? ⟨w.heap.size + 1 + 1, 4, none⟩ = false := HR1.out.frozen 4
  go_wp2
  clear a0 a1 a2 a3 a4
  clear y0 y1 y2 y3 y4 y5 y6 y7 y8 y9 y10 y11
  clear b0 bf0 b1 bf1 b2 bf2 b3 bf3 b4 bf4
  have k1 := HR1.out.five (.bool false) (.string ⟨#[]⟩) (.string ⟨#[]⟩) (.int .i64 0) (.slice none 0 0)
  have ht : Tn [w.heap.size + 1 + 1] w1 _ := (Tn.refl _ w1).five (R := w.heap.size + 1 + 1) (.inl (by simp)) (.bool false) (.string ⟨#[]⟩) (.string ⟨#[]⟩) (.int .i64 0) (.slice none 0 0)
  have hz := HB1.out.trans (ht.below HB1.out.size (by simp; omega))
  refine bodyPost_ret (results_two (T' := 24) (cs := [.bool false, .string ⟨#[]⟩, .string ⟨#[]⟩, .int .i64 0, .slice none 0 0]) rfl rfl pg_agg pg_size rfl k1) rfl ?_
  exact ⟨_, rfl, ⟨none, 0, rfl, Ens.nil _ _⟩, hz⟩

theorem Dl.without_remove (g : Pp) (key : ByteArray) : Dl.without g key = if (Pg.remove g key).2 = 0 then (Pg.remove g key).1 else g := by
  unfold Dl.without Pg.remove
  cases g.l.any (Pg.is key) <;> rfl

theorem rapply_any (g : Pp) (d : De) (pp dp : Option Addr) (pn pc dn dc : Nat) (w : World) (hlen : g.l.length = pn) (hx : Ens w pp g.l) (hl : pn ≤ 3518437208780) (hp : pp = none → pn = 0 ∧ pc = 0) (hcp : pn ≤ pc) (hdn : d.rt.l.length = dn) (hdx : Ens w dp d.rt.l) (hdl : (pn + dn) * 40 ≤ 140737488355328) (hdp : dp = none → dn = 0 ∧ dc = 0) :
    Calls Tryz.prog 10 #[pgv g.leaf g.lo g.hi g.r pp pn pc, dlv d.k d.e d.key d.pg d.rt.leaf d.rt.lo d.rt.hi d.rt.r dp dn dc] w fun e w' => ∃ v, e = .returned (.tuple #[v, .int .i64 (Dl.apply g d).2]) ∧ Pat w' v (Dl.apply g d).1 ∧ Below w.heap.size w w' := by
  have hc := fun (W : World) (h : Below w.heap.size w W) => rdcheck_any d dp dn dc W hdn (hdx.below h (Nat.le_refl _)) (by omega)
  obtain ⟨pf, plo, phi, pr, pl⟩ := g
  obtain ⟨dk, ⟨dek, des, deg, dec⟩, dkey, dpg, ⟨dleaf, dlo, dhi, dr, dl⟩⟩ := d
  simp only at *
  have hh : ∀ t, Ky.inn ⟨plo, phi⟩ dkey = t → ∀ W, Below w.heap.size w W → Calls Tryz.prog 26 #[pgv pf plo phi pr pp pn pc, .string dkey] W fun e w' => e = .returned (.bool t) ∧ Below W.heap.size W w' := by
    intro t ht W _
    have := rhas_any pf plo phi pr pp pn pc W dkey
    rw [ht] at this
    exact this
  cases hm : Dl.may ⟨dk, ⟨dek, des, deg, dec⟩, dkey, dpg, ⟨dleaf, dlo, dhi, dr, dl⟩⟩ with
  | false =>
    rw [hm] at hc
    have ha : Dl.apply ⟨pf, plo, phi, pr, pl⟩ ⟨dk, ⟨dek, des, deg, dec⟩, dkey, dpg, ⟨dleaf, dlo, dhi, dr, dl⟩⟩ = (Pg.zero, 90) := by unfold Dl.apply; rw [hm]; rfl
    rw [ha]
    exact rapply_0 pf plo phi pr pp pn pc dk dek des deg dec dkey dpg dleaf dlo dhi dr dp dn dc w hc
  | true =>
    rw [hm] at hc
    by_cases h1 : dk = 1
    · subst h1
      have ha : Dl.apply ⟨pf, plo, phi, pr, pl⟩ ⟨1, ⟨dek, des, deg, dec⟩, dkey, dpg, ⟨dleaf, dlo, dhi, dr, dl⟩⟩ = Pg.put ⟨pf, plo, phi, pr, pl⟩ ⟨dek, des, deg, dec⟩ := by unfold Dl.apply; rw [if_pos hm, if_pos rfl]
      rw [ha]
      exact rapply_1 pf plo phi pr pp pn pc dek des deg dec dkey dpg dleaf dlo dhi dr dp dn dc w hc _ _ (fun W h => rput_any pf plo phi pr pp pn pc pl ⟨dek, des, deg, dec⟩ W hlen (hx.below h (Nat.le_refl _)) (by omega) hp hcp)
    · by_cases h2 : dk = 2
      · subst h2
        cases hi : Ky.inn ⟨plo, phi⟩ dkey with
        | false =>
          have ha : Dl.apply ⟨pf, plo, phi, pr, pl⟩ ⟨2, ⟨dek, des, deg, dec⟩, dkey, dpg, ⟨dleaf, dlo, dhi, dr, dl⟩⟩ = (Pg.zero, 73) := by unfold Dl.apply; rw [if_pos hm, if_neg h1, if_pos rfl]; simp only [hi]; rfl
          rw [ha]
          exact rapply_2o pf plo phi pr pp pn pc dek des deg dec dkey dpg dleaf dlo dhi dr dp dn dc w hc (hh _ hi)
        | true =>
          have ha : Dl.apply ⟨pf, plo, phi, pr, pl⟩ ⟨2, ⟨dek, des, deg, dec⟩, dkey, dpg, ⟨dleaf, dlo, dhi, dr, dl⟩⟩ = (Dl.without ⟨pf, plo, phi, pr, pl⟩ dkey, 0) := by unfold Dl.apply; rw [if_pos hm, if_neg h1, if_pos rfl]; simp only [hi]; rfl
          rw [ha, Dl.without_remove]
          exact rapply_2 pf plo phi pr pp pn pc dek des deg dec dkey dpg dleaf dlo dhi dr dp dn dc w pl hlen hx hc (hh _ hi) _ _ (fun W h => rremove_any pf plo phi pr pp pn pc pl dkey W hlen (hx.below h (Nat.le_refl _)) (by omega) hcp)
      · by_cases h3 : dk = 3
        · subst h3
          cases hlo : Ky.lt plo dkey with
          | false =>
            have ha : Dl.apply ⟨pf, plo, phi, pr, pl⟩ ⟨3, ⟨dek, des, deg, dec⟩, dkey, dpg, ⟨dleaf, dlo, dhi, dr, dl⟩⟩ = (Pg.zero, 90) := by unfold Dl.apply; rw [if_pos hm, if_neg h1, if_neg h2, if_pos rfl]; simp only [hlo]; rfl
            rw [ha]
            exact rapply_3l pf plo phi pr pp pn pc dek des deg dec dkey dpg dleaf dlo dhi dr dp dn dc w hc hlo
          | true =>
            cases hi : Ky.inn ⟨plo, phi⟩ dkey with
            | false =>
              have ha : Dl.apply ⟨pf, plo, phi, pr, pl⟩ ⟨3, ⟨dek, des, deg, dec⟩, dkey, dpg, ⟨dleaf, dlo, dhi, dr, dl⟩⟩ = (Pg.zero, 90) := by unfold Dl.apply; rw [if_pos hm, if_neg h1, if_neg h2, if_pos rfl]; simp only [hlo, hi]; rfl
              rw [ha]
              exact rapply_3o pf plo phi pr pp pn pc dek des deg dec dkey dpg dleaf dlo dhi dr dp dn dc w hc hlo (hh _ hi)
            | true =>
              have ha : Dl.apply ⟨pf, plo, phi, pr, pl⟩ ⟨3, ⟨dek, des, deg, dec⟩, dkey, dpg, ⟨dleaf, dlo, dhi, dr, dl⟩⟩ = (Dl.upTo ⟨pf, plo, phi, pr, pl⟩ dkey dpg, 0) := by unfold Dl.apply; rw [if_pos hm, if_neg h1, if_neg h2, if_pos rfl]; simp only [hlo, hi]; rfl
              rw [ha]
              exact rapply_3 pf plo phi pr pp pn pc dek des deg dec dkey dpg dleaf dlo dhi dr dp dn dc w pl hlen hx hl hc hlo (hh _ hi)
        · by_cases h4 : dk = 4
          · subst h4
            have ha : Dl.apply ⟨pf, plo, phi, pr, pl⟩ ⟨4, ⟨dek, des, deg, dec⟩, dkey, dpg, ⟨dleaf, dlo, dhi, dr, dl⟩⟩ = Pg.merge ⟨pf, plo, phi, pr, pl⟩ ⟨dleaf, dlo, dhi, dr, dl⟩ := by unfold Dl.apply; rw [if_pos hm, if_neg h1, if_neg h2, if_neg h3, if_pos rfl]
            rw [ha]
            exact rapply_4 pf plo phi pr pp pn pc dek des deg dec dkey dpg dleaf dlo dhi dr dp dn dc w hc _ _ (fun W h => rmerge_any ⟨pf, plo, phi, pr, pl⟩ ⟨dleaf, dlo, dhi, dr, dl⟩ pp dp pn dn pc dc W hlen hdn (hx.below h (Nat.le_refl _)) (hdx.below h (Nat.le_refl _)) hp hdp hdl (by omega))
          · by_cases h5 : dk = 5
            · subst h5
              have ha : Dl.apply ⟨pf, plo, phi, pr, pl⟩ ⟨5, ⟨dek, des, deg, dec⟩, dkey, dpg, ⟨dleaf, dlo, dhi, dr, dl⟩⟩ = (Pg.zero, 91) := by unfold Dl.apply; rw [if_pos hm, if_neg h1, if_neg h2, if_neg h3, if_neg h4]
              rw [ha]
              exact rapply_5 pf plo phi pr pp pn pc dek des deg dec dkey dpg dleaf dlo dhi dr dp dn dc w hc
            · exfalso
              unfold Dl.may Dl.fits at hm
              simp [h1, h2, h3, h4, h5] at hm

end Go.Proofs.YtkmlholjglmfnaaGreat

namespace Go.Proofs.YtkmlholjglmfnaaGreat
open Go.RowKit Go.Sort
set_option linter.unusedVariables false
set_option maxRecDepth 100000

set_option maxHeartbeats 4000000 in
theorem rundo_any (g : Pp) (d : De) (pp dp : Option Addr) (pn pc dn dc : Nat) (w : World) (hlen : g.l.length = pn) (hx : Ens w pp g.l) (hl : pn ≤ 3518437208780) (hp : pp = none → pn = 0 ∧ pc = 0) (hcp : pn ≤ pc) (hdn : d.rt.l.length = dn) (hdx : Ens w dp d.rt.l) (hdl : (pn + dn) * 40 ≤ 140737488355328) (hdp : dp = none → dn = 0 ∧ dc = 0) :
    Calls Tryz.prog 12 #[pgv g.leaf g.lo g.hi g.r pp pn pc, dlv d.k d.e d.key d.pg d.rt.leaf d.rt.lo d.rt.hi d.rt.r dp dn dc] w fun e w' => e = .returned (undone (Dl.undo g d)) ∧ Below w.heap.size w w' := by
  have hq := fun (W : World) (h : Below w.heap.size w W) => rapply_any g d pp dp pn pc dn dc W hlen (hx.below h (Nat.le_refl _)) hl hp hcp hdn (hdx.below h (Nat.le_refl _)) hdl hdp
  obtain ⟨U, HU⟩ : ∃ U, Hid (Dl.undo g d = U) := ⟨_, rfl⟩
  rw [HU.out]
  have HU' : Hid ((if (Dl.apply g d).2 = 0 then if d.k = 1 then some (Dl.restore g d.e.key) else if d.k = 2 then some (Dl.restore g d.key) else none else none) = U) := HU.out
  obtain ⟨⟨G, kk⟩, HO⟩ : ∃ out, Hid (Dl.apply g d = out) := ⟨_, rfl⟩
  rw [HO.out] at HU'
  simp only [HO.out] at hq
  have HQ : Hid _ := hq
  have HX : Hid (Ens w pp g.l) := hx
  have HL : Hid (g.l.length = pn) := hlen
  clear hq hx hlen hdn hdx HO HU
  obtain ⟨pf, plo, phi, pr, pl⟩ := g
  obtain ⟨dk, ⟨dek, des, deg, dec⟩, dkey, dpg, ⟨dleaf, dlo, dhi, dr, dl⟩⟩ := d
  simp only at *
  obtain ⟨w0, hw0⟩ : ∃ w0, ((w.alloc (.cells #[.bool pf, .string plo, .string phi, .int .i64 pr, .slice pp pn pc] 24)).alloc (.cells #[.int .i64 dk, .string dek, .int .i64 des, .int .i64 deg, .int .i64 dec, .string dkey, .int .i64 dpg, .bool dleaf, .string dlo, .string dhi, .int .i64 dr, .slice dp dn dc] 30)).alloc (.cells #[.int .i64 0, .string ⟨#[]⟩, .int .i64 0, .int .i64 0, .int .i64 0, .string ⟨#[]⟩, .int .i64 0, .bool false, .string ⟨#[]⟩, .string ⟨#[]⟩, .int .i64 0, .slice none 0 0] 30) = w0 := ⟨_, rfl⟩
  have HB0 : Hid (Below w.heap.size w w0) := by rw [← hw0]; exact (((Below.refl _ _).alloc (Nat.le_refl _) _).alloc (by simp) _).alloc (by simp; omega) _
  have HK0 : Hid (Bk w0 w.heap.size 24 #[.bool pf, .string plo, .string phi, .int .i64 pr, .slice pp pn pc]) := by rw [← hw0]; exact ((Bk.new _ _ _).alloc _).alloc _
  have HY0 : Hid (Bk w0 (w.heap.size + 1) 30 #[.int .i64 dk, .string dek, .int .i64 des, .int .i64 deg, .int .i64 dec, .string dkey, .int .i64 dpg, .bool dleaf, .string dlo, .string dhi, .int .i64 dr, .slice dp dn dc]) := by rw [← hw0]; exact (Bk.new1 _ _ _ _).alloc _
  have HR0 : Hid (Bk w0 (w.heap.size + 1 + 1) 30 #[.int .i64 0, .string ⟨#[]⟩, .int .i64 0, .int .i64 0, .int .i64 0, .string ⟨#[]⟩, .int .i64 0, .bool false, .string ⟨#[]⟩, .string ⟨#[]⟩, .int .i64 0, .slice none 0 0]) := by rw [← hw0]; exact Bk.new2 _ _ _ _ _
  have a0 : w0.cell? ⟨w.heap.size, 0, none⟩ = some (.bool pf) := HK0.out.cell 0
  have a1 : w0.cell? ⟨w.heap.size, 1, none⟩ = some (.string plo) := HK0.out.cell 1
  have a2 : w0.cell? ⟨w.heap.size, 2, none⟩ = some (.string phi) := HK0.out.cell 2
  have a3 : w0.cell? ⟨w.heap.size, 3, none⟩ = some (.int .i64 pr) := HK0.out.cell 3
  have a4 : w0.cell? ⟨w.heap.size, 4, none⟩ = some (.slice pp pn pc) := HK0.out.cell 4
  have y0 : w0.cell? ⟨w.heap.size + 1, 0, none⟩ = some (.int .i64 dk) := HY0.out.cell 0
  have y1 : w0.cell? ⟨w.heap.size + 1, 1, none⟩ = some (.string dek) := HY0.out.cell 1
  have y2 : w0.cell? ⟨w.heap.size + 1, 2, none⟩ = some (.int .i64 des) := HY0.out.cell 2
  have y3 : w0.cell? ⟨w.heap.size + 1, 3, none⟩ = some (.int .i64 deg) := HY0.out.cell 3
  have y4 : w0.cell? ⟨w.heap.size + 1, 4, none⟩ = some (.int .i64 dec) := HY0.out.cell 4
  have y5 : w0.cell? ⟨w.heap.size + 1, 5, none⟩ = some (.string dkey) := HY0.out.cell 5
  have y6 : w0.cell? ⟨w.heap.size + 1, 6, none⟩ = some (.int .i64 dpg) := HY0.out.cell 6
  have y7 : w0.cell? ⟨w.heap.size + 1, 7, none⟩ = some (.bool dleaf) := HY0.out.cell 7
  have y8 : w0.cell? ⟨w.heap.size + 1, 8, none⟩ = some (.string dlo) := HY0.out.cell 8
  have y9 : w0.cell? ⟨w.heap.size + 1, 9, none⟩ = some (.string dhi) := HY0.out.cell 9
  have y10 : w0.cell? ⟨w.heap.size + 1, 10, none⟩ = some (.int .i64 dr) := HY0.out.cell 10
  have y11 : w0.cell? ⟨w.heap.size + 1, 11, none⟩ = some (.slice dp dn dc) := HY0.out.cell 11
  go_enter Tryz.func12, Tryz.ntmps12
  go_wp2_with fail
  refine (HQ.out _ HB0.out).mono ?_
  rintro e w1 ⟨v, rfl, hg3, hb1⟩
  obtain ⟨Gp, Gc, rfl, -⟩ := hg3.pv
  obtain ⟨Gf, Glo, Ghi, Gr, Gl⟩ := G
  simp only
  obtain ⟨Gn, hGn⟩ : ∃ Gn, Gl.length = Gn := ⟨_, rfl⟩
  rw [hGn]
  have HB1 : Hid (Below w.heap.size w w1) := HB0.out.trans (hb1.mono HB0.out.size)
  have HK1 : Hid (Bk w1 w.heap.size 24 #[.bool pf, .string plo, .string phi, .int .i64 pr, .slice pp pn pc]) := HK0.out.below hb1 HK0.out.lt
  have HY1 : Hid (Bk w1 (w.heap.size + 1) 30 #[.int .i64 dk, .string dek, .int .i64 des, .int .i64 deg, .int .i64 dec, .string dkey, .int .i64 dpg, .bool dleaf, .string dlo, .string dhi, .int .i64 dr, .slice dp dn dc]) := HY0.out.below hb1 HY0.out.lt
  have HR1 : Hid (Bk w1 (w.heap.size + 1 + 1) 30 #[.int .i64 0, .string ⟨#[]⟩, .int .i64 0, .int .i64 0, .int .i64 0, .string ⟨#[]⟩, .int .i64 0, .bool false, .string ⟨#[]⟩, .string ⟨#[]⟩, .int .i64 0, .slice none 0 0]) := HR0.out.below hb1 HR0.out.lt
  clear a0 a1 a2 a3 a4
  clear y0 y1 y2 y3 y4 y5 y6 y7 y8 y9 y10 y11
  clear hb1 hw0 HK0 HY0 HR0 HB0 hg3 hGn HQ
  obtain ⟨w2, hw2⟩ : ∃ w2, w1.alloc (.cells #[.bool Gf, .string Glo, .string Ghi, .int .i64 Gr, .slice Gp Gn Gc] 24) = w2 := ⟨_, rfl⟩
  have hb2 : Below w1.heap.size w1 w2 := by rw [← hw2]; exact (Below.refl _ _).alloc (Nat.le_refl _) _
  have HB2 : Hid (Below w.heap.size w w2) := HB1.out.trans (hb2.mono HB1.out.size)
  have HK2 : Hid (Bk w2 w.heap.size 24 #[.bool pf, .string plo, .string phi, .int .i64 pr, .slice pp pn pc]) := HK1.out.below hb2 HK1.out.lt
  have HY2 : Hid (Bk w2 (w.heap.size + 1) 30 #[.int .i64 dk, .string dek, .int .i64 des, .int .i64 deg, .int .i64 dec, .string dkey, .int .i64 dpg, .bool dleaf, .string dlo, .string dhi, .int .i64 dr, .slice dp dn dc]) := HY1.out.below hb2 HY1.out.lt
  have HR2 : Hid (Bk w2 (w.heap.size + 1 + 1) 30 #[.int .i64 0, .string ⟨#[]⟩, .int .i64 0, .int .i64 0, .int .i64 0, .string ⟨#[]⟩, .int .i64 0, .bool false, .string ⟨#[]⟩, .string ⟨#[]⟩, .int .i64 0, .slice none 0 0]) := HR1.out.below hb2 HR1.out.lt
  clear hb2 HB1 HK1 HY1 HR1
  have a0 : w2.cell? ⟨w.heap.size, 0, none⟩ = some (.bool pf) := HK2.out.cell 0
  have a1 : w2.cell? ⟨w.heap.size, 1, none⟩ = some (.string plo) := HK2.out.cell 1
  have a2 : w2.cell? ⟨w.heap.size, 2, none⟩ = some (.string phi) := HK2.out.cell 2
  have a3 : w2.cell? ⟨w.heap.size, 3, none⟩ = some (.int .i64 pr) := HK2.out.cell 3
  have a4 : w2.cell? ⟨w.heap.size, 4, none⟩ = some (.slice pp pn pc) := HK2.out.cell 4
  have y0 : w2.cell? ⟨w.heap.size + 1, 0, none⟩ = some (.int .i64 dk) := HY2.out.cell 0
  have y1 : w2.cell? ⟨w.heap.size + 1, 1, none⟩ = some (.string dek) := HY2.out.cell 1
  have y2 : w2.cell? ⟨w.heap.size + 1, 2, none⟩ = some (.int .i64 des) := HY2.out.cell 2
  have y3 : w2.cell? ⟨w.heap.size + 1, 3, none⟩ = some (.int .i64 deg) := HY2.out.cell 3
  have y4 : w2.cell? ⟨w.heap.size + 1, 4, none⟩ = some (.int .i64 dec) := HY2.out.cell 4
  have y5 : w2.cell? ⟨w.heap.size + 1, 5, none⟩ = some (.string dkey) := HY2.out.cell 5
  have y6 : w2.cell? ⟨w.heap.size + 1, 6, none⟩ = some (.int .i64 dpg) := HY2.out.cell 6
  have y7 : w2.cell? ⟨w.heap.size + 1, 7, none⟩ = some (.bool dleaf) := HY2.out.cell 7
  have y8 : w2.cell? ⟨w.heap.size + 1, 8, none⟩ = some (.string dlo) := HY2.out.cell 8
  have y9 : w2.cell? ⟨w.heap.size + 1, 9, none⟩ = some (.string dhi) := HY2.out.cell 9
  have y10 : w2.cell? ⟨w.heap.size + 1, 10, none⟩ = some (.int .i64 dr) := HY2.out.cell 10
  have y11 : w2.cell? ⟨w.heap.size + 1, 11, none⟩ = some (.slice dp dn dc) := HY2.out.cell 11
  have b0 : w2.cell? ⟨w.heap.size + 1 + 1, 0, none⟩ = some (.int .i64 0) := HR2.out.cell 0
  have bf0 : w2.frozen? ⟨w.heap.size + 1 + 1, 0, none⟩ = false := HR2.out.frozen 0
  have b1 : w2.cell? ⟨w.heap.size + 1 + 1, 1, none⟩ = some (.string ⟨#[]⟩) := HR2.out.cell 1
  have bf1 : w2.frozen? ⟨w.heap.size + 1 + 1, 1, none⟩ = false := HR2.out.frozen 1
  have b2 : w2.cell? ⟨w.heap.size + 1 + 1, 2, none⟩ = some (.int .i64 0) := HR2.out.cell 2
  have bf2 : w2.frozen? ⟨w.heap.size + 1 + 1, 2, none⟩ = false := HR2.out.frozen 2
  have b3 : w2.cell? ⟨w.heap.size + 1 + 1, 3, none⟩ = some (.int .i64 0) := HR2.out.cell 3
  have bf3 : w2.frozen? ⟨w.heap.size + 1 + 1, 3, none⟩ = false := HR2.out.frozen 3
  have b4 : w2.cell? ⟨w.heap.size + 1 + 1, 4, none⟩ = some (.int .i64 0) := HR2.out.cell 4
  have bf4 : w2.frozen? ⟨w.heap.size + 1 + 1, 4, none⟩ = false := HR2.out.frozen 4
  have b5 : w2.cell? ⟨w.heap.size + 1 + 1, 5, none⟩ = some (.string ⟨#[]⟩) := HR2.out.cell 5
  have bf5 : w2.frozen? ⟨w.heap.size + 1 + 1, 5, none⟩ = false := HR2.out.frozen 5
  have b6 : w2.cell? ⟨w.heap.size + 1 + 1, 6, none⟩ = some (.int .i64 0) := HR2.out.cell 6
  have bf6 : w2.frozen? ⟨w.heap.size + 1 + 1, 6, none⟩ = false := HR2.out.frozen 6
  have b7 : w2.cell? ⟨w.heap.size + 1 + 1, 7, none⟩ = some (.bool false) := HR2.out.cell 7
  have bf7 : w2.frozen? ⟨w.heap.size + 1 + 1, 7, none⟩ = false := HR2.out.frozen 7
  have b8 : w2.cell? ⟨w.heap.size + 1 + 1, 8, none⟩ = some (.string ⟨#[]⟩) := HR2.out.cell 8
  have bf8 : w2.frozen? ⟨w.heap.size + 1 + 1, 8, none⟩ = false := HR2.out.frozen 8
  have b9 : w2.cell? ⟨w.heap.size + 1 + 1, 9, none⟩ = some (.string ⟨#[]⟩) := HR2.out.cell 9
  have bf9 : w2.frozen? ⟨w.heap.size + 1 + 1, 9, none⟩ = false := HR2.out.frozen 9
  have b10 : w2.cell? ⟨w.heap.size + 1 + 1, 10, none⟩ = some (.int .i64 0) := HR2.out.cell 10
  have bf10 : w2.frozen? ⟨w.heap.size + 1 + 1, 10, none⟩ = false := HR2.out.frozen 10
  have b11 : w2.cell? ⟨w.heap.size + 1 + 1, 11, none⟩ = some (.slice none 0 0) := HR2.out.cell 11
  have bf11 : w2.frozen? ⟨w.heap.size + 1 + 1, 11, none⟩ = false := HR2.out.frozen 11
  have HEND : Hid (∀ W, Below w.heap.size w W → Bk W (w.heap.size + 1 + 1) 30 #[.int .i64 0, .string ⟨#[]⟩, .int .i64 0, .int .i64 0, .int .i64 0, .string ⟨#[]⟩, .int .i64 0, .bool false, .string ⟨#[]⟩, .string ⟨#[]⟩, .int .i64 0, .slice none 0 0] → ∀ x0 x1 x2 x3 x4 x5 x6 x7 x8 x9 x10 x11, Bk (put12 W (w.heap.size + 1 + 1) x0 x1 x2 x3 x4 x5 x6 x7 x8 x9 x10 x11) (w.heap.size + 1 + 1) 30 #[x0, x1, x2, x3, x4, x5, x6, x7, x8, x9, x10, x11] ∧ Below w.heap.size w (put12 W (w.heap.size + 1 + 1) x0 x1 x2 x3 x4 x5 x6 x7 x8 x9 x10 x11)) := by
    intro W hW hk x0 x1 x2 x3 x4 x5 x6 x7 x8 x9 x10 x11
    have ht : Tn [w.heap.size + 1 + 1] W _ := (Tn.refl _ W).twelve (R := w.heap.size + 1 + 1) (.inl (by simp)) x0 x1 x2 x3 x4 x5 x6 x7 x8 x9 x10 x11
    exact ⟨hk.twelve _ _ _ _ _ _ _ _ _ _ _ _, hW.trans (ht.below hW.size (by simp; omega))⟩
  by_cases h0 : kk = 0
  · subst h0
    by_cases h1 : dk = 1
    · subst h1
      have HUU : Hid (U = some (Dl.restore ⟨pf, plo, phi, pr, pl⟩ dek)) := by rw [Hid, ← HU'.out, if_pos rfl, if_pos rfl]
      clear HU'
      go_wp2_with fail
      clear hw2
      go_loopw [9] (fun iv wr => ∃ j : Nat, j ≤ pn ∧ iv = .int .i64 j ∧ wr = w2 ∧ Hid (j ≤ pl.findIdx (Pg.is dek))) (fun iv _ => pn - (intOf iv).toNat)
      case atStart => exact ⟨0, Nat.zero_le _, rfl, by trivial, Nat.zero_le _⟩
      case round =>
        obtain ⟨j, hj, rfl, rfl, HF⟩ := hrel
        by_cases hlt : j < pn
        · have hli : (j : Int) < (pn : Int) := by omega
          have hj0 : (0 : Int) ≤ (j : Int) := by omega
          obtain ⟨b, o, x, rfl, hgx, -, x0, x1, x2, x3⟩ := (HX.out.below HB2.out (Nat.le_refl _)).at (j := j) (by have := HL.out; omega)
          obtain ⟨xk, xs, xg, xc⟩ := x
          simp only at x0 x1 x2 x3
          have HG : Hid (pl[j]? = some ⟨xk, xs, xg, xc⟩) := hgx
          clear hgx
          cases hq : Pg.is dek ⟨xk, xs, xg, xc⟩ with
          | true =>
            have hqs : (xk.toList == dek.toList) = true := hq
            have HV : Hid (U = some ⟨1, ⟨xk, xs, xg, xc⟩, ⟨#[]⟩, 0, Pg.zero⟩) := by
              rw [Hid, HUU.out]
              unfold Dl.restore
              rw [Pg.find_idx, any_hit HG.out hq, findIdx_hit HF.out HG.out hq, if_pos rfl]
              simp only [HG.out]
            clear hq HUU
            go_wp2
            clear a0 a1 a2 a3 a4
            clear y0 y1 y2 y3 y4 y5 y6 y7 y8 y9 y10 y11
            clear b0 bf0 b1 bf1 b2 bf2 b3 bf3 b4 bf4 b5 bf5 b6 bf6 b7 bf7 b8 bf8 b9 bf9 b10 bf10 b11 bf11
            have k1 := HEND.out wr HB2.out HR2.out (.int .i64 1) (.string xk) (.int .i64 xs) (.int .i64 xg) (.int .i64 xc) (.string ⟨#[]⟩) (.int .i64 0) (.bool false) (.string ⟨#[]⟩) (.string ⟨#[]⟩) (.int .i64 0) (.slice none 0 0)
            refine bodyPost_ret (results_two (T' := 30) (cs := [.int .i64 1, .string xk, .int .i64 xs, .int .i64 xg, .int .i64 xc, .string ⟨#[]⟩, .int .i64 0, .bool false, .string ⟨#[]⟩, .string ⟨#[]⟩, .int .i64 0, .slice none 0 0]) rfl rfl dl_agg dl_size rfl k1.1) rfl ?_
            exact ⟨by rw [HV.out]; rfl, k1.2⟩
          | false =>
            have hqs : (xk.toList == dek.toList) = false := hq
            have HF2 : Hid (j + 1 ≤ pl.findIdx (Pg.is dek)) := findIdx_miss HF.out HG.out hq
            clear hq
            go_wp2
            go_roundw
            case rel => exact ⟨j + 1, by omega, by go_num, by trivial, HF2⟩
            case measure => simp [intOf]; omega
        · have hje : pn = j := by omega
          have hni : ¬ (j : Int) < (pn : Int) := by omega
          have HV : Hid (U = some ⟨2, En.zero, dek, 0, Pg.zero⟩) := by
            rw [Hid, HUU.out]
            unfold Dl.restore
            have hnone : pl.any (Pg.is dek) = false := findIdx_none (by have := HF.out; have h2 : pl.length = _ := HL.out; omega)
            rw [Pg.find_idx]
            simp only [hnone]
            rfl
          clear HUU
          go_wp2
          clear a0 a1 a2 a3 a4
          clear y0 y1 y2 y3 y4 y5 y6 y7 y8 y9 y10 y11
          clear b0 bf0 b1 bf1 b2 bf2 b3 bf3 b4 bf4 b5 bf5 b6 bf6 b7 bf7 b8 bf8 b9 bf9 b10 bf10 b11 bf11
          have k1 := HEND.out wr HB2.out HR2.out (.int .i64 2) (.string ⟨#[]⟩) (.int .i64 0) (.int .i64 0) (.int .i64 0) (.string dek) (.int .i64 0) (.bool false) (.string ⟨#[]⟩) (.string ⟨#[]⟩) (.int .i64 0) (.slice none 0 0)
          refine bodyPost_ret (results_two (T' := 30) (cs := [.int .i64 2, .string ⟨#[]⟩, .int .i64 0, .int .i64 0, .int .i64 0, .string dek, .int .i64 0, .bool false, .string ⟨#[]⟩, .string ⟨#[]⟩, .int .i64 0, .slice none 0 0]) rfl rfl dl_agg dl_size rfl k1.1) rfl ?_
          exact ⟨by rw [HV.out]; rfl, k1.2⟩
    · by_cases h2 : dk = 2
      · subst h2
        have HUU : Hid (U = some (Dl.restore ⟨pf, plo, phi, pr, pl⟩ dkey)) := by rw [Hid, ← HU'.out, if_pos rfl, if_neg h1, if_pos rfl]
        clear HU'
        go_wp2_with fail
        clear hw2
        go_loopw [9] (fun iv wr => ∃ j : Nat, j ≤ pn ∧ iv = .int .i64 j ∧ wr = w2 ∧ Hid (j ≤ pl.findIdx (Pg.is dkey))) (fun iv _ => pn - (intOf iv).toNat)
        case atStart => exact ⟨0, Nat.zero_le _, rfl, by trivial, Nat.zero_le _⟩
        case round =>
          obtain ⟨j, hj, rfl, rfl, HF⟩ := hrel
          by_cases hlt : j < pn
          · have hli : (j : Int) < (pn : Int) := by omega
            have hj0 : (0 : Int) ≤ (j : Int) := by omega
            obtain ⟨b, o, x, rfl, hgx, -, x0, x1, x2, x3⟩ := (HX.out.below HB2.out (Nat.le_refl _)).at (j := j) (by have := HL.out; omega)
            obtain ⟨xk, xs, xg, xc⟩ := x
            simp only at x0 x1 x2 x3
            have HG : Hid (pl[j]? = some ⟨xk, xs, xg, xc⟩) := hgx
            clear hgx
            cases hq : Pg.is dkey ⟨xk, xs, xg, xc⟩ with
            | true =>
              have hqs : (xk.toList == dkey.toList) = true := hq
              have HV : Hid (U = some ⟨1, ⟨xk, xs, xg, xc⟩, ⟨#[]⟩, 0, Pg.zero⟩) := by
                rw [Hid, HUU.out]
                unfold Dl.restore
                rw [Pg.find_idx, any_hit HG.out hq, findIdx_hit HF.out HG.out hq, if_pos rfl]
                simp only [HG.out]
              clear hq HUU
              go_wp2
              clear a0 a1 a2 a3 a4
              clear y0 y1 y2 y3 y4 y5 y6 y7 y8 y9 y10 y11
              clear b0 bf0 b1 bf1 b2 bf2 b3 bf3 b4 bf4 b5 bf5 b6 bf6 b7 bf7 b8 bf8 b9 bf9 b10 bf10 b11 bf11
              have k1 := HEND.out wr HB2.out HR2.out (.int .i64 1) (.string xk) (.int .i64 xs) (.int .i64 xg) (.int .i64 xc) (.string ⟨#[]⟩) (.int .i64 0) (.bool false) (.string ⟨#[]⟩) (.string ⟨#[]⟩) (.int .i64 0) (.slice none 0 0)
              refine bodyPost_ret (results_two (T' := 30) (cs := [.int .i64 1, .string xk, .int .i64 xs, .int .i64 xg, .int .i64 xc, .string ⟨#[]⟩, .int .i64 0, .bool false, .string ⟨#[]⟩, .string ⟨#[]⟩, .int .i64 0, .slice none 0 0]) rfl rfl dl_agg dl_size rfl k1.1) rfl ?_
              exact ⟨by rw [HV.out]; rfl, k1.2⟩
            | false =>
              have hqs : (xk.toList == dkey.toList) = false := hq
              have HF2 : Hid (j + 1 ≤ pl.findIdx (Pg.is dkey)) := findIdx_miss HF.out HG.out hq
              clear hq
              go_wp2
              go_roundw
              case rel => exact ⟨j + 1, by omega, by go_num, by trivial, HF2⟩
              case measure => simp [intOf]; omega
          · have hje : pn = j := by omega
            have hni : ¬ (j : Int) < (pn : Int) := by omega
            have HV : Hid (U = some ⟨2, En.zero, dkey, 0, Pg.zero⟩) := by
              rw [Hid, HUU.out]
              unfold Dl.restore
              have hnone : pl.any (Pg.is dkey) = false := findIdx_none (by have := HF.out; have h2 : pl.length = _ := HL.out; omega)
              rw [Pg.find_idx]
              simp only [hnone]
              rfl
            clear HUU
            go_wp2
            clear a0 a1 a2 a3 a4
            clear y0 y1 y2 y3 y4 y5 y6 y7 y8 y9 y10 y11
            clear b0 bf0 b1 bf1 b2 bf2 b3 bf3 b4 bf4 b5 bf5 b6 bf6 b7 bf7 b8 bf8 b9 bf9 b10 bf10 b11 bf11
            have k1 := HEND.out wr HB2.out HR2.out (.int .i64 2) (.string ⟨#[]⟩) (.int .i64 0) (.int .i64 0) (.int .i64 0) (.string dkey) (.int .i64 0) (.bool false) (.string ⟨#[]⟩) (.string ⟨#[]⟩) (.int .i64 0) (.slice none 0 0)
            refine bodyPost_ret (results_two (T' := 30) (cs := [.int .i64 2, .string ⟨#[]⟩, .int .i64 0, .int .i64 0, .int .i64 0, .string dkey, .int .i64 0, .bool false, .string ⟨#[]⟩, .string ⟨#[]⟩, .int .i64 0, .slice none 0 0]) rfl rfl dl_agg dl_size rfl k1.1) rfl ?_
            exact ⟨by rw [HV.out]; rfl, k1.2⟩
      · have hU : U = none := by rw [← HU'.out, if_pos rfl, if_neg h1, if_neg h2]
        subst hU
        go_wp2
        clear a0 a1 a2 a3 a4
        clear y0 y1 y2 y3 y4 y5 y6 y7 y8 y9 y10 y11
        clear b0 bf0 b1 bf1 b2 bf2 b3 bf3 b4 bf4 b5 bf5 b6 bf6 b7 bf7 b8 bf8 b9 bf9 b10 bf10 b11 bf11
        clear hw2
        have k1 := HEND.out w2 HB2.out HR2.out (.int .i64 0) (.string ⟨#[]⟩) (.int .i64 0) (.int .i64 0) (.int .i64 0) (.string ⟨#[]⟩) (.int .i64 0) (.bool false) (.string ⟨#[]⟩) (.string ⟨#[]⟩) (.int .i64 0) (.slice none 0 0)
        refine bodyPost_ret (results_two (T' := 30) (cs := [.int .i64 0, .string ⟨#[]⟩, .int .i64 0, .int .i64 0, .int .i64 0, .string ⟨#[]⟩, .int .i64 0, .bool false, .string ⟨#[]⟩, .string ⟨#[]⟩, .int .i64 0, .slice none 0 0]) rfl rfl dl_agg dl_size rfl k1.1) rfl ?_
        exact ⟨rfl, k1.2⟩
  · have hU : U = none := by rw [← HU'.out, if_neg h0]
    subst hU
    go_wp2
    clear a0 a1 a2 a3 a4
    clear y0 y1 y2 y3 y4 y5 y6 y7 y8 y9 y10 y11
    clear b0 bf0 b1 bf1 b2 bf2 b3 bf3 b4 bf4 b5 bf5 b6 bf6 b7 bf7 b8 bf8 b9 bf9 b10 bf10 b11 bf11
    clear hw2
    have k1 := HEND.out w2 HB2.out HR2.out (.int .i64 0) (.string ⟨#[]⟩) (.int .i64 0) (.int .i64 0) (.int .i64 0) (.string ⟨#[]⟩) (.int .i64 0) (.bool false) (.string ⟨#[]⟩) (.string ⟨#[]⟩) (.int .i64 0) (.slice none 0 0)
    refine bodyPost_ret (results_two (T' := 30) (cs := [.int .i64 0, .string ⟨#[]⟩, .int .i64 0, .int .i64 0, .int .i64 0, .string ⟨#[]⟩, .int .i64 0, .bool false, .string ⟨#[]⟩, .string ⟨#[]⟩, .int .i64 0, .slice none 0 0]) rfl rfl dl_agg dl_size rfl k1.1) rfl ?_
    exact ⟨rfl, k1.2⟩

end Go.Proofs.YtkmlholjglmfnaaGreat

namespace Go.Proofs.YtkmlholjglmfnaaGreat
open Go.ChangeShapes Go.WideShapes Go.ChangeAt Go.RowKit
open Go.ChangeMaps (open_string shut_string)
set_option linter.unusedVariables false
set_option maxRecDepth 100000

theorem own : ownKnob Tryz.prog.godebug = none := by kernel_rfl
theorem laidOut : laidOutB Tryz.prog = true := by kernel_rfl

theorem list2 {α : Type} {l : List α} (h : l.length = 2) : ∃ a b, l = [a, b] := by
  match l, h with
  | [a, b], _ => exact ⟨a, b, rfl⟩
theorem list3 {α : Type} {l : List α} (h : l.length = 3) : ∃ a b c, l = [a, b, c] := by
  match l, h with
  | [a, b, c], _ => exact ⟨a, b, c, rfl⟩
theorem list4 {α : Type} {l : List α} (h : l.length = 4) : ∃ a b c d, l = [a, b, c, d] := by
  match l, h with
  | [a, b, c, d], _ => exact ⟨a, b, c, d, rfl⟩
theorem list5 {α : Type} {l : List α} (h : l.length = 5) : ∃ a b c d e, l = [a, b, c, d, e] := by
  match l, h with
  | [a, b, c, d, e], _ => exact ⟨a, b, c, d, e, rfl⟩

theorem rcells_at {W : World} {a : Addr} {n : Nat} {cs : List Value} (h : W.cells? 0 a n = some cs) : ∀ j v, cs[j]? = some v → W.cell? (a.add j) = some v := by
  obtain ⟨_, hl, hc⟩ := World.cells?_some h
  intro j v hv
  have hj : j < n := by
    have := (List.getElem?_eq_some_iff.1 hv).1
    omega
  exact (hc j hj).trans hv

/-- A slice of entries that came in. -/
structure InE (M : Nat) (w : World) (p : Option Addr) (len cap : Nat) (l : List En) : Prop where
  lenq : l.length = len
  ens : Ens w p l
  room : len ≤ M
  nil : p = none → len = 0 ∧ cap = 0
  keys : ∀ e ∈ l, e.key.size ≤ 140737488351232
  le : len ≤ cap

section
variable {H : Type} {enc : TypeId × Value → H} {W : World} {fuel : Nat} {cs : List Value} {x : DataW H × List MemPlace}

theorem in_hnd (hf : DataW.trod enc Tryz.prog W 0 (fun _ => true) true fuel 26 cs = some x) : ∃ s g : Int, cs = [.int .i64 s, .int .i64 g] := by
  obtain ⟨ys, n, -, rfl, hlen, hys, hall⟩ := DataW.trod_struct Tryz.underlying26 hf
  have eT : Tryz.prog.cellsOf 26 = 2 := by kernel_rfl
  rw [eT] at hlen
  obtain ⟨c0, c1, rfl⟩ := list2 hlen
  obtain ⟨y0, y1, rfl⟩ := list2 (l := ys) hys
  have h0 : DataW.trod enc Tryz.prog W 0 (fun _ => true) true n 3 [c0] = some y0 := by
    have h : DataW.trod enc Tryz.prog W 0 (fun _ => true) true n 3 (List.take (Tryz.prog.cellsOf 3) (List.drop 0 [c0, c1])) = some y0 := hall 0 _ rfl
    rw [show Tryz.prog.cellsOf 3 = 1 by kernel_rfl] at h
    exact h
  have h1 : DataW.trod enc Tryz.prog W 0 (fun _ => true) true n 2 [c1] = some y1 := by
    have h : DataW.trod enc Tryz.prog W 0 (fun _ => true) true n 2 (List.take (Tryz.prog.cellsOf 2) (List.drop 1 [c0, c1])) = some y1 := hall 1 _ rfl
    rw [show Tryz.prog.cellsOf 2 = 1 by kernel_rfl] at h
    exact h
  obtain ⟨v0, q0, _, w0⟩ := DataW.trod_int Tryz.underlying3 h0
  obtain ⟨v1, q1, _, w1⟩ := DataW.trod_int Tryz.underlying2 h1
  simp only [List.cons.injEq, and_true] at q0 q1
  subst q0 q1
  exact ⟨v0, v1, rfl⟩

theorem in_en (hf : DataW.trod enc Tryz.prog W 0 (fun _ => true) true fuel 28 cs = some x) : ∃ e : En, cs = e.cells ∧ ∃ r, x.1 = .agg (.lit (.string e.key.data.toList) :: r) := by
  obtain ⟨ys, n, -, rfl, hlen, hys, hall⟩ := DataW.trod_struct Tryz.underlying28 hf
  have eT : Tryz.prog.cellsOf 28 = 4 := by kernel_rfl
  rw [eT] at hlen
  obtain ⟨c0, c1, c2, c3, rfl⟩ := list4 hlen
  obtain ⟨y0, y1, y2, rfl⟩ := list3 (l := ys) hys
  have h0 : DataW.trod enc Tryz.prog W 0 (fun _ => true) true n 9 [c0] = some y0 := by
    have h : DataW.trod enc Tryz.prog W 0 (fun _ => true) true n 9 (List.take (Tryz.prog.cellsOf 9) (List.drop 0 [c0, c1, c2, c3])) = some y0 := hall 0 _ rfl
    rw [show Tryz.prog.cellsOf 9 = 1 by kernel_rfl] at h
    exact h
  have h1 : DataW.trod enc Tryz.prog W 0 (fun _ => true) true n 26 [c1, c2] = some y1 := by
    have h : DataW.trod enc Tryz.prog W 0 (fun _ => true) true n 26 (List.take (Tryz.prog.cellsOf 26) (List.drop 1 [c0, c1, c2, c3])) = some y1 := hall 1 _ rfl
    rw [show Tryz.prog.cellsOf 26 = 2 by kernel_rfl] at h
    exact h
  have h2 : DataW.trod enc Tryz.prog W 0 (fun _ => true) true n 3 [c3] = some y2 := by
    have h : DataW.trod enc Tryz.prog W 0 (fun _ => true) true n 3 (List.take (Tryz.prog.cellsOf 3) (List.drop 3 [c0, c1, c2, c3])) = some y2 := hall 2 _ rfl
    rw [show Tryz.prog.cellsOf 3 = 1 by kernel_rfl] at h
    exact h
  obtain ⟨v0, q0, e0, _⟩ := DataW.trod_string Tryz.underlying9 h0
  obtain ⟨s, g, q1⟩ := in_hnd h1
  obtain ⟨v2, q2, _, _⟩ := DataW.trod_int Tryz.underlying3 h2
  simp only [List.cons.injEq, and_true] at q0 q1 q2
  obtain ⟨rfl, rfl⟩ := q1
  subst q0 q2
  refine ⟨⟨v0, s, g, v2⟩, rfl, [y1.1, y2.1], ?_⟩
  rw [e0]
  rfl

theorem in_ens {M : Nat} {a : Option Addr} {len cap : Nat} (hf : DataW.trod enc Tryz.prog W 0 (fun _ => true) true fuel 22 [.slice a len cap] = some x)
    (hB : ∀ elems spare, x.1 = .slice elems spare → elems.length + spare.length ≤ M ∧ ∀ y ∈ elems, ∀ k r, y = .agg (.lit (.string k) :: r) → k.length ≤ 140737488351232) : ∃ l, InE M W a len cap l := by
  have e2 : Tryz.prog.cellsOf 28 = 4 := by kernel_rfl
  rcases Go.Deep.open_slice Tryz.underlying22 hf with ⟨hcs, _⟩ | ⟨x', l, c, m, n, D, Pl, hcs, _, hl, hm, hmm, hx, hall⟩
  · simp at hcs
    obtain ⟨rfl, rfl, rfl⟩ := hcs
    exact ⟨[], rfl, Ens.nil _ _, Nat.zero_le _, fun _ => ⟨rfl, rfl⟩, by simp, Nat.le_refl _⟩
  · simp at hcs
    obtain ⟨rfl, rfl, rfl⟩ := hcs
    simp only [if_true] at hmm
    subst hmm
    rw [e2] at hall
    have hx1 := congrArg Prod.fst hx
    simp only at hx1
    obtain ⟨hr1, hr2⟩ := hB _ _ hx1
    have hroom : len ≤ M := by
      simp at hr1
      omega
    haveI : Inhabited En := ⟨En.zero⟩
    obtain ⟨G, hG⟩ := Go.Deep.choose_lt (n := len) (α := En) (p := fun i g => W.cells? 0 (x'.add (i * 4)) 4 = some g.cells ∧ g.key.size ≤ 140737488351232) (fun i hi => by
      obtain ⟨cs, h1, h2⟩ := hall i (by omega)
      obtain ⟨g, rfl, r, hr⟩ := in_en h2
      refine ⟨g, h1, ?_⟩
      have := hr2 (D i) (List.mem_map.2 ⟨i, List.mem_range.2 hi, rfl⟩) _ _ hr
      rwa [Array.length_toList] at this)
    refine ⟨(List.range len).map G, by simp, fun hpos => ?_, hroom, (fun h => by cases h), ?_, hl⟩
    · have hpos' : 0 < len := by simpa using hpos
      have h0 := rcells_at (hG 0 hpos').1 0 _ rfl
      obtain ⟨b, off, spot⟩ := x'
      have hspot : spot = none := by
        have := World.cell?_spot h0
        simpa [Addr.add] using this
      subst hspot
      refine ⟨b, off, rfl, fun i g hi => ?_⟩
      have hil : i < len := by
        have := (List.getElem?_eq_some_iff.1 hi).1
        simpa using this
      have hg : g = G i := by simpa [hil] using hi.symm
      subst hg
      have c0 := rcells_at (hG i hil).1 0 _ rfl
      have c1 := rcells_at (hG i hil).1 1 _ rfl
      have c2 := rcells_at (hG i hil).1 2 _ rfl
      have c3 := rcells_at (hG i hil).1 3 _ rfl
      rw [Addr.add_lit, Addr.add_lit] at c0 c1 c2 c3
      exact ⟨c0, c1, c2, c3⟩
    · intro g hg
      obtain ⟨i, hi, rfl⟩ := List.mem_map.1 hg
      exact (hG i (List.mem_range.1 hi)).2

theorem weights_all {e : TypeId} {d : DataW H} {n : Nat} : ∀ {l : List (DataW H)}, d ∈ l → n ∈ d.weights Tryz.prog e → n ∈ DataW.weightsAll Tryz.prog e l
  | y :: r, hd, hn => by
    simp only [DataW.weightsAll, List.mem_append]
    rcases List.mem_cons.1 hd with rfl | hd
    · exact .inl hn
    · exact .inr (weights_all hd hn)

theorem in_page {M : Nat} (hf : DataW.trod enc Tryz.prog W 0 (fun _ => true) true fuel 24 cs = some x)
    (hB : ∀ y0 y1 y2 y3 elems spare, x.1 = .agg [y0, y1, y2, y3, .slice elems spare] → elems.length + spare.length ≤ M ∧ ∀ y ∈ elems, ∀ k r, y = .agg (.lit (.string k) :: r) → k.length ≤ 140737488351232) :
    ∃ leaf lo hi r a len cap l, cs = [.bool leaf, .string lo, .string hi, .int .i64 r, .slice a len cap] ∧ InE M W a len cap l := by
  obtain ⟨ys, n, -, rfl, hlen, hys, hall⟩ := DataW.trod_struct Tryz.underlying24 hf
  have eT : Tryz.prog.cellsOf 24 = 5 := by kernel_rfl
  rw [eT] at hlen
  obtain ⟨c0, c1, c2, c3, c4, rfl⟩ := list5 hlen
  obtain ⟨y0, y1, y2, y3, y4, rfl⟩ := list5 (l := ys) hys
  have h0 : DataW.trod enc Tryz.prog W 0 (fun _ => true) true n 4 [c0] = some y0 := by
    have h : DataW.trod enc Tryz.prog W 0 (fun _ => true) true n 4 (List.take (Tryz.prog.cellsOf 4) (List.drop 0 [c0, c1, c2, c3, c4])) = some y0 := hall 0 _ rfl
    rw [show Tryz.prog.cellsOf 4 = 1 by kernel_rfl] at h
    exact h
  have h1 : DataW.trod enc Tryz.prog W 0 (fun _ => true) true n 9 [c1] = some y1 := by
    have h : DataW.trod enc Tryz.prog W 0 (fun _ => true) true n 9 (List.take (Tryz.prog.cellsOf 9) (List.drop 1 [c0, c1, c2, c3, c4])) = some y1 := hall 1 _ rfl
    rw [show Tryz.prog.cellsOf 9 = 1 by kernel_rfl] at h
    exact h
  have h2 : DataW.trod enc Tryz.prog W 0 (fun _ => true) true n 9 [c2] = some y2 := by
    have h : DataW.trod enc Tryz.prog W 0 (fun _ => true) true n 9 (List.take (Tryz.prog.cellsOf 9) (List.drop 2 [c0, c1, c2, c3, c4])) = some y2 := hall 2 _ rfl
    rw [show Tryz.prog.cellsOf 9 = 1 by kernel_rfl] at h
    exact h
  have h3 : DataW.trod enc Tryz.prog W 0 (fun _ => true) true n 3 [c3] = some y3 := by
    have h : DataW.trod enc Tryz.prog W 0 (fun _ => true) true n 3 (List.take (Tryz.prog.cellsOf 3) (List.drop 3 [c0, c1, c2, c3, c4])) = some y3 := hall 3 _ rfl
    rw [show Tryz.prog.cellsOf 3 = 1 by kernel_rfl] at h
    exact h
  have h4 : DataW.trod enc Tryz.prog W 0 (fun _ => true) true n 22 [c4] = some y4 := by
    have h : DataW.trod enc Tryz.prog W 0 (fun _ => true) true n 22 (List.take (Tryz.prog.cellsOf 22) (List.drop 4 [c0, c1, c2, c3, c4])) = some y4 := hall 4 _ rfl
    rw [show Tryz.prog.cellsOf 22 = 1 by kernel_rfl] at h
    exact h
  obtain ⟨v0, q0, _⟩ := DataW.trod_bool Tryz.underlying4 h0
  obtain ⟨v1, q1, _, _⟩ := DataW.trod_string Tryz.underlying9 h1
  obtain ⟨v2, q2, _, _⟩ := DataW.trod_string Tryz.underlying9 h2
  obtain ⟨v3, q3, _, _⟩ := DataW.trod_int Tryz.underlying3 h3
  obtain ⟨a, len, cap, q4⟩ : ∃ a len cap, c4 = .slice a len cap := by
    rcases Go.Deep.open_slice Tryz.underlying22 h4 with ⟨hcs, _⟩ | ⟨x', l, c, m, n, D, Pl, hcs, _⟩
    · simp at hcs; exact ⟨_, _, _, hcs⟩
    · simp at hcs; exact ⟨_, _, _, hcs⟩
  simp only [List.cons.injEq, and_true] at q0 q1 q2 q3
  subst q0 q1 q2 q3 q4
  obtain ⟨l, hl⟩ := in_ens (M := M) h4 (fun elems spare he => hB y0.1 y1.1 y2.1 y3.1 elems spare (by simp [he]))
  exact ⟨v0, v1, v2, v3, a, len, cap, l, rfl, hl⟩

theorem page_said {M : Nat} (hM : 3518437208780 ≤ M) (hW : ∀ n ∈ x.1.weights Tryz.prog 24, n ≤ 140737488351232) :
    ∀ y0 y1 y2 y3 elems spare, x.1 = .agg [y0, y1, y2, y3, .slice elems spare] → elems.length + spare.length ≤ M ∧ ∀ y ∈ elems, ∀ k r, y = .agg (.lit (.string k) :: r) → k.length ≤ 140737488351232 := by
  intro y0 y1 y2 y3 elems spare e
  have e40 : Tryz.prog.bytesOf 28 = 40 := by kernel_rfl
  have hin : ∀ n ∈ DataW.weights Tryz.prog 22 (.slice elems spare), n ∈ x.1.weights Tryz.prog 24 := by
    intro n hn
    rw [e, DataW.weights, Tryz.underlying24]
    simp [DataW.weightsEach]
    simp [hn]
  refine ⟨?_, fun y hy k r hk => ?_⟩
  · have := hW _ (hin ((elems.length + spare.length) * Tryz.prog.bytesOf 28) (by rw [DataW.weights, Tryz.underlying22]; simp))
    rw [e40] at this
    omega
  · refine hW _ (hin k.length ?_)
    rw [DataW.weights, Tryz.underlying22]
    simp only [List.mem_cons, List.mem_append]
    refine .inr (.inl (weights_all hy ?_))
    rw [hk, DataW.weights, Tryz.underlying28]
    simp [DataW.weightsEach, DataW.weights]
end

end Go.Proofs.YtkmlholjglmfnaaGreat

namespace Go.Proofs.YtkmlholjglmfnaaGreat
open Go.ChangeShapes Go.WideShapes Go.ChangeAt Go.RowKit
set_option linter.unusedVariables false
set_option maxRecDepth 100000

theorem bulk_one {H : Type} (d : DataW H) : 1 ≤ Rows.uptoBulk d := by
  cases d with
  | lit l => cases l <;> simp [Rows.uptoBulk]
  | nil => simp [Rows.uptoBulk]
  | ptr d => simp [Rows.uptoBulk]
  | slice elems spare => simp [Rows.uptoBulk]
  | agg parts => simp [Rows.uptoBulk]
  | iface t d => simp [Rows.uptoBulk]
  | map entries => simp [Rows.uptoBulk]
  | held h => simp [Rows.uptoBulk]

theorem bulk_length {H : Type} (l : List (DataW H)) : l.length ≤ Rows.uptoBulkAll l := by
  induction l with
  | nil => simp [Rows.uptoBulkAll]
  | cons x r ih =>
    have := bulk_one x
    simp only [Rows.uptoBulkAll, List.length_cons]
    omega

theorem bulk_part {H : Type} {d : DataW H} {l : List (DataW H)} (h : d ∈ l) : Rows.uptoBulk d ≤ Rows.uptoBulkAll l := by
  induction l with
  | nil => cases h
  | cons x r ih =>
    simp only [Rows.uptoBulkAll]
    cases List.mem_cons.1 h with
    | inl e => subst e; omega
    | inr e => have := ih e; omega

theorem bulk_bound {H : Type} {l : List (DataW H)} (hk : Rows.uptoSmall H l = true) : Rows.uptoBulkAll l ≤ 1048576 := of_decide_eq_true hk

theorem small_slice {H : Type} {l : List (DataW H)} (hk : Rows.uptoSmall H l = true) {d : DataW H} (hd : d ∈ l) : ∀ elems spare, d = .slice elems spare → elems.length + spare.length ≤ 1048576 := by
  intro elems spare e
  subst e
  have h1 := bulk_part hd
  have h2 := bulk_bound hk
  have h3 := bulk_length elems
  have h4 := bulk_length spare
  simp only [Rows.uptoBulk] at h1
  omega

theorem small_string {H : Type} {l : List (DataW H)} (hk : Rows.uptoSmall H l = true) {s : ByteArray} (hd : DataW.lit (.string s.data.toList) ∈ l) : s.size ≤ 1048576 := by
  have h1 := bulk_part hd
  have h2 := bulk_bound hk
  simp only [Rows.uptoBulk] at h1
  have e : s.data.toList.length = s.size := by rw [Array.length_toList]; rfl
  omega

theorem page_upto {H : Type} {l : List (DataW H)} (hk : Rows.uptoSmall H l = true) {d : DataW H} (hd : d ∈ l) :
    ∀ y0 y1 y2 y3 elems spare, d = .agg [y0, y1, y2, y3, .slice elems spare] → elems.length + spare.length ≤ 1048576 ∧ ∀ y ∈ elems, ∀ k r, y = .agg (.lit (.string k) :: r) → k.length ≤ 140737488351232 := by
  intro y0 y1 y2 y3 elems spare e
  subst e
  have h1 := bulk_part hd
  have h2 := bulk_bound hk
  have h3 := bulk_length elems
  have h4 := bulk_length spare
  simp only [Rows.uptoBulk, Rows.uptoBulkAll] at h1
  refine ⟨by omega, fun y hy k r hy2 => ?_⟩
  have h5 := bulk_part hy
  rw [hy2] at h5
  simp only [Rows.uptoBulk, Rows.uptoBulkAll] at h5
  omega

end Go.Proofs.YtkmlholjglmfnaaGreat

namespace Go.Proofs.YtkmlholjglmfnaaGreat
open Go.ChangeShapes Go.WideShapes Go.ChangeAt Go.RowKit
open Go.ChangeMaps (open_string shut_string)
set_option linter.unusedVariables false
set_option maxRecDepth 100000

theorem list12 {α : Type} {l : List α} (h : l.length = 12) : ∃ c0 c1 c2 c3 c4 c5 c6 c7 c8 c9 c10 c11, l = [c0, c1, c2, c3, c4, c5, c6, c7, c8, c9, c10, c11] := by
  match l, h with
  | [c0, c1, c2, c3, c4, c5, c6, c7, c8, c9, c10, c11], _ => exact ⟨c0, c1, c2, c3, c4, c5, c6, c7, c8, c9, c10, c11, rfl⟩

/-- A delta that came in. -/
structure InD (M : Nat) (w : World) (d : De) (p : Option Addr) (n c : Nat) : Prop where
  right : InE M w p n c d.rt.l

section
variable {H : Type} {enc : TypeId × Value → H} {W : World} {fuel : Nat} {cs : List Value} {x : DataW H × List MemPlace}

theorem in_delta {M : Nat} (hf : DataW.trod enc Tryz.prog W 0 (fun _ => true) true fuel 30 cs = some x)
    (hB : ∀ y0 y1 y2 y3 z0 z1 z2 z3 elems spare, x.1 = .agg [y0, y1, y2, y3, .agg [z0, z1, z2, z3, .slice elems spare]] → elems.length + spare.length ≤ M ∧ ∀ y ∈ elems, ∀ k r, y = .agg (.lit (.string k) :: r) → k.length ≤ 140737488351232) :
    ∃ (d : De) (a : Option Addr) (len cap : Nat), cs = [.int .i64 d.k, .string d.e.key, .int .i64 d.e.s, .int .i64 d.e.g, .int .i64 d.e.c, .string d.key, .int .i64 d.pg, .bool d.rt.leaf, .string d.rt.lo, .string d.rt.hi, .int .i64 d.rt.r, .slice a len cap] ∧ InD M W d a len cap := by
  obtain ⟨ys, n, -, rfl, hlen, hys, hall⟩ := DataW.trod_struct Tryz.underlying30 hf
  have eT : Tryz.prog.cellsOf 30 = 12 := by kernel_rfl
  rw [eT] at hlen
  obtain ⟨c0, c1, c2, c3, c4, c5, c6, c7, c8, c9, c10, c11, rfl⟩ := list12 hlen
  obtain ⟨y0, y1, y2, y3, y4, rfl⟩ := list5 (l := ys) hys
  have h0 : DataW.trod enc Tryz.prog W 0 (fun _ => true) true n 3 [c0] = some y0 := by
    have h : DataW.trod enc Tryz.prog W 0 (fun _ => true) true n 3 (List.take (Tryz.prog.cellsOf 3) (List.drop 0 [c0, c1, c2, c3, c4, c5, c6, c7, c8, c9, c10, c11])) = some y0 := hall 0 _ rfl
    rw [show Tryz.prog.cellsOf 3 = 1 by kernel_rfl] at h
    exact h
  have h1 : DataW.trod enc Tryz.prog W 0 (fun _ => true) true n 28 [c1, c2, c3, c4] = some y1 := by
    have h : DataW.trod enc Tryz.prog W 0 (fun _ => true) true n 28 (List.take (Tryz.prog.cellsOf 28) (List.drop 1 [c0, c1, c2, c3, c4, c5, c6, c7, c8, c9, c10, c11])) = some y1 := hall 1 _ rfl
    rw [show Tryz.prog.cellsOf 28 = 4 by kernel_rfl] at h
    exact h
  have h2 : DataW.trod enc Tryz.prog W 0 (fun _ => true) true n 9 [c5] = some y2 := by
    have h : DataW.trod enc Tryz.prog W 0 (fun _ => true) true n 9 (List.take (Tryz.prog.cellsOf 9) (List.drop 5 [c0, c1, c2, c3, c4, c5, c6, c7, c8, c9, c10, c11])) = some y2 := hall 2 _ rfl
    rw [show Tryz.prog.cellsOf 9 = 1 by kernel_rfl] at h
    exact h
  have h3 : DataW.trod enc Tryz.prog W 0 (fun _ => true) true n 3 [c6] = some y3 := by
    have h : DataW.trod enc Tryz.prog W 0 (fun _ => true) true n 3 (List.take (Tryz.prog.cellsOf 3) (List.drop 6 [c0, c1, c2, c3, c4, c5, c6, c7, c8, c9, c10, c11])) = some y3 := hall 3 _ rfl
    rw [show Tryz.prog.cellsOf 3 = 1 by kernel_rfl] at h
    exact h
  have h4 : DataW.trod enc Tryz.prog W 0 (fun _ => true) true n 24 [c7, c8, c9, c10, c11] = some y4 := by
    have h : DataW.trod enc Tryz.prog W 0 (fun _ => true) true n 24 (List.take (Tryz.prog.cellsOf 24) (List.drop 7 [c0, c1, c2, c3, c4, c5, c6, c7, c8, c9, c10, c11])) = some y4 := hall 4 _ rfl
    rw [show Tryz.prog.cellsOf 24 = 5 by kernel_rfl] at h
    exact h
  obtain ⟨v0, q0, _, _⟩ := DataW.trod_int Tryz.underlying3 h0
  obtain ⟨e, q1, _⟩ := in_en h1
  obtain ⟨v2, q2, _, _⟩ := DataW.trod_string Tryz.underlying9 h2
  obtain ⟨v3, q3, _, _⟩ := DataW.trod_int Tryz.underlying3 h3
  obtain ⟨leaf, lo, hi, r, a, len, cap, l, q4, hl⟩ := in_page (M := M) h4 (fun z0 z1 z2 z3 elems spare he => hB y0.1 y1.1 y2.1 y3.1 z0 z1 z2 z3 elems spare (by simp [he]))
  simp only [List.cons.injEq, and_true] at q0 q1 q2 q3 q4
  obtain ⟨rfl, rfl, rfl, rfl, rfl⟩ := q4
  simp only [En.cells, List.cons.injEq, and_true] at q1
  obtain ⟨rfl, rfl, rfl, rfl⟩ := q1
  subst q0 q2 q3
  exact ⟨⟨v0, e, v2, v3, ⟨leaf, lo, hi, r, l⟩⟩, a, len, cap, rfl, ⟨hl⟩⟩

theorem delta_said {M : Nat} (hM : 3518437208780 ≤ M) (hW : ∀ n ∈ x.1.weights Tryz.prog 30, n ≤ 140737488351232) :
    ∀ y0 y1 y2 y3 z0 z1 z2 z3 elems spare, x.1 = .agg [y0, y1, y2, y3, .agg [z0, z1, z2, z3, .slice elems spare]] → elems.length + spare.length ≤ M ∧ ∀ y ∈ elems, ∀ k r, y = .agg (.lit (.string k) :: r) → k.length ≤ 140737488351232 := by
  intro y0 y1 y2 y3 z0 z1 z2 z3 elems spare e
  refine page_said (x := ((.agg [z0, z1, z2, z3, .slice elems spare] : DataW H), [])) hM (fun n hn => hW n ?_) z0 z1 z2 z3 elems spare rfl
  rw [e, DataW.weights, Tryz.underlying30]
  simp [DataW.weightsEach]
  simp only at hn
  simp [hn]
end

end Go.Proofs.YtkmlholjglmfnaaGreat

namespace Go.Proofs.YtkmlholjglmfnaaGreat
open Go.RowKit
set_option linter.unusedVariables false

theorem delta_upto {H : Type} {l : List (DataW H)} (hk : Rows.uptoSmall H l = true) {d : DataW H} (hd : d ∈ l) :
    ∀ y0 y1 y2 y3 z0 z1 z2 z3 elems spare, d = .agg [y0, y1, y2, y3, .agg [z0, z1, z2, z3, .slice elems spare]] → elems.length + spare.length ≤ 1048576 ∧ ∀ y ∈ elems, ∀ k r, y = .agg (.lit (.string k) :: r) → k.length ≤ 140737488351232 := by
  intro y0 y1 y2 y3 z0 z1 z2 z3 elems spare e
  subst e
  have h1 := bulk_part hd
  have h2 := bulk_bound hk
  have h3 := bulk_length elems
  have h4 := bulk_length spare
  simp only [Rows.uptoBulk, Rows.uptoBulkAll] at h1
  refine ⟨by omega, fun y hy k r hy2 => ?_⟩
  have h5 := bulk_part hy
  rw [hy2] at h5
  simp only [Rows.uptoBulk, Rows.uptoBulkAll] at h5
  omega

end Go.Proofs.YtkmlholjglmfnaaGreat

namespace Go.Proofs.YtkmlholjglmfnaaGreat
open Go.ChangeShapes Go.WideShapes Go.ChangeAt Go.RowKit Go.Sort
open Go.ChangeMaps (open_string shut_string)
set_option linter.unusedVariables false
set_option linter.unusedSimpArgs false
set_option maxRecDepth 100000

theorem Pg.putL_len (l : List En) (e : En) : (Pg.putL l e).length ≤ l.length + 1 := by
  unfold Pg.putL Pg.ins
  split
  · simp
  · first | (simp; done) | (simp; omega)

theorem Dl.apply_len (g : Pp) (d : De) : (Dl.apply g d).1.l.length ≤ g.l.length + d.rt.l.length + 1 := by
  unfold Dl.apply
  split
  · split
    · unfold Pg.put
      split
      · have := Pg.putL_len g.l d.e
        simp only
        omega
      · simp [Pg.zero]
    · split
      · split
        · unfold Dl.without
          split
          · simp only [Pg.del]
            first | (simp; done) | (simp; omega)
          · simp only; omega
        · simp [Pg.zero]
      · split
        · split
          · have := List.length_filter_le (fun e : En => Ky.lt e.key d.key) g.l
            simp only [Dl.upTo]
            omega
          · simp [Pg.zero]
        · split
          · unfold Pg.merge
            split
            · simp [Pg.zero]
            · first | (simp; done) | (simp; omega)
          · simp [Pg.zero]
  · simp [Pg.zero]

set_option maxHeartbeats 16000000 in
theorem walkd_deltaApplies (pf : Bool) (plo phi : ByteArray) (pr : Int) (pp : Option Addr) (pn pc : Nat) (pl : List En) (dk : Int) (dek : ByteArray) (des deg dec : Int) (dkey : ByteArray) (dpg : Int) (dleaf : Bool) (dlo dhi : ByteArray) (dr : Int) (dl : List En) (dp : Option Addr) (dn dc : Nat) (w : World) (hp : InE 1048576 w pp pn pc pl) (hd : InE 1048576 w dp dn dc dl) :
    Calls Tryz.prog 3 #[.agg #[.bool pf, .string plo, .string phi, .int .i64 pr, .slice pp pn pc], .agg #[.int .i64 dk, .string dek, .int .i64 des, .int .i64 deg, .int .i64 dec, .string dkey, .int .i64 dpg, .bool dleaf, .string dlo, .string dhi, .int .i64 dr, .slice dp dn dc]] w fun e w' => e = .returned (.bool true) ∧ Below w.heap.size w w' := by
  have hr1 := hp.room
  have hr2 := hd.room
  have hA := fun (W : World) (h : Below w.heap.size w W) => apply_any ⟨pf, plo, phi, pr, pl⟩ ⟨dk, ⟨dek, des, deg, dec⟩, dkey, dpg, ⟨dleaf, dlo, dhi, dr, dl⟩⟩ pp dp pn pc dn dc W hp.lenq (hp.ens.below h (Nat.le_refl _)) (by omega) hp.nil hd.lenq (hd.ens.below h (Nat.le_refl _)) (by omega) hd.nil
  have hRA := fun (W : World) (h : Below w.heap.size w W) => rapply_any ⟨pf, plo, phi, pr, pl⟩ ⟨dk, ⟨dek, des, deg, dec⟩, dkey, dpg, ⟨dleaf, dlo, dhi, dr, dl⟩⟩ pp dp pn pc dn dc W hp.lenq (hp.ens.below h (Nat.le_refl _)) (by omega) hp.nil hp.le hd.lenq (hd.ens.below h (Nat.le_refl _)) (by omega) hd.nil
  have hU := fun (W : World) (h : Below w.heap.size w W) => undo_any ⟨pf, plo, phi, pr, pl⟩ ⟨dk, ⟨dek, des, deg, dec⟩, dkey, dpg, ⟨dleaf, dlo, dhi, dr, dl⟩⟩ pp dp pn pc dn dc W hp.lenq (hp.ens.below h (Nat.le_refl _)) (by omega) hp.nil hd.lenq (hd.ens.below h (Nat.le_refl _)) (by omega) hd.nil
  have hRU := fun (W : World) (h : Below w.heap.size w W) => rundo_any ⟨pf, plo, phi, pr, pl⟩ ⟨dk, ⟨dek, des, deg, dec⟩, dkey, dpg, ⟨dleaf, dlo, dhi, dr, dl⟩⟩ pp dp pn pc dn dc W hp.lenq (hp.ens.below h (Nat.le_refl _)) (by omega) hp.nil hp.le hd.lenq (hd.ens.below h (Nat.le_refl _)) (by omega) hd.nil
  have hCk := fun (W : World) (h : Below w.heap.size w W) => dcheck_any ⟨dk, ⟨dek, des, deg, dec⟩, dkey, dpg, ⟨dleaf, dlo, dhi, dr, dl⟩⟩ dp dn dc W hd.lenq (hd.ens.below h (Nat.le_refl _)) (by omega)
  have hRC := fun (W : World) (h : Below w.heap.size w W) => rdcheck_any ⟨dk, ⟨dek, des, deg, dec⟩, dkey, dpg, ⟨dleaf, dlo, dhi, dr, dl⟩⟩ dp dn dc W hd.lenq (hd.ens.below h (Nat.le_refl _)) (by omega)
  generalize hcv : (if Dl.may ⟨dk, ⟨dek, des, deg, dec⟩, dkey, dpg, ⟨dleaf, dlo, dhi, dr, dl⟩⟩ = true then (0 : Int) else 90) = cv at hCk hRC
  have hgl : (Dl.apply ⟨pf, plo, phi, pr, pl⟩ ⟨dk, ⟨dek, des, deg, dec⟩, dkey, dpg, ⟨dleaf, dlo, dhi, dr, dl⟩⟩).1.l.length ≤ 4398046511104 := Nat.le_trans (Dl.apply_len ⟨pf, plo, phi, pr, pl⟩ ⟨dk, ⟨dek, des, deg, dec⟩, dkey, dpg, ⟨dleaf, dlo, dhi, dr, dl⟩⟩) (by rw [show (⟨pf, plo, phi, pr, pl⟩ : Pp).l.length = pn from hp.lenq, show (⟨dk, ⟨dek, des, deg, dec⟩, dkey, dpg, ⟨dleaf, dlo, dhi, dr, dl⟩⟩ : De).rt.l.length = dn from hd.lenq]; omega)
  generalize hou : Dl.apply ⟨pf, plo, phi, pr, pl⟩ ⟨dk, ⟨dek, des, deg, dec⟩, dkey, dpg, ⟨dleaf, dlo, dhi, dr, dl⟩⟩ = out at hA hRA hgl
  generalize hun : Dl.undo ⟨pf, plo, phi, pr, pl⟩ ⟨dk, ⟨dek, des, deg, dec⟩, dkey, dpg, ⟨dleaf, dlo, dhi, dr, dl⟩⟩ = U at hU hRU
  obtain ⟨⟨Gf, Glo, Ghi, Gr, Gl⟩, kk⟩ := out
  simp only at hA hRA hU hRU hCk hRC hgl
  obtain ⟨Gn, hGn⟩ : ∃ Gn, Gl.length = Gn := ⟨_, rfl⟩
  rw [hGn] at hgl
  have hgn : Gn ≤ 4398046511104 := hgl
  have HGn : Hid (Gl.length = Gn) := hGn
  obtain ⟨⟨zk, ⟨zek, zes, zeg, zec⟩, zkey, zpg, zrt⟩, hz⟩ : ∃ z, U.getD Dl.zero = z := ⟨_, rfl⟩
  obtain ⟨us, hus⟩ : ∃ us, U.isSome = us := ⟨_, rfl⟩
  simp only [undone, hz, hus] at hU hRU
  have HAp : Hid _ := hA
  have HRA : Hid _ := hRA
  have HU : Hid _ := hU
  have HRU : Hid _ := hRU
  have HCk : Hid _ := hCk
  have HRC : Hid _ := hRC
  clear hA hRA hU hRU hCk hRC hcv hou hun hz hus hGn hgl hp hd hr1 hr2
  obtain ⟨w0, hw0⟩ : ∃ w0, (w.alloc (.cells #[.bool pf, .string plo, .string phi, .int .i64 pr, .slice pp pn pc] 24)).alloc (.cells #[.int .i64 dk, .string dek, .int .i64 des, .int .i64 deg, .int .i64 dec, .string dkey, .int .i64 dpg, .bool dleaf, .string dlo, .string dhi, .int .i64 dr, .slice dp dn dc] 30) = w0 := ⟨_, rfl⟩
  have HB0 : Hid (Below w.heap.size w w0) := by rw [← hw0]; exact ((Below.refl _ _).alloc (Nat.le_refl _) _).alloc (by simp) _
  have HP0 : Hid (Bk w0 w.heap.size 24 #[.bool pf, .string plo, .string phi, .int .i64 pr, .slice pp pn pc]) := by rw [← hw0]; exact (Bk.new _ _ _).alloc _
  have HD0 : Hid (Bk w0 (w.heap.size + 1) 30 #[.int .i64 dk, .string dek, .int .i64 des, .int .i64 deg, .int .i64 dec, .string dkey, .int .i64 dpg, .bool dleaf, .string dlo, .string dhi, .int .i64 dr, .slice dp dn dc]) := by rw [← hw0]; exact Bk.new1 _ _ _ _
  go_enter Tryz.func3, Tryz.ntmps3
  have a0 : w0.cell? ⟨w.heap.size, 0, none⟩ = some (.bool pf) := HP0.out.cell 0
  have a1 : w0.cell? ⟨w.heap.size, 1, none⟩ = some (.string plo) := HP0.out.cell 1
  have a2 : w0.cell? ⟨w.heap.size, 2, none⟩ = some (.string phi) := HP0.out.cell 2
  have a3 : w0.cell? ⟨w.heap.size, 3, none⟩ = some (.int .i64 pr) := HP0.out.cell 3
  have a4 : w0.cell? ⟨w.heap.size, 4, none⟩ = some (.slice pp pn pc) := HP0.out.cell 4
  have y0 : w0.cell? ⟨w.heap.size + 1, 0, none⟩ = some (.int .i64 dk) := HD0.out.cell 0
  have y1 : w0.cell? ⟨w.heap.size + 1, 1, none⟩ = some (.string dek) := HD0.out.cell 1
  have y2 : w0.cell? ⟨w.heap.size + 1, 2, none⟩ = some (.int .i64 des) := HD0.out.cell 2
  have y3 : w0.cell? ⟨w.heap.size + 1, 3, none⟩ = some (.int .i64 deg) := HD0.out.cell 3
  have y4 : w0.cell? ⟨w.heap.size + 1, 4, none⟩ = some (.int .i64 dec) := HD0.out.cell 4
  have y5 : w0.cell? ⟨w.heap.size + 1, 5, none⟩ = some (.string dkey) := HD0.out.cell 5
  have y6 : w0.cell? ⟨w.heap.size + 1, 6, none⟩ = some (.int .i64 dpg) := HD0.out.cell 6
  have y7 : w0.cell? ⟨w.heap.size + 1, 7, none⟩ = some (.bool dleaf) := HD0.out.cell 7
  have y8 : w0.cell? ⟨w.heap.size + 1, 8, none⟩ = some (.string dlo) := HD0.out.cell 8
  have y9 : w0.cell? ⟨w.heap.size + 1, 9, none⟩ = some (.string dhi) := HD0.out.cell 9
  have y10 : w0.cell? ⟨w.heap.size + 1, 10, none⟩ = some (.int .i64 dr) := HD0.out.cell 10
  have y11 : w0.cell? ⟨w.heap.size + 1, 11, none⟩ = some (.slice dp dn dc) := HD0.out.cell 11
  go_wp2_with fail
  refine (HAp.out _ HB0.out).mono ?_
  rintro e w1 ⟨v, rfl, hg, hb⟩
  clear a0 a1 a2 a3 a4
  clear y0 y1 y2 y3 y4 y5 y6 y7 y8 y9 y10 y11
  obtain ⟨Gp, Gc, rfl, he⟩ := hg.pat.pv
  simp only at he ⊢
  rw [HGn.out]
  clear hg hw0
  have HB1 : Hid (Below w.heap.size w w1) := HB0.out.trans (hb.mono HB0.out.size)
  have HP1 : Hid (Bk w1 (w.heap.size) 24 #[.bool pf, .string plo, .string phi, .int .i64 pr, .slice pp pn pc]) := HP0.out.below hb HP0.out.lt
  have HD1 : Hid (Bk w1 (w.heap.size + 1) 30 #[.int .i64 dk, .string dek, .int .i64 des, .int .i64 deg, .int .i64 dec, .string dkey, .int .i64 dpg, .bool dleaf, .string dlo, .string dhi, .int .i64 dr, .slice dp dn dc]) := HD0.out.below hb HD0.out.lt
  have HGA1 : Hid (Ens w1 Gp Gl) := he
  clear hb he
  obtain ⟨w2, hw2⟩ : ∃ w2, w1.alloc (.cells #[.bool Gf, .string Glo, .string Ghi, .int .i64 Gr, .slice Gp Gn Gc] 24) = w2 := ⟨_, rfl⟩
  have hb : Below w1.heap.size w1 w2 := by rw [← hw2]; exact (Below.refl _ _).alloc (Nat.le_refl _) _
  have HA2 : Hid (Bk w2 (w1.heap.size) 24 #[.bool Gf, .string Glo, .string Ghi, .int .i64 Gr, .slice Gp Gn Gc]) := by rw [← hw2]; exact Bk.new _ _ _
  have HB2 : Hid (Below w.heap.size w w2) := HB1.out.trans (hb.mono HB1.out.size)
  have HP2 : Hid (Bk w2 (w.heap.size) 24 #[.bool pf, .string plo, .string phi, .int .i64 pr, .slice pp pn pc]) := HP1.out.below hb HP1.out.lt
  have HD2 : Hid (Bk w2 (w.heap.size + 1) 30 #[.int .i64 dk, .string dek, .int .i64 des, .int .i64 deg, .int .i64 dec, .string dkey, .int .i64 dpg, .bool dleaf, .string dlo, .string dhi, .int .i64 dr, .slice dp dn dc]) := HD1.out.below hb HD1.out.lt
  have HGA2 : Hid (Ens w2 Gp Gl) := HGA1.out.below hb (Nat.le_refl _)
  clear hb
  have a0 : w2.cell? ⟨w.heap.size, 0, none⟩ = some (.bool pf) := HP2.out.cell 0
  have a1 : w2.cell? ⟨w.heap.size, 1, none⟩ = some (.string plo) := HP2.out.cell 1
  have a2 : w2.cell? ⟨w.heap.size, 2, none⟩ = some (.string phi) := HP2.out.cell 2
  have a3 : w2.cell? ⟨w.heap.size, 3, none⟩ = some (.int .i64 pr) := HP2.out.cell 3
  have a4 : w2.cell? ⟨w.heap.size, 4, none⟩ = some (.slice pp pn pc) := HP2.out.cell 4
  have y0 : w2.cell? ⟨w.heap.size + 1, 0, none⟩ = some (.int .i64 dk) := HD2.out.cell 0
  have y1 : w2.cell? ⟨w.heap.size + 1, 1, none⟩ = some (.string dek) := HD2.out.cell 1
  have y2 : w2.cell? ⟨w.heap.size + 1, 2, none⟩ = some (.int .i64 des) := HD2.out.cell 2
  have y3 : w2.cell? ⟨w.heap.size + 1, 3, none⟩ = some (.int .i64 deg) := HD2.out.cell 3
  have y4 : w2.cell? ⟨w.heap.size + 1, 4, none⟩ = some (.int .i64 dec) := HD2.out.cell 4
  have y5 : w2.cell? ⟨w.heap.size + 1, 5, none⟩ = some (.string dkey) := HD2.out.cell 5
  have y6 : w2.cell? ⟨w.heap.size + 1, 6, none⟩ = some (.int .i64 dpg) := HD2.out.cell 6
  have y7 : w2.cell? ⟨w.heap.size + 1, 7, none⟩ = some (.bool dleaf) := HD2.out.cell 7
  have y8 : w2.cell? ⟨w.heap.size + 1, 8, none⟩ = some (.string dlo) := HD2.out.cell 8
  have y9 : w2.cell? ⟨w.heap.size + 1, 9, none⟩ = some (.string dhi) := HD2.out.cell 9
  have y10 : w2.cell? ⟨w.heap.size + 1, 10, none⟩ = some (.int .i64 dr) := HD2.out.cell 10
  have y11 : w2.cell? ⟨w.heap.size + 1, 11, none⟩ = some (.slice dp dn dc) := HD2.out.cell 11
  go_wp2_with fail
  refine (HRA.out _ HB2.out).mono ?_
  rintro e w3 ⟨v, rfl, hg, hb⟩
  clear a0 a1 a2 a3 a4
  clear y0 y1 y2 y3 y4 y5 y6 y7 y8 y9 y10 y11
  obtain ⟨Hp, Hc, rfl, he⟩ := hg.pv
  simp only at he ⊢
  rw [HGn.out]
  clear hg hw2
  have HB3 : Hid (Below w.heap.size w w3) := HB2.out.trans (hb.mono HB2.out.size)
  have HP3 : Hid (Bk w3 (w.heap.size) 24 #[.bool pf, .string plo, .string phi, .int .i64 pr, .slice pp pn pc]) := HP2.out.below hb HP2.out.lt
  have HD3 : Hid (Bk w3 (w.heap.size + 1) 30 #[.int .i64 dk, .string dek, .int .i64 des, .int .i64 deg, .int .i64 dec, .string dkey, .int .i64 dpg, .bool dleaf, .string dlo, .string dhi, .int .i64 dr, .slice dp dn dc]) := HD2.out.below hb HD2.out.lt
  have HA3 : Hid (Bk w3 (w1.heap.size) 24 #[.bool Gf, .string Glo, .string Ghi, .int .i64 Gr, .slice Gp Gn Gc]) := HA2.out.below hb HA2.out.lt
  have HGA3 : Hid (Ens w3 Gp Gl) := HGA2.out.below hb (Nat.le_refl _)
  have HGE3 : Hid (Ens w3 Hp Gl) := he
  clear hb he
  obtain ⟨w4, hw4⟩ : ∃ w4, w3.alloc (.cells #[.bool Gf, .string Glo, .string Ghi, .int .i64 Gr, .slice Hp Gn Hc] 24) = w4 := ⟨_, rfl⟩
  have hb : Below w3.heap.size w3 w4 := by rw [← hw4]; exact (Below.refl _ _).alloc (Nat.le_refl _) _
  have HE4 : Hid (Bk w4 (w3.heap.size) 24 #[.bool Gf, .string Glo, .string Ghi, .int .i64 Gr, .slice Hp Gn Hc]) := by rw [← hw4]; exact Bk.new _ _ _
  have HB4 : Hid (Below w.heap.size w w4) := HB3.out.trans (hb.mono HB3.out.size)
  have HP4 : Hid (Bk w4 (w.heap.size) 24 #[.bool pf, .string plo, .string phi, .int .i64 pr, .slice pp pn pc]) := HP3.out.below hb HP3.out.lt
  have HD4 : Hid (Bk w4 (w.heap.size + 1) 30 #[.int .i64 dk, .string dek, .int .i64 des, .int .i64 deg, .int .i64 dec, .string dkey, .int .i64 dpg, .bool dleaf, .string dlo, .string dhi, .int .i64 dr, .slice dp dn dc]) := HD3.out.below hb HD3.out.lt
  have HA4 : Hid (Bk w4 (w1.heap.size) 24 #[.bool Gf, .string Glo, .string Ghi, .int .i64 Gr, .slice Gp Gn Gc]) := HA3.out.below hb HA3.out.lt
  have HGA4 : Hid (Ens w4 Gp Gl) := HGA3.out.below hb (Nat.le_refl _)
  have HGE4 : Hid (Ens w4 Hp Gl) := HGE3.out.below hb (Nat.le_refl _)
  clear hb
  have a0 : w4.cell? ⟨w.heap.size, 0, none⟩ = some (.bool pf) := HP4.out.cell 0
  have a1 : w4.cell? ⟨w.heap.size, 1, none⟩ = some (.string plo) := HP4.out.cell 1
  have a2 : w4.cell? ⟨w.heap.size, 2, none⟩ = some (.string phi) := HP4.out.cell 2
  have a3 : w4.cell? ⟨w.heap.size, 3, none⟩ = some (.int .i64 pr) := HP4.out.cell 3
  have a4 : w4.cell? ⟨w.heap.size, 4, none⟩ = some (.slice pp pn pc) := HP4.out.cell 4
  have y0 : w4.cell? ⟨w.heap.size + 1, 0, none⟩ = some (.int .i64 dk) := HD4.out.cell 0
  have y1 : w4.cell? ⟨w.heap.size + 1, 1, none⟩ = some (.string dek) := HD4.out.cell 1
  have y2 : w4.cell? ⟨w.heap.size + 1, 2, none⟩ = some (.int .i64 des) := HD4.out.cell 2
  have y3 : w4.cell? ⟨w.heap.size + 1, 3, none⟩ = some (.int .i64 deg) := HD4.out.cell 3
  have y4 : w4.cell? ⟨w.heap.size + 1, 4, none⟩ = some (.int .i64 dec) := HD4.out.cell 4
  have y5 : w4.cell? ⟨w.heap.size + 1, 5, none⟩ = some (.string dkey) := HD4.out.cell 5
  have y6 : w4.cell? ⟨w.heap.size + 1, 6, none⟩ = some (.int .i64 dpg) := HD4.out.cell 6
  have y7 : w4.cell? ⟨w.heap.size + 1, 7, none⟩ = some (.bool dleaf) := HD4.out.cell 7
  have y8 : w4.cell? ⟨w.heap.size + 1, 8, none⟩ = some (.string dlo) := HD4.out.cell 8
  have y9 : w4.cell? ⟨w.heap.size + 1, 9, none⟩ = some (.string dhi) := HD4.out.cell 9
  have y10 : w4.cell? ⟨w.heap.size + 1, 10, none⟩ = some (.int .i64 dr) := HD4.out.cell 10
  have y11 : w4.cell? ⟨w.heap.size + 1, 11, none⟩ = some (.slice dp dn dc) := HD4.out.cell 11
  go_wp2_with fail
  refine (HU.out _ HB4.out).mono ?_
  rintro e w5 ⟨rfl, hb⟩
  clear a0 a1 a2 a3 a4
  clear y0 y1 y2 y3 y4 y5 y6 y7 y8 y9 y10 y11
  clear hw4
  have HB5 : Hid (Below w.heap.size w w5) := HB4.out.trans (hb.mono HB4.out.size)
  have HP5 : Hid (Bk w5 (w.heap.size) 24 #[.bool pf, .string plo, .string phi, .int .i64 pr, .slice pp pn pc]) := HP4.out.below hb HP4.out.lt
  have HD5 : Hid (Bk w5 (w.heap.size + 1) 30 #[.int .i64 dk, .string dek, .int .i64 des, .int .i64 deg, .int .i64 dec, .string dkey, .int .i64 dpg, .bool dleaf, .string dlo, .string dhi, .int .i64 dr, .slice dp dn dc]) := HD4.out.below hb HD4.out.lt
  have HA5 : Hid (Bk w5 (w1.heap.size) 24 #[.bool Gf, .string Glo, .string Ghi, .int .i64 Gr, .slice Gp Gn Gc]) := HA4.out.below hb HA4.out.lt
  have HE5 : Hid (Bk w5 (w3.heap.size) 24 #[.bool Gf, .string Glo, .string Ghi, .int .i64 Gr, .slice Hp Gn Hc]) := HE4.out.below hb HE4.out.lt
  have HGA5 : Hid (Ens w5 Gp Gl) := HGA4.out.below hb (Nat.le_refl _)
  have HGE5 : Hid (Ens w5 Hp Gl) := HGE4.out.below hb (Nat.le_refl _)
  clear hb
  have hb : Below w5.heap.size w5 (w5.alloc (.cells #[.int .i64 zk, .string zek, .int .i64 zes, .int .i64 zeg, .int .i64 zec, .string zkey, .int .i64 zpg, .bool false, .string ⟨#[]⟩, .string ⟨#[]⟩, .int .i64 0, .slice none 0 0] 30)) := (Below.refl _ _).alloc (Nat.le_refl _) _
  have HF6 : Hid (Bk (w5.alloc (.cells #[.int .i64 zk, .string zek, .int .i64 zes, .int .i64 zeg, .int .i64 zec, .string zkey, .int .i64 zpg, .bool false, .string ⟨#[]⟩, .string ⟨#[]⟩, .int .i64 0, .slice none 0 0] 30)) (w5.heap.size) 30 #[.int .i64 zk, .string zek, .int .i64 zes, .int .i64 zeg, .int .i64 zec, .string zkey, .int .i64 zpg, .bool false, .string ⟨#[]⟩, .string ⟨#[]⟩, .int .i64 0, .slice none 0 0]) := Bk.new _ _ _
  have HB6 : Hid (Below w.heap.size w (w5.alloc (.cells #[.int .i64 zk, .string zek, .int .i64 zes, .int .i64 zeg, .int .i64 zec, .string zkey, .int .i64 zpg, .bool false, .string ⟨#[]⟩, .string ⟨#[]⟩, .int .i64 0, .slice none 0 0] 30))) := HB5.out.trans (hb.mono HB5.out.size)
  have HP6 : Hid (Bk (w5.alloc (.cells #[.int .i64 zk, .string zek, .int .i64 zes, .int .i64 zeg, .int .i64 zec, .string zkey, .int .i64 zpg, .bool false, .string ⟨#[]⟩, .string ⟨#[]⟩, .int .i64 0, .slice none 0 0] 30)) (w.heap.size) 24 #[.bool pf, .string plo, .string phi, .int .i64 pr, .slice pp pn pc]) := HP5.out.below hb HP5.out.lt
  have HD6 : Hid (Bk (w5.alloc (.cells #[.int .i64 zk, .string zek, .int .i64 zes, .int .i64 zeg, .int .i64 zec, .string zkey, .int .i64 zpg, .bool false, .string ⟨#[]⟩, .string ⟨#[]⟩, .int .i64 0, .slice none 0 0] 30)) (w.heap.size + 1) 30 #[.int .i64 dk, .string dek, .int .i64 des, .int .i64 deg, .int .i64 dec, .string dkey, .int .i64 dpg, .bool dleaf, .string dlo, .string dhi, .int .i64 dr, .slice dp dn dc]) := HD5.out.below hb HD5.out.lt
  have HA6 : Hid (Bk (w5.alloc (.cells #[.int .i64 zk, .string zek, .int .i64 zes, .int .i64 zeg, .int .i64 zec, .string zkey, .int .i64 zpg, .bool false, .string ⟨#[]⟩, .string ⟨#[]⟩, .int .i64 0, .slice none 0 0] 30)) (w1.heap.size) 24 #[.bool Gf, .string Glo, .string Ghi, .int .i64 Gr, .slice Gp Gn Gc]) := HA5.out.below hb HA5.out.lt
  have HE6 : Hid (Bk (w5.alloc (.cells #[.int .i64 zk, .string zek, .int .i64 zes, .int .i64 zeg, .int .i64 zec, .string zkey, .int .i64 zpg, .bool false, .string ⟨#[]⟩, .string ⟨#[]⟩, .int .i64 0, .slice none 0 0] 30)) (w3.heap.size) 24 #[.bool Gf, .string Glo, .string Ghi, .int .i64 Gr, .slice Hp Gn Hc]) := HE5.out.below hb HE5.out.lt
  have HGA6 : Hid (Ens (w5.alloc (.cells #[.int .i64 zk, .string zek, .int .i64 zes, .int .i64 zeg, .int .i64 zec, .string zkey, .int .i64 zpg, .bool false, .string ⟨#[]⟩, .string ⟨#[]⟩, .int .i64 0, .slice none 0 0] 30)) Gp Gl) := HGA5.out.below hb (Nat.le_refl _)
  have HGE6 : Hid (Ens (w5.alloc (.cells #[.int .i64 zk, .string zek, .int .i64 zes, .int .i64 zeg, .int .i64 zec, .string zkey, .int .i64 zpg, .bool false, .string ⟨#[]⟩, .string ⟨#[]⟩, .int .i64 0, .slice none 0 0] 30)) Hp Gl) := HGE5.out.below hb (Nat.le_refl _)
  clear hb
  have a0 : (w5.alloc (.cells #[.int .i64 zk, .string zek, .int .i64 zes, .int .i64 zeg, .int .i64 zec, .string zkey, .int .i64 zpg, .bool false, .string ⟨#[]⟩, .string ⟨#[]⟩, .int .i64 0, .slice none 0 0] 30)).cell? ⟨w.heap.size, 0, none⟩ = some (.bool pf) := HP6.out.cell 0
  have a1 : (w5.alloc (.cells #[.int .i64 zk, .string zek, .int .i64 zes, .int .i64 zeg, .int .i64 zec, .string zkey, .int .i64 zpg, .bool false, .string ⟨#[]⟩, .string ⟨#[]⟩, .int .i64 0, .slice none 0 0] 30)).cell? ⟨w.heap.size, 1, none⟩ = some (.string plo) := HP6.out.cell 1
  have a2 : (w5.alloc (.cells #[.int .i64 zk, .string zek, .int .i64 zes, .int .i64 zeg, .int .i64 zec, .string zkey, .int .i64 zpg, .bool false, .string ⟨#[]⟩, .string ⟨#[]⟩, .int .i64 0, .slice none 0 0] 30)).cell? ⟨w.heap.size, 2, none⟩ = some (.string phi) := HP6.out.cell 2
  have a3 : (w5.alloc (.cells #[.int .i64 zk, .string zek, .int .i64 zes, .int .i64 zeg, .int .i64 zec, .string zkey, .int .i64 zpg, .bool false, .string ⟨#[]⟩, .string ⟨#[]⟩, .int .i64 0, .slice none 0 0] 30)).cell? ⟨w.heap.size, 3, none⟩ = some (.int .i64 pr) := HP6.out.cell 3
  have a4 : (w5.alloc (.cells #[.int .i64 zk, .string zek, .int .i64 zes, .int .i64 zeg, .int .i64 zec, .string zkey, .int .i64 zpg, .bool false, .string ⟨#[]⟩, .string ⟨#[]⟩, .int .i64 0, .slice none 0 0] 30)).cell? ⟨w.heap.size, 4, none⟩ = some (.slice pp pn pc) := HP6.out.cell 4
  have y0 : (w5.alloc (.cells #[.int .i64 zk, .string zek, .int .i64 zes, .int .i64 zeg, .int .i64 zec, .string zkey, .int .i64 zpg, .bool false, .string ⟨#[]⟩, .string ⟨#[]⟩, .int .i64 0, .slice none 0 0] 30)).cell? ⟨w.heap.size + 1, 0, none⟩ = some (.int .i64 dk) := HD6.out.cell 0
  have y1 : (w5.alloc (.cells #[.int .i64 zk, .string zek, .int .i64 zes, .int .i64 zeg, .int .i64 zec, .string zkey, .int .i64 zpg, .bool false, .string ⟨#[]⟩, .string ⟨#[]⟩, .int .i64 0, .slice none 0 0] 30)).cell? ⟨w.heap.size + 1, 1, none⟩ = some (.string dek) := HD6.out.cell 1
  have y2 : (w5.alloc (.cells #[.int .i64 zk, .string zek, .int .i64 zes, .int .i64 zeg, .int .i64 zec, .string zkey, .int .i64 zpg, .bool false, .string ⟨#[]⟩, .string ⟨#[]⟩, .int .i64 0, .slice none 0 0] 30)).cell? ⟨w.heap.size + 1, 2, none⟩ = some (.int .i64 des) := HD6.out.cell 2
  have y3 : (w5.alloc (.cells #[.int .i64 zk, .string zek, .int .i64 zes, .int .i64 zeg, .int .i64 zec, .string zkey, .int .i64 zpg, .bool false, .string ⟨#[]⟩, .string ⟨#[]⟩, .int .i64 0, .slice none 0 0] 30)).cell? ⟨w.heap.size + 1, 3, none⟩ = some (.int .i64 deg) := HD6.out.cell 3
  have y4 : (w5.alloc (.cells #[.int .i64 zk, .string zek, .int .i64 zes, .int .i64 zeg, .int .i64 zec, .string zkey, .int .i64 zpg, .bool false, .string ⟨#[]⟩, .string ⟨#[]⟩, .int .i64 0, .slice none 0 0] 30)).cell? ⟨w.heap.size + 1, 4, none⟩ = some (.int .i64 dec) := HD6.out.cell 4
  have y5 : (w5.alloc (.cells #[.int .i64 zk, .string zek, .int .i64 zes, .int .i64 zeg, .int .i64 zec, .string zkey, .int .i64 zpg, .bool false, .string ⟨#[]⟩, .string ⟨#[]⟩, .int .i64 0, .slice none 0 0] 30)).cell? ⟨w.heap.size + 1, 5, none⟩ = some (.string dkey) := HD6.out.cell 5
  have y6 : (w5.alloc (.cells #[.int .i64 zk, .string zek, .int .i64 zes, .int .i64 zeg, .int .i64 zec, .string zkey, .int .i64 zpg, .bool false, .string ⟨#[]⟩, .string ⟨#[]⟩, .int .i64 0, .slice none 0 0] 30)).cell? ⟨w.heap.size + 1, 6, none⟩ = some (.int .i64 dpg) := HD6.out.cell 6
  have y7 : (w5.alloc (.cells #[.int .i64 zk, .string zek, .int .i64 zes, .int .i64 zeg, .int .i64 zec, .string zkey, .int .i64 zpg, .bool false, .string ⟨#[]⟩, .string ⟨#[]⟩, .int .i64 0, .slice none 0 0] 30)).cell? ⟨w.heap.size + 1, 7, none⟩ = some (.bool dleaf) := HD6.out.cell 7
  have y8 : (w5.alloc (.cells #[.int .i64 zk, .string zek, .int .i64 zes, .int .i64 zeg, .int .i64 zec, .string zkey, .int .i64 zpg, .bool false, .string ⟨#[]⟩, .string ⟨#[]⟩, .int .i64 0, .slice none 0 0] 30)).cell? ⟨w.heap.size + 1, 8, none⟩ = some (.string dlo) := HD6.out.cell 8
  have y9 : (w5.alloc (.cells #[.int .i64 zk, .string zek, .int .i64 zes, .int .i64 zeg, .int .i64 zec, .string zkey, .int .i64 zpg, .bool false, .string ⟨#[]⟩, .string ⟨#[]⟩, .int .i64 0, .slice none 0 0] 30)).cell? ⟨w.heap.size + 1, 9, none⟩ = some (.string dhi) := HD6.out.cell 9
  have y10 : (w5.alloc (.cells #[.int .i64 zk, .string zek, .int .i64 zes, .int .i64 zeg, .int .i64 zec, .string zkey, .int .i64 zpg, .bool false, .string ⟨#[]⟩, .string ⟨#[]⟩, .int .i64 0, .slice none 0 0] 30)).cell? ⟨w.heap.size + 1, 10, none⟩ = some (.int .i64 dr) := HD6.out.cell 10
  have y11 : (w5.alloc (.cells #[.int .i64 zk, .string zek, .int .i64 zes, .int .i64 zeg, .int .i64 zec, .string zkey, .int .i64 zpg, .bool false, .string ⟨#[]⟩, .string ⟨#[]⟩, .int .i64 0, .slice none 0 0] 30)).cell? ⟨w.heap.size + 1, 11, none⟩ = some (.slice dp dn dc) := HD6.out.cell 11
  go_wp2_with fail
  refine (HRU.out _ HB6.out).mono ?_
  rintro e w7 ⟨rfl, hb⟩
  clear a0 a1 a2 a3 a4
  clear y0 y1 y2 y3 y4 y5 y6 y7 y8 y9 y10 y11
  skip
  have HB7 : Hid (Below w.heap.size w w7) := HB6.out.trans (hb.mono HB6.out.size)
  have HP7 : Hid (Bk w7 (w.heap.size) 24 #[.bool pf, .string plo, .string phi, .int .i64 pr, .slice pp pn pc]) := HP6.out.below hb HP6.out.lt
  have HD7 : Hid (Bk w7 (w.heap.size + 1) 30 #[.int .i64 dk, .string dek, .int .i64 des, .int .i64 deg, .int .i64 dec, .string dkey, .int .i64 dpg, .bool dleaf, .string dlo, .string dhi, .int .i64 dr, .slice dp dn dc]) := HD6.out.below hb HD6.out.lt
  have HA7 : Hid (Bk w7 (w1.heap.size) 24 #[.bool Gf, .string Glo, .string Ghi, .int .i64 Gr, .slice Gp Gn Gc]) := HA6.out.below hb HA6.out.lt
  have HE7 : Hid (Bk w7 (w3.heap.size) 24 #[.bool Gf, .string Glo, .string Ghi, .int .i64 Gr, .slice Hp Gn Hc]) := HE6.out.below hb HE6.out.lt
  have HF7 : Hid (Bk w7 (w5.heap.size) 30 #[.int .i64 zk, .string zek, .int .i64 zes, .int .i64 zeg, .int .i64 zec, .string zkey, .int .i64 zpg, .bool false, .string ⟨#[]⟩, .string ⟨#[]⟩, .int .i64 0, .slice none 0 0]) := HF6.out.below hb HF6.out.lt
  have HGA7 : Hid (Ens w7 Gp Gl) := HGA6.out.below hb (Nat.le_refl _)
  have HGE7 : Hid (Ens w7 Hp Gl) := HGE6.out.below hb (Nat.le_refl _)
  clear hb
  go_wp2_with fail
  obtain ⟨w8, hw8⟩ : ∃ w8, w7.alloc (.cells #[.int .i64 zk, .string zek, .int .i64 zes, .int .i64 zeg, .int .i64 zec, .string zkey, .int .i64 zpg, .bool false, .string ⟨#[]⟩, .string ⟨#[]⟩, .int .i64 0, .slice none 0 0] 30) = w8 := ⟨_, rfl⟩
  have hb : Below w7.heap.size w7 w8 := by rw [← hw8]; exact (Below.refl _ _).alloc (Nat.le_refl _) _
  have HI8 : Hid (Bk w8 (w7.heap.size) 30 #[.int .i64 zk, .string zek, .int .i64 zes, .int .i64 zeg, .int .i64 zec, .string zkey, .int .i64 zpg, .bool false, .string ⟨#[]⟩, .string ⟨#[]⟩, .int .i64 0, .slice none 0 0]) := by rw [← hw8]; exact Bk.new _ _ _
  have HB8 : Hid (Below w.heap.size w w8) := HB7.out.trans (hb.mono HB7.out.size)
  have HP8 : Hid (Bk w8 (w.heap.size) 24 #[.bool pf, .string plo, .string phi, .int .i64 pr, .slice pp pn pc]) := HP7.out.below hb HP7.out.lt
  have HD8 : Hid (Bk w8 (w.heap.size + 1) 30 #[.int .i64 dk, .string dek, .int .i64 des, .int .i64 deg, .int .i64 dec, .string dkey, .int .i64 dpg, .bool dleaf, .string dlo, .string dhi, .int .i64 dr, .slice dp dn dc]) := HD7.out.below hb HD7.out.lt
  have HA8 : Hid (Bk w8 (w1.heap.size) 24 #[.bool Gf, .string Glo, .string Ghi, .int .i64 Gr, .slice Gp Gn Gc]) := HA7.out.below hb HA7.out.lt
  have HE8 : Hid (Bk w8 (w3.heap.size) 24 #[.bool Gf, .string Glo, .string Ghi, .int .i64 Gr, .slice Hp Gn Hc]) := HE7.out.below hb HE7.out.lt
  have HF8 : Hid (Bk w8 (w5.heap.size) 30 #[.int .i64 zk, .string zek, .int .i64 zes, .int .i64 zeg, .int .i64 zec, .string zkey, .int .i64 zpg, .bool false, .string ⟨#[]⟩, .string ⟨#[]⟩, .int .i64 0, .slice none 0 0]) := HF7.out.below hb HF7.out.lt
  have HGA8 : Hid (Ens w8 Gp Gl) := HGA7.out.below hb (Nat.le_refl _)
  have HGE8 : Hid (Ens w8 Hp Gl) := HGE7.out.below hb (Nat.le_refl _)
  clear hb
  have HX : Hid (∀ W, Below w8.heap.size w8 W → Ens W Gp Gl ∧ Ens W Hp Gl ∧ w8.heap.size ≤ W.heap.size ∧ Below w.heap.size w W ∧ Bk W (w.heap.size + 1) 30 #[.int .i64 dk, .string dek, .int .i64 des, .int .i64 deg, .int .i64 dec, .string dkey, .int .i64 dpg, .bool dleaf, .string dlo, .string dhi, .int .i64 dr, .slice dp dn dc] ∧ Bk W (w1.heap.size) 24 #[.bool Gf, .string Glo, .string Ghi, .int .i64 Gr, .slice Gp Gn Gc] ∧ Bk W (w3.heap.size) 24 #[.bool Gf, .string Glo, .string Ghi, .int .i64 Gr, .slice Hp Gn Hc] ∧ Bk W (w5.heap.size) 30 #[.int .i64 zk, .string zek, .int .i64 zes, .int .i64 zeg, .int .i64 zec, .string zkey, .int .i64 zpg, .bool false, .string ⟨#[]⟩, .string ⟨#[]⟩, .int .i64 0, .slice none 0 0] ∧ Bk W (w7.heap.size) 30 #[.int .i64 zk, .string zek, .int .i64 zes, .int .i64 zeg, .int .i64 zec, .string zkey, .int .i64 zpg, .bool false, .string ⟨#[]⟩, .string ⟨#[]⟩, .int .i64 0, .slice none 0 0]) := fun W h => ⟨HGA8.out.below h (Nat.le_refl _), HGE8.out.below h (Nat.le_refl _), h.size, HB8.out.trans (h.mono HB8.out.size), HD8.out.below h HD8.out.lt, HA8.out.below h HA8.out.lt, HE8.out.below h HE8.out.lt, HF8.out.below h HF8.out.lt, HI8.out.below h HI8.out.lt⟩
  clear HP0 HP1 HP2 HP3 HP4 HP5 HP6 HP7 HP8 HD0 HD1 HD2 HD3 HD4 HD5 HD6 HD7 HD8 HA2 HA3 HA4 HA5 HA6 HA7 HA8 HE4 HE5 HE6 HE7 HE8 HF6 HF7 HF8 HI8 HB0 HB1 HB2 HB3 HB4 HB5 HB6 HB7 HB8 HGA1 HGA2 HGA3 HGA4 HGA5 HGA6 HGA7 HGA8 HGE3 HGE4 HGE5 HGE6 HGE7 HGE8 HAp HRA HU HRU
  rw [hw8]
  clear hw8
  have hB : Below w8.heap.size w8 w8.drew := (Below.refl _ _).drew
  refine wp_region_mid (S := (fun w' => Bk w' (w.heap.size + 1) 30 #[.int .i64 dk, .string dek, .int .i64 des, .int .i64 deg, .int .i64 dec, .string dkey, .int .i64 dpg, .bool dleaf, .string dlo, .string dhi, .int .i64 dr, .slice dp dn dc] ∧ Bk w' (w1.heap.size) 24 #[.bool Gf, .string Glo, .string Ghi, .int .i64 Gr, .slice Gp Gn Gc] ∧ Bk w' (w3.heap.size) 24 #[.bool Gf, .string Glo, .string Ghi, .int .i64 Gr, .slice Hp Gn Hc] ∧ Bk w' (w5.heap.size) 30 #[.int .i64 zk, .string zek, .int .i64 zes, .int .i64 zeg, .int .i64 zec, .string zkey, .int .i64 zpg, .bool false, .string ⟨#[]⟩, .string ⟨#[]⟩, .int .i64 0, .slice none 0 0] ∧ Bk w' (w7.heap.size) 30 #[.int .i64 zk, .string zek, .int .i64 zes, .int .i64 zeg, .int .i64 zec, .string zkey, .int .i64 zpg, .bool false, .string ⟨#[]⟩, .string ⟨#[]⟩, .int .i64 0, .slice none 0 0])) 29 (by kernel_rfl) ?_
  refine wpAnyM_ready (rs := [0]) (by kernel_rfl) (by simp) ?_
  refine AllReadyM.cons (o := { dst := some 37, op := Op.call { callee := Callee.value (Operand.func 13), args := #[], argTypes := #[] }, type := 4, pos := _, after := #[], guard := none }) rfl (fun K hK => ?_) AllReadyM.nil
  have HK9 : Hid (∀ a w, _ → K a w) := hK
  clear hK
  go_simp
  refine (live_any _).mono ?_
  rintro e u1 ⟨rfl, hb⟩
  have hB1 := hB.trans (hb.mono (HX.out _ hB).2.2.1)
  clear hb
  refine HK9.out _ _ ⟨fun _ => (HX.out _ hB1).2.2.2.2, ?_⟩
  clear HK9 K
  try simp only [Act.put, List.setIfInBounds_toArray, List.set_cons_zero, List.set_cons_succ]
  refine wpAnyM_take (i := 1) [] (oi := { dst := some 38, op := Op.move (Operand.tmp 37), type := 4, pos := _, after := #[{ on := 0, ground := Ground.data }, { on := 0, ground := Ground.chain }], guard := none }) (v := .bool true) rfl (by kernel_rfl) (by kernel_rfl) (by kernel_rfl) (by kernel_rfl) (fun _ _ _ h => h) (Or.inl ⟨by rfl, ?_⟩) (HX.out _ hB1).2.2.2.2 ?_
  · (intro w' hSw; go_simp; try with_reducible rfl)
  try simp only [Act.put, List.setIfInBounds_toArray, List.set_cons_zero, List.set_cons_succ]
  refine wpAnyM_take (i := 2) [] (oi := { dst := some 39, op := Op.load 30 (Operand.tmp 3), type := 30, pos := _, after := #[{ on := 1, ground := Ground.guard }], guard := some (1, true) }) (v := .agg #[.int .i64 dk, .string dek, .int .i64 des, .int .i64 deg, .int .i64 dec, .string dkey, .int .i64 dpg, .bool dleaf, .string dlo, .string dhi, .int .i64 dr, .slice dp dn dc]) rfl (by kernel_rfl) (by kernel_rfl) (by kernel_rfl) (by kernel_rfl) (fun _ _ _ h => h) (Or.inl ⟨by rfl, ?_⟩) (HX.out _ hB1).2.2.2.2 ?_
  · (intro w' hSw; have m0 : w'.cell? ⟨w.heap.size + 1, 0, none⟩ = some (.int .i64 dk) := hSw.1.cell 0; have m1 : w'.cell? ⟨w.heap.size + 1, 1, none⟩ = some (.string dek) := hSw.1.cell 1; have m2 : w'.cell? ⟨w.heap.size + 1, 2, none⟩ = some (.int .i64 des) := hSw.1.cell 2; have m3 : w'.cell? ⟨w.heap.size + 1, 3, none⟩ = some (.int .i64 deg) := hSw.1.cell 3; have m4 : w'.cell? ⟨w.heap.size + 1, 4, none⟩ = some (.int .i64 dec) := hSw.1.cell 4; have m5 : w'.cell? ⟨w.heap.size + 1, 5, none⟩ = some (.string dkey) := hSw.1.cell 5; have m6 : w'.cell? ⟨w.heap.size + 1, 6, none⟩ = some (.int .i64 dpg) := hSw.1.cell 6; have m7 : w'.cell? ⟨w.heap.size + 1, 7, none⟩ = some (.bool dleaf) := hSw.1.cell 7; have m8 : w'.cell? ⟨w.heap.size + 1, 8, none⟩ = some (.string dlo) := hSw.1.cell 8; have m9 : w'.cell? ⟨w.heap.size + 1, 9, none⟩ = some (.string dhi) := hSw.1.cell 9; have m10 : w'.cell? ⟨w.heap.size + 1, 10, none⟩ = some (.int .i64 dr) := hSw.1.cell 10; have m11 : w'.cell? ⟨w.heap.size + 1, 11, none⟩ = some (.slice dp dn dc) := hSw.1.cell 11; go_simp; try with_reducible rfl)
  try simp only [Act.put, List.setIfInBounds_toArray, List.set_cons_zero, List.set_cons_succ]
  refine wpAnyM_take (i := 4) [] (oi := { dst := some 41, op := Op.load 30 (Operand.tmp 3), type := 30, pos := _, after := #[{ on := 1, ground := Ground.guard }], guard := some (1, true) }) (v := .agg #[.int .i64 dk, .string dek, .int .i64 des, .int .i64 deg, .int .i64 dec, .string dkey, .int .i64 dpg, .bool dleaf, .string dlo, .string dhi, .int .i64 dr, .slice dp dn dc]) rfl (by kernel_rfl) (by kernel_rfl) (by kernel_rfl) (by kernel_rfl) (fun _ _ _ h => h) (Or.inl ⟨by rfl, ?_⟩) (HX.out _ hB1).2.2.2.2 ?_
  · (intro w' hSw; have m0 : w'.cell? ⟨w.heap.size + 1, 0, none⟩ = some (.int .i64 dk) := hSw.1.cell 0; have m1 : w'.cell? ⟨w.heap.size + 1, 1, none⟩ = some (.string dek) := hSw.1.cell 1; have m2 : w'.cell? ⟨w.heap.size + 1, 2, none⟩ = some (.int .i64 des) := hSw.1.cell 2; have m3 : w'.cell? ⟨w.heap.size + 1, 3, none⟩ = some (.int .i64 deg) := hSw.1.cell 3; have m4 : w'.cell? ⟨w.heap.size + 1, 4, none⟩ = some (.int .i64 dec) := hSw.1.cell 4; have m5 : w'.cell? ⟨w.heap.size + 1, 5, none⟩ = some (.string dkey) := hSw.1.cell 5; have m6 : w'.cell? ⟨w.heap.size + 1, 6, none⟩ = some (.int .i64 dpg) := hSw.1.cell 6; have m7 : w'.cell? ⟨w.heap.size + 1, 7, none⟩ = some (.bool dleaf) := hSw.1.cell 7; have m8 : w'.cell? ⟨w.heap.size + 1, 8, none⟩ = some (.string dlo) := hSw.1.cell 8; have m9 : w'.cell? ⟨w.heap.size + 1, 9, none⟩ = some (.string dhi) := hSw.1.cell 9; have m10 : w'.cell? ⟨w.heap.size + 1, 10, none⟩ = some (.int .i64 dr) := hSw.1.cell 10; have m11 : w'.cell? ⟨w.heap.size + 1, 11, none⟩ = some (.slice dp dn dc) := hSw.1.cell 11; go_simp; try with_reducible rfl)
  try simp only [Act.put, List.setIfInBounds_toArray, List.set_cons_zero, List.set_cons_succ]
  refine wpAnyM_ready (rs := [3]) (by kernel_rfl) (by simp) ?_
  refine AllReadyM.cons (o := { dst := some 40, op := Op.call { callee := Callee.value (Operand.func 14), args := #[Operand.tmp 39], argTypes := #[30] }, type := 31, pos := _, after := #[{ on := 2, ground := Ground.data }, { on := 1, ground := Ground.chain }, { on := 1, ground := Ground.guard }], guard := some (1, true) }) rfl (fun K hK => ?_) AllReadyM.nil
  have HK9 : Hid (∀ a w, _ → K a w) := hK
  clear hK
  go_simp
  refine (HCk.out _ (HX.out _ hB1).2.2.2.1).mono ?_
  rintro e u2 ⟨rfl, hb⟩
  have hB2 := hB1.trans (hb.mono (HX.out _ hB1).2.2.1)
  clear hb
  refine HK9.out _ _ ⟨fun _ => (HX.out _ hB2).2.2.2.2, ?_⟩
  clear HK9 K
  try simp only [Act.put, List.setIfInBounds_toArray, List.set_cons_zero, List.set_cons_succ]
  refine wpAnyM_ready (rs := [5]) (by kernel_rfl) (by simp) ?_
  refine AllReadyM.cons (o := { dst := some 42, op := Op.call { callee := Callee.value (Operand.func 15), args := #[Operand.tmp 41], argTypes := #[30] }, type := 31, pos := _, after := #[{ on := 4, ground := Ground.data }, { on := 3, ground := Ground.chain }, { on := 1, ground := Ground.guard }], guard := some (1, true) }) rfl (fun K hK => ?_) AllReadyM.nil
  have HK9 : Hid (∀ a w, _ → K a w) := hK
  clear hK
  go_simp
  refine (HRC.out _ (HX.out _ hB2).2.2.2.1).mono ?_
  rintro e u3 ⟨rfl, hb⟩
  have hB3 := hB2.trans (hb.mono (HX.out _ hB2).2.2.1)
  clear hb
  refine HK9.out _ _ ⟨fun _ => (HX.out _ hB3).2.2.2.2, ?_⟩
  clear HK9 K
  try simp only [Act.put, List.setIfInBounds_toArray, List.set_cons_zero, List.set_cons_succ]
  refine wpAnyM_take (i := 6) [] (oi := { dst := some 43, op := Op.binOp BinOp.eql 31 (Operand.tmp 40) (Operand.tmp 42) 31, type := 4, pos := _, after := #[{ on := 3, ground := Ground.data }, { on := 5, ground := Ground.data }, { on := 1, ground := Ground.guard }], guard := some (1, true) }) (v := .bool true) rfl (by kernel_rfl) (by kernel_rfl) (by kernel_rfl) (by kernel_rfl) (fun _ _ _ h => h) (Or.inl ⟨by rfl, ?_⟩) (HX.out _ hB3).2.2.2.2 ?_
  · (intro w' hSw; go_simp; try with_reducible rfl)
  try simp only [Act.put, List.setIfInBounds_toArray, List.set_cons_zero, List.set_cons_succ]
  refine wpAnyM_take (i := 7) [] (oi := { dst := some 44, op := Op.pick (Operand.tmp 38) (Operand.tmp 43) (Operand.const (Value.bool false)), type := 4, pos := _, after := #[{ on := 1, ground := Ground.data }, { on := 6, ground := Ground.data }], guard := none }) (v := .bool true) rfl (by kernel_rfl) (by kernel_rfl) (by kernel_rfl) (by kernel_rfl) (fun _ _ _ h => h) (Or.inl ⟨by rfl, ?_⟩) (HX.out _ hB3).2.2.2.2 ?_
  · (intro w' hSw; go_simp; try with_reducible rfl)
  try simp only [Act.put, List.setIfInBounds_toArray, List.set_cons_zero, List.set_cons_succ]
  refine wpAnyM_take (i := 8) [] (oi := { dst := some 45, op := Op.move (Operand.tmp 44), type := 4, pos := _, after := #[{ on := 7, ground := Ground.data }, { on := 5, ground := Ground.chain }], guard := none }) (v := .bool true) rfl (by kernel_rfl) (by kernel_rfl) (by kernel_rfl) (by kernel_rfl) (fun _ _ _ h => h) (Or.inl ⟨by rfl, ?_⟩) (HX.out _ hB3).2.2.2.2 ?_
  · (intro w' hSw; go_simp; try with_reducible rfl)
  try simp only [Act.put, List.setIfInBounds_toArray, List.set_cons_zero, List.set_cons_succ]
  refine wpAnyM_take (i := 9) [] (oi := { dst := some 46, op := Op.move (Operand.tmp 6), type := 31, pos := _, after := #[{ on := 8, ground := Ground.guard }], guard := some (8, true) }) (v := .int .i64 kk) rfl (by kernel_rfl) (by kernel_rfl) (by kernel_rfl) (by kernel_rfl) (fun _ _ _ h => h) (Or.inl ⟨by rfl, ?_⟩) (HX.out _ hB3).2.2.2.2 ?_
  · (intro w' hSw; go_simp; try with_reducible rfl)
  try simp only [Act.put, List.setIfInBounds_toArray, List.set_cons_zero, List.set_cons_succ]
  refine wpAnyM_take (i := 10) [] (oi := { dst := some 47, op := Op.move (Operand.tmp 8), type := 31, pos := _, after := #[{ on := 8, ground := Ground.guard }], guard := some (8, true) }) (v := .int .i64 kk) rfl (by kernel_rfl) (by kernel_rfl) (by kernel_rfl) (by kernel_rfl) (fun _ _ _ h => h) (Or.inl ⟨by rfl, ?_⟩) (HX.out _ hB3).2.2.2.2 ?_
  · (intro w' hSw; go_simp; try with_reducible rfl)
  try simp only [Act.put, List.setIfInBounds_toArray, List.set_cons_zero, List.set_cons_succ]
  refine wpAnyM_take (i := 11) [] (oi := { dst := some 48, op := Op.binOp BinOp.eql 31 (Operand.tmp 46) (Operand.tmp 47) 31, type := 4, pos := _, after := #[{ on := 9, ground := Ground.data }, { on := 10, ground := Ground.data }, { on := 8, ground := Ground.guard }], guard := some (8, true) }) (v := .bool true) rfl (by kernel_rfl) (by kernel_rfl) (by kernel_rfl) (by kernel_rfl) (fun _ _ _ h => h) (Or.inl ⟨by rfl, ?_⟩) (HX.out _ hB3).2.2.2.2 ?_
  · (intro w' hSw; go_simp; try with_reducible rfl)
  try simp only [Act.put, List.setIfInBounds_toArray, List.set_cons_zero, List.set_cons_succ]
  refine wpAnyM_take (i := 12) [] (oi := { dst := some 49, op := Op.pick (Operand.tmp 45) (Operand.tmp 48) (Operand.const (Value.bool false)), type := 4, pos := _, after := #[{ on := 8, ground := Ground.data }, { on := 11, ground := Ground.data }], guard := none }) (v := .bool true) rfl (by kernel_rfl) (by kernel_rfl) (by kernel_rfl) (by kernel_rfl) (fun _ _ _ h => h) (Or.inl ⟨by rfl, ?_⟩) (HX.out _ hB3).2.2.2.2 ?_
  · (intro w' hSw; go_simp; try with_reducible rfl)
  try simp only [Act.put, List.setIfInBounds_toArray, List.set_cons_zero, List.set_cons_succ]
  refine wpAnyM_take (i := 13) [] (oi := { dst := some 50, op := Op.move (Operand.tmp 49), type := 4, pos := _, after := #[{ on := 12, ground := Ground.data }, { on := 8, ground := Ground.chain }], guard := none }) (v := .bool true) rfl (by kernel_rfl) (by kernel_rfl) (by kernel_rfl) (by kernel_rfl) (fun _ _ _ h => h) (Or.inl ⟨by rfl, ?_⟩) (HX.out _ hB3).2.2.2.2 ?_
  · (intro w' hSw; go_simp; try with_reducible rfl)
  try simp only [Act.put, List.setIfInBounds_toArray, List.set_cons_zero, List.set_cons_succ]
  refine wpAnyM_take (i := 14) [] (oi := { dst := some 51, op := Op.load 24 (Operand.tmp 5), type := 24, pos := _, after := #[{ on := 13, ground := Ground.guard }], guard := some (13, true) }) (v := .agg #[.bool Gf, .string Glo, .string Ghi, .int .i64 Gr, .slice Gp Gn Gc]) rfl (by kernel_rfl) (by kernel_rfl) (by kernel_rfl) (by kernel_rfl) (fun _ _ _ h => h) (Or.inl ⟨by rfl, ?_⟩) (HX.out _ hB3).2.2.2.2 ?_
  · (intro w' hSw; have m0 : w'.cell? ⟨w1.heap.size, 0, none⟩ = some (.bool Gf) := hSw.2.1.cell 0; have m1 : w'.cell? ⟨w1.heap.size, 1, none⟩ = some (.string Glo) := hSw.2.1.cell 1; have m2 : w'.cell? ⟨w1.heap.size, 2, none⟩ = some (.string Ghi) := hSw.2.1.cell 2; have m3 : w'.cell? ⟨w1.heap.size, 3, none⟩ = some (.int .i64 Gr) := hSw.2.1.cell 3; have m4 : w'.cell? ⟨w1.heap.size, 4, none⟩ = some (.slice Gp Gn Gc) := hSw.2.1.cell 4; go_simp; try with_reducible rfl)
  try simp only [Act.put, List.setIfInBounds_toArray, List.set_cons_zero, List.set_cons_succ]
  refine wpAnyM_take (i := 15) [] (oi := { dst := some 52, op := Op.load 24 (Operand.tmp 7), type := 24, pos := _, after := #[{ on := 13, ground := Ground.guard }], guard := some (13, true) }) (v := .agg #[.bool Gf, .string Glo, .string Ghi, .int .i64 Gr, .slice Hp Gn Hc]) rfl (by kernel_rfl) (by kernel_rfl) (by kernel_rfl) (by kernel_rfl) (fun _ _ _ h => h) (Or.inl ⟨by rfl, ?_⟩) (HX.out _ hB3).2.2.2.2 ?_
  · (intro w' hSw; have m0 : w'.cell? ⟨w3.heap.size, 0, none⟩ = some (.bool Gf) := hSw.2.2.1.cell 0; have m1 : w'.cell? ⟨w3.heap.size, 1, none⟩ = some (.string Glo) := hSw.2.2.1.cell 1; have m2 : w'.cell? ⟨w3.heap.size, 2, none⟩ = some (.string Ghi) := hSw.2.2.1.cell 2; have m3 : w'.cell? ⟨w3.heap.size, 3, none⟩ = some (.int .i64 Gr) := hSw.2.2.1.cell 3; have m4 : w'.cell? ⟨w3.heap.size, 4, none⟩ = some (.slice Hp Gn Hc) := hSw.2.2.1.cell 4; go_simp; try with_reducible rfl)
  try simp only [Act.put, List.setIfInBounds_toArray, List.set_cons_zero, List.set_cons_succ]
  refine wpAnyM_ready (rs := [16]) (by kernel_rfl) (by simp) ?_
  refine AllReadyM.cons (o := { dst := some 53, op := Op.call { callee := Callee.value (Operand.func 16), args := #[Operand.tmp 51, Operand.tmp 52], argTypes := #[24, 24] }, type := 4, pos := _, after := #[{ on := 14, ground := Ground.data }, { on := 15, ground := Ground.data }, { on := 13, ground := Ground.chain }, { on := 13, ground := Ground.guard }], guard := some (13, true) }) rfl (fun K hK => ?_) AllReadyM.nil
  have HK9 : Hid (∀ a w, _ → K a w) := hK
  clear hK
  go_simp
  refine (rsame_any ⟨Gf, Glo, Ghi, Gr, Gl⟩ ⟨Gf, Glo, Ghi, Gr, Gl⟩ Gp Hp Gn Gn Gc Hc _ HGn.out HGn.out (HX.out _ hB3).1 (HX.out _ hB3).2.1 hgn).mono ?_
  rw [Pg.same_self]
  rintro e u4 ⟨rfl, hb⟩
  have hB4 := hB3.trans (hb.mono (HX.out _ hB3).2.2.1)
  clear hb
  refine HK9.out _ _ ⟨fun _ => (HX.out _ hB4).2.2.2.2, ?_⟩
  clear HK9 K
  try simp only [Act.put, List.setIfInBounds_toArray, List.set_cons_zero, List.set_cons_succ]
  refine wpAnyM_take (i := 17) [] (oi := { dst := some 54, op := Op.pick (Operand.tmp 50) (Operand.tmp 53) (Operand.const (Value.bool false)), type := 4, pos := _, after := #[{ on := 13, ground := Ground.data }, { on := 16, ground := Ground.data }], guard := none }) (v := .bool true) rfl (by kernel_rfl) (by kernel_rfl) (by kernel_rfl) (by kernel_rfl) (fun _ _ _ h => h) (Or.inl ⟨by rfl, ?_⟩) (HX.out _ hB4).2.2.2.2 ?_
  · (intro w' hSw; go_simp; try with_reducible rfl)
  try simp only [Act.put, List.setIfInBounds_toArray, List.set_cons_zero, List.set_cons_succ]
  refine wpAnyM_take (i := 18) [] (oi := { dst := some 55, op := Op.move (Operand.tmp 54), type := 4, pos := _, after := #[{ on := 17, ground := Ground.data }, { on := 16, ground := Ground.chain }], guard := none }) (v := .bool true) rfl (by kernel_rfl) (by kernel_rfl) (by kernel_rfl) (by kernel_rfl) (fun _ _ _ h => h) (Or.inl ⟨by rfl, ?_⟩) (HX.out _ hB4).2.2.2.2 ?_
  · (intro w' hSw; go_simp; try with_reducible rfl)
  try simp only [Act.put, List.setIfInBounds_toArray, List.set_cons_zero, List.set_cons_succ]
  refine wpAnyM_take (i := 19) [] (oi := { dst := some 56, op := Op.move (Operand.tmp 10), type := 4, pos := _, after := #[{ on := 18, ground := Ground.guard }], guard := some (18, true) }) (v := .bool us) rfl (by kernel_rfl) (by kernel_rfl) (by kernel_rfl) (by kernel_rfl) (fun _ _ _ h => h) (Or.inl ⟨by rfl, ?_⟩) (HX.out _ hB4).2.2.2.2 ?_
  · (intro w' hSw; go_simp; try with_reducible rfl)
  try simp only [Act.put, List.setIfInBounds_toArray, List.set_cons_zero, List.set_cons_succ]
  refine wpAnyM_take (i := 20) [] (oi := { dst := some 57, op := Op.move (Operand.tmp 12), type := 4, pos := _, after := #[{ on := 18, ground := Ground.guard }], guard := some (18, true) }) (v := .bool us) rfl (by kernel_rfl) (by kernel_rfl) (by kernel_rfl) (by kernel_rfl) (fun _ _ _ h => h) (Or.inl ⟨by rfl, ?_⟩) (HX.out _ hB4).2.2.2.2 ?_
  · (intro w' hSw; go_simp; try with_reducible rfl)
  try simp only [Act.put, List.setIfInBounds_toArray, List.set_cons_zero, List.set_cons_succ]
  refine wpAnyM_take (i := 21) [] (oi := { dst := some 58, op := Op.binOp BinOp.eql 4 (Operand.tmp 56) (Operand.tmp 57) 4, type := 4, pos := _, after := #[{ on := 19, ground := Ground.data }, { on := 20, ground := Ground.data }, { on := 18, ground := Ground.guard }], guard := some (18, true) }) (v := .bool true) rfl (by kernel_rfl) (by kernel_rfl) (by kernel_rfl) (by kernel_rfl) (fun _ _ _ h => h) (Or.inl ⟨by rfl, ?_⟩) (HX.out _ hB4).2.2.2.2 ?_
  · (intro w' hSw; go_simp; try with_reducible rfl)
  try simp only [Act.put, List.setIfInBounds_toArray, List.set_cons_zero, List.set_cons_succ]
  refine wpAnyM_take (i := 22) [] (oi := { dst := some 59, op := Op.pick (Operand.tmp 55) (Operand.tmp 58) (Operand.const (Value.bool false)), type := 4, pos := _, after := #[{ on := 18, ground := Ground.data }, { on := 21, ground := Ground.data }], guard := none }) (v := .bool true) rfl (by kernel_rfl) (by kernel_rfl) (by kernel_rfl) (by kernel_rfl) (fun _ _ _ h => h) (Or.inl ⟨by rfl, ?_⟩) (HX.out _ hB4).2.2.2.2 ?_
  · (intro w' hSw; go_simp; try with_reducible rfl)
  try simp only [Act.put, List.setIfInBounds_toArray, List.set_cons_zero, List.set_cons_succ]
  refine wpAnyM_take (i := 23) [] (oi := { dst := some 60, op := Op.move (Operand.tmp 59), type := 4, pos := _, after := #[{ on := 22, ground := Ground.data }, { on := 18, ground := Ground.chain }], guard := none }) (v := .bool true) rfl (by kernel_rfl) (by kernel_rfl) (by kernel_rfl) (by kernel_rfl) (fun _ _ _ h => h) (Or.inl ⟨by rfl, ?_⟩) (HX.out _ hB4).2.2.2.2 ?_
  · (intro w' hSw; go_simp; try with_reducible rfl)
  try simp only [Act.put, List.setIfInBounds_toArray, List.set_cons_zero, List.set_cons_succ]
  refine wpAnyM_take (i := 24) [] (oi := { dst := some 61, op := Op.load 30 (Operand.tmp 9), type := 30, pos := _, after := #[{ on := 23, ground := Ground.guard }], guard := some (23, true) }) (v := .agg #[.int .i64 zk, .string zek, .int .i64 zes, .int .i64 zeg, .int .i64 zec, .string zkey, .int .i64 zpg, .bool false, .string ⟨#[]⟩, .string ⟨#[]⟩, .int .i64 0, .slice none 0 0]) rfl (by kernel_rfl) (by kernel_rfl) (by kernel_rfl) (by kernel_rfl) (fun _ _ _ h => h) (Or.inl ⟨by rfl, ?_⟩) (HX.out _ hB4).2.2.2.2 ?_
  · (intro w' hSw; have m0 : w'.cell? ⟨w5.heap.size, 0, none⟩ = some (.int .i64 zk) := hSw.2.2.2.1.cell 0; have m1 : w'.cell? ⟨w5.heap.size, 1, none⟩ = some (.string zek) := hSw.2.2.2.1.cell 1; have m2 : w'.cell? ⟨w5.heap.size, 2, none⟩ = some (.int .i64 zes) := hSw.2.2.2.1.cell 2; have m3 : w'.cell? ⟨w5.heap.size, 3, none⟩ = some (.int .i64 zeg) := hSw.2.2.2.1.cell 3; have m4 : w'.cell? ⟨w5.heap.size, 4, none⟩ = some (.int .i64 zec) := hSw.2.2.2.1.cell 4; have m5 : w'.cell? ⟨w5.heap.size, 5, none⟩ = some (.string zkey) := hSw.2.2.2.1.cell 5; have m6 : w'.cell? ⟨w5.heap.size, 6, none⟩ = some (.int .i64 zpg) := hSw.2.2.2.1.cell 6; have m7 : w'.cell? ⟨w5.heap.size, 7, none⟩ = some (.bool false) := hSw.2.2.2.1.cell 7; have m8 : w'.cell? ⟨w5.heap.size, 8, none⟩ = some (.string ⟨#[]⟩) := hSw.2.2.2.1.cell 8; have m9 : w'.cell? ⟨w5.heap.size, 9, none⟩ = some (.string ⟨#[]⟩) := hSw.2.2.2.1.cell 9; have m10 : w'.cell? ⟨w5.heap.size, 10, none⟩ = some (.int .i64 0) := hSw.2.2.2.1.cell 10; have m11 : w'.cell? ⟨w5.heap.size, 11, none⟩ = some (.slice none 0 0) := hSw.2.2.2.1.cell 11; go_simp; try with_reducible rfl)
  try simp only [Act.put, List.setIfInBounds_toArray, List.set_cons_zero, List.set_cons_succ]
  refine wpAnyM_take (i := 25) [] (oi := { dst := some 62, op := Op.load 30 (Operand.tmp 11), type := 30, pos := _, after := #[{ on := 23, ground := Ground.guard }], guard := some (23, true) }) (v := .agg #[.int .i64 zk, .string zek, .int .i64 zes, .int .i64 zeg, .int .i64 zec, .string zkey, .int .i64 zpg, .bool false, .string ⟨#[]⟩, .string ⟨#[]⟩, .int .i64 0, .slice none 0 0]) rfl (by kernel_rfl) (by kernel_rfl) (by kernel_rfl) (by kernel_rfl) (fun _ _ _ h => h) (Or.inl ⟨by rfl, ?_⟩) (HX.out _ hB4).2.2.2.2 ?_
  · (intro w' hSw; have m0 : w'.cell? ⟨w7.heap.size, 0, none⟩ = some (.int .i64 zk) := hSw.2.2.2.2.cell 0; have m1 : w'.cell? ⟨w7.heap.size, 1, none⟩ = some (.string zek) := hSw.2.2.2.2.cell 1; have m2 : w'.cell? ⟨w7.heap.size, 2, none⟩ = some (.int .i64 zes) := hSw.2.2.2.2.cell 2; have m3 : w'.cell? ⟨w7.heap.size, 3, none⟩ = some (.int .i64 zeg) := hSw.2.2.2.2.cell 3; have m4 : w'.cell? ⟨w7.heap.size, 4, none⟩ = some (.int .i64 zec) := hSw.2.2.2.2.cell 4; have m5 : w'.cell? ⟨w7.heap.size, 5, none⟩ = some (.string zkey) := hSw.2.2.2.2.cell 5; have m6 : w'.cell? ⟨w7.heap.size, 6, none⟩ = some (.int .i64 zpg) := hSw.2.2.2.2.cell 6; have m7 : w'.cell? ⟨w7.heap.size, 7, none⟩ = some (.bool false) := hSw.2.2.2.2.cell 7; have m8 : w'.cell? ⟨w7.heap.size, 8, none⟩ = some (.string ⟨#[]⟩) := hSw.2.2.2.2.cell 8; have m9 : w'.cell? ⟨w7.heap.size, 9, none⟩ = some (.string ⟨#[]⟩) := hSw.2.2.2.2.cell 9; have m10 : w'.cell? ⟨w7.heap.size, 10, none⟩ = some (.int .i64 0) := hSw.2.2.2.2.cell 10; have m11 : w'.cell? ⟨w7.heap.size, 11, none⟩ = some (.slice none 0 0) := hSw.2.2.2.2.cell 11; go_simp; try with_reducible rfl)
  try simp only [Act.put, List.setIfInBounds_toArray, List.set_cons_zero, List.set_cons_succ]
  refine wpAnyM_ready (rs := [26]) (by kernel_rfl) (by simp) ?_
  refine AllReadyM.cons (o := { dst := some 63, op := Op.call { callee := Callee.value (Operand.func 17), args := #[Operand.tmp 61, Operand.tmp 62], argTypes := #[30, 30] }, type := 4, pos := _, after := #[{ on := 24, ground := Ground.data }, { on := 25, ground := Ground.data }, { on := 23, ground := Ground.chain }, { on := 23, ground := Ground.guard }], guard := some (23, true) }) rfl (fun K hK => ?_) AllReadyM.nil
  have HK9 : Hid (∀ a w, _ → K a w) := hK
  clear hK
  go_simp
  refine (drsame_any ⟨zk, ⟨zek, zes, zeg, zec⟩, zkey, zpg, Pg.zero⟩ ⟨zk, ⟨zek, zes, zeg, zec⟩, zkey, zpg, Pg.zero⟩ none none 0 0 0 0 _ rfl rfl (Ens.nil _ _) (Ens.nil _ _) (by omega)).mono ?_
  rw [Dl.same_self]
  rintro e u5 ⟨rfl, hb⟩
  have hB5 := hB4.trans (hb.mono (HX.out _ hB4).2.2.1)
  clear hb
  refine HK9.out _ _ ⟨fun _ => (HX.out _ hB5).2.2.2.2, ?_⟩
  clear HK9 K
  try simp only [Act.put, List.setIfInBounds_toArray, List.set_cons_zero, List.set_cons_succ]
  refine wpAnyM_take (i := 27) [] (oi := { dst := some 64, op := Op.pick (Operand.tmp 60) (Operand.tmp 63) (Operand.const (Value.bool false)), type := 4, pos := _, after := #[{ on := 23, ground := Ground.data }, { on := 26, ground := Ground.data }], guard := none }) (v := .bool true) rfl (by kernel_rfl) (by kernel_rfl) (by kernel_rfl) (by kernel_rfl) (fun _ _ _ h => h) (Or.inl ⟨by rfl, ?_⟩) (HX.out _ hB5).2.2.2.2 ?_
  · (intro w' hSw; go_simp; try with_reducible rfl)
  try simp only [Act.put, List.setIfInBounds_toArray, List.set_cons_zero, List.set_cons_succ]
  refine wpAnyM_ready (rs := [28]) (by kernel_rfl) (by simp) ?_
  refine AllReadyM.cons (o := { dst := some 4, op := Op.assign (Operand.tmp 64), type := 4, pos := _, after := #[{ on := 27, ground := Ground.data }, { on := 26, ground := Ground.chain }, { on := 0, ground := Ground.phase }, { on := 1, ground := Ground.phase }, { on := 2, ground := Ground.phase }, { on := 3, ground := Ground.phase }, { on := 4, ground := Ground.phase }, { on := 5, ground := Ground.phase }, { on := 6, ground := Ground.phase }, { on := 7, ground := Ground.phase }, { on := 8, ground := Ground.phase }, { on := 9, ground := Ground.phase }, { on := 10, ground := Ground.phase }, { on := 11, ground := Ground.phase }, { on := 12, ground := Ground.phase }, { on := 13, ground := Ground.phase }, { on := 14, ground := Ground.phase }, { on := 15, ground := Ground.phase }, { on := 16, ground := Ground.phase }, { on := 17, ground := Ground.phase }, { on := 18, ground := Ground.phase }, { on := 19, ground := Ground.phase }, { on := 20, ground := Ground.phase }, { on := 21, ground := Ground.phase }, { on := 22, ground := Ground.phase }, { on := 23, ground := Ground.phase }, { on := 24, ground := Ground.phase }, { on := 25, ground := Ground.phase }, { on := 26, ground := Ground.phase }, { on := 27, ground := Ground.phase }], guard := none }) rfl (fun K hK => ?_) AllReadyM.nil
  have HK9 : Hid (∀ a w, _ → K a w) := hK
  clear hK
  go_simp
  refine HK9.out _ _ ⟨fun _ => (HX.out _ hB5).2.2.2.2, ?_⟩
  clear HK9 K
  try simp only [Act.put, List.setIfInBounds_toArray, List.set_cons_zero, List.set_cons_succ]
  refine wpAnyM_done (by kernel_rfl) ?_ _
  go_wp2
  go_ret
  exact ⟨rfl, (HX.out _ hB5).2.2.2.1⟩

theorem walk_deltaApplies (pf : Bool) (plo phi : ByteArray) (pr : Int) (pp : Option Addr) (pn pc : Nat) (pl : List En) (d : De) (dp : Option Addr) (dn dc : Nat) (w : World) (hp : InE 1048576 w pp pn pc pl) (hd : InD 1048576 w d dp dn dc) :
    Calls Tryz.prog 3 #[.agg #[.bool pf, .string plo, .string phi, .int .i64 pr, .slice pp pn pc], dlv d.k d.e d.key d.pg d.rt.leaf d.rt.lo d.rt.hi d.rt.r dp dn dc] w fun e w' => e = .returned (.bool true) ∧ Below w.heap.size w w' :=
  walkd_deltaApplies pf plo phi pr pp pn pc pl d.k d.e.key d.e.s d.e.g d.e.c d.key d.pg d.rt.leaf d.rt.lo d.rt.hi d.rt.r d.rt.l dp dn dc w hp hd.right


theorem contract_deltaApplies (H : Type) (enc : TypeId × Value → H) (W : World) (base : Nat) (args : Array Value) (ds gs : List (DataW H)) (before : List MemPlace)
    (hval0 : ∀ (j : Nat) t v, Tryz.f3.params[j]? = some t → args[j]? = some v → Value.okWide Tryz.prog W .any base t v)
    (hW : DataW.Whole enc Tryz.prog Tryz.f3.params.toList Rows.deltaAppliesSpec.vars false W args.toList ds gs before) (hk : Rows.uptoSmall H (ds ++ gs) = true) :
    Calls Tryz.prog 3 args W fun e W' => ∃ v, e = .returned v ∧ Rows.deltaAppliesSpec.post enc Tryz.prog Tryz.f3 false true false false W args v W' := by
  have hval : ∀ (j : Nat) t v, Tryz.f3.params[j]? = some t → args[j]? = some v → Value.okWide Tryz.prog W .any base t v := hval0
  have hW' := hW
  obtain ⟨p, q, hA0, hV, rfl, hfz, hnd⟩ := hW
  have hA : DataW.TrodAll enc Tryz.prog W 0 (fun _ => true) true Tryz.f3.params.toList args.toList ds p := hA0
  rw [Tryz.params3] at hA hval
  obtain ⟨v0, vs0, d0, ds0, p0, q0, hargs, rfl, rfl, h0, r0⟩ := trodAll_cons hA
  obtain ⟨v1, vs1, d1, ds1, p1, q1, rfl, rfl, rfl, h1, r1⟩ := trodAll_cons r0
  obtain ⟨rfl, rfl, rfl⟩ := trodAll_nil r1
  obtain rfl : args = #[v0, v1] := by cases args; simp_all
  obtain ⟨rfl, rfl⟩ := trodVars_none hV
  simp only [List.append_nil] at hk
  have k0 := h0
  have lt0 : ∀ x ∈ p0, x.block < W.heap.size := by obtain ⟨m, hm⟩ := k0; exact DataW.trod_lt m _ _ _ hm
  obtain ⟨b0, lo0, hi0, r0', a0, len0, cap0, l0, e0, w0⟩ : ∃ leaf lo hi r a len cap l, v0 = .agg #[.bool leaf, .string lo, .string hi, .int .i64 r, .slice a len cap] ∧ InE 1048576 W a len cap l := by
    obtain ⟨cs, hcs, _⟩ := okWide_struct Tryz.underlying24 (hval 0 24 v0 rfl rfl)
    obtain ⟨fuel, hf⟩ := h0
    obtain ⟨b, lo, hi, r, a, len, cap, l, hg, ho⟩ := in_page (M := 1048576) hf (page_upto hk (by simp))
    refine ⟨b, lo, hi, r, a, len, cap, l, ?_, ho⟩
    rw [hcs] at hg ⊢
    congr 1
    apply Array.ext'
    simpa [Value.cells] using hg
  subst e0
  have k1 := h1
  have lt1 : ∀ x ∈ p1, x.block < W.heap.size := by obtain ⟨m, hm⟩ := k1; exact DataW.trod_lt m _ _ _ hm
  obtain ⟨g1, a1, len1, cap1, e1, w1⟩ : ∃ (d : De) (a : Option Addr) (len cap : Nat), v1 = dlv d.k d.e d.key d.pg d.rt.leaf d.rt.lo d.rt.hi d.rt.r a len cap ∧ InD 1048576 W d a len cap := by
    obtain ⟨cs, hcs, _⟩ := okWide_struct Tryz.underlying30 (hval 1 30 v1 rfl rfl)
    obtain ⟨fuel, hf⟩ := h1
    obtain ⟨d, a, len, cap, hg, ho⟩ := in_delta (M := 1048576) hf (delta_upto hk (by simp))
    refine ⟨d, a, len, cap, ?_, ho⟩
    rw [hcs] at hg ⊢
    congr 1
    apply Array.ext'
    simpa [Value.cells] using hg
  subst e1
  clear hA0 hval0
  simp only [List.append_nil] at hW'
  refine (walk_deltaApplies b0 lo0 hi0 r0' a0 len0 cap0 l0 g1 a1 len1 cap1 W w0 w1).mono fun e W' ⟨he, bel⟩ => ?_
  subst he
  exact ⟨_, rfl, _, _, _, [], _, [], hW', trodAll_mk1 (shut_bool Tryz.underlying4 _), (trodAll_cons_mk (Below.trod laidOut (by kernel_rfl) (of_decide_eq_true (by kernel_rfl)) k0 bel lt0) (trodAll_cons_mk (Below.trod laidOut (by kernel_rfl) (of_decide_eq_true (by kernel_rfl)) k1 bel lt1) trodAll_mk0)), rfl, bel.frame _, fun h => by cases h⟩

set_option maxRecDepth 100000 in
set_option maxHeartbeats 2000000 in
theorem lifted_deltaApplies (os : Os) (started : os.Started) (H : Type) (enc : TypeId × Value → H) (F : Stop.Interp) :
    ReturnsInHanded {} Tryz.checked os 3 .any ((Rows.OpenSpec.upto Rows.deltaAppliesSpec).pre6 enc Tryz.prog Tryz.f3 Rows.deltaAppliesUptoRow.domain false) (((Rows.OpenSpec.upto Rows.deltaAppliesSpec).at F).post enc Tryz.prog Tryz.f3 false true false false) := by
  refine returnsInHanded_of_cond (C := Tryz.checked) (s := Rows.OpenSpec.upto Rows.deltaAppliesSpec) (k := Rows.uptoSmall) rfl own started (by kernel_rfl) Tryz.func3
    (OpenSpec.witness (enc := enc) (C := Tryz.checked) (s := Rows.OpenSpec.upto Rows.deltaAppliesSpec) (k := Rows.uptoSmall) rfl false ⟨#[], #[.agg #[.bool false, .string .empty, .string .empty, .int .i64 0, .slice none 0 0], .agg #[.int .i64 0, .string .empty, .int .i64 0, .int .i64 0, .int .i64 0, .string .empty, .int .i64 0, .bool false, .string .empty, .string .empty, .int .i64 0, .slice none 0 0]], []⟩ 8 (by kernel_rfl) (by kernel_rfl) (by kernel_rfl)
      (x := ([.agg [.lit (.bool false), .lit (.string []), .lit (.string []), .lit (.int .i64 0), .nil], .agg [.lit (.int .i64 0), .agg [.lit (.string []), .agg [.lit (.int .i64 0), .lit (.int .i64 0)], .lit (.int .i64 0)], .lit (.string []), .lit (.int .i64 0), .agg [.lit (.bool false), .lit (.string []), .lit (.string []), .lit (.int .i64 0), .nil]]], [], [])) (by kernel_rfl) rfl (by kernel_rfl)) ?_
  intro W base args ds gs before hval hW _ hk _
  exact contract_deltaApplies H enc W base args ds gs before hval hW hk

/-- The statement. -/
theorem deltaApplies_holds : Rows.DeltaAppliesUptoSaid :=
  OpenClaim.holds_of_cond 3 Tryz.f3 rfl rfl rfl rfl rfl rfl rfl ⟨rfl, rfl, rfl, rfl, rfl⟩ rfl rfl rfl rfl rfl (by kernel_rfl) Tryz.func3 (by kernel_rfl)
    (of_decide_eq_true (by kernel_rfl)) (by unfold Func.isWrapper; first | (rw [if_pos (by decide +kernel)]; kernel_rfl) | (rw [if_neg (by decide +kernel)]; exact ⟨rfl, rfl⟩))
    (fun os started H enc _ F => lifted_deltaApplies os started H enc F)
#print axioms deltaApplies_holds
end Go.Proofs.YtkmlholjglmfnaaGreat
