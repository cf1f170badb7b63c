/- Two pages as one (the document's). -/
import Derived.Test.YtakibndjmhadnaaPgMm
import Derived.Test.YtakibndjmhadnaaPgRf
namespace Go.Proofs.Ytakibndjmhadnaa
open Go.RowKit Go.Sort
set_option linter.unusedVariables false
set_option maxRecDepth 100000

set_option maxHeartbeats 2000000 in
theorem rmerge_any (a b : Pp) (pa pb : Option Addr) (na nb ca cb : Nat) (w : World) (hna : a.l.length = na) (hnb : b.l.length = nb) (ha : Ens w pa a.l) (hb : Ens w pb b.l) (hpa : pa = none → na = 0 ∧ ca = 0) (hpb : pb = none → nb = 0 ∧ cb = 0) (hl : (na + nb) * 40 ≤ 140737488355328) (hla : na ≤ 3518437208782) :
    Calls Try.prog 31 #[pgv a.leaf a.lo a.hi a.r pa na ca, pgv b.leaf b.lo b.hi b.r pb nb cb] w fun e w' => ∃ v, e = .returned (.tuple #[v, .int .i64 (Pg.merge a b).2]) ∧ PgAt w' w.heap.size v (Pg.merge a b).1 ∧ Below w.heap.size w w' := by
  obtain ⟨w0, hw0⟩ : ∃ w0, w0 = ((w.alloc (.cells (pgc a.leaf a.lo a.hi a.r pa na ca) 24)).alloc (.cells (pgc b.leaf b.lo b.hi b.r pb nb cb) 24)).alloc (.cells zc 24) := ⟨_, rfl⟩
  have HB0 : Hid (Below w.heap.size w w0) := by rw [hw0]; exact (((Below.refl _ _).alloc (Nat.le_refl _) _).alloc (by simp) _).alloc (by simp; omega) _
  have HK0 : Hid (Bk w0 w.heap.size 24 (pgc a.leaf a.lo a.hi a.r pa na ca)) := by rw [hw0]; exact ((Bk.new _ _ _).alloc _).alloc _
  have HR0 : Hid (Bk w0 (w.heap.size + 1) 24 (pgc b.leaf b.lo b.hi b.r pb nb cb)) := by rw [hw0]; exact (Bk.new1 _ _ _ _).alloc _
  have HS0 : Hid (Bk w0 (w.heap.size + 1 + 1) 24 zc) := by rw [hw0]; exact Bk.new2 _ _ _ _ _
  have HNA : Hid (a.l.length = na) := hna
  have HNB : Hid (b.l.length = nb) := hnb
  have HA : Hid (Ens w pa a.l) := ha
  have HE : Hid (Ens w pb b.l) := hb
  have HPA : Hid (pa = none → na = 0 ∧ ca = 0) := hpa
  have HPB : Hid (pb = none → nb = 0 ∧ cb = 0) := hpb
  obtain ⟨out, hout⟩ : ∃ out, Pg.merge a b = out := ⟨_, rfl⟩
  rw [hout]
  have HO : Hid (out = if (a.leaf == b.leaf) && (!a.hi.toList.isEmpty && (a.hi.toList == b.lo.toList)) then (⟨a.leaf, a.lo, b.hi, b.r, a.l ++ b.l⟩, 0) else (Pg.zero, 72)) := hout.symm
  clear hout hna hnb ha hb hpa hpb
  obtain ⟨la, aa, ab, ar, al⟩ := a
  obtain ⟨lb, ba, bb, br, bl⟩ := b
  simp only at *
  have a0 : w0.cell? ⟨w.heap.size, 0, none⟩ = some (.bool la) := HK0.out.cell 0
  have a1 : w0.cell? ⟨w.heap.size, 1, none⟩ = some (.string aa) := HK0.out.cell 1
  have a2 : w0.cell? ⟨w.heap.size, 2, none⟩ = some (.string ab) := HK0.out.cell 2
  have a4 : w0.cell? ⟨w.heap.size, 4, none⟩ = some (.slice pa na ca) := HK0.out.cell 4
  have b0 : w0.cell? ⟨w.heap.size + 1, 0, none⟩ = some (.bool lb) := HR0.out.cell 0
  have b1 : w0.cell? ⟨w.heap.size + 1, 1, none⟩ = some (.string ba) := HR0.out.cell 1
  have b2 : w0.cell? ⟨w.heap.size + 1, 2, none⟩ = some (.string bb) := HR0.out.cell 2
  have b3 : w0.cell? ⟨w.heap.size + 1, 3, none⟩ = some (.int .i64 br) := HR0.out.cell 3
  have b4 : w0.cell? ⟨w.heap.size + 1, 4, none⟩ = some (.slice pb nb cb) := HR0.out.cell 4
  cases h0 : (la == lb) with
  | false =>
    rw [h0] at HO
    have HQ : Hid (out = (Pg.zero, 72)) := HO
    go_enter Try.func31, Try.ntmps31
    go_wp2_with fail
    all_goals try rw [← hw0]
    all_goals try clear hw0
    refine bodyPost_ret (results_two (cs := [.bool false, .string ⟨#[]⟩, .string ⟨#[]⟩, .int .i64 0, .slice none 0 0]) rfl rfl pg_agg pg_size rfl HS0.out) rfl ?_
    rw [HQ.out]
    exact ⟨_, rfl, PgAt.zero _ _, HB0.out⟩
  | true =>
    cases h1 : ab.toList.isEmpty with
    | true =>
      rw [h0, h1] at HO
      have HQ : Hid (out = (Pg.zero, 72)) := HO
      go_enter Try.func31, Try.ntmps31
      go_wp2_with fail
      all_goals try rw [← hw0]
      all_goals try clear hw0
      refine bodyPost_ret (results_two (cs := [.bool false, .string ⟨#[]⟩, .string ⟨#[]⟩, .int .i64 0, .slice none 0 0]) rfl rfl pg_agg pg_size rfl HS0.out) rfl ?_
      rw [HQ.out]
      exact ⟨_, rfl, PgAt.zero _ _, HB0.out⟩
    | false =>
      cases h2 : (ab.toList == ba.toList) with
      | false =>
        rw [h0, h1, h2] at HO
        have HQ : Hid (out = (Pg.zero, 72)) := HO
        go_enter Try.func31, Try.ntmps31
        go_wp2_with fail
        all_goals try rw [← hw0]
        all_goals try clear hw0
        refine bodyPost_ret (results_two (cs := [.bool false, .string ⟨#[]⟩, .string ⟨#[]⟩, .int .i64 0, .slice none 0 0]) rfl rfl pg_agg pg_size rfl HS0.out) rfl ?_
        rw [HQ.out]
        exact ⟨_, rfl, PgAt.zero _ _, HB0.out⟩
      | true =>
        rw [h0, h1, h2] at HO
        have HQ : Hid (out = (⟨la, aa, bb, br, al ++ bl⟩, 0)) := HO
        go_enter Try.func31, Try.ntmps31
        have a3 : w0.cell? ⟨w.heap.size, 3, none⟩ = some (.int .i64 ar) := HK0.out.cell 3
        go_wp2_with fail
        all_goals try rw [← hw0]
        all_goals try clear hw0
        clear a0 a1 a2 a3 a4 b0 b1 b2 b3 b4
        refine (rclone_any la aa ab ar pa na ca al _ HNA.out (HA.out.below HB0.out (Nat.le_refl _)) hla HPA.out).mono ?_
        rintro e w1 ⟨p1, c1, rfl, ho1, hb1⟩
        obtain ⟨wa, hwa⟩ : ∃ wa, w1.alloc (.cells #[.bool la, .string aa, .string ab, .int .i64 ar, .slice p1 na c1] 24) = wa := ⟨_, rfl⟩
        have hba : Below w1.heap.size w1 wa := by rw [← hwa]; exact (Below.refl _ _).alloc (Nat.le_refl _) _
        have hXa : Bk wa w1.heap.size 24 #[.bool la, .string aa, .string ab, .int .i64 ar, .slice p1 na c1] := by rw [← hwa]; exact Bk.new _ _ _
        have hb1a : Below w0.heap.size w0 wa := hb1.trans (hba.mono hb1.size)
        have hoa : OwnE wa w0.heap.size (.slice p1 na c1) al := ho1.below hba (Nat.le_refl _)
        obtain ⟨v2, w2, hr, ho2, hg2, h5⟩ := run_appE wa w0.heap.size 22 (.slice p1 na c1) al bl pb nb cb HNB.out ((HE.out.below HB0.out (Nat.le_refl _)).below hb1a (Nat.le_refl _)) HPB.out hoa (by rw [HNA.out]; exact hl) hb1a.size
        have hb2 : Below w0.heap.size w0 w2 := hb1a.grown hg2 hb1a.size (fun k hk => (World.ownsRow.lt hoa k hk).1)
        have hX2 : Bk w2 w1.heap.size 24 #[.bool la, .string aa, .string ab, .int .i64 ar, .slice p1 na c1] := (hg2.block _ hXa.lt (fun e => by have := (World.ownsRow.lt ho1 _ e.symm).2; omega)).trans hXa
        obtain ⟨q2, d2, rfl, -, -⟩ := ho2.ens
        have HNE : Hid (∀ g o, q2 = some ⟨g, o, none⟩ → g ≠ w1.heap.size) := by
          intro g o hq
          subst hq
          rcases h5 with e | e
          · have := (World.ownsRow.lt ho1 g e.symm).2
            omega
          · have h6 : some g = some wa.heap.size := e
            have h7 := Option.some.inj h6
            have h8 : wa.heap.size = w1.heap.size + 1 := by rw [← hwa]; simp
            omega
        obtain ⟨n2, HN2⟩ : ∃ n2, Hid ((al ++ bl).length = n2) := ⟨_, rfl⟩
        rw [HN2.out] at ho2 hr
        have HR : Hid _ := hr
        have HO2 : Hid (OwnE w2 w0.heap.size (.slice q2 n2 d2) (al ++ bl)) := ho2
        have HX2 : Hid (Bk w2 w1.heap.size 24 #[.bool la, .string aa, .string ab, .int .i64 ar, .slice p1 na c1]) := hX2
        have HB2 : Hid (Below w.heap.size w w2) := HB0.out.trans (hb2.mono HB0.out.size)
        have HR2 : Hid (Bk w2 (w.heap.size + 1) 24 (pgc lb ba bb br pb nb cb)) := HR0.out.below hb2 HR0.out.lt
        have HS2 : Hid (Bk w2 (w.heap.size + 1 + 1) 24 zc) := HS0.out.below hb2 HS0.out.lt
        have HRa : Hid (Bk wa (w.heap.size + 1) 24 (pgc lb ba bb br pb nb cb)) := HR0.out.below hb1a HR0.out.lt
        have HSZ : Hid (w.heap.size + 1 + 1 < w0.heap.size ∧ w0.heap.size ≤ w1.heap.size) := ⟨HS0.out.lt, hb1.size⟩
        have ya : wa.cell? ⟨w1.heap.size, 4, none⟩ = some (.slice p1 na c1) := hXa.cell 4
        have yb : wa.cell? ⟨w.heap.size + 1, 4, none⟩ = some (.slice pb nb cb) := HRa.out.cell 4
        clear ho1 hb1 hba hXa hb1a hoa hr ho2 hg2 hb2 hX2 h5
        have m1 : ¬ w1.heap.size = w.heap.size + 1 + 1 := by have := HSZ.out; omega
        have m2 : ¬ w.heap.size + 1 + 1 = w1.heap.size := by have := HSZ.out; omega
        have m3 : ¬ w1.heap.size = w.heap.size + 1 := by have := HSZ.out; omega
        have m4 : ¬ w.heap.size + 1 = w1.heap.size := by have := HSZ.out; omega
        have x0 : w2.cell? ⟨w1.heap.size, 0, none⟩ = some (.bool la) := HX2.out.cell 0
        have x1 : w2.cell? ⟨w1.heap.size, 1, none⟩ = some (.string aa) := HX2.out.cell 1
        have x2 : w2.cell? ⟨w1.heap.size, 2, none⟩ = some (.string ab) := HX2.out.cell 2
        have x3 : w2.cell? ⟨w1.heap.size, 3, none⟩ = some (.int .i64 ar) := HX2.out.cell 3
        have x4 : w2.cell? ⟨w1.heap.size, 4, none⟩ = some (.slice p1 na c1) := HX2.out.cell 4
        have z2 : w2.frozen? ⟨w1.heap.size, 2, none⟩ = false := HX2.out.frozen 2
        have z3 : w2.frozen? ⟨w1.heap.size, 3, none⟩ = false := HX2.out.frozen 3
        have z4 : w2.frozen? ⟨w1.heap.size, 4, none⟩ = false := HX2.out.frozen 4
        have y2 : w2.cell? ⟨w.heap.size + 1, 2, none⟩ = some (.string bb) := HR2.out.cell 2
        have y3 : w2.cell? ⟨w.heap.size + 1, 3, none⟩ = some (.int .i64 br) := HR2.out.cell 3
        have c0 : w2.cell? ⟨w.heap.size + 1 + 1, 0, none⟩ = some (.bool false) := HS2.out.cell 0
        have f0 : w2.frozen? ⟨w.heap.size + 1 + 1, 0, none⟩ = false := HS2.out.frozen 0
        have c1 : w2.cell? ⟨w.heap.size + 1 + 1, 1, none⟩ = some (.string ⟨#[]⟩) := HS2.out.cell 1
        have f1 : w2.frozen? ⟨w.heap.size + 1 + 1, 1, none⟩ = false := HS2.out.frozen 1
        have c2 : w2.cell? ⟨w.heap.size + 1 + 1, 2, none⟩ = some (.string ⟨#[]⟩) := HS2.out.cell 2
        have f2 : w2.frozen? ⟨w.heap.size + 1 + 1, 2, none⟩ = false := HS2.out.frozen 2
        have c3 : w2.cell? ⟨w.heap.size + 1 + 1, 3, none⟩ = some (.int .i64 0) := HS2.out.cell 3
        have f3 : w2.frozen? ⟨w.heap.size + 1 + 1, 3, none⟩ = false := HS2.out.frozen 3
        have c4 : w2.cell? ⟨w.heap.size + 1 + 1, 4, none⟩ = some (.slice none 0 0) := HS2.out.cell 4
        have f4 : w2.frozen? ⟨w.heap.size + 1 + 1, 4, none⟩ = false := HS2.out.frozen 4
        go_wp2_with (at_builtin; refine Lib.wpList_append_run _ rfl _ _ _ _ rfl _ _ rfl rfl _ _ HR.out ?_)
        go_region
        go_wp2
        obtain ⟨we, hwe⟩ : ∃ we, we = (put5 (((w2.setCell ⟨w1.heap.size, 4, none⟩ (.slice q2 n2 d2)).setCell ⟨w1.heap.size, 2, none⟩ (.string bb)).setCell ⟨w1.heap.size, 3, none⟩ (.int .i64 br)) (w.heap.size + 1 + 1) (.bool la) (.string aa) (.string bb) (.int .i64 br) (.slice q2 n2 d2)).drew := ⟨_, rfl⟩
        have hA : Bk we (w.heap.size + 1 + 1) 24 #[.bool la, .string aa, .string bb, .int .i64 br, .slice q2 n2 d2] := by
          rw [hwe]
          exact (Bk.five (((HS2.out.other (p := ⟨w1.heap.size, 4, none⟩) m2 _).other (p := ⟨w1.heap.size, 2, none⟩) m2 _).other (p := ⟨w1.heap.size, 3, none⟩) m2 _) _ _ _ _ _).drew
        have ht : Tn [w1.heap.size, w.heap.size + 1 + 1] w2 we := by
          rw [hwe]
          exact (((((Tn.refl _ _).setCell (p := ⟨w1.heap.size, 4, none⟩) (.inl (by simp)) _).setCell (p := ⟨w1.heap.size, 2, none⟩) (.inl (by simp)) _).setCell (p := ⟨w1.heap.size, 3, none⟩) (.inl (by simp)) _).five (.inl (by simp)) _ _ _ _ _).drew
        unfold put5 at hwe
        rw [← hwe]
        clear hwe
        refine bodyPost_ret (results_two (cs := [.bool la, .string aa, .string bb, .int .i64 br, .slice q2 n2 d2]) rfl rfl pg_agg pg_size rfl hA) rfl ?_
        rw [HQ.out]
        have hlt := HSZ.out
        refine ⟨_, rfl, ⟨q2, d2, by simp only [HN2.out], ?_⟩, HB2.out.trans (ht.below HB2.out.size (by simp; omega))⟩
        simp only [HN2.out]
        refine (HO2.out.seg.keep fun g o hq => ht.block g (HO2.out.seg.lt hq).2 ?_).mono HB0.out.size
        have h1 := HNE.out g o hq
        have h2 := (HO2.out.seg.lt hq).1
        simp only [List.mem_cons, List.not_mem_nil, or_false]
        omega

end Go.Proofs.Ytakibndjmhadnaa
