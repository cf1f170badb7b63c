/- Two pages as one (the code's). -/
import Derived.Test.YtoehlgigidgfpaaGreatPgMg
import Derived.Deep.RegionHeld3
namespace Go.Proofs.YtoehlgigidgfpaaGreat
open Go.RowKit Go.Sort
set_option linter.unusedVariables false
set_option maxRecDepth 100000

namespace Pg
def joins (a b : Pp) : Bool := (a.leaf == b.leaf) && (!a.hi.toList.isEmpty && (a.hi.toList == b.lo.toList))
/-- Two pages as one. -/
def merge (a b : Pp) : Pp × Int := if joins a b then (⟨a.leaf, a.lo, b.hi, b.r, a.l ++ b.l⟩, 0) else (zero, 72)
end Pg

set_option maxHeartbeats 2000000 in
theorem merge_any (a b : Pp) (pa pb : Option Addr) (na nb ca cb : Nat) (w : World) (hna : a.l.length = na) (hnb : b.l.length = nb) (ha : Ens w pa a.l) (hb : Ens w pb b.l) (hpa : pa = none → na = 0 ∧ ca = 0) (hpb : pb = none → nb = 0 ∧ cb = 0) (hl : (na + nb) * 40 ≤ 140737488355328) (hla : na ≤ 3518437208782) :
    Calls Tryz.prog 148 #[pgv a.leaf a.lo a.hi a.r pa na ca, pgv b.leaf b.lo b.hi b.r pb nb cb] w fun e w' => ∃ v, e = .returned (.tuple #[v, .int .i64 (Pg.merge a b).2]) ∧ PgAt w' w.heap.size v (Pg.merge a b).1 ∧ Below w.heap.size w w' := by
  obtain ⟨w0, hw0⟩ : ∃ w0, w0 = ((w.alloc (.cells (pgc a.leaf a.lo a.hi a.r pa na ca) 29)).alloc (.cells (pgc b.leaf b.lo b.hi b.r pb nb cb) 29)).alloc (.cells zc 29) := ⟨_, rfl⟩
  have HB0 : Hid (Below w.heap.size w w0) := by rw [hw0]; exact (((Below.refl _ _).alloc (Nat.le_refl _) _).alloc (by simp) _).alloc (by simp; omega) _
  have HK0 : Hid (Bk w0 w.heap.size 29 (pgc a.leaf a.lo a.hi a.r pa na ca)) := by rw [hw0]; exact ((Bk.new _ _ _).alloc _).alloc _
  have HR0 : Hid (Bk w0 (w.heap.size + 1) 29 (pgc b.leaf b.lo b.hi b.r pb nb cb)) := by rw [hw0]; exact (Bk.new1 _ _ _ _).alloc _
  have HS0 : Hid (Bk w0 (w.heap.size + 1 + 1) 29 zc) := by rw [hw0]; exact Bk.new2 _ _ _ _ _
  have HNA : Hid (a.l.length = na) := hna
  have HNB : Hid (b.l.length = nb) := hnb
  have HA : Hid (Ens w pa a.l) := ha
  have HE : Hid (Ens w pb b.l) := hb
  have HPA : Hid (pa = none → na = 0 ∧ ca = 0) := hpa
  have HPB : Hid (pb = none → nb = 0 ∧ cb = 0) := hpb
  obtain ⟨out, hout⟩ : ∃ out, Pg.merge a b = out := ⟨_, rfl⟩
  rw [hout]
  have HO : Hid (out = if (a.leaf == b.leaf) && (!a.hi.toList.isEmpty && (a.hi.toList == b.lo.toList)) then (⟨a.leaf, a.lo, b.hi, b.r, a.l ++ b.l⟩, 0) else (Pg.zero, 72)) := hout.symm
  clear hout hna hnb ha hb hpa hpb
  obtain ⟨la, aa, ab, ar, al⟩ := a
  obtain ⟨lb, ba, bb, br, bl⟩ := b
  simp only at *
  have a0 : w0.cell? ⟨w.heap.size, 0, none⟩ = some (.bool la) := HK0.out.cell 0
  have a1 : w0.cell? ⟨w.heap.size, 1, none⟩ = some (.string aa) := HK0.out.cell 1
  have a2 : w0.cell? ⟨w.heap.size, 2, none⟩ = some (.string ab) := HK0.out.cell 2
  have a4 : w0.cell? ⟨w.heap.size, 4, none⟩ = some (.slice pa na ca) := HK0.out.cell 4
  have b0 : w0.cell? ⟨w.heap.size + 1, 0, none⟩ = some (.bool lb) := HR0.out.cell 0
  have b1 : w0.cell? ⟨w.heap.size + 1, 1, none⟩ = some (.string ba) := HR0.out.cell 1
  have b2 : w0.cell? ⟨w.heap.size + 1, 2, none⟩ = some (.string bb) := HR0.out.cell 2
  have b3 : w0.cell? ⟨w.heap.size + 1, 3, none⟩ = some (.int .i64 br) := HR0.out.cell 3
  have b4 : w0.cell? ⟨w.heap.size + 1, 4, none⟩ = some (.slice pb nb cb) := HR0.out.cell 4
  cases h0 : (la == lb) with
  | false =>
    rw [h0] at HO
    have HQ : Hid (out = (Pg.zero, 72)) := HO
    go_enter Tryz.func148, Tryz.ntmps148
    go_wp2_with fail
    all_goals try rw [← hw0]
    all_goals try clear hw0
    refine bodyPost_ret (results_two (cs := [.bool false, .string ⟨#[]⟩, .string ⟨#[]⟩, .int .i64 0, .slice none 0 0]) rfl rfl pg_agg pg_size rfl HS0.out) rfl ?_
    rw [HQ.out]
    exact ⟨_, rfl, PgAt.zero _ _, HB0.out⟩
  | true =>
    cases h1 : ab.toList.isEmpty with
    | true =>
      rw [h0, h1] at HO
      have HQ : Hid (out = (Pg.zero, 72)) := HO
      go_enter Tryz.func148, Tryz.ntmps148
      go_wp2_with fail
      all_goals try rw [← hw0]
      all_goals try clear hw0
      refine bodyPost_ret (results_two (cs := [.bool false, .string ⟨#[]⟩, .string ⟨#[]⟩, .int .i64 0, .slice none 0 0]) rfl rfl pg_agg pg_size rfl HS0.out) rfl ?_
      rw [HQ.out]
      exact ⟨_, rfl, PgAt.zero _ _, HB0.out⟩
    | false =>
      cases h2 : (ab.toList == ba.toList) with
      | false =>
        rw [h0, h1, h2] at HO
        have HQ : Hid (out = (Pg.zero, 72)) := HO
        go_enter Tryz.func148, Tryz.ntmps148
        go_wp2_with fail
        all_goals try rw [← hw0]
        all_goals try clear hw0
        refine bodyPost_ret (results_two (cs := [.bool false, .string ⟨#[]⟩, .string ⟨#[]⟩, .int .i64 0, .slice none 0 0]) rfl rfl pg_agg pg_size rfl HS0.out) rfl ?_
        rw [HQ.out]
        exact ⟨_, rfl, PgAt.zero _ _, HB0.out⟩
      | true =>
        rw [h0, h1, h2] at HO
        have HQ : Hid (out = (⟨la, aa, bb, br, al ++ bl⟩, 0)) := HO
        go_enter Tryz.func148, Tryz.ntmps148
        go_wp2_with fail
        all_goals try rw [← hw0]
        all_goals try clear hw0
        clear a0 a1 a2 a4 b0 b1 b2 b3 b4
        have HC : Hid (∀ w', Below w0.heap.size w0 w' → (w'.cell? ⟨w.heap.size, 0, none⟩ = some (.bool la) ∧ w'.cell? ⟨w.heap.size, 1, none⟩ = some (.string aa) ∧ w'.cell? ⟨w.heap.size, 4, none⟩ = some (.slice pa na ca) ∧ w'.cell? ⟨w.heap.size + 1, 2, none⟩ = some (.string bb) ∧ w'.cell? ⟨w.heap.size + 1, 3, none⟩ = some (.int .i64 br) ∧ w'.cell? ⟨w.heap.size + 1, 4, none⟩ = some (.slice pb nb cb)) ∧ w0.heap.size ≤ w'.heap.size) := fun w' h => by
          have k := HK0.out.below h HK0.out.lt
          have r := HR0.out.below h HR0.out.lt
          exact ⟨⟨k.cell 0, k.cell 1, k.cell 4, r.cell 2, r.cell 3, r.cell 4⟩, h.size⟩
        have hsz : w.heap.size < w0.heap.size := HK0.out.lt
        have hsz1 : w.heap.size + 1 < w0.heap.size := HR0.out.lt
        have m1 : ¬ w.heap.size = w.heap.size + 1 + 1 := by omega
        have m2 : ¬ w.heap.size + 1 + 1 = w.heap.size := by omega
        have m3 : ¬ w.heap.size + 1 = w.heap.size + 1 + 1 := by omega
        have m4 : ¬ w.heap.size + 1 + 1 = w.heap.size + 1 := by omega
        obtain ⟨n2, HN2⟩ : ∃ n2, Hid ((al ++ bl).length = n2) := ⟨_, rfl⟩
        have HB2 : Hid (Below w0.heap.size w0 (w0.alloc (.cells #[.slice pa na ca, .slice pb nb cb] 27)).drew) := ((Below.refl _ _).alloc (Nat.le_refl _) _).drew
        have HB1 : Hid (Below w.heap.size w (w0.alloc (.cells #[.slice pa na ca, .slice pb nb cb] 27)).drew) := HB0.out.trans (HB2.out.mono HB0.out.size)
        have HKC : Hid (Bk (w0.alloc (.cells #[.slice pa na ca, .slice pb nb cb] 27)).drew w0.heap.size 27 #[.slice pa na ca, .slice pb nb cb]) := (Bk.new _ _ _).drew
        have HS1 : Hid (Bk (w0.alloc (.cells #[.slice pa na ca, .slice pb nb cb] 27)).drew (w.heap.size + 1 + 1) 29 zc) := HS0.out.below HB2.out HS0.out.lt
        have hB : Below w0.heap.size w0 w0.drew := (Below.refl _ _).drew
        have hk0 := (HC.out _ hB).1
        have hk1 := (HC.out _ (Below.refl _ _)).1
        go_region_held3 (fun w' => w'.cell? ⟨w.heap.size, 0, none⟩ = some (.bool la) ∧ w'.cell? ⟨w.heap.size, 1, none⟩ = some (.string aa) ∧ w'.cell? ⟨w.heap.size, 4, none⟩ = some (.slice pa na ca) ∧ w'.cell? ⟨w.heap.size + 1, 2, none⟩ = some (.string bb) ∧ w'.cell? ⟨w.heap.size + 1, 3, none⟩ = some (.int .i64 br) ∧ w'.cell? ⟨w.heap.size + 1, 4, none⟩ = some (.slice pb nb cb)) (go_keep) (first
          | (go_at_call 167; refine (concat_any pa pb na nb ca cb w0.heap.size al bl _ HKC.out HNA.out HNB.out (HA.out.below HB1.out (Nat.le_refl _)) (HE.out.below HB1.out (Nat.le_refl _)) HPA.out HPB.out hl).mono ?_; rintro e w2 ⟨v2, rfl, ho2, hb2⟩; obtain ⟨q2, d2, rfl, -, -⟩ := ho2.ens; rw [HN2.out] at ho2 ⊢; have hkc := (HC.out w2 (HB2.out.trans (hb2.mono HB2.out.size))).1; have hs2 := HS1.out.below hb2 HS1.out.lt; have c0 : w2.cell? ⟨w.heap.size + 1 + 1, 0, none⟩ = some (.bool false) := hs2.cell 0; have f0 : w2.frozen? ⟨w.heap.size + 1 + 1, 0, none⟩ = false := hs2.frozen 0; have c1 : w2.cell? ⟨w.heap.size + 1 + 1, 1, none⟩ = some (.string ⟨#[]⟩) := hs2.cell 1; have f1 : w2.frozen? ⟨w.heap.size + 1 + 1, 1, none⟩ = false := hs2.frozen 1; have c2 : w2.cell? ⟨w.heap.size + 1 + 1, 2, none⟩ = some (.string ⟨#[]⟩) := hs2.cell 2; have f2 : w2.frozen? ⟨w.heap.size + 1 + 1, 2, none⟩ = false := hs2.frozen 2; have c3 : w2.cell? ⟨w.heap.size + 1 + 1, 3, none⟩ = some (.int .i64 0) := hs2.cell 3; have f3 : w2.frozen? ⟨w.heap.size + 1 + 1, 3, none⟩ = false := hs2.frozen 3; have c4 : w2.cell? ⟨w.heap.size + 1 + 1, 4, none⟩ = some (.slice none 0 0) := hs2.cell 4; have f4 : w2.frozen? ⟨w.heap.size + 1 + 1, 4, none⟩ = false := hs2.frozen 4; skip))
        go_wp2
        obtain ⟨we, hwe⟩ : ∃ we, we = put5 w2 (w.heap.size + 1 + 1) (.bool la) (.string aa) (.string bb) (.int .i64 br) (.slice q2 n2 d2) := ⟨_, rfl⟩
        have hA : Bk we (w.heap.size + 1 + 1) 29 #[.bool la, .string aa, .string bb, .int .i64 br, .slice q2 n2 d2] := by rw [hwe]; exact Bk.five hs2 _ _ _ _ _
        have ht : Tn [w.heap.size + 1 + 1] w2 we := by rw [hwe]; exact (Tn.refl _ _).five (.inl (by simp)) _ _ _ _ _
        unfold put5 at hwe
        rw [← hwe]
        clear hwe
        refine bodyPost_ret (results_two (cs := [.bool la, .string aa, .string bb, .int .i64 br, .slice q2 n2 d2]) rfl rfl pg_agg pg_size rfl hA) rfl ?_
        rw [HQ.out]
        have hlt := HS1.out.lt
        have hB2 := HB1.out.trans (hb2.mono HB1.out.size)
        refine ⟨_, rfl, ⟨q2, d2, by simp only [HN2.out], ?_⟩, hB2.trans (ht.below hB2.size (by simp; omega))⟩
        simp only [HN2.out]
        exact (ho2.seg.tn ht (by intro x hx; simp at hx; omega)).mono HB1.out.size

end Go.Proofs.YtoehlgigidgfpaaGreat
