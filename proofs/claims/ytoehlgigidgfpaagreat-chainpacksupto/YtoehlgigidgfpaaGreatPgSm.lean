/- Which pages are the same (the code's and the document's). -/
import Derived.Test.YtoehlgigidgfpaaGreatPgSq
namespace Go.Proofs.YtoehlgigidgfpaaGreat
open Go.RowKit Go.Sort
set_option linter.unusedVariables false
set_option maxRecDepth 100000

/-- Whether two entries are the same. -/
def En.eqb (x y : En) : Bool := x.key.toList == y.key.toList && (x.s == y.s && (x.g == y.g && x.c == y.c))

theorem En.eqb_iff (x y : En) : En.eqb x y = true ↔ x = y := by
  obtain ⟨a, b, c, d⟩ := x
  obtain ⟨e, f, g, h⟩ := y
  unfold En.eqb
  simp only [Bool.and_eq_true, beq_iff_eq, En.mk.injEq]
  constructor
  · rintro ⟨h1, h2⟩
    exact ⟨Ky.toList_inj h1, h2⟩
  · rintro ⟨h1, h2⟩
    exact ⟨by rw [h1], h2⟩

/-- Whether two lists of entries are the same. -/
def Pg.eqL : List En → List En → Bool
  | [], [] => true
  | x :: a, y :: b => En.eqb x y && Pg.eqL a b
  | _, _ => false

theorem Pg.eqL_iff : ∀ a b : List En, Pg.eqL a b = true ↔ a = b
  | [], [] => by simp [Pg.eqL]
  | [], _ :: _ => by simp [Pg.eqL]
  | _ :: _, [] => by simp [Pg.eqL]
  | x :: a, y :: b => by
    simp only [Pg.eqL, Bool.and_eq_true, En.eqb_iff, Pg.eqL_iff a b, List.cons.injEq]

theorem Pg.eqL_ne {a b : List En} (h : a ≠ b) : Pg.eqL a b = false := by
  cases hq : Pg.eqL a b with
  | false => rfl
  | true => exact absurd ((Pg.eqL_iff a b).1 hq) h
theorem Pg.eqL_eq {a b : List En} (h : a = b) : Pg.eqL a b = true := (Pg.eqL_iff a b).2 h

theorem take_eq_iff {la lb : List En} {j : Nat} {x y : En} (ha : la[j]? = some x) (hb : lb[j]? = some y) : (la.take (j + 1) = lb.take (j + 1)) ↔ (la.take j = lb.take j ∧ x = y) := by
  rw [List.take_add_one, List.take_add_one, ha, hb]
  have h1 := (List.getElem?_eq_some_iff.1 ha).1
  have h2 := (List.getElem?_eq_some_iff.1 hb).1
  constructor
  · intro h
    have := List.append_inj h (by simp; omega)
    simpa using this
  · rintro ⟨h1, h2⟩
    rw [h1, h2]

/-- Whether two pages are the same. -/
def Pg.same (a b : Pp) : Bool := (a.leaf == b.leaf) && ((a.lo.toList == b.lo.toList) && ((a.hi.toList == b.hi.toList) && ((a.r == b.r) && Pg.eqL a.l b.l)))

theorem Pg.same_self (a : Pp) : Pg.same a a = true := by
  unfold Pg.same
  rw [Pg.eqL_eq rfl]
  simp

set_option maxHeartbeats 2000000 in
theorem equal_any (pa pb : Option Addr) (na nb ca cb : Nat) (la lb : List En) (w : World) (hna : la.length = na) (hnb : lb.length = nb) (ha : Ens w pa la) (hb : Ens w pb lb) (hl : na ≤ 4398046511104) :
    Calls Tryz.prog 128 #[.slice pa na ca, .slice pb nb cb] w fun r w' => r = .returned (.bool (Pg.eqL la lb)) ∧ Below w.heap.size w w' := by
  have HA : Hid (Ens w pa la) := ha
  have HB : Hid (Ens w pb lb) := hb
  have HNA : Hid (la.length = na) := hna
  have HNB : Hid (lb.length = nb) := hnb
  clear ha hb hna hnb
  obtain ⟨v, HV⟩ : ∃ v, Hid (Pg.eqL la lb = v) := ⟨_, rfl⟩
  rw [HV.out]
  by_cases hab : na = nb
  · subst hab
    have hbb : ((na : Int) != (na : Int)) = false := by simp
    go_enter Tryz.func128, Tryz.ntmps128
    go_wp2_with fail
    go_loopw [13] (fun iv wr => ∃ j : Nat, j ≤ na ∧ iv = .int .i64 j ∧ (∃ k, wr = w.drewN k) ∧ Hid (la.take j = lb.take j)) (fun iv _ => na - (intOf iv).toNat)
    case atStart => exact ⟨0, Nat.zero_le _, rfl, ⟨0, rfl⟩, by simp [Hid]⟩
    case round =>
      obtain ⟨j, hj, rfl, ⟨k, rfl⟩, HT⟩ := hrel
      by_cases hlt : j < na
      · have hli : (j : Int) < (na : Int) := by omega
        have h0i : (0 : Int) ≤ (j : Int) := by omega
        obtain ⟨ga, oa, x, rfl, hx, -, a0, a1, a2, a3⟩ := HA.out.at (j := j) (by rw [HNA.out]; exact hlt)
        obtain ⟨gb, ob, y, rfl, hy, -, b0, b1, b2, b3⟩ := HB.out.at (j := j) (by rw [HNB.out]; exact hlt)
        have HI := take_eq_iff hx hy
        have HI : Hid _ := HI
        have HD : Hid (la = lb → x = y) := fun h => by rw [h, hy] at hx; exact (Option.some.inj hx).symm
        clear hx hy
        by_cases hxy : x = y
        · have HT2 : Hid (la.take (j + 1) = lb.take (j + 1)) := HI.out.2 ⟨HT.out, hxy⟩
          subst hxy
          clear HI HD HT
          go_wp2_with fail
          go_quiet (fail)
          go_wp2
          go_roundw
          case rel => exact ⟨j + 1, by omega, by go_num, ⟨_, rfl⟩, HT2⟩
          case measure => simp [intOf]; omega
        · have HF : Hid (v = false) := by rw [Hid, ← HV.out]; exact Pg.eqL_ne fun h => hxy (HD.out h)
          clear HI HD HT
          obtain ⟨xk, xs, xg, xc⟩ := x
          obtain ⟨yk, ys, yg, yc⟩ := y
          simp only at a0 a1 a2 a3 b0 b1 b2 b3
          simp only [En.mk.injEq, not_and] at hxy
          by_cases hk : xk = yk
          · subst hk
            by_cases hs : xs = ys
            · subst hs
              by_cases hg : xg = yg
              · subst hg
                have hc := hxy rfl rfl rfl
                have hb1 : (xc == yc) = false := by simp [hc]
                clear hxy
                go_wp2_with fail
                go_quiet (fail)
                go_wp2
                go_ret
                exact ⟨by rw [HF.out]; rfl, below_dn (below_dn (Below.refl _ _) _) _⟩
              · have hb1 : (xg == yg) = false := by simp [hg]
                clear hxy
                go_wp2_with fail
                go_quiet (fail)
                go_wp2
                go_ret
                exact ⟨by rw [HF.out]; rfl, below_dn (below_dn (Below.refl _ _) _) _⟩
            · have hb1 : (xs == ys) = false := by simp [hs]
              clear hxy
              go_wp2_with fail
              go_quiet (fail)
              go_wp2
              go_ret
              exact ⟨by rw [HF.out]; rfl, below_dn (below_dn (Below.refl _ _) _) _⟩
          · have hb1 : (xk.toList == yk.toList) = false := by simp; exact fun h => hk (Ky.toList_inj h)
            clear hxy
            go_wp2_with fail
            go_quiet (fail)
            go_wp2
            go_ret
            exact ⟨by rw [HF.out]; rfl, below_dn (below_dn (Below.refl _ _) _) _⟩
      · have hli : ¬ (j : Int) < (na : Int) := by omega
        have HF : Hid (v = true) := by
          rw [Hid, ← HV.out]
          have hjn : j = na := by omega
          have h1 := HT.out
          rw [List.take_of_length_le (by rw [HNA.out]; omega), List.take_of_length_le (by rw [HNB.out]; omega)] at h1
          exact Pg.eqL_eq h1
        go_wp2
        go_ret
        exact ⟨by rw [HF.out]; rfl, below_dn (Below.refl _ _) _⟩
  · have HF : Hid (v = false) := by
      rw [Hid, ← HV.out]
      refine Pg.eqL_ne fun h => hab ?_
      rw [← HNA.out, ← HNB.out, h]
    have hbb : ((na : Int) != (nb : Int)) = true := by simp; omega
    have hbc : ¬ (na : Int) = (nb : Int) := by omega
    go_enter Tryz.func128, Tryz.ntmps128
    go_wp2
    go_ret
    exact ⟨by rw [HF.out]; rfl, Below.refl _ _⟩

set_option maxHeartbeats 2000000 in
theorem same_any (a b : Pp) (pa pb : Option Addr) (na nb ca cb : Nat) (w : World) (hna : a.l.length = na) (hnb : b.l.length = nb) (ha : Ens w pa a.l) (hb : Ens w pb b.l) (hl : na ≤ 4398046511104) :
    Calls Tryz.prog 114 #[pgv a.leaf a.lo a.hi a.r pa na ca, pgv b.leaf b.lo b.hi b.r pb nb cb] w fun r w' => r = .returned (.bool (Pg.same a b)) ∧ Below w.heap.size w w' := by
  obtain ⟨w0, hw0⟩ : ∃ w0, (w.alloc (.cells (pgc a.leaf a.lo a.hi a.r pa na ca) 29)).alloc (.cells (pgc b.leaf b.lo b.hi b.r pb nb cb) 29) = w0 := ⟨_, rfl⟩
  have HB0 : Hid (Below w.heap.size w w0) := by rw [← hw0]; exact ((Below.refl _ _).alloc (Nat.le_refl _) _).alloc (by simp) _
  have HK0 : Hid (Bk w0 w.heap.size 29 (pgc a.leaf a.lo a.hi a.r pa na ca)) := by rw [← hw0]; exact (Bk.new _ _ _).alloc _
  have HR0 : Hid (Bk w0 (w.heap.size + 1) 29 (pgc b.leaf b.lo b.hi b.r pb nb cb)) := by rw [← hw0]; exact Bk.new1 _ _ _ _
  have hq := fun (W : World) (h : Below w.heap.size w W) => equal_any pa pb na nb ca cb a.l b.l W hna hnb (ha.below h (Nat.le_refl _)) (hb.below h (Nat.le_refl _)) hl
  have HQ : Hid _ := hq
  have HV : Hid (Pg.same a b = ((a.leaf == b.leaf) && ((a.lo.toList == b.lo.toList) && ((a.hi.toList == b.hi.toList) && ((a.r == b.r) && Pg.eqL a.l b.l))))) := rfl
  clear hq ha hb hna hnb
  obtain ⟨v, HW⟩ : ∃ v, Hid (Pg.same a b = v) := ⟨_, rfl⟩
  rw [HW.out]
  rw [HW.out] at HV
  clear HW
  obtain ⟨t, HT⟩ : ∃ t, Hid (Pg.eqL a.l b.l = t) := ⟨_, rfl⟩
  rw [HT.out] at HV HQ
  clear HT
  obtain ⟨la, aa, ab, ar, al⟩ := a
  obtain ⟨lb, ba, bb, br, bl⟩ := b
  simp only at *
  have a0 : w0.cell? ⟨w.heap.size, 0, none⟩ = some (.bool la) := HK0.out.cell 0
  have a1 : w0.cell? ⟨w.heap.size, 1, none⟩ = some (.string aa) := HK0.out.cell 1
  have a2 : w0.cell? ⟨w.heap.size, 2, none⟩ = some (.string ab) := HK0.out.cell 2
  have a3 : w0.cell? ⟨w.heap.size, 3, none⟩ = some (.int .i64 ar) := HK0.out.cell 3
  have a4 : w0.cell? ⟨w.heap.size, 4, none⟩ = some (.slice pa na ca) := HK0.out.cell 4
  have b0 : w0.cell? ⟨w.heap.size + 1, 0, none⟩ = some (.bool lb) := HR0.out.cell 0
  have b1 : w0.cell? ⟨w.heap.size + 1, 1, none⟩ = some (.string ba) := HR0.out.cell 1
  have b2 : w0.cell? ⟨w.heap.size + 1, 2, none⟩ = some (.string bb) := HR0.out.cell 2
  have b3 : w0.cell? ⟨w.heap.size + 1, 3, none⟩ = some (.int .i64 br) := HR0.out.cell 3
  have b4 : w0.cell? ⟨w.heap.size + 1, 4, none⟩ = some (.slice pb nb cb) := HR0.out.cell 4
  cases h0 : (la == lb) with
  | false =>
    rw [h0] at HV
    go_enter Tryz.func114, Tryz.ntmps114
    go_wp2
    go_ret
    exact ⟨by rw [HV.out]; rfl, HB0.out⟩
  | true =>
    cases h1 : (aa.toList == ba.toList) with
    | false =>
      rw [h0, h1] at HV
      go_enter Tryz.func114, Tryz.ntmps114
      go_wp2
      go_ret
      exact ⟨by rw [HV.out]; rfl, HB0.out⟩
    | true =>
      cases h2 : (ab.toList == bb.toList) with
      | false =>
        rw [h0, h1, h2] at HV
        go_enter Tryz.func114, Tryz.ntmps114
        go_wp2
        go_ret
        exact ⟨by rw [HV.out]; rfl, HB0.out⟩
      | true =>
        cases h3 : (ar == br) with
        | false =>
          rw [h0, h1, h2, h3] at HV
          go_enter Tryz.func114, Tryz.ntmps114
          go_wp2
          go_ret
          exact ⟨by rw [HV.out]; rfl, HB0.out⟩
        | true =>
          rw [h0, h1, h2, h3] at HV
          go_enter Tryz.func114, Tryz.ntmps114
          go_wp2_with fail
          refine (HQ.out _ HB0.out).mono ?_
          rintro e w1 ⟨rfl, hb1⟩
          have HB1 : Hid (Below w.heap.size w w1) := HB0.out.trans (hb1.mono HB0.out.size)
          clear hb1
          go_wp2
          go_ret
          exact ⟨by rw [HV.out]; simp, HB1.out⟩

set_option maxHeartbeats 2000000 in
theorem rlist_any (pa pb : Option Addr) (na nb ca cb : Nat) (la lb : List En) (w : World) (hna : la.length = na) (hnb : lb.length = nb) (ha : Ens w pa la) (hb : Ens w pb lb) (hl : na ≤ 4398046511104) :
    Calls Tryz.prog 63 #[.slice pa na ca, .slice pb nb cb] w fun r w' => r = .returned (.bool (Pg.eqL la lb)) ∧ Below w.heap.size w w' := by
  have HA : Hid (Ens w pa la) := ha
  have HB : Hid (Ens w pb lb) := hb
  have HNA : Hid (la.length = na) := hna
  have HNB : Hid (lb.length = nb) := hnb
  clear ha hb hna hnb
  obtain ⟨v, HV⟩ : ∃ v, Hid (Pg.eqL la lb = v) := ⟨_, rfl⟩
  rw [HV.out]
  by_cases hab : na = nb
  · subst hab
    have hbb : ((na : Int) != (na : Int)) = false := by simp
    go_enter Tryz.func63, Tryz.ntmps63
    go_wp2_with fail
    go_loopw [5] (fun iv wr => ∃ j : Nat, j ≤ na ∧ iv = .int .i64 j ∧ (∃ k, wr = w.drewN k) ∧ Hid (la.take j = lb.take j)) (fun iv _ => na - (intOf iv).toNat)
    case atStart => exact ⟨0, Nat.zero_le _, rfl, ⟨0, rfl⟩, by simp [Hid]⟩
    case round =>
      obtain ⟨j, hj, rfl, ⟨k, rfl⟩, HT⟩ := hrel
      by_cases hlt : j < na
      · have hli : (j : Int) < (na : Int) := by omega
        have h0i : (0 : Int) ≤ (j : Int) := by omega
        obtain ⟨ga, oa, x, rfl, hx, -, a0, a1, a2, a3⟩ := HA.out.at (j := j) (by rw [HNA.out]; exact hlt)
        obtain ⟨gb, ob, y, rfl, hy, -, b0, b1, b2, b3⟩ := HB.out.at (j := j) (by rw [HNB.out]; exact hlt)
        have HI := take_eq_iff hx hy
        have HI : Hid _ := HI
        have HD : Hid (la = lb → x = y) := fun h => by rw [h, hy] at hx; exact (Option.some.inj hx).symm
        clear hx hy
        by_cases hxy : x = y
        · have HT2 : Hid (la.take (j + 1) = lb.take (j + 1)) := HI.out.2 ⟨HT.out, hxy⟩
          subst hxy
          clear HI HD HT
          go_wp2_with fail
          go_quiet (fail)
          go_wp2
          go_roundw
          case rel => exact ⟨j + 1, by omega, by go_num, ⟨_, rfl⟩, HT2⟩
          case measure => simp [intOf]; omega
        · have HF : Hid (v = false) := by rw [Hid, ← HV.out]; exact Pg.eqL_ne fun h => hxy (HD.out h)
          clear HI HD HT
          obtain ⟨xk, xs, xg, xc⟩ := x
          obtain ⟨yk, ys, yg, yc⟩ := y
          simp only at a0 a1 a2 a3 b0 b1 b2 b3
          simp only [En.mk.injEq, not_and] at hxy
          by_cases hk : xk = yk
          · subst hk
            by_cases hs : xs = ys
            · subst hs
              by_cases hg : xg = yg
              · subst hg
                have hc := hxy rfl rfl rfl
                have hb1 : (xc == yc) = false := by simp [hc]
                clear hxy
                go_wp2_with fail
                go_quiet (fail)
                go_wp2
                go_ret
                exact ⟨by rw [HF.out]; rfl, below_dn (below_dn (Below.refl _ _) _) _⟩
              · have hb1 : (xg == yg) = false := by simp [hg]
                clear hxy
                go_wp2_with fail
                go_quiet (fail)
                go_wp2
                go_ret
                exact ⟨by rw [HF.out]; rfl, below_dn (below_dn (Below.refl _ _) _) _⟩
            · have hb1 : (xs == ys) = false := by simp [hs]
              clear hxy
              go_wp2_with fail
              go_quiet (fail)
              go_wp2
              go_ret
              exact ⟨by rw [HF.out]; rfl, below_dn (below_dn (Below.refl _ _) _) _⟩
          · have hb1 : (xk.toList == yk.toList) = false := by simp; exact fun h => hk (Ky.toList_inj h)
            clear hxy
            go_wp2_with fail
            go_quiet (fail)
            go_wp2
            go_ret
            exact ⟨by rw [HF.out]; rfl, below_dn (below_dn (Below.refl _ _) _) _⟩
      · have hli : ¬ (j : Int) < (na : Int) := by omega
        have HF : Hid (v = true) := by
          rw [Hid, ← HV.out]
          have hjn : j = na := by omega
          have h1 := HT.out
          rw [List.take_of_length_le (by rw [HNA.out]; omega), List.take_of_length_le (by rw [HNB.out]; omega)] at h1
          exact Pg.eqL_eq h1
        go_wp2
        go_ret
        exact ⟨by rw [HF.out]; rfl, below_dn (Below.refl _ _) _⟩
  · have HF : Hid (v = false) := by
      rw [Hid, ← HV.out]
      refine Pg.eqL_ne fun h => hab ?_
      rw [← HNA.out, ← HNB.out, h]
    have hbb : ((na : Int) != (nb : Int)) = true := by simp; omega
    have hbc : ¬ (na : Int) = (nb : Int) := by omega
    go_enter Tryz.func63, Tryz.ntmps63
    go_wp2
    go_ret
    exact ⟨by rw [HF.out]; rfl, Below.refl _ _⟩

set_option maxHeartbeats 2000000 in
theorem rsame_any (a b : Pp) (pa pb : Option Addr) (na nb ca cb : Nat) (w : World) (hna : a.l.length = na) (hnb : b.l.length = nb) (ha : Ens w pa a.l) (hb : Ens w pb b.l) (hl : na ≤ 4398046511104) :
    Calls Tryz.prog 25 #[pgv a.leaf a.lo a.hi a.r pa na ca, pgv b.leaf b.lo b.hi b.r pb nb cb] w fun r w' => r = .returned (.bool (Pg.same a b)) ∧ Below w.heap.size w w' := by
  obtain ⟨w0, hw0⟩ : ∃ w0, (w.alloc (.cells (pgc a.leaf a.lo a.hi a.r pa na ca) 29)).alloc (.cells (pgc b.leaf b.lo b.hi b.r pb nb cb) 29) = w0 := ⟨_, rfl⟩
  have HB0 : Hid (Below w.heap.size w w0) := by rw [← hw0]; exact ((Below.refl _ _).alloc (Nat.le_refl _) _).alloc (by simp) _
  have HK0 : Hid (Bk w0 w.heap.size 29 (pgc a.leaf a.lo a.hi a.r pa na ca)) := by rw [← hw0]; exact (Bk.new _ _ _).alloc _
  have HR0 : Hid (Bk w0 (w.heap.size + 1) 29 (pgc b.leaf b.lo b.hi b.r pb nb cb)) := by rw [← hw0]; exact Bk.new1 _ _ _ _
  have hq := fun (W : World) (h : Below w.heap.size w W) => rlist_any pa pb na nb ca cb a.l b.l W hna hnb (ha.below h (Nat.le_refl _)) (hb.below h (Nat.le_refl _)) hl
  have HQ : Hid _ := hq
  have HV : Hid (Pg.same a b = ((a.leaf == b.leaf) && ((a.lo.toList == b.lo.toList) && ((a.hi.toList == b.hi.toList) && ((a.r == b.r) && Pg.eqL a.l b.l))))) := rfl
  clear hq ha hb hna hnb
  obtain ⟨v, HW⟩ : ∃ v, Hid (Pg.same a b = v) := ⟨_, rfl⟩
  rw [HW.out]
  rw [HW.out] at HV
  clear HW
  obtain ⟨t, HT⟩ : ∃ t, Hid (Pg.eqL a.l b.l = t) := ⟨_, rfl⟩
  rw [HT.out] at HV HQ
  clear HT
  obtain ⟨la, aa, ab, ar, al⟩ := a
  obtain ⟨lb, ba, bb, br, bl⟩ := b
  simp only at *
  have a0 : w0.cell? ⟨w.heap.size, 0, none⟩ = some (.bool la) := HK0.out.cell 0
  have a1 : w0.cell? ⟨w.heap.size, 1, none⟩ = some (.string aa) := HK0.out.cell 1
  have a2 : w0.cell? ⟨w.heap.size, 2, none⟩ = some (.string ab) := HK0.out.cell 2
  have a3 : w0.cell? ⟨w.heap.size, 3, none⟩ = some (.int .i64 ar) := HK0.out.cell 3
  have a4 : w0.cell? ⟨w.heap.size, 4, none⟩ = some (.slice pa na ca) := HK0.out.cell 4
  have b0 : w0.cell? ⟨w.heap.size + 1, 0, none⟩ = some (.bool lb) := HR0.out.cell 0
  have b1 : w0.cell? ⟨w.heap.size + 1, 1, none⟩ = some (.string ba) := HR0.out.cell 1
  have b2 : w0.cell? ⟨w.heap.size + 1, 2, none⟩ = some (.string bb) := HR0.out.cell 2
  have b3 : w0.cell? ⟨w.heap.size + 1, 3, none⟩ = some (.int .i64 br) := HR0.out.cell 3
  have b4 : w0.cell? ⟨w.heap.size + 1, 4, none⟩ = some (.slice pb nb cb) := HR0.out.cell 4
  cases h0 : (la == lb) with
  | false =>
    rw [h0] at HV
    go_enter Tryz.func25, Tryz.ntmps25
    go_wp2
    go_ret
    exact ⟨by rw [HV.out]; rfl, HB0.out⟩
  | true =>
    cases h1 : (aa.toList == ba.toList) with
    | false =>
      rw [h0, h1] at HV
      go_enter Tryz.func25, Tryz.ntmps25
      go_wp2
      go_ret
      exact ⟨by rw [HV.out]; rfl, HB0.out⟩
    | true =>
      cases h2 : (ab.toList == bb.toList) with
      | false =>
        rw [h0, h1, h2] at HV
        go_enter Tryz.func25, Tryz.ntmps25
        go_wp2
        go_ret
        exact ⟨by rw [HV.out]; rfl, HB0.out⟩
      | true =>
        cases h3 : (ar == br) with
        | false =>
          rw [h0, h1, h2, h3] at HV
          go_enter Tryz.func25, Tryz.ntmps25
          go_wp2
          go_ret
          exact ⟨by rw [HV.out]; rfl, HB0.out⟩
        | true =>
          rw [h0, h1, h2, h3] at HV
          go_enter Tryz.func25, Tryz.ntmps25
          go_wp2_with fail
          refine (HQ.out _ HB0.out).mono ?_
          rintro e w1 ⟨rfl, hb1⟩
          have HB1 : Hid (Below w.heap.size w w1) := HB0.out.trans (hb1.mono HB0.out.size)
          clear hb1
          go_wp2
          go_ret
          exact ⟨by rw [HV.out]; simp, HB1.out⟩

end Go.Proofs.YtoehlgigidgfpaaGreat
