/- Are two rows of retired things the same? -/
import Derived.Test.YtndmcjkbbedoeaaEpSc
namespace Go.Proofs.Ytndmcjkbbedoeaa
open Go.RowKit
set_option linter.unusedVariables false
set_option maxRecDepth 100000

/-- A slice that leads to retired things. -/
structure Rs (w : World) (v : Value) (l : List Rt) : Prop where
  form : ∃ p c, v = .slice p l.length c ∧ ∀ j, j < l.length → ∃ g o, p = some ⟨g, o, none⟩ ∧ w.cell? ⟨g, o + j * 3, none⟩ = some (.int .i64 (rtAt l j).k) ∧ w.cell? ⟨g, o + j * 3 + 1, none⟩ = some (.int .i64 (rtAt l j).s) ∧ w.cell? ⟨g, o + j * 3 + 2, none⟩ = some (.int .i64 (rtAt l j).g)

theorem Rr.rs {w : World} {v : Value} {l : List Rt} (h : Rr w v l) : Rs w v l := by
  obtain ⟨p, c, rfl, -⟩ := h.form
  refine ⟨p, c, rfl, fun j hj => ?_⟩
  obtain ⟨g, c', hg⟩ := h.has (by omega)
  cases hg
  have := h.cell rfl j hj
  exact ⟨g, 0, rfl, by simpa using this⟩

theorem take_eq_iff {la lb : List Rt} {j : Nat} (ha : j < la.length) (hb : j < lb.length) : (la.take (j + 1) = lb.take (j + 1)) ↔ (la.take j = lb.take j ∧ rtAt la j = rtAt lb j) := by
  rw [take_snoc (rtAt_mem ha), take_snoc (rtAt_mem hb)]
  constructor
  · intro h
    have := List.append_inj h (by simp; omega)
    simpa using this
  · rintro ⟨h1, h2⟩
    rw [h1, h2]

set_option maxHeartbeats 2000000 in
theorem same_any {w : World} {va vb : Value} {la lb : List Rt} (ha : Rs w va la) (hb : Rs w vb lb) (hl : la.length ≤ 3600000000000) (b : Bool) (hd : b = true ↔ la = lb) :
    Calls Try.prog 22 #[va, vb] w fun r w' => r = .returned (.bool b) ∧ Tn [] w w' := by
  have HDB : Hid (b = true ↔ la = lb) := hd
  clear hd
  obtain ⟨pa, ca, rfl, hca⟩ := ha.form
  obtain ⟨pb, cb, rfl, hcb⟩ := hb.form
  have HA : Hid _ := hca
  have HB : Hid _ := hcb
  obtain ⟨na, hna⟩ : ∃ na, la.length = na := ⟨_, rfl⟩
  obtain ⟨nb, hnb⟩ : ∃ nb, lb.length = nb := ⟨_, rfl⟩
  have HNA : Hid (la.length = na) := hna
  have HNB : Hid (lb.length = nb) := hnb
  rw [hna] at HA hl ⊢
  rw [hnb] at HB ⊢
  clear ha hb hca hcb hna hnb
  by_cases hab : na = nb
  · subst hab
    have hbb : ((na : Int) != (na : Int)) = false := by simp
    go_enter Try.func22, Try.ntmps22
    go_wp2_with fail
    go_loopw [13] (fun iv wr => ∃ j : Nat, j ≤ na ∧ iv = .int .i64 j ∧ (∃ k, wr = w.drewN k) ∧ Hid (la.take j = lb.take j)) (fun iv _ => na - (intOf iv).toNat)
    case atStart => exact ⟨0, Nat.zero_le _, rfl, ⟨0, rfl⟩, by simp [Hid]⟩
    case round =>
      obtain ⟨j, hj, rfl, ⟨k, rfl⟩, HT⟩ := hrel
      by_cases hlt : j < na
      · have hli : (j : Int) < (na : Int) := by omega
        have h0i : (0 : Int) ≤ (j : Int) := by omega
        obtain ⟨ga, oa, rfl, a0, a1, a2⟩ := HA.out j hlt
        obtain ⟨gb, ob, rfl, b0, b1, b2⟩ := HB.out j hlt
        have HI := take_eq_iff (la := la) (lb := lb) (j := j) (by rw [HNA.out]; exact hlt) (by rw [HNB.out]; exact hlt)
        have HI : Hid _ := HI
        have HD : Hid (la = lb → rtAt la j = rtAt lb j) := fun h => by rw [h]
        by_cases hx : rtAt la j = rtAt lb j
        · have HT2 : Hid (la.take (j + 1) = lb.take (j + 1)) := HI.out.2 ⟨HT.out, hx⟩
          rw [hx] at a0 a1 a2
          clear hx HI HD HT
          generalize rtAt lb j = y at *
          go_wp2_with fail
          go_quiet (fail)
          go_wp2
          go_roundw
          case rel => exact ⟨j + 1, by omega, by go_num, ⟨_, rfl⟩, HT2⟩
          case measure => simp [intOf]; omega
        · have HF : Hid (b = false) := by rw [Hid]; exact Bool.eq_false_iff.2 fun h => hx (HD.out (HDB.out.1 h))
          clear HI HD HT
          generalize rtAt la j = x at *
          generalize rtAt lb j = y at *
          obtain ⟨xk, xs, xg⟩ := x
          obtain ⟨yk, ys, yg⟩ := y
          simp only [Rt.mk.injEq, not_and] at hx
          simp only at a0 a1 a2 b0 b1 b2
          by_cases hk : xk = yk
          · subst hk
            by_cases hs : xs = ys
            · subst hs
              have hg := hx rfl rfl
              have hb1 : (xg == yg) = false := by simp [hg]
              clear hx
              go_wp2_with fail
              go_quiet (fail)
              go_wp2
              go_ret
              exact ⟨by rw [HF.out]; rfl, (tn_drewN _ _).trans (tn_drewN _ _) (by simp)⟩
            · have hb1 : (xs == ys) = false := by simp [hs]
              clear hx
              go_wp2_with fail
              go_quiet (fail)
              go_wp2
              go_ret
              exact ⟨by rw [HF.out]; rfl, (tn_drewN _ _).trans (tn_drewN _ _) (by simp)⟩
          · have hb1 : (xk == yk) = false := by simp [hk]
            clear hx
            go_wp2_with fail
            go_quiet (fail)
            go_wp2
            go_ret
            exact ⟨by rw [HF.out]; rfl, (tn_drewN _ _).trans (tn_drewN _ _) (by simp)⟩
      · have hli : ¬ (j : Int) < (na : Int) := by omega
        have HF : Hid (b = true) := by
          rw [Hid]
          have := HT.out
          rw [List.take_of_length_le (by rw [HNA.out]; omega), List.take_of_length_le (by rw [HNB.out]; omega)] at this
          exact HDB.out.2 this
        go_wp2
        go_ret
        exact ⟨by rw [HF.out]; rfl, tn_drewN _ _⟩
  · have HF : Hid (b = false) := by
      rw [Hid]
      refine Bool.eq_false_iff.2 fun h => hab ?_
      rw [← HNA.out, ← HNB.out, HDB.out.1 h]
    have hbb : ((na : Int) != (nb : Int)) = true := by simp; omega
    go_enter Try.func22, Try.ntmps22
    go_wp2
    go_ret
    exact ⟨by rw [HF.out]; rfl, Tn.refl _ _⟩

end Go.Proofs.Ytndmcjkbbedoeaa
