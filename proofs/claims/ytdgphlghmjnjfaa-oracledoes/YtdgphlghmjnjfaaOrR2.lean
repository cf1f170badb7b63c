/- The document's oracle: Open, Publish. -/
import Derived.Test.YtdgphlghmjnjfaaOrR1
import Derived.Deep.RegionLaw
namespace Go.Proofs.Ytdgphlghmjnjfaa
open Go.RowKit Go.Maps Go.Shelf
set_option linter.unusedVariables false
set_option maxRecDepth 100000

theorem ints_app (l m : List Nat) : ints (l ++ m) = ints l ++ ints m := by simp [ints]
theorem ints_len (l : List Nat) : (ints l).length = l.length := by simp [ints]
theorem ints_at {l : List Nat} {j : Nat} {u : Value} (h : (ints l)[j]? = some u) : ∃ x, l[j]? = some x ∧ u = .int .i64 (x : Int) := by
  simp only [ints, List.getElem?_map, Option.map_eq_some_iff] at h
  obtain ⟨x, h1, h2⟩ := h
  exact ⟨x, h1, h2.symm⟩

/-- 'append' of numbers to a row of the call's own. -/
theorem run_appI (w : World) (ty : TypeId) (v : Value) (xs news : List Nat) (q : Option Addr) (m c : Nat) (hm : news.length = m) (hc : ∀ ad, q = some ad → ∀ (j x : Nat), news[j]? = some x → w.cell? (ad.add j) = some (.int .i64 (x : Int))) (hq : q = none → m = 0 ∧ c = 0)
    (hown : w.ownsRow 0 2 1 v xs.length (ints xs)) (hb : (xs.length + m) * 8 ≤ 140737488355328) :
    ∃ v' w', (Builtin.append_ #[36, 36] ty #[v, .slice q m c]).run Try.prog w = .ok v' w' ∧ w'.ownsRow 0 2 1 v' (xs ++ news).length (ints (xs ++ news)) ∧ w.grownBy w' v.ownBlock ∧ (v'.ownBlock = v.ownBlock ∨ v'.ownBlock = some w.heap.size) := by
  obtain ⟨i0, hi0, hz0, hz1, hz2⟩ := info_parts i64info
  cases q with
  | some ad =>
    obtain ⟨v', w', hr, h2, h3, h4, h5⟩ := run_append_own_at (P := Try.prog) w 0 36 ty 2 i0 _ 1 8 Try.underlying36 hi0 hz0 hz1 hz2 rfl (by decide) v xs.length (ints xs) hown ad m c (ints news) (by rw [ints_len]; omega) (fun j u hu => by
      obtain ⟨x, h1, rfl⟩ := ints_at hu
      exact hc ad rfl j x h1) (fun u hu => by
      obtain ⟨x, _, rfl⟩ := List.mem_map.1 hu
      rfl) (by unfold maxLen; omega) hb (Nat.zero_le _)
    refine ⟨v', w', hr, ?_, h3, h5⟩
    rw [List.length_append, hm, ints_app]
    exact h2
  | none =>
    obtain ⟨rfl, rfl⟩ := hq rfl
    obtain rfl : news = [] := List.eq_nil_of_length_eq_zero hm
    have hrun := run_append_owned_none (P := Try.prog) (w := w) 0 36 ty 2 i0 1 Try.underlying36 hi0 v xs.length (ints xs) hown
    exact ⟨v, w, hrun, by simpa using hown, World.grownBy.refl _ _, .inl rfl⟩

section
variable {w : World} {R : Nat} {v : Value} {o : Or} {ats : List Nat}

set_option maxHeartbeats 2000000 in
theorem ropen_any (h : IsRf w R v o ats) (hk : o.Ok) (s : Int) : Calls Try.prog 30 #[.pointer (some ⟨R, 0, none⟩), .int .i64 s] w fun e w' => e = .returned (.tuple #[.int .i64 (o.openR s).1, .int .i64 (o.openR s).2.1]) ∧ ∃ ats', IsRf w' R v (o.openR s).2.2 ats' ∧ Tn [R] w w' := by
  unfold Or.openR
  by_cases hs : ses s = true
  · simp only [if_pos hs]
    obtain ⟨n, rfl, hn⟩ := ses_yes hs
    rw [Int.toNat_natCast]
    have ci := h.ci hk.toOk0 n hn
    have fi : w.frozen? ⟨R, 2 + n, none⟩ = false := h.blk.frozen _
    have g1 : (0 : Int) ≤ (n : Int) := by omega
    have g3 : (n : Int) < 17 := by omega
    by_cases hv : o.view n = 0
    · obtain ⟨w1, hw1⟩ : ∃ w1, w.setCell ⟨R, 2 + n, none⟩ (.bool true) = w1 := ⟨_, rfl⟩
      have k1 : Bk w1 R 40 (rfCells o.last v (o.views.set n (o.pub + 1)) ats) := by
        have := h.blk.set (2 + n) (.bool (decide (o.pub + 1 ≠ 0)))
        rw [rf_setIs (by rw [hk.v17]; exact hn)] at this
        rw [← hw1]
        exact this
      have t1 : Tn [R] w w1 := by rw [← hw1]; exact (Tn.refl [R] w).setCell (.inl (by simp)) _
      have r1 := owns_tn h.row t1 (fun b hb => by simpa using h.neR b hb)
      have hl17 : (o.views.set n (o.pub + 1)).length = 17 := by simp [hk.v17]
      have HP : Hid (∀ W, W = w1 ∨ W = w1.drew → Calls Try.prog 13 #[.pointer (some ⟨R, 0, none⟩)] W fun e w' => e = .returned (.int .i64 (o.pub : Int)) ∧ w' = W) := fun W hW => by
        rcases hW with rfl | rfl
        · exact rpub_any hk ((k1.cell 0).trans rf_last) ((k1.cell 1).trans rf_pend) r1
        · exact rpub_any hk ((k1.drew.cell 0).trans rf_last) ((k1.drew.cell 1).trans rf_pend) (owns_tn r1 (Tn.refl [] w1).drew (by simp))
      have ca : w1.drew.cell? ⟨R, 19 + n, none⟩ = some (.int .i64 ((ats.getD n 0 : Nat) : Int)) := (k1.drew.cell _).trans (rf_at hl17 (by rw [h.a17]; exact hn))
      have fa : w1.drew.frozen? ⟨R, 19 + n, none⟩ = false := k1.drew.frozen _
      obtain ⟨w2, hw2⟩ : ∃ w2, w1.drew.setCell ⟨R, 19 + n, none⟩ (.int .i64 (o.pub : Int)) = w2 := ⟨_, rfl⟩
      have k2 : Bk w2 R 40 (rfCells o.last v (o.views.set n (o.pub + 1)) (ats.set n o.pub)) := by
        have := k1.drew.set (19 + n) (.int .i64 (o.pub : Int))
        rw [rf_setAt hl17] at this
        rw [← hw2]
        exact this
      have t2 : Tn [R] w w2 := by rw [← hw2]; exact t1.drew.setCell (.inl (by simp)) _
      have c2 : w2.cell? ⟨R, 19 + n, none⟩ = some (.int .i64 (o.pub : Int)) := by
        have := (k2.cell (19 + n)).trans (rf_at hl17 (by simp [h.a17]; exact hn))
        rw [this]
        simp [List.getD, h.a17, hn]
      have HE : Hid (∃ ats', IsRf w2 R v (o.setView n (o.pub + 1)) ats' ∧ Tn [R] w w2) := by
        refine ⟨ats.set n o.pub, ⟨k2, owns_tn h.row t2 (fun b hb => by simpa using h.neR b hb), by simp [h.a17], fun t ht hvt => ?_⟩, t2⟩
        unfold Or.view Or.setView at hvt ⊢
        simp only at hvt ⊢
        by_cases htn : t = n
        · subst htn
          simp [List.getD, h.a17, hk.v17, hn]
        · have e1 : (ats.set n o.pub).getD t 0 = ats.getD t 0 := by simp [List.getD, Ne.symm htn]
          have e2 : (o.views.set n (o.pub + 1)).getD t 0 = o.views.getD t 0 := by simp [List.getD, Ne.symm htn]
          rw [e2] at hvt
          rw [e1, e2]
          exact h.rel t ht hvt
      simp only [hv, if_true, ne_eq, not_true_eq_false, decide_false] at ci ⊢
      clear h hk hv k1 t1 r1 k2 t2 hl17
      generalize (o.pub : Int) = pb at *
      generalize ((ats.getD n 0 : Nat) : Int) = y at *
      go_enter Try.func30, Try.ntmps30
      go_wp2_with fail
      refine (rses_any _ _).mono ?_
      rintro r w9 ⟨rfl, rfl⟩
      rw [hs]
      go_wp2_with fail
      go_region_law (first
        | (go_simp; go_at_call 13; refine Calls.mono (HP.out _ (.inr rfl)) ?_; rintro r w8 ⟨rfl, rfl⟩))
      go_wp2
      go_ret2
      exact ⟨rfl, HE.out⟩
    · have HE : Hid (IsRf w R v o ats) := h
      simp only [hv, if_false, ne_eq, not_false_eq_true, decide_true] at ci ⊢
      clear h hk hv
      go_enter Try.func30, Try.ntmps30
      go_wp2_with fail
      refine (rses_any _ _).mono ?_
      rintro r w1 ⟨rfl, rfl⟩
      rw [hs]
      go_wp2
      go_ret2
      exact ⟨rfl, _, HE.out, Tn.refl _ _⟩
  · simp only [if_neg hs]
    have hs' : ses s = false := by simpa using hs
    have HE : Hid (IsRf w R v o ats) := h
    clear h hk hs
    go_enter Try.func30, Try.ntmps30
    go_wp2_with fail
    refine (rses_any _ _).mono ?_
    rintro r w1 ⟨rfl, rfl⟩
    rw [hs']
    go_wp2
    go_ret2
    exact ⟨rfl, _, HE.out, Tn.refl _ _⟩
end
end Go.Proofs.Ytdgphlghmjnjfaa
