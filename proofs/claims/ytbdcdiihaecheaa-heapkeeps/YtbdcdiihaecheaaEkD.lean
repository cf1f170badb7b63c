/- Epochs: how many wait; the next epoch. -/
import Derived.Test.YtbdcdiihaecheaaEkC
namespace Go.Proofs.Ytbdcdiihaecheaa
open Go.RowKit
set_option linter.unusedVariables false
set_option maxRecDepth 100000

theorem retire_no {w : World} {p : Option Addr} (h : Nm w p) (x : Rt) :
    Calls Try.prog 52 #[.pointer p, x.val] w fun r w' => r = .returned (.int .i64 2) ∧ Below w.heap.size w w' := by
  have HN : Hid (Nm (w.alloc (.cells #[.int .i64 x.k, .int .i64 x.s, .int .i64 x.g] 59)) p) := h.below ((Below.refl _ _).alloc (Nat.le_refl _) _)
  clear h
  go_enter Try.func52, Try.ntmps52
  go_wp2_with fail
  refine (made_no HN.out).mono ?_
  rintro r w1 ⟨rfl, rfl⟩
  go_wp2
  go_ret
  exact ⟨rfl, (Below.refl _ _).alloc (Nat.le_refl _) _⟩

theorem advance_no {w : World} {p : Option Addr} (h : Nm w p) :
    Calls Try.prog 21 #[.pointer p] w fun r w' => r = .returned (.tuple #[.slice none 0 0, .int .i64 2]) ∧ w' = w := by
  go_enter Try.func21, Try.ntmps21
  go_wp2_with fail
  refine (made_no h).mono ?_
  rintro r w1 ⟨rfl, rfl⟩
  go_wp2
  go_ret2
  exact ⟨rfl, rfl⟩

theorem waiting_no {w : World} {p : Option Addr} (h : Nm w p) :
    Calls Try.prog 24 #[.pointer p] w fun r w' => r = .returned (.int .i64 0) ∧ w' = w := by
  go_enter Try.func24, Try.ntmps24
  go_wp2_with fail
  refine (made_no h).mono ?_
  rintro r w1 ⟨rfl, rfl⟩
  go_wp2
  go_ret
  exact ⟨rfl, rfl⟩

theorem list_int (w : World) (B : Nat) (n : Int) (m : Nat) (hm : n = (m : Int)) : Calls Try.prog 57 #[.pointer (some ⟨B, 0, none⟩), .int .i64 n] w fun e w' => e = .returned (.pointer (some ⟨B, 18 + m % 3, none⟩)) ∧ w' = w := by
  subst hm
  exact list_any w B m

set_option maxHeartbeats 2000000 in
theorem waiting_any {w : World} {B : Nat} {vs : List Value} {e : Ep} (h : IsEp w B vs e) (hn : e.now ≤ 4611686018427387904) (hl : e.old.length + e.cur.length ≤ 3600000000000) :
    Calls Try.prog 24 #[.pointer (some ⟨B, 0, none⟩)] w fun r w' => r = .returned (.int .i64 ((e.old.length + e.cur.length : Nat) : Int)) ∧ ∃ k, w' = w.drewN k := by
  have h0 := h.n1
  have c0 := h.cNow
  obtain ⟨m, hm⟩ : ∃ m, e.now = m + 1 := ⟨e.now - 1, by omega⟩
  have HM : Hid (e.now = m + 1) := hm
  have r1 := h.row (e.now % 3) (by omega)
  have r2 := h.row ((e.now + 2) % 3) (by omega)
  have c1 := h.cList (e.now % 3) (by omega)
  have c2 := h.cList ((e.now + 2) % 3) (by omega)
  rw [Ep.lst_cur] at r1
  rw [Ep.lst_old] at r2
  obtain ⟨p1, k1, e1, -⟩ := r1.form
  obtain ⟨p2, k2, e2, -⟩ := r2.form
  rw [e1] at c1
  rw [e2] at c2
  have e3 : (e.now + 2) % 3 = m % 3 := by omega
  rw [e3] at c2
  clear r1 r2 e1 e2 e3 h hm
  generalize e.old.length = lo at *
  generalize e.cur.length = lc at *
  generalize e.now = n at *
  go_enter Try.func24, Try.ntmps24
  go_wp2_with fail
  refine (made_any c0 h0).mono ?_
  rintro r w1 ⟨rfl, rfl⟩
  go_wp2_with fail
  go_quiet (first
    | (go_at_call 57; refine Calls.quiet_of_same (list_int _ B _ m (by have := HM.out; omega)))
    | (go_at_call 57; refine Calls.quiet_of_same (list_int _ B _ n rfl)))
  go_wp2
  go_ret
  exact ⟨by simp, nq, rfl⟩

theorem tn_drewN (w : World) (k : Nat) : Tn [] w (w.drewN k) := Tn.of_below (below_drewN (Below.refl _ _) _) _

/-- The next epoch. -/
theorem IsEp.next {w w' : World} {B : Nat} {vs : List Value} {e : Ep} (h : IsEp w B vs e) (hh : e.held = false) (hw : w' = (w.setCell ⟨B, 0, none⟩ (.int .i64 ((e.now + 1 : Nat) : Int))).setCell ⟨B, 18 + (e.now + 2) % 3, none⟩ vNil) :
    IsEp w' B (vs.set ((e.now + 2) % 3) vNil) e.next ∧ Tn [B] w w' ∧ Rr w' (vs.getD ((e.now + 2) % 3) vNil) e.old ∧ (∀ b ∈ blocks B (vs.set ((e.now + 2) % 3) vNil), b ∈ blocks B vs) ∧ ∀ b, (vs.getD ((e.now + 2) % 3) vNil).ownBlock = some b → b ∈ blocks B vs ∧ b ∉ blocks B (vs.set ((e.now + 2) % 3) vNil) := by
  obtain ⟨k, hk⟩ : ∃ k, (e.now + 2) % 3 = k := ⟨_, rfl⟩
  have hk3 : k < 3 := by omega
  rw [hk] at hw ⊢
  have ht : Tn [B] w w' := by
    rw [hw]
    exact ((Tn.refl _ _).setCell (.inl (by simp)) _).setCell (.inl (by simp)) _
  have hg : ∀ j, (vs.set k vNil).getD j vNil = if j = k then vNil else vs.getD j vNil := fun j => getD_set _ _ _ _ _ (by rw [h.v3]; exact hk3)
  have hv3 : (vs.set k vNil).length = 3 := by simp [h.v3]
  refine ⟨?_, ht, ?_, ?_, ?_⟩
  · exact {
      blk := by
        rw [hw]
        have := (h.blk.set 0 (.int .i64 ((e.now + 1 : Nat) : Int))).set (18 + k) vNil
        rwa [epCells_setNow, epCells_setList _ _ _ _ h.p17] at this
      p17 := h.p17
      v3 := hv3
      row := fun j hj => by
        rw [hg j, Ep.lst_next e j hj]
        by_cases e1 : j = k
        · rw [if_pos e1, if_pos (by omega)]
          exact Rr.nil _
        · rw [if_neg e1, if_neg (by omega)]
          exact (h.row j hj).tn ht (fun b hb => by simpa using h.neB j b hj hb)
      ne := fun i j b hi hj h1 h2 => by
        rw [hg i] at h1
        rw [hg j] at h2
        by_cases e1 : i = k
        · rw [if_pos e1] at h1
          cases h1
        · by_cases e2 : j = k
          · rw [if_pos e2] at h2
            cases h2
          · rw [if_neg e1] at h1
            rw [if_neg e2] at h2
            exact h.ne i j b hi hj h1 h2
      neB := fun j b hj h1 => by
        rw [hg j] at h1
        by_cases e1 : j = k
        · rw [if_pos e1] at h1
          cases h1
        · rw [if_neg e1] at h1
          exact h.neB j b hj h1
      n1 := by show 1 ≤ e.now + 1; omega
      ple := fun p hp => Nat.le_succ_of_le (h.ple p hp) }
  · have := h.row k hk3
    rw [← hk, Ep.lst_old, hk] at this
    exact this.tn ht (fun b hb => by simpa using h.neB k b hk3 hb)
  · intro b hb
    rcases (mem_blocks hv3).1 hb with rfl | ⟨j, hj, hb⟩
    · simp [blocks]
    · rw [hg j] at hb
      by_cases e1 : j = k
      · rw [if_pos e1] at hb
        cases hb
      · rw [if_neg e1] at hb
        exact (mem_blocks h.v3).2 (.inr ⟨j, hj, hb⟩)
  · intro b hb
    refine ⟨(mem_blocks h.v3).2 (.inr ⟨k, hk3, hb⟩), fun hm => ?_⟩
    rcases (mem_blocks hv3).1 hm with rfl | ⟨j, hj, hb2⟩
    · exact h.neB k b hk3 hb rfl
    · rw [hg j] at hb2
      by_cases e1 : j = k
      · rw [if_pos e1] at hb2
        cases hb2
      · rw [if_neg e1] at hb2
        exact e1 (h.ne j k b hj hk3 hb2 hb)

/-- What Advance leaves. -/
structure Adv (w w' : World) (B : Nat) (bs : List Nat) (e : Ep) (v : Value) : Prop where
  ep : ∃ bs', Epn w' B bs' e.next ∧ Tn [B] w w' ∧ (∀ b ∈ bs', b ∈ bs) ∧ ∀ b, v.ownBlock = some b → b ∈ bs ∧ b ∉ bs'
  row : Rr w' v e.old

set_option maxHeartbeats 2000000 in
theorem advance_any {w : World} {B : Nat} {bs : List Nat} {e : Ep} (h : Epn w B bs e) (hn : e.now ≤ 4611686018427387904) (hh : e.held = false) :
    Calls Try.prog 21 #[.pointer (some ⟨B, 0, none⟩)] w fun r w' => ∃ v, r = .returned (.tuple #[v, .int .i64 0]) ∧ Adv w w' B bs e v := by
  obtain ⟨vs, rfl, h⟩ := h
  have h0 := h.n1
  have c0 := h.cNow
  have f0 : w.frozen? ⟨B, 0, none⟩ = false := h.blk.frozen _
  have HI : Hid (IsEp w B vs e) := h
  have HH : Hid (e.held = false) := hh
  have hB1 := h.blk.set 0 (.int .i64 ((e.now + 1 : Nat) : Int))
  rw [epCells_setNow] at hB1
  have d0 := (hB1.cell 0).trans (epCells_now _ _ _)
  have d1 := (hB1.cell (18 + (e.now + 2) % 3)).trans (epCells_list _ _ _ h.p17 _ (by rw [h.v3]; omega))
  have f1 := hB1.frozen (18 + (e.now + 2) % 3)
  obtain ⟨v, hv⟩ : ∃ v, vs.getD ((e.now + 2) % 3) vNil = v := ⟨_, rfl⟩
  have HA : Hid (Adv w ((w.setCell ⟨B, 0, none⟩ (.int .i64 ((e.now + 1 : Nat) : Int))).setCell ⟨B, 18 + (e.now + 2) % 3, none⟩ (.slice none 0 0)) B (blocks B vs) e v) := by
    obtain ⟨a1, a2, a3, a4, a5⟩ := h.next hh rfl
    rw [hv] at a3 a5
    exact ⟨⟨_, ⟨_, rfl, a1⟩, a2, a4, a5⟩, a3⟩
  rw [hv] at d1
  have hr := h.row ((e.now + 2) % 3) (by omega)
  rw [hv] at hr
  obtain ⟨p, c, rfl, -⟩ := hr.form
  clear hr hB1 h hh hv
  obtain ⟨m, hm⟩ : ∃ m, e.now = m + 1 := ⟨e.now - 1, by omega⟩
  have e3 : (e.now + 2) % 3 = m % 3 := by omega
  rw [e3] at d1 f1 HA
  have hadd : ((e.now + 1 : Nat) : Int) = (e.now : Int) + 1 := by omega
  rw [hadd] at d0 d1 f1 HA
  have HM : Hid (e.now = m + 1) := hm
  clear hm e3 hadd
  generalize (e.lst (m % 3)).length = ln at *
  generalize (e.lst ((e.now + 2) % 3)).length = ln at *
  go_enter Try.func21, Try.ntmps21
  go_wp2_with fail
  refine (made_any c0 h0).mono ?_
  rintro r w1 ⟨rfl, rfl⟩
  go_wp2_with fail
  refine (held_any HI.out).mono ?_
  rintro r w1 ⟨rfl, rfl⟩
  rw [HH.out]
  go_wp2_with fail
  refine (list_int _ B _ m (by have := HM.out; omega)).mono ?_
  rintro r w2 ⟨rfl, rfl⟩
  go_wp2
  go_ret2
  exact ⟨_, rfl, HA.out⟩

theorem advance_held {w : World} {B : Nat} {bs : List Nat} {e : Ep} (h : Epn w B bs e) (hh : e.held = true) :
    Calls Try.prog 21 #[.pointer (some ⟨B, 0, none⟩)] w fun r w' => r = .returned (.tuple #[.slice none 0 0, .int .i64 62]) ∧ w' = w := by
  obtain ⟨vs, rfl, h⟩ := h
  have h0 := h.n1
  have c0 := h.cNow
  have HI : Hid (IsEp w B vs e) := h
  have HH : Hid (e.held = true) := hh
  clear h hh
  go_enter Try.func21, Try.ntmps21
  go_wp2_with fail
  refine (made_any c0 h0).mono ?_
  rintro r w1 ⟨rfl, rfl⟩
  go_wp2_with fail
  refine (held_any HI.out).mono ?_
  rintro r w1 ⟨rfl, rfl⟩
  rw [HH.out]
  go_wp2
  go_ret2
  exact ⟨rfl, rfl⟩

end Go.Proofs.Ytbdcdiihaecheaa
