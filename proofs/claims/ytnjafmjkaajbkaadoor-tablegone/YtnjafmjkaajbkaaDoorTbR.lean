/- Tables: the other calls, as plain data. -/
import Derived.Test.YtnjafmjkaajbkaaDoorTbS
namespace Go.Proofs.YtnjafmjkaajbkaaDoor
open Go.RowKit
set_option linter.unusedVariables false
set_option maxRecDepth 100000

theorem bsT_set {B : Nat} {uv wv : Value} {us : List Pa} {i : Nat} {x : Pa} (hx : ∀ c h n, x = Pa.live c h n → ∃ h' n', us[i]? = some (Pa.live c h' n')) : ∀ b ∈ bsT B uv wv (us.set i x), b ∈ bsT B uv wv us := by
  intro b hb
  rcases mem_bsT.1 hb with rfl | hb | hb | ⟨j, y, n, hj⟩
  · exact mem_bsT.2 (.inl rfl)
  · exact mem_bsT.2 (.inr (.inl hb))
  · exact mem_bsT.2 (.inr (.inr (.inl hb)))
  · rw [List.getElem?_set] at hj
    split at hj
    · split at hj
      · injection hj with hj
        obtain ⟨h', n', hi⟩ := hx b y n hj
        exact mem_bsT.2 (.inr (.inr (.inr ⟨i, h', n', hi⟩)))
      · cases hj
    · exact mem_bsT.2 (.inr (.inr (.inr ⟨j, y, n, hj⟩)))

section
variable {w w' : World} {B : Nat} {bs : List Nat} {t : Tb}

theorem tState (h : Tbn w B bs t) (p : Int) : Calls Tryd.prog 21 #[.pointer (some ⟨B, 0, none⟩), .int .i64 p] w fun e w' => e = .returned (.int .i64 (t.pg p).st) ∧ w' = w := by
  obtain ⟨uv, wv, rfl, h, ho⟩ := h
  exact state_any h (by have := ho.s1; omega) p

theorem tPages (h : Tbn w B bs t) : Calls Tryd.prog 22 #[.pointer (some ⟨B, 0, none⟩)] w fun e w' => e = .returned (.int .i64 (t.size : Int)) ∧ w' = w := by
  obtain ⟨uv, wv, rfl, h, ho⟩ := h
  exact pages_any h.cells.1 (by have := ho.s1; omega)

theorem tLive (h : Tbn w B bs t) : Calls Tryd.prog 19 #[.pointer (some ⟨B, 0, none⟩)] w fun e w' => e = .returned (.int .i64 ((t.us.length : Int) - t.many - t.gone)) ∧ ∃ k, w' = w.drewN k := by
  obtain ⟨uv, wv, rfl, h, ho⟩ := h
  have := ho.s1
  have := ho.s2
  have := ho.le
  have := t.gone_le
  have := t.many_le
  exact live_any h (by omega) (by omega) ⟨by omega, by omega⟩ ⟨by omega, by omega⟩

theorem tGone (h : Tbn w B bs t) : Calls Tryd.prog 20 #[.pointer (some ⟨B, 0, none⟩)] w fun e w' => e = .returned (.int .i64 (t.gone : Int)) ∧ w' = w := by
  obtain ⟨uv, wv, rfl, h, ho⟩ := h
  exact gone_any h.cells.1 h.cells.2.2.2.2.1 (by have := ho.s1; omega)

theorem tMissed (h : Tbn w B bs t) : Calls Tryd.prog 11 #[.pointer (some ⟨B, 0, none⟩)] w fun e w' => e = .returned (.int .i64 t.missed) ∧ w' = w := by
  obtain ⟨uv, wv, rfl, h, ho⟩ := h
  exact missed_any h.cells.1 h.cells.2.2.2.2.2 (by have := ho.s1; omega)

/-- A live page was given. -/
theorem Tb.live_at {p : Int} {c : Nat} {x : Int × Int} {n : Int} (hp : t.pg p = Pa.live c x n) : ∃ i : Nat, p = (i : Int) ∧ t.us[i]? = some (Pa.live c x n) := by
  obtain ⟨i, hi, hg⟩ := pgAt_in (us := t.us) (p := p) (by rw [show pgAt t.us p = _ from hp]; simp)
  rw [show pgAt t.us p = _ from hp] at hg
  exact ⟨i, hi, hg⟩
theorem Tb.gone_at {p : Int} (hp : t.pg p = Pa.gone) : ∃ i : Nat, p = (i : Int) ∧ t.us[i]? = some Pa.gone := by
  obtain ⟨i, hi, hg⟩ := pgAt_in (us := t.us) (p := p) (by rw [show pgAt t.us p = _ from hp]; simp)
  rw [show pgAt t.us p = _ from hp] at hg
  exact ⟨i, hi, hg⟩

theorem tLoad_live (h : Tbn w B bs t) {p : Int} {c : Nat} {x : Int × Int} {n : Int} (hp : t.pg p = Pa.live c x n) : Calls Tryd.prog 18 #[.pointer (some ⟨B, 0, none⟩), .int .i64 p] w fun e w' => e = .returned (.tuple #[hv x, .int .i64 0]) ∧ Below w.heap.size w w' := by
  obtain ⟨i, rfl, hi⟩ := Tb.live_at hp
  obtain ⟨uv, wv, rfl, h, ho⟩ := h
  exact load_live h (by have := ho.s1; omega) hi

theorem tLoad_none (h : Tbn w B bs t) {p : Int} (hp : (t.pg p).st ≠ 1) : Calls Tryd.prog 18 #[.pointer (some ⟨B, 0, none⟩), .int .i64 p] w fun e w' => e = .returned (.tuple #[hv (0, 0), .int .i64 4]) ∧ Below w.heap.size w w' := by
  obtain ⟨uv, wv, rfl, h, ho⟩ := h
  exact load_none h (by have := ho.s1; omega) p hp

theorem tSwap_none (h : Tbn w B bs t) {p : Int} (hp : (t.pg p).st ≠ 1) (a b : Int × Int) : Calls Tryd.prog 15 #[.pointer (some ⟨B, 0, none⟩), .int .i64 p, hv a, hv b] w fun e w' => e = .returned (.tuple #[.bool false, .int .i64 4]) ∧ Below w.heap.size w w' := by
  obtain ⟨uv, wv, rfl, h, ho⟩ := h
  exact swap_none h (by have := ho.s1; omega) p hp a b

theorem tSwap_arg (h : Tbn w B bs t) {p : Int} (hp : (t.pg p).st = 1) (a : Int × Int) : Calls Tryd.prog 15 #[.pointer (some ⟨B, 0, none⟩), .int .i64 p, hv a, hv (0, 0)] w fun e w' => e = .returned (.tuple #[.bool false, .int .i64 1]) ∧ Below w.heap.size w w' := by
  obtain ⟨uv, wv, rfl, h, ho⟩ := h
  exact swap_arg h (by have := ho.s1; omega) p hp a

theorem tSwap_hit (h : Tbn w B bs t) {p : Int} {c : Nat} {x : Int × Int} {n : Int} (hp : t.pg p = Pa.live c x n) (a b : Int × Int) (hb : b ≠ (0, 0)) (hxa : x = a) : Calls Tryd.prog 15 #[.pointer (some ⟨B, 0, none⟩), .int .i64 p, hv a, hv b] w fun e w' => e = .returned (.tuple #[.bool true, .int .i64 0]) ∧ ∃ t' n', Tb.Upd t t' p (Pa.live c b n') ∧ TbT w w' B bs t' := by
  obtain ⟨i, rfl, hi⟩ := Tb.live_at hp
  obtain ⟨uv, wv, rfl, h, ho⟩ := h
  have hil : i < t.us.length := (List.getElem?_eq_some_iff.1 hi).1
  have hel : t.us[i] = Pa.live c x n := by rw [List.getElem?_eq_getElem hil] at hi; exact Option.some.inj hi
  refine (swap_hit h (by have := ho.s1; omega) hi a b hb hxa).mono ?_
  rintro e w' ⟨rfl, h1, t1⟩
  have hm' : (t.us.set i (Pa.live c b (wrap64 (n + 1)))).countP Pa.isFree = t.many := by
    rw [List.countP_set hil, hel]
    simp [Pa.isFree, Tb.many]
  have hg' : (t.us.set i (Pa.live c b (wrap64 (n + 1)))).countP Pa.isGone = t.gone := by
    rw [List.countP_set hil, hel]
    simp [Pa.isGone, Tb.gone]
  refine ⟨rfl, ⟨t.size, t.us.set i (Pa.live c b (wrap64 (n + 1))), t.ws, t.missed⟩, wrap64 (n + 1), ⟨rfl, rfl, fun q => pgAt_set hil (Pa.live c b (wrap64 (n + 1))) q⟩, bsT B uv wv (t.us.set i (Pa.live c b (wrap64 (n + 1)))), ⟨uv, wv, rfl, ?_, ?_⟩, t1.mono ?_, ?_⟩
  · show Rw w' B uv wv (t.size : Int) (t.us.set i (Pa.live c b (wrap64 (n + 1)))) t.ws (((t.us.set i (Pa.live c b (wrap64 (n + 1)))).countP Pa.isFree : Nat) : Int) (((t.us.set i (Pa.live c b (wrap64 (n + 1)))).countP Pa.isGone : Nat) : Int) t.missed
    rw [hm', hg']
    exact h1
  · refine ⟨ho.s1, ho.s2, by show (t.us.set i _).length ≤ t.size; simp; exact ho.le, ho.wl, ho.w64, fun q => ?_⟩
    show bitAt t.ws q = true ↔ (t.us.set i (Pa.live c b (wrap64 (n + 1))))[q]? = some Pa.free
    rw [ho.bit q]
    by_cases hq : q = i
    · subst hq
      simp [hil, hel]
    · rw [List.getElem?_set_ne (Ne.symm hq)]
  · intro y hy
    simp at hy
    subst hy
    exact mem_bsT.2 (.inr (.inr (.inr ⟨i, x, n, hi⟩)))
  · intro y hy
    exact .inl (bsT_set (fun c' h' n' e => by cases e; exact ⟨x, n, hi⟩) y hy)

theorem tSwap_miss (h : Tbn w B bs t) {p : Int} {c : Nat} {x : Int × Int} {n : Int} (hp : t.pg p = Pa.live c x n) (a b : Int × Int) (hb : b ≠ (0, 0)) (hxa : ¬ x = a) : Calls Tryd.prog 15 #[.pointer (some ⟨B, 0, none⟩), .int .i64 p, hv a, hv b] w fun e w' => e = .returned (.tuple #[.bool false, .int .i64 0]) ∧ TbT w w' B bs { t with missed := wrap64 (t.missed + 1) } := by
  obtain ⟨i, rfl, hi⟩ := Tb.live_at hp
  obtain ⟨uv, wv, rfl, h, ho⟩ := h
  refine (swap_miss h (by have := ho.s1; omega) hi a b hb hxa).mono ?_
  rintro e w' ⟨rfl, h1, t1⟩
  refine ⟨rfl, bsT B uv wv t.us, ⟨uv, wv, rfl, h1, ⟨ho.s1, ho.s2, ho.le, ho.wl, ho.w64, ho.bit⟩⟩, t1.mono ?_, fun y hy => .inl hy⟩
  intro y hy
  simp at hy
  subst hy
  exact mem_bsT.2 (.inl rfl)

theorem tRetire_none (h : Tbn w B bs t) {p : Int} (hp : (t.pg p).st ≠ 1) : Calls Tryd.prog 16 #[.pointer (some ⟨B, 0, none⟩), .int .i64 p] w fun e w' => e = .returned (.int .i64 4) ∧ w' = w := by
  obtain ⟨uv, wv, rfl, h, ho⟩ := h
  exact retire_none h (by have := ho.s1; omega) p hp

theorem tRetire_live (h : Tbn w B bs t) {p : Int} {c : Nat} {x : Int × Int} {n : Int} (hp : t.pg p = Pa.live c x n) : Calls Tryd.prog 16 #[.pointer (some ⟨B, 0, none⟩), .int .i64 p] w fun e w' => e = .returned (.int .i64 0) ∧ ∃ t', Tb.Upd t t' p Pa.gone ∧ TbT w w' B bs t' := by
  obtain ⟨i, rfl, hi⟩ := Tb.live_at hp
  obtain ⟨uv, wv, rfl, h, ho⟩ := h
  have hil : i < t.us.length := (List.getElem?_eq_some_iff.1 hi).1
  have hel : t.us[i] = Pa.live c x n := by rw [List.getElem?_eq_getElem hil] at hi; exact Option.some.inj hi
  have := t.gone_le
  have := ho.le
  have := ho.s2
  obtain ⟨g, hgb, hcall⟩ := retire_live h (by have := ho.s1; omega) (by omega) (by omega) hi
  refine hcall.mono ?_
  rintro e w' ⟨rfl, h1, t1⟩
  have hm' : (t.us.set i Pa.gone).countP Pa.isFree = t.many := by
    rw [List.countP_set hil, hel]
    simp [Pa.isFree, Tb.many]
  have hg' : (t.us.set i Pa.gone).countP Pa.isGone = t.gone + 1 := by
    rw [List.countP_set hil, hel]
    simp [Pa.isGone, Tb.gone]
  refine ⟨rfl, ⟨t.size, t.us.set i Pa.gone, t.ws, t.missed⟩, ⟨rfl, rfl, fun q => pgAt_set hil Pa.gone q⟩, bsT B uv wv (t.us.set i Pa.gone), ⟨uv, wv, rfl, ?_, ?_⟩, t1.mono ?_, ?_⟩
  · show Rw w' B uv wv (t.size : Int) (t.us.set i Pa.gone) t.ws (((t.us.set i Pa.gone).countP Pa.isFree : Nat) : Int) (((t.us.set i Pa.gone).countP Pa.isGone : Nat) : Int) t.missed
    rw [hm', hg', show ((t.gone + 1 : Nat) : Int) = (t.gone : Int) + 1 by omega]
    exact h1
  · refine ⟨ho.s1, ho.s2, by show (t.us.set i _).length ≤ t.size; simp; exact ho.le, ho.wl, ho.w64, fun q => ?_⟩
    show bitAt t.ws q = true ↔ (t.us.set i Pa.gone)[q]? = some Pa.free
    rw [ho.bit q]
    by_cases hq : q = i
    · subst hq
      simp [hil, hel]
    · rw [List.getElem?_set_ne (Ne.symm hq)]
  · intro y hy
    simp at hy
    rcases hy with rfl | rfl
    · exact mem_bsT.2 (.inr (.inl hgb))
    · exact mem_bsT.2 (.inl rfl)
  · intro y hy
    exact .inl (bsT_set (fun c' h' n' e => by cases e) y hy)

theorem tRelease_none (h : Tbn w B bs t) {p : Int} (hp : (t.pg p).st ≠ 2) : Calls Tryd.prog 17 #[.pointer (some ⟨B, 0, none⟩), .int .i64 p] w fun e w' => e = .returned (.int .i64 4) ∧ w' = w := by
  obtain ⟨uv, wv, rfl, h, ho⟩ := h
  exact release_none h (by have := ho.s1; omega) p hp

theorem tRelease_gone (h : Tbn w B bs t) {p : Int} (hp : t.pg p = Pa.gone) : Calls Tryd.prog 17 #[.pointer (some ⟨B, 0, none⟩), .int .i64 p] w fun e w' => e = .returned (.int .i64 0) ∧ ∃ t', Tb.Upd t t' p Pa.free ∧ TbT w w' B bs t' := by
  obtain ⟨i, rfl, hi⟩ := Tb.gone_at hp
  obtain ⟨uv, wv, rfl, h, ho⟩ := h
  have hil : i < t.us.length := (List.getElem?_eq_some_iff.1 hi).1
  have hel : t.us[i] = Pa.gone := by rw [List.getElem?_eq_getElem hil] at hi; exact Option.some.inj hi
  have := t.gone_le
  have := t.many_le
  have := ho.le
  have := ho.s2
  have hg1 : 1 ≤ t.gone := List.countP_pos_iff.2 ⟨_, List.mem_of_getElem? hi, rfl⟩
  refine (release_gone h (by have := ho.s1; omega) (by omega) (by omega) (by omega) (by omega) (by omega) ho.wl ho.w64 hi).mono ?_
  rintro e w' ⟨rfl, wv', ws', b1, b2, b3, h1, t1, n1⟩
  have hm' : (t.us.set i Pa.free).countP Pa.isFree = t.many + 1 := by
    rw [List.countP_set hil, hel]
    simp [Pa.isFree, Tb.many]
  have hg' : (t.us.set i Pa.free).countP Pa.isGone = t.gone - 1 := by
    rw [List.countP_set hil, hel]
    simp [Pa.isGone, Tb.gone]
  refine ⟨rfl, ⟨t.size, t.us.set i Pa.free, ws', t.missed⟩, ⟨rfl, rfl, fun q => pgAt_set hil Pa.free q⟩, bsT B uv wv' (t.us.set i Pa.free), ⟨uv, wv', rfl, ?_, ?_⟩, t1.mono bs3_sub, ?_⟩
  · show Rw w' B uv wv' (t.size : Int) (t.us.set i Pa.free) ws' (((t.us.set i Pa.free).countP Pa.isFree : Nat) : Int) (((t.us.set i Pa.free).countP Pa.isGone : Nat) : Int) t.missed
    rw [hm', hg', show ((t.many + 1 : Nat) : Int) = (t.many : Int) + 1 by omega, show ((t.gone - 1 : Nat) : Int) = (t.gone : Int) - 1 by omega]
    exact h1
  · refine ⟨ho.s1, ho.s2, by show (t.us.set i _).length ≤ t.size; simp; exact ho.le, b2, b3, fun q => ?_⟩
    show bitAt ws' q = true ↔ (t.us.set i Pa.free)[q]? = some Pa.free
    rw [b1]
    by_cases hq : q = i
    · subst hq
      simp [hil]
    · rw [List.getElem?_set_ne (Ne.symm hq), ← ho.bit q]
      simp [hq]
  · intro y hy
    rcases mem_bsT.1 hy with rfl | hb | hb | ⟨j, z, n, hj⟩
    · exact .inl (mem_bsT.2 (.inl rfl))
    · exact .inl (mem_bsT.2 (.inr (.inl hb)))
    · exact (n1 y hb).imp (fun hh => mem_bsT.2 (.inr (.inr (.inl hh)))) id
    · exact .inl (bsT_set (wv := wv) (fun c' h' n' e => by cases e) y (mem_bsT.2 (.inr (.inr (.inr ⟨j, z, n, hj⟩)))))
end

theorem tNew (n : Nat) (h1 : 1 ≤ n) (h2 : n ≤ 65536) (w : World) : Calls Tryd.prog 7 #[.int .i64 (n : Int)] w fun e w' => e = .returned (.tuple #[.pointer (some ⟨w.heap.size, 0, none⟩), .int .i64 0]) ∧ Tbn w' w.heap.size [w.heap.size] ⟨n, [], [], 0⟩ ∧ Below w.heap.size w w' := by
  refine (new_ok (n : Int) (by omega) (by omega) w).mono ?_
  rintro e w' ⟨rfl, h, b⟩
  exact ⟨rfl, ⟨_, _, rfl, h, ⟨h1, h2, Nat.zero_le _, by simp, by simp, fun p => by simp [bitAt]⟩⟩, b⟩
end Go.Proofs.YtnjafmjkaajbkaaDoor
