/- A clone: its rows, its words. -/
import Derived.Test.YtnjafmjkaajbkaaDoorTbQ
import Derived.Lib.SliceRun
namespace Go.Proofs.YtnjafmjkaajbkaaDoor
open Go.RowKit
set_option linter.unusedVariables false
set_option maxRecDepth 100000

theorem pa_one (us : List Pa) : ∀ u ∈ paCells us, u.oneCell' = true := by
  intro u hu
  obtain ⟨y, hy1, hy2⟩ := List.mem_flatten.1 hu
  obtain ⟨z, _, rfl⟩ := List.mem_map.1 hy1
  simp [Pa.cells] at hy2
  rcases hy2 with rfl | rfl <;> rfl
theorem ws_one (ws : List Nat) : ∀ u ∈ wsCells ws, u.oneCell' = true := by
  intro u hu
  obtain ⟨y, _, rfl⟩ := List.mem_map.1 hu
  rfl

/-- A new row with the same cells. -/
def Cp (w w' : World) (e : TypeId) (size : Nat) (v' : Value) (n : Nat) (xs : List Value) : Prop := w'.ownsRow 0 e size v' n xs ∧ Below w.heap.size w w' ∧ ∀ k, v'.ownBlock = some k → w.heap.size ≤ k

theorem cloneE_any {w : World} {v : Value} {us : List Pa} {n : Nat} (hn : us.length = n) (h : w.ownsRow 0 80 2 v n (paCells us)) (hb : n ≤ 65536) :
    Calls Tryd.prog 44 #[v] w fun e w' => ∃ v', e = .returned v' ∧ Cp w w' 80 2 v' n (paCells us) := by
  have qnil : ∀ (w : World) (a : Option Addr) (n c n' c' : Nat), (binOp .eql 54 (.slice a n c) (.slice none n' c')).run Tryd.prog w = .ok (.bool a.isNone) w := fun w a n c n' c' => Lib.run_eql_slice_nil w _ _ a n c n' c' Tryd.underlying54
  rcases h.2 with ⟨rfl, rfl⟩ | ⟨g, cap, cur, rfl, hg0, hg, hcap, hmax, hsz, htake⟩
  · obtain rfl : us = [] := List.eq_nil_of_length_eq_zero hn
    clear h
    go_enter Tryd.func44, Tryd.ntmps44
    go_wp2
    go_ret
    exact ⟨_, rfl, World.ownsRow_nil _ _ _ _, Below.refl _ _, fun k hk => by cases hk⟩
  · have HM : Hid ((w.alloc (.cells #[] 80)).ownsRow 0 80 2 (.slice (some ⟨w.heap.size, 0, none⟩) 0 0) 0 []) := World.ownsRow_made w #[] 0 (Nat.zero_le _) (by unfold maxLen; omega) rfl
    have HN : Hid (∀ ad, some (⟨g, 0, none⟩ : Addr) = some ad → ∀ (j : Nat) (u : Value), (paCells us)[j]? = some u → (w.alloc (.cells #[] 80)).cell? (ad.add j) = some u) := fun ad had j u hu => by
      cases had
      have h1 := World.ownsRow.cells h rfl j u hu
      rw [((Below.refl w.heap.size w).alloc (Nat.le_refl _) _).cell (p := (⟨g, 0, none⟩ : Addr).add j) (World.block_lt_of_cell? w _ h1)]
      exact h1
    have HL : Hid ((paCells us).length = n * 2) := h.1
    clear h hg hsz htake hn hcap hmax
    go_enter Tryd.func44, Tryd.ntmps44
    go_wp2_with (at_builtin; refine appX _ rfl _ _ _ rfl 80 (.agg #[.int .i64 0, .pointer none]) 2 16 Tryd.underlying54 tinfo rfl (by decide) (.slice (some ⟨w.heap.size, 0, none⟩) 0 0) 0 [] rfl HM.out (some ⟨g, 0, none⟩) n cap (paCells us) rfl HL.out HN.out (pa_one us) (fun h => by cases h) (by unfold maxLen; omega) (by omega) ?_)
    intro v1 w1 r1 g1 b1
    have HE : Hid (Cp w w1 80 2 v1 n (paCells us)) := by
      refine ⟨by simpa using r1, ?_, fun k hk => ?_⟩
      · exact ((Tn.of_below ((Below.refl _ w).alloc (Nat.le_refl _) _) []).grown g1 (fun k hk => .inr (by cases hk; exact Nat.le_refl _))).below (Nat.le_refl _) (by simp)
      · rcases b1 with b1 | b1
        · rw [b1] at hk; cases hk; exact Nat.le_refl _
        · rw [b1] at hk; simp at hk; omega
    clear r1 g1 b1
    go_wp2
    go_ret
    exact ⟨_, rfl, HE.out⟩

theorem cloneW_any {w : World} {v : Value} {ws : List Nat} {n : Nat} (hn : ws.length = n) (h : w.ownsRow 0 100 1 v n (wsCells ws)) (hb : n ≤ 65536) :
    Calls Tryd.prog 56 #[v] w fun e w' => ∃ v', e = .returned v' ∧ Cp w w' 100 1 v' n (wsCells ws) := by
  have qnil : ∀ (w : World) (a : Option Addr) (n c n' c' : Nat), (binOp .eql 55 (.slice a n c) (.slice none n' c')).run Tryd.prog w = .ok (.bool a.isNone) w := fun w a n c n' c' => Lib.run_eql_slice_nil w _ _ a n c n' c' Tryd.underlying55
  rcases h.2 with ⟨rfl, rfl⟩ | ⟨g, cap, cur, rfl, hg0, hg, hcap, hmax, hsz, htake⟩
  · obtain rfl : ws = [] := List.eq_nil_of_length_eq_zero hn
    clear h
    go_enter Tryd.func56, Tryd.ntmps56
    go_wp2
    go_ret
    exact ⟨_, rfl, World.ownsRow_nil _ _ _ _, Below.refl _ _, fun k hk => by cases hk⟩
  · have HM : Hid ((w.alloc (.cells #[] 100)).ownsRow 0 100 1 (.slice (some ⟨w.heap.size, 0, none⟩) 0 0) 0 []) := World.ownsRow_made w #[] 0 (Nat.zero_le _) (by unfold maxLen; omega) rfl
    have HN : Hid (∀ ad, some (⟨g, 0, none⟩ : Addr) = some ad → ∀ (j : Nat) (u : Value), (wsCells ws)[j]? = some u → (w.alloc (.cells #[] 100)).cell? (ad.add j) = some u) := fun ad had j u hu => by
      cases had
      have h1 := World.ownsRow.cells h rfl j u hu
      rw [((Below.refl w.heap.size w).alloc (Nat.le_refl _) _).cell (p := (⟨g, 0, none⟩ : Addr).add j) (World.block_lt_of_cell? w _ h1)]
      exact h1
    have HL : Hid ((wsCells ws).length = n * 1) := h.1
    clear h hg hsz htake hn hcap hmax
    go_enter Tryd.func56, Tryd.ntmps56
    go_wp2_with (at_builtin; refine appX _ rfl _ _ _ rfl 100 (.int .u64 0) 1 8 Tryd.underlying55 winfo rfl (by decide) (.slice (some ⟨w.heap.size, 0, none⟩) 0 0) 0 [] rfl HM.out (some ⟨g, 0, none⟩) n cap (wsCells ws) rfl HL.out HN.out (ws_one ws) (fun h => by cases h) (by unfold maxLen; omega) (by omega) ?_)
    intro v1 w1 r1 g1 b1
    have HE : Hid (Cp w w1 100 1 v1 n (wsCells ws)) := by
      refine ⟨by simpa using r1, ?_, fun k hk => ?_⟩
      · exact ((Tn.of_below ((Below.refl _ w).alloc (Nat.le_refl _) _) []).grown g1 (fun k hk => .inr (by cases hk; exact Nat.le_refl _))).below (Nat.le_refl _) (by simp)
      · rcases b1 with b1 | b1
        · rw [b1] at hk; cases hk; exact Nat.le_refl _
        · rw [b1] at hk; simp at hk; omega
    clear r1 g1 b1
    go_wp2
    go_ret
    exact ⟨_, rfl, HE.out⟩

theorem results_wt {fn : Func} {t : Tmp} (h : fn.results = #[.cell t 57]) {tmps : Array Value} {w : World} {b : Nat} (ht : tmps.getD t undef = .pointer (some ⟨b, 0, none⟩)) {v : Value} {m : Int} (h0 : w.cell? ⟨b, 0, none⟩ = some v) (h1 : w.cell? ⟨b, 1, none⟩ = some (.int .i64 m)) :
    (results fn tmps).run Tryd.prog w = .ok (.agg #[v, .int .i64 m]) w := by
  have hz : ∀ w : World, (loadVar 57 ⟨b, 0, none⟩).run Tryd.prog w = (do let x ← load ⟨b, 0, none⟩; let y ← load ⟨b, 1, none⟩; pure (.agg #[x, y]) : Sem Value).run Tryd.prog w := fun w => by kernel_rfl
  have hl : (loadVar 57 ⟨b, 0, none⟩).run Tryd.prog w = .ok (.agg #[v, .int .i64 m]) w := by
    rw [hz]
    simp [h0, h1]
  have ht' : tmps[t]?.getD undef = .pointer (some ⟨b, 0, none⟩) := by simpa using ht
  simp [results, h, ht', asAddr, hl]

set_option maxHeartbeats 2000000 in
theorem wclone_any {w : World} {v : Value} {ws : List Nat} {n : Nat} (m : Int) (hn : ws.length = n) (h : w.ownsRow 0 100 1 v n (wsCells ws)) (hb : n ≤ 65536) :
    Calls Tryd.prog 45 #[.agg #[v, .int .i64 m]] w fun e w' => ∃ v', e = .returned (.agg #[v', .int .i64 m]) ∧ Cp w w' 100 1 v' n (wsCells ws) := by
  obtain ⟨p, c, rfl, -⟩ := row_form h
  obtain ⟨w0, hw0⟩ : ∃ w0, (w.alloc (.cells #[.slice p n c, .int .i64 m] 57)).alloc (.cells #[.slice none 0 0, .int .i64 0] 57) = w0 := ⟨_, rfl⟩
  have hb0 : Below w.heap.size w w0 := by rw [← hw0]; exact ((Below.refl _ w).alloc (Nat.le_refl _) _).alloc (by simp) _
  have k0 : Bk w0 w.heap.size 57 #[.slice p n c, .int .i64 m] := by rw [← hw0]; exact (Bk.new _ _ _).alloc _
  have k1 : Bk w0 (w.heap.size + 1) 57 #[.slice none 0 0, .int .i64 0] := by
    rw [← hw0]
    have := Bk.new (w.alloc (.cells #[.slice p n c, .int .i64 m] 57)) 57 #[.slice none 0 0, .int .i64 0]
    rwa [World.size_alloc] at this
  have c0 : w0.cell? ⟨w.heap.size, 0, none⟩ = some (.slice p n c) := k0.cell 0
  have c1 : w0.cell? ⟨w.heap.size, 1, none⟩ = some (.int .i64 m) := k0.cell 1
  have HR : Hid (w0.drew.ownsRow 0 100 1 (.slice p n c) n (wsCells ws)) := (owns_tn h (Tn.of_below hb0 []) (by simp)).drew
  have HK : Hid (∀ v' w', Cp w0.drew w' 100 1 v' n (wsCells ws) → (w'.cell? ⟨w.heap.size, 0, none⟩ = some (.slice p n c) ∧ w'.cell? ⟨w.heap.size, 1, none⟩ = some (.int .i64 m)) ∧ w'.cell? ⟨w.heap.size + 1, 0, none⟩ = some (.slice none 0 0) ∧ w'.cell? ⟨w.heap.size + 1, 1, none⟩ = some (.int .i64 0) ∧ w'.frozen? ⟨w.heap.size + 1, 0, none⟩ = false ∧ w'.frozen? ⟨w.heap.size + 1, 1, none⟩ = false ∧
      ∃ w2, (w'.setCell ⟨w.heap.size + 1, 0, none⟩ v').setCell ⟨w.heap.size + 1, 1, none⟩ (.int .i64 m) = w2 ∧ (w2.cell? ⟨w.heap.size, 0, none⟩ = some (.slice p n c) ∧ w2.cell? ⟨w.heap.size, 1, none⟩ = some (.int .i64 m)) ∧ w2.cell? ⟨w.heap.size + 1, 0, none⟩ = some v' ∧ w2.cell? ⟨w.heap.size + 1, 1, none⟩ = some (.int .i64 m) ∧ Cp w w2 100 1 v' n (wsCells ws)) := by
    rintro v' w' ⟨r1, b1, n1⟩
    have a0 := k0.drew.below b1 k0.lt
    have a1 := k1.drew.below b1 k1.lt
    have t2 : Tn [w.heap.size + 1] w' ((w'.setCell ⟨w.heap.size + 1, 0, none⟩ v').setCell ⟨w.heap.size + 1, 1, none⟩ (.int .i64 m)) := ((Tn.refl _ _).setCell (.inl (by simp)) _).setCell (.inl (by simp)) _
    have a0' := a0.tn t2 (by simp)
    have a1' := (a1.set 0 v').set 1 (.int .i64 m)
    have hs0 : w0.heap.size = w.heap.size + 2 := by rw [← hw0]; simp
    refine ⟨⟨a0.cell 0, a0.cell 1⟩, a1.cell 0, a1.cell 1, a1.frozen 0, a1.frozen 1, _, rfl, ⟨a0'.cell 0, a0'.cell 1⟩, a1'.cell 0, a1'.cell 1, owns_tn r1 t2 (fun k hk hm => ?_), ?_, fun k hk => ?_⟩
    · have := n1 k hk
      simp at hm
      have e : w0.drew.heap.size = w0.heap.size := rfl
      omega
    · have hb1 : Below w0.heap.size w0 w' := ⟨b1.os, b1.tape, b1.output, b1.size, b1.block⟩
      exact (hb0.trans (hb1.mono (by omega))).trans (t2.below (by have := hb1.size; omega) (by simp))
    · have := n1 k hk
      have e : w0.drew.heap.size = w0.heap.size := rfl
      omega
  clear h hb0 k0 k1
  go_enter Tryd.func45, Tryd.ntmps45
  go_wp2_with fail
  go_region_held3 (fun v => v.cell? ⟨w.heap.size, 0, none⟩ = some (.slice p n c) ∧ v.cell? ⟨w.heap.size, 1, none⟩ = some (.int .i64 m)) (go_keep) (first
    | (go_at_call 56; refine (cloneW_any hn HR.out hb).mono ?_; rintro e w1 ⟨v1, rfl, cp1⟩; obtain ⟨p1, k1, rfl, -⟩ := row_form cp1.1; obtain ⟨q1, q2, q3, q4, q5, w2, hw2, q6, q7, q8, q9⟩ := HK.out _ w1 cp1; have c0 := q1.1; have c1 := q1.2; have x0 := q6.1; have x1 := q6.2; have HF : Hid _ := q9; clear cp1 q1 q6 q9))
  go_wp2
  try simp only [Exit.inBlock, Exit.then]
  refine bodyPost_ret (results_wt rfl rfl q7 q8) rfl ?_
  exact ⟨_, rfl, HF.out⟩
end Go.Proofs.YtnjafmjkaajbkaaDoor
