/- Epochs: sessions are pinned and let go. -/
import Derived.Test.YtndmcjkbbedoeaaEpA
import Derived.Deep.RegionHeld3
namespace Go.Proofs.Ytndmcjkbbedoeaa
open Go.RowKit
set_option linter.unusedVariables false
set_option maxRecDepth 100000

theorem Ep.pin_le {e : Ep} (h : ∀ p ∈ e.pins, p ≤ e.now) (s : Nat) : e.pin s ≤ e.now := by
  unfold Ep.pin
  by_cases hs : s < e.pins.length
  · rw [show e.pins.getD s 0 = e.pins[s] by simp [List.getD, hs]]
    exact h _ (List.getElem_mem hs)
  · simp [List.getD, hs]

set_option maxHeartbeats 1000000 in
theorem pin_any {w : World} {B : Nat} {bs : List Nat} {e : Ep} (h : Epn w B bs e) (s : Nat) (hs : s < 17) :
    Calls Try.prog 15 #[.pointer (some ⟨B, 0, none⟩), .int .i64 (s : Int)] w fun r w' => r = .returned (.int .i64 (if e.pin s = 0 then 0 else 60)) ∧ EpT w w' B bs (if e.pin s = 0 then e.setPin s e.now else e) := by
  obtain ⟨vs, rfl, h⟩ := h
  have c0 := h.cNow
  have c1 := h.cPin s hs
  have f1 : w.frozen? ⟨B, 1 + s, none⟩ = false := h.blk.frozen _
  have h0 := h.n1
  have g1 : (0 : Int) ≤ (s : Int) := by omega
  have g2 : (s : Int) ≤ 16 := by omega
  have g3 : (s : Int) < 17 := by omega
  by_cases hp : e.pin s = 0
  · rw [if_pos hp, if_pos hp]
    have HT : Hid (EpT w (w.setCell ⟨B, 1 + s, none⟩ (.int .i64 (e.now : Int))) B (blocks B vs) (e.setPin s e.now)) := h.setPin s hs e.now (Nat.le_refl _) rfl
    rw [hp] at c1
    have c9 : (w.setCell ⟨B, 1 + s, none⟩ (.int .i64 (e.now : Int))).drew.cell? ⟨B, 0, none⟩ = some (.int .i64 (e.now : Int)) := by
      have := (h.blk.set (1 + s) (.int .i64 (e.now : Int))).cell 0
      rw [epCells_setPin _ _ _ _ _ (by rw [h.p17]; exact hs), epCells_now] at this
      exact this
    clear h hp
    generalize e.now = n at *
    go_enter Try.func15, Try.ntmps15
    go_wp2_with fail
    refine (ask_ok c0 h0 _ g1 g2).mono ?_
    rintro r w1 ⟨rfl, rfl⟩
    go_wp2_with fail
    go_region_held3 (fun w' => w'.cell? ⟨B, 0, none⟩ = some (.int .i64 (n : Int))) (go_keep) (first | (go_at_call 33; refine (acas_hit (x := 0) (by exact c1) (by exact f1)).mono ?_; rintro r w2 ⟨rfl, rfl⟩; have HT2 := HT.out.then (Tn.refl [] _).drew))
    go_wp2
    go_ret
    exact ⟨rfl, HT2⟩
  · rw [if_neg hp, if_neg hp]
    have HT : Hid (∀ w', w' = w.drew → EpT w w' B (blocks B vs) e) := fun w' hw => by rw [hw]; exact EpT.same ⟨vs, rfl, h⟩ (Tn.refl [] _).drew
    have hp' : ¬ ((e.pin s : Nat) : Int) = 0 := by omega
    clear h hp
    generalize e.now = n at *
    generalize ((e.pin s : Nat) : Int) = p at *
    go_enter Try.func15, Try.ntmps15
    go_wp2_with fail
    refine (ask_ok c0 h0 _ g1 g2).mono ?_
    rintro r w1 ⟨rfl, rfl⟩
    go_wp2_with fail
    go_region_held3 (fun w' => w'.cell? ⟨B, 0, none⟩ = some (.int .i64 (n : Int))) (go_keep) (first | (go_at_call 33; refine (acas_miss (x := p) (by exact c1) (by exact f1) hp').mono ?_; rintro r w2 ⟨rfl, rfl⟩; have HT2 := HT.out _ rfl))
    go_wp2
    go_ret
    exact ⟨rfl, HT2⟩

set_option maxHeartbeats 1000000 in
theorem pin_bad {w : World} {B n : Nat} (h0 : w.cell? ⟨B, 0, none⟩ = some (.int .i64 (n : Int))) (hn : 1 ≤ n) (s : Int) (hs : s < 0 ∨ (16 : Int) < s) :
    Calls Try.prog 15 #[.pointer (some ⟨B, 0, none⟩), .int .i64 s] w fun r w' => r = .returned (.int .i64 1) ∧ w' = w := by
  have HS : Hid (s < 0 ∨ (16 : Int) < s) := hs
  clear hs
  go_enter Try.func15, Try.ntmps15
  go_wp2_with fail
  refine (ask_bad h0 hn _ HS.out).mono ?_
  rintro r w1 ⟨rfl, rfl⟩
  go_wp2
  go_ret
  exact ⟨rfl, rfl⟩

theorem pin_no {w : World} {p : Option Addr} (h : Nm w p) (s : Int) :
    Calls Try.prog 15 #[.pointer p, .int .i64 s] w fun r w' => r = .returned (.int .i64 2) ∧ w' = w := by
  go_enter Try.func15, Try.ntmps15
  go_wp2_with fail
  refine (ask_no h _).mono ?_
  rintro r w1 ⟨rfl, rfl⟩
  go_wp2
  go_ret
  exact ⟨rfl, rfl⟩

set_option maxHeartbeats 1000000 in
theorem unpin_any {w : World} {B : Nat} {bs : List Nat} {e : Ep} (h : Epn w B bs e) (s : Nat) (hs : s < 17) :
    Calls Try.prog 16 #[.pointer (some ⟨B, 0, none⟩), .int .i64 (s : Int)] w fun r w' => r = .returned (.int .i64 (if e.pin s = 0 then 61 else 0)) ∧ EpT w w' B bs (e.setPin s 0) := by
  obtain ⟨vs, rfl, h⟩ := h
  have c0 := h.cNow
  have c1 := h.cPin s hs
  have f1 : w.frozen? ⟨B, 1 + s, none⟩ = false := h.blk.frozen _
  have h0 := h.n1
  have g1 : (0 : Int) ≤ (s : Int) := by omega
  have g2 : (s : Int) ≤ 16 := by omega
  have g3 : (s : Int) < 17 := by omega
  have HT : Hid (EpT w (w.setCell ⟨B, 1 + s, none⟩ (.int .i64 0)) B (blocks B vs) (e.setPin s 0)) := h.setPin s hs 0 (Nat.zero_le _) rfl
  clear h
  by_cases hp : e.pin s = 0
  · rw [if_pos hp]
    rw [hp] at c1
    clear hp
    generalize e.now = n at *
    go_enter Try.func16, Try.ntmps16
    go_wp2_with fail
    refine (ask_ok c0 h0 _ g1 g2).mono ?_
    rintro r w1 ⟨rfl, rfl⟩
    go_wp2_with fail
    refine (aswap_any (x := 0) c1 f1).mono ?_
    rintro r w2 ⟨rfl, rfl⟩
    go_wp2
    go_ret
    exact ⟨rfl, HT.out⟩
  · rw [if_neg hp]
    have hp' : ¬ ((e.pin s : Nat) : Int) = 0 := by omega
    clear hp
    generalize e.now = n at *
    generalize ((e.pin s : Nat) : Int) = p at *
    have hb : (p == 0) = false := by simp [hp']
    go_enter Try.func16, Try.ntmps16
    go_wp2_with fail
    refine (ask_ok c0 h0 _ g1 g2).mono ?_
    rintro r w1 ⟨rfl, rfl⟩
    go_wp2_with fail
    refine (aswap_any (x := p) c1 f1).mono ?_
    rintro r w2 ⟨rfl, rfl⟩
    go_wp2
    go_ret
    exact ⟨rfl, HT.out⟩

set_option maxHeartbeats 1000000 in
theorem unpin_bad {w : World} {B n : Nat} (h0 : w.cell? ⟨B, 0, none⟩ = some (.int .i64 (n : Int))) (hn : 1 ≤ n) (s : Int) (hs : s < 0 ∨ (16 : Int) < s) :
    Calls Try.prog 16 #[.pointer (some ⟨B, 0, none⟩), .int .i64 s] w fun r w' => r = .returned (.int .i64 1) ∧ w' = w := by
  have HS : Hid (s < 0 ∨ (16 : Int) < s) := hs
  clear hs
  go_enter Try.func16, Try.ntmps16
  go_wp2_with fail
  refine (ask_bad h0 hn _ HS.out).mono ?_
  rintro r w1 ⟨rfl, rfl⟩
  go_wp2
  go_ret
  exact ⟨rfl, rfl⟩

theorem unpin_no {w : World} {p : Option Addr} (h : Nm w p) (s : Int) :
    Calls Try.prog 16 #[.pointer p, .int .i64 s] w fun r w' => r = .returned (.int .i64 2) ∧ w' = w := by
  go_enter Try.func16, Try.ntmps16
  go_wp2_with fail
  refine (ask_no h _).mono ?_
  rintro r w1 ⟨rfl, rfl⟩
  go_wp2
  go_ret
  exact ⟨rfl, rfl⟩

set_option maxHeartbeats 1000000 in
theorem pinned_any {w : World} {B : Nat} {bs : List Nat} {e : Ep} (h : Epn w B bs e) (s : Nat) (hs : s < 17) :
    Calls Try.prog 20 #[.pointer (some ⟨B, 0, none⟩), .int .i64 (s : Int)] w fun r w' => r = .returned (.tuple #[.int .i64 ((e.pin s : Nat) : Int), .bool (decide (e.pin s ≠ 0))]) ∧ w' = w := by
  obtain ⟨vs, rfl, h⟩ := h
  have c0 := h.cNow
  have c1 := h.cPin s hs
  have h0 := h.n1
  have g1 : (0 : Int) ≤ (s : Int) := by omega
  have g2 : (s : Int) ≤ 16 := by omega
  have g3 : (s : Int) < 17 := by omega
  clear h
  generalize e.now = n at *
  generalize e.pin s = p at *
  go_enter Try.func20, Try.ntmps20
  go_wp2_with fail
  refine (ask_ok c0 h0 _ g1 g2).mono ?_
  rintro r w1 ⟨rfl, rfl⟩
  go_wp2_with fail
  refine (aload_any c1).mono ?_
  rintro r w2 ⟨rfl, rfl⟩
  go_wp2
  go_ret2
  refine ⟨?_, rfl⟩
  by_cases hp : p = 0
  · subst hp
    rfl
  · have : ¬ (p : Int) = 0 := by omega
    simp [hp]

theorem pinned_bad {w : World} {B n : Nat} (h0 : w.cell? ⟨B, 0, none⟩ = some (.int .i64 (n : Int))) (hn : 1 ≤ n) (s : Int) (hs : s < 0 ∨ (16 : Int) < s) :
    Calls Try.prog 20 #[.pointer (some ⟨B, 0, none⟩), .int .i64 s] w fun r w' => r = .returned (.tuple #[.int .i64 0, .bool false]) ∧ w' = w := by
  have HS : Hid (s < 0 ∨ (16 : Int) < s) := hs
  clear hs
  go_enter Try.func20, Try.ntmps20
  go_wp2_with fail
  refine (ask_bad h0 hn _ HS.out).mono ?_
  rintro r w1 ⟨rfl, rfl⟩
  go_wp2
  go_ret2
  exact ⟨rfl, rfl⟩

theorem pinned_no {w : World} {p : Option Addr} (h : Nm w p) (s : Int) :
    Calls Try.prog 20 #[.pointer p, .int .i64 s] w fun r w' => r = .returned (.tuple #[.int .i64 0, .bool false]) ∧ w' = w := by
  go_enter Try.func20, Try.ntmps20
  go_wp2_with fail
  refine (ask_no h _).mono ?_
  rintro r w1 ⟨rfl, rfl⟩
  go_wp2
  go_ret2
  exact ⟨rfl, rfl⟩

end Go.Proofs.Ytndmcjkbbedoeaa
