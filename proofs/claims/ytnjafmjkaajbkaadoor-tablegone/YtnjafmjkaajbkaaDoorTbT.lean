/- The lowest bit of a word; the first word that is not 0. -/
import Derived.Test.YtnjafmjkaajbkaaDoorTbM
import Derived.Test.YtnjafmjkaajbkaaDoorTbOpen
import Derived.Shelf.Spec.TrailingZeros
namespace Go.Proofs.YtnjafmjkaajbkaaDoor
open Go.RowKit
set_option linter.unusedVariables false
set_option maxRecDepth 100000

set_option maxHeartbeats 1000000 in
theorem tz_core (x k idx : Nat) (w : World) (hx0 : ((x : Int) == 0) = false)
    (key : IntKind.u64.wrap (bits BinOp.and IntKind.u64 (x : Int) (IntKind.u64.wrap (-(x : Int))) * 285870213051353865) / 288230376151711744 = (idx : Int))
    (hi : idx < 64) (hk : k < 64) (hcell : w.cell? ⟨0, idx, none⟩ = some (.int .u8 k)) :
    Calls Tryd.prog 61 #[.int .u64 x] w fun e w' => e = .returned (.int .i64 k) ∧ w' = w := by
  go_enter Tryd.func61, Tryd.ntmps61
  go_wp2_with (simp only [key])
  go_ret
  exact ⟨rfl, rfl⟩

theorem tz_any {w : World} (hT : Tab w) (x : Nat) (hx : x < 18446744073709551616) (hx0 : x ≠ 0) :
    Calls Tryd.prog 61 #[.int .u64 x] w fun e w' => e = .returned (.int .i64 ((Lib.ctz 64 x : Nat) : Int)) ∧ w' = w := by
  obtain ⟨hlow, hk⟩ := Lib.lowest_bit 64 x hx0 hx
  obtain ⟨hi, htab⟩ := Lib.deBruijn64_at _ hk
  have hcell := hT _ hi
  rw [htab] at hcell
  exact tz_core x _ _ w (by simp; omega) (tz64_key x _ hx hx0 hlow) hi hk hcell

theorem pred_any (x : Nat) (w : World) : Calls Tryd.prog 60 #[.int .u64 (x : Int)] w fun e w' => e = .returned (.bool (decide (¬ x = 0))) ∧ w' = w := by
  by_cases h : x = 0
  · subst h
    go_enter Tryd.func60, Tryd.ntmps60
    go_wp2
    go_ret
    exact ⟨rfl, rfl⟩
  · have h' : ¬ (x : Int) = 0 := by omega
    go_enter Tryd.func60, Tryd.ntmps60
    go_wp2
    go_ret
    exact ⟨by simp [h], rfl⟩

/-- The words of a row. -/
theorem ws_cell {w : World} {g n c : Nat} {ws : List Nat} (hn : ws.length = n) (h : w.ownsRow 0 100 1 (.slice (some ⟨g, 0, none⟩) n c) ws.length (wsCells ws)) (i : Nat) (hi : i < n) : w.cell? ⟨g, i, none⟩ = some (.int .u64 ((ws.getD i 0 : Nat) : Int)) := by
  subst hn
  rw [World.ownsRow.cellAt h i (by omega)]
  simp [wsCells, List.getD, hi]

set_option maxHeartbeats 1000000 in
theorem idx_any {w : World} {g n c k : Nat} {ws : List Nat} (hn : ws.length = n) (h : w.ownsRow 0 100 1 (.slice (some ⟨g, 0, none⟩) n c) ws.length (wsCells ws)) (hnb : n ≤ 1048576) (hk : k < n) (hk0 : ws.getD k 0 ≠ 0) (hlt : ∀ i, i < k → ws.getD i 0 = 0) :
    Calls Tryd.prog 59 #[.slice (some ⟨g, 0, none⟩) n c, .func (.func 60) #[] #[]] w fun e w' => e = .returned (.int .i64 (k : Int)) ∧ w' = w := by
  have HC : Hid (∀ i, i < n → w.cell? ⟨g, i, none⟩ = some (.int .u64 ((ws.getD i 0 : Nat) : Int))) := fun i hi => ws_cell hn h i hi
  have HK : Hid (ws.getD k 0 ≠ 0 ∧ ∀ i, i < k → ws.getD i 0 = 0) := ⟨hk0, hlt⟩
  clear h hn hk0 hlt
  go_enter Tryd.func59, Tryd.ntmps59
  go_wp2_with fail
  go_loopw [8] (fun iv wr => ∃ j : Nat, j ≤ k ∧ iv = .int .i64 j ∧ wr = w) (fun iv _ => n - (intOf iv).toNat)
  case atStart => exact ⟨0, by omega, rfl, rfl⟩
  case round =>
    obtain ⟨j, hj, rfl, rfl⟩ := hrel
    have hli : (j : Int) < (n : Int) := by omega
    have h0 : (0 : Int) ≤ (j : Int) := by omega
    have cj := HC.out j (by omega)
    by_cases hjk : j = k
    · subst hjk
      have HD : Hid (decide (¬ ws.getD j 0 = 0) = true) := by simpa [Hid] using HK.out.1
      generalize ws.getD j 0 = x at *
      go_wp2_with fail
      refine (pred_any x _).mono ?_
      rintro e w1 ⟨rfl, rfl⟩
      rw [HD.out]
      go_wp2
      go_ret
      exact ⟨rfl, rfl⟩
    · have HD : Hid (decide (¬ ws.getD j 0 = 0) = false) := by
        have := HK.out.2 j (by omega)
        show _ = _
        rw [this]
        rfl
      generalize ws.getD j 0 = x at *
      go_wp2_with fail
      refine (pred_any x _).mono ?_
      rintro e w1 ⟨rfl, rfl⟩
      rw [HD.out]
      go_wp2
      go_roundw
      case rel => exact ⟨j + 1, by omega, by go_num, trivial⟩
      case measure => simp [intOf]; omega
end Go.Proofs.YtnjafmjkaajbkaaDoor
