/- Two slices that lead to the same ranges are the same. -/
import Derived.Test.YtgppnbcneknpdaaKyH
import Derived.Test.YtgppnbcneknpdaaKyOrd
import Derived.BigQuiet
namespace Go.Proofs.Ytgppnbcneknpdaa
open Go.RowKit
set_option linter.unusedVariables false
set_option maxRecDepth 100000

set_option maxHeartbeats 2000000 in
theorem rsame_any {w : World} {pa pb : Option Addr} {ca cb n : Nat} {l : List Rg} (hl : l.length = n) (ha : Rgs w pa l) (hb : Rgs w pb l) (hn : n ≤ 4611686018427387904) :
    Calls Try.prog 12 #[.slice pa n ca, .slice pb n cb] w fun r w' => r = .returned (.bool true) ∧ Below w.heap.size w w' := by
  have HA : Hid (Rgs w pa l) := ha
  have HB : Hid (Rgs w pb l) := hb
  have HL : Hid (l.length = n) := hl
  have hbb : ((n : Int) != (n : Int)) = false := by simp
  clear ha hb hl
  go_enter Try.func12, Try.ntmps12
  go_wp2_with fail
  go_loopw [5] (fun iv wr => ∃ j : Nat, j ≤ n ∧ iv = .int .i64 j ∧ (∃ k, wr = w.drewN k)) (fun iv _ => n - (intOf iv).toNat)
  case atStart => exact ⟨0, Nat.zero_le _, rfl, ⟨0, rfl⟩⟩
  case round =>
    obtain ⟨j, hj, rfl, ⟨k, rfl⟩⟩ := hrel
    by_cases hlt : j < n
    · have hli : (j : Int) < (n : Int) := by omega
      have h0i : (0 : Int) ≤ (j : Int) := by omega
      obtain ⟨ga, oa, x, rfl, hx, -, a0, a1⟩ := HA.out.at (j := j) (by rw [HL.out]; exact hlt)
      obtain ⟨gb, ob, y, rfl, hy, -, b0, b1⟩ := HB.out.at (j := j) (by rw [HL.out]; exact hlt)
      obtain rfl : x = y := by rw [hx] at hy; exact Option.some.inj hy
      clear hx hy
      go_wp2_with fail
      go_quiet (fail)
      go_wp2
      go_roundw
      case rel => exact ⟨j + 1, by omega, by go_num, ⟨_, rfl⟩⟩
      case measure => simp [intOf]; omega
    · have hli : ¬ (j : Int) < (n : Int) := by omega
      go_wp2
      go_ret
      exact ⟨rfl, ⟨rfl, rfl, rfl, by simp, fun k hk => by simp⟩⟩

end Go.Proofs.Ytgppnbcneknpdaa
