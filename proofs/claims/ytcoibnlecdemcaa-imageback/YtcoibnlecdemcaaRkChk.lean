/- What is wrong with a key, a value, a write: the code's and the document's. -/
import Derived.Test.YtcoibnlecdemcaaRkM
namespace Go.Proofs.Ytcoibnlecdemcaa.Rk
open Go.RowKit
set_option linter.unusedVariables false
set_option maxRecDepth 100000

set_option maxHeartbeats 400000 in
theorem key_any (s : ByteArray) (w : World) : Calls Try.prog 54 #[.string s] w fun e w' => e = .returned (.int .i64 (Rc.keyE s)) ∧ w' = w := by
  have hn := Rc.nil_iff s
  go_enter Try.func54, Try.ntmps54
  go_wp2
  all_goals go_ret
  all_goals (unfold Rc.keyE; simp_all)
  all_goals omega

set_option maxHeartbeats 400000 in
theorem rkey_any (s : ByteArray) (w : World) : Calls Try.prog 36 #[.string s] w fun e w' => e = .returned (.int .i64 (Rc.keyE s)) ∧ w' = w := by
  have hn := Rc.nil_iff s
  go_enter Try.func36, Try.ntmps36
  go_wp2
  all_goals go_ret
  all_goals (unfold Rc.keyE; simp_all)
  all_goals omega

set_option maxHeartbeats 400000 in
theorem val_any (s : ByteArray) (w : World) : Calls Try.prog 86 #[.string s] w fun e w' => e = .returned (.int .i64 (Rc.valE s)) ∧ w' = w := by
  go_enter Try.func86, Try.ntmps86
  go_wp2
  all_goals go_ret
  all_goals (unfold Rc.valE; simp_all)
  all_goals omega

set_option maxHeartbeats 400000 in
theorem rval_any (s : ByteArray) (w : World) : Calls Try.prog 61 #[.string s] w fun e w' => e = .returned (.int .i64 (Rc.valE s)) ∧ w' = w := by
  go_enter Try.func61, Try.ntmps61
  go_wp2
  all_goals go_ret
  all_goals (unfold Rc.valE; simp_all)
  all_goals omega

set_option maxHeartbeats 400000 in
theorem pair_any (k v : ByteArray) (w : World) : Calls Try.prog 80 #[.string k, .string v] w fun e w' => e = .returned (.int .i64 (Rc.pairE k v)) ∧ w' = w := by
  go_enter Try.func80, Try.ntmps80
  go_wp2_with fail
  refine (key_any k _).mono ?_
  rintro e w1 ⟨rfl, rfl⟩
  by_cases h : Rc.keyE k = 0
  · have hb : (Rc.keyE k != 0) = false := by simpa using h
    have HP : Hid (Rc.pairE k v = Rc.valE v) := by unfold Hid Rc.pairE; rw [if_pos h]
    clear h
    go_wp2_with fail
    refine (val_any v _).mono ?_
    rintro e w2 ⟨rfl, rfl⟩
    go_wp2
    go_ret
    exact ⟨by rw [HP.out]; rfl, rfl⟩
  · have hb : (Rc.keyE k != 0) = true := by simpa using h
    have HP : Hid (Rc.pairE k v = Rc.keyE k) := by unfold Hid Rc.pairE; rw [if_neg h]
    clear h
    go_wp2
    go_ret
    exact ⟨by rw [HP.out]; rfl, rfl⟩

set_option maxHeartbeats 400000 in
theorem within_any (n a b : Int) (w : World) : Calls Try.prog 79 #[.int .i64 n, .int .i64 a, .int .i64 b] w fun e w' => e = .returned (.bool (Rc.inn a n b)) ∧ w' = w := by
  go_enter Try.func79, Try.ntmps79
  go_wp2
  all_goals go_ret
  all_goals (unfold Rc.inn; simp_all)
  all_goals omega

set_option maxHeartbeats 400000 in
theorem rts_any (n : Int) (w : World) : Calls Try.prog 62 #[.int .i64 n] w fun e w' => e = .returned (.bool (Rc.inn 1 n 1099511627776)) ∧ w' = w := by
  go_enter Try.func62, Try.ntmps62
  go_wp2
  all_goals go_ret
  all_goals (unfold Rc.inn; simp_all)
  all_goals omega

set_option maxHeartbeats 400000 in
theorem checkWrite_any (x : Wr) (w : World) : Calls Try.prog 81 #[.agg x.cells.toArray] w fun e w' => e = .returned (.int .i64 (Rc.wrE x)) ∧ Below w.heap.size w w' := by
  obtain ⟨k, v, d⟩ := x
  unfold Wr.cells
  have hn := Rc.nil_iff v
  have hb : Below w.heap.size w (w.alloc (.cells #[.string k, .string v, .bool d] 78)) := (Below.refl _ _).alloc (Nat.le_refl _) _
  go_enter Try.func81, Try.ntmps81
  go_wp2_with fail
  refine (pair_any k v _).mono ?_
  rintro e w1 ⟨rfl, rfl⟩
  by_cases h : Rc.pairE k v = 0
  · have hp : (Rc.pairE k v != 0) = false := by simpa using h
    have HW : Hid (Rc.wrE ⟨k, v, d⟩ = if d = true ∧ v.size ≠ 0 then 32 else 0) := by unfold Hid Rc.wrE; rw [if_pos h]
    clear h
    cases d
    all_goals go_wp2
    all_goals go_ret
    all_goals (rw [HW.out]; refine ⟨?_, hb⟩; simp_all)
  · have hp : (Rc.pairE k v != 0) = true := by simpa using h
    have HW : Hid (Rc.wrE ⟨k, v, d⟩ = Rc.pairE k v) := by unfold Hid Rc.wrE; rw [if_neg h]
    clear h
    go_wp2
    go_ret
    exact ⟨by rw [HW.out]; rfl, hb⟩

end Go.Proofs.Ytcoibnlecdemcaa.Rk
