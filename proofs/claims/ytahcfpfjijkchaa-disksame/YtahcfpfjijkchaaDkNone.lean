/- A disk that no call made. -/
import Derived.Test.YtahcfpfjijkchaaDkOpen
namespace Go.Proofs.Ytahcfpfjijkchaa
open Go.RowKit Go.Shelf Go.Maps
set_option linter.unusedVariables false

/-- No disk, or one that no call made. -/
def NM (w : World) (v : Value) : Prop := v = .pointer none ∨ ∃ B, v = .pointer (some ⟨B, 0, none⟩) ∧ w.cell? ⟨B, 0, none⟩ = some (.slice none 0 0)

theorem NM.below {w w' : World} {v : Value} (h : NM w v) (k : Below w.heap.size w w') : NM w' v := by
  rcases h with h | ⟨B, h, hc⟩
  · exact .inl h
  · exact .inr ⟨B, h, by rw [k.cell (p := ⟨B, 0, none⟩) (World.block_lt_of_cell? w _ hc)]; exact hc⟩

theorem NM.drew {w : World} {v : Value} (h : NM w v) : NM w.drew v := h

set_option maxHeartbeats 1000000 in
theorem made_not {w : World} {v : Value} (h : NM w v) : Calls Try.prog 35 #[v] w fun e w' => e = .returned (.bool false) ∧ w' = w := by
  rcases h with rfl | ⟨B, rfl, c0⟩
  · exact made_nil w
  · go_enter Try.func35, Try.ntmps35
    go_wp2
    go_ret
    exact ⟨rfl, rfl⟩

set_option maxHeartbeats 1000000 in
theorem ready_not {w : World} {v : Value} (h : NM w v) : Calls Try.prog 47 #[v] w fun e w' => e = .returned (.int .i64 2) ∧ w' = w := by
  have H : Hid (NM w v) := h
  clear h
  go_enter Try.func47, Try.ntmps47
  go_wp2_with fail
  refine (made_not H.out).mono ?_
  rintro e w1 ⟨rfl, rfl⟩
  go_wp2
  go_ret
  exact ⟨rfl, rfl⟩

set_option maxHeartbeats 1000000 in
theorem reach_not {w : World} {v : Value} (h : NM w v) (x : Value) : Calls Try.prog 44 #[v, x] w fun e w' => e = .returned (.int .i64 2) ∧ w' = w := by
  have H : Hid (NM w v) := h
  clear h
  go_enter Try.func44, Try.ntmps44
  go_wp2_with fail
  refine (ready_not H.out).mono ?_
  rintro e w1 ⟨rfl, rfl⟩
  go_wp2
  go_ret
  exact ⟨rfl, rfl⟩

set_option maxHeartbeats 1000000 in
theorem read_not {w : World} {v : Value} (h : NM w v) (x : Value) : Calls Try.prog 26 #[v, x] w fun e w' => e = .returned (.tuple #[.slice none 0 0, .int .i64 2]) ∧ w' = w := by
  have H : Hid (NM w v) := h
  clear h
  go_enter Try.func26, Try.ntmps26
  go_wp2_with fail
  refine (reach_not H.out x).mono ?_
  rintro e w1 ⟨rfl, rfl⟩
  go_wp2
  go_ret2
  exact ⟨rfl, rfl⟩

set_option maxHeartbeats 1000000 in
theorem write_not {w : World} {v : Value} (h : NM w v) (x y : Value) : Calls Try.prog 23 #[v, x, y] w fun e w' => e = .returned (.int .i64 2) ∧ w' = w := by
  have H : Hid (NM w v) := h
  clear h
  go_enter Try.func23, Try.ntmps23
  go_wp2_with fail
  refine (reach_not H.out x).mono ?_
  rintro e w1 ⟨rfl, rfl⟩
  go_wp2
  go_ret
  exact ⟨rfl, rfl⟩

set_option maxHeartbeats 1000000 in
theorem barrier_not {w : World} {v : Value} (h : NM w v) : Calls Try.prog 24 #[v] w fun e w' => e = .returned (.int .i64 2) ∧ w' = w := by
  have H : Hid (NM w v) := h
  clear h
  go_enter Try.func24, Try.ntmps24
  go_wp2_with fail
  refine (ready_not H.out).mono ?_
  rintro e w1 ⟨rfl, rfl⟩
  go_wp2
  go_ret
  exact ⟨rfl, rfl⟩

set_option maxHeartbeats 1000000 in
theorem crash_not {w : World} {v : Value} (h : NM w v) (x : Value) : Calls Try.prog 25 #[v, x] w fun e w' => e = .returned (.int .i64 2) ∧ w' = w := by
  have H : Hid (NM w v) := h
  clear h
  go_enter Try.func25, Try.ntmps25
  go_wp2_with fail
  refine (ready_not H.out).mono ?_
  rintro e w1 ⟨rfl, rfl⟩
  go_wp2
  go_ret
  exact ⟨rfl, rfl⟩

set_option maxHeartbeats 1000000 in
theorem setFuse_not {w : World} {v : Value} (h : NM w v) (x y : Value) : Calls Try.prog 28 #[v, x, y] w fun e w' => e = .returned (.int .i64 2) ∧ w' = w := by
  have H : Hid (NM w v) := h
  clear h
  go_enter Try.func28, Try.ntmps28
  go_wp2_with fail
  refine (made_not H.out).mono ?_
  rintro e w1 ⟨rfl, rfl⟩
  go_wp2
  go_ret
  exact ⟨rfl, rfl⟩

set_option maxHeartbeats 1000000 in
theorem restart_not {w : World} {v : Value} (h : NM w v) : Calls Try.prog 18 #[v] w fun e w' => e = .returned (.int .i64 2) ∧ w' = w := by
  have H : Hid (NM w v) := h
  clear h
  go_enter Try.func18, Try.ntmps18
  go_wp2_with fail
  refine (made_not H.out).mono ?_
  rintro e w1 ⟨rfl, rfl⟩
  go_wp2
  go_ret
  exact ⟨rfl, rfl⟩

set_option maxHeartbeats 1000000 in
theorem sectors_not {w : World} {v : Value} (h : NM w v) : Calls Try.prog 39 #[v] w fun e w' => e = .returned (.int .i64 0) ∧ w' = w := by
  have H : Hid (NM w v) := h
  clear h
  go_enter Try.func39, Try.ntmps39
  go_wp2_with fail
  refine (made_not H.out).mono ?_
  rintro e w1 ⟨rfl, rfl⟩
  go_wp2
  go_ret
  exact ⟨rfl, rfl⟩

set_option maxHeartbeats 1000000 in
theorem calls_not {w : World} {v : Value} (h : NM w v) : Calls Try.prog 15 #[v] w fun e w' => e = .returned (.int .i64 0) ∧ w' = w := by
  have H : Hid (NM w v) := h
  clear h
  go_enter Try.func15, Try.ntmps15
  go_wp2_with fail
  refine (made_not H.out).mono ?_
  rintro e w1 ⟨rfl, rfl⟩
  go_wp2
  go_ret
  exact ⟨rfl, rfl⟩

set_option maxHeartbeats 1000000 in
theorem down_not {w : World} {v : Value} (h : NM w v) : Calls Try.prog 13 #[v] w fun e w' => e = .returned (.bool false) ∧ w' = w := by
  have H : Hid (NM w v) := h
  clear h
  go_enter Try.func13, Try.ntmps13
  go_wp2_with fail
  refine (made_not H.out).mono ?_
  rintro e w1 ⟨rfl, rfl⟩
  go_wp2
  go_ret
  exact ⟨rfl, rfl⟩

set_option maxHeartbeats 1000000 in
theorem clone_not {w : World} {v : Value} (h : NM w v) : Calls Try.prog 34 #[v] w fun e w' => e = .returned (.pointer none) ∧ w' = w := by
  have H : Hid (NM w v) := h
  clear h
  go_enter Try.func34, Try.ntmps34
  go_wp2_with fail
  refine (made_not H.out).mono ?_
  rintro e w1 ⟨rfl, rfl⟩
  go_wp2
  go_ret
  exact ⟨rfl, rfl⟩

set_option maxHeartbeats 1000000 in
theorem dirty_not {w : World} {v : Value} (h : NM w v) : Calls Try.prog 37 #[v] w fun e w' => e = .returned (.func (.func 65) #[] #[.pointer (some ⟨w.heap.size, 0, none⟩)]) ∧ w' = w.alloc (.cells #[.slice none 0 0] 70) := by
  have H : Hid (NM w v) := h
  clear h
  go_enter Try.func37, Try.ntmps37
  go_wp2_with fail
  refine (made_not H.out).mono ?_
  rintro e w1 ⟨rfl, rfl⟩
  go_wp2_with fail
  refine (values_any none 0 0 w1).mono ?_
  rintro e w2 ⟨rfl, rfl⟩
  go_wp2
  go_ret
  exact ⟨rfl, rfl⟩

end Go.Proofs.Ytahcfpfjijkchaa
