/- A table that no call made. -/
import Derived.Test.YtnjafmjkaajbkaaDoorTbA
import Derived.Test.YtnjafmjkaajbkaaDoorTbIt0
namespace Go.Proofs.YtnjafmjkaajbkaaDoor
open Go.RowKit
set_option linter.unusedVariables false
set_option maxRecDepth 100000

/-- What no call made: nil, or a zero table. -/
def Nm (w : World) (p : Option Addr) : Prop := p = none ∨ ∃ B, p = some ⟨B, 0, none⟩ ∧ w.cell? ⟨B, 0, none⟩ = some (.int .i64 0)
theorem Nm.below {w w' : World} {p : Option Addr} (h : Nm w p) (hb : Below w.heap.size w w') : Nm w' p := by
  rcases h with h | ⟨B, hp, hc⟩
  · exact .inl h
  · exact .inr ⟨B, hp, by rw [hb.cell (p := ⟨B, 0, none⟩) (World.block_lt_of_cell? w _ hc)]; exact hc⟩

theorem made_no {w : World} {p : Option Addr} (h : Nm w p) : Calls Tryd.prog 30 #[.pointer p] w fun e w' => e = .returned (.bool false) ∧ w' = w := by
  rcases h with rfl | ⟨B, rfl, h0⟩
  · go_enter Tryd.func30, Tryd.ntmps30
    go_wp2
    go_ret
    exact ⟨rfl, rfl⟩
  · go_enter Tryd.func30, Tryd.ntmps30
    go_wp2
    go_ret
    exact ⟨rfl, rfl⟩

theorem check_no {w : World} {p : Option Addr} (h : Nm w p) (x s : Int) : Calls Tryd.prog 39 #[.pointer p, .int .i64 x, .int .i64 s] w fun e w' => e = .returned (.int .i64 2) ∧ w' = w := by
  have HN : Hid _ := h
  clear h
  go_enter Tryd.func39, Tryd.ntmps39
  go_wp2_with fail
  refine (made_no HN.out).mono ?_
  rintro e w1 ⟨rfl, rfl⟩
  go_wp2
  go_ret
  exact ⟨rfl, rfl⟩

theorem alloc_no {w : World} {p : Option Addr} (h : Nm w p) (a b : Int) : Calls Tryd.prog 14 #[.pointer p, .agg #[.int .i64 a, .int .i64 b]] w fun e w' => e = .returned (.tuple #[.int .i64 0, .int .i64 2]) ∧ Below w.heap.size w w' := by
  have hb : Below w.heap.size w (w.alloc (.cells #[.int .i64 a, .int .i64 b] 32)) := ((Below.refl _ w).alloc (by simp) _)
  have HN : Hid _ := h.below hb
  have HB : Hid _ := hb
  clear h hb
  go_enter Tryd.func14, Tryd.ntmps14
  go_wp2_with fail
  refine (made_no HN.out).mono ?_
  rintro e w1 ⟨rfl, rfl⟩
  go_wp2
  go_ret2
  exact ⟨rfl, HB.out⟩

theorem load_no {w : World} {p : Option Addr} (h : Nm w p) (x : Int) : Calls Tryd.prog 18 #[.pointer p, .int .i64 x] w fun e w' => e = .returned (.tuple #[hv (0, 0), .int .i64 2]) ∧ Below w.heap.size w w' := by
  have hb : Below w.heap.size w (w.alloc (.cells #[.int .i64 0, .int .i64 0] 32)) := ((Below.refl _ w).alloc (by simp) _)
  have HN : Hid _ := h.below hb
  have HB : Hid _ := hb
  clear h hb
  go_enter Tryd.func18, Tryd.ntmps18
  go_wp2_with fail
  refine (check_no HN.out _ _).mono ?_
  rintro e w1 ⟨rfl, rfl⟩
  go_wp2
  try simp only [Exit.inBlock, Exit.then]
  refine bodyPost_ret (results_hnd rfl rfl (by exact Bk.new w _ _)) rfl ?_
  exact ⟨rfl, HB.out⟩

theorem swap_no {w : World} {p : Option Addr} (h : Nm w p) (x a b c d : Int) : Calls Tryd.prog 15 #[.pointer p, .int .i64 x, .agg #[.int .i64 a, .int .i64 b], .agg #[.int .i64 c, .int .i64 d]] w fun e w' => e = .returned (.tuple #[.bool false, .int .i64 2]) ∧ Below w.heap.size w w' := by
  have hb : Below w.heap.size w ((w.alloc (.cells #[.int .i64 a, .int .i64 b] 32)).alloc (.cells #[.int .i64 c, .int .i64 d] 32)) := (((Below.refl _ w).alloc (by simp) _).alloc (by simp) _)
  have HN : Hid _ := h.below hb
  have HB : Hid _ := hb
  clear h hb
  go_enter Tryd.func15, Tryd.ntmps15
  go_wp2_with fail
  refine (check_no HN.out _ _).mono ?_
  rintro e w1 ⟨rfl, rfl⟩
  go_wp2
  go_ret2
  exact ⟨rfl, HB.out⟩

theorem retire_no {w : World} {p : Option Addr} (h : Nm w p) (x : Int) : Calls Tryd.prog 16 #[.pointer p, .int .i64 x] w fun e w' => e = .returned (.int .i64 2) ∧ w' = w := by
  have HN : Hid _ := h
  clear h
  go_enter Tryd.func16, Tryd.ntmps16
  go_wp2_with fail
  refine (check_no HN.out _ _).mono ?_
  rintro e w1 ⟨rfl, rfl⟩
  go_wp2
  go_ret
  exact ⟨rfl, rfl⟩

theorem release_no {w : World} {p : Option Addr} (h : Nm w p) (x : Int) : Calls Tryd.prog 17 #[.pointer p, .int .i64 x] w fun e w' => e = .returned (.int .i64 2) ∧ w' = w := by
  have HN : Hid _ := h
  clear h
  go_enter Tryd.func17, Tryd.ntmps17
  go_wp2_with fail
  refine (check_no HN.out _ _).mono ?_
  rintro e w1 ⟨rfl, rfl⟩
  go_wp2
  go_ret
  exact ⟨rfl, rfl⟩

theorem state_no {w : World} {p : Option Addr} (h : Nm w p) (x : Int) : Calls Tryd.prog 21 #[.pointer p, .int .i64 x] w fun e w' => e = .returned (.int .i64 0) ∧ w' = w := by
  have HN : Hid _ := h
  clear h
  go_enter Tryd.func21, Tryd.ntmps21
  go_wp2_with fail
  refine (made_no HN.out).mono ?_
  rintro e w1 ⟨rfl, rfl⟩
  go_wp2
  go_ret
  exact ⟨rfl, rfl⟩

theorem pages_no {w : World} {p : Option Addr} (h : Nm w p) : Calls Tryd.prog 22 #[.pointer p] w fun e w' => e = .returned (.int .i64 0) ∧ w' = w := by
  have HN : Hid _ := h
  clear h
  go_enter Tryd.func22, Tryd.ntmps22
  go_wp2_with fail
  refine (made_no HN.out).mono ?_
  rintro e w1 ⟨rfl, rfl⟩
  go_wp2
  go_ret
  exact ⟨rfl, rfl⟩

theorem live_no {w : World} {p : Option Addr} (h : Nm w p) : Calls Tryd.prog 19 #[.pointer p] w fun e w' => e = .returned (.int .i64 0) ∧ w' = w := by
  have HN : Hid _ := h
  clear h
  go_enter Tryd.func19, Tryd.ntmps19
  go_wp2_with fail
  refine (made_no HN.out).mono ?_
  rintro e w1 ⟨rfl, rfl⟩
  go_wp2
  go_ret
  exact ⟨rfl, rfl⟩

theorem gone_no {w : World} {p : Option Addr} (h : Nm w p) : Calls Tryd.prog 20 #[.pointer p] w fun e w' => e = .returned (.int .i64 0) ∧ w' = w := by
  have HN : Hid _ := h
  clear h
  go_enter Tryd.func20, Tryd.ntmps20
  go_wp2_with fail
  refine (made_no HN.out).mono ?_
  rintro e w1 ⟨rfl, rfl⟩
  go_wp2
  go_ret
  exact ⟨rfl, rfl⟩

theorem missed_no {w : World} {p : Option Addr} (h : Nm w p) : Calls Tryd.prog 11 #[.pointer p] w fun e w' => e = .returned (.int .i64 0) ∧ w' = w := by
  have HN : Hid _ := h
  clear h
  go_enter Tryd.func11, Tryd.ntmps11
  go_wp2_with fail
  refine (made_no HN.out).mono ?_
  rintro e w1 ⟨rfl, rfl⟩
  go_wp2
  go_ret
  exact ⟨rfl, rfl⟩

theorem clone_no {w : World} {p : Option Addr} (h : Nm w p) : Calls Tryd.prog 23 #[.pointer p] w fun e w' => e = .returned (.pointer none) ∧ w' = w := by
  have HN : Hid _ := h
  clear h
  go_enter Tryd.func23, Tryd.ntmps23
  go_wp2_with fail
  refine (made_no HN.out).mono ?_
  rintro e w1 ⟨rfl, rfl⟩
  go_wp2
  go_ret
  exact ⟨rfl, rfl⟩

/-- good. -/
theorem live0_any (w : World) (p : Option Addr) : Calls Tryd.prog 49 #[.pointer p] w fun e w' => e = .returned (.func (.func 58) #[] #[.pointer (some ⟨w.heap.size, 0, none⟩)]) ∧ w' = w.alloc (.cells #[.pointer p] 23) := by
  go_enter Tryd.func49, Tryd.ntmps49
  go_wp2
  go_ret
  exact ⟨rfl, rfl⟩

theorem live1N {W : World} {p : Option Addr} {b l : Nat} (hb : W.cell? ⟨b, 0, none⟩ = some (.pointer p)) (h : Nm W p) : Calls Tryd.prog 58 #[.func (.yield l) #[] #[], .pointer (some ⟨b, 0, none⟩)] W fun e w' => e = .returned (.tuple #[]) ∧ w' = W := by
  have HN : Hid (Nm W p) := h
  clear h
  go_enter Tryd.func58, Tryd.ntmps58
  go_wp2_with fail
  refine (made_no HN.out).mono ?_
  rintro e w2 ⟨rfl, rfl⟩
  go_wp2
  refine bodyPost_ret (results_none rfl _ _ _) rfl ?_
  exact ⟨rfl, rfl⟩

/-- What All hands on, where it gathered nothing. -/
theorem all1N {W : World} {b c l : Nat} {q : Option Addr} {cap : Nat} (hb : W.cell? ⟨b, 0, none⟩ = some (.slice q 0 cap)) : Calls Tryd.prog 50 #[.func (.yield l) #[] #[], .pointer (some ⟨b, 0, none⟩), .pointer (some ⟨c, 0, none⟩)] W fun e w' => e = .returned (.tuple #[]) ∧ w' = W := by
  go_enter Tryd.func50, Tryd.ntmps50
  go_wp2
  go_rounds 1
  go_end0
  exact ⟨rfl, rfl⟩
end Go.Proofs.YtnjafmjkaajbkaaDoor
