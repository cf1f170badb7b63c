/- Heaps that no call made: what each call answers. -/
import Derived.Test.YtbdcdiihaecheaaHpA
namespace Go.Proofs.Ytbdcdiihaecheaa
open Go.RowKit
set_option linter.unusedVariables false
set_option maxRecDepth 100000
set_option linter.unusedSectionVars false
variable [Inhabited Cl] [Inhabited Ln]

theorem cells_no {w : World} {p : Option Addr} (h : NmH w p) : Calls Try.prog 19 #[.pointer p] w fun e w' => e = .returned (.int .i64 0) ∧ w' = w := by
  go_enter Try.func19, Try.ntmps19
  go_wp2_with fail
  refine (hmade_no h).mono ?_
  rintro e w1 ⟨rfl, rfl⟩
  go_wp2
  go_ret
  exact ⟨rfl, rfl⟩

theorem versions_no {w : World} {p : Option Addr} (h : NmH w p) : Calls Try.prog 20 #[.pointer p] w fun e w' => e = .returned (.int .i64 0) ∧ w' = w := by
  go_enter Try.func20, Try.ntmps20
  go_wp2_with fail
  refine (hmade_no h).mono ?_
  rintro e w1 ⟨rfl, rfl⟩
  go_wp2
  go_ret
  exact ⟨rfl, rfl⟩

theorem hstale_no {w : World} {p : Option Addr} (h : NmH w p) : Calls Try.prog 16 #[.pointer p] w fun e w' => e = .returned (.int .i64 0) ∧ w' = w := by
  go_enter Try.func16, Try.ntmps16
  go_wp2_with fail
  refine (hmade_no h).mono ?_
  rintro e w1 ⟨rfl, rfl⟩
  go_wp2
  go_ret
  exact ⟨rfl, rfl⟩

theorem room_no {w : World} {p : Option Addr} (h : NmH w p) : Calls Try.prog 23 #[.pointer p] w fun e w' => e = .returned (.tuple #[.int .i64 0, .int .i64 0]) ∧ w' = w := by
  go_enter Try.func23, Try.ntmps23
  go_wp2_with fail
  refine (hmade_no h).mono ?_
  rintro e w1 ⟨rfl, rfl⟩
  go_wp2
  go_ret2
  exact ⟨rfl, rfl⟩

theorem reserve_no {w : World} {p : Option Addr} (h : NmH w p) (s c v : Int) : Calls Try.prog 10 #[.pointer p, .int .i64 s, .int .i64 c, .int .i64 v] w fun e w' => e = .returned (.int .i64 2) ∧ w' = w := by
  go_enter Try.func10, Try.ntmps10
  go_wp2_with fail
  refine (hmade_no h).mono ?_
  rintro e w1 ⟨rfl, rfl⟩
  go_wp2
  go_ret
  exact ⟨rfl, rfl⟩

theorem release_no {w : World} {p : Option Addr} (h : NmH w p) (s : Int) : Calls Try.prog 11 #[.pointer p, .int .i64 s] w fun e w' => e = .returned (.int .i64 2) ∧ w' = w := by
  go_enter Try.func11, Try.ntmps11
  go_wp2_with fail
  refine (share_no h s).mono ?_
  rintro e w1 ⟨rfl, rfl⟩
  go_wp2
  go_ret
  exact ⟨rfl, rfl⟩

theorem reserved_no {w : World} {p : Option Addr} (h : NmH w p) (s : Int) : Calls Try.prog 27 #[.pointer p, .int .i64 s] w fun e w' => e = .returned (.tuple #[.int .i64 0, .int .i64 0, .bool false]) ∧ w' = w := by
  go_enter Try.func27, Try.ntmps27
  go_wp2_with fail
  refine (share_no h s).mono ?_
  rintro e w1 ⟨rfl, rfl⟩
  go_wp2
  go_ret3
  exact ⟨rfl, rfl⟩

theorem hfree_no {w : World} {p : Option Addr} (h : NmH w p) (k s g : Int) : Calls Try.prog 22 #[.pointer p, .agg #[.int .i64 k, .int .i64 s, .int .i64 g]] w fun e w' => e = .returned (.int .i64 2) ∧ Below w.heap.size w w' := by
  have hn : NmH (w.alloc (.cells #[.int .i64 k, .int .i64 s, .int .i64 g] 59)) p := h.below ((Below.refl _ w).alloc (Nat.le_refl _) _)
  go_enter Try.func22, Try.ntmps22
  go_wp2_with fail
  refine (hmade_no hn).mono ?_
  rintro e w1 ⟨rfl, rfl⟩
  go_wp2
  go_ret
  exact ⟨rfl, (Below.refl _ w).alloc (Nat.le_refl _) _⟩

theorem look_no {w : World} {p : Option Addr} (h : NmH w p) (s g : Int) : Calls Try.prog 43 #[.pointer p, .agg #[.int .i64 s, .int .i64 g]] w fun e w' => e = .returned (.tuple #[Cl.zero.v, .int .i64 2]) ∧ Below w.heap.size w w' := by
  obtain ⟨w1, hw1, hz1, hb1⟩ : ∃ w1, w.alloc (.cells #[.int .i64 s, .int .i64 g] 36) = w1 ∧ w1.heap.size = w.heap.size + 1 ∧ Below w.heap.size w w1 := ⟨_, rfl, by simp, (Below.refl _ w).alloc (Nat.le_refl _) _⟩
  obtain ⟨w2, hw2, hz2, hb2, hkx⟩ : ∃ w2, w1.alloc (.cells #[.string ⟨#[]⟩, .int .i64 0, .int .i64 0, .bool false] 93) = w2 ∧ w2.heap.size = w.heap.size + 2 ∧ Below w1.heap.size w1 w2 ∧ Bk w2 (w.heap.size + 1) 93 #[.string ⟨#[]⟩, .int .i64 0, .int .i64 0, .bool false] := ⟨_, rfl, by simp [hz1], (Below.refl _ w1).alloc (Nat.le_refl _) _, by rw [← hz1]; exact Bk.new _ _ _⟩
  have HX3 : Hid (Bk w2 (w.heap.size + 1) 93 #[.string ⟨#[]⟩, .int .i64 0, .int .i64 0, .bool false]) := hkx
  have HB2 : Hid (Below w.heap.size w w2) := hb1.trans (hb2.mono hb1.size)
  have hn : NmH w2 p := h.below HB2.out
  have x0 : w2.cell? ⟨w.heap.size + 1, 0, none⟩ = some (.string ⟨#[]⟩) := hkx.cell 0
  have x1 : w2.cell? ⟨w.heap.size + 1, 1, none⟩ = some (.int .i64 0) := hkx.cell 1
  have x2 : w2.cell? ⟨w.heap.size + 1, 2, none⟩ = some (.int .i64 0) := hkx.cell 2
  have x3 : w2.cell? ⟨w.heap.size + 1, 3, none⟩ = some (.bool false) := hkx.cell 3
  have f0 : w2.frozen? ⟨w.heap.size + 1, 0, none⟩ = false := hkx.frozen 0
  have f1 : w2.frozen? ⟨w.heap.size + 1, 1, none⟩ = false := hkx.frozen 1
  have f2 : w2.frozen? ⟨w.heap.size + 1, 2, none⟩ = false := hkx.frozen 2
  have f3 : w2.frozen? ⟨w.heap.size + 1, 3, none⟩ = false := hkx.frozen 3
  clear hkx hb1 hb2
  go_enter Try.func43, Try.ntmps43
  go_wp2_with fail
  refine (hmade_no hn).mono ?_
  rintro e w3 ⟨rfl, rfl⟩
  go_wp2
  refine bodyPost_ret (results_elC (x := Cl.zero) rfl rfl (by exact ((((HX3.out.set 0 _).set 1 _).set 2 _).set 3 _))) rfl ?_
  exact ⟨rfl, (((HB2.out.setCell (Nat.le_succ _) _).setCell (Nat.le_succ _) _).setCell (Nat.le_succ _) _).setCell (Nat.le_succ _) _⟩

theorem key_no {w : World} {p : Option Addr} (h : NmH w p) (s g : Int) : Calls Try.prog 25 #[.pointer p, .agg #[.int .i64 s, .int .i64 g]] w fun e w' => e = .returned (.tuple #[.string ⟨#[]⟩, .int .i64 2]) ∧ Below w.heap.size w w' := by
  have hb1 : Below w.heap.size w (w.alloc (.cells #[.int .i64 s, .int .i64 g] 36)) := (Below.refl _ w).alloc (Nat.le_refl _) _
  have hn : NmH (w.alloc (.cells #[.int .i64 s, .int .i64 g] 36)) p := h.below hb1
  have HB1 : Hid _ := hb1
  clear hb1
  go_enter Try.func25, Try.ntmps25
  go_wp2_with fail
  refine (look_no hn s g).mono ?_
  rintro e w3 ⟨rfl, hb3⟩
  have HB3 : Hid (Below w.heap.size w w3) := HB1.out.trans (hb3.mono HB1.out.size)
  clear hb3 hn HB1
  go_wp2
  go_ret2
  exact ⟨rfl, HB3.out.alloc HB3.out.size _⟩

theorem hlist_no {w : World} {p : Option Addr} (h : NmH w p) (s g : Int) : Calls Try.prog 26 #[.pointer p, .agg #[.int .i64 s, .int .i64 g]] w fun e w' => e = .returned (.tuple #[.slice none 0 0, .bool false, .int .i64 2]) ∧ Below w.heap.size w w' := by
  have hb1 : Below w.heap.size w (w.alloc (.cells #[.int .i64 s, .int .i64 g] 36)) := (Below.refl _ w).alloc (Nat.le_refl _) _
  have hn : NmH (w.alloc (.cells #[.int .i64 s, .int .i64 g] 36)) p := h.below hb1
  have HB1 : Hid _ := hb1
  clear hb1
  go_enter Try.func26, Try.ntmps26
  go_wp2_with fail
  refine (look_no hn s g).mono ?_
  rintro e w3 ⟨rfl, hb3⟩
  have HB3 : Hid (Below w.heap.size w w3) := HB1.out.trans (hb3.mono HB1.out.size)
  clear hb3 hn HB1
  go_wp2
  go_ret3
  exact ⟨rfl, HB3.out.alloc HB3.out.size _⟩

theorem hprune_no {w : World} {p : Option Addr} (h : NmH w p) (s g : Int) (m : Int) : Calls Try.prog 14 #[.pointer p, .agg #[.int .i64 s, .int .i64 g], .int .i64 m] w fun e w' => e = .returned (.tuple #[.int .i64 0, .bool false, .int .i64 2]) ∧ Below w.heap.size w w' := by
  have hb1 : Below w.heap.size w (w.alloc (.cells #[.int .i64 s, .int .i64 g] 36)) := (Below.refl _ w).alloc (Nat.le_refl _) _
  have hn : NmH (w.alloc (.cells #[.int .i64 s, .int .i64 g] 36)) p := h.below hb1
  have HB1 : Hid _ := hb1
  clear hb1
  go_enter Try.func14, Try.ntmps14
  go_wp2_with fail
  refine (look_no hn s g).mono ?_
  rintro e w3 ⟨rfl, hb3⟩
  have HB3 : Hid (Below w.heap.size w w3) := HB1.out.trans (hb3.mono HB1.out.size)
  clear hb3 hn HB1
  go_wp2
  go_ret3
  exact ⟨rfl, HB3.out.alloc HB3.out.size _⟩

end Go.Proofs.Ytbdcdiihaecheaa