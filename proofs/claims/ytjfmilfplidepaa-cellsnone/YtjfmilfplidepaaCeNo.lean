/- A cell and a box that no call made. -/
import Derived.Test.YtjfmilfplidepaaCeBg
namespace Go.Proofs.Ytjfmilfplidepaa
open Go.RowKit Go.Conc
set_option linter.unusedVariables false
set_option maxRecDepth 100000

/-- What no call made: nil, or a zero cell. -/
def Nc (w : World) (p : Option Addr) : Prop := p = none ∨ ∃ B, p = some ⟨B, 0, none⟩ ∧ w.cell? ⟨B, 0, none⟩ = some (.bool false)
/-- What no call made: nil, or a zero box. -/
def Nb (w : World) (p : Option Addr) : Prop := p = none ∨ ∃ B, p = some ⟨B, 0, none⟩ ∧ w.cell? ⟨B, 0, none⟩ = some (.chan none)

theorem Nc.below {w w' : World} {p : Option Addr} (h : Nc w p) (hb : Below w.heap.size w w') : Nc w' p := by
  rcases h with h | ⟨B, hp, hc⟩
  · exact .inl h
  · exact .inr ⟨B, hp, by rw [hb.cell (p := ⟨B, 0, none⟩) (World.block_lt_of_cell? w _ hc)]; exact hc⟩
theorem Nb.below {w w' : World} {p : Option Addr} (h : Nb w p) (hb : Below w.heap.size w w') : Nb w' p := by
  rcases h with h | ⟨B, hp, hc⟩
  · exact .inl h
  · exact .inr ⟨B, hp, by rw [hb.cell (p := ⟨B, 0, none⟩) (World.block_lt_of_cell? w _ hc)]; exact hc⟩

theorem cmade_no {w : World} {p : Option Addr} (h : Nc w p) : Calls Try.prog 34 #[.pointer p] w fun e w' => e = .returned (.bool false) ∧ w' = w := by
  rcases h with rfl | ⟨B, rfl, h0⟩
  · go_enter Try.func34, Try.ntmps34
    go_wp2
    go_ret
    exact ⟨rfl, rfl⟩
  · go_enter Try.func34, Try.ntmps34
    go_wp2
    go_ret
    exact ⟨rfl, rfl⟩

theorem bmade_no {w : World} {p : Option Addr} (h : Nb w p) : Calls Try.prog 36 #[.pointer p] w fun e w' => e = .returned (.bool false) ∧ w' = w := by
  have hne : (binOp BinOp.neq 71 (.chan none) (.chan none)).run Try.prog w = .ok (.bool false) w := by kernel_rfl
  rcases h with rfl | ⟨B, rfl, h0⟩
  · go_enter Try.func36, Try.ntmps36
    go_wp2
    go_ret
    exact ⟨rfl, rfl⟩
  · go_enter Try.func36, Try.ntmps36
    go_wp2
    go_ret
    exact ⟨rfl, rfl⟩

theorem cload_no {w : World} {p : Option Addr} (h : Nc w p) : Calls Try.prog 15 #[.pointer p] w fun e w' => e = .returned (.tuple #[.int .i64 0, .int .i64 0]) ∧ w' = w := by
  have H : Hid _ := h
  clear h
  go_enter Try.func15, Try.ntmps15
  go_wp2_with fail
  refine (cmade_no H.out).mono ?_
  rintro e w1 ⟨rfl, rfl⟩
  go_wp2
  go_ret2
  exact ⟨rfl, rfl⟩

theorem cset_no {w : World} {p : Option Addr} (h : Nc w p) (x : Int) : Calls Try.prog 12 #[.pointer p, .int .i64 x] w fun e w' => e = .returned (.int .i64 0) ∧ w' = w := by
  have H : Hid _ := h
  clear h
  go_enter Try.func12, Try.ntmps12
  go_wp2_with fail
  refine (cmade_no H.out).mono ?_
  rintro e w1 ⟨rfl, rfl⟩
  go_wp2
  go_ret
  exact ⟨rfl, rfl⟩

theorem cswap_no {w : World} {p : Option Addr} (h : Nc w p) (x y : Int) : Calls Try.prog 10 #[.pointer p, .int .i64 x, .int .i64 y] w fun e w' => e = .returned (.bool false) ∧ w' = w := by
  have H : Hid _ := h
  clear h
  go_enter Try.func10, Try.ntmps10
  go_wp2_with fail
  refine (cmade_no H.out).mono ?_
  rintro e w1 ⟨rfl, rfl⟩
  go_wp2
  go_ret
  exact ⟨rfl, rfl⟩

theorem cclone_no {w : World} {p : Option Addr} (h : Nc w p) : Calls Try.prog 14 #[.pointer p] w fun e w' => e = .returned (.pointer none) ∧ w' = w := by
  have H : Hid _ := h
  clear h
  go_enter Try.func14, Try.ntmps14
  go_wp2_with fail
  refine (cmade_no H.out).mono ?_
  rintro e w1 ⟨rfl, rfl⟩
  go_wp2
  go_ret
  exact ⟨rfl, rfl⟩

theorem take_no {w : World} {p : Option Addr} (h : Nb w p) : Calls Try.prog 20 #[.pointer p] w fun e w' => e = .returned (.tuple #[.string ⟨#[]⟩, .int .i64 2]) ∧ w' = w := by
  have H : Hid _ := h
  clear h
  go_enter Try.func20, Try.ntmps20
  go_wp2_with fail
  refine (bmade_no H.out).mono ?_
  rintro e w1 ⟨rfl, rfl⟩
  go_wp2
  go_ret2
  exact ⟨rfl, rfl⟩

theorem blen_no {w : World} {p : Option Addr} (h : Nb w p) : Calls Try.prog 23 #[.pointer p] w fun e w' => e = .returned (.int .i64 0) ∧ w' = w := by
  have H : Hid _ := h
  clear h
  go_enter Try.func23, Try.ntmps23
  go_wp2_with fail
  refine (bmade_no H.out).mono ?_
  rintro e w1 ⟨rfl, rfl⟩
  go_wp2
  go_ret
  exact ⟨rfl, rfl⟩

theorem broom_no {w : World} {p : Option Addr} (h : Nb w p) : Calls Try.prog 24 #[.pointer p] w fun e w' => e = .returned (.int .i64 0) ∧ w' = w := by
  have H : Hid _ := h
  clear h
  go_enter Try.func24, Try.ntmps24
  go_wp2_with fail
  refine (bmade_no H.out).mono ?_
  rintro e w1 ⟨rfl, rfl⟩
  go_wp2
  go_ret
  exact ⟨rfl, rfl⟩

theorem bclone_no {w : World} {p : Option Addr} (h : Nb w p) : Calls Try.prog 22 #[.pointer p] w fun e w' => e = .returned (.pointer none) ∧ w' = w := by
  have H : Hid _ := h
  clear h
  go_enter Try.func22, Try.ntmps22
  go_wp2_with fail
  refine (bmade_no H.out).mono ?_
  rintro e w1 ⟨rfl, rfl⟩
  go_wp2
  go_ret
  exact ⟨rfl, rfl⟩

theorem put_no {w : World} {p : Option Addr} (h : Nb w p) (x : ByteArray) : Calls Try.prog 18 #[.pointer p, .string x] w fun e w' => e = .returned (.int .i64 2) ∧ Below w.heap.size w w' := by
  have hb : Below w.heap.size w (w.alloc (.cells #[.string x] 9)) := (Below.refl _ w).alloc (Nat.le_refl _) _
  have H : Hid _ := h.below hb
  have HB : Hid _ := hb
  clear h hb
  go_enter Try.func18, Try.ntmps18
  go_wp2_with fail
  refine (bmade_no H.out).mono ?_
  rintro e w1 ⟨rfl, rfl⟩
  go_wp2
  go_ret
  exact ⟨rfl, HB.out⟩
end Go.Proofs.Ytjfmilfplidepaa
