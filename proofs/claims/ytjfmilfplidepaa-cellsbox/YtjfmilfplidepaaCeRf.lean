/- The document's cells and boxes. -/
import Derived.Test.YtjfmilfplidepaaCeBg
import Derived.Laws.OwnMore
import Derived.Maps.AppendAt
import Derived.Deep.RegionHeld3
namespace Go.Proofs.Ytjfmilfplidepaa
open Go.RowKit Go.Conc
set_option linter.unusedVariables false
set_option maxRecDepth 100000

/-- The document's cell. -/
abbrev Rc (w : World) (R : Nat) (x n : Int) : Prop := Bk w R 27 #[.int .i64 x, .int .i64 n]

theorem rset_any {w : World} {R : Nat} {x n : Int} (h : Rc w R x n) (y : Int) : Calls Try.prog 13 #[.pointer (some ⟨R, 0, none⟩), .int .i64 y] w fun e w' => e = .returned (.int .i64 (wrap64 (n + 1))) ∧ Rc w' R y (wrap64 (n + 1)) ∧ Tn [R] w w' := by
  have c1 : w.cell? ⟨R, 0, none⟩ = some (.int .i64 x) := h.cell 0
  have f1 := h.frozen 0
  have h1 := h.set 0 (.int .i64 y)
  have c2 : (w.setCell ⟨R, 0, none⟩ (.int .i64 y)).cell? ⟨R, 1, none⟩ = some (.int .i64 n) := h1.cell 1
  have f2 := h1.frozen 1
  have h2 := h1.set 1 (.int .i64 (wrap64 (n + 1)))
  have c3 : ((w.setCell ⟨R, 0, none⟩ (.int .i64 y)).setCell ⟨R, 1, none⟩ (.int .i64 (wrap64 (n + 1)))).cell? ⟨R, 1, none⟩ = some (.int .i64 (wrap64 (n + 1))) := h2.cell 1
  have HK : Hid (Rc ((w.setCell ⟨R, 0, none⟩ (.int .i64 y)).setCell ⟨R, 1, none⟩ (.int .i64 (wrap64 (n + 1)))) R y (wrap64 (n + 1)) ∧ Tn [R] w ((w.setCell ⟨R, 0, none⟩ (.int .i64 y)).setCell ⟨R, 1, none⟩ (.int .i64 (wrap64 (n + 1))))) := ⟨h2, ((Tn.refl [R] w).setCell (.inl (by simp)) _).setCell (.inl (by simp)) _⟩
  clear h h1 h2
  go_enter Try.func13, Try.ntmps13
  go_wp2
  go_ret
  exact ⟨rfl, HK.out⟩

theorem rswap_hit {w : World} {R : Nat} {x n : Int} (h : Rc w R x n) (y : Int) : Calls Try.prog 11 #[.pointer (some ⟨R, 0, none⟩), .int .i64 x, .int .i64 y] w fun e w' => e = .returned (.bool true) ∧ Rc w' R y (wrap64 (n + 1)) ∧ Tn [R] w w' := by
  have c1 : w.cell? ⟨R, 0, none⟩ = some (.int .i64 x) := h.cell 0
  have f1 := h.frozen 0
  have h1 := h.set 0 (.int .i64 y)
  have c2 : (w.setCell ⟨R, 0, none⟩ (.int .i64 y)).cell? ⟨R, 1, none⟩ = some (.int .i64 n) := h1.cell 1
  have f2 := h1.frozen 1
  have h2 := h1.set 1 (.int .i64 (wrap64 (n + 1)))
  have HK : Hid (Rc ((w.setCell ⟨R, 0, none⟩ (.int .i64 y)).setCell ⟨R, 1, none⟩ (.int .i64 (wrap64 (n + 1)))) R y (wrap64 (n + 1)) ∧ Tn [R] w ((w.setCell ⟨R, 0, none⟩ (.int .i64 y)).setCell ⟨R, 1, none⟩ (.int .i64 (wrap64 (n + 1))))) := ⟨h2, ((Tn.refl [R] w).setCell (.inl (by simp)) _).setCell (.inl (by simp)) _⟩
  clear h h1 h2
  go_enter Try.func11, Try.ntmps11
  go_wp2
  go_ret
  exact ⟨rfl, HK.out⟩

theorem rswap_miss {w : World} {R : Nat} {x n : Int} (h : Rc w R x n) (a y : Int) (hne : ¬ x = a) : Calls Try.prog 11 #[.pointer (some ⟨R, 0, none⟩), .int .i64 a, .int .i64 y] w fun e w' => e = .returned (.bool false) ∧ w' = w := by
  have c1 : w.cell? ⟨R, 0, none⟩ = some (.int .i64 x) := h.cell 0
  clear h
  go_enter Try.func11, Try.ntmps11
  go_wp2
  go_ret
  exact ⟨rfl, rfl⟩
end Go.Proofs.Ytjfmilfplidepaa
