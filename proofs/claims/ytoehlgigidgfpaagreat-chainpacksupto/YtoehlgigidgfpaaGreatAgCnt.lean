/- Arenas: the counter of refused calls. -/
import Derived.Test.YtoehlgigidgfpaaGreatAgMem
import Derived.Laws.LoneSync
namespace Go.Proofs.YtoehlgigidgfpaaGreat
open Go.RowKit
set_option linter.unusedVariables false
set_option maxRecDepth 100000

/-- A refused call is counted. -/
theorem IsAr.bad {α : Type} [Inhabited α] {cells : α → List Value} {k : Nat} {tA tS : TypeId} {w w' : World} {B : Nat} {uv fv : Value} {fr : List Nat} {a : Ar α} (h : IsAr cells k tA tS w B uv fv fr a) (hw : w' = w.setCell ⟨B, 3, none⟩ (.int .i64 (a.stale + 1))) : IsAr cells k tA tS w' B uv fv fr a.bad ∧ Tn [B] w w' := by
  have ht : Tn [B] w w' := by
    rw [hw]
    exact (Tn.refl _ _).setCell (.inl (by simp)) _
  refine ⟨?_, ht⟩
  exact {
    wt := ⟨by rw [hw]; exact h.wt.blk.set 3 _, h.wt.row.tn ht (fun k hk hm => h.wt.ne k hk (by simpa using hm)), h.wt.ne, h.wt.len⟩
    row := owns_tn h.row ht (fun k hk hm => h.ne1 k hk (by simpa using hm))
    ne1 := h.ne1, ne2 := h.ne2, hp := h.hp, perm := h.perm, le := h.le, s1 := h.s1, s2 := h.s2 }

theorem IsAr.badT {α : Type} [Inhabited α] {cells : α → List Value} {k : Nat} {tA tS : TypeId} {w w' : World} {B : Nat} {uv fv : Value} {fr : List Nat} {a : Ar α} (h : IsAr cells k tA tS w B uv fv fr a) (hw : w' = w.setCell ⟨B, 3, none⟩ (.int .i64 (a.stale + 1))) : ArT cells k tA tS w w' B (bsOf B uv fv) a.bad := by
  obtain ⟨h1, h2⟩ := h.bad hw
  exact ⟨_, ⟨uv, fv, fr, rfl, h1⟩, h2.mono (by intro x hx; simp at hx; subst hx; exact mem_bsOf.2 (.inl rfl)), fun b hb => .inl hb⟩

/-- A handle is boxed. -/
theorem IsAr.boxed {α : Type} [Inhabited α] {cells : α → List Value} {k : Nat} {tA tS : TypeId} {w : World} {B : Nat} {uv fv : Value} {fr : List Nat} {a : Ar α} (h : IsAr cells k tA tS w B uv fv fr a) (s g : Int) :
    ∃ w1, w.alloc (.cells #[.int .i64 s, .int .i64 g] 31) = w1 ∧ w1.heap.size = w.heap.size + 1 ∧ Below w.heap.size w w1 ∧ IsAr cells k tA tS w1 B uv fv fr a ∧ Bk w1 w.heap.size 31 #[.int .i64 s, .int .i64 g] ∧ w1.cell? ⟨w.heap.size, 0, none⟩ = some (.int .i64 s) ∧ w1.cell? ⟨w.heap.size, 1, none⟩ = some (.int .i64 g) := by
  have hb : Below w.heap.size w (w.alloc (.cells #[.int .i64 s, .int .i64 g] 31)) := (Below.refl _ w).alloc (Nat.le_refl _) _
  have hk : Bk (w.alloc (.cells #[.int .i64 s, .int .i64 g] 31)) w.heap.size 31 #[.int .i64 s, .int .i64 g] := Bk.new _ _ _
  exact ⟨_, rfl, by simp, hb, h.tn (Tn.of_below hb []) (by simp), hk, hk.cell 0, hk.cell 1⟩

theorem count_any {w : World} {B : Nat} {x : Int} (hc : w.cell? ⟨B, 3, none⟩ = some (.int .i64 x)) (hf : w.frozen? ⟨B, 3, none⟩ = false) (h0 : 0 ≤ x) (h1 : x < 9223372036854775807) :
    Calls Tryz.prog 115 #[.pointer (some ⟨B, 3, none⟩), .int .i64 1] w fun e w' => e = .returned (.int .i64 (x + 1)) ∧ w' = w.setCell ⟨B, 3, none⟩ (.int .i64 (x + 1)) := by
  have hadd := run_call_add (P := Tryz.prog) Tryz.func129 (by kernel_rfl) (by kernel_rfl) (by kernel_rfl) .i64 (by kernel_rfl) (y := 1) (s := x + 1) hc hf (by simp [go_sem]; rw [IntKind.wrap_i64]; omega)
  go_enter Tryz.func115, Tryz.ntmps115
  go_wp2
  go_ret
  exact ⟨rfl, rfl⟩

theorem load_any {w : World} {B : Nat} {x : Int} (hc : w.cell? ⟨B, 3, none⟩ = some (.int .i64 x)) :
    Calls Tryz.prog 44 #[.pointer (some ⟨B, 3, none⟩)] w fun e w' => e = .returned (.int .i64 x) ∧ w' = w := by
  have hl := run_call_load (P := Tryz.prog) Tryz.func80 (by kernel_rfl) (by kernel_rfl) (by kernel_rfl) .i64 (by kernel_rfl) hc
  go_enter Tryz.func44, Tryz.ntmps44
  go_wp2
  go_ret
  exact ⟨rfl, rfl⟩

end Go.Proofs.YtoehlgigidgfpaaGreat
