/- What is refused by a panic: refuse, sure, refusal. -/
import Derived.Test.YtoehlgigidgfpaaGreatDlC
import Derived.WalkLawsBesides
import Derived.Recover
namespace Go.Proofs.YtoehlgigidgfpaaGreat
open Go.RowKit Go.Sort
set_option linter.unusedVariables false
set_option maxRecDepth 100000

/-- An error that is told by a panic. -/
abbrev pan (k : Int) : Ending := .panicked [{ v := .iface 24 (.int .i64 k), recovered := false }]

theorem refuse_ok (w : World) : Calls Tryz.prog 143 #[.int .i64 0] w fun e w' => e = .returned (.tuple #[]) ∧ w' = w := by
  go_enter Tryz.func143, Tryz.ntmps143
  go_wp2
  go_end0
  exact ⟨rfl, rfl⟩

theorem refuse_no (k : Int) (hk : k ≠ 0) (w : World) : Calls Tryz.prog 143 #[.int .i64 k] w fun e w' => e = pan k ∧ w' = w := by
  have h : (k != 0) = true := by simp [hk]
  have h2 : (k == 0) = false := by simp [hk]
  go_enter Tryz.func143, Tryz.ntmps143
  go_wp2
  exact ⟨rfl, rfl, rfl⟩

section
variable (leaf : Bool) (lo hi : ByteArray) (r : Int) (p : Option Addr) (len cap : Nat) (w : World)

theorem sure_ok : Calls Tryz.prog 144 #[pgv leaf lo hi r p len cap, .int .i64 0] w fun e w' => e = .returned (pgv leaf lo hi r p len cap) ∧ Below w.heap.size w w' := by
  have HB : Hid (Below w.heap.size w ((w.alloc (.cells (pgc leaf lo hi r p len cap) 29)).alloc (.cells (pgc leaf lo hi r p len cap) 29))) := ((Below.refl _ _).alloc (Nat.le_refl _) _).alloc (by simp) _
  go_enter Tryz.func144, Tryz.ntmps144
  go_wp2_with fail
  refine (refuse_ok _).mono ?_
  rintro e w1 ⟨rfl, rfl⟩
  go_wp2
  refine bodyPost_ret (results_one (T' := 29) (cs := [.bool leaf, .string lo, .string hi, .int .i64 r, .slice p len cap]) rfl rfl pg_agg pg_size rfl (Bk.new1 _ _ _ _)) rfl ?_
  exact ⟨rfl, HB.out⟩

theorem sure_no (k : Int) (hk : k ≠ 0) : Calls Tryz.prog 144 #[pgv leaf lo hi r p len cap, .int .i64 k] w fun e w' => e = pan k ∧ Below w.heap.size w w' := by
  have HB : Hid (Below w.heap.size w ((w.alloc (.cells (pgc leaf lo hi r p len cap) 29)).alloc (.cells zc 29))) := ((Below.refl _ _).alloc (Nat.le_refl _) _).alloc (by simp) _
  go_enter Tryz.func144, Tryz.ntmps144
  go_wp2_with fail
  refine (refuse_no k hk _).mono ?_
  rintro e w1 ⟨rfl, rfl⟩
  exact ⟨rfl, rfl, HB.out⟩
end

theorem refusal_any (k : Int) (w : World) : Calls Tryz.prog 118 #[.iface 24 (.int .i64 k)] w fun e w' => e = .returned (.int .i64 k) ∧ w' = w := by
  have hta : (Instr.typeAssert (.iface 24 (.int .i64 k)) 20 24 true).run Tryz.prog w = .ok (.tuple #[.int .i64 k, .bool true]) w := by kernel_rfl
  go_enter Tryz.func118, Tryz.ntmps118
  go_wp2
  go_ret
  exact ⟨rfl, rfl⟩

end Go.Proofs.YtoehlgigidgfpaaGreat
