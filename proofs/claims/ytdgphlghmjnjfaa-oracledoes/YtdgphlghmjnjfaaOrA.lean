/- An oracle: the small calls. -/
import Derived.Test.YtdgphlghmjnjfaaOrM
import Derived.Deep.RegionHeld3
namespace Go.Proofs.Ytdgphlghmjnjfaa
open Go.RowKit Go.Maps
set_option linter.unusedVariables false
set_option maxRecDepth 100000

/-- Is a timestamp published? -/
def Or.isP (o : Or) (i : Nat) : Bool := decide (i ≤ o.pub) || (o.ah i).isSome
/-- The same, of whatever number. -/
def Or.isPub (o : Or) (q : Int) : Bool := (getI o.ah NN q).isSome || decide (q ≤ (o.pub : Int))

theorem Or.isPub_nat {o : Or} (i : Nat) (hi : i < NN) : o.isPub (i : Int) = o.isP i := by
  unfold Or.isPub Or.isP
  rw [getI_nat _ _ _ hi, Bool.or_comm]
  congr 1
  by_cases h : i ≤ o.pub
  · simp [h]
  · have : ¬ (i : Int) ≤ (o.pub : Int) := by omega
    simp [h]
theorem Or.isPub_neg {o : Or} {q : Int} (hq : q < 0) : o.isPub q = true := by
  unfold Or.isPub
  have : q ≤ (o.pub : Int) := by omega
  simp [this]

section
variable {w : World} {B M : Nat} {o : Or}

theorem last_any {n : Int} (c0 : w.cell? ⟨B, 0, none⟩ = some (.int .i64 n)) (c2 : w.cell? ⟨B, 2, none⟩ = some (.map (some M))) : Calls Try.prog 11 #[.pointer (some ⟨B, 0, none⟩)] w fun e w' => e = .returned (.int .i64 n) ∧ w' = w := by
  go_enter Try.func11, Try.ntmps11
  go_wp2_with fail
  refine (made_any c2).mono ?_
  rintro e w1 ⟨rfl, rfl⟩
  go_wp2_with fail
  refine (aload_any c0).mono ?_
  rintro e w1 ⟨rfl, rfl⟩
  go_wp2
  go_ret
  exact ⟨rfl, rfl⟩

theorem published_any {n : Int} (c1 : w.cell? ⟨B, 1, none⟩ = some (.int .i64 n)) (c2 : w.cell? ⟨B, 2, none⟩ = some (.map (some M))) : Calls Try.prog 12 #[.pointer (some ⟨B, 0, none⟩)] w fun e w' => e = .returned (.int .i64 n) ∧ w' = w := by
  go_enter Try.func12, Try.ntmps12
  go_wp2_with fail
  refine (made_any c2).mono ?_
  rintro e w1 ⟨rfl, rfl⟩
  go_wp2_with fail
  refine (aload_any c1).mono ?_
  rintro e w1 ⟨rfl, rfl⟩
  go_wp2
  go_ret
  exact ⟨rfl, rfl⟩

theorem last_no {v : Value} (h : Nm w v) : Calls Try.prog 11 #[v] w fun e w' => e = .returned (.int .i64 0) ∧ w' = w := by
  go_enter Try.func11, Try.ntmps11
  go_wp2_with fail
  refine (made_no h).mono ?_
  rintro e w1 ⟨rfl, rfl⟩
  go_wp2
  go_ret
  exact ⟨rfl, rfl⟩
theorem published_no {v : Value} (h : Nm w v) : Calls Try.prog 12 #[v] w fun e w' => e = .returned (.int .i64 0) ∧ w' = w := by
  go_enter Try.func12, Try.ntmps12
  go_wp2_with fail
  refine (made_no h).mono ?_
  rintro e w1 ⟨rfl, rfl⟩
  go_wp2
  go_ret
  exact ⟨rfl, rfl⟩

set_option maxHeartbeats 1000000 in
theorem isPub_any (h : IsOr w B M o) (q : Int) (hq : (Lit.int .i64 q).wf = true) : Calls Try.prog 36 #[.pointer (some ⟨B, 0, none⟩), .int .i64 q] w fun e w' => e = .returned (.bool (o.isPub q)) ∧ Below w.heap.size w w' := by
  have c2 := h.c2
  have hl := h.mp.look uReads (t := 58) Try.underlying58 (uZero w) q hq
  obtain ⟨w1, hw1⟩ : ∃ w1, w.alloc (.cells #[] 53) = w1 := ⟨_, rfl⟩
  have hb : Below w.heap.size w w1 := hw1 ▸ (Below.refl _ w).alloc (Nat.le_refl _) _
  have c1 := (h.below hb).c1
  have HB : Hid (Below w.heap.size w w1) := hb
  have hh : o.isPub q = ((getI o.ah NN q).isSome || decide (q ≤ (o.pub : Int))) := rfl
  rw [hh]
  clear h hb hq hh
  generalize getI o.ah NN q = g at *
  generalize (o.pub : Int) = n at *
  cases g with
  | some u =>
    simp only [Option.isSome_some, Bool.true_or, uv] at hl ⊢
    go_enter Try.func36, Try.ntmps36
    go_wp2
    go_ret
    exact ⟨rfl, HB.out⟩
  | none =>
    simp only [Option.isSome_none, Bool.false_or, uv] at hl ⊢
    go_enter Try.func36, Try.ntmps36
    go_wp2_with fail
    refine (aload_any c1).mono ?_
    rintro e w2 ⟨rfl, rfl⟩
    go_wp2
    go_ret
    exact ⟨rfl, HB.out⟩
end
end Go.Proofs.Ytdgphlghmjnjfaa
