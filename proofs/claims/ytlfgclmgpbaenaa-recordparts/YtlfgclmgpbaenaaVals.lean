import Derived.Test.YtlfgclmgpbaenaaMath
namespace Go.Proofs.Ytlfgclmgpbaenaa
namespace Cd

/-- The number that bytes say, the highest first. -/
def val (ys : List Int) : Int := ys.foldl (fun m y => m * 256 + y) 0

/-- A byte, turned over or not. -/
def tn (t y : Int) : Int := if t = 255 then 255 - y else y

theorem val_snoc (ys : List Int) (y : Int) : val (ys ++ [y]) = val ys * 256 + y := by simp [val, List.foldl_append]

theorem fold_bd (ys : List Int) : ∀ acc : Int, (∀ y ∈ ys, 0 ≤ y ∧ y < 256) → acc * 256 ^ ys.length ≤ ys.foldl (fun m y => m * 256 + y) acc ∧ ys.foldl (fun m y => m * 256 + y) acc < (acc + 1) * 256 ^ ys.length := by
  induction ys with
  | nil =>
    intro acc _
    simp
    omega
  | cons a l ih =>
    intro acc h
    have h1 := ih (acc * 256 + a) (fun y hy => h y (by simp [hy]))
    have h2 := h a (by simp)
    have hp : (0 : Int) ≤ 256 ^ l.length := Int.le_of_lt (Int.pow_pos (by omega))
    have a1 : acc * 256 * 256 ^ l.length ≤ (acc * 256 + a) * 256 ^ l.length := Int.mul_le_mul_of_nonneg_right (by omega) hp
    have a2 : (acc * 256 + a + 1) * 256 ^ l.length ≤ ((acc + 1) * 256) * 256 ^ l.length := Int.mul_le_mul_of_nonneg_right (by omega) hp
    have e1 : acc * 256 ^ (l.length + 1) = acc * 256 * 256 ^ l.length := by rw [Int.pow_succ, Int.mul_comm (256 ^ l.length) 256, Int.mul_assoc]
    have e2 : (acc + 1) * 256 ^ (l.length + 1) = (acc + 1) * 256 * 256 ^ l.length := by rw [Int.pow_succ, Int.mul_comm (256 ^ l.length) 256, Int.mul_assoc]
    simp only [List.foldl_cons, List.length_cons]
    omega

theorem val_bd (ys : List Int) (h : ∀ y ∈ ys, 0 ≤ y ∧ y < 256) : 0 ≤ val ys ∧ val ys < 256 ^ ys.length := by
  have := fold_bd ys 0 h
  unfold val
  simp at this
  exact this

theorem tn_byte (t y : Int) (h : 0 ≤ y ∧ y < 256) : 0 ≤ tn t y ∧ tn t y < 256 := by unfold tn; split <;> omega

theorem take_snoc (ys : List Int) (k : Nat) (h : k < ys.length) : ys.take (k + 1) = ys.take k ++ [ys.getD k 0] := by
  rw [List.take_succ_eq_append_getElem h]
  simp [List.getD, h]

end Cd
end Go.Proofs.Ytlfgclmgpbaenaa
