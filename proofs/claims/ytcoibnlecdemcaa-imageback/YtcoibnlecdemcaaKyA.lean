/- A text in a range; what is next; what parts two texts (the code's). -/
import Derived.Test.YtcoibnlecdemcaaKyM
import Derived.Laws.BytesArg
import Derived.Laws.IdiomStrings
namespace Go.Proofs.Ytcoibnlecdemcaa
open Go.RowKit
set_option linter.unusedVariables false
set_option maxRecDepth 100000

/-- What is next. -/
def Ky.next (k : ByteArray) : ByteArray := k ++ ⟨#[0]⟩

theorem next_any (k : ByteArray) (w : World) (hk : k.size ≤ 281474976710656) : Calls Try.prog 39 #[.string k] w fun e w' => e = .returned (.string (Ky.next k)) ∧ w' = w := by
  have hk1 : ¬ 9223372036854775807 < k.size + 1 := by omega
  go_enter Try.func39, Try.ntmps39
  go_wp2
  go_ret
  exact ⟨rfl, rfl⟩

def Ky.one (k : ByteArray) : Rg := ⟨k, Ky.next k⟩

/-- How many bytes two texts begin with in common. -/
def Ky.com : List UInt8 → List UInt8 → Nat
  | a :: x, b :: y => if a = b then Ky.com x y + 1 else 0
  | _, _ => 0

theorem Ky.com_le : ∀ a b : List UInt8, Ky.com a b ≤ a.length ∧ Ky.com a b ≤ b.length
  | [], _ => by simp [Ky.com]
  | _ :: _, [] => by simp [Ky.com]
  | a :: x, b :: y => by
    have := Ky.com_le x y
    simp only [Ky.com]
    split <;> simp <;> omega

theorem Ky.size_list (s : ByteArray) : s.toList.length = s.size := by rw [ByteArray.toList_eq]; rfl

theorem Ky.at_drop (s : ByteArray) {k : Nat} (h : k < s.size) : s.toList.drop k = s[k] :: s.toList.drop (k + 1) := by
  rw [ByteArray.toList_eq]
  have hl : k < s.data.toList.length := h
  rw [List.drop_eq_getElem_cons hl]
  rfl

end Go.Proofs.Ytcoibnlecdemcaa
