/- A text in a range; what is next; what parts two texts (the code's). -/
import Derived.Test.YtilabcolfabnmaaKyM
import Derived.Laws.BytesArg
import Derived.Laws.IdiomStrings
namespace Go.Proofs.Ytilabcolfabnmaa
open Go.RowKit
set_option linter.unusedVariables false
set_option maxRecDepth 100000

theorem isBelow_any (s e : ByteArray) (w : World) : Calls Try.prog 50 #[.string s, .string e] w fun r w' => r = .returned (.bool (Ky.below s e)) ∧ w' = w := by
  go_enter Try.func50, Try.ntmps50
  go_wp2
  all_goals go_ret
  all_goals (unfold Ky.below Ky.nil Ky.lt; simp_all)

theorem in_any (r : Rg) (k : ByteArray) (w : World) : Calls Try.prog 33 #[r.val, .string k] w fun e w' => e = .returned (.bool (Ky.inn r k)) ∧ Below w.heap.size w w' := by
  obtain ⟨lo, hi⟩ := r
  have HI : Hid (Ky.inn ⟨lo, hi⟩ k = (!Op.bytesLess k.toList lo.toList && Ky.below k hi)) := rfl
  cases h : Op.bytesLess k.toList lo.toList with
  | true =>
    rw [h] at HI
    go_enter Try.func33, Try.ntmps33
    go_wp2
    go_ret
    exact ⟨by rw [HI.out]; rfl, (Below.refl _ _).alloc (Nat.le_refl _) _⟩
  | false =>
    rw [h] at HI
    go_enter Try.func33, Try.ntmps33
    go_wp2_with fail
    refine (isBelow_any k hi _).mono ?_
    rintro e w1 ⟨rfl, rfl⟩
    go_wp2
    go_ret
    exact ⟨by rw [HI.out]; simp, (Below.refl _ _).alloc (Nat.le_refl _) _⟩

/-- What is next. -/
def Ky.next (k : ByteArray) : ByteArray := k ++ ⟨#[0]⟩

/-- A range is answered. -/
theorem results_rg {fn : Func} {t : Tmp} (h : fn.results = #[.cell t 26]) {tmps : Array Value} {w : World} {b : Nat} (ht : tmps.getD t undef = .pointer (some ⟨b, 0, none⟩)) {s g : ByteArray} (hk : Bk w b 26 #[.string s, .string g]) :
    (results fn tmps).run Try.prog w = .ok (Rg.mk s g).val w := by
  have c0 : w.cell? ⟨b, 0, none⟩ = some (.string s) := hk.cell 0
  have c1 : w.cell? ⟨b, 1, none⟩ = some (.string g) := hk.cell 1
  have hz : ∀ w : World, (loadVar 26 ⟨b, 0, none⟩).run Try.prog w = (do let x ← load ⟨b, 0, none⟩; let y ← load ⟨b, 1, none⟩; pure (.agg #[x, y]) : Sem Value).run Try.prog w := fun w => by kernel_rfl
  have hl : (loadVar 26 ⟨b, 0, none⟩).run Try.prog w = .ok (.agg #[.string s, .string g]) w := by
    rw [hz]
    simp [c0, c1]
  have ht' : tmps[t]?.getD undef = .pointer (some ⟨b, 0, none⟩) := by simpa using ht
  simp [results, h, ht', asAddr, hl]

def Ky.one (k : ByteArray) : Rg := ⟨k, Ky.next k⟩

/-- How many bytes two texts begin with in common. -/
def Ky.com : List UInt8 → List UInt8 → Nat
  | a :: x, b :: y => if a = b then Ky.com x y + 1 else 0
  | _, _ => 0

theorem Ky.com_le : ∀ a b : List UInt8, Ky.com a b ≤ a.length ∧ Ky.com a b ≤ b.length
  | [], _ => by simp [Ky.com]
  | _ :: _, [] => by simp [Ky.com]
  | a :: x, b :: y => by
    have := Ky.com_le x y
    simp only [Ky.com]
    split <;> simp <;> omega

theorem Ky.size_list (s : ByteArray) : s.toList.length = s.size := by rw [ByteArray.toList_eq]; rfl

theorem Ky.at_drop (s : ByteArray) {k : Nat} (h : k < s.size) : s.toList.drop k = s[k] :: s.toList.drop (k + 1) := by
  rw [ByteArray.toList_eq]
  have hl : k < s.data.toList.length := h
  rw [List.drop_eq_getElem_cons hl]
  rfl

end Go.Proofs.Ytilabcolfabnmaa
