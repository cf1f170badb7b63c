/- slices' symMerge, at commits. -/
import Derived.Test.YtilabcolfabnmaaSbI
import Derived.Deep.LoopGhost
import Derived.WalkArith
import Derived.Laws.Shifts
import Derived.Lib.Walk
namespace Go.Proofs.Ytilabcolfabnmaa
open Go.RowKit Go.Sort
set_option linter.unusedVariables false
set_option maxRecDepth 100000

theorem row_at {A X Y B : List Cm} {t a : Nat} {y : Cm} (ha : A.length = a) (h : X[t]? = some y) : (A ++ (X ++ (Y ++ B)))[a + t]? = some y := by
  have ht := (List.getElem?_eq_some_iff.1 h).1
  rw [List.getElem?_append_right (by omega), show a + t - A.length = t by omega, List.getElem?_append_left ht]
  exact h
theorem row_at2 {A X Y B : List Cm} {t m : Nat} {y : Cm} (hm : A.length + X.length = m) (h : Y[t]? = some y) : (A ++ (X ++ (Y ++ B)))[m + t]? = some y := by
  have ht := (List.getElem?_eq_some_iff.1 h).1
  rw [List.getElem?_append_right (by omega), List.getElem?_append_right (by omega), show m + t - A.length - X.length = t by omega, List.getElem?_append_left ht]
  exact h
theorem mem_take_at {l : List Cm} {n : Nat} {y : Cm} (h : y ∈ l.take n) : ∃ t, t < n ∧ l[t]? = some y := by
  obtain ⟨t, ht, rfl⟩ := List.getElem_of_mem h
  rw [List.length_take] at ht
  exact ⟨t, by omega, by rw [List.getElem_take]; exact List.getElem?_eq_getElem (by omega)⟩
theorem mem_drop_at {l : List Cm} {n : Nat} {y : Cm} (h : y ∈ l.drop n) : ∃ t, n ≤ t ∧ l[t]? = some y := by
  obtain ⟨t, ht, rfl⟩ := List.getElem_of_mem h
  rw [List.length_drop] at ht
  exact ⟨n + t, by omega, by rw [List.getElem_drop]; exact List.getElem?_eq_getElem (by omega)⟩

/-- What the choice of the middle says of the four parts. -/
theorem parts_at {X Y : List Cm} {a m b mid n s0 r0 st : Nat} (hX : Asc Cm.ts X) (hY : Asc Cm.ts Y) (hx : a + X.length = m) (hy : m + Y.length = b) (hn : mid + m = n) (hs0 : (m ≤ mid ∧ s0 = a ∧ r0 = m) ∨ (mid < m ∧ s0 + b = n ∧ r0 = mid)) (hab : a < mid) (hmb : mid < b) (hm1 : 2 * mid ≤ a + b) (hm2 : a + b ≤ 2 * mid + 1) (h1 : s0 ≤ st) (h2 : st ≤ r0)
    (I1 : st = s0 ∨ ∀ x y, X[st - 1 - a]? = some x → Y[mid - st]? = some y → x.ts ≤ y.ts) (I2 : st = r0 ∨ ∀ x y, X[st - a]? = some x → Y[mid - 1 - st]? = some y → y.ts < x.ts) :
    (∀ x ∈ X.drop (st - a), ∀ y ∈ Y.take (mid - st), y.ts < x.ts) ∧ (∀ x ∈ X.take (st - a), ∀ y ∈ Y.drop (mid - st), x.ts ≤ y.ts) := by
  refine ⟨fun x hx1 y hy1 => ?_, fun x hx1 y hy1 => ?_⟩
  · obtain ⟨i, hi, hxi⟩ := mem_drop_at hx1
    obtain ⟨j, hj, hyj⟩ := mem_take_at hy1
    have li := (List.getElem?_eq_some_iff.1 hxi).1
    have lj := (List.getElem?_eq_some_iff.1 hyj).1
    rcases I2 with h | h
    · omega
    · have e1 := List.getElem?_eq_getElem (l := X) (i := st - a) (by omega)
      have e2 := List.getElem?_eq_getElem (l := Y) (i := mid - 1 - st) (by omega)
      have h3 := h _ _ e1 e2
      have h4 := hX.at e1 hxi hi
      have h5 := hY.at hyj e2 (by omega)
      omega
  · obtain ⟨i, hi, hxi⟩ := mem_take_at hx1
    obtain ⟨j, hj, hyj⟩ := mem_drop_at hy1
    have li := (List.getElem?_eq_some_iff.1 hxi).1
    have lj := (List.getElem?_eq_some_iff.1 hyj).1
    rcases I1 with h | h
    · omega
    · have e1 := List.getElem?_eq_getElem (l := X) (i := st - 1 - a) (by omega)
      have e2 := List.getElem?_eq_getElem (l := Y) (i := mid - st) (by omega)
      have h3 := h _ _ e1 e2
      have h4 := hX.at hxi e1 (by omega)
      have h5 := hY.at e2 hyj hj
      omega
end Go.Proofs.Ytilabcolfabnmaa
