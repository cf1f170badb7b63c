/- The live pages in their order, and how many there are. -/
import Derived.Test.YtnjafmjkaajbkaaDoorTbLt
import Derived.Test.YtnjafmjkaajbkaaDoorTbCn
namespace Go.Proofs.YtnjafmjkaajbkaaDoor
open Go.RowKit Go.Shelf
set_option linter.unusedVariables false
set_option maxRecDepth 100000

/-- The number of the last page that was told. -/
def lastAt (pre : List (Nat × (Int × Int))) : Int := match pre.getLast? with
  | some x => (x.1 : Int)
  | none => -1
theorem lastAt_snoc (pre : List (Nat × (Int × Int))) (x : Nat × (Int × Int)) : lastAt (pre ++ [x]) = (x.1 : Int) := by simp [lastAt]
theorem lastAt_ge (pre : List (Nat × (Int × Int))) : -1 ≤ lastAt pre := by
  unfold lastAt
  split <;> omega

theorem lv_lt (us : List Pa) (m : Nat) : lastAt (lv us m) < (m : Int) ∧ ∀ q : Nat, q < m → lastAt (lv us m) < (q : Int) → (us.getD q Pa.free).hd = none := by
  induction m with
  | zero => exact ⟨by simp [lv, lastAt], fun q hq => by omega⟩
  | succ m ih =>
    cases hh : (us.getD m Pa.free).hd with
    | none =>
      have e : lv us (m + 1) = lv us m := by rw [lv_succ, hh]; simp
      rw [e]
      refine ⟨by have := ih.1; omega, fun q hq h => ?_⟩
      by_cases hqm : q = m
      · subst hqm
        exact hh
      · exact ih.2 q (by omega) h
    | some x =>
      have e : lv us (m + 1) = lv us m ++ [(m, x)] := by rw [lv_succ, hh]; simp
      rw [e, lastAt_snoc]
      exact ⟨by show ((m : Nat) : Int) < _; omega, fun q hq h => by simp at h; omega⟩

theorem lv_next (us : List Pa) (m : Nat) (pre : List (Nat × (Int × Int))) (hp : pre <+: lv us m) (hl : pre.length < (lv us m).length) :
    ∃ y, (lv us m)[pre.length]? = some y ∧ lastAt pre < (y.1 : Int) ∧ y.1 < m ∧ (us.getD y.1 Pa.free).hd = some y.2 ∧ ∀ q : Nat, lastAt pre < (q : Int) → q < y.1 → (us.getD q Pa.free).hd = none := by
  induction m with
  | zero => simp [lv] at hl
  | succ m ih =>
    cases hh : (us.getD m Pa.free).hd with
    | none =>
      have e : lv us (m + 1) = lv us m := by rw [lv_succ, hh]; simp
      rw [e] at hp hl ⊢
      obtain ⟨y, h1, h2, h3, h4⟩ := ih hp hl
      exact ⟨y, h1, h2, by omega, h4⟩
    | some x =>
      have e : lv us (m + 1) = lv us m ++ [(m, x)] := by rw [lv_succ, hh]; simp
      rw [e] at hp hl ⊢
      by_cases hlt : pre.length < (lv us m).length
      · obtain ⟨y, h1, h2, h3, h4⟩ := ih (List.prefix_of_prefix_length_le hp (List.prefix_append _ _) (by omega)) hlt
        refine ⟨y, ?_, h2, by omega, h4⟩
        rw [List.getElem?_append_left hlt]
        exact h1
      · have hle : pre.length = (lv us m).length := by
          simp at hl
          omega
        have he : pre = lv us m := (List.prefix_of_prefix_length_le hp (List.prefix_append _ _) (by omega)).eq_of_length hle
        subst he
        refine ⟨(m, x), by simp, (lv_lt us m).1, by simp, hh, fun q h hq => (lv_lt us m).2 q hq h⟩

theorem lv_over {us : List Pa} {j : Nat} (h : us.length ≤ j) : lv us j = lv us us.length := by
  induction j with
  | zero => rw [show us.length = 0 by omega]
  | succ j ih =>
    by_cases hj : us.length = j + 1
    · rw [hj]
    · rw [lv_succ, ih (by omega), show us.getD j Pa.free = Pa.free by simp [List.getD, List.getElem?_eq_none (show us.length ≤ j by omega)]]
      simp [Pa.hd]

theorem Pa.hd_st (p : Pa) : (p.hd = none ↔ p.st ≠ 1) ∧ ∀ x, p.hd = some x → p.st = 1 ∧ ∃ c m, p = Pa.live c x m := by
  rcases p with ⟨_ | _ | ⟨a, b, d⟩⟩
  · exact ⟨by simp [Pa.hd, Pa.st], by simp [Pa.hd]⟩
  · exact ⟨by simp [Pa.hd, Pa.st], by simp [Pa.hd]⟩
  · refine ⟨by simp [Pa.hd, Pa.st], fun x hx => ?_⟩
    simp [Pa.hd] at hx
    subst hx
    exact ⟨rfl, a, d, rfl⟩

section
variable {t : Tb} {r : Rt} {n : Nat}
theorem Rel.at (h : Rel t r n) (i : Nat) : r.st.getD i 0 = (t.us.getD i Pa.free).st := by
  rw [← r.s_nat, h.st, Tb.pg, pgAt_nat]

/-- As many as are told. -/
theorem Rel.count (h : Rel t r n) (j : Nat) (hj : j ≤ r.st.length) : (r.st.take j).countP (fun x => decide (x = 1)) = (lv t.us j).length := by
  induction j with
  | zero => simp [lv]
  | succ j ih =>
    have hjl : j < r.st.length := by omega
    rw [List.take_add_one, List.countP_append, ih (by omega), lv_succ, List.length_append, List.getElem?_eq_getElem hjl]
    have e := h.at j
    rw [show r.st.getD j 0 = r.st[j] by simp [List.getD, hjl]] at e
    rw [e]
    have := Pa.hd_st (t.us.getD j Pa.free)
    clear e
    generalize t.us.getD j Pa.free = p at *
    cases hh : p.hd with
    | none =>
      have h1 := this.1.1 hh
      simp [h1]
    | some x =>
      have h1 := (this.2 x hh).1
      simp [h1]

theorem Rel.live_many (h : Rel t r n) (ho : t.Ok) (hl : r.st.length = n) : r.st.countP (fun x => decide (x = 1)) = (lv t.us t.us.length).length := by
  have := h.count r.st.length (Nat.le_refl _)
  rw [List.take_length] at this
  rw [this, lv_over (by rw [hl, ← h.size]; exact ho.le)]

theorem Rel.next (h : Rel t r n) (ho : t.Ok) (pre : List (Nat × (Int × Int))) (hp : pre <+: lv t.us t.us.length) (hl : pre.length < (lv t.us t.us.length).length) :
    ∃ y, (lv t.us t.us.length)[pre.length]? = some y ∧ lastAt pre < (y.1 : Int) ∧ y.1 < n ∧ r.s (y.1 : Int) = 1 ∧ r.h (y.1 : Int) = y.2 ∧ ∀ q : Nat, lastAt pre < (q : Int) → q < y.1 → r.s (q : Int) ≠ 1 := by
  obtain ⟨y, h1, h2, h3, h4, h5⟩ := lv_next t.us t.us.length pre hp hl
  obtain ⟨k1, c, m, k2⟩ := (Pa.hd_st _).2 _ h4
  have hpg : ∀ q : Nat, t.pg (q : Int) = t.us.getD q Pa.free := fun q => by rw [Tb.pg, pgAt_nat]
  refine ⟨y, h1, h2, by have := ho.le; have := h.size; omega, ?_, ?_, fun q hq hlt => ?_⟩
  · rw [h.st, hpg, k1]
  · exact h.hd _ c y.2 m (by rw [hpg]; exact k2)
  · rw [h.st, hpg]
    exact (Pa.hd_st _).1.1 (h5 q hq hlt)
end

end Go.Proofs.YtnjafmjkaajbkaaDoor
