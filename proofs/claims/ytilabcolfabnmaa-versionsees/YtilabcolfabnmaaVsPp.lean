/- Pruned at a mark, versions say the same from the mark on: plain facts. -/
import Derived.Test.YtilabcolfabnmaaVsP
namespace Go.Proofs.Ytilabcolfabnmaa
set_option linter.unusedVariables false
set_option maxRecDepth 100000
namespace Vr

theorem chk_pre {a : Int} {l m : List Vs} (h : chk a (l ++ m) = 0) : chk a l = 0 := by
  induction l generalizing a with
  | nil => rfl
  | cons x r ih =>
    unfold chk at h ⊢
    simp only [List.cons_append] at h
    split
    · rename_i hc
      rw [if_pos hc] at h
      exact ih h
    · rename_i hc
      rw [if_neg hc] at h
      cases h

theorem chk_falls {a : Int} {l : List Vs} (h : chk a l = 0) : (∀ x ∈ l, x.ts < a) ∧ l.Pairwise fun x y => y.ts < x.ts := by
  induction l generalizing a with
  | nil => simp
  | cons x r ih =>
    unfold chk at h
    split at h
    · rename_i hc
      simp only [Bool.and_eq_true, decide_eq_true_eq] at hc
      obtain ⟨h1, h2⟩ := ih h
      refine ⟨fun y hy => ?_, List.pairwise_cons.2 ⟨h1, h2⟩⟩
      rcases List.mem_cons.1 hy with rfl | hy
      · exact hc.2
      · have := h1 y hy
        omega
    · cases h

theorem fold_up {mark : Int} {A : List Vs} (h : ∀ x ∈ A, mark < x.ts) (s : Ps) : A.foldl (pstep mark) s = ⟨s.kept ++ A, s.rest, s.found⟩ := by
  induction A generalizing s with
  | nil => simp
  | cons x r ih =>
    rw [List.foldl_cons, pstep_up (h x (by simp)), ih (fun y hy => h y (by simp [hy]))]
    simp
theorem fold_low {mark : Int} {B : List Vs} (h : ∀ x ∈ B, x.ts ≤ mark) (k r : List Vs) : B.foldl (pstep mark) ⟨k, r, true⟩ = ⟨k, r ++ B, true⟩ := by
  induction B generalizing r with
  | nil => simp
  | cons x s ih =>
    rw [List.foldl_cons, pstep_found (h x (by simp)) rfl, ih (fun y hy => h y (by simp [hy]))]
    simp

/-- How falling versions part at a mark. -/
theorem part {mark : Int} {l : List Vs} (h : l.Pairwise fun x y => y.ts < x.ts) : ∃ A B, l = A ++ B ∧ (∀ x ∈ A, mark < x.ts) ∧ (∀ x ∈ B, x.ts ≤ mark) := by
  induction l with
  | nil => exact ⟨[], [], rfl, by simp, by simp⟩
  | cons x r ih =>
    rw [List.pairwise_cons] at h
    by_cases hx : mark < x.ts
    · obtain ⟨A, B, rfl, h1, h2⟩ := ih h.2
      exact ⟨x :: A, B, rfl, fun y hy => by rcases List.mem_cons.1 hy with rfl | hy; exact hx; exact h1 y hy, h2⟩
    · refine ⟨[], x :: r, rfl, by simp, fun y hy => ?_⟩
      rcases List.mem_cons.1 hy with rfl | hy
      · omega
      · have := h.1 y hy
        omega

/-- What is kept of them. -/
theorem kept_of {mark : Int} {A B : List Vs} (hA : ∀ x ∈ A, mark < x.ts) (hB : ∀ x ∈ B, x.ts ≤ mark) :
    ((prune mark (A ++ B)).kept = A ∧ (∀ b r, B = b :: r → b.del = true)) ∨ ∃ b r, B = b :: r ∧ b.del = false ∧ (prune mark (A ++ B)).kept = A ++ [b] := by
  unfold prune
  rw [List.foldl_append, fold_up hA]
  cases B with
  | nil => exact .inl ⟨by simp, fun b r h => by cases h⟩
  | cons b r =>
    have hb := hB b (by simp)
    rw [List.foldl_cons]
    cases hd : b.del with
    | true =>
      rw [pstep_del hb hd, fold_low (fun y hy => hB y (by simp [hy]))]
      exact .inl ⟨by simp, fun b' r' h => by cases h; exact hd⟩
    | false =>
      rw [pstep_first hb rfl hd, fold_low (fun y hy => hB y (by simp [hy]))]
      exact .inr ⟨b, r, rfl, hd, by simp⟩

theorem prunes {mark t : Int} {l : List Vs} (hc : check l = 0) (ht : mark ≤ t) :
    val? (at? (prune mark l).kept t) = val? (at? l t) ∧ (prune mark (prune mark l).kept).kept = (prune mark l).kept ∧ (prune mark (prune mark l).kept).rest = [] ∧ check (prune mark l).kept = 0 := by
  unfold check at hc
  split at hc
  · cases hc
  · rename_i hlen
    obtain ⟨_, hf⟩ := chk_falls hc
    obtain ⟨A, B, rfl, hA, hB⟩ := part (mark := mark) hf
    rcases kept_of hA hB with ⟨hk, hd⟩ | ⟨b, r, rfl, hd, hk⟩
    · rw [hk]
      have hpA : prune mark A = ⟨A, [], false⟩ := by unfold prune; rw [fold_up hA]; simp
      refine ⟨?_, by rw [hpA], by rw [hpA], ?_⟩
      · unfold at?
        rw [List.find?_append]
        cases hfa : A.find? (fun v => decide (v.ts ≤ t)) with
        | some y => rfl
        | none =>
          cases B with
          | nil => rfl
          | cons b r =>
            have hb := hB b (by simp)
            rw [List.find?_cons_of_pos (by simpa using Int.le_trans hb ht)]
            exact (val_del (hd b r rfl)).symm
      · unfold check
        rw [if_neg (by simp at hlen; omega)]
        exact chk_pre hc
    · rw [hk]
      have hb := hB b (by simp)
      have hpA : prune mark (A ++ [b]) = ⟨A ++ [b], [], true⟩ := by
        unfold prune
        rw [List.foldl_append, fold_up hA, List.foldl_cons, pstep_first hb rfl hd]
        simp
      refine ⟨?_, by rw [hpA], by rw [hpA], ?_⟩
      · unfold at?
        rw [List.find?_append, List.find?_append]
        cases hfa : A.find? (fun v => decide (v.ts ≤ t)) with
        | some y => rfl
        | none =>
          rw [List.find?_cons_of_pos (by simpa using Int.le_trans hb ht), List.find?_cons_of_pos (by simpa using Int.le_trans hb ht)]
      · unfold check
        rw [if_neg (by simp at hlen ⊢; omega)]
        refine chk_pre (m := r) ?_
        rw [List.append_assoc]
        exact hc
end Vr
end Go.Proofs.Ytilabcolfabnmaa
