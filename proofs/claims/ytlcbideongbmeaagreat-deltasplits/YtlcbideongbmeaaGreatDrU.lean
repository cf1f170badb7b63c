/- The draft of a page's entries, as plain data: removed, cut, come, told. -/
import Derived.Test.YtlcbideongbmeaaGreatDrT
namespace Go.Proofs.YtlcbideongbmeaaGreat
set_option linter.unusedVariables false
set_option maxRecDepth 100000

namespace Dr
section
variable {F : Fx} {num : ByteArray → Nat} {kw : ByteArray → Prop} {s : Df}

theorem rmA_inv (h : Inv F num kw s) (n : Nat) : Inv F num kw (rmA s n) := by
  have hst : ∀ m, (rmA s n).st m = true → s.st m = true := by
    intro m hm
    have : (if m = n then false else s.st m) = true := hm
    split at this
    · cases this
    · exact this
  exact { h with st := fun m hm => h.st m (hst m hm), rise := fun m k hm hk => h.rise m k (hst m hm) (hst k hk), ahead := fun m a hm => h.ahead m a (hst m hm), ka := fun m hm => h.ka m (hst m hm) }

theorem rmA_view (h : Inv F num kw s) {n : Nat} {key : ByteArray} (hs : s.st n = true) (hk : kw key) (hn : num key = n) : view F (rmA s n) = without (view F s) key := by
  obtain ⟨hnK, hg⟩ := h.st n hs
  have hc : s.g n * (F.K + 1) + n < top F s := code_lt (by omega) (by omega)
  have hv : val F s (s.g n * (F.K + 1) + n) = some (s.a n) := by rw [val_gap _ _ _ _ hnK, hs]; simp
  have hv' : val F (rmA s n) (s.g n * (F.K + 1) + n) = none := by
    rw [val_gap _ _ _ _ hnK]
    show (if (if n = n then false else s.st n) && _ then _ else _) = _
    simp
  rw [view_turn F s (rmA s n) _ hc rfl, hv', view_split F s _ hc, hv]
  · exact (without_same (h.first_gap hs hk hn) (by rw [h.is hv hk, (h.ka n hs).2, hn]; simp)).symm
  · intro d hd
    obtain ⟨e1, e2⟩ := code_of F.K d
    rw [e1]
    by_cases hK : d % (F.K + 1) = F.K
    · rw [hK, val_row, val_row]; rfl
    · rw [val_gap _ _ _ _ (by omega), val_gap _ _ _ _ (by omega)]
      show (if (if d % (F.K + 1) = n then false else s.st _) && _ then _ else _) = _
      by_cases hm : d % (F.K + 1) = n
      · have : s.g n ≠ d / (F.K + 1) := fun hh => hd (by rw [e1, hm, hh])
        rw [hm]
        simp [this]
      · rw [if_neg hm]; rfl

theorem take_f (h : Inv F num kw s) {a : Nat} (ha : a < F.R) (n : Nat) : (take F s a).f n = if n = F.k a then F.n a else s.f n := by
  have h1 := h.lf
  have h2 := h.fx.key a ha
  unfold Df.f take
  simp only
  rw [getD_set _ _ _ _ _ (by omega)]

theorem take_th (h : Inv F num kw s) {a : Nat} (ha : a < s.came) (hf : s.f (F.k a) = a) (b : Nat) : th F (take F s a) b = (th F s b && decide (b ≠ a)) := by
  have hc := h.came
  unfold th
  rw [take_f h (by omega)]
  show (decide (b < s.came) && _) = _
  by_cases hb : b < s.came
  · by_cases hk : F.k b = F.k a
    · rw [if_pos hk, hk, hf]
      have h1 := h.fx.gt a (by omega)
      by_cases hba : b = a
      · subst hba
        simp; omega
      · by_cases hlt : a < b
        · have : F.n a ≤ b := by
            by_cases h2 : F.n a ≤ b
            · exact h2
            · exact absurd hk (h.fx.next a b (by omega) hlt (by omega))
          simp [hb, this, hba]; omega
        · have h2 : ¬ F.n a ≤ b := by omega
          have h3 : ¬ a ≤ b := by omega
          simp [h2, h3]
    · rw [if_neg hk]
      have : b ≠ a := fun e => hk (by rw [e])
      simp [this]
  · simp [hb]

theorem take_inv (h : Inv F num kw s) {a : Nat} (ha : a < s.came) (hf : s.f (F.k a) = a) : Inv F num kw (take F s a) := by
  have hc := h.came
  have hl := h.lf
  have hg := h.fx.gt a (by omega)
  refine { h with lf := by simpa [take] using hl, ahead := fun m b hm ht hle => ?_, fle := fun n hn => ?_, fkey := fun n hn hlt => ?_, left := fun b h1 h2 => ?_ }
  · rw [take_th h ha hf] at ht
    simp only [Bool.and_eq_true] at ht
    exact h.ahead m b hm ht.1 hle
  · rw [take_f h (by omega)]
    split
    · exact h.fx.le a (by omega)
    · exact h.fle n hn
  · rw [take_f h (by omega)] at hlt ⊢
    split
    · rename_i e
      rw [if_pos e] at hlt
      rw [e]
      exact h.fx.same a (by omega) hlt
    · rename_i e
      rw [if_neg e] at hlt
      exact h.fkey n hn hlt
  · have h3 : s.came ≤ b := h1
    rw [take_f h (by omega)]
    split
    · rename_i e
      by_cases h4 : F.n a ≤ b
      · exact h4
      · exact absurd e (h.fx.next a b (by omega) (by omega) (by omega))
    · exact h.left b h3 h2

theorem take_val (h : Inv F num kw s) {a : Nat} (ha : a < s.came) (hf : s.f (F.k a) = a) (d : Nat) : val F (take F s a) d = if d = a * (F.K + 1) + F.K then none else val F s d := by
  obtain ⟨e1, e2⟩ := code_of F.K d
  rw [e1]
  by_cases hK : d % (F.K + 1) = F.K
  · rw [hK, val_row, val_row, take_th h ha hf]
    by_cases hd : d / (F.K + 1) = a
    · rw [hd]; simp
    · have : ¬ d / (F.K + 1) * (F.K + 1) + F.K = a * (F.K + 1) + F.K := by
        intro e
        have := congrArg (· / (F.K + 1)) e
        simp only [div_code _ _ _ (Nat.le_refl F.K)] at this
        exact hd this
      rw [if_neg this]
      simp only [ne_eq, hd, not_false_eq_true, decide_true, Bool.and_true]
      rfl
  · rw [val_gap _ _ _ _ (by omega), val_gap _ _ _ _ (by omega)]
    have : ¬ d / (F.K + 1) * (F.K + 1) + d % (F.K + 1) = a * (F.K + 1) + F.K := by
      intro e
      have := congrArg (· % (F.K + 1)) e
      simp only [mod_code _ _ _ (Nat.le_refl F.K), mod_code _ _ _ e2] at this
      exact hK this
    rw [if_neg this]
    rfl

theorem take_view (h : Inv F num kw s) {n : Nat} {key : ByteArray} (hn : n < F.K) (hs : s.st n = false) (hf : s.f n < s.came) (hk : kw key) (hne : num key = n) : view F (take F s (s.f n)) = without (view F s) key := by
  have hcm := h.came
  have hkf := h.fkey n hn (by omega)
  have hth : th F s (s.f n) = true := by unfold th; rw [hkf]; simp [hf]
  have hc : s.f n * (F.K + 1) + F.K < top F s := code_lt (Nat.le_refl _) (by omega)
  have hv : val F s (s.f n * (F.K + 1) + F.K) = some (s.r (s.f n)) := by rw [val_row, if_pos hth]
  have tv := take_val h hf (by rw [hkf])
  rw [view_turn F s (take F s (s.f n)) _ hc rfl (fun d hd => by rw [tv, if_neg hd]), tv, if_pos rfl, view_split F s _ hc, hv]
  refine (without_same (h.first_row hs hk hne) ?_).symm
  rw [h.is hv hk, (h.kr _ (by omega)).2, hkf, hne]; simp

theorem none_view (h : Inv F num kw s) {n : Nat} {key : ByteArray} (hs : s.st n = false) (hf : s.came ≤ s.f n) (hk : kw key) (hne : num key = n) : without (view F s) key = view F s := without_none (h.none hs hf hk hne)

theorem come_inv (h : Inv F num kw s) (hc : s.came < F.R) : Inv F num kw (come1 s) := by
  refine { h with came := hc, st := fun n hn => ?_, ahead := fun m a hm ht hle => ?_, left := fun a h1 h2 => h.left a (by have : s.came + 1 ≤ a := h1; omega) h2 }
  · obtain ⟨h1, h2⟩ := h.st n hn
    exact ⟨h1, by show s.g n ≤ s.came + 1; omega⟩
  · have ht2 : th F (come1 s) a = true := ht
    unfold th at ht2
    simp only [Bool.and_eq_true, decide_eq_true_eq] at ht2
    obtain ⟨t1, t2⟩ := ht2
    have t3 : a < s.came + 1 := t1
    by_cases hlt : a < s.came
    · refine h.ahead m a hm ?_ hle
      unfold th
      have t4 : s.f (F.k a) ≤ a := t2
      simp [hlt, t4]
    · have := (h.st m hm).2
      show s.g m ≤ a
      omega

theorem come_view (h : Inv F num kw s) (hc : s.came < F.R) : view F (come1 s) = view F s ++ [s.r s.came] := by
  have hl := h.left s.came (Nat.le_refl _) hc
  unfold view
  have e : top F (come1 s) = s.came * (F.K + 1) + F.K + (1 + F.K) := by
    show (s.came + 1) * (F.K + 1) + F.K = _
    rw [Nat.succ_mul]; omega
  have e0 : top F s = s.came * (F.K + 1) + F.K := rfl
  rw [e, e0]
  have e5 : List.range (1 + F.K) = List.range 1 ++ (List.range F.K).map (fun x => 1 + x) := List.range_add
  have e6 : ∀ M, List.range (M + (1 + F.K)) = List.range M ++ (List.range (1 + F.K)).map (fun x => M + x) := fun M => List.range_add
  rw [e6, List.filterMap_append, e5, List.map_append, List.filterMap_append]
  congr 1
  · refine fm_congr fun d hd => ?_
    have hd2 := List.mem_range.1 hd
    obtain ⟨e1, e2⟩ := code_of F.K d
    rw [e1] at hd2 ⊢
    by_cases hK : d % (F.K + 1) = F.K
    · rw [hK] at hd2
      rw [hK, val_row, val_row]
      have h1 := lt_code hd2 (Nat.le_refl _) (Nat.le_refl _)
      have h2 : th F (come1 s) (d / (F.K + 1)) = th F s (d / (F.K + 1)) := by
        unfold th
        show (decide (_ < s.came + 1) && _) = _
        have a1 : d / (F.K + 1) < s.came := by omega
        have a2 : d / (F.K + 1) < s.came + 1 := by omega
        simp only [a1, a2, decide_true, Bool.true_and]
        rfl
      rw [h2]; rfl
    · rw [val_gap _ _ _ _ (by omega), val_gap _ _ _ _ (by omega)]; rfl
  · have h1 : val F (come1 s) (s.came * (F.K + 1) + F.K) = some (s.r s.came) := by
      rw [val_row]
      have : th F (come1 s) s.came = true := by
        unfold th
        show (decide (s.came < s.came + 1) && decide (s.f _ ≤ _)) = true
        simp [hl]
      rw [this]; rfl
    have h2 : ((List.map (fun x => 1 + x) (List.range F.K)).map (fun x => s.came * (F.K + 1) + F.K + x)).filterMap (val F (come1 s)) = [] := by
      rw [List.filterMap_eq_nil_iff]
      intro d hd
      simp only [List.mem_map, List.mem_range] at hd
      obtain ⟨x, ⟨y, hy, rfl⟩, rfl⟩ := hd
      have : s.came * (F.K + 1) + F.K + (1 + y) = (s.came + 1) * (F.K + 1) + y := by rw [Nat.succ_mul]; omega
      rw [this, val_gap _ _ _ _ hy]
      show (if s.st y && decide (s.g y = _) then _ else _) = _
      cases hs : s.st y with
      | false => simp
      | true =>
        have := (h.st y hs).2
        have hne : ¬ s.g y = s.came + 1 := by omega
        simp [hne]
    simp only [List.range_one, List.map_cons, List.map_nil, Nat.add_zero]
    rw [List.filterMap_cons, h1]
    simp only [List.filterMap_nil, List.singleton_append]
    rw [h2]

/-- All from a number on are taken away. -/
structure Cutd (F : Fx) (s s' : Df) (n : Nat) : Prop where
  came : s'.came = s.came
  row : s'.row = s.row
  al : s'.al = s.al
  gp : s'.gp = s.gp
  st : ∀ m, s'.st m = (s.st m && decide (m < n))
  th : ∀ a, th F s' a = (th F s a && decide (F.k a < n))

theorem cut_view {s' : Df} (h : Inv F num kw s) {n : Nat} {key : ByteArray} (hc : Cutd F s s' n) (hk : kw key) (hne : num key = n) : view F s' = (view F s).filter fun e => Ky.lt e.key key := by
  unfold view
  have e : top F s' = top F s := by unfold top; rw [hc.came]
  rw [e, List.filter_filterMap]
  refine fm_congr fun d hd => ?_
  have hr : ∀ a, s'.r a = s.r a := fun a => by unfold Df.r; rw [hc.row]
  have ha : ∀ a, s'.a a = s.a a := fun a => by unfold Df.a; rw [hc.al]
  have hg : ∀ a, s'.g a = s.g a := fun a => by unfold Df.g; rw [hc.gp]
  obtain ⟨e1, e2⟩ := code_of F.K d
  rw [e1]
  cases hv : val F s (d / (F.K + 1) * (F.K + 1) + d % (F.K + 1)) with
  | none =>
    by_cases hK : d % (F.K + 1) = F.K
    · rw [hK, val_row] at hv ⊢
      rw [hc.th]
      split at hv
      · cases hv
      · rename_i h0
        simp [h0]
    · rw [val_gap _ _ _ _ (by omega)] at hv ⊢
      rw [hc.st, hg]
      split at hv
      · cases hv
      · rename_i h0
        simp only [Option.filter_none]
        rw [if_neg]
        simp only [Bool.and_eq_true, decide_eq_true_eq] at h0 ⊢
        exact fun hh => h0 ⟨hh.1.1, hh.2⟩
  | some x =>
    have hlt := h.ls hv hk
    rw [hne] at hlt
    by_cases hK : d % (F.K + 1) = F.K
    · rw [hK] at hv ⊢
      rcases h.nmb hv with ⟨a, hca, ht, hna, _, _⟩ | ⟨m, hm, hca, hsm, hna⟩
      · have : a = d / (F.K + 1) := by
          have := congrArg (· / (F.K + 1)) hca
          simp only [div_code _ _ _ (Nat.le_refl F.K)] at this
          exact this.symm
        subst this
        rw [val_row, if_pos ht] at hv
        cases hv
        rw [val_row, hc.th, ht, hr]
        simp only [Option.filter, Bool.true_and, hlt, hna]
      · have := congrArg (· % (F.K + 1)) hca
        simp only [mod_code _ _ _ (Nat.le_refl F.K), mod_code _ _ _ (show m ≤ F.K by omega)] at this
        omega
    · rcases h.nmb hv with ⟨a, hca, ht, hna, _, _⟩ | ⟨m, hm, hca, hsm, hna⟩
      · have := congrArg (· % (F.K + 1)) hca
        simp only [mod_code _ _ _ (Nat.le_refl F.K), mod_code _ _ _ e2] at this
        omega
      · have e4 := congrArg (· % (F.K + 1)) hca
        simp only [mod_code _ _ _ (show m ≤ F.K by omega), mod_code _ _ _ e2] at e4
        have e5 := congrArg (· / (F.K + 1)) hca
        simp only [div_code _ _ _ (show m ≤ F.K by omega), div_code _ _ _ e2] at e5
        rw [e4, e5] at hv ⊢
        rw [val_gap _ _ _ _ hm, hsm] at hv
        simp only [decide_true, Bool.and_self, if_true, Option.some.injEq] at hv
        subst hv
        rw [val_gap _ _ _ _ hm, hc.st, hg, ha, hsm]
        simp only [Option.filter, Bool.true_and, hlt, hna, decide_true, Bool.and_true]

/-- What is told up to a number. -/
def pv (F : Fx) (s : Df) (c : Nat) : List En := (List.range c).filterMap (val F s)

theorem pv_succ (F : Fx) (s : Df) (c : Nat) : pv F s (c + 1) = pv F s c ++ (val F s c).toList := by
  unfold pv
  rw [List.range_succ, List.filterMap_append]
  congr 1

theorem pv_skip (F : Fx) (s : Df) (at' n : Nat) : ∀ k, n + k ≤ F.K → (∀ m, n ≤ m → m < n + k → s.st m = false ∨ s.g m ≠ at') → pv F s (at' * (F.K + 1) + (n + k)) = pv F s (at' * (F.K + 1) + n) := by
  intro k
  induction k with
  | zero => intro _ _; rfl
  | succ k ih =>
    intro hk hall
    rw [← Nat.add_assoc, ← Nat.add_assoc, pv_succ, Nat.add_assoc, ih (by omega) fun m h1 h2 => hall m h1 (by omega)]
    have : val F s (at' * (F.K + 1) + (n + k)) = none := by
      rw [val_gap _ _ _ _ (by omega)]
      rcases hall (n + k) (by omega) (by omega) with h | h
      · simp [h]
      · simp [h]
    rw [this]; simp

theorem pv_gap (F : Fx) (s : Df) (n : Nat) (hn : n < F.K) (hs : s.st n = true) : pv F s (s.g n * (F.K + 1) + (n + 1)) = pv F s (s.g n * (F.K + 1) + n) ++ [s.a n] := by
  rw [← Nat.add_assoc, pv_succ, val_gap _ _ _ _ hn, hs]; simp

theorem pv_row (F : Fx) (s : Df) (a : Nat) : pv F s ((a + 1) * (F.K + 1)) = pv F s (a * (F.K + 1) + F.K) ++ (if th F s a then [s.r a] else []) := by
  rw [Nat.succ_mul, ← Nat.add_assoc, pv_succ, val_row]
  cases th F s a <;> rfl

end
end Dr
end Go.Proofs.YtlcbideongbmeaaGreat
