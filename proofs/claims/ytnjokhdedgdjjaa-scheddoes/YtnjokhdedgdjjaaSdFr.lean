/- Rounds finish all, each behind just its own steps. -/
import Derived.Test.YtnjokhdedgdjjaaSdPk
namespace Go.Proofs.Ytnjokhdedgdjjaa
open Go.RowKit
set_option linter.unusedVariables false
set_option maxRecDepth 100000

/-- What is kept from step to step. -/
structure Pf (G m : Nat) (K : Nat → Int) (s : Sc) : Prop where
  len : s.done.length = m
  rs : (s.fl.map Fb.num).Pairwise (· < ·)
  fib : ∀ f ∈ s.fl, 1 ≤ f.num ∧ f.num ≤ m ∧ f.cnt = ⟨G, f.num - 1, none⟩ ∧ 1 ≤ f.left ∧ f.left + s.D f.cnt = K (f.num - 1)
  cnt : ∀ i, i < m → 0 ≤ s.D ⟨G, i, none⟩ ∧ s.D ⟨G, i, none⟩ ≤ K i
  sum : s.steps = sumD s.D G m
  of : ∀ i, i < m → s.done.getD i 0 = s.D ⟨G, i, none⟩
  fin : ∀ i, i < m → (∃ f ∈ s.fl, f.num = i + 1) ∨ s.D ⟨G, i, none⟩ = K i
  nd : s.box.Nodup
  bx : ∀ n ∈ s.box, 1 ≤ n ∧ n ≤ m ∧ ∀ f ∈ s.fl, f.num ≠ n
  tot : s.fl.length + s.box.length = m

theorem num_not {fl : List Fb} (hr : (fl.map Fb.num).Pairwise (· < ·)) {f x : Fb} (hf : f ∈ fl) (hx : x ∈ fl) (h : x ≠ f) : x.num ≠ f.num := fun e => h (rising_num hr hf hx e)

theorem filter_one {fl : List Fb} (hr : (fl.map Fb.num).Pairwise (· < ·)) {f : Fb} (hf : f ∈ fl) : (fl.filter fun x => x.num != f.num).length + 1 = fl.length := by
  induction fl with
  | nil => cases hf
  | cons x r ih =>
    simp only [List.map_cons, List.pairwise_cons] at hr
    rcases List.mem_cons.1 hf with rfl | h
    · have : (r.filter fun y => y.num != f.num) = r := by
        rw [List.filter_eq_self]
        intro y hy
        have := hr.1 _ (List.mem_map_of_mem hy)
        simp
        omega
      rw [List.filter_cons_of_neg (by simp), this]
      simp
    · have hx := hr.1 _ (List.mem_map_of_mem h)
      rw [List.filter_cons_of_pos (by simp; omega)]
      have := ih hr.2 h
      simp
      omega

theorem Pf.adv {G m : Nat} {K : Nat → Int} {s : Sc} (h : Pf G m K s) (hm : m ≤ 60) (hK : ∀ i, K i ≤ 20) {f : Fb} (hf : f ∈ s.fl) : Pf G m K (s.adv f) ∧ (s.adv f).steps = s.steps + 1 ∧ (∀ x ∈ (s.adv f).fl, (x.num = f.num ∧ x.left = f.left - 1) ∨ (x.num ≠ f.num ∧ x ∈ s.fl)) := by
  obtain ⟨f1, f2, f3, f4, f5⟩ := h.fib f hf
  have hc := h.cnt (f.num - 1) (by omega)
  rw [← f3] at hc
  have hk := hK (f.num - 1)
  have hw : wrap64 (s.D f.cnt + 1) = s.D f.cnt + 1 := by unfold wrap64; omega
  have hD1 : (s.adv f).D f.cnt = s.D f.cnt + 1 := by
    show (if f.cnt = f.cnt then wrap64 (s.D f.cnt + 1) else _) = _
    rw [if_pos rfl, hw]
  have hD2 : ∀ a, a ≠ f.cnt → (s.adv f).D a = s.D a := fun a ha => by
    show (if a = f.cnt then _ else s.D a) = _
    rw [if_neg ha]
  have hs := sumD_le (D := s.D) (G := G) (n := m) fun i hi => ⟨(h.cnt i hi).1, Int.le_trans (h.cnt i hi).2 (hK i)⟩
  have hst : (s.adv f).steps = s.steps + 1 := by
    show wrap64 (s.steps + 1) = _
    rw [h.sum]
    unfold wrap64
    omega
  have hmem : ∀ x ∈ (s.adv f).fl, (x.num = f.num ∧ x.left = f.left - 1 ∧ x.cnt = f.cnt ∧ 1 < f.left) ∨ (x.num ≠ f.num ∧ x ∈ s.fl) := by
    intro x hx
    unfold Sc.adv at hx
    simp only at hx
    split at hx
    · rename_i hlt
      obtain ⟨y, hy, rfl⟩ := List.mem_map.1 hx
      by_cases e : y.num = f.num
      · obtain rfl := rising_num h.rs hf hy e
        refine .inl ⟨less_num _ _, ?_, less_cnt _ _, hlt⟩
        unfold less
        rw [if_pos rfl]
      · refine .inr ⟨by rw [less_num]; exact e, ?_⟩
        unfold less
        rw [if_neg e]
        exact hy
    · have hxf := List.mem_filter.1 hx
      exact .inr ⟨by simpa using hxf.2, hxf.1⟩
  have hcne : ∀ x ∈ s.fl, x.num ≠ f.num → x.cnt ≠ f.cnt := fun x hx hn => by
    have hxf := h.fib x hx
    rw [hxf.2.2.1, f3]
    intro e2
    have e3 : x.num - 1 = f.num - 1 := congrArg Addr.off e2
    omega
  refine ⟨⟨?_, h.rs.sublist (adv_nums s f), fun x hx => ?_, fun i hi => ?_, ?_, fun i hi => ?_, fun i hi => ?_, ?_, fun n hn => ?_, ?_⟩, hst, fun x hx => ?_⟩
  · rw [adv_len]
    exact h.len
  · rcases hmem x hx with ⟨e1, e2, e3, e4⟩ | ⟨e1, e2⟩
    · rw [e1, e2, e3, hD1]
      exact ⟨f1, f2, f3, by omega, by omega⟩
    · rw [hD2 _ (hcne x e2 e1)]
      exact h.fib x e2
  · by_cases e : (⟨G, i, none⟩ : Addr) = f.cnt
    · have e3 : i = f.num - 1 := by rw [f3] at e; exact congrArg Addr.off e
      rw [e, hD1, e3]
      omega
    · rw [hD2 _ e]
      exact h.cnt i hi
  · rw [sumD_in (i := f.num - 1) (D := s.D) (by rw [← f3]; exact hD1) (fun k hk => hD2 _ (by rw [f3]; intro e; exact hk (congrArg Addr.off e))) (by omega), ← h.sum, hst]
  · show (s.done.set (f.num - 1) (wrap64 (s.done.getD (f.num - 1) 0 + 1))).getD i 0 = _
    by_cases e : i = f.num - 1
    · subst e
      rw [h.of _ hi, ← f3, hD1, hw]
      simp [List.getD, List.getElem?_set_self (show f.num - 1 < s.done.length by rw [h.len]; exact hi)]
    · have hne : (⟨G, i, none⟩ : Addr) ≠ f.cnt := by rw [f3]; intro e2; exact e (congrArg Addr.off e2)
      rw [hD2 _ hne, ← h.of i hi]
      simp [List.getD, List.getElem?_set_ne (fun e2 => e e2.symm)]
  · by_cases e : i = f.num - 1
    · by_cases hlt : 1 < f.left
      · left
        refine ⟨less f.num f, ?_, by rw [less_num]; omega⟩
        unfold Sc.adv
        simp only [hlt, if_true]
        exact List.mem_map_of_mem hf
      · right
        rw [e, ← f3, hD1]
        omega
    · have hne : (⟨G, i, none⟩ : Addr) ≠ f.cnt := by rw [f3]; intro e2; exact e (congrArg Addr.off e2)
      rw [hD2 _ hne]
      rcases h.fin i hi with ⟨x, hx, hxn⟩ | h1
      · left
        unfold Sc.adv
        simp only
        split
        · exact ⟨less f.num x, List.mem_map_of_mem hx, by rw [less_num]; exact hxn⟩
        · exact ⟨x, List.mem_filter.2 ⟨hx, by simp; omega⟩, hxn⟩
      · exact .inr h1
  · unfold Sc.adv
    simp only
    split
    · exact h.nd
    · rw [List.nodup_append]
      refine ⟨h.nd, by simp, fun a ha b hb e => ?_⟩
      simp at hb
      subst e
      exact (h.bx a ha).2.2 f hf hb.symm
  · have hn' : n ∈ s.box ∨ (n = f.num ∧ ¬ 1 < f.left) := by
      unfold Sc.adv at hn
      simp only at hn
      split at hn
      · exact .inl hn
      · rename_i hlt
        rcases List.mem_append.1 hn with h1 | h1
        · exact .inl h1
        · simp at h1
          exact .inr ⟨h1, hlt⟩
    rcases hn' with h1 | ⟨h1, h2⟩
    · have hb := h.bx n h1
      refine ⟨hb.1, hb.2.1, fun x hx => ?_⟩
      rcases hmem x hx with ⟨e1, -⟩ | ⟨-, e2⟩
      · rw [e1]; exact hb.2.2 f hf
      · exact hb.2.2 x e2
    · subst h1
      refine ⟨f1, f2, fun x hx => ?_⟩
      rcases hmem x hx with ⟨-, -, -, e4⟩ | ⟨e1, -⟩
      · exact absurd e4 h2
      · exact e1
  · have ht := h.tot
    have hfo := filter_one h.rs hf
    unfold Sc.adv
    simp only
    split
    · simpa using ht
    · simp
      omega
  · rcases hmem x hx with ⟨e1, e2, -⟩ | h1
    · exact .inl ⟨e1, e2⟩
    · exact .inr h1

theorem advs_room (l : List Nat) : ∀ s : Sc, (s.advs l).room = s.room := by
  induction l with
  | nil => intro s; rfl
  | cons x r ih =>
    intro s
    refine (ih (s.advN x)).trans ?_
    unfold Sc.advN
    split <;> rfl

/-- Part of a round. -/
theorem Pf.advs {G m : Nat} {K : Nat → Int} {s : Sc} (h : Pf G m K s) (hm : m ≤ 60) (hK : ∀ i, K i ≤ 20) {r : Int} (hr : ∀ f ∈ s.fl, f.left ≤ r + 1) : ∀ (l : List Nat), l.Nodup → (∀ x ∈ l, ∃ f ∈ s.fl, f.num = x) →
    Pf G m K (s.advs l) ∧ (s.advs l).steps = s.steps + (l.length : Nat) ∧ (∀ f ∈ (s.advs l).fl, f.left ≤ r + 1 ∧ (f.num ∈ l → f.left ≤ r)) := by
  intro l'
  obtain ⟨n, hn⟩ : ∃ n, l'.length = n := ⟨_, rfl⟩
  induction n generalizing l' with
  | zero =>
    obtain rfl := List.eq_nil_of_length_eq_zero hn
    intro _ _
    exact ⟨h, by simp [Sc.advs], fun f hf => ⟨hr f hf, fun hn => by cases hn⟩⟩
  | succ n ih0 =>
    obtain ⟨l, x, rfl⟩ : ∃ l x, l' = l ++ [x] := by
      rcases List.eq_nil_or_concat l' with rfl | ⟨l, x, rfl⟩
      · cases hn
      · exact ⟨l, x, by simp⟩
    have ih := ih0 l (by simp at hn; omega)
    intro hnd hal
    rw [List.nodup_append] at hnd
    obtain ⟨i1, i2, i3⟩ := ih hnd.1 (fun y hy => hal y (List.mem_append_left _ hy))
    obtain ⟨f, hf, hfx⟩ := hal x (by simp)
    have hxl : x ∉ l := fun hx => hnd.2.2 x hx x (by simp) rfl
    have hfat : fat (s.advs l).fl (x : Int) = some f := by
      rw [fat_advs_ne l (fun y hy e => hxl (by have : x = y := by omega
                                               exact this ▸ hy)) s, ← hfx]
      exact fat_of_mem h.rs hf
    rw [Sc.advs_snoc, Sc.advN_some hfat]
    obtain ⟨j1, j2, j3⟩ := i1.adv hm hK (fat_mem hfat).1
    have hfl := i3 f (fat_mem hfat).1
    refine ⟨j1, by rw [j2, i2]; simp; omega, fun y hy => ?_⟩
    rcases j3 y hy with ⟨e1, e2⟩ | ⟨e1, e2⟩
    · rw [e2]
      exact ⟨by omega, fun _ => by omega⟩
    · have hy3 := i3 y e2
      refine ⟨hy3.1, fun hn => hy3.2 ?_⟩
      rcases List.mem_append.1 hn with h1 | h1
      · exact h1
      · simp at h1
        exact absurd (h1.trans hfx.symm) e1

/-- Rounds finish all. -/
theorem fair {G m : Nat} {K : Nat → Int} (hm : m ≤ 60) (hK : ∀ i, K i ≤ 20) : ∀ (r : Nat) (s : Sc), Pf G m K s → s.rest → (∀ f ∈ s.fl, f.left ≤ (r : Int)) → ∀ B, m * r ≤ B → ∃ d s', Runs B s d s' ∧ s'.fl = [] ∧ Pf G m K s' ∧ s'.rest ∧ s'.steps = s.steps + (d : Nat) ∧ s'.room = s.room
  | 0, s, h, hr, hl, B, hB => by
    have : s.fl = [] := by
      cases hfl : s.fl with
      | nil => rfl
      | cons f r =>
        have hf : f ∈ s.fl := by rw [hfl]; simp
        have h1 := hl f hf
        have h2 := (h.fib f hf).2.2.2.1
        omega
    exact ⟨0, s, Runs.stop (.inr this), this, h, hr, by simp, rfl⟩
  | r + 1, s, h, hr, hl, B, hB => by
    by_cases hfl : s.fl = []
    · exact ⟨0, s, Runs.stop (.inr hfl), hfl, h, hr, by simp, rfl⟩
    · have hal : s.al.length = s.fl.length := by rw [hr, List.length_map]
      have hpos : 0 < s.fl.length := List.length_pos_iff.2 hfl
      have hle : s.al.length ≤ m := by have := h.tot; omega
      have hmul : m * (r + 1) = m * r + m := Nat.mul_succ m r
      have hk : s.al.length = min s.al.length B := by omega
      have hnd : s.al.Nodup := by rw [hr]; exact h.rs.imp (fun h => by omega)
      obtain ⟨i1, i2, i3⟩ := h.advs hm hK (r := (r : Int)) (fun f hf => by have := hl f hf; omega) s.al hnd (fun x hx => by
        rw [hr] at hx
        obtain ⟨f, hf, e⟩ := List.mem_map.1 hx
        exact ⟨f, hf, e⟩)
      have hround : s.round s.al.length = (s.advs s.al).struck := by unfold Sc.round; rw [List.take_of_length_le (Nat.le_refl _)]
      have hPr : Pf G m K (s.round s.al.length) := by
        rw [hround]
        exact ⟨i1.len, i1.rs, i1.fib, i1.cnt, i1.sum, i1.of, i1.fin, i1.nd, i1.bx, i1.tot⟩
      have hlr : ∀ f ∈ (s.round s.al.length).fl, f.left ≤ (r : Int) := by
        rw [hround]
        intro f hf
        have hf' : f ∈ (s.advs s.al).fl := hf
        refine (i3 f hf').2 ?_
        rw [hr]
        exact (advs_nums s.al s).subset (List.mem_map_of_mem hf')
      have hroom : (s.round s.al.length).room = s.room := by rw [hround]; exact advs_room s.al s
      obtain ⟨d, s', h1, h2, h3, h4, h5, h6⟩ := fair hm hK r (s.round s.al.length) hPr rfl hlr (B - s.al.length) (by omega)
      refine ⟨s.al.length + d, s', Runs.more (by omega) hfl hk h1, h2, h3, h4, ?_, h6.trans hroom⟩
      rw [h5, hround]
      show (s.advs s.al).steps + _ = _
      rw [i2]
      simp
      omega
end Go.Proofs.Ytnjokhdedgdjjaa
