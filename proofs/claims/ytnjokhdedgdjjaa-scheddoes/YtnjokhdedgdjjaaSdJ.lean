/- Schedulers: many steps, one behind the other: plain data. -/
import Derived.Test.YtnjokhdedgdjjaaSdH
namespace Go.Proofs.Ytnjokhdedgdjjaa
open Go.RowKit Go.Maps
set_option linter.unusedVariables false
set_option maxRecDepth 100000

/-- The fiber of a number does a step, if it is alive. -/
def Sc.advN (s : Sc) (n : Nat) : Sc := match fat s.fl (n : Int) with
  | some f => s.adv f
  | none => s
def Sc.advs (s : Sc) (l : List Nat) : Sc := l.foldl Sc.advN s

theorem Sc.advs_snoc (s : Sc) (l : List Nat) (x : Nat) : s.advs (l ++ [x]) = (s.advs l).advN x := by simp [Sc.advs]
theorem Sc.advN_some {s : Sc} {n : Nat} {f : Fb} (h : fat s.fl (n : Int) = some f) : s.advN n = s.adv f := by unfold Sc.advN; rw [h]

theorem adv_al (s : Sc) (f : Fb) : (s.adv f).al = s.al := rfl
theorem adv_len (s : Sc) (f : Fb) : (s.adv f).done.length = s.done.length := by simp [Sc.adv]
theorem advN_al (s : Sc) (n : Nat) : (s.advN n).al = s.al := by unfold Sc.advN; split <;> rfl
theorem advN_len (s : Sc) (n : Nat) : (s.advN n).done.length = s.done.length := by unfold Sc.advN; split; exact adv_len _ _; rfl
theorem advs_al (l : List Nat) : ∀ s : Sc, (s.advs l).al = s.al := by
  induction l with
  | nil => intro s; rfl
  | cons x r ih => intro s; exact (ih (s.advN x)).trans (advN_al s x)
theorem advs_len (l : List Nat) : ∀ s : Sc, (s.advs l).done.length = s.done.length := by
  induction l with
  | nil => intro s; rfl
  | cons x r ih => intro s; exact (ih (s.advN x)).trans (advN_len s x)

theorem fat_less (fl : List Fb) (m : Nat) (q : Int) : fat (fl.map (less m)) q = (fat fl q).map (less m) := by
  unfold fat
  rw [List.find?_map]
  have : ((fun f : Fb => ((f.num : Int) == q)) ∘ less m) = fun f => ((f.num : Int) == q) := by funext f; simp [less_num]
  rw [this]

theorem fat_filter_ne (fl : List Fb) {m : Nat} {q : Int} (h : q ≠ (m : Int)) : fat (fl.filter fun x => x.num != m) q = fat fl q := by
  unfold fat
  rw [List.find?_filter]
  have : (fun a : Fb => decide ((a.num != m) = true ∧ ((a.num : Int) == q) = true)) = fun a => ((a.num : Int) == q) := by
    funext f
    rw [Bool.eq_iff_iff]
    simp
    omega
  rw [this]
theorem fat_filter_eq (fl : List Fb) (m : Nat) : fat (fl.filter fun x => x.num != m) (m : Int) = none := by
  rw [fat_none]
  intro f hf
  have := (List.mem_filter.1 hf).2
  simp at this
  omega

theorem fat_adv_ne (s : Sc) (f : Fb) {q : Int} (h : q ≠ (f.num : Int)) : fat (s.adv f).fl q = fat s.fl q := by
  unfold Sc.adv
  simp only
  split
  · rw [fat_less]
    cases hq : fat s.fl q with
    | none => rfl
    | some x =>
      have := (fat_mem hq).2
      simp only [Option.map_some, less]
      rw [if_neg (by omega)]
  · exact fat_filter_ne _ h

theorem fat_advN_ne (s : Sc) {n : Nat} {q : Int} (h : q ≠ (n : Int)) : fat (s.advN n).fl q = fat s.fl q := by
  unfold Sc.advN
  split
  · rename_i f hf
    exact fat_adv_ne s f (by rw [(fat_mem hf).2]; exact h)
  · rfl

theorem fat_advs_ne (l : List Nat) {q : Int} (h : ∀ x ∈ l, q ≠ ((x : Nat) : Int)) : ∀ s : Sc, fat (s.advs l).fl q = fat s.fl q := by
  induction l with
  | nil => intro s; rfl
  | cons x r ih => intro s; exact (ih (fun y hy => h y (List.mem_cons_of_mem _ hy)) (s.advN x)).trans (fat_advN_ne s (h x (by simp)))

theorem adv_nums (s : Sc) (f : Fb) : ((s.adv f).fl.map Fb.num).Sublist (s.fl.map Fb.num) := by
  unfold Sc.adv
  simp only
  split
  · rw [less_nums]
    exact List.Sublist.refl _
  · exact (List.filter_sublist).map _
theorem advN_nums (s : Sc) (n : Nat) : ((s.advN n).fl.map Fb.num).Sublist (s.fl.map Fb.num) := by
  unfold Sc.advN
  split
  · exact adv_nums _ _
  · exact List.Sublist.refl _
theorem advs_nums (l : List Nat) : ∀ s : Sc, ((s.advs l).fl.map Fb.num).Sublist (s.fl.map Fb.num) := by
  induction l with
  | nil => intro s; exact List.Sublist.refl _
  | cons x r ih => intro s; exact (ih (s.advN x)).trans (advN_nums s x)

/-- What is left is an int. -/
def Sc.small (s : Sc) : Prop := ∀ f ∈ s.fl, f.left ≤ 9223372036854775807
theorem adv_small {s : Sc} (h : s.small) (f : Fb) : (s.adv f).small := by
  intro x hx
  unfold Sc.adv at hx
  simp only at hx
  split at hx
  · obtain ⟨y, hy, rfl⟩ := List.mem_map.1 hx
    have := h y hy
    unfold less
    split
    · show y.left - 1 ≤ _; omega
    · exact this
  · exact h x (List.mem_filter.1 hx).1
theorem advN_small {s : Sc} (h : s.small) (n : Nat) : (s.advN n).small := by
  unfold Sc.advN
  split
  · exact adv_small h _
  · exact h
theorem advs_small (l : List Nat) : ∀ {s : Sc}, s.small → (s.advs l).small := by
  induction l with
  | nil => intro s h; exact h
  | cons x r ih => intro s h; exact ih (advN_small h x)

theorem filter_sub : ∀ {l l' : List Nat}, l'.Sublist l → l.Nodup → (l.filter fun x => decide (x ∈ l')) = l' := by
  intro l l' h
  induction h with
  | slnil => intro _; rfl
  | @cons l1 l2 a hs ih =>
    intro hn
    rw [List.nodup_cons] at hn
    have : a ∉ l1 := fun hm => hn.1 (hs.subset hm)
    rw [List.filter_cons_of_neg (by simpa using this)]
    exact ih hn.2
  | @cons_cons l1 l2 a hs ih =>
    intro hn
    rw [List.nodup_cons] at hn
    rw [List.filter_cons_of_pos (by simp)]
    congr 1
    have : (l2.filter fun x => decide (x ∈ a :: l1)) = l2.filter fun x => decide (x ∈ l1) := by
      refine List.filter_congr fun x hx => ?_
      have : x ≠ a := fun e => hn.1 (e ▸ hx)
      simp [this]
    rw [this]
    exact ih hn.2

theorem fat_isSome {fl : List Fb} (x : Nat) : (fat fl (x : Int)).isSome = decide (x ∈ fl.map Fb.num) := by
  rw [Bool.eq_iff_iff]
  simp only [decide_eq_true_eq, List.mem_map]
  constructor
  · intro h
    obtain ⟨f, hf⟩ := Option.isSome_iff_exists.1 h
    exact ⟨f, (fat_mem hf).1, by have := (fat_mem hf).2; omega⟩
  · rintro ⟨f, hf, rfl⟩
    cases h : fat fl (f.num : Int) with
    | none => exact absurd rfl (fat_none.1 h f hf)
    | some g => rfl

theorem struck_cut {s : Sc} (hr : s.al.Nodup) (hs : (s.fl.map Fb.num).Sublist s.al) : (s.al.filter fun (x : Nat) => (fat s.fl (x : Int)).isSome) = s.fl.map Fb.num := by
  rw [← filter_sub hs hr]
  congr 1
  funext x
  exact fat_isSome x

end Go.Proofs.Ytnjokhdedgdjjaa
