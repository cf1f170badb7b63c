/- Schedulers: who is alive, as a map by numbers. -/
import Derived.Test.YtnjokhdedgdjjaaSdM
namespace Go.Proofs.Ytnjokhdedgdjjaa
open Go.RowKit Go.Maps
set_option linter.unusedVariables false
set_option maxRecDepth 100000

/-- The fiber of that number. -/
def fat (fl : List Fb) (q : Int) : Option Fb := fl.find? fun f => (f.num : Int) == q

theorem fat_nat (fl : List Fb) (i : Nat) : fat fl (i : Int) = fl.find? fun f => f.num == i := by
  unfold fat
  congr 1
  funext f
  rw [Bool.eq_iff_iff]
  simp only [beq_iff_eq]
  omega
theorem fmap_fat (fl : List Fb) (i : Nat) : fmap fl i = (fat fl (i : Int)).map Fb.blk := by rw [fat_nat]; rfl

theorem fat_mem {fl : List Fb} {q : Int} {f : Fb} (h : fat fl q = some f) : f ∈ fl ∧ (f.num : Int) = q := by
  refine ⟨List.mem_of_find?_eq_some h, ?_⟩
  have := List.find?_some h
  simpa using this

theorem fat_of_mem {fl : List Fb} (hr : (fl.map Fb.num).Pairwise (· < ·)) {f : Fb} (hf : f ∈ fl) : fat fl (f.num : Int) = some f := by
  rw [fat_nat]
  induction fl with
  | nil => cases hf
  | cons x r ih =>
    simp only [List.map_cons, List.pairwise_cons] at hr
    rcases List.mem_cons.1 hf with rfl | hm
    · simp
    · have : x.num < f.num := hr.1 _ (List.mem_map_of_mem hm)
      rw [List.find?_cons_of_neg (by simp; omega)]
      exact ih hr.2 hm

theorem fat_none {fl : List Fb} {q : Int} : fat fl q = none ↔ ∀ f ∈ fl, (f.num : Int) ≠ q := by
  unfold fat
  rw [List.find?_eq_none]
  simp

theorem getI_fat (fl : List Fb) (N : Nat) (hN : ∀ f ∈ fl, f.num < N) (q : Int) : getI (fsome fl) N q = (fat fl q).map fun f => some f.blk := by
  unfold getI
  split
  · rename_i h
    obtain ⟨i, rfl⟩ : ∃ i : Nat, q = (i : Int) := ⟨q.toNat, by omega⟩
    simp [fsome, fmap_fat]
    rfl
  · rename_i h
    cases hf : fat fl q with
    | none => rfl
    | some f =>
      obtain ⟨h1, h2⟩ := fat_mem hf
      have := hN f h1
      omega

theorem filterMap_congr' {α β : Type} {f g : α → Option β} : ∀ (l : List α), (∀ a ∈ l, f a = g a) → l.filterMap f = l.filterMap g
  | [], _ => rfl
  | a :: r, h => by
    have h1 := h a (by simp)
    have h2 := filterMap_congr' r fun x hx => h x (by simp [hx])
    simp only [List.filterMap_cons, h1, h2]

theorem ents_len (N : Nat) : ∀ (fl : List Fb), (fl.map Fb.num).Pairwise (· < ·) → (∀ f ∈ fl, f.num < N) → (ents (fsome fl) N).length = fl.length := by
  induction N with
  | zero =>
    intro fl _ h
    cases fl with
    | nil => rfl
    | cons x r => have := h x (by simp); omega
  | succ N ih =>
    intro fl hr h
    have hsplit : ents (fsome fl) (N + 1) = ents (fsome fl) N ++ (((fsome fl) N).map fun x => (Lit.int .i64 (N : Int), DataW.held x)).toList := by
      unfold ents
      rw [List.range_succ, List.filterMap_append]
      congr 1
    rw [hsplit, List.length_append]
    rcases List.eq_nil_or_concat fl with rfl | ⟨r, x, rfl⟩
    · have : ents (fsome []) N = [] := by
        have := ih [] (by simp) (by simp)
        exact List.eq_nil_of_length_eq_zero (by simpa using this)
      rw [this]
      simp [fsome, fmap]
    · simp only [List.concat_eq_append] at *
      rw [List.map_append, List.pairwise_append] at hr
      have hx := h x (by simp)
      have hlt : ∀ f ∈ r, f.num < x.num := fun f hf => hr.2.2 _ (List.mem_map_of_mem hf) _ (by simp)
      by_cases hxN : x.num = N
      · have e1 : ents (fsome (r ++ [x])) N = ents (fsome r) N := by
          unfold ents
          refine filterMap_congr' _ fun i hi => ?_
          have hi' : i < N := by simpa using hi
          have : fsome (r ++ [x]) i = fsome r i := by
            unfold fsome fmap
            rw [List.find?_append]
            have : ([x] : List Fb).find? (fun f => f.num == i) = none := by simp; omega
            rw [this]
            simp
          rw [this]
        rw [e1, ih r hr.1 (fun f hf => by have := hlt f hf; omega)]
        have e2 : fsome (r ++ [x]) N = some (some x.blk) := by
          unfold fsome fmap
          rw [List.find?_append]
          have : r.find? (fun f => f.num == N) = none := by
            rw [List.find?_eq_none]
            intro f hf
            have := hlt f hf
            simp
            omega
          rw [this]
          simp [hxN]
        rw [e2]
        simp
      · have hall : ∀ f ∈ r ++ [x], f.num < N := by
          intro f hf
          rcases List.mem_append.1 hf with h1 | h1
          · have := hlt f h1; omega
          · simp at h1; subst h1; omega
        rw [ih (r ++ [x]) (by rw [List.map_append, List.pairwise_append]; exact hr) hall]
        have e2 : fsome (r ++ [x]) N = none := by
          unfold fsome fmap
          have : (r ++ [x]).find? (fun f => f.num == N) = none := by
            rw [List.find?_eq_none]
            intro f hf
            have := hall f hf
            simp
            omega
          rw [this]
          rfl
        rw [e2]
        simp

theorem fsome_app {fl : List Fb} {f : Fb} (h : ∀ x ∈ fl, x.num ≠ f.num) : fsome (fl ++ [f]) = upd (fsome fl) f.num (some f.blk) := by
  funext i
  unfold upd fsome fmap
  rw [List.find?_append]
  split
  · rename_i hi
    subst hi
    have : fl.find? (fun x => x.num == f.num) = none := by
      rw [List.find?_eq_none]
      intro x hx
      simpa using h x hx
    rw [this]
    simp
  · rename_i hi
    have : ([f] : List Fb).find? (fun x => x.num == i) = none := by simp; omega
    rw [this]
    simp

theorem fsome_rid (fl : List Fb) (n : Nat) : fsome (fl.filter fun f => f.num != n) = rid (fsome fl) (n : Int) := by
  funext i
  unfold rid fsome fmap
  split
  · rename_i hi
    have hi' : i = n := by omega
    subst hi'
    have : (fl.filter fun f => f.num != i).find? (fun x => x.num == i) = none := by
      rw [List.find?_eq_none]
      intro x hx
      have := (List.mem_filter.1 hx).2
      simpa using this
    rw [this]
    rfl
  · rename_i hi
    rw [List.find?_filter]
    have : (fun a : Fb => decide ((a.num != n) = true ∧ (a.num == i) = true)) = fun a => a.num == i := by
      funext f
      rw [Bool.eq_iff_iff]
      simp
      omega
    rw [this]

/-- With another left. -/
def less (n : Nat) (f : Fb) : Fb := if f.num = n then { f with left := f.left - 1 } else f
theorem less_num (n : Nat) (f : Fb) : (less n f).num = f.num := by unfold less; split <;> rfl
theorem less_blk (n : Nat) (f : Fb) : (less n f).blk = f.blk := by unfold less; split <;> rfl
theorem less_cnt (n : Nat) (f : Fb) : (less n f).cnt = f.cnt := by unfold less; split <;> rfl
theorem less_nums (n : Nat) (fl : List Fb) : (fl.map (less n)).map Fb.num = fl.map Fb.num := by rw [List.map_map]; exact List.map_congr_left fun f _ => less_num n f
theorem less_blks (n : Nat) (fl : List Fb) : (fl.map (less n)).map Fb.blk = fl.map Fb.blk := by rw [List.map_map]; exact List.map_congr_left fun f _ => less_blk n f
theorem fsome_less (n : Nat) (fl : List Fb) : fsome (fl.map (less n)) = fsome fl := by
  funext i
  unfold fsome fmap
  rw [List.find?_map]
  have : ((fun f : Fb => f.num == i) ∘ less n) = fun f => f.num == i := by funext f; simp [less_num]
  rw [this]
  cases fl.find? (fun f => f.num == i) with
  | none => rfl
  | some f => simp [less_blk]

/-- What a step of a fiber that is alive makes of the scheduler. -/
def Sc.adv (s : Sc) (f : Fb) : Sc :=
  { s with
    D := fun a => if a = f.cnt then wrap64 (s.D f.cnt + 1) else s.D a
    done := s.done.set (f.num - 1) (wrap64 (s.done.getD (f.num - 1) 0 + 1))
    steps := wrap64 (s.steps + 1)
    fl := if 1 < f.left then s.fl.map (less f.num) else s.fl.filter fun x => x.num != f.num
    box := if 1 < f.left then s.box else s.box ++ [f.num] }

end Go.Proofs.Ytnjokhdedgdjjaa
