/- The fibers of two laws: what they count. -/
import Derived.Test.YtnjokhdedgdjjaaSdQ
import Derived.Test.YtnjokhdedgdjjaaSdOpen
namespace Go.Proofs.Ytnjokhdedgdjjaa
open Go.ChangeShapes Go.WideShapes Go.ChangeAt Go.RowKit
open Go.ChangeMaps (open_string shut_string)
set_option linter.unusedVariables false
set_option maxRecDepth 100000

/-- What the counters say together. -/
def sumD (D : Addr → Int) (G : Nat) : Nat → Int
  | 0 => 0
  | n + 1 => sumD D G n + D ⟨G, n, none⟩

theorem sumD_out {D D' : Addr → Int} {G : Nat} : ∀ {n : Nat}, (∀ i, i < n → D' ⟨G, i, none⟩ = D ⟨G, i, none⟩) → sumD D' G n = sumD D G n
  | 0, _ => rfl
  | n + 1, h => by simp only [sumD]; rw [sumD_out fun i hi => h i (by omega), h n (by omega)]
theorem sumD_in {D D' : Addr → Int} {G i : Nat} (hi : D' ⟨G, i, none⟩ = D ⟨G, i, none⟩ + 1) (ho : ∀ j, j ≠ i → D' ⟨G, j, none⟩ = D ⟨G, j, none⟩) : ∀ {n : Nat}, i < n → sumD D' G n = sumD D G n + 1
  | 0, h => by omega
  | n + 1, h => by
    simp only [sumD]
    by_cases e : i = n
    · subst e
      rw [sumD_out fun j hj => ho j (by omega), hi]
      omega
    · rw [sumD_in hi ho (show i < n by omega), ho n (fun e' => e e'.symm)]
      omega
theorem sumD_le {D : Addr → Int} {G : Nat} : ∀ {n : Nat}, (∀ i, i < n → 0 ≤ D ⟨G, i, none⟩ ∧ D ⟨G, i, none⟩ ≤ 20) → 0 ≤ sumD D G n ∧ sumD D G n ≤ 20 * n
  | 0, _ => by simp [sumD]
  | n + 1, h => by
    have h1 := sumD_le (D := D) (G := G) (n := n) fun i hi => h i (by omega)
    have h2 := h n (by omega)
    simp only [sumD]
    omega

/-- The fibers of the law: each counts at its own place, and has what it has not counted left. -/
structure Pk (G m j : Nat) (K : Nat → Int) (s : Sc) : Prop where
  rest : s.rest
  room : s.room = 4096
  len : s.done.length = j
  fib : ∀ f ∈ s.fl, 1 ≤ f.num ∧ f.num ≤ j ∧ f.cnt = ⟨G, f.num - 1, none⟩ ∧ 1 ≤ f.left ∧ f.left + s.D f.cnt = K (f.num - 1)
  cnt : ∀ i, i < m → 0 ≤ s.D ⟨G, i, none⟩ ∧ s.D ⟨G, i, none⟩ ≤ K i
  sum : s.steps = sumD s.D G m
  fit : s.fl.length + s.box.length ≤ j

/-- All that were spawned are alive. -/
def Sc.all (s : Sc) (j : Nat) : Prop := ∀ i, 1 ≤ i → i ≤ j → ∃ f ∈ s.fl, f.num = i

theorem Pk.spawn {G m j : Nat} {K : Nat → Int} {s : Sc} (h : Pk G m j K s) (ha : s.all j) (hj : j < m) {fb : Nat} (hz : s.D ⟨G, j, none⟩ = 0) (hK : 1 ≤ K j) : Pk G m (j + 1) K (s.spawned fb (K j) ⟨G, j, none⟩) ∧ (s.spawned fb (K j) ⟨G, j, none⟩).all (j + 1) := by
  refine ⟨⟨?_, h.room, by simp [Sc.spawned, h.len], fun f hf => ?_, h.cnt, h.sum, ?_⟩, fun i h1 h2 => ?_⟩
  · simp [Sc.rest, Sc.spawned]
    exact h.rest
  · simp only [Sc.spawned] at hf
    rcases List.mem_append.1 hf with h1 | h1
    · have := h.fib f h1
      exact ⟨this.1, by omega, this.2.2⟩
    · simp at h1
      subst h1
      simp only [h.len]
      refine ⟨by omega, by omega, by simp, hK, ?_⟩
      simp [Sc.spawned, hz]
  · have := h.fit
    simp [Sc.spawned]
    omega
  · by_cases e : i = j + 1
    · exact ⟨⟨s.done.length + 1, fb, K j, ⟨G, j, none⟩⟩, List.mem_append_right _ (by simp), by simp [h.len, e]⟩
    · obtain ⟨f, hf, e2⟩ := ha i h1 (by omega)
      exact ⟨f, List.mem_append_left _ hf, e2⟩

theorem Pk.small {G m j : Nat} {K : Nat → Int} {s : Sc} (h : Pk G m j K s) (hj : j ≤ m) (hK : ∀ i, K i ≤ 20) : s.small := fun f hf => by
  have h1 := h.fib f hf
  have h2 := h.cnt (f.num - 1) (by omega)
  have h3 := hK (f.num - 1)
  rw [← h1.2.2.1] at h2
  omega

theorem step_D (s : Sc) (f : Fb) (a : Addr) : (s.step f).D a = if a = f.cnt then wrap64 (s.D f.cnt + 1) else s.D a := rfl

theorem Pk.step {G m j : Nat} {K : Nat → Int} {s : Sc} (h : Pk G m j K s) (hj : j ≤ m) (hm : m ≤ 60) (hK : ∀ i, K i ≤ 20) {f : Fb} (hf : f ∈ s.fl) (hr : (s.fl.map Fb.num).Pairwise (· < ·)) : Pk G m j K (s.step f) ∧ (s.step f).D f.cnt = s.D f.cnt + 1 := by
  obtain ⟨f1, f2, f3, f4, f5⟩ := h.fib f hf
  have hc := h.cnt (f.num - 1) (by omega)
  rw [← f3] at hc
  have hk := hK (f.num - 1)
  have hw : wrap64 (s.D f.cnt + 1) = s.D f.cnt + 1 := by unfold wrap64; omega
  have hD1 : (s.step f).D f.cnt = s.D f.cnt + 1 := by rw [step_D, if_pos rfl, hw]
  have hD2 : ∀ a, a ≠ f.cnt → (s.step f).D a = s.D a := fun a ha => by rw [step_D, if_neg ha]
  have hs := sumD_le (D := s.D) (G := G) (n := m) fun i hi => ⟨(h.cnt i hi).1, Int.le_trans (h.cnt i hi).2 (hK i)⟩
  refine ⟨⟨rfl, h.room, ?_, fun x hx => ?_, fun i hi => ?_, ?_, ?_⟩, hD1⟩
  · show (s.adv f).done.length = j
    rw [adv_len]
    exact h.len
  · have hx' : x ∈ (s.adv f).fl := hx
    unfold Sc.adv at hx'
    simp only at hx'
    split at hx'
    · rename_i hlt
      obtain ⟨y, hy, rfl⟩ := List.mem_map.1 hx'
      have hyf := h.fib y hy
      rw [less_num, less_cnt]
      refine ⟨hyf.1, hyf.2.1, hyf.2.2.1, ?_⟩
      by_cases e : y.num = f.num
      · obtain rfl := rising_num hr hf hy e
        rw [hD1]
        unfold less
        rw [if_pos rfl]
        show 1 ≤ y.left - 1 ∧ y.left - 1 + (s.D y.cnt + 1) = _
        omega
      · have hne : y.cnt ≠ f.cnt := by
          rw [hyf.2.2.1, f3]
          intro e2
          have e3 : y.num - 1 = f.num - 1 := congrArg Addr.off e2
          omega
        rw [hD2 _ hne]
        unfold less
        rw [if_neg e]
        exact hyf.2.2.2
    · have hxf := List.mem_filter.1 hx'
      have hyf := h.fib x hxf.1
      have hnn : x.num ≠ f.num := by simpa using hxf.2
      have hne : x.cnt ≠ f.cnt := by
        rw [hyf.2.2.1, f3]
        intro e2
        have e3 : x.num - 1 = f.num - 1 := congrArg Addr.off e2
        omega
      rw [hD2 _ hne]
      exact hyf
  · by_cases e : (⟨G, i, none⟩ : Addr) = f.cnt
    · rw [e, hD1]
      have e3 : i = f.num - 1 := by
        rw [f3] at e
        exact congrArg Addr.off e
      rw [e3]
      omega
    · rw [hD2 _ e]
      exact h.cnt i hi
  · show wrap64 (s.steps + 1) = _
    rw [sumD_in (i := f.num - 1) (D := s.D) (by rw [← f3]; exact hD1) (fun k hk => hD2 _ (by rw [f3]; intro e; exact hk (congrArg Addr.off e))) (by omega), ← h.sum]
    rw [h.sum]
    unfold wrap64
    omega
  · have := h.fit
    show (s.adv f).fl.length + (s.adv f).box.length ≤ j
    unfold Sc.adv
    simp only
    split
    · simpa using this
    · have := filter_short hf
      simp
      omega

theorem Pk.drop {G m j : Nat} {K : Nat → Int} {s : Sc} (h : Pk G m j K s) (n : Nat) : Pk G m j K (s.dropped n) where
  rest := rfl
  room := h.room
  len := h.len
  fib := fun f hf => h.fib f (List.mem_filter.1 hf).1
  cnt := h.cnt
  sum := h.sum
  fit := by
    have := h.fit
    have := List.length_filter_le (fun x : Fb => x.num != n) s.fl
    show (s.fl.filter fun x => x.num != n).length + s.box.length ≤ j
    omega

end Go.Proofs.Ytnjokhdedgdjjaa
