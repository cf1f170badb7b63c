/- A map's list put again is the map; keys of what was written. -/
import Derived.Test.YtilabcolfabnmaaPrF
import Derived.Test.YtilabcolfabnmaaVsIn
namespace Go.Proofs.Ytilabcolfabnmaa
open Go.RowKit Go.Sort
set_option linter.unusedVariables false
set_option maxRecDepth 100000

theorem puts_other {key : List UInt8} : ∀ (m : List Pr) (G : Fm), (∀ x ∈ m, x.key.data.toList ≠ key) → Fm.puts G m key = G key
  | [], G, h => rfl
  | y :: r, G, h => by
    show Fm.puts (G.set y.key.data.toList y) r key = G key
    rw [puts_other r _ (fun x hx => h x (List.mem_cons_of_mem _ hx))]
    unfold Fm.set
    rw [if_neg (fun e => h y List.mem_cons_self e.symm)]
theorem puts_mem : ∀ (m : List Pr) (G : Fm), (m.Pairwise fun a b => a.key.data.toList ≠ b.key.data.toList) → ∀ x ∈ m, Fm.puts G m x.key.data.toList = some x
  | [], G, h, x, hx => by cases hx
  | y :: r, G, h, x, hx => by
    obtain ⟨h1, h2⟩ := List.pairwise_cons.1 h
    show Fm.puts (G.set y.key.data.toList y) r _ = some x
    rcases List.mem_cons.1 hx with rfl | hx
    · rw [puts_other r _ (fun z hz => (h1 z hz).symm)]
      unfold Fm.set
      rw [if_pos rfl]
    · exact puts_mem r _ h2 x hx
theorem ris_ne {m : List Pr} (h : Ris m) : m.Pairwise fun a b => a.key.data.toList ≠ b.key.data.toList := by
  refine List.Pairwise.imp ?_ h
  intro a b h1 e
  have h2 : a.key = b.key := by
    cases ha : a.key with | mk x => cases hb : b.key with | mk y =>
    rw [ha, hb] at e
    simp at e
    rw [e]
  rw [h2, Ky.lt_irrefl] at h1
  cases h1
theorem puts_is {F : Fm} (ho : F.Ok) {m : List Pr} (h : F.Is m) : Fm.puts (fun _ => none) m = F := by
  funext key
  cases hf : F key with
  | some x =>
    have hk := ho key x hf
    have hx : x ∈ m := (h.mem x).2 (by rw [hk]; exact hf)
    have := puts_mem m (fun _ => none) (ris_ne h.rise) x hx
    rw [hk] at this
    exact this
  | none =>
    refine puts_other m _ fun x hx e => ?_
    have := (h.mem x).1 hx
    rw [e, hf] at this
    cases this

/-- The keys of a map are short. -/
def Fm.Short (F : Fm) : Prop := ∀ k x, F k = some x → x.key.size ≤ 1048576
theorem Fm.Short.set {F : Fm} (h : F.Short) {k : List UInt8} {y : Pr} (hy : y.key.size ≤ 1048576) : (F.set k y).Short := by
  intro j x hx
  unfold Fm.set at hx
  split at hx
  · cases hx
    exact hy
  · exact h _ _ hx
theorem Fm.Short.writes {F : Fm} (h : F.Short) : ∀ {l : List Wt}, (∀ y ∈ l, y.key.size ≤ 1048576) → (F.writes l).Short
  | [], _ => h
  | y :: r, hl => by
    have h1 : (F.doW y).Short := by
      intro j x hx
      unfold Fm.doW at hx
      split at hx
      · unfold Fm.rid at hx
        split at hx
        · cases hx
        · exact h _ _ hx
      · exact h.set (y := ⟨y.key, y.val⟩) (hl y List.mem_cons_self) j x hx
    exact Fm.Short.writes h1 (l := r) (fun z hz => hl z (List.mem_cons_of_mem _ hz))
theorem Fm.Short.commits {W : Cm → List Wt} : ∀ {l : List Cm} {F : Fm}, F.Short → (∀ x ∈ l, ∀ y ∈ W x, y.key.size ≤ 1048576) → (F.commits W l).Short
  | [], F, h, _ => h
  | x :: r, F, h, hl => Fm.Short.commits (l := r) (h.writes (hl x List.mem_cons_self)) (fun z hz => hl z (List.mem_cons_of_mem _ hz))
theorem Fm.Is.short {F : Fm} (hs : F.Short) {m : List Pr} (h : F.Is m) : ∀ x ∈ m, x.key.size ≤ 1048576 := fun x hx => hs _ _ ((h.mem x).1 hx)

/-- Of a row that rises strictly, what is up to one of it is the row up to it. -/
theorem keepC_rise {R : List Cm} (h : R.Pairwise fun x y => x.ts < y.ts) {j : Nat} {x : Cm} (hx : R[j]? = some x) : keepC x.ts R = R.take (j + 1) := by
  have hj := (List.getElem?_eq_some_iff.1 hx).1
  have e : R = R.take (j + 1) ++ R.drop (j + 1) := (List.take_append_drop _ _).symm
  have h1 : keepC x.ts (R.take (j + 1)) = R.take (j + 1) := by
    unfold keepC
    rw [List.filter_eq_self]
    intro y hy
    obtain ⟨t, ht, hy2⟩ : ∃ t, t < j + 1 ∧ R[t]? = some y := mem_take_at hy
    rcases Nat.lt_or_ge t j with hlt | hge
    · have h3 := (List.getElem?_eq_some_iff.1 hy2).1
      have := List.pairwise_iff_getElem.1 h t j h3 hj hlt
      rw [(List.getElem?_eq_some_iff.1 hy2).2, (List.getElem?_eq_some_iff.1 hx).2] at this
      simp
      omega
    · obtain rfl : t = j := by omega
      rw [hx] at hy2
      cases hy2
      simp
  have h2 : keepC x.ts (R.drop (j + 1)) = [] := by
    unfold keepC
    rw [List.filter_eq_nil_iff]
    intro y hy
    obtain ⟨t, ht, hy2⟩ : ∃ t, j + 1 ≤ t ∧ R[t]? = some y := mem_drop_at hy
    have h3 := (List.getElem?_eq_some_iff.1 hy2).1
    have := List.pairwise_iff_getElem.1 h j t hj h3 (by omega)
    rw [(List.getElem?_eq_some_iff.1 hy2).2, (List.getElem?_eq_some_iff.1 hx).2] at this
    simp
    omega
  conv => lhs; rw [e]
  unfold keepC at h1 h2 ⊢
  rw [List.filter_append, h1, h2, List.append_nil]
theorem rise_asc {R : List Cm} (h : R.Pairwise fun x y => x.ts < y.ts) (n : Nat) : Asc Cm.ts (R.take n) := (h.imp fun h => Int.le_of_lt h).sublist (List.take_sublist _ _)
end Go.Proofs.Ytilabcolfabnmaa
