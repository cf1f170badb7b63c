/- What a timestamp sees of versions is what the map of their commits has: as plain data. -/
import Derived.Test.YtilabcolfabnmaaPrF
import Derived.Test.YtilabcolfabnmaaVsPp
namespace Go.Proofs.Ytilabcolfabnmaa
open Go.RowKit Go.Sort
set_option linter.unusedVariables false
set_option maxRecDepth 100000

abbrev kk : ByteArray := ⟨#[107]⟩
/-- The writes of a version's commit. -/
def seeW (l : List Vs) (x : Cm) : List Wt := match l.find? (fun v => v.ts == x.ts) with
  | some v => [⟨kk, v.val, v.del⟩]
  | none => []

theorem seeW_of {l : List Vs} (hf : l.Pairwise fun x y => y.ts < x.ts) {v : Vs} (hv : v ∈ l) {x : Cm} (hx : v.ts = x.ts) : l.find? (fun v => v.ts == x.ts) = some v := by
  obtain ⟨v', hv'⟩ : ∃ v', l.find? (fun v => v.ts == x.ts) = some v' := by
    cases h : l.find? (fun v => v.ts == x.ts) with
    | some v' => exact ⟨v', rfl⟩
    | none =>
      rw [List.find?_eq_none] at h
      exact absurd (by simpa using hx) (h v hv)
  rw [hv']
  congr 1
  obtain ⟨h1, la, lb, rfl, h2⟩ := List.find?_eq_some_iff_append.1 hv'
  simp at h1
  rcases List.mem_append.1 hv with h | h
  · have := h2 v h
    simp [hx] at this
  · rcases List.mem_cons.1 h with rfl | h
    · rfl
    · have h3 := (List.pairwise_cons.1 (List.pairwise_append.1 hf).2.1).1 v h
      omega

theorem commits_other {l : List Vs} {j : List UInt8} (hj : j ≠ kk.data.toList) : ∀ (Z : List Cm) (F : Fm), F j = none → Fm.commits (seeW l) F Z j = none
  | [], F, h => h
  | x :: r, F, h => by
    show Fm.commits (seeW l) (F.writes (seeW l x)) r j = none
    refine commits_other hj r _ ?_
    unfold seeW
    split
    · show (Fm.doW F _) j = none
      unfold Fm.doW
      split
      · unfold Fm.rid
        split
        · rfl
        · exact h
      · unfold Fm.set
        split
        · rename_i e
          exact absurd e hj
        · exact h
    · exact h

theorem commits_snoc (W : Cm → List Wt) (F : Fm) (R : List Cm) (x : Cm) : Fm.commits W F (R ++ [x]) = (Fm.commits W F R).writes (W x) := by simp [Fm.commits]

theorem sees_fm {l : List Vs} (hf : l.Pairwise fun x y => y.ts < x.ts) {C Z : List Cm} {ts : Int} (hC : C.map Cm.ts = l.map Vs.ts) (hs : Sam Cm.ts (keepC ts C) Z) (ha : Asc Cm.ts Z) :
    Fm.commits (seeW l) (fun _ => none) Z = fun j => if j = kk.data.toList then (Vr.val? (Vr.at? l ts)).map (fun s => ⟨kk, s⟩) else none := by
  funext j
  by_cases hj : j = kk.data.toList
  · rw [if_pos hj]
    subst hj
    have memC : ∀ v ∈ l, ∃ c ∈ C, c.ts = v.ts := fun v hv => by
      have : v.ts ∈ C.map Cm.ts := by rw [hC]; exact List.mem_map_of_mem hv
      obtain ⟨c, h1, h2⟩ := List.mem_map.1 this
      exact ⟨c, h1, h2⟩
    rcases List.eq_nil_or_concat Z with rfl | ⟨R, x, rfl⟩
    · have hk := hs.nil
      have : Vr.at? l ts = none := by
        unfold Vr.at?
        rw [List.find?_eq_none]
        intro v hv hle
        obtain ⟨c, h1, h2⟩ := memC v hv
        have : c ∈ keepC ts C := List.mem_filter.2 ⟨h1, by rw [h2]; exact hle⟩
        rw [hk] at this
        cases this
      rw [this]
      rfl
    · rw [List.concat_eq_append] at hs ha ⊢
      have hxk : x ∈ keepC ts C := hs.symm.mem (by simp)
      obtain ⟨hxC, hxt⟩ := List.mem_filter.1 hxk
      have hxt' : x.ts ≤ ts := by simpa using hxt
      obtain ⟨v, hv, hvx⟩ : ∃ v ∈ l, v.ts = x.ts := by
        have : x.ts ∈ l.map Vs.ts := by rw [← hC]; exact List.mem_map_of_mem hxC
        obtain ⟨v, h1, h2⟩ := List.mem_map.1 this
        exact ⟨v, h1, h2⟩
      have hat : Vr.at? l ts = some v := by
        unfold Vr.at?
        obtain ⟨v', hv'⟩ : ∃ v', l.find? (fun v => decide (v.ts ≤ ts)) = some v' := by
          cases h : l.find? (fun v => decide (v.ts ≤ ts)) with
          | some v' => exact ⟨v', rfl⟩
          | none =>
            rw [List.find?_eq_none] at h
            exact absurd (by simp; omega) (h v hv)
        rw [hv']
        congr 1
        obtain ⟨h1, la, lb, e, h2⟩ := List.find?_eq_some_iff_append.1 hv'
        simp at h1
        have hv'l : v' ∈ l := by rw [e]; simp
        obtain ⟨c, hc1, hc2⟩ := memC v' hv'l
        have hcZ : c ∈ R ++ [x] := hs.mem (List.mem_filter.2 ⟨hc1, by simp; omega⟩)
        have hcx : c.ts ≤ x.ts := by
          rcases List.mem_append.1 hcZ with h | h
          · exact ha.cross c h x (by simp)
          · simp at h
            subst h
            exact Int.le_refl _
        subst e
        rcases List.mem_append.1 hv with h | h
        · have := h2 v h
          simp at this
          omega
        · rcases List.mem_cons.1 h with rfl | h
          · rfl
          · have h3 := (List.pairwise_cons.1 (List.pairwise_append.1 hf).2.1).1 v h
            omega
      rw [commits_snoc, hat]
      unfold seeW
      rw [seeW_of hf hv hvx]
      show Fm.doW _ _ _ = _
      obtain ⟨a, b, d⟩ := v
      cases d with
      | true => simp [Fm.doW, Fm.rid, Vr.val?]
      | false => simp [Fm.doW, Fm.set, Vr.val?]
  · rw [if_neg hj]
    exact commits_other hj Z _ rfl

/-- What the map's list then is. -/
def seeL (o : Option ByteArray) : List Pr := match o with
  | some s => [⟨kk, s⟩]
  | none => []
theorem sees_is {l : List Vs} (hf : l.Pairwise fun x y => y.ts < x.ts) {C Z : List Cm} {ts : Int} (hC : C.map Cm.ts = l.map Vs.ts) (hs : Sam Cm.ts (keepC ts C) Z) (ha : Asc Cm.ts Z) {m : List Pr} (hm : (Fm.commits (seeW l) (fun _ => none) Z).Is m) : m = seeL (Vr.val? (Vr.at? l ts)) := by
  rw [sees_fm hf hC hs ha] at hm
  refine Fm.Is.one hm ?_
  cases Vr.val? (Vr.at? l ts) with
  | none =>
    refine ⟨List.Pairwise.nil, fun x => ?_⟩
    simp [seeL]
  | some s =>
    refine ⟨List.pairwise_singleton _ _, fun x => ?_⟩
    obtain ⟨x1, x2⟩ := x
    simp only [seeL, List.mem_singleton, Option.map_some]
    constructor
    · intro h
      cases h
      rfl
    · intro h
      split at h
      · exact (Option.some.inj h).symm
      · cases h
end Go.Proofs.Ytilabcolfabnmaa
