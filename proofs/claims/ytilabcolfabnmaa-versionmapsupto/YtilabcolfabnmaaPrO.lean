/- Maps as rising lists of pairs: plain facts. -/
import Derived.Test.YtilabcolfabnmaaPrV
import Derived.Test.YtilabcolfabnmaaKyM
namespace Go.Proofs.Ytilabcolfabnmaa
set_option linter.unusedVariables false
set_option maxRecDepth 100000

/-- Each pair lies at its own key. -/
def Fm.Ok (F : Fm) : Prop := ∀ k x, F k = some x → x.key.data.toList = k
/-- A list that rises by keys. -/
def Ris (m : List Pr) : Prop := m.Pairwise fun a b => Ky.lt a.key b.key = true
/-- A list that is the map. -/
structure Fm.Is (F : Fm) (m : List Pr) : Prop where
  rise : Ris m
  mem : ∀ x, x ∈ m ↔ F x.key.data.toList = some x

theorem Fm.ok_none : Fm.Ok (fun _ => none) := fun k x h => by cases h
theorem Fm.Ok.set {F : Fm} (h : F.Ok) (x : Pr) : (F.set x.key.data.toList x).Ok := fun k y hy => by
  unfold Fm.set at hy
  split at hy
  · rename_i e
    cases hy
    exact e.symm
  · exact h k y hy
theorem Fm.Ok.rid {F : Fm} (h : F.Ok) (k : List UInt8) : (F.rid k).Ok := fun j y hy => by
  unfold Fm.rid at hy
  split at hy
  · cases hy
  · exact h j y hy

theorem data_toList (a : ByteArray) : a.data.toList = a.toList := (ByteArray.toList_eq a).symm
theorem key_inj {a b : ByteArray} (h : a.data.toList = b.data.toList) : a = b := by
  rw [data_toList, data_toList] at h
  exact Ky.toList_inj h

theorem Fm.All.mem {F : Fm} (ho : F.Ok) {xs : List Pr} (h : F.All xs) (x : Pr) : x ∈ xs ↔ F x.key.data.toList = some x := by
  obtain ⟨ks, hn, hk, hm⟩ := h
  constructor
  · intro hx
    have : some x ∈ ks.map F := by rw [hm]; exact List.mem_map.2 ⟨x, hx, rfl⟩
    obtain ⟨k, _, hF⟩ := List.mem_map.1 this
    rw [ho k x hF]
    exact hF
  · intro hF
    have hkk : x.key.data.toList ∈ ks := (hk _).2 (by rw [hF]; rfl)
    have : some x ∈ xs.map some := by rw [← hm, ← hF]; exact List.mem_map.2 ⟨_, hkk, rfl⟩
    obtain ⟨y, hy, e⟩ := List.mem_map.1 this
    cases e
    exact hy

theorem Fm.All.nodup {F : Fm} (ho : F.Ok) {xs : List Pr} (h : F.All xs) : (xs.map fun x => x.key.data.toList).Nodup := by
  obtain ⟨ks, hn, hk, hm⟩ := h
  suffices e : xs.map (fun x => x.key.data.toList) = ks by rw [e]; exact hn
  clear hn hk
  induction ks generalizing xs with
  | nil => cases xs with
    | nil => rfl
    | cons y r => simp at hm
  | cons k r ih => cases xs with
    | nil => simp at hm
    | cons y s =>
      simp only [List.map_cons, List.cons.injEq] at hm
      rw [List.map_cons, ho k y hm.1, ih hm.2]

/-- A sorted list of all is the map. -/
theorem Fm.All.is {F : Fm} (ho : F.Ok) {xs ys : List Pr} (h : F.All xs) (hp : ys.Perm xs) (hs : ys.Pairwise fun a b => Ky.lt b.key a.key = false) : F.Is ys := by
  refine ⟨?_, fun x => by rw [hp.mem_iff]; exact h.mem ho x⟩
  have hnd : (ys.map fun x => x.key.data.toList).Nodup := (hp.map _).nodup_iff.2 (h.nodup ho)
  unfold Ris
  have h2 : ys.Pairwise fun a b => a.key.data.toList ≠ b.key.data.toList := by
    rw [List.Nodup, List.pairwise_map] at hnd
    exact hnd
  refine (hs.and h2).imp ?_
  rintro a b ⟨h3, h4⟩
  cases e : Ky.lt a.key b.key with
  | true => rfl
  | false => exact absurd (by rw [Ky.lt_total e h3]) h4

theorem ris_eq {a b : List Pr} (ha : Ris a) (hb : Ris b) (h : ∀ x, x ∈ a ↔ x ∈ b) : a = b := by
  induction a generalizing b with
  | nil => cases b with
    | nil => rfl
    | cons y s => exact absurd ((h y).2 (by simp)) (by simp)
  | cons x r ih => cases b with
    | nil => exact absurd ((h x).1 (by simp)) (by simp)
    | cons y s =>
      unfold Ris at ha hb
      rw [List.pairwise_cons] at ha hb
      have hxy : x = y := by
        rcases List.mem_cons.1 ((h x).1 (by simp)) with e | e
        · exact e
        · rcases List.mem_cons.1 ((h y).2 (by simp)) with e2 | e2
          · exact e2.symm
          · have h1 := hb.1 x e
            have h2 := ha.1 y e2
            have := Ky.lt_trans h1 h2
            rw [Ky.lt_irrefl] at this
            cases this
      subst hxy
      rw [ih ha.2 hb.2 (fun z => ?_)]
      constructor
      · intro hz
        rcases List.mem_cons.1 ((h z).1 (List.mem_cons_of_mem _ hz)) with e | e
        · subst e
          have := ha.1 z hz
          rw [Ky.lt_irrefl] at this
          cases this
        · exact e
      · intro hz
        rcases List.mem_cons.1 ((h z).2 (List.mem_cons_of_mem _ hz)) with e | e
        · subst e
          have := hb.1 z hz
          rw [Ky.lt_irrefl] at this
          cases this
        · exact e

theorem Fm.Is.one {F : Fm} {a b : List Pr} (ha : F.Is a) (hb : F.Is b) : a = b := ris_eq ha.rise hb.rise fun x => (ha.mem x).trans (hb.mem x).symm
theorem Fm.is_none : Fm.Is (fun _ => none) [] := ⟨List.Pairwise.nil, fun x => by simp⟩
end Go.Proofs.Ytilabcolfabnmaa
