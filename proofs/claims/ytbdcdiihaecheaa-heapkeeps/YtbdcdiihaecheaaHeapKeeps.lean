/- As long as a session has reserved cells and versions, it gets them, whatever the others do. -/
import Derived.Test.YtbdcdiihaecheaaHeapKeepsA
import Derived.Test.YtbdcdiihaecheaaAgMem
import Derived.Test.YtbdcdiihaecheaaMem
import Derived.Handy
import Derived.ProofKit
import Derived.OpenShut
import Derived.ShutString
import Derived.ChangeOld
import Derived.SizedLaws
import Derived.JoinedCond
import Derived.Deep.Slices
import Derived.Deep.Grids
import Derived.Test.YtbdcdiihaecheaaHpN2
import Derived.Test.YtbdcdiihaecheaaVsC
namespace Go.Proofs.Ytbdcdiihaecheaa
set_option linter.unusedVariables false
set_option maxRecDepth 100000
namespace Vr

theorem chk_pre {a : Int} {l m : List Vs} (h : chk a (l ++ m) = 0) : chk a l = 0 := by
  induction l generalizing a with
  | nil => rfl
  | cons x r ih =>
    unfold chk at h ⊢
    simp only [List.cons_append] at h
    split
    · rename_i hc
      rw [if_pos hc] at h
      exact ih h
    · rename_i hc
      rw [if_neg hc] at h
      cases h

theorem chk_falls {a : Int} {l : List Vs} (h : chk a l = 0) : (∀ x ∈ l, x.ts < a) ∧ l.Pairwise fun x y => y.ts < x.ts := by
  induction l generalizing a with
  | nil => simp
  | cons x r ih =>
    unfold chk at h
    split at h
    · rename_i hc
      simp only [Bool.and_eq_true, decide_eq_true_eq] at hc
      obtain ⟨h1, h2⟩ := ih h
      refine ⟨fun y hy => ?_, List.pairwise_cons.2 ⟨h1, h2⟩⟩
      rcases List.mem_cons.1 hy with rfl | hy
      · exact hc.2
      · have := h1 y hy
        omega
    · cases h

theorem fold_up {mark : Int} {A : List Vs} (h : ∀ x ∈ A, mark < x.ts) (s : Ps) : A.foldl (pstep mark) s = ⟨s.kept ++ A, s.rest, s.found⟩ := by
  induction A generalizing s with
  | nil => simp
  | cons x r ih =>
    rw [List.foldl_cons, pstep_up (h x (by simp)), ih (fun y hy => h y (by simp [hy]))]
    simp
theorem fold_low {mark : Int} {B : List Vs} (h : ∀ x ∈ B, x.ts ≤ mark) (k r : List Vs) : B.foldl (pstep mark) ⟨k, r, true⟩ = ⟨k, r ++ B, true⟩ := by
  induction B generalizing r with
  | nil => simp
  | cons x s ih =>
    rw [List.foldl_cons, pstep_found (h x (by simp)) rfl, ih (fun y hy => h y (by simp [hy]))]
    simp

/-- How falling versions part at a mark. -/
theorem part {mark : Int} {l : List Vs} (h : l.Pairwise fun x y => y.ts < x.ts) : ∃ A B, l = A ++ B ∧ (∀ x ∈ A, mark < x.ts) ∧ (∀ x ∈ B, x.ts ≤ mark) := by
  induction l with
  | nil => exact ⟨[], [], rfl, by simp, by simp⟩
  | cons x r ih =>
    rw [List.pairwise_cons] at h
    by_cases hx : mark < x.ts
    · obtain ⟨A, B, rfl, h1, h2⟩ := ih h.2
      exact ⟨x :: A, B, rfl, fun y hy => by rcases List.mem_cons.1 hy with rfl | hy; exact hx; exact h1 y hy, h2⟩
    · refine ⟨[], x :: r, rfl, by simp, fun y hy => ?_⟩
      rcases List.mem_cons.1 hy with rfl | hy
      · omega
      · have := h.1 y hy
        omega

/-- What is kept of them. -/
theorem kept_of {mark : Int} {A B : List Vs} (hA : ∀ x ∈ A, mark < x.ts) (hB : ∀ x ∈ B, x.ts ≤ mark) :
    ((prune mark (A ++ B)).kept = A ∧ (∀ b r, B = b :: r → b.del = true)) ∨ ∃ b r, B = b :: r ∧ b.del = false ∧ (prune mark (A ++ B)).kept = A ++ [b] := by
  unfold prune
  rw [List.foldl_append, fold_up hA]
  cases B with
  | nil => exact .inl ⟨by simp, fun b r h => by cases h⟩
  | cons b r =>
    have hb := hB b (by simp)
    rw [List.foldl_cons]
    cases hd : b.del with
    | true =>
      rw [pstep_del hb hd, fold_low (fun y hy => hB y (by simp [hy]))]
      exact .inl ⟨by simp, fun b' r' h => by cases h; exact hd⟩
    | false =>
      rw [pstep_first hb rfl hd, fold_low (fun y hy => hB y (by simp [hy]))]
      exact .inr ⟨b, r, rfl, hd, by simp⟩

theorem prunes {mark t : Int} {l : List Vs} (hc : check l = 0) (ht : mark ≤ t) :
    val? (at? (prune mark l).kept t) = val? (at? l t) ∧ (prune mark (prune mark l).kept).kept = (prune mark l).kept ∧ (prune mark (prune mark l).kept).rest = [] ∧ check (prune mark l).kept = 0 := by
  unfold check at hc
  split at hc
  · cases hc
  · rename_i hlen
    obtain ⟨_, hf⟩ := chk_falls hc
    obtain ⟨A, B, rfl, hA, hB⟩ := part (mark := mark) hf
    rcases kept_of hA hB with ⟨hk, hd⟩ | ⟨b, r, rfl, hd, hk⟩
    · rw [hk]
      have hpA : prune mark A = ⟨A, [], false⟩ := by unfold prune; rw [fold_up hA]; simp
      refine ⟨?_, by rw [hpA], by rw [hpA], ?_⟩
      · unfold at?
        rw [List.find?_append]
        cases hfa : A.find? (fun v => decide (v.ts ≤ t)) with
        | some y => rfl
        | none =>
          cases B with
          | nil => rfl
          | cons b r =>
            have hb := hB b (by simp)
            rw [List.find?_cons_of_pos (by simpa using Int.le_trans hb ht)]
            exact (val_del (hd b r rfl)).symm
      · unfold check
        rw [if_neg (by simp at hlen; omega)]
        exact chk_pre hc
    · rw [hk]
      have hb := hB b (by simp)
      have hpA : prune mark (A ++ [b]) = ⟨A ++ [b], [], true⟩ := by
        unfold prune
        rw [List.foldl_append, fold_up hA, List.foldl_cons, pstep_first hb rfl hd]
        simp
      refine ⟨?_, by rw [hpA], by rw [hpA], ?_⟩
      · unfold at?
        rw [List.find?_append, List.find?_append]
        cases hfa : A.find? (fun v => decide (v.ts ≤ t)) with
        | some y => rfl
        | none =>
          rw [List.find?_cons_of_pos (by simpa using Int.le_trans hb ht), List.find?_cons_of_pos (by simpa using Int.le_trans hb ht)]
      · unfold check
        rw [if_neg (by simp at hlen ⊢; omega)]
        refine chk_pre (m := r) ?_
        rw [List.append_assoc]
        exact hc
end Vr
end Go.Proofs.Ytbdcdiihaecheaa

namespace Go.Proofs.Ytbdcdiihaecheaa
set_option linter.unusedVariables false
set_option linter.unusedSectionVars false

variable {α : Type} [Inhabited α]

theorem live_set_free {us : List (Sl α)} {i : Nat} {s : Sl α} (hi : i < us.length) (hs : s.given = false) (hf : (slAt us i).given = true) : live (us.set i s) + 1 = live us := by
  have h1 := live_free us
  have h2 := live_free (us.set i s)
  have h3 := (freeOf_free hi hs hf).length_eq
  simp only [List.length_append, List.length_set, List.length_cons, List.length_nil] at h2 h3
  omega

theorem live_set_give {us : List (Sl α)} {i : Nat} {s : Sl α} (hi : i < us.length) (hs : s.given = true) (hf : (slAt us i).given = false) : live (us.set i s) = live us + 1 := by
  have h1 := live_free us
  have h2 := live_free (us.set i s)
  have h3 := (filter_ne_perm (freeOf_nodup us) (mem_freeOf.2 ⟨hi, hf⟩)).length_eq
  rw [← freeOf_give hi hs] at h3
  simp only [List.length_append, List.length_set, List.length_cons, List.length_nil] at h2 h3
  omega

theorem live_set_same {us : List (Sl α)} {i : Nat} {s : Sl α} (hi : i < us.length) (hs : s.given = (slAt us i).given) : live (us.set i s) = live us := by
  have h1 := live_free us
  have h2 := live_free (us.set i s)
  rw [freeOf_same hi hs, List.length_set] at h2
  omega

theorem live_snoc (us : List (Sl α)) (s : Sl α) (hs : s.given = true) : live (us ++ [s]) = live us + 1 := by simp [live, hs]

theorem low_of_live {us : List (Sl α)} (h : live us = us.length) : low us = us.length := by
  refine low_none ?_
  have := live_free us
  exact List.eq_nil_of_length_eq_zero (by omega)

theorem low_lt {us : List (Sl α)} (h : live us < us.length) : low us < us.length := by
  rcases Nat.lt_or_ge (low us) us.length with h1 | h1
  · exact h1
  · have he : low us = us.length := by have := low_le us; omega
    have : live us = us.length := by
      unfold live
      rw [List.countP_eq_length]
      intro s hs
      unfold low at he
      have := List.findIdx_eq_length.1 he s hs
      simpa using this
    omega

theorem live_put (a : Ar α) (x : α) : live (a.put x).us = live a.us + 1 := by
  unfold Ar.put
  by_cases h : low a.us < a.us.length
  · simp only [if_pos h]
    exact live_set_give h rfl (low_free h).1
  · simp only [if_neg h]
    exact live_snoc _ _ rfl

theorem put_length (a : Ar α) (x : α) : (a.put x).us.length = if low a.us < a.us.length then a.us.length else a.us.length + 1 := by
  unfold Ar.put
  split <;> simp

theorem put_size (a : Ar α) (x : α) : (a.put x).size = a.size := rfl
theorem put_stale (a : Ar α) (x : α) : (a.put x).stale = a.stale := rfl

theorem slAt_mem {us : List (Sl α)} {i : Nat} (hi : i < us.length) : slAt us i ∈ us := by
  simp [slAt, List.getD, hi]

theorem mem_slAt {us : List (Sl α)} {s : Sl α} (h : s ∈ us) : ∃ i, i < us.length ∧ s = slAt us i := by
  obtain ⟨i, hi, rfl⟩ := List.mem_iff_getElem.1 h
  exact ⟨i, hi, by simp [slAt, List.getD, hi]⟩

/-- Gens from 1 to b. -/
def Gens (us : List (Sl α)) (b : Int) : Prop := ∀ s ∈ us, 1 ≤ s.gen ∧ s.gen ≤ b

theorem Gens.nil (b : Int) : Gens ([] : List (Sl α)) b := by intro s hs; cases hs

theorem Gens.mono {us : List (Sl α)} {b c : Int} (h : Gens us b) (hb : b ≤ c) : Gens us c := fun s hs => ⟨(h s hs).1, Int.le_trans (h s hs).2 hb⟩

theorem Gens.set {us : List (Sl α)} {b : Int} (h : Gens us b) (i : Nat) {s : Sl α} (hs : 1 ≤ s.gen ∧ s.gen ≤ b) : Gens (us.set i s) b := by
  intro t ht
  rcases List.mem_or_eq_of_mem_set ht with h1 | rfl
  · exact h t h1
  · exact hs

theorem Gens.gen {a : Ar α} {b : Int} (h : Gens a.us b) (h0 : 0 ≤ b) : 1 ≤ a.gen ∧ a.gen ≤ b + 1 := by
  unfold Ar.gen
  split
  · rename_i hl
    have := h _ (slAt_mem hl)
    omega
  · omega

theorem Gens.put {a : Ar α} {b : Int} (h : Gens a.us b) (h0 : 0 ≤ b) (x : α) : Gens (a.put x).us (b + 1) := by
  have hg := h.gen h0
  unfold Ar.put
  by_cases hl : low a.us < a.us.length
  · simp only [if_pos hl]
    have hh := h _ (slAt_mem hl)
    exact (h.mono (by omega)).set _ ⟨by show 1 ≤ _ + 1; omega, by show (slAt a.us (low a.us)).gen + 1 ≤ b + 1; omega⟩
  · simp only [if_neg hl]
    intro t ht
    simp only [List.mem_append, List.mem_cons, List.not_mem_nil, or_false] at ht
    rcases ht with ht | rfl
    · have := h t ht
      omega
    · exact ⟨Int.le_refl _, by show (1 : Int) ≤ b + 1; omega⟩

theorem Gens.free {a : Ar α} {b : Int} (h : Gens a.us b) {i : Nat} (hi : i < a.us.length) (z : α) : Gens (a.free i z).us b := by
  have := h _ (slAt_mem hi)
  exact h.set i this
theorem Gens.setv {a : Ar α} {b : Int} (h : Gens a.us b) {i : Nat} (hi : i < a.us.length) (x : α) : Gens (a.set i x).us b := by
  have := h _ (slAt_mem hi)
  exact h.set i this

end Go.Proofs.Ytbdcdiihaecheaa

namespace Go.Proofs.Ytbdcdiihaecheaa
open Go.RowKit
set_option linter.unusedVariables false
set_option maxRecDepth 100000
set_option linter.unusedSectionVars false
variable [Inhabited Cl] [Inhabited Ln]

theorem Chn.one {v : Ar Ln} : ∀ {l l' : List Ln} {s g : Int}, Chn v s g l → Chn v s g l' → l = l'
  | [], [], _, _, _, _ => rfl
  | [], x :: r, s, g, h1, h2 => by have := h1.2; have := h2.1.2.1; omega
  | x :: r, [], s, g, h1, h2 => by have := h2.2; have := h1.1.2.1; omega
  | x :: r, y :: q, s, g, h1, h2 => by
    have e : x = y := h1.1.2.2.symm.trans h2.1.2.2
    subst e
    rw [Chn.one h1.2 h2.2]

theorem hds_at : ∀ (l : List Ln) (s g : Int) (j : Nat), j < l.length → (hds s g l)[j]? = some (nextS s l j, nextG g l j)
  | [], s, g, j, hj => by simp at hj
  | x :: r, s, g, 0, hj => by simp [hds, nextS, nextG]
  | x :: r, s, g, 1, hj => by
    have := hds_at r x.s x.g 0 (by simpa using hj)
    simpa [hds, nextS, nextG] using this
  | x :: r, s, g, j + 2, hj => by
    have := hds_at r x.s x.g (j + 1) (by simp at hj; omega)
    simpa [hds, nextS, nextG] using this

theorem Chn.good {v : Ar Ln} : ∀ {l : List Ln} {s g : Int}, Chn v s g l → ∀ y ∈ hds s g l, v.Good y.1 y.2 ∧ 1 ≤ y.2
  | [], s, g, h, y, hy => by simp [hds] at hy
  | x :: r, s, g, h, y, hy => by
    rcases List.mem_cons.1 hy with rfl | hy
    · exact ⟨h.1.1, h.1.2.1⟩
    · exact Chn.good h.2 y hy

theorem Chn.slots {v : Ar Ln} : ∀ {l : List Ln} {s g : Int}, Chn v s g l → ((hds s g l).map (·.1)).Nodup
  | [], s, g, h => by simp [hds]
  | x :: r, s, g, h => by
    show ((s, g) :: hds x.s x.g r |>.map (·.1)).Nodup
    rw [List.map_cons, List.nodup_cons]
    refine ⟨fun hm => ?_, Chn.slots h.2⟩
    obtain ⟨y, hy, he⟩ := List.mem_map.1 hm
    obtain ⟨j, hjy⟩ := List.mem_iff_getElem?.1 hy
    have hj := (List.getElem?_eq_some_iff.1 hjy).1
    have hg := Chn.good h.2 y hy
    rw [hds_len] at hj
    rw [hds_at r x.s x.g j hj] at hjy
    cases hjy
    have h1 : nextS x.s r j = s := he
    have h2 : nextG x.g r j = g := by
      have a := hg.1.2.2.2
      have b := h.1.1.2.2.2
      rw [h1] at a
      exact a.symm.trans b
    have hd := Chn.drop h.2 j (Nat.le_of_lt hj)
    rw [h1, h2] at hd
    have := congrArg List.length (Chn.one hd h)
    simp at this
    omega

section
variable {α : Type} [Inhabited α]

theorem Ar.put_len (v : Ar α) (x : α) : v.us.length ≤ (v.put x).us.length := by
  rw [put_length]
  split <;> omega

/-- A put leaves what is given. -/
theorem put_keeps (v : Ar α) (x : α) {i : Nat} (hi : i < v.us.length) (hg : (slAt v.us i).given = true) : slAt (v.put x).us i = slAt v.us i := by
  unfold Ar.put
  by_cases hl : low v.us < v.us.length
  · rw [if_pos hl]
    show slAt (v.us.set _ _) i = _
    rw [slAt_set _ _ _ _ hl, if_neg]
    intro e
    have := (low_free hl).1
    rw [← e, hg] at this
    cases this
  · rw [if_neg hl]
    exact slAt_left _ _ _ hi

theorem put_new (v : Ar α) (x : α) : slAt (v.put x).us (low v.us) = ⟨v.gen, true, x⟩ ∧ low v.us < (v.put x).us.length := by
  rw [put_length]
  unfold Ar.put Ar.gen
  by_cases hl : low v.us < v.us.length
  · rw [if_pos hl, if_pos hl, if_pos hl]
    refine ⟨?_, hl⟩
    show slAt (v.us.set _ _) _ = _
    rw [slAt_set _ _ _ _ hl, if_pos rfl]
  · rw [if_neg hl, if_neg hl, if_neg hl]
    have e : low v.us = v.us.length := by have := low_le v.us; omega
    refine ⟨?_, by omega⟩
    rw [e]
    exact slAt_last _ _

theorem Ar.Good.put {v : Ar α} {s g : Int} (h : v.Good s g) (x : α) : (v.put x).Good s g := by
  have hi : s.toNat < v.us.length := by have := h.1; have := h.2.1; omega
  have hl := Ar.put_len v x
  refine ⟨h.1, by have := h.2.1; omega, ?_, ?_⟩
  · rw [put_keeps v x hi h.2.2.1]; exact h.2.2.1
  · rw [put_keeps v x hi h.2.2.1]; exact h.2.2.2

theorem put_good (v : Ar α) (x : α) : (v.put x).Good (low v.us : Int) v.gen := by
  obtain ⟨h1, h2⟩ := put_new v x
  refine ⟨by omega, by omega, ?_, ?_⟩
  · rw [Int.toNat_natCast, h1]
  · rw [Int.toNat_natCast, h1]

theorem Ar.Good.set {v : Ar α} {s g : Int} (h : v.Good s g) {i : Nat} (hi : i < v.us.length) (x : α) : (v.set i x).Good s g := by
  refine ⟨h.1, by show s < ((v.us.set i _).length : Int); rw [List.length_set]; exact h.2.1, ?_, ?_⟩
  · show (slAt (v.us.set i _) s.toNat).given = true
    rw [slAt_set _ _ _ _ hi]
    split
    · rename_i e; rw [← e]; exact h.2.2.1
    · exact h.2.2.1
  · show (slAt (v.us.set i _) s.toNat).gen = g
    rw [slAt_set _ _ _ _ hi]
    split
    · rename_i e; rw [← e]; exact h.2.2.2
    · exact h.2.2.2

theorem set_val {v : Ar α} {i j : Nat} (hi : i < v.us.length) (x : α) : (slAt (v.set i x).us j).val = if j = i then x else (slAt v.us j).val := by
  show (slAt (v.us.set i _) j).val = _
  rw [slAt_set _ _ _ _ hi]
  split <;> rfl

theorem set_live {v : Ar α} {i : Nat} (hi : i < v.us.length) (x : α) : live (v.set i x).us = live v.us := live_set_same hi rfl
theorem set_length {v : Ar α} {i : Nat} (x : α) : (v.set i x).us.length = v.us.length := List.length_set
end

theorem Chn.put {v : Ar Ln} : ∀ {l : List Ln} {s g : Int} (h : Chn v s g l) (x : Ln), Chn (v.put x) s g l
  | [], s, g, h, x => h
  | y :: r, s, g, h, x => by
    have hg := h.1.1
    refine ⟨⟨hg.put x, h.1.2.1, ?_⟩, Chn.put h.2 x⟩
    rw [put_keeps v x (by have := hg.1; have := hg.2.1; omega) hg.2.2.1]
    exact h.1.2.2

/-- A slot that the chain has not gets another value. -/
theorem Chn.setOff {v : Ar Ln} {i : Nat} (hi : i < v.us.length) (x : Ln) : ∀ {l : List Ln} {s g : Int} (h : Chn v s g l), (∀ y ∈ hds s g l, y.1.toNat ≠ i) → Chn (v.set i x) s g l
  | [], s, g, h, _ => h
  | y :: r, s, g, h, hn => by
    refine ⟨⟨h.1.1.set hi x, h.1.2.1, ?_⟩, Chn.setOff hi x h.2 (fun z hz => hn z (List.mem_cons_of_mem _ hz))⟩
    rw [set_val hi, if_neg]
    · exact h.1.2.2
    · exact hn (s, g) (List.mem_cons_self ..)

/-- A chain that is cut behind k more. -/
def cutL (l : List Ln) (k : Nat) : List Ln := l.take k ++ ((l[k]?).map fun x => { x with s := 0, g := 0 }).toList

theorem cutL_cons (x : Ln) (r : List Ln) (k : Nat) : cutL (x :: r) (k + 1) = x :: cutL r k := by simp [cutL]

theorem cutL_ver : ∀ (l : List Ln) (k : Nat), k < l.length → (cutL l k).map Ln.ver = (l.map Ln.ver).take (k + 1)
  | [], k, hk => by simp at hk
  | x :: r, 0, hk => by simp [cutL, Ln.ver]
  | x :: r, k + 1, hk => by
    rw [cutL_cons, List.map_cons, List.map_cons, List.take_succ_cons, cutL_ver r k (by simpa using hk)]

theorem cutL_len (l : List Ln) (k : Nat) (hk : k < l.length) : (cutL l k).length = k + 1 := by
  simp [cutL, List.getElem?_eq_getElem hk]
  omega

theorem Chn.cut {v : Ar Ln} : ∀ {l : List Ln} {s g : Int} (h : Chn v s g l) (k : Nat) (x : Ln) (hx : l[k]? = some x), Chn (v.set (nextS s l k).toNat { x with s := 0, g := 0 }) s g (cutL l k)
  | [], s, g, h, k, x, hx => by simp at hx
  | y :: r, s, g, h, 0, x, hx => by
    have e : y = x := by simpa using hx
    subst e
    have hg := h.1.1
    have hi : s.toNat < v.us.length := by have := hg.1; have := hg.2.1; omega
    show Chn (v.set s.toNat _) s g [_]
    refine ⟨⟨hg.set hi _, h.1.2.1, ?_⟩, rfl, rfl⟩
    rw [set_val hi, if_pos rfl]
  | y :: r, s, g, h, k + 1, x, hx => by
    have hx' : r[k]? = some x := by simpa using hx
    have hk : k < r.length := (List.getElem?_eq_some_iff.1 hx').1
    have e : nextS s (y :: r) (k + 1) = nextS y.s r k := by cases k <;> simp [nextS]
    rw [e, cutL_cons]
    have hat := hds_at r y.s y.g k hk
    have hmem : (nextS y.s r k, nextG y.g r k) ∈ hds y.s y.g r := List.mem_of_getElem? hat
    have hgk := (Chn.good h.2 _ hmem).1
    have hi : (nextS y.s r k).toNat < v.us.length := by have := hgk.1; have := hgk.2.1; simp only at *; omega
    have hnd := Chn.slots h
    rw [show hds s g (y :: r) = (s, g) :: hds y.s y.g r from rfl, List.map_cons, List.nodup_cons] at hnd
    have hne : s ≠ nextS y.s r k := fun e => hnd.1 (List.mem_map.2 ⟨_, hmem, e.symm⟩)
    refine ⟨⟨h.1.1.set hi _, h.1.2.1, ?_⟩, Chn.cut h.2 k x hx'⟩
    rw [set_val hi, if_neg]
    · exact h.1.2.2
    · intro e
      have h1 := h.1.1.1
      have h2 := hgk.1
      exact hne (by simp only at h2; omega)

/-- What one list of versions says at a time, another says too, but that a deletion may be told as nothing. -/
def Sub (a b : Option Vs) : Prop := a = b ∨ (a = none ∧ ∃ v, b = some v ∧ v.del = true)
theorem Sub.refl (a : Option Vs) : Sub a a := .inl rfl
theorem Sub.trans {a b c : Option Vs} (h1 : Sub a b) (h2 : Sub b c) : Sub a c := by
  rcases h1 with rfl | ⟨rfl, v, rfl, hv⟩
  · exact h2
  · rcases h2 with rfl | ⟨h, _⟩
    · exact .inr ⟨rfl, v, rfl, hv⟩
    · cases h

/-- What is kept is a beginning, and says the same. -/
theorem kept_take {mark : Int} {l : List Vs} (h : l.Pairwise fun x y => y.ts < x.ts) : ∃ j, j ≤ l.length ∧ (Vr.prune mark l).kept = l.take j ∧ ∀ t, mark ≤ t → Sub (Vr.at? (l.take j) t) (Vr.at? l t) := by
  obtain ⟨A, B, rfl, hA, hB⟩ := Vr.part (mark := mark) h
  rcases Vr.kept_of hA hB with ⟨hk, hd⟩ | ⟨b, r, rfl, hd, hk⟩
  · refine ⟨A.length, by simp, by rw [hk]; simp, fun t ht => ?_⟩
    rw [show (A ++ B).take A.length = A by simp]
    unfold Vr.at?
    rw [List.find?_append]
    cases hfa : A.find? (fun v => decide (v.ts ≤ t)) with
    | some y => exact .inl rfl
    | none =>
      cases B with
      | nil => exact .inl rfl
      | cons b r =>
        have hb := hB b (by simp)
        rw [List.find?_cons_of_pos (by simpa using Int.le_trans hb ht)]
        exact .inr ⟨rfl, b, rfl, hd b r rfl⟩
  · refine ⟨A.length + 1, by simp, by rw [hk]; simp [List.take_append, List.take_of_length_le], fun t ht => ?_⟩
    rw [show (A ++ b :: r).take (A.length + 1) = A ++ [b] by simp [List.take_append, List.take_of_length_le]]
    have hb := hB b (by simp)
    refine .inl ?_
    unfold Vr.at?
    rw [List.find?_append, List.find?_append]
    cases hfa : A.find? (fun v => decide (v.ts ≤ t)) with
    | some y => rfl
    | none =>
      rw [List.find?_cons_of_pos (by simpa using Int.le_trans hb ht), List.find?_cons_of_pos (by simpa using Int.le_trans hb ht)]

end Go.Proofs.Ytbdcdiihaecheaa

namespace Go.Proofs.Ytbdcdiihaecheaa
open Go.RowKit
set_option linter.unusedVariables false
set_option maxRecDepth 100000
set_option linter.unusedSectionVars false
variable [Inhabited Cl] [Inhabited Ln]

variable {m : Nat} {w w1 w2 w' : World} {H cB vB eB : Nat} {cb vb eb : List Nat} {h h' : Hp} {av L L' : List Nat}

/-- A chain that is cut behind k more; the rest waits. -/
def Hp.pruned (h : Hp) (s g : Int) (l : List Ln) (k : Nat) (x : Ln) : Hp := (h.setV (nextS s l k).toNat { x with s := 0, g := 0 }).wait 3 ((hds s g l).drop (k + 1))

theorem own_more {α : Type} {cells : α → List Value} {k : Nat} (K : Knd cells k) {t : TypeId} {W : World} {base : Nat} {v : Value} {l : List α} (h : Own cells k t W base v l) (h0 : 0 < l.length) :
    ∃ b c, v = .slice (some ⟨b, 0, none⟩) l.length c ∧ Els cells k W (some ⟨b, 0, none⟩) l ∧ l.length ≤ c ∧ base ≤ b ∧ b < W.heap.size := by
  obtain ⟨p, c, hv, he, -, hle⟩ := h.els K
  rcases h.2 with ⟨hv', hn⟩ | ⟨g, cap, cur, hv', -⟩
  · omega
  · rw [hv] at hv'
    cases hv'
    have hb := h.blk (b := g) (by rw [hv]; rfl)
    exact ⟨g, c, hv, he, hle, hb.1, hb.2⟩

set_option maxHeartbeats 2000000 in
theorem prune_cut (hh : Hpn m w H cB vB eB h av) (hS hG mark : Int) (hg : h.c.Good hS hG) (l : List Ln) (hc : Chn h.v (slAt h.c.us hS.toNat).val.s (slAt h.c.us hS.toNat).val.g l) (hl : l.length ≤ 65536) (hne : 1 ≤ (slAt h.c.us hS.toNat).val.g) (hcd : (slAt h.c.us hS.toNat).val.closed = false)
    (k : Nat) (x : Ln) (hx : l[k]? = some x) (hk : (Vr.prune mark (l.map Ln.ver)).kept = (l.map Ln.ver).take (k + 1)) (hcu : h.e.cur.length ≤ 3400000000000) :
    Calls Try.prog 14 #[.pointer (some ⟨H, 0, none⟩), .agg #[.int .i64 hS, .int .i64 hG], .int .i64 mark] w fun e w' => e = .returned (.tuple #[.int .i64 ((Vr.prune mark (l.map Ln.ver)).rest.length : Int), .bool false, .int .i64 0]) ∧ AftH m w w' H cB vB eB (h.pruned (slAt h.c.us hS.toNat).val.s (slAt h.c.us hS.toNat).val.g l k x) av := by
  obtain ⟨z, hz⟩ : ∃ z, (Vr.prune mark (l.map Ln.ver)).kept.length = z := ⟨_, rfl⟩
  obtain ⟨r, hr⟩ : ∃ r, (Vr.prune mark (l.map Ln.ver)).rest.length = r := ⟨_, rfl⟩
  rw [hr]
  obtain ⟨w2, hw2, hz2, hk1⟩ : ∃ w2, w.alloc (.cells #[.int .i64 hS, .int .i64 hG] 36) = w2 ∧ w2.heap.size = w.heap.size + 1 ∧ Bk w2 w.heap.size 36 #[.int .i64 hS, .int .i64 hG] := ⟨_, rfl, by simp, Bk.new _ _ _⟩
  have t2 : Tn [] w w2 := by rw [← hw2]; exact (Tn.refl _ _).alloc _
  have K2 : MidH m w [w.heap.size] w2 H cB vB eB h av := (MidH.start hh).new t2 (by simp) (by simp; omega)
  have HK2 : Hid (MidH m w [w.heap.size] w2 H cB vB eB h av) := K2
  have HA2 : Hid (Bk w2 w.heap.size 36 #[.int .i64 hS, .int .i64 hG]) := hk1
  have a0 : w2.cell? ⟨w.heap.size, 0, none⟩ = some (.int .i64 hS) := hk1.cell 0
  have a1 : w2.cell? ⟨w.heap.size, 1, none⟩ = some (.int .i64 hG) := hk1.cell 1
  obtain ⟨cl, hcl⟩ : ∃ cl, (slAt h.c.us hS.toNat).val = cl := ⟨_, rfl⟩
  have hlk := hlook_good K2.1 hS hG hg
  rw [hcl] at hlk hc hne hcd ⊢
  obtain ⟨c1, c2, c3, c4⟩ := cl
  obtain rfl : c4 = false := hcd
  have HLK : Hid (Calls Try.prog 43 #[.pointer (some ⟨H, 0, none⟩), .agg #[.int .i64 hS, .int .i64 hG]] w2 fun e w' => e = .returned (.tuple #[.agg #[.string c1, .int .i64 c2, .int .i64 c3, .bool false], .int .i64 0]) ∧ Below w2.heap.size w2 w') := hlk
  have HG : Hid (h.c.Good hS hG) := hg
  have HNE : Hid (decide (c2 = 0 ∧ c3 = 0) = false) := by unfold Hid; simp; intro _; have : 1 ≤ c3 := hne; omega
  clear hh t2 K2 hk1 hg hcl hlk hne
  go_enter Try.func14, Try.ntmps14
  go_wp2_with fail
  refine HLK.out.mono ?_
  rintro e w3 ⟨rfl, hb3⟩
  obtain ⟨wz, hwz, hzz, hkz⟩ : ∃ wz, w3.alloc (.cells #[.string ⟨#[]⟩, .int .i64 0, .int .i64 0, .bool false] 93) = wz ∧ wz.heap.size = w3.heap.size + 1 ∧ Bk wz w3.heap.size 93 #[.string ⟨#[]⟩, .int .i64 0, .int .i64 0, .bool false] := ⟨_, rfl, by simp, Bk.new _ _ _⟩
  have z0 : wz.cell? ⟨w3.heap.size, 0, none⟩ = some (.string ⟨#[]⟩) := hkz.cell 0
  have z1 : wz.cell? ⟨w3.heap.size, 1, none⟩ = some (.int .i64 0) := hkz.cell 1
  have z2 : wz.cell? ⟨w3.heap.size, 2, none⟩ = some (.int .i64 0) := hkz.cell 2
  have z3 : wz.cell? ⟨w3.heap.size, 3, none⟩ = some (.bool false) := hkz.cell 3
  have y0 : wz.frozen? ⟨w3.heap.size, 0, none⟩ = false := hkz.frozen 0
  have y1 : wz.frozen? ⟨w3.heap.size, 1, none⟩ = false := hkz.frozen 1
  have y2 : wz.frozen? ⟨w3.heap.size, 2, none⟩ = false := hkz.frozen 2
  have y3 : wz.frozen? ⟨w3.heap.size, 3, none⟩ = false := hkz.frozen 3
  obtain ⟨w4, hw4, hz4, hk4, t34⟩ : ∃ w4, (((wz.setCell ⟨w3.heap.size, 0, none⟩ (.string c1)).setCell ⟨w3.heap.size, 1, none⟩ (.int .i64 c2)).setCell ⟨w3.heap.size, 2, none⟩ (.int .i64 c3)).setCell ⟨w3.heap.size, 3, none⟩ (.bool false) = w4 ∧ w4.heap.size = w3.heap.size + 1 ∧ Bk w4 w3.heap.size 93 #[.string c1, .int .i64 c2, .int .i64 c3, .bool false] ∧ Tn [] w3 w4 := ⟨_, rfl, by simp [hzz], (((hkz.set 0 _).set 1 _).set 2 _).set 3 _, by rw [← hwz]; exact (((((Tn.refl [] w3).alloc _).setCell (.inr (Nat.le_refl _)) _).setCell (.inr (Nat.le_refl _)) _).setCell (.inr (Nat.le_refl _)) _).setCell (.inr (Nat.le_refl _)) _⟩
  obtain ⟨C, hC⟩ : ∃ C, w3.heap.size = C := ⟨_, rfl⟩
  rw [hC] at hw4 z0 z1 z2 z3 y0 y1 y2 y3 hk4
  have hz3 := hb3.size
  have HK4 : Hid (MidH m w [C, w.heap.size] w4 H cB vB eB h av) := (HK2.out.quiet (Tn.of_below hb3 [])).new t34 (by rw [← hC]; simp) (by rw [← hC]; simp; omega)
  have HA4 : Hid (Bk w4 w.heap.size 36 #[.int .i64 hS, .int .i64 hG] ∧ Bk w4 C 93 #[.string c1, .int .i64 c2, .int .i64 c3, .bool false] ∧ w.heap.size + 1 ≤ C) := ⟨(HA2.out.tn (Tn.of_below hb3 []) (by simp)).tn t34 (by simp), hk4, by omega⟩
  have c0' : w4.cell? ⟨C, 0, none⟩ = some (.string c1) := HA4.out.2.1.cell 0
  have c1' : w4.cell? ⟨C, 1, none⟩ = some (.int .i64 c2) := HA4.out.2.1.cell 1
  have c2' : w4.cell? ⟨C, 2, none⟩ = some (.int .i64 c3) := HA4.out.2.1.cell 2
  have c3' : w4.cell? ⟨C, 3, none⟩ = some (.bool false) := HA4.out.2.1.cell 3
  clear hk4 t34 hb3 HLK a0 a1 hz3
  go_wp2_with fail
  refine (empty_any w4 ⟨c1, c2, c3, false⟩).mono ?_
  rintro e w5 ⟨rfl, hb5⟩
  rw [HNE.out]
  have HK5 : Hid (MidH m w [C, w.heap.size] w5 H cB vB eB h av) := HK4.out.quiet (Tn.of_below hb5 [])
  have HA5 : Hid (Bk w5 w.heap.size 36 #[.int .i64 hS, .int .i64 hG] ∧ Bk w5 C 93 #[.string c1, .int .i64 c2, .int .i64 c3, .bool false] ∧ w.heap.size + 1 ≤ C) := ⟨HA4.out.1.tn (Tn.of_below hb5 []) (by simp), HA4.out.2.1.tn (Tn.of_below hb5 []) (by simp), HA4.out.2.2⟩
  have d0' : w5.cell? ⟨C, 0, none⟩ = some (.string c1) := HA5.out.2.1.cell 0
  have d1' : w5.cell? ⟨C, 1, none⟩ = some (.int .i64 c2) := HA5.out.2.1.cell 1
  have d2' : w5.cell? ⟨C, 2, none⟩ = some (.int .i64 c3) := HA5.out.2.1.cell 2
  have d3' : w5.cell? ⟨C, 3, none⟩ = some (.bool false) := HA5.out.2.1.cell 3
  have HCH : Hid (Calls Try.prog 39 #[.pointer (some ⟨H, 0, none⟩), .agg #[.string c1, .int .i64 c2, .int .i64 c3, .bool false]] w5 fun e w' => ∃ v1 v2, e = .returned (.tuple #[.agg #[v1, v2], .int .i64 0]) ∧ TwoH w5.heap.size w' v1 v2 (l.map Ln.ver) (hds c2 c3 l) ∧ Below w5.heap.size w5 w') := chain_good HK5.out.1 ⟨c1, c2, c3, false⟩ l hc hl
  have HCC : Hid (Chn h.v c2 c3 l) := hc
  clear hb5 c0' c1' c2' c3' hc z0 z1 z2 z3 y0 y1 y2 y3
  go_wp2_with fail
  refine HCH.out.mono ?_
  rintro e w6 ⟨v1, v2, rfl, htw, hb6⟩
  have hkl : k < l.length := (List.getElem?_eq_some_iff.1 hx).1
  obtain ⟨b1, d1, rfl, hels1, hcap1, hge1, hlt1⟩ := own_more vknd htw.o1 (by rw [List.length_map]; omega)
  obtain ⟨b2, d2, rfl, hels2, hcap2, hge2, hlt2⟩ := own_more hdK htw.o2 (by rw [hds_len]; omega)
  obtain ⟨n1, hn1⟩ : ∃ n1, (l.map Ln.ver).length = n1 := ⟨_, rfl⟩
  obtain ⟨n2, hn2⟩ : ∃ n2, (hds c2 c3 l).length = n2 := ⟨_, rfl⟩
  rw [hn1] at hcap1 ⊢
  rw [hn2] at hcap2 ⊢
  have hn9 : n1 ≤ 65536 := by rw [← hn1, List.length_map]; exact hl
  have hn8 : n2 ≤ 65536 := by rw [← hn2, hds_len]; exact hl
  obtain ⟨F, hF⟩ : ∃ F, w6.heap.size = F := ⟨_, rfl⟩
  obtain ⟨w7, hw7, hk7⟩ : ∃ w7, w6.alloc (.cells #[.slice (some ⟨b1, 0, none⟩) n1 d1, .slice (some ⟨b2, 0, none⟩) n2 d2] 107) = w7 ∧ Bk w7 F 107 #[.slice (some ⟨b1, 0, none⟩) n1 d1, .slice (some ⟨b2, 0, none⟩) n2 d2] := ⟨_, rfl, by rw [← hF]; exact Bk.new _ _ _⟩
  have hb7 : Below w6.heap.size w6 w7 := by rw [← hw7]; exact (Below.refl _ _).alloc (Nat.le_refl _) _
  have hb57 : Below w5.heap.size w5 w7 := hb6.trans (hb7.mono hb6.size)
  have hz6 := hb6.size
  have hz7 := hb7.size
  have hFlt := hk7.lt
  have f0 : w7.cell? ⟨F, 0, none⟩ = some (.slice (some ⟨b1, 0, none⟩) n1 d1) := hk7.cell 0
  have HK7 : Hid (MidH m w [F, b1, b2, C, w.heap.size] w7 H cB vB eB h av) := by
    refine HK5.out.new (Tn.of_below hb57 []) (fun y hy => ?_) (fun y hy => ?_)
    · simp only [List.mem_cons, List.not_mem_nil, or_false] at hy
      rcases hy with rfl | rfl | rfl | hy
      · exact .inr (by omega)
      · exact .inr (by omega)
      · exact .inr (by omega)
      · exact .inl (by simpa using hy)
    · simp only [List.mem_cons, List.not_mem_nil, or_false] at hy
      rcases hy with rfl | rfl | rfl | hy
      · exact hFlt
      · omega
      · omega
      · have := HK5.out.1.avlt y (List.mem_append.2 (.inl (by simpa using hy)))
        omega
  have hzk : z = k + 1 := by rw [← hz, hk, List.length_take, List.length_map]; omega
  have HPR : Hid (Calls Try.prog 45 #[.slice (some ⟨b1, 0, none⟩) n1 d1, .int .i64 mark] w7 fun e w' => ∃ p c q d, e = .returned (.tuple #[.slice p z c, .slice q r d]) ∧ Below w7.heap.size w7 w') := by
    refine (prune_any (some ⟨b1, 0, none⟩) n1 d1 (l.map Ln.ver) mark w7 hn1 (hels1.below hb7 (Nat.le_refl _)) (by omega)).mono ?_
    rintro e w' ⟨u1, u2, rfl, ht⟩
    obtain ⟨p, c, hv, -⟩ := ht.o1.els vknd
    obtain ⟨q, d, hv2, -⟩ := ht.o2.els vknd
    rw [hz] at hv
    rw [hr] at hv2
    exact ⟨p, c, q, d, by rw [hv, hv2], ht.below⟩
  have hmem : (nextS c2 l k, nextG c3 l k) ∈ hds c2 c3 l := List.mem_of_getElem? (hds_at l c2 c3 k hkl)
  have hgk := (Chn.good HCC.out _ hmem).1
  have HCT : Hid (∀ w8, Below w7.heap.size w7 w8 → Hid (Calls Try.prog 46 #[.pointer (some ⟨H, 0, none⟩), .agg #[.slice (some ⟨b1, 0, none⟩) n1 d1, .slice (some ⟨b2, 0, none⟩) n2 d2], .int .i64 (z : Int)] w8 fun e w' => e = .returned (.tuple #[]) ∧ MidH m w [F, b1, b2, C, w.heap.size] w' H cB vB eB (h.pruned c2 c3 l k x) av)) := by
    intro w8 hb8
    have K8 := HK7.out.quiet (Tn.of_below hb8 [])
    rw [hzk]
    refine (cut_any K8.1 b1 0 b2 0 n1 d1 n2 d2 (l.map Ln.ver) (hds c2 c3 l) k x.ver (nextS c2 l k, nextG c3 l k) hn1 hn2 hcap1 hcap2 ((hels1.below hb7 (Nat.le_refl _)).below hb8 (Nat.le_refl _)) ((hels2.below hb7 (Nat.le_refl _)).below hb8 (Nat.le_refl _)) (by simp) (by simp) (by rw [List.getElem?_map, hx]; rfl) (hds_at l c2 c3 k hkl) hgk hn8 hcu).mono ?_
    rintro e w' ⟨rfl, ha⟩
    exact ⟨rfl, K8.call ha⟩
  have hz0 : ¬ (z : Int) = 0 := by omega
  have f1 : w7.cell? ⟨F, 1, none⟩ = some (.slice (some ⟨b2, 0, none⟩) n2 d2) := hk7.cell 1
  have HA7 : Hid (Bk w7 F 107 #[.slice (some ⟨b1, 0, none⟩) n1 d1, .slice (some ⟨b2, 0, none⟩) n2 d2]) := hk7
  clear htw hels1 hels2 hb6 hb7 hb57 hk7 HCH hn1 hn2 d0' d1' d2' d3' hcap1 hcap2 hge1 hge2 hlt1 hlt2 hn9 hn8 hz6 hz7 hFlt hgk hmem hkl hx hk hzk hl hz hr hcu
  go_wp2_with fail
  refine HPR.out.mono ?_
  rintro e w8 ⟨pp, pc, qq, qd, rfl, hb8⟩
  have hk8 := HA7.out.tn (Tn.of_below hb8 []) (by simp)
  have e0 : w8.cell? ⟨F, 0, none⟩ = some (.slice (some ⟨b1, 0, none⟩) n1 d1) := hk8.cell 0
  have e1 : w8.cell? ⟨F, 1, none⟩ = some (.slice (some ⟨b2, 0, none⟩) n2 d2) := hk8.cell 1
  have HC8 := HCT.out w8 hb8
  clear HCT HPR hk8 hb8 f0 f1
  go_wp2_with fail
  refine HC8.out.mono ?_
  rintro e w9 ⟨rfl, K9⟩
  have HK9 : Hid (MidH m w [F, b1, b2, C, w.heap.size] w9 H cB vB eB (h.pruned c2 c3 l k x) av) := K9
  clear HC8 K9
  go_wp2
  go_ret3
  exact ⟨rfl, HK9.out.fin⟩


set_option maxHeartbeats 1000000 in
/-- One that has no version is left as it is. -/
theorem prune_empty (hh : Hpn m w H cB vB eB h av) (hS hG mark : Int) (hg : h.c.Good hS hG) (hne : (slAt h.c.us hS.toNat).val.s = 0 ∧ (slAt h.c.us hS.toNat).val.g = 0) (hcd : (slAt h.c.us hS.toNat).val.closed = false) :
    Calls Try.prog 14 #[.pointer (some ⟨H, 0, none⟩), .agg #[.int .i64 hS, .int .i64 hG], .int .i64 mark] w fun e w' => e = .returned (.tuple #[.int .i64 0, .bool false, .int .i64 0]) ∧ AftH m w w' H cB vB eB h av := by
  obtain ⟨w2, hw2, hz2, hk1⟩ : ∃ w2, w.alloc (.cells #[.int .i64 hS, .int .i64 hG] 36) = w2 ∧ w2.heap.size = w.heap.size + 1 ∧ Bk w2 w.heap.size 36 #[.int .i64 hS, .int .i64 hG] := ⟨_, rfl, by simp, Bk.new _ _ _⟩
  have t2 : Tn [] w w2 := by rw [← hw2]; exact (Tn.refl _ _).alloc _
  have K2 : MidH m w [w.heap.size] w2 H cB vB eB h av := (MidH.start hh).new t2 (by simp) (by simp; omega)
  have HK2 : Hid (MidH m w [w.heap.size] w2 H cB vB eB h av) := K2
  have HA2 : Hid (Bk w2 w.heap.size 36 #[.int .i64 hS, .int .i64 hG]) := hk1
  have a0 : w2.cell? ⟨w.heap.size, 0, none⟩ = some (.int .i64 hS) := hk1.cell 0
  have a1 : w2.cell? ⟨w.heap.size, 1, none⟩ = some (.int .i64 hG) := hk1.cell 1
  obtain ⟨cl, hcl⟩ : ∃ cl, (slAt h.c.us hS.toNat).val = cl := ⟨_, rfl⟩
  have hlk := hlook_good K2.1 hS hG hg
  rw [hcl] at hlk hne hcd
  obtain ⟨c1, c2, c3, c4⟩ := cl
  obtain rfl : c4 = false := hcd
  have HLK : Hid (Calls Try.prog 43 #[.pointer (some ⟨H, 0, none⟩), .agg #[.int .i64 hS, .int .i64 hG]] w2 fun e w' => e = .returned (.tuple #[.agg #[.string c1, .int .i64 c2, .int .i64 c3, .bool false], .int .i64 0]) ∧ Below w2.heap.size w2 w') := hlk
  have HG : Hid (h.c.Good hS hG) := hg
  have HNE : Hid (decide (c2 = 0 ∧ c3 = 0) = true) := decide_eq_true hne
  clear hh t2 K2 hk1 hg hcl hlk hne
  go_enter Try.func14, Try.ntmps14
  go_wp2_with fail
  refine HLK.out.mono ?_
  rintro e w3 ⟨rfl, hb3⟩
  obtain ⟨wz, hwz, hzz, hkz⟩ : ∃ wz, w3.alloc (.cells #[.string ⟨#[]⟩, .int .i64 0, .int .i64 0, .bool false] 93) = wz ∧ wz.heap.size = w3.heap.size + 1 ∧ Bk wz w3.heap.size 93 #[.string ⟨#[]⟩, .int .i64 0, .int .i64 0, .bool false] := ⟨_, rfl, by simp, Bk.new _ _ _⟩
  have z0 : wz.cell? ⟨w3.heap.size, 0, none⟩ = some (.string ⟨#[]⟩) := hkz.cell 0
  have z1 : wz.cell? ⟨w3.heap.size, 1, none⟩ = some (.int .i64 0) := hkz.cell 1
  have z2 : wz.cell? ⟨w3.heap.size, 2, none⟩ = some (.int .i64 0) := hkz.cell 2
  have z3 : wz.cell? ⟨w3.heap.size, 3, none⟩ = some (.bool false) := hkz.cell 3
  have y0 : wz.frozen? ⟨w3.heap.size, 0, none⟩ = false := hkz.frozen 0
  have y1 : wz.frozen? ⟨w3.heap.size, 1, none⟩ = false := hkz.frozen 1
  have y2 : wz.frozen? ⟨w3.heap.size, 2, none⟩ = false := hkz.frozen 2
  have y3 : wz.frozen? ⟨w3.heap.size, 3, none⟩ = false := hkz.frozen 3
  obtain ⟨w4, hw4, hz4, hk4, t34⟩ : ∃ w4, (((wz.setCell ⟨w3.heap.size, 0, none⟩ (.string c1)).setCell ⟨w3.heap.size, 1, none⟩ (.int .i64 c2)).setCell ⟨w3.heap.size, 2, none⟩ (.int .i64 c3)).setCell ⟨w3.heap.size, 3, none⟩ (.bool false) = w4 ∧ w4.heap.size = w3.heap.size + 1 ∧ Bk w4 w3.heap.size 93 #[.string c1, .int .i64 c2, .int .i64 c3, .bool false] ∧ Tn [] w3 w4 := ⟨_, rfl, by simp [hzz], (((hkz.set 0 _).set 1 _).set 2 _).set 3 _, by rw [← hwz]; exact (((((Tn.refl [] w3).alloc _).setCell (.inr (Nat.le_refl _)) _).setCell (.inr (Nat.le_refl _)) _).setCell (.inr (Nat.le_refl _)) _).setCell (.inr (Nat.le_refl _)) _⟩
  obtain ⟨C, hC⟩ : ∃ C, w3.heap.size = C := ⟨_, rfl⟩
  rw [hC] at hw4 z0 z1 z2 z3 y0 y1 y2 y3 hk4
  have hz3 := hb3.size
  have HK4 : Hid (MidH m w [C, w.heap.size] w4 H cB vB eB h av) := (HK2.out.quiet (Tn.of_below hb3 [])).new t34 (by rw [← hC]; simp) (by rw [← hC]; simp; omega)
  have HA4 : Hid (Bk w4 w.heap.size 36 #[.int .i64 hS, .int .i64 hG] ∧ Bk w4 C 93 #[.string c1, .int .i64 c2, .int .i64 c3, .bool false] ∧ w.heap.size + 1 ≤ C) := ⟨(HA2.out.tn (Tn.of_below hb3 []) (by simp)).tn t34 (by simp), hk4, by omega⟩
  have c0' : w4.cell? ⟨C, 0, none⟩ = some (.string c1) := HA4.out.2.1.cell 0
  have c1' : w4.cell? ⟨C, 1, none⟩ = some (.int .i64 c2) := HA4.out.2.1.cell 1
  have c2' : w4.cell? ⟨C, 2, none⟩ = some (.int .i64 c3) := HA4.out.2.1.cell 2
  have c3' : w4.cell? ⟨C, 3, none⟩ = some (.bool false) := HA4.out.2.1.cell 3
  clear hk4 t34 hb3 HLK a0 a1 hz3
  go_wp2_with fail
  refine (empty_any w4 ⟨c1, c2, c3, false⟩).mono ?_
  rintro e w5 ⟨rfl, hb5⟩
  rw [HNE.out]
  have HK5 : Hid (MidH m w [C, w.heap.size] w5 H cB vB eB h av) := HK4.out.quiet (Tn.of_below hb5 [])
  have d3' : w5.cell? ⟨C, 3, none⟩ = some (.bool false) := (HA4.out.2.1.tn (Tn.of_below hb5 []) (by simp)).cell 3
  clear hb5 c0' c1' c2' c3' z0 z1 z2 z3 y0 y1 y2 y3
  go_wp2
  go_quiet (fail)
  go_wp2
  go_ret3
  exact ⟨rfl, (HK5.out.quiet (tn_drewN _ _)).fin⟩

set_option maxHeartbeats 1000000 in
/-- One that is closed is left as it is. -/
theorem prune_closed (hh : Hpn m w H cB vB eB h av) (hS hG mark : Int) (hg : h.c.Good hS hG) (hcd : (slAt h.c.us hS.toNat).val.closed = true) :
    Calls Try.prog 14 #[.pointer (some ⟨H, 0, none⟩), .agg #[.int .i64 hS, .int .i64 hG], .int .i64 mark] w fun e w' => e = .returned (.tuple #[.int .i64 0, .bool true, .int .i64 0]) ∧ AftH m w w' H cB vB eB h av := by
  obtain ⟨w2, hw2, hk1⟩ : ∃ w2, w.alloc (.cells #[.int .i64 hS, .int .i64 hG] 36) = w2 ∧ Bk w2 w.heap.size 36 #[.int .i64 hS, .int .i64 hG] := ⟨_, rfl, Bk.new _ _ _⟩
  have t2 : Tn [] w w2 := by rw [← hw2]; exact (Tn.refl _ _).alloc _
  have HK2 : Hid (Hpn m w2 H cB vB eB h av ∧ AftH m w w2 H cB vB eB h av) := ⟨hh.quiet t2, AftH.quiet hh t2⟩
  have a0 : w2.cell? ⟨w.heap.size, 0, none⟩ = some (.int .i64 hS) := hk1.cell 0
  have a1 : w2.cell? ⟨w.heap.size, 1, none⟩ = some (.int .i64 hG) := hk1.cell 1
  obtain ⟨cl, hcl⟩ : ∃ cl, (slAt h.c.us hS.toNat).val = cl := ⟨_, rfl⟩
  have hlk := hlook_good HK2.out.1 hS hG hg
  rw [hcl] at hlk hcd
  obtain ⟨c1, c2, c3, c4⟩ := cl
  obtain rfl : c4 = true := hcd
  have HLK : Hid (Calls Try.prog 43 #[.pointer (some ⟨H, 0, none⟩), .agg #[.int .i64 hS, .int .i64 hG]] w2 fun e w' => e = .returned (.tuple #[.agg #[.string c1, .int .i64 c2, .int .i64 c3, .bool true], .int .i64 0]) ∧ Below w2.heap.size w2 w') := hlk
  clear hh t2 hk1 hg hcl hlk
  go_enter Try.func14, Try.ntmps14
  go_wp2_with fail
  refine HLK.out.mono ?_
  rintro e w3 ⟨rfl, hb3⟩
  obtain ⟨w5, hw5, hk5⟩ : ∃ w5, w3.alloc (.cells #[.string c1, .int .i64 c2, .int .i64 c3, .bool true] 93) = w5 ∧ Bk w5 w3.heap.size 93 #[.string c1, .int .i64 c2, .int .i64 c3, .bool true] := ⟨_, rfl, Bk.new _ _ _⟩
  have HK5 : Hid (AftH m w w5 H cB vB eB h av) := HK2.out.2.trans (AftH.quiet HK2.out.1 (by rw [← hw5]; exact (Tn.of_below hb3 []).alloc _))
  have d3' : w5.cell? ⟨w3.heap.size, 3, none⟩ = some (.bool true) := hk5.cell 3
  clear hb3 hk5
  go_wp2
  go_quiet (fail)
  go_wp2
  go_ret3
  exact ⟨rfl, HK5.out.trans (AftH.quiet HK5.out.1 (tn_drewN _ _))⟩

end Go.Proofs.Ytbdcdiihaecheaa

namespace Go.Proofs.Ytbdcdiihaecheaa
open Go.RowKit
set_option linter.unusedVariables false
set_option maxRecDepth 100000
set_option linter.unusedSectionVars false
variable [Inhabited Cl] [Inhabited Ln]

variable {m : Nat} {w w1 w2 w' : World} {H cB vB eB : Nat} {cb vb eb : List Nat} {h h' : Hp} {av L L' : List Nat}

/-- What Install makes of it: a link at the chain's head. -/
def Hp.instC (h : Hp) (s : Nat) (x : Vs) (cl : Cl) : Hp := { (h.setSh s { shAt h.sh s with v := (shAt h.sh s).v - 1 }) with v := h.v.put ⟨x.ts, x.val, x.del, cl.s, cl.g⟩ }
def Hp.inst (h : Hp) (s : Nat) (i : Nat) (x : Vs) : Hp :=
  { (h.instC s x (slAt h.c.us i).val) with c := h.c.set i { (slAt h.c.us i).val with s := (low h.v.us : Int), g := h.v.gen } }

set_option maxHeartbeats 4000000 in
theorem install_ok (hh : Hpn m w H cB vB eB h av) (s : Nat) (hs : s < 17) (hn : (shAt h.sh s).has = true) (hS hG : Int) (hg : h.c.Good hS hG) (x : Vs) (l : List Ln) (hc : Chn h.v (slAt h.c.us hS.toNat).val.s (slAt h.c.us hS.toNat).val.g l) (hl : l.length ≤ 65536) (hcd : (slAt h.c.us hS.toNat).val.closed = false)
    (hx : x.val.size ≤ 9223372036854775807) (hp : Vr.putE (l.map Ln.ver) x = 0) (hv : 0 < (shAt h.sh s).v) (hv9 : (shAt h.sh s).v ≤ 65536) (hlv : live h.v.us < h.v.size) (hg1 : 1 ≤ h.v.gen) (hg2 : h.v.gen ≤ 9223372036854775807) :
    Calls Try.prog 13 #[.pointer (some ⟨H, 0, none⟩), .int .i64 (s : Int), .agg #[.int .i64 hS, .int .i64 hG], x.v] w fun e w' => e = .returned (.int .i64 0) ∧ AftH m w w' H cB vB eB (h.inst s hS.toNat x) av := by
  obtain ⟨x1, x2, x3⟩ := x
  obtain ⟨w2, hw2, hz2, hk1, hk2⟩ : ∃ w2, (w.alloc (.cells #[.int .i64 hS, .int .i64 hG] 36)).alloc (.cells #[.int .i64 x1, .string x2, .bool x3] 34) = w2 ∧ w2.heap.size = w.heap.size + 2 ∧ Bk w2 w.heap.size 36 #[.int .i64 hS, .int .i64 hG] ∧ Bk w2 (w.heap.size + 1) 34 #[.int .i64 x1, .string x2, .bool x3] := ⟨_, rfl, by simp, (Bk.new _ _ _).alloc _, bk_new2 _ _ _ _⟩
  have t2 : Tn [] w w2 := by rw [← hw2]; exact ((Tn.refl _ _).alloc _).alloc _
  have K2 : MidH m w [w.heap.size, w.heap.size + 1] w2 H cB vB eB h av := (MidH.start hh).new t2 (by simp) (by simp; omega)
  have HK2 : Hid (MidH m w [w.heap.size, w.heap.size + 1] w2 H cB vB eB h av) := K2
  have HA2 : Hid (Bk w2 w.heap.size 36 #[.int .i64 hS, .int .i64 hG] ∧ Bk w2 (w.heap.size + 1) 34 #[.int .i64 x1, .string x2, .bool x3]) := ⟨hk1, hk2⟩
  have a0 : w2.cell? ⟨w.heap.size, 0, none⟩ = some (.int .i64 hS) := hk1.cell 0
  have a1 : w2.cell? ⟨w.heap.size, 1, none⟩ = some (.int .i64 hG) := hk1.cell 1
  have HASK : Hid (Calls Try.prog 38 #[.pointer (some ⟨H, 0, none⟩), .int .i64 (s : Int), .agg #[.int .i64 hS, .int .i64 hG]] w2 fun e w' => e = .returned (.tuple #[.pointer (some ⟨H, 3 + s * 3, none⟩), (slAt h.c.us hS.toNat).val.v, .int .i64 0]) ∧ Below w2.heap.size w2 w') := ask_good K2.1 s hs hn hS hG hg
  have HSS : Hid (s < 17) := hs
  obtain ⟨cl, hcl⟩ : ∃ cl, (slAt h.c.us hS.toNat).val = cl := ⟨_, rfl⟩
  rw [hcl] at HASK
  rw [hcl] at hc hcd
  have HCL : Hid ((slAt h.c.us hS.toNat).val = cl) := hcl
  have HG : Hid (h.c.Good hS hG) := hg
  obtain ⟨c1, c2, c3, c4⟩ := cl
  obtain rfl : c4 = false := hcd
  clear hh t2 K2 hk1 hk2 hs hn hg hcl
  go_enter Try.func13, Try.ntmps13
  go_wp2_with fail
  refine HASK.out.mono ?_
  rintro e w3 ⟨rfl, hb3⟩
  obtain ⟨wz, hwz, hzz, hkz⟩ : ∃ wz, w3.alloc (.cells #[.string ⟨#[]⟩, .int .i64 0, .int .i64 0, .bool false] 93) = wz ∧ wz.heap.size = w3.heap.size + 1 ∧ Bk wz w3.heap.size 93 #[.string ⟨#[]⟩, .int .i64 0, .int .i64 0, .bool false] := ⟨_, rfl, by simp, Bk.new _ _ _⟩
  have z0 : wz.cell? ⟨w3.heap.size, 0, none⟩ = some (.string ⟨#[]⟩) := hkz.cell 0
  have z1 : wz.cell? ⟨w3.heap.size, 1, none⟩ = some (.int .i64 0) := hkz.cell 1
  have z2 : wz.cell? ⟨w3.heap.size, 2, none⟩ = some (.int .i64 0) := hkz.cell 2
  have z3 : wz.cell? ⟨w3.heap.size, 3, none⟩ = some (.bool false) := hkz.cell 3
  have y0 : wz.frozen? ⟨w3.heap.size, 0, none⟩ = false := hkz.frozen 0
  have y1 : wz.frozen? ⟨w3.heap.size, 1, none⟩ = false := hkz.frozen 1
  have y2 : wz.frozen? ⟨w3.heap.size, 2, none⟩ = false := hkz.frozen 2
  have y3 : wz.frozen? ⟨w3.heap.size, 3, none⟩ = false := hkz.frozen 3
  obtain ⟨w4, hw4, hz4, hk4, t34⟩ : ∃ w4, (((wz.setCell ⟨w3.heap.size, 0, none⟩ (.string c1)).setCell ⟨w3.heap.size, 1, none⟩ (.int .i64 c2)).setCell ⟨w3.heap.size, 2, none⟩ (.int .i64 c3)).setCell ⟨w3.heap.size, 3, none⟩ (.bool false) = w4 ∧ w4.heap.size = w3.heap.size + 1 ∧ Bk w4 w3.heap.size 93 #[.string c1, .int .i64 c2, .int .i64 c3, .bool false] ∧ Tn [] w3 w4 := ⟨_, rfl, by simp [hzz], (((hkz.set 0 _).set 1 _).set 2 _).set 3 _, by rw [← hwz]; exact (((((Tn.refl [] w3).alloc _).setCell (.inr (Nat.le_refl _)) _).setCell (.inr (Nat.le_refl _)) _).setCell (.inr (Nat.le_refl _)) _).setCell (.inr (Nat.le_refl _)) _⟩
  obtain ⟨C, hC⟩ : ∃ C, w3.heap.size = C := ⟨_, rfl⟩
  rw [hC] at hw4 z0 z1 z2 z3 y0 y1 y2 y3 hk4
  have hzw := HK2.out.2.1.size
  have hz3 := hb3.size
  have HK4 : Hid (MidH m w [C, w.heap.size, w.heap.size + 1] w4 H cB vB eB h av) := (HK2.out.quiet (Tn.of_below hb3 [])).new t34 (by rw [← hC]; simp) (by have := HK2.out.1.avlt w.heap.size (by simp); have := HK2.out.1.avlt (w.heap.size + 1) (by simp); rw [← hC]; simp; omega)
  have HA4 : Hid (Bk w4 w.heap.size 36 #[.int .i64 hS, .int .i64 hG] ∧ Bk w4 (w.heap.size + 1) 34 #[.int .i64 x1, .string x2, .bool x3] ∧ Bk w4 C 93 #[.string c1, .int .i64 c2, .int .i64 c3, .bool false] ∧ w.heap.size + 2 ≤ C) := ⟨(HA2.out.1.tn (Tn.of_below hb3 []) (by simp)).tn t34 (by simp), (HA2.out.2.tn (Tn.of_below hb3 []) (by simp)).tn t34 (by simp), hk4, by have := HK2.out.1.avlt (w.heap.size + 1) (by simp); omega⟩
  rw [hC] at hz4
  have c0' : w4.cell? ⟨C, 0, none⟩ = some (.string c1) := HA4.out.2.2.1.cell 0
  have c1' : w4.cell? ⟨C, 1, none⟩ = some (.int .i64 c2) := HA4.out.2.2.1.cell 1
  have c2' : w4.cell? ⟨C, 2, none⟩ = some (.int .i64 c3) := HA4.out.2.2.1.cell 2
  have c3' : w4.cell? ⟨C, 3, none⟩ = some (.bool false) := HA4.out.2.2.1.cell 3
  clear hk4 t34 hb3 HASK a0 a1 hzw hz3
  go_wp2_with fail
  have HCH : Hid (Calls Try.prog 39 #[.pointer (some ⟨H, 0, none⟩), .agg #[.string c1, .int .i64 c2, .int .i64 c3, .bool false]] w4 fun e w' => ∃ v1 v2, e = .returned (.tuple #[.agg #[v1, v2], .int .i64 0]) ∧ TwoH w4.heap.size w' v1 v2 (l.map Ln.ver) (hds c2 c3 l) ∧ Below w4.heap.size w4 w') := chain_good HK4.out.1 ⟨c1, c2, c3, false⟩ l hc hl
  clear c0' c1' c2' c3' hc
  refine HCH.out.mono ?_
  rintro e w5 ⟨v1, v2, rfl, htw, hb5⟩
  obtain ⟨q1, n1, d1, rfl, hels, hnil, hn1⟩ : ∃ p n c, v1 = .slice p n c ∧ Vrs w5 p (l.map Ln.ver) ∧ (p = none → n = 0 ∧ c = 0) ∧ (l.map Ln.ver).length = n := by
    obtain ⟨p, c, hv, he, hn, -⟩ := htw.o1.els vknd
    exact ⟨p, _, c, hv, he, hn, rfl⟩
  obtain ⟨q2, n2, d2, rfl⟩ : ∃ p n c, v2 = .slice p n c := by
    obtain ⟨p, c, hv, -⟩ := htw.o2.els hdK
    exact ⟨p, _, c, hv⟩
  have hn9 : n1 ≤ 65536 := by rw [← hn1, List.length_map]; exact hl
  obtain ⟨w6, hw6, hz6, hk6⟩ : ∃ w6, w5.alloc (.cells #[.slice q1 n1 d1, .slice q2 n2 d2] 107) = w6 ∧ w6.heap.size = w5.heap.size + 1 ∧ Bk w6 w5.heap.size 107 #[.slice q1 n1 d1, .slice q2 n2 d2] := ⟨_, rfl, by simp, Bk.new _ _ _⟩
  have t56 : Tn [] w5 w6 := by rw [← hw6]; exact (Tn.refl _ _).alloc _
  have b56 : Below w5.heap.size w5 w6 := by rw [← hw6]; exact (Below.refl _ _).alloc (Nat.le_refl _) _
  obtain ⟨F, hF⟩ : ∃ F, w5.heap.size = F := ⟨_, rfl⟩
  have hz5 := hb5.size
  have HEL : Hid (Vrs w6 q1 (l.map Ln.ver)) := hels.below b56 (Nat.le_refl _)
  have HK6 : Hid (MidH m w [F, C, w.heap.size, w.heap.size + 1] w6 H cB vB eB h av) := by
    have k5 := HK4.out.quiet (Tn.of_below hb5 [])
    refine k5.new t56 (by rw [← hF]; simp) (fun x hx => ?_)
    rcases List.mem_cons.1 hx with rfl | hx
    · omega
    · have := k5.1.avlt x (List.mem_append.2 (.inl hx)); omega
  have HA6 : Hid (Bk w6 w.heap.size 36 #[.int .i64 hS, .int .i64 hG] ∧ Bk w6 (w.heap.size + 1) 34 #[.int .i64 x1, .string x2, .bool x3] ∧ Bk w6 C 93 #[.string c1, .int .i64 c2, .int .i64 c3, .bool false] ∧ w.heap.size + 2 ≤ C) := ⟨(HA4.out.1.tn (Tn.of_below hb5 []) (by simp)).tn t56 (by simp), (HA4.out.2.1.tn (Tn.of_below hb5 []) (by simp)).tn t56 (by simp), (HA4.out.2.2.1.tn (Tn.of_below hb5 []) (by simp)).tn t56 (by simp), HA4.out.2.2.2⟩
  rw [hF] at hz6 hk6
  have f0 : w6.cell? ⟨F, 0, none⟩ = some (.slice q1 n1 d1) := hk6.cell 0
  have v0 : w6.cell? ⟨w.heap.size + 1, 0, none⟩ = some (.int .i64 x1) := HA6.out.2.1.cell 0
  have v1 : w6.cell? ⟨w.heap.size + 1, 1, none⟩ = some (.string x2) := HA6.out.2.1.cell 1
  have v2 : w6.cell? ⟨w.heap.size + 1, 2, none⟩ = some (.bool x3) := HA6.out.2.1.cell 2
  have HPV : Hid (Calls Try.prog 40 #[.slice q1 n1 d1, .agg #[.int .i64 x1, .string x2, .bool x3]] w6 fun e w' => ∃ u, e = .returned (.tuple #[u, .int .i64 (Vr.putE (l.map Ln.ver) ⟨x1, x2, x3⟩)]) ∧ OwnV w' w6.heap.size u (Vr.putL (l.map Ln.ver) ⟨x1, x2, x3⟩) ∧ Below w6.heap.size w6 w') := put_any q1 n1 d1 (l.map Ln.ver) ⟨x1, x2, x3⟩ w6 hn1 HEL.out (fun e => by have := hnil e; omega) hx (by omega)
  clear htw hels hnil hb5 t56 b56 hk6 HCH HEL hn1
  go_wp2_with fail
  refine HPV.out.mono ?_
  rintro e w7 ⟨u, rfl, -, hb7⟩
  have HK7 : Hid (MidH m w [F, C, w.heap.size, w.heap.size + 1] w7 H cB vB eB h av) := HK6.out.quiet (Tn.of_below hb7 [])
  have HA7 : Hid (Bk w7 w.heap.size 36 #[.int .i64 hS, .int .i64 hG] ∧ Bk w7 (w.heap.size + 1) 34 #[.int .i64 x1, .string x2, .bool x3] ∧ Bk w7 C 93 #[.string c1, .int .i64 c2, .int .i64 c3, .bool false]) := ⟨HA6.out.1.tn (Tn.of_below hb7 []) (by simp), HA6.out.2.1.tn (Tn.of_below hb7 []) (by simp), HA6.out.2.2.1.tn (Tn.of_below hb7 []) (by simp)⟩
  obtain ⟨-, -, s2⟩ := HK7.out.1.shc s HSS.out
  have fs2 := HK7.out.1.frz (3 + s * 3 + 2)
  clear hb7 HPV f0 v0 v1 v2
  obtain ⟨k, hck⟩ : ∃ k : Nat, (shAt h.sh s).v = k + 1 := ⟨(shAt h.sh s).v - 1, by omega⟩
  rw [hck] at s2 hv9
  obtain ⟨z, hz⟩ : ∃ z, ((k + 1 : Nat) : Int) = z := ⟨_, rfl⟩
  rw [hz] at s2
  have hne : ¬ z = 0 := by omega
  have hz9 : z ≤ 65536 := by omega
  have hz0 : 1 ≤ z := by omega
  have hzk : z - 1 = (k : Int) := by omega
  -- the share
  obtain ⟨w8, hw8⟩ : ∃ w8, w7.setCell ⟨H, 3 + s * 3 + 2, none⟩ (.int .i64 (k : Int)) = w8 := ⟨_, rfl⟩
  have HK8 : Hid (MidH m w [F, C, w.heap.size, w.heap.size + 1] w8 H cB vB eB (h.setSh s { shAt h.sh s with v := k }) av) := by
    obtain ⟨cb, vb, eb, hI⟩ := HK7.out.1
    exact HK7.out.call (hI.putV s HSS.out k hw8.symm)
  have HA8 : Hid (Bk w8 w.heap.size 36 #[.int .i64 hS, .int .i64 hG] ∧ Bk w8 (w.heap.size + 1) 34 #[.int .i64 x1, .string x2, .bool x3] ∧ Bk w8 C 93 #[.string c1, .int .i64 c2, .int .i64 c3, .bool false]) := by
    have hne : ∀ y ∈ [F, C, w.heap.size, w.heap.size + 1], y ≠ H := fun y hy => by
      obtain ⟨_, _, _, hI⟩ := HK7.out.1
      exact (hI.av y (List.mem_append.2 (.inl hy))).2.1
    rw [← hw8]
    exact ⟨HA7.out.1.other (hne _ (by simp)) _, HA7.out.2.1.other (hne _ (by simp)) _, HA7.out.2.2.other (hne _ (by simp)) _⟩
  have hCH : ¬ C = H := by
    obtain ⟨_, _, _, hI⟩ := HK8.out.1
    exact (hI.av C (by simp)).2.1
  have hCH2 : ¬ H = C := fun e => hCH e.symm
  have hC2 := HA6.out.2.2.2
  have hCV : ¬ C = w.heap.size + 1 := by omega
  have hCV2 : ¬ w.heap.size + 1 = C := by omega
  have hCA : ¬ C = w.heap.size := by omega
  have hCA2 : ¬ w.heap.size = C := by omega
  have HPUT : Hid (Calls Try.prog 41 #[.pointer (some ⟨vB, 0, none⟩), .agg #[.int .i64 x1, .string x2, .bool x3, .int .i64 c2, .int .i64 c3]] w8.drew fun e w' => e = .returned (.tuple #[.agg #[.int .i64 (low h.v.us : Int), .int .i64 h.v.gen], .int .i64 0]) ∧ MidH m w [F, C, w.heap.size, w.heap.size + 1] w' H cB vB eB (h.instC s ⟨x1, x2, x3⟩ ⟨c1, c2, c3, false⟩) av ∧ Bk w' w.heap.size 36 #[.int .i64 hS, .int .i64 hG] ∧ Bk w' (w.heap.size + 1) 34 #[.int .i64 x1, .string x2, .bool x3] ∧ Bk w' C 93 #[.string c1, .int .i64 c2, .int .i64 c3, .bool false]) := by
    have K8 := HK8.out.quiet (Tn.refl [] _).drew
    obtain ⟨cb, vb, eb, hI⟩ := K8.1
    refine (putOkL hI.v ⟨x1, x2, x3, c2, c3⟩ hlv hg1 hg2).mono ?_
    rintro e w9 ⟨rfl, ht⟩
    have ha := hI.stepV ht
    have e : h.instC s ⟨x1, x2, x3⟩ ⟨c1, c2, c3, false⟩ = { (h.setSh s { shAt h.sh s with v := k }) with v := h.v.put ⟨x1, x2, x3, c2, c3⟩ } := by unfold Hp.instC; rw [hck]; rfl
    rw [e]
    exact ⟨rfl, K8.call ha, ha.blk (by simp) HA8.out.1.drew, ha.blk (by simp) HA8.out.2.1.drew, ha.blk (by simp) HA8.out.2.2.drew⟩
  obtain ⟨ps, hps⟩ : ∃ ps, (low h.v.us : Int) = ps := ⟨_, rfl⟩
  obtain ⟨pg, hpg⟩ : ∃ pg, h.v.gen = pg := ⟨_, rfl⟩
  rw [hps, hpg] at HPUT
  have HPG : Hid ((low h.v.us : Int) = ps ∧ h.v.gen = pg) := ⟨hps, hpg⟩
  have p1 : w8.cell? ⟨H, 1, none⟩ = some (.pointer (some ⟨vB, 0, none⟩)) := HK8.out.1.ptrs.2.1
  have v0 : w8.cell? ⟨w.heap.size + 1, 0, none⟩ = some (.int .i64 x1) := HA8.out.2.1.cell 0
  have v1 : w8.cell? ⟨w.heap.size + 1, 1, none⟩ = some (.string x2) := HA8.out.2.1.cell 1
  have v2 : w8.cell? ⟨w.heap.size + 1, 2, none⟩ = some (.bool x3) := HA8.out.2.1.cell 2
  have d1 : w8.cell? ⟨C, 1, none⟩ = some (.int .i64 c2) := HA8.out.2.2.cell 1
  have d2 : w8.cell? ⟨C, 2, none⟩ = some (.int .i64 c3) := HA8.out.2.2.cell 2
  have HGD : Hid ((h.instC s ⟨x1, x2, x3⟩ ⟨c1, c2, c3, false⟩).c = h.c) := rfl
  rw [hp]
  clear hck hz hps hpg hlv hg1 hg2 hv hv9 HK8 HA8 HK7 HA7 HK6 HA6 HK4 HA4 HK2 HA2 hp hx hl hn9 hC hF hw2 hw4 hw6 hz2 hz4 hz5 hz6 hC2
  go_wp2_with fail
  go_region_with (go_at_call 41; refine HPUT.out.mono ?_; rintro e w9 ⟨rfl, K9, k9a, k9v, k9c⟩; have HK9 : Hid (MidH m w [F, C, w.heap.size, w.heap.size + 1] w9 H cB vB eB (h.instC s ⟨x1, x2, x3⟩ ⟨c1, c2, c3, false⟩) av) := K9; have HA9 : Hid (Bk w9 w.heap.size 36 #[.int .i64 hS, .int .i64 hG] ∧ Bk w9 C 93 #[.string c1, .int .i64 c2, .int .i64 c3, .bool false]) := ⟨k9a, k9c⟩; have p19 : w9.cell? ⟨H, 1, none⟩ = some (.pointer (some ⟨vB, 0, none⟩)) := HK9.out.1.ptrs.2.1; have v09 : w9.cell? ⟨w.heap.size + 1, 0, none⟩ = some (.int .i64 x1) := k9v.cell 0; have v19 : w9.cell? ⟨w.heap.size + 1, 1, none⟩ = some (.string x2) := k9v.cell 1; have v29 : w9.cell? ⟨w.heap.size + 1, 2, none⟩ = some (.bool x3) := k9v.cell 2; have d19 : w9.cell? ⟨C, 1, none⟩ = some (.int .i64 c2) := k9c.cell 1; have d29 : w9.cell? ⟨C, 2, none⟩ = some (.int .i64 c3) := k9c.cell 2; have e19 : w9.frozen? ⟨C, 1, none⟩ = false := k9c.frozen 1; have e29 : w9.frozen? ⟨C, 2, none⟩ = false := k9c.frozen 2; clear K9 k9a k9v k9c)
  all_goals (
    obtain ⟨w10, hw10⟩ : ∃ w10, (w9.setCell ⟨C, 1, none⟩ (.int .i64 ps)).setCell ⟨C, 2, none⟩ (.int .i64 pg) = w10 := ⟨_, rfl⟩
    have HK10 : Hid (MidH m w [F, C, w.heap.size, w.heap.size + 1] w10 H cB vB eB (h.instC s ⟨x1, x2, x3⟩ ⟨c1, c2, c3, false⟩) av) := by
      rw [← hw10]
      exact HK9.out.own (((Tn.refl _ _).setCell (.inl (by simp)) _).setCell (.inl (by simp)) _)
    have HA10 : Hid (Bk w10 w.heap.size 36 #[.int .i64 hS, .int .i64 hG] ∧ Bk w10 C 93 #[.string c1, .int .i64 ps, .int .i64 pg, .bool false]) := by
      rw [← hw10]
      exact ⟨(HA9.out.1.other hCA2 _).other hCA2 _, (HA9.out.2.set 1 _).set 2 _⟩
    have HSET : Hid (Calls Try.prog 42 #[.pointer (some ⟨cB, 0, none⟩), .agg #[.int .i64 hS, .int .i64 hG], .agg #[.string c1, .int .i64 ps, .int .i64 pg, .bool false]] w10.drew fun e w' => e = .returned (.int .i64 0) ∧ MidH m w [F, C, w.heap.size, w.heap.size + 1] w' H cB vB eB (h.inst s hS.toNat ⟨x1, x2, x3⟩) av ∧ Bk w' w.heap.size 36 #[.int .i64 hS, .int .i64 hG] ∧ Bk w' C 93 #[.string c1, .int .i64 ps, .int .i64 pg, .bool false]) := by
      have K10 := HK10.out.quiet (Tn.refl [] _).drew
      obtain ⟨cb, vb, eb, hI⟩ := K10.1
      refine (setGoodC hI.c hS hG ⟨c1, ps, pg, false⟩ HG.out).mono ?_
      rintro e w11 ⟨rfl, ht⟩
      have e : h.inst s hS.toNat ⟨x1, x2, x3⟩ = { (h.instC s ⟨x1, x2, x3⟩ ⟨c1, c2, c3, false⟩) with c := h.c.set hS.toNat ⟨c1, ps, pg, false⟩ } := by
        unfold Hp.inst
        rw [HCL.out, HPG.out.1, HPG.out.2]
      rw [e]
      have ha := hI.stepC ht
      exact ⟨rfl, K10.call ha, ha.blk (by simp) HA10.out.1.drew, ha.blk (by simp) HA10.out.2.drew⟩
    have p0 : w10.cell? ⟨H, 0, none⟩ = some (.pointer (some ⟨cB, 0, none⟩)) := HK10.out.1.ptrs.1
    have m0 : w10.cell? ⟨w.heap.size, 0, none⟩ = some (.int .i64 hS) := HA10.out.1.cell 0
    have m1 : w10.cell? ⟨w.heap.size, 1, none⟩ = some (.int .i64 hG) := HA10.out.1.cell 1
    have n0 : w10.cell? ⟨C, 0, none⟩ = some (.string c1) := HA10.out.2.cell 0
    have n1 : w10.cell? ⟨C, 1, none⟩ = some (.int .i64 ps) := HA10.out.2.cell 1
    have n2 : w10.cell? ⟨C, 2, none⟩ = some (.int .i64 pg) := HA10.out.2.cell 2
    have n3 : w10.cell? ⟨C, 3, none⟩ = some (.bool false) := HA10.out.2.cell 3
    rw [hw10]
    clear hw10 HK10 HA10 HK9 HA9 HPUT p19 v09 v19 v29 d19 d29 e19 e29 p1 v0 v1 v2 d1 d2
    go_wp2_with fail
    go_region_held3 (fun w' => w'.cell? ⟨H, 0, none⟩ = some (.pointer (some ⟨cB, 0, none⟩)) ∧ w'.cell? ⟨w.heap.size, 0, none⟩ = some (.int .i64 hS) ∧ w'.cell? ⟨w.heap.size, 1, none⟩ = some (.int .i64 hG) ∧ w'.cell? ⟨C, 0, none⟩ = some (.string c1) ∧ w'.cell? ⟨C, 1, none⟩ = some (.int .i64 ps) ∧ w'.cell? ⟨C, 2, none⟩ = some (.int .i64 pg) ∧ w'.cell? ⟨C, 3, none⟩ = some (.bool false)) (go_keep) (first
      | (go_at_call 42; refine HSET.out.mono ?_; rintro e w11 ⟨rfl, K11, k11a, k11c⟩; have HK11 : Hid (MidH m w [F, C, w.heap.size, w.heap.size + 1] w11 H cB vB eB (h.inst s hS.toNat ⟨x1, x2, x3⟩) av) := K11; have o0 : w11.cell? ⟨H, 0, none⟩ = some (.pointer (some ⟨cB, 0, none⟩)) := HK11.out.1.ptrs.1; have o1 : w11.cell? ⟨w.heap.size, 0, none⟩ = some (.int .i64 hS) := k11a.cell 0; have o2 : w11.cell? ⟨w.heap.size, 1, none⟩ = some (.int .i64 hG) := k11a.cell 1; have o3 : w11.cell? ⟨C, 0, none⟩ = some (.string c1) := k11c.cell 0; have o4 : w11.cell? ⟨C, 1, none⟩ = some (.int .i64 ps) := k11c.cell 1; have o5 : w11.cell? ⟨C, 2, none⟩ = some (.int .i64 pg) := k11c.cell 2; have o6 : w11.cell? ⟨C, 3, none⟩ = some (.bool false) := k11c.cell 3; clear K11 k11a k11c))
    go_wp2
    go_ret
    exact ⟨rfl, HK11.out.fin⟩)

end Go.Proofs.Ytbdcdiihaecheaa

namespace Go.Proofs.Ytbdcdiihaecheaa
open Go.RowKit
set_option linter.unusedVariables false
set_option maxRecDepth 100000
set_option linter.unusedSectionVars false
variable [Inhabited Cl] [Inhabited Ln]

/-- A cell with its versions. -/
structure CellAt (h : Hp) (s g : Int) (b : Bool) (L : List Ln) : Prop where
  good : h.c.Good s g
  chn : Chn h.v (slAt h.c.us s.toNat).val.s (slAt h.c.us s.toNat).val.g L
  shut : (slAt h.c.us s.toNat).val.closed = b

theorem Ar.Good.lt {α : Type} [Inhabited α] {a : Ar α} {s g : Int} (h : a.Good s g) : s.toNat < a.us.length := by
  have := h.1; have := h.2.1; omega

/-- The link that an Install makes. -/
def Hp.link (h : Hp) (i : Nat) (x : Vs) : Ln := ⟨x.ts, x.val, x.del, (slAt h.c.us i).val.s, (slAt h.c.us i).val.g⟩

theorem CellAt.inst {h : Hp} {s g : Int} {L : List Ln} (k : CellAt h s g false L) (q : Nat) (x : Vs) (h1 : 1 ≤ h.v.gen) : CellAt (h.inst q s.toNat x) s g false (h.link s.toNat x :: L) := by
  have hi := k.good.lt
  have e : (slAt (h.inst q s.toNat x).c.us s.toNat).val = { (slAt h.c.us s.toNat).val with s := (low h.v.us : Int), g := h.v.gen } := by
    show (slAt (h.c.set s.toNat _).us s.toNat).val = _
    rw [set_val hi, if_pos rfl]
  refine ⟨k.good.set hi _, ?_, ?_⟩
  · rw [e]
    refine ⟨⟨put_good _ _, h1, ?_⟩, k.chn.put _⟩
    show (slAt (h.v.put _).us (low h.v.us : Int).toNat).val = _
    rw [Int.toNat_natCast, (put_new _ _).1]
    rfl
  · rw [e]
    exact k.shut

theorem CellAt.setClosed {h : Hp} {s g : Int} {b : Bool} {L : List Ln} (k : CellAt h s g b L) (b' : Bool) : CellAt (h.setC s.toNat { (slAt h.c.us s.toNat).val with closed := b' }) s g b' L := by
  have hi := k.good.lt
  have e : (slAt (h.setC s.toNat { (slAt h.c.us s.toNat).val with closed := b' }).c.us s.toNat).val = { (slAt h.c.us s.toNat).val with closed := b' } := by
    show (slAt (h.c.set s.toNat _).us s.toNat).val = _
    rw [set_val hi, if_pos rfl]
  refine ⟨k.good.set hi _, ?_, ?_⟩
  · rw [e]; exact k.chn
  · rw [e]

theorem CellAt.pruned {h : Hp} {s g : Int} {L : List Ln} (k : CellAt h s g false L) (j : Nat) (x : Ln) (hx : L[j]? = some x) : CellAt (h.pruned (slAt h.c.us s.toNat).val.s (slAt h.c.us s.toNat).val.g L j x) s g false (cutL L j) :=
  ⟨k.good, k.chn.cut j x hx, k.shut⟩

/-- The state of the law that one cell is pruned: n versions were installed. -/
structure Nd (h : Hp) (n : Nat) (b : Bool) (L : List Ln) : Prop where
  cell : CellAt h 0 1 b L
  s17 : h.sh.length = 17
  sh : shAt h.sh 0 = ⟨true, 0, 50 - n⟩
  lv : live h.v.us = n
  sz : h.v.size = 60
  gens : Gens h.v.us (n : Int)
  st : h.c.stale = 0 ∧ h.v.stale = 0
  cu : h.e.cur.length + L.length ≤ n
  n5 : n ≤ 50

theorem shAt_set {l : List Sh} {i : Nat} (x : Sh) (hi : i < l.length) : shAt (l.set i x) i = x := by
  simp [shAt, List.getD, hi]

theorem Nd.inst {h : Hp} {n : Nat} {L : List Ln} (k : Nd h n false L) (x : Vs) (hn : n < 50) : Nd (h.inst 0 (0 : Int).toNat x) (n + 1) false (h.link (0 : Int).toNat x :: L) where
  cell := k.cell.inst 0 x (k.gens.gen (by omega)).1
  s17 := by
    show (h.sh.set 0 _).length = 17
    rw [List.length_set]; exact k.s17
  sh := by
    show shAt (h.sh.set 0 { shAt h.sh 0 with v := (shAt h.sh 0).v - 1 }) 0 = _
    rw [shAt_set _ (by rw [k.s17]; omega), k.sh]
    show (⟨true, 0, 50 - n - 1⟩ : Sh) = _
    rw [show 50 - n - 1 = 50 - (n + 1) by omega]
  lv := by
    show live (h.v.put _).us = _
    rw [live_put, k.lv]
  sz := k.sz
  gens := by
    show Gens (h.v.put _).us _
    rw [show ((n + 1 : Nat) : Int) = (n : Int) + 1 from rfl]
    exact Gens.put k.gens (by omega) (h.link (0 : Int).toNat x)
  st := k.st
  cu := by have := k.cu; show h.e.cur.length + (L.length + 1) ≤ n + 1; omega
  n5 := by omega

theorem Nd.shutC {h : Hp} {n : Nat} {b : Bool} {L : List Ln} (k : Nd h n b L) (b' : Bool) : Nd (h.setC (0 : Int).toNat { (slAt h.c.us (0 : Int).toNat).val with closed := b' }) n b' L :=
  ⟨k.cell.setClosed b', k.s17, k.sh, k.lv, k.sz, k.gens, k.st, k.cu, k.n5⟩

theorem Nd.prunedN {h : Hp} {n : Nat} {L : List Ln} (k : Nd h n false L) (j : Nat) (x : Ln) (hx : L[j]? = some x) : Nd (h.pruned (slAt h.c.us (0 : Int).toNat).val.s (slAt h.c.us (0 : Int).toNat).val.g L j x) n false (cutL L j) := by
  have hj : j < L.length := (List.getElem?_eq_some_iff.1 hx).1
  have hmem := List.mem_of_getElem? (hds_at L (slAt h.c.us (0 : Int).toNat).val.s (slAt h.c.us (0 : Int).toNat).val.g j hj)
  have hi : (nextS (slAt h.c.us (0 : Int).toNat).val.s L j).toNat < h.v.us.length := (Chn.good k.cell.chn _ hmem).1.lt
  refine ⟨k.cell.pruned j x hx, k.s17, k.sh, ?_, k.sz, ?_, k.st, ?_, k.n5⟩
  · show live (h.v.set _ _).us = n
    rw [set_live hi, k.lv]
  · exact Gens.setv k.gens hi _
  · have := k.cu
    show (h.e.cur ++ _).length + _ ≤ n
    rw [List.length_append, List.length_map, List.length_drop, hds_len, cutL_len L j hj]
    omega

/-- The last of some versions that is not above a timestamp. -/
def wnt (t : Int) (l : List Vs) : Option Vs := l.foldl (fun o v => if v.ts ≤ t then some v else o) none
theorem wnt_snoc (t : Int) (l : List Vs) (x : Vs) : wnt t (l ++ [x]) = if x.ts ≤ t then some x else wnt t l := by simp [wnt]
theorem wnt_at (t : Int) : ∀ (l : List Vs), wnt t l.reverse = Vr.at? l t
  | [] => rfl
  | x :: r => by
    rw [List.reverse_cons, wnt_snoc, wnt_at t r]
    unfold Vr.at?
    rw [List.find?_cons]
    by_cases h : x.ts ≤ t <;> simp [h]

/-- What a chain says at a mark and above. -/
def Says (mark : Int) (F V : List Vs) : Prop := V.Pairwise (fun x y => y.ts < x.ts) ∧ ∀ t, mark ≤ t → Sub (Vr.at? V t) (Vr.at? F t)

theorem Says.up {mark mark' : Int} {F V : List Vs} (h : Says mark F V) (hm : mark ≤ mark') : Says mark' F V := ⟨h.1, fun t ht => h.2 t (by omega)⟩

/-- What a Prune makes of it: one of four. -/
theorem Says.prune {mark : Int} {F V : List Vs} (h : Says mark F V) : ∃ j, j ≤ V.length ∧ (Vr.prune mark V).kept = V.take j ∧ Says mark F (V.take j) := by
  obtain ⟨j, hj, hk, hs⟩ := kept_take (mark := mark) h.1
  exact ⟨j, hj, hk, h.1.sublist (List.take_sublist _ _), fun t ht => (hs t ht).trans (h.2 t ht)⟩

end Go.Proofs.Ytbdcdiihaecheaa

namespace Go.Proofs.Ytbdcdiihaecheaa
open Go.RowKit
set_option linter.unusedVariables false
set_option maxRecDepth 100000
set_option linter.unusedSectionVars false
variable [Inhabited Cl] [Inhabited Ln]

variable {m : Nat} {w w1 w2 w' : World} {H cB vB eB : Nat} {cb vb eb : List Nat} {h h' : Hp} {av L L' : List Nat}

theorem advance_heap (hh : Hpn m w H cB vB eB h av) (hn : h.e.now ≤ 4611686018427387904) (hheld : h.e.held = false) :
    Calls Try.prog 21 #[.pointer (some ⟨eB, 0, none⟩)] w fun r w' => ∃ v, r = .returned (.tuple #[v, .int .i64 0]) ∧ Hpn m w' H cB vB eB { h with e := h.e.next } (v.ownBlock.toList ++ av) ∧ Below m w w' ∧ Rr w' v h.e.old := by
  obtain ⟨cb, vb, eb, hI⟩ := hh
  have heB : eB ∈ eb := hI.e.hB
  refine (advance_any hI.e hn hheld).mono ?_
  rintro r w' ⟨v, rfl, ⟨bs', hE, ht, hsub, hown⟩, hrow⟩
  have hsz := ht.size
  refine ⟨v, rfl, ⟨cb, vb, bs', { blk := hI.blk.tn ht (fun hm => hI.He (by rw [List.mem_singleton.1 hm]; exact heB)), c := hI.c.tn ht (fun b hb hm => by rw [List.mem_singleton.1 hm] at hb; exact hI.ce _ hb heB), v := hI.v.tn ht (fun b hb hm => by rw [List.mem_singleton.1 hm] at hb; exact hI.ve _ hb heB), e := hE, s17 := hI.s17, mH := hI.mH, mc := hI.mc, mv := hI.mv, me := fun b hb => hI.me b (hsub b hb), Hc := hI.Hc, Hv := hI.Hv, He := fun hm => hI.He (hsub _ hm), cv := hI.cv, ce := fun b hb hm => hI.ce b hb (hsub b hm), ve := fun b hb hm => hI.ve b hb (hsub b hm), av := fun g hg => ?_ }⟩, ht.below hI.ge (fun b hb => by rw [List.mem_singleton.1 hb]; exact hI.me _ heB), hrow⟩
  rcases List.mem_append.1 hg with hg | hg
  · have ho := hown g (opt_toList.1 hg)
    have hl := hI.e.lt g ho.1
    exact ⟨by omega, fun e => hI.He (e ▸ ho.1), fun hc => hI.ce g hc ho.1, fun hv => hI.ve g hv ho.1, ho.2⟩
  · have ha := hI.av g hg
    exact ⟨by omega, ha.2.1, ha.2.2.1, ha.2.2.2.1, fun hm => ha.2.2.2.2 (hsub g hm)⟩

/-- What a handle that waits says. -/
def GoodR (h : Hp) (x : Rt) : Prop := (x.k = 3 ∧ h.v.Good x.s x.g) ∨ (x.k = 4 ∧ h.c.Good x.s x.g)
def isV (x : Rt) : Bool := decide (x.k = 3)
def isC (x : Rt) : Bool := decide (x.k = 4)

/-- All that is given. -/
structure AllG (h : Hp) (E : List Rt) : Prop where
  good : ∀ x ∈ E, GoodR h x
  nd : E.Nodup
  lv : live h.v.us = E.countP isV
  lc : live h.c.us = E.countP isC

theorem AllG.len {h : Hp} {E : List Rt} (k : AllG h E) : E.length = live h.v.us + live h.c.us := by
  rw [k.lv, k.lc]
  have hg := k.good
  clear k
  induction E with
  | nil => rfl
  | cons x r ih =>
    have hx := hg x (by simp)
    have := ih (fun y hy => hg y (by simp [hy]))
    rw [List.countP_cons, List.countP_cons, List.length_cons, this]
    rcases hx with ⟨h1, -⟩ | ⟨h1, -⟩ <;> simp [isV, isC, h1] <;> omega

theorem AllG.putC {h : Hp} {E : List Rt} (k : AllG h E) (y : Cl) {h2 : Hp} (hc : h2.c = h.c.put y) (hv : h2.v = h.v) : AllG h2 (E ++ [⟨4, (low h.c.us : Int), h.c.gen⟩]) where
  good := fun x hx => by
    unfold GoodR
    rw [hc, hv]
    rcases List.mem_append.1 hx with hx | hx
    · rcases k.good x hx with h1 | h1
      · exact .inl h1
      · exact .inr ⟨h1.1, h1.2.put y⟩
    · rw [List.mem_singleton.1 hx]
      exact .inr ⟨rfl, put_good _ _⟩
  nd := by
    refine List.nodup_append.2 ⟨k.nd, by simp, fun a ha b hb => ?_⟩
    rw [List.mem_singleton.1 hb]
    rintro rfl
    rcases k.good _ ha with h1 | h1
    · exact absurd (show (4 : Int) = 3 from h1.1) (by decide)
    · have hg := h1.2.2.2.1
      simp only [Int.toNat_natCast] at hg
      have hl := h1.2.2.1
      simp only at hl
      rw [(low_free (by omega : low h.c.us < h.c.us.length)).1] at hg
      cases hg
  lv := by rw [hv, List.countP_append, k.lv]; simp [isV]
  lc := by rw [hc, live_put, List.countP_append, k.lc]; simp [isC]

theorem AllG.putV {h : Hp} {A B : List Rt} (k : AllG h (A ++ B)) (y : Ln) {h2 : Hp} (hv : h2.v = h.v.put y) (hc : ∀ s g, h.c.Good s g → h2.c.Good s g) (hl : live h2.c.us = live h.c.us) : AllG h2 (A ++ ⟨3, (low h.v.us : Int), h.v.gen⟩ :: B) where
  good := fun x hx => by
    unfold GoodR
    rw [hv]
    have hx' : x = ⟨3, (low h.v.us : Int), h.v.gen⟩ ∨ x ∈ A ++ B := by
      simp only [List.mem_append, List.mem_cons] at hx ⊢
      rcases hx with h1 | h1 | h1
      · exact .inr (.inl h1)
      · exact .inl h1
      · exact .inr (.inr h1)
    rcases hx' with rfl | hx
    · exact .inl ⟨rfl, put_good _ _⟩
    · rcases k.good x hx with h1 | h1
      · exact .inl ⟨h1.1, h1.2.put y⟩
      · exact .inr ⟨h1.1, hc _ _ h1.2⟩
  nd := by
    refine (List.Perm.nodup_iff List.perm_middle).2 (List.nodup_cons.2 ⟨fun ha => ?_, k.nd⟩)
    rcases k.good _ ha with h1 | h1
    · have hg := h1.2.2.2.1
      simp only [Int.toNat_natCast] at hg
      have hl := h1.2.2.1
      simp only at hl
      rw [(low_free (by omega : low h.v.us < h.v.us.length)).1] at hg
      cases hg
    · exact absurd (show (3 : Int) = 4 from h1.1) (by decide)
  lv := by
    rw [hv, live_put, k.lv]
    simp [List.countP_append, isV]
    omega
  lc := by
    rw [hl, k.lc]
    simp [List.countP_append, isC]

theorem AllG.same {h : Hp} {E : List Rt} (k : AllG h E) {h2 : Hp} (hv : h2.v = h.v) (hc : ∀ s g, h.c.Good s g → h2.c.Good s g) (hl : live h2.c.us = live h.c.us) : AllG h2 E where
  good := fun x hx => by
    unfold GoodR
    rw [hv]
    rcases k.good x hx with h1 | h1
    · exact .inl h1
    · exact .inr ⟨h1.1, hc _ _ h1.2⟩
  nd := k.nd
  lv := by rw [hv]; exact k.lv
  lc := by rw [hl]; exact k.lc

section
variable {α : Type} [Inhabited α]
theorem free_other {v : Ar α} {i : Nat} (hi : i < v.us.length) (z : α) {s g : Int} (h : v.Good s g) (hn : s.toNat ≠ i) : (v.free i z).Good s g := by
  refine ⟨h.1, by show s < ((v.us.set i _).length : Int); rw [List.length_set]; exact h.2.1, ?_, ?_⟩
  · show (slAt (v.us.set i _) s.toNat).given = true
    rw [slAt_set _ _ _ _ hi, if_neg hn]; exact h.2.2.1
  · show (slAt (v.us.set i _) s.toNat).gen = g
    rw [slAt_set _ _ _ _ hi, if_neg hn]; exact h.2.2.2
theorem free_live {v : Ar α} {i : Nat} (hi : i < v.us.length) (z : α) (hg : (slAt v.us i).given = true) : live (v.free i z).us + 1 = live v.us := live_set_free hi rfl hg
theorem good_one {v : Ar α} {s s' g g' : Int} (h : v.Good s g) (h' : v.Good s' g') (e : s.toNat = s'.toNat) : s = s' ∧ g = g' := by
  have h1 := h.1
  have h2 := h'.1
  refine ⟨by omega, ?_⟩
  rw [← h.2.2.2, ← h'.2.2.2, e]
end

theorem AllG.freeV {h : Hp} {E : List Rt} {s g : Int} (k : AllG h (⟨3, s, g⟩ :: E)) (z : Ln) : h.v.Good s g ∧ AllG { h with v := h.v.free s.toNat z } E := by
  have hg : h.v.Good s g := by
    rcases k.good _ (List.mem_cons_self ..) with h1 | h1
    · exact h1.2
    · exact absurd (show (3 : Int) = 4 from h1.1) (by decide)
  have hnd := List.nodup_cons.1 k.nd
  refine ⟨hg, ⟨fun x hx => ?_, hnd.2, ?_, ?_⟩⟩
  · rcases k.good x (List.mem_cons_of_mem _ hx) with h1 | h1
    · refine .inl ⟨h1.1, free_other hg.lt z h1.2 (fun e => hnd.1 ?_)⟩
      obtain ⟨e1, e2⟩ := good_one h1.2 hg e
      obtain ⟨xk, xs, xg⟩ := x
      simp only at e1 e2
      rw [← e1, ← e2]
      have e3 : xk = 3 := h1.1
      rw [← e3]
      exact hx
    · exact .inr h1
  · have h1 := free_live hg.lt z hg.2.2.1
    have h2 := k.lv
    rw [List.countP_cons] at h2
    simp [isV] at h2
    show live (h.v.free s.toNat z).us = _
    have : List.countP isV E = List.countP (fun x => decide (x.k = 3)) E := rfl
    omega
  · have h2 := k.lc
    rw [List.countP_cons] at h2
    simpa [isC] using h2

theorem AllG.freeC {h : Hp} {E : List Rt} {s g : Int} (k : AllG h (⟨4, s, g⟩ :: E)) (z : Cl) : h.c.Good s g ∧ AllG { h with c := h.c.free s.toNat z } E := by
  have hg : h.c.Good s g := by
    rcases k.good _ (List.mem_cons_self ..) with h1 | h1
    · exact absurd (show (4 : Int) = 3 from h1.1) (by decide)
    · exact h1.2
  have hnd := List.nodup_cons.1 k.nd
  refine ⟨hg, ⟨fun x hx => ?_, hnd.2, ?_, ?_⟩⟩
  · rcases k.good x (List.mem_cons_of_mem _ hx) with h1 | h1
    · exact .inl h1
    · refine .inr ⟨h1.1, free_other hg.lt z h1.2 (fun e => hnd.1 ?_)⟩
      obtain ⟨e1, e2⟩ := good_one h1.2 hg e
      obtain ⟨xk, xs, xg⟩ := x
      simp only at e1 e2
      rw [← e1, ← e2]
      have e3 : xk = 4 := h1.1
      rw [← e3]
      exact hx
  · have h2 := k.lv
    rw [List.countP_cons] at h2
    simpa [isV] using h2
  · have h1 := free_live hg.lt z hg.2.2.1
    have h2 := k.lc
    rw [List.countP_cons] at h2
    simp [isC] at h2
    show live (h.c.free s.toNat z).us = _
    have : List.countP isC E = List.countP (fun x => decide (x.k = 4)) E := rfl
    omega

end Go.Proofs.Ytbdcdiihaecheaa

namespace Go.Proofs.Ytbdcdiihaecheaa
open Go.RowKit
set_option linter.unusedVariables false
set_option maxRecDepth 100000
set_option linter.unusedSectionVars false
variable [Inhabited Cl] [Inhabited Ln]

def bg0 : Hp := ⟨Ar.fresh 2, Ar.fresh 4, Ep.fresh, List.replicate 17 Sh.zero⟩
def bg1 : Hp := bg0.setSh 0 ⟨true, 1, 2⟩
def bg2 : Hp := bg1.cellPut 0 ⟨#[97]⟩
def bg3 : Hp := bg2.inst 0 0 ⟨5, ⟨#[120]⟩, false⟩
def bg4 : Hp := bg3.inst 0 0 ⟨7, ⟨#[]⟩, true⟩
def bgl : List Ln := [⟨7, ⟨#[]⟩, true, 0, 1⟩, ⟨5, ⟨#[120]⟩, false, 0, 0⟩]
def bg5 : Hp := bg4.setC 0 { (slAt bg4.c.us 0).val with closed := true }

theorem bg0_fit : bg0.Fit := ⟨of_decide_eq_true rfl, of_decide_eq_true rfl⟩
theorem bg1_has : (shAt bg1.sh 0).has = true := rfl
theorem bg1_c : (shAt bg1.sh 0).c = 1 := rfl
theorem bg2_has : (shAt bg2.sh 0).has = true := rfl
theorem bg2_good : bg2.c.Good 0 1 := ⟨of_decide_eq_true rfl, of_decide_eq_true rfl, rfl, rfl⟩
theorem bg3_good : bg3.c.Good 0 1 := ⟨of_decide_eq_true rfl, of_decide_eq_true rfl, rfl, rfl⟩
theorem bg4_good : bg4.c.Good 0 1 := ⟨of_decide_eq_true rfl, of_decide_eq_true rfl, rfl, rfl⟩
theorem bg5_good : bg5.c.Good 0 1 := ⟨of_decide_eq_true rfl, of_decide_eq_true rfl, rfl, rfl⟩
theorem bg2_chn : Chn bg2.v (slAt bg2.c.us (0 : Int).toNat).val.s (slAt bg2.c.us (0 : Int).toNat).val.g [] := ⟨rfl, rfl⟩
theorem bg3_chn : Chn bg3.v (slAt bg3.c.us (0 : Int).toNat).val.s (slAt bg3.c.us (0 : Int).toNat).val.g [⟨5, ⟨#[120]⟩, false, 0, 0⟩] := ⟨⟨⟨of_decide_eq_true rfl, of_decide_eq_true rfl, rfl, rfl⟩, of_decide_eq_true rfl, rfl⟩, rfl, rfl⟩
theorem bg4_chn : Chn bg4.v (slAt bg4.c.us (0 : Int).toNat).val.s (slAt bg4.c.us (0 : Int).toNat).val.g bgl := ⟨⟨⟨of_decide_eq_true rfl, of_decide_eq_true rfl, rfl, rfl⟩, of_decide_eq_true rfl, rfl⟩, ⟨⟨of_decide_eq_true rfl, of_decide_eq_true rfl, rfl, rfl⟩, of_decide_eq_true rfl, rfl⟩, rfl, rfl⟩
theorem bg5_chn : Chn bg5.v (slAt bg5.c.us (0 : Int).toNat).val.s (slAt bg5.c.us (0 : Int).toNat).val.g bgl := bg4_chn

theorem emp_nil : (⟨#[]⟩ : ByteArray).toList = [] := (list_nil_iff _).2 rfl
theorem bg_put1 : Vr.putE [] ⟨5, ⟨#[120]⟩, false⟩ = 0 := (Vr.putE_nil (by rw [Vr.fits_in (of_decide_eq_true rfl) (of_decide_eq_true rfl) (of_decide_eq_true rfl)]; rfl)).1
theorem bg_fits : Vr.fits ⟨7, ⟨#[]⟩, true⟩ = true := by
  rw [Vr.fits_in (of_decide_eq_true rfl) (of_decide_eq_true rfl) (of_decide_eq_true rfl)]
  show (!(true && !((⟨#[]⟩ : ByteArray).toList == []))) = true
  rw [emp_nil]
  rfl
theorem bg_put2 : Vr.putE [⟨5, ⟨#[120]⟩, false⟩] ⟨7, ⟨#[]⟩, true⟩ = 0 := (Vr.putE_ok bg_fits (x := ⟨5, ⟨#[120]⟩, false⟩) rfl (of_decide_eq_true rfl) (of_decide_eq_true rfl)).1
theorem bg_at : Vr.at? (bgl.map Ln.ver) 6 = some ⟨5, ⟨#[120]⟩, false⟩ := rfl
theorem bg_prune : (Vr.prune 7 (bgl.map Ln.ver)).kept = [] := rfl

end Go.Proofs.Ytbdcdiihaecheaa

namespace Go.Proofs.Ytbdcdiihaecheaa
open Go.RowKit
set_option linter.unusedVariables false
set_option maxRecDepth 100000
set_option linter.unusedSectionVars false
variable [Inhabited Cl] [Inhabited Ln]

set_option maxHeartbeats 4000000 in
theorem hbegun_any (w : World) : Calls Try.prog 9 #[] w fun e w' => e = .returned (.bool true) ∧ Below w.heap.size w w' := by
  obtain ⟨cs, hcs⟩ : ∃ cs : Int, cs = 0 := ⟨_, rfl⟩
  obtain ⟨cg, hcg⟩ : ∃ cg : Int, cg = 1 := ⟨_, rfl⟩
  have HCS : Hid (cs = 0 ∧ cg = 1) := ⟨hcs, hcg⟩
  obtain ⟨vd, hvd⟩ : ∃ vd : Bool, vd = false := ⟨_, rfl⟩
  have HVD : Hid (vd = false) := hvd
  clear hcs hcg hvd
  go_enter Try.func9, Try.ntmps9
  go_wp2_with fail
  refine (new_any w).mono ?_
  rintro e w1 ⟨rfl, he1, hb1, hz1⟩
  have HNEW : Hid (Calls Try.prog 8 #[.int .i64 2, .int .i64 4, .pointer (some ⟨w.heap.size, 0, none⟩)] w1 fun r w' => r = .returned (.tuple #[.pointer (some ⟨w.heap.size + 3, 0, none⟩), .int .i64 0]) ∧ Hpn w.heap.size w' (w.heap.size + 3) (w.heap.size + 1) (w.heap.size + 2) w.heap.size bg0 [] ∧ Below w.heap.size w w') := by
    refine (hnew_any he1 2 4 (of_decide_eq_true rfl) (of_decide_eq_true rfl) (of_decide_eq_true rfl) (of_decide_eq_true rfl)).mono ?_
    rintro r w' ⟨rfl, hc, hv, hk, hb, hz⟩
    rw [hz1] at hc hv hk hz
    refine ⟨by rw [hz1], ⟨[w.heap.size + 1], [w.heap.size + 2], [w.heap.size], { blk := hk, c := hc, v := hv, e := he1.tn (Tn.of_below hb []) (by simp), s17 := by simp [bg0], mH := by omega, mc := by simp, mv := by simp, me := by simp, Hc := by simp, Hv := by simp, He := by simp, cv := by simp, ce := by simp, ve := by simp, av := by simp }⟩, hb1.trans (hb.mono hb1.size)⟩
  clear he1 hb1 hz1
  go_wp2_with fail
  refine HNEW.out.mono ?_
  rintro e w2 ⟨rfl, hh2, hb2⟩
  have HK2 : Hid (Hpn w.heap.size w2 (w.heap.size + 3) (w.heap.size + 1) (w.heap.size + 2) w.heap.size bg0 [] ∧ Below w.heap.size w w2) := ⟨hh2, hb2⟩
  have HRES : Hid (Calls Try.prog 10 #[.pointer (some ⟨w.heap.size + 3, 0, none⟩), .int .i64 0, .int .i64 1, .int .i64 2] w2 fun e w' => e = .returned (.int .i64 0) ∧ AftH w.heap.size w2 w' (w.heap.size + 3) (w.heap.size + 1) (w.heap.size + 2) w.heap.size bg1 []) := reserve_ok hh2 bg0_fit 0 1 2 (of_decide_eq_true rfl) rfl (of_decide_eq_true rfl) (of_decide_eq_true rfl)
  clear hh2 hb2 HNEW
  obtain ⟨H, hH⟩ : ∃ H, w.heap.size + 3 = H := ⟨_, rfl⟩
  rw [hH] at HK2 HRES
  go_wp2_with fail
  refine HRES.out.mono ?_
  rintro e w3 ⟨rfl, ha3⟩
  have HK3 : Hid (Hpn w.heap.size w3 H (w.heap.size + 1) (w.heap.size + 2) w.heap.size bg1 [] ∧ Below w.heap.size w w3) := ⟨ha3.1, HK2.out.2.trans ha3.2.1⟩
  have HCL : Hid (Calls Try.prog 12 #[.pointer (some ⟨H, 0, none⟩), .int .i64 0, .string ⟨#[97]⟩] w3 fun e w' => e = .returned (.tuple #[.agg #[.int .i64 cs, .int .i64 cg], .int .i64 0]) ∧ AftH w.heap.size w3 w' H (w.heap.size + 1) (w.heap.size + 2) w.heap.size bg2 []) := by
    rw [HCS.out.1, HCS.out.2]
    exact cell_ok HK3.out.1 0 ⟨#[97]⟩ (of_decide_eq_true rfl) rfl ⟨of_decide_eq_true rfl, of_decide_eq_true rfl⟩ (of_decide_eq_true rfl) (of_decide_eq_true rfl) (of_decide_eq_true rfl) (of_decide_eq_true rfl) (of_decide_eq_true rfl)
  clear ha3 HRES
  go_wp2_with fail
  refine HCL.out.mono ?_
  rintro e w4 ⟨rfl, ha4⟩
  obtain ⟨B, hB⟩ : ∃ B, w4.heap.size = B := ⟨_, rfl⟩
  obtain ⟨w5, hw5, hk5, t45⟩ : ∃ w5, w4.alloc (.cells #[.int .i64 cs, .int .i64 cg] 36) = w5 ∧ Bk w5 B 36 #[.int .i64 cs, .int .i64 cg] ∧ Tn [] w4 w5 := ⟨_, rfl, by rw [← hB]; exact Bk.new _ _ _, (Tn.refl _ _).alloc _⟩
  have hb4 : Below w.heap.size w w4 := HK3.out.2.trans ha4.2.1
  have HK5 : Hid (Hpn w.heap.size w5 H (w.heap.size + 1) (w.heap.size + 2) w.heap.size bg2 [B] ∧ Below w.heap.size w w5 ∧ Bk w5 B 36 #[.int .i64 cs, .int .i64 cg]) := ⟨ha4.1.add t45 (Nat.le_of_eq hB) hk5.lt, hb4.trans (t45.below ha4.1.ge (by simp)), hk5⟩
  have a0 : w5.cell? ⟨B, 0, none⟩ = some (.int .i64 cs) := hk5.cell 0
  have a1 : w5.cell? ⟨B, 1, none⟩ = some (.int .i64 cg) := hk5.cell 1
  have HI1 : Hid (Calls Try.prog 13 #[.pointer (some ⟨H, 0, none⟩), .int .i64 0, .agg #[.int .i64 cs, .int .i64 cg], .agg #[.int .i64 5, .string ⟨#[120]⟩, .bool false]] w5 fun e w' => e = .returned (.int .i64 0) ∧ AftH w.heap.size w5 w' H (w.heap.size + 1) (w.heap.size + 2) w.heap.size bg3 [B]) := by
    rw [HCS.out.1, HCS.out.2]
    exact install_ok HK5.out.1 0 (of_decide_eq_true rfl) rfl 0 1 bg2_good ⟨5, ⟨#[120]⟩, false⟩ [] bg2_chn (of_decide_eq_true rfl) rfl (of_decide_eq_true rfl) bg_put1 (of_decide_eq_true rfl) (of_decide_eq_true rfl) (of_decide_eq_true rfl) (of_decide_eq_true rfl) (of_decide_eq_true rfl)
  clear ha4 hk5 t45 hb4 HCL
  go_wp2_with fail
  refine HI1.out.mono ?_
  rintro e w6 ⟨rfl, ha6⟩
  have HK6 : Hid (Hpn w.heap.size w6 H (w.heap.size + 1) (w.heap.size + 2) w.heap.size bg3 [B] ∧ Below w.heap.size w w6 ∧ Bk w6 B 36 #[.int .i64 cs, .int .i64 cg]) := ⟨ha6.1, HK5.out.2.1.trans ha6.2.1, ha6.blk (by simp) HK5.out.2.2⟩
  have b0 : w6.cell? ⟨B, 0, none⟩ = some (.int .i64 cs) := HK6.out.2.2.cell 0
  have b1 : w6.cell? ⟨B, 1, none⟩ = some (.int .i64 cg) := HK6.out.2.2.cell 1
  have HI2 : Hid (Calls Try.prog 13 #[.pointer (some ⟨H, 0, none⟩), .int .i64 0, .agg #[.int .i64 cs, .int .i64 cg], .agg #[.int .i64 7, .string ⟨#[]⟩, .bool true]] w6 fun e w' => e = .returned (.int .i64 0) ∧ AftH w.heap.size w6 w' H (w.heap.size + 1) (w.heap.size + 2) w.heap.size bg4 [B]) := by
    rw [HCS.out.1, HCS.out.2]
    exact install_ok HK6.out.1 0 (of_decide_eq_true rfl) rfl 0 1 bg3_good ⟨7, ⟨#[]⟩, true⟩ [⟨5, ⟨#[120]⟩, false, 0, 0⟩] bg3_chn (of_decide_eq_true rfl) rfl (of_decide_eq_true rfl) bg_put2 (of_decide_eq_true rfl) (of_decide_eq_true rfl) (of_decide_eq_true rfl) (of_decide_eq_true rfl) (of_decide_eq_true rfl)
  clear ha6 a0 a1 HI1
  go_wp2_with fail
  refine HI2.out.mono ?_
  rintro e w7 ⟨rfl, ha7⟩
  have HK7 : Hid (Hpn w.heap.size w7 H (w.heap.size + 1) (w.heap.size + 2) w.heap.size bg4 [B] ∧ Below w.heap.size w w7 ∧ Bk w7 B 36 #[.int .i64 cs, .int .i64 cg]) := ⟨ha7.1, HK6.out.2.1.trans ha7.2.1, ha7.blk (by simp) HK6.out.2.2⟩
  have c0 : w7.cell? ⟨B, 0, none⟩ = some (.int .i64 cs) := HK7.out.2.2.cell 0
  have c1 : w7.cell? ⟨B, 1, none⟩ = some (.int .i64 cg) := HK7.out.2.2.cell 1
  have HRD : Hid (Calls Try.prog 15 #[.pointer (some ⟨H, 0, none⟩), .agg #[.int .i64 cs, .int .i64 cg], .int .i64 6] w7 fun e w' => e = .returned (.tuple #[.agg #[.int .i64 5, .string ⟨#[120]⟩, .bool vd], .bool true, .int .i64 0]) ∧ Below w7.heap.size w7 w') := by
    have := read_good HK7.out.1 0 1 6 bg4_good bgl bg4_chn (of_decide_eq_true rfl)
    rw [bg_at] at this
    rw [HCS.out.1, HCS.out.2, HVD.out]
    exact this
  clear ha7 b0 b1 HI2
  go_wp2_with fail
  refine HRD.out.mono ?_
  rintro e w8 ⟨rfl, hb8⟩
  obtain ⟨D, hD⟩ : ∃ D, w8.heap.size = D := ⟨_, rfl⟩
  obtain ⟨w9, hw9, hk9, t89⟩ : ∃ w9, w8.alloc (.cells #[.int .i64 5, .string ⟨#[120]⟩, .bool vd] 34) = w9 ∧ Bk w9 D 34 #[.int .i64 5, .string ⟨#[120]⟩, .bool vd] ∧ Tn [] w8 w9 := ⟨_, rfl, by rw [← hD]; exact Bk.new _ _ _, (Tn.refl _ _).alloc _⟩
  have hh8 := HK7.out.1.below hb8
  have hb78 : Below w.heap.size w w8 := HK7.out.2.1.trans (hb8.mono HK7.out.2.1.size)
  have HK9 : Hid (Hpn w.heap.size w9 H (w.heap.size + 1) (w.heap.size + 2) w.heap.size bg4 [D, B] ∧ Below w.heap.size w w9 ∧ Bk w9 B 36 #[.int .i64 cs, .int .i64 cg] ∧ Bk w9 D 34 #[.int .i64 5, .string ⟨#[120]⟩, .bool vd]) := ⟨hh8.add t89 (Nat.le_of_eq hD) hk9.lt, hb78.trans (t89.below hh8.ge (by simp)), (HK7.out.2.2.tn (Tn.of_below hb8 []) (by simp)).tn t89 (by simp), hk9⟩
  have d0 : w9.cell? ⟨B, 0, none⟩ = some (.int .i64 cs) := HK9.out.2.2.1.cell 0
  have d1 : w9.cell? ⟨B, 1, none⟩ = some (.int .i64 cg) := HK9.out.2.2.1.cell 1
  have HPR : Hid (Calls Try.prog 14 #[.pointer (some ⟨H, 0, none⟩), .agg #[.int .i64 cs, .int .i64 cg], .int .i64 7] w9 fun e w' => e = .returned (.tuple #[.int .i64 0, .bool true, .int .i64 0]) ∧ AftH w.heap.size w9 w' H (w.heap.size + 1) (w.heap.size + 2) w.heap.size bg5 [D, B]) := by
    rw [HCS.out.1, HCS.out.2]
    exact prune_shut HK9.out.1 0 1 7 bg4_good bgl bg4_chn (of_decide_eq_true rfl) (of_decide_eq_true rfl) rfl bg_prune
  clear hb8 hk9 t89 hh8 hb78 c0 c1 HRD
  go_wp2_with fail
  refine HPR.out.mono ?_
  rintro e w10 ⟨rfl, ha10⟩
  have HK10 : Hid (Hpn w.heap.size w10 H (w.heap.size + 1) (w.heap.size + 2) w.heap.size bg5 [D, B] ∧ Below w.heap.size w w10) := ⟨ha10.1, HK9.out.2.1.trans ha10.2.1⟩
  have kB := ha10.blk (by simp) HK9.out.2.2.1
  have kD := ha10.blk (by simp) HK9.out.2.2.2
  have e0 : w10.cell? ⟨B, 0, none⟩ = some (.int .i64 cs) := kB.cell 0
  have e1 : w10.cell? ⟨B, 1, none⟩ = some (.int .i64 cg) := kB.cell 1
  have e2 : w10.cell? ⟨D, 1, none⟩ = some (.string ⟨#[120]⟩) := kD.cell 1
  have HRT : Hid (Calls Try.prog 18 #[.pointer (some ⟨H, 0, none⟩), .agg #[.int .i64 cs, .int .i64 cg]] w10 fun e w' => e = .returned (.int .i64 0) ∧ ∃ h6, (h6.e.now = 1 ∧ h6.e.old.length + h6.e.cur.length = 3) ∧ AftH w.heap.size w10 w' H (w.heap.size + 1) (w.heap.size + 2) w.heap.size h6 [D, B]) := by
    rw [HCS.out.1, HCS.out.2]
    refine (retire_good HK10.out.1 0 1 bg5_good bgl bg5_chn (of_decide_eq_true rfl) (of_decide_eq_true rfl) rfl (of_decide_eq_true rfl)).mono ?_
    rintro e w' ⟨he, ha⟩
    exact ⟨he, _, ⟨rfl, rfl⟩, ha⟩
  clear ha10 d0 d1 HPR kB kD
  go_wp2_with fail
  refine HRT.out.mono ?_
  rintro e w11 ⟨rfl, h6, h6e, ha11⟩
  have HWT : Hid (Calls Try.prog 24 #[.pointer (some ⟨w.heap.size, 0, none⟩)] w11 fun r w' => r = .returned (.int .i64 3) ∧ Below w.heap.size w w') := by
    obtain ⟨cb, vb, eb, hI⟩ := ha11.1
    obtain ⟨vs, -, hE⟩ := hI.e
    refine (waiting_any hE (by omega) (by omega)).mono ?_
    rintro r w' ⟨rfl, k, rfl⟩
    rw [h6e.2]
    exact ⟨rfl, below_drewN (HK10.out.2.trans ha11.2.1) _⟩
  clear ha11 h6e HRT
  go_wp2_with fail
  refine HWT.out.mono ?_
  rintro e w12 ⟨rfl, hb12⟩
  have HB12 : Hid (Below w.heap.size w w12) := hb12
  clear hb12
  go_wp2
  go_ret
  exact ⟨rfl, HB12.out⟩

end Go.Proofs.Ytbdcdiihaecheaa

namespace Go.Proofs.Ytbdcdiihaecheaa
open Go.ChangeShapes Go.WideShapes Go.ChangeAt Go.RowKit
open Go.ChangeMaps (open_string shut_string)
set_option linter.unusedVariables false
set_option maxRecDepth 100000

theorem own : ownKnob Try.prog.godebug = none := by kernel_rfl
theorem laidOut : laidOutB Try.prog = true := by kernel_rfl

theorem list2 {α : Type} {l : List α} (h : l.length = 2) : ∃ a b, l = [a, b] := by
  match l, h with
  | [a, b], _ => exact ⟨a, b, rfl⟩
theorem list3 {α : Type} {l : List α} (h : l.length = 3) : ∃ a b c, l = [a, b, c] := by
  match l, h with
  | [a, b, c], _ => exact ⟨a, b, c, rfl⟩
theorem list4 {α : Type} {l : List α} (h : l.length = 4) : ∃ a b c d, l = [a, b, c, d] := by
  match l, h with
  | [a, b, c, d], _ => exact ⟨a, b, c, d, rfl⟩

theorem rcells_at {W : World} {a : Addr} {n : Nat} {cs : List Value} (h : W.cells? 0 a n = some cs) : ∀ j v, cs[j]? = some v → W.cell? (a.add j) = some v := by
  obtain ⟨_, hl, hc⟩ := World.cells?_some h
  intro j v hv
  have hj : j < n := by
    have := (List.getElem?_eq_some_iff.1 hv).1
    omega
  exact (hc j hj).trans hv

/-- Elements that a slice leads to: their cells, k each; the room is at most M. -/
structure InL {α : Type} (cells : α → List Value) (ok : α → Prop) (k M : Nat) (w : World) (p : Option Addr) (len cap : Nat) (l : List α) : Prop where
  lenq : l.length = len
  cel : 0 < len → ∃ b o, p = some ⟨b, o, none⟩ ∧ ∀ (i : Nat) g, l[i]? = some g → ∀ (j : Nat) v, (cells g)[j]? = some v → w.cell? ⟨b, o + i * k + j, none⟩ = some v
  le : len ≤ cap
  room : cap ≤ M
  nil : p = none → len = 0 ∧ cap = 0
  ok : ∀ g ∈ l, ok g

section
variable {α : Type} {cells : α → List Value} {ok : α → Prop} {k M : Nat}

theorem InL.up {w w' : World} {p : Option Addr} {len cap : Nat} {l : List α} (h : InL cells ok k M w p len cap l) (hb : Below w.heap.size w w') : InL cells ok k M w' p len cap l := by
  refine ⟨h.lenq, fun hl => ?_, h.le, h.room, h.nil, h.ok⟩
  obtain ⟨b, o, rfl, hc⟩ := h.cel hl
  refine ⟨b, o, rfl, fun i g hi j v hv => ?_⟩
  have hh := hc i g hi j v hv
  rw [hb.cell (p := ⟨b, o + i * k + j, none⟩) (World.block_lt_of_cell? w _ hh)]
  exact hh

theorem InL.at {w : World} {p : Option Addr} {len cap : Nat} {l : List α} (h : InL cells ok k M w p len cap l) {j : Nat} (hj : j < len) : ∃ b o g, p = some ⟨b, o, none⟩ ∧ l[j]? = some g ∧ ok g ∧ ∀ (i : Nat) v, (cells g)[i]? = some v → w.cell? ⟨b, o + j * k + i, none⟩ = some v := by
  obtain ⟨b, o, rfl, hc⟩ := h.cel (by omega)
  have hjl : j < l.length := by rw [h.lenq]; exact hj
  have hg := List.getElem?_eq_getElem hjl
  exact ⟨b, o, l[j], rfl, hg, h.ok _ (List.getElem_mem hjl), hc j _ hg⟩

theorem in_list [Inhabited α] {H : Type} {enc : TypeId × Value → H} {W : World} {a : Option Addr} {len cap : Nat} {d : DataW H} {p : List MemPlace} {T E : TypeId} {B : Nat}
    (hu : Try.prog.underlying T = some (.slice E)) (ek : Try.prog.cellsOf E = k) (eb : Try.prog.bytesOf E = B) (hB0 : 0 < B) (hM : ∀ n, n * B ≤ 140737488351232 → n ≤ M)
    (elem : ∀ (fuel : Nat) (cs : List Value) (x : DataW H × List MemPlace), DataW.trod enc Try.prog W 0 (fun _ => true) true fuel E cs = some x → ∃ g : α, cs = cells g ∧ ok g)
    (hk : ∀ g : α, 0 < (cells g).length)
    (h : DataW.Trod enc Try.prog W 0 (fun _ => true) true T (.slice a len cap) d p) (hB : ∀ n ∈ d.weights Try.prog T, n ≤ 140737488351232) : ∃ l, InL cells ok k M W a len cap l := by
  obtain ⟨fuel, hf⟩ := h
  rcases Go.Deep.open_slice hu hf with ⟨hcs, _⟩ | ⟨x, l, c, m, n, D, Pl, hcs, _, hl, hm, hmm, hx, hall⟩
  · simp [Value.cells] at hcs
    obtain ⟨rfl, rfl, rfl⟩ := hcs
    exact ⟨[], rfl, fun h => absurd h (Nat.lt_irrefl 0), Nat.le_refl _, Nat.zero_le _, fun _ => ⟨rfl, rfl⟩, by simp⟩
  · simp [Value.cells] at hcs
    obtain ⟨rfl, rfl, rfl⟩ := hcs
    simp only [if_true] at hmm
    subst hmm
    rw [ek] at hall
    simp only [Prod.mk.injEq] at hx
    have hroom : m ≤ M := by
      have := hB ((len + (m - len)) * Try.prog.bytesOf E) (by rw [hx.1, DataW.weights, hu]; simp)
      rw [eb] at this
      rw [show len + (m - len) = m by omega] at this
      exact hM m this
    obtain ⟨G, hG⟩ := Go.Deep.choose_lt (n := len) (α := α) (p := fun i g => W.cells? 0 (x.add (i * k)) k = some (cells g) ∧ ok g) (fun i hi => by
      obtain ⟨cs, h1, h2⟩ := hall i (by omega)
      obtain ⟨g, rfl, h3⟩ := elem _ _ _ h2
      exact ⟨g, h1, h3⟩)
    refine ⟨(List.range len).map G, by simp, fun hpos => ?_, hl, hroom, (fun h => by cases h), ?_⟩
    · have h0 := rcells_at (hG 0 hpos).1 0 _ (List.getElem?_eq_getElem (hk (G 0)))
      obtain ⟨b, off, spot⟩ := x
      have hspot : spot = none := by
        have := World.cell?_spot h0
        simpa [Addr.add] using this
      subst hspot
      refine ⟨b, off, rfl, fun i g hi j v hv => ?_⟩
      have hil : i < len := by
        have := (List.getElem?_eq_some_iff.1 hi).1
        simpa using this
      have hg : g = G i := by simpa [hil] using hi.symm
      subst hg
      have := rcells_at (hG i hil).1 j v hv
      rw [Addr.add_lit, Addr.add_lit] at this
      exact this
    · intro g hg
      obtain ⟨i, hi, rfl⟩ := List.mem_map.1 hg
      exact (hG i (List.mem_range.1 hi)).2
end
end Go.Proofs.Ytbdcdiihaecheaa

namespace Go.Proofs.Ytbdcdiihaecheaa
open Go.ChangeShapes Go.WideShapes Go.ChangeAt Go.RowKit
set_option linter.unusedVariables false
set_option maxRecDepth 100000

theorem bytes_bool : Try.prog.bytesOf 4 = 1 := by kernel_rfl
theorem bytes_u8 : Try.prog.bytesOf 5 = 1 := by kernel_rfl

/-- A slice of bools that came in. -/
structure InK (w : World) (p : Option Addr) (len cap : Nat) (ks : List Bool) : Prop where
  lenq : ks.length = len
  bls : 0 < ks.length → ∃ b o, p = some ⟨b, o, none⟩ ∧ ∀ i, i < ks.length → w.cell? ⟨b, o + i, none⟩ = some (.bool (ks.getD i false))
  le : len ≤ cap
  room : cap ≤ 140737488351232
  nil : p = none → len = 0 ∧ cap = 0

theorem in_bools {H : Type} {enc : TypeId × Value → H} {W : World} {a : Option Addr} {len cap : Nat} {d : DataW H} {p : List MemPlace}
    (h : DataW.Trod enc Try.prog W 0 (fun _ => true) true 45 (.slice a len cap) d p) (hB : ∀ elems spare, d = .slice elems spare → elems.length + spare.length ≤ 140737488351232) : ∃ ks, InK W a len cap ks := by
  obtain ⟨fuel, hf⟩ := h
  rcases Go.Deep.open_bools Try.underlying45 Try.underlying4 (by kernel_rfl) hf with ⟨hcs, _⟩ | ⟨x, l, c, Z, hcs, _, hl, hm, hx, hcell⟩
  · simp [Value.cells] at hcs
    obtain ⟨rfl, rfl, rfl⟩ := hcs
    exact ⟨[], rfl, fun h => by simp at h, Nat.le_refl _, Nat.zero_le _, fun _ => ⟨rfl, rfl⟩⟩
  · simp [Value.cells] at hcs
    obtain ⟨rfl, rfl, rfl⟩ := hcs
    simp only [Prod.mk.injEq] at hx
    have hb := hB _ _ hx.1
    simp only [List.length_map, List.length_range] at hb
    refine ⟨(List.range len).map Z, by simp, ?_, hl, by omega, (fun e => by cases e)⟩
    intro hpos
    simp at hpos
    have h0 := hcell 0 (by omega)
    obtain ⟨b, off, spot⟩ := x
    have hspot : spot = none := by simpa [Addr.add] using World.cell?_spot h0
    subst hspot
    refine ⟨b, off, rfl, fun i hi => ?_⟩
    simp at hi
    have := hcell i (by omega)
    rw [Addr.add_lit] at this
    rw [this]
    simp [List.getD, hi]

theorem InK.below {w w' : World} {p : Option Addr} {len cap : Nat} {ks : List Bool} (h : InK w p len cap ks) (hb : Below w.heap.size w w') : InK w' p len cap ks := by
  refine ⟨h.lenq, fun hl => ?_, h.le, h.room, h.nil⟩
  obtain ⟨b, o, rfl, hc⟩ := h.bls hl
  exact ⟨b, o, rfl, fun i hi => (hb.cell (p := ⟨b, o + i, none⟩) (World.block_lt_of_cell? w _ (hc i hi))).trans (hc i hi)⟩

/-- A slice of bytes that came in: at most B bytes of room. -/
structure InB (B : Nat) (w : World) (p : Option Addr) (len cap : Nat) (xs : List Int) : Prop where
  lenq : xs.length = len
  bys : 0 < xs.length → ∃ b o, p = some ⟨b, o, none⟩ ∧ ∀ i, i < xs.length → w.cell? ⟨b, o + i, none⟩ = some (.int .u8 (xs.getD i 0))
  le : len ≤ cap
  room : cap ≤ B
  nil : p = none → len = 0 ∧ cap = 0
  byte : ∀ y ∈ xs, 0 ≤ y ∧ y < 256

theorem in_bytes {H : Type} {enc : TypeId × Value → H} {W : World} {a : Option Addr} {len cap : Nat} {d : DataW H} {p : List MemPlace} {B : Nat}
    (h : DataW.Trod enc Try.prog W 0 (fun _ => true) true 44 (.slice a len cap) d p) (hB : ∀ elems spare, d = .slice elems spare → elems.length + spare.length ≤ B) : ∃ xs, InB B W a len cap xs := by
  obtain ⟨fuel, hf⟩ := h
  rcases open_ints Try.underlying44 Try.underlying5 (by kernel_rfl) hf with ⟨hcs, _⟩ | ⟨x, l, c, zs, hcs, _, hl, hm, hz, hx, hcell, hwz⟩
  · simp [Value.cells] at hcs
    obtain ⟨rfl, rfl, rfl⟩ := hcs
    exact ⟨[], rfl, fun h => by simp at h, Nat.le_refl _, Nat.zero_le _, fun _ => ⟨rfl, rfl⟩, by simp⟩
  · simp [Value.cells] at hcs
    obtain ⟨rfl, rfl, rfl⟩ := hcs
    simp only [Prod.mk.injEq] at hx
    have hb := hB _ _ hx.1
    simp only [lits, List.length_map, List.length_take, List.length_drop] at hb
    simp only [if_true] at hz
    refine ⟨zs.take len, by simp; omega, ?_, hl, by omega, (fun e => by cases e), ?_⟩
    · intro hpos
      simp at hpos
      have h0 := hcell 0 (by omega)
      obtain ⟨b, off, spot⟩ := x
      have hspot : spot = none := by simpa [Addr.add] using World.cell?_spot h0
      subst hspot
      refine ⟨b, off, rfl, fun i hi => ?_⟩
      simp at hi
      have := hcell i (by omega)
      rw [Addr.add_lit] at this
      rw [this]
      simp [List.getD, show i < len by omega]
    · intro y hy
      have := bounds_u8 (hwz y (List.mem_of_mem_take hy))
      omega

theorem InB.below {B : Nat} {w w' : World} {p : Option Addr} {len cap : Nat} {xs : List Int} (h : InB B w p len cap xs) (hb : Below w.heap.size w w') : InB B w' p len cap xs := by
  refine ⟨h.lenq, fun hl => ?_, h.le, h.room, h.nil, h.byte⟩
  obtain ⟨b, o, rfl, hc⟩ := h.bys hl
  exact ⟨b, o, rfl, fun i hi => (hb.cell (p := ⟨b, o + i, none⟩) (World.block_lt_of_cell? w _ (hc i hi))).trans (hc i hi)⟩

end Go.Proofs.Ytbdcdiihaecheaa

namespace Go.Proofs.Ytbdcdiihaecheaa
open Go.RowKit
set_option linter.unusedVariables false
set_option maxRecDepth 100000
set_option linter.unusedSectionVars false
variable [Inhabited Cl] [Inhabited Ln]

variable {m : Nat} {w w0 w1 w2 w' : World} {H cB vB eB : Nat} {h h' : Hp} {av L L' : List Nat}

/-- Own blocks have turned and come, others are new. -/
theorem MidH.turn {S : List Nat} (k : MidH m w L w1 H cB vB eB h av) (t : Tn S w1 w2) (hS : ∀ x ∈ S, x ∈ L ∨ w1.heap.size ≤ x) (hL : ∀ x ∈ L', x ∈ L ∨ w1.heap.size ≤ x) (hlt : ∀ x ∈ L', x < w2.heap.size) : MidH m w L' w2 H cB vB eB h av := by
  have hz := k.2.1.size
  have hz2 := t.size
  have hm := k.2.2.2.2
  have hS' : ∀ x ∈ S, w.heap.size ≤ x := fun x hx => by
    rcases hS x hx with h1 | h1
    · exact k.2.2.2.1 x h1
    · omega
  refine ⟨k.1.grow t (fun x hx => ?_) (fun x hx => ?_) (fun x hx => ?_), k.2.1.trans (t.below (by omega) (fun x hx => by have := hS' x hx; omega)), fun g hg => ⟨(k.2.2.1 g hg).1, (t.block g (by have := (k.2.2.1 g hg).1; omega) (fun hx => by have := hS' g hx; have := (k.2.2.1 g hg).1; omega)).trans (k.2.2.1 g hg).2⟩, fun x hx => ?_, hm⟩
  · rcases hS x hx with h1 | h1
    · exact .inl (List.mem_append.2 (.inl h1))
    · exact .inr h1
  · rcases List.mem_append.1 hx with hx | hx
    · rcases hL x hx with h1 | h1
      · exact .inl (List.mem_append.2 (.inl h1))
      · exact .inr h1
    · exact .inl (List.mem_append.2 (.inr hx))
  · rcases List.mem_append.1 hx with hx | hx
    · exact hlt x hx
    · have := (k.2.2.1 x hx).1; omega
  · rcases hL x hx with h1 | h1
    · exact k.2.2.2.1 x h1
    · omega

def nd0 : Hp := ⟨Ar.fresh 1, Ar.fresh 60, Ep.fresh, List.replicate 17 Sh.zero⟩
def nd1 : Hp := nd0.setSh 0 ⟨true, 1, 50⟩
def nd2 : Hp := nd1.cellPut 0 ⟨#[97]⟩
theorem nd0_fit : nd0.Fit := ⟨of_decide_eq_true rfl, of_decide_eq_true rfl⟩
theorem nd2_nd : Nd nd2 0 false [] where
  cell := ⟨⟨of_decide_eq_true rfl, of_decide_eq_true rfl, rfl, rfl⟩, ⟨rfl, rfl⟩, rfl⟩
  s17 := rfl
  sh := rfl
  lv := rfl
  sz := rfl
  gens := Gens.nil _
  st := ⟨rfl, rfl⟩
  cu := Nat.le_refl _
  n5 := Nat.zero_le _

theorem enc_size (r : Int) : (Utf8.encode r).size ≤ 256 := by
  unfold Utf8.encode
  dsimp only
  generalize (if Utf8.valid r = true then r.toNat else Utf8.runeError) = c
  split
  · show (1 : Nat) ≤ 256; omega
  · split
    · show (2 : Nat) ≤ 256; omega
    · split
      · show (3 : Nat) ≤ 256; omega
      · show (4 : Nat) ≤ 256; omega

theorem own_blk {α : Type} {cells : α → List Value} {k : Nat} {t : TypeId} {base : Nat} {v : Value} {l : List α} (h : Own cells k t w base v l) (hb : ∀ g, v.ownBlock = some g → w'.heap[g]? = w.heap[g]?) : Own cells k t w' base v l := by
  refine ⟨h.1, ?_⟩
  rcases h.2 with hv | ⟨g, cap, cur, hv, hb', hgg, rest⟩
  · exact .inl hv
  · exact .inr ⟨g, cap, cur, hv, hb', (hb g (by rw [hv]; rfl)).trans hgg, rest⟩

/-- The state of the walk: the heap, the cell's box, a row of versions; X: further blocks of its own. -/
structure Ns (m : Nat) (w0 wr : World) (H cB vB eB B : Nat) (cs cg : Int) (X : List Nat) (v : Value) (h : Hp) (R : List Vs) : Prop where
  mid : MidH m w0 (B :: (v.ownBlock.toList ++ X)) wr H cB vB eB h []
  box : Bk wr B 36 #[.int .i64 cs, .int .i64 cg]
  own : Own Vs.cells 3 34 wr (B + 1) v R

variable {wr : World} {B : Nat} {cs cg T : Int} {v : Value} {R : List Vs} {X : List Nat}

theorem Ns.quiet (k : Ns m w0 wr H cB vB eB B cs cg X v h R) (t : Tn [] wr w1) : Ns m w0 w1 H cB vB eB B cs cg X v h R :=
  ⟨k.mid.quiet t, k.box.tn t (by simp), k.own.tn t (by simp)⟩

theorem Ns.below (k : Ns m w0 wr H cB vB eB B cs cg X v h R) (hb : Below wr.heap.size wr w1) : Ns m w0 w1 H cB vB eB B cs cg X v h R := k.quiet (Tn.of_below hb [])

theorem Ns.lt (k : Ns m w0 wr H cB vB eB B cs cg X v h R) : (∀ g ∈ X, g < wr.heap.size) ∧ B < wr.heap.size ∧ ∀ g, v.ownBlock = some g → g < wr.heap.size := by
  have h1 := k.mid.1.avlt
  refine ⟨fun g hg => h1 g (by simp [hg]), h1 B (by simp), fun g hg => h1 g (by simp [hg])⟩

/-- Something new of the walk's own. -/
theorem Ns.add {g : Nat} (k : Ns m w0 wr H cB vB eB B cs cg X v h R) (t : Tn [] wr w1) (hg : wr.heap.size ≤ g) (hg' : g < w1.heap.size) : Ns m w0 w1 H cB vB eB B cs cg (g :: X) v h R := by
  refine ⟨k.mid.new t (fun x hx => ?_) (fun x hx => ?_), k.box.tn t (by simp), k.own.tn t (by simp)⟩
  · simp only [List.mem_cons, List.mem_append] at hx ⊢
    rcases hx with rfl | hx | rfl | hx
    · exact .inl (.inl rfl)
    · exact .inl (.inr (.inl hx))
    · exact .inr hg
    · exact .inl (.inr (.inr hx))
  · have h1 := k.mid.1.avlt
    have h2 := t.size
    simp only [List.mem_cons, List.mem_append] at hx h1
    rcases hx with rfl | hx | rfl | hx
    · have := h1 x (.inl (.inl rfl)); omega
    · have := h1 x (.inl (.inr (.inl hx))); omega
    · exact hg'
    · have := h1 x (.inl (.inr (.inr hx))); omega

/-- What is the walk's own turns. -/
theorem Ns.own1 {S : List Nat} (k : Ns m w0 wr H cB vB eB B cs cg X v h R) (t : Tn S wr w1) (hS : ∀ x ∈ S, x ∈ X) (hv : ∀ x ∈ S, v.ownBlock ≠ some x ∧ x ≠ B) : Ns m w0 w1 H cB vB eB B cs cg X v h R :=
  ⟨k.mid.own (t.mono (fun x hx => by simp [hS x hx])), k.box.tn t (fun hb => (hv B hb).2 rfl), k.own.tn t (fun g hg hm => (hv g hm).1 hg)⟩

/-- What is the walk's own is forgotten. -/
theorem Ns.drop (k : Ns m w0 wr H cB vB eB B cs cg X v h R) : Ns m w0 wr H cB vB eB B cs cg [] v h R :=
  { k with mid := k.mid.sub (fun x hx => by simp only [List.mem_cons, List.mem_append, List.not_mem_nil, or_false] at hx ⊢; rcases hx with h | h; exact .inl h; exact .inr (.inl h)) }

theorem Ns.call {h2 : Hp} (k : Ns m w0 wr H cB vB eB B cs cg X v h R) (a : AftH m wr w1 H cB vB eB h2 (B :: (v.ownBlock.toList ++ X) ++ [])) : Ns m w0 w1 H cB vB eB B cs cg X v h2 R :=
  ⟨k.mid.call a, a.blk (by simp) k.box, own_blk k.own (fun g hg => a.2.2 g (by simp [hg]))⟩

/-- One more in the row. -/
theorem Ns.app {v' : Value} {R' : List Vs} {cs' : Array Value} {e : TypeId} (k : Ns m w0 wr H cB vB eB B cs cg X v h R) (h1 : Own Vs.cells 3 34 w1 (B + 1) v' R') (h2 : (wr.alloc (.cells cs' e)).grownBy w1 v.ownBlock) (h3 : v'.ownBlock = v.ownBlock ∨ v'.ownBlock = some (wr.heap.size + 1)) : Ns m w0 w1 H cB vB eB B cs cg [] v' h R' := by
  have t1 : Tn v.ownBlock.toList wr w1 := ((Tn.refl v.ownBlock.toList wr).alloc (.cells cs' e)).trans (grown_tn h2) (fun x hx => .inl hx)
  have hBv : v.ownBlock ≠ some B := fun e => by have := (k.own.blk e).1; omega
  have h9 := k.lt
  refine ⟨k.mid.turn t1 (fun x hx => .inl (by simp [opt_toList.1 hx])) (fun x hx => ?_) (fun x hx => ?_), k.box.tn t1 (fun hm => hBv (opt_toList.1 hm)), h1⟩
  · simp only [List.mem_cons, List.mem_append, List.not_mem_nil, or_false] at hx
    rcases hx with rfl | hx
    · exact .inl (by simp)
    · have hx := opt_toList.1 hx
      rcases h3 with h3 | h3
      · exact .inl (by rw [h3] at hx; simp [hx])
      · rw [h3] at hx; cases hx; exact .inr (by omega)
  · simp only [List.mem_cons, List.mem_append, List.not_mem_nil, or_false] at hx
    rcases hx with rfl | hx
    · have := t1.size; omega
    · exact (h1.blk (opt_toList.1 hx)).2

/-- What was put: falling, not above a time. -/
structure Fs (F : List Vs) (j : Nat) (T : Int) : Prop where
  len : F.length = j
  up : ∀ x ∈ F, x.ts ≤ T
  falls : F.Pairwise fun x y => y.ts < x.ts
  t0 : 0 ≤ T
  t1 : T ≤ 4 * (j : Int)

theorem Fs.cons {F : List Vs} {j : Nat} {T : Int} (k : Fs F j T) (x : Vs) (h1 : T < x.ts) (h2 : x.ts ≤ T + 4) : Fs (x :: F) (j + 1) x.ts where
  len := by simp [k.len]
  up := fun y hy => by
    rcases List.mem_cons.1 hy with rfl | hy
    · omega
    · have := k.up y hy; omega
  falls := List.pairwise_cons.2 ⟨fun y hy => by have := k.up y hy; omega, k.falls⟩
  t0 := by have := k.t0; omega
  t1 := by have := k.t1; omega

theorem Fs.put {F : List Vs} {j : Nat} {T : Int} (k : Fs F j T) (x : Vs) (hj : j < 50) (h1 : T < x.ts) (h2 : x.ts ≤ T + 4) (hv : x.val.size ≤ 256) (hd : x.del = true → x.val = ⟨#[]⟩) : Vr.putE F x = 0 := by
  have hf : Vr.fits x = true := by
    have a := k.t0
    have b := k.t1
    rw [Vr.fits_in (by omega) (by omega) hv]
    cases hx : x.del with
    | false => rfl
    | true => rw [hd hx]; rw [emp_nil]; rfl
  cases F with
  | nil => exact (Vr.putE_nil hf).1
  | cons y r => exact (Vr.putE_ok hf (x := y) rfl (by have := k.up y (by simp); omega) (by rw [k.len]; omega)).1

theorem Fs.putK {F : List Vs} {j : Nat} {T : Int} (k : Fs F j T) (T2 : Int) (sv : ByteArray) (hj : j < 50) (h1 : T < T2) (h2 : T2 ≤ T + 4) (hv : sv.size ≤ 256) : Vr.putE F ⟨T2, sv, false⟩ = 0 := k.put ⟨T2, sv, false⟩ hj h1 h2 hv (fun h => Bool.noConfusion h)
theorem Fs.putD {F : List Vs} {j : Nat} {T : Int} (k : Fs F j T) (T2 : Int) (hj : j < 50) (h1 : T < T2) (h2 : T2 ≤ T + 4) : Vr.putE F ⟨T2, ⟨#[]⟩, true⟩ = 0 := k.put ⟨T2, ⟨#[]⟩, true⟩ hj h1 h2 (Nat.zero_le _) (fun _ => rfl)


/-- A Prune of the law. -/
theorem prune_needs {h : Hp} {j : Nat} {b : Bool} {L : List Ln} {F : List Vs} {M M2 : Int} (K : Ns m w0 wr H cB vB eB B cs cg X v h R) (N : Nd h j b L) (S : Says M F (L.map Ln.ver)) (hM : M ≤ M2) (hs : cs = 0 ∧ cg = 1) :
    Calls Try.prog 14 #[.pointer (some ⟨H, 0, none⟩), .agg #[.int .i64 cs, .int .i64 cg], .int .i64 M2] wr fun e w' => ∃ n c, e = .returned (.tuple #[.int .i64 n, .bool c, .int .i64 0]) ∧ ∃ h2 b2 L2, Ns m w0 w' H cB vB eB B cs cg X v h2 R ∧ Nd h2 j b2 L2 ∧ Says M2 F (L2.map Ln.ver) := by
  obtain ⟨h1, h2⟩ := hs
  subst h1
  subst h2
  have S2 := S.up hM
  have hl : L.length ≤ 50 := by have := N.cu; have := N.n5; omega
  have hcu : h.e.cur.length ≤ 3400000000000 := by have := N.cu; have := N.n5; omega
  cases b with
  | true =>
    refine (prune_closed K.mid.1 0 1 M2 N.cell.good N.cell.shut).mono ?_
    rintro e w' ⟨rfl, ha⟩
    exact ⟨0, true, rfl, h, true, L, K.call ha, N, S2⟩
  | false =>
    cases hL : L with
    | nil =>
      have hc := N.cell.chn
      rw [hL] at hc N S2
      refine (prune_empty K.mid.1 0 1 M2 N.cell.good hc N.cell.shut).mono ?_
      rintro e w' ⟨rfl, ha⟩
      exact ⟨0, false, rfl, h, false, [], K.call ha, N, S2⟩
    | cons x0 r0 =>
      have hne : 1 ≤ (slAt h.c.us (0 : Int).toNat).val.g := by
        have hc := N.cell.chn
        rw [hL] at hc
        exact hc.1.2.1
      obtain ⟨i, hi, hk, S3⟩ := S2.prune
      cases i with
      | zero =>
        rw [List.take_zero] at hk
        refine (prune_shut K.mid.1 0 1 M2 N.cell.good L N.cell.chn (by omega) hne N.cell.shut hk).mono ?_
        rintro e w' ⟨rfl, ha⟩
        exact ⟨0, true, rfl, _, true, L, K.call ha, N.shutC true, S2⟩
      | succ i =>
        rw [List.length_map] at hi
        have hx : L[i]? = some (L[i]'(by omega)) := List.getElem?_eq_getElem (by omega)
        refine (prune_cut K.mid.1 0 1 M2 N.cell.good L N.cell.chn (by omega) hne N.cell.shut i _ hx hk hcu).mono ?_
        rintro e w' ⟨rfl, ha⟩
        exact ⟨_, false, rfl, _, false, _, K.call ha, N.prunedN i _ hx, by rw [cutL_ver L i (by omega)]; exact S3⟩

/-- A Read of the law. -/
theorem read_needs {h : Hp} {j : Nat} {b : Bool} {L : List Ln} {t : Int} (K : Ns m w0 wr H cB vB eB B cs cg X v h R) (N : Nd h j b L) (hs : cs = 0 ∧ cg = 1) :
    Calls Try.prog 15 #[.pointer (some ⟨H, 0, none⟩), .agg #[.int .i64 cs, .int .i64 cg], .int .i64 t] wr fun e w' => e = .returned (.tuple #[((Vr.at? (L.map Ln.ver) t).getD Vs.zero).v, .bool (Vr.at? (L.map Ln.ver) t).isSome, .int .i64 0]) ∧ Below wr.heap.size wr w' := by
  obtain ⟨h1, h2⟩ := hs
  subst h1
  subst h2
  have hl : L.length ≤ 50 := by have := N.cu; have := N.n5; omega
  exact read_good K.mid.1 0 1 t N.cell.good L N.cell.chn (by omega)

end Go.Proofs.Ytbdcdiihaecheaa

namespace Go.Proofs.Ytbdcdiihaecheaa
open Go.RowKit
set_option linter.unusedVariables false
set_option maxRecDepth 100000
set_option linter.unusedSectionVars false
variable [Inhabited Cl] [Inhabited Ln]

/-- The numbers: what session 0 has reserved still, and what is given. -/
structure Es (h : Hp) (K tot cc vv : Nat) : Prop where
  sh : h.sh = (List.replicate 17 Sh.zero).set 0 ⟨true, cc, vv⟩
  lc : live h.c.us + cc = K
  lv : live h.v.us + vv = tot
  sc : h.c.size = 40
  sv : h.v.size = 200
  st : h.c.stale = 0 ∧ h.v.stale = 0
  gc : Gens h.c.us (live h.c.us : Int)
  gv : Gens h.v.us (live h.v.us : Int)
  ep : ∃ c, h.e = { Ep.fresh with cur := c }
  k4 : K ≤ 40
  k5 : tot ≤ 200

theorem Es.at0 {h : Hp} {K tot cc vv : Nat} (k : Es h K tot cc vv) : shAt h.sh 0 = ⟨true, cc, vv⟩ := by
  rw [k.sh]
  exact shAt_set _ (by simp)

/-- A cell is being filled. -/
structure Em (h : Hp) (K tot cc vv : Nat) (s g : Int) (b : Bool) (L : List Ln) (F : List Vs) : Prop where
  es : Es h K tot cc vv
  cell : CellAt h s g b L
  all : AllG h (h.e.cur ++ ((hds (slAt h.c.us s.toNat).val.s (slAt h.c.us s.toNat).val.g L).map (fun x => ⟨3, x.1, x.2⟩) ++ [⟨4, s, g⟩]))
  ver : L.map Ln.ver = F

theorem Es.cell {h : Hp} {K tot cc vv : Nat} (k : Es h K tot (cc + 1) vv) (a : AllG h h.e.cur) (key : ByteArray) :
    Em (h.cellPut 0 key) K tot cc vv (low h.c.us : Int) h.c.gen false [] [] := by
  have e : (slAt (h.cellPut 0 key).c.us (low h.c.us : Int).toNat).val = ⟨key, 0, 0, false⟩ := by
    show (slAt (h.c.put _).us (low h.c.us : Int).toNat).val = _
    rw [Int.toNat_natCast, (put_new _ _).1]
  have hl : live (h.cellPut 0 key).c.us = live h.c.us + 1 := live_put _ _
  refine ⟨⟨?_, by rw [hl]; have := k.lc; omega, k.lv, k.sc, k.sv, k.st, ?_, k.gv, k.ep, k.k4, k.k5⟩, ⟨put_good _ _, ?_, ?_⟩, ?_, rfl⟩
  · show h.sh.set 0 { shAt h.sh 0 with c := (shAt h.sh 0).c - 1 } = _
    rw [k.at0, k.sh, List.set_set]
    rfl
  · rw [hl]
    exact Gens.put k.gc (by omega) _
  · rw [e]; exact ⟨rfl, rfl⟩
  · rw [e]
  · exact a.putC _ rfl rfl

variable {h : Hp} {K tot cc vv : Nat} {s g : Int} {b : Bool} {Ls : List Ln} {F : List Vs}

theorem Em.inst (k : Em h K tot cc (vv + 1) s g false Ls F) (x : Vs) : Em (h.inst 0 s.toNat x) K tot cc vv s g false (h.link s.toNat x :: Ls) (x :: F) := by
  have hi := k.cell.good.lt
  have hgen := k.es.gv.gen (by omega)
  have e : (slAt (h.inst 0 s.toNat x).c.us s.toNat).val = { (slAt h.c.us s.toNat).val with s := (low h.v.us : Int), g := h.v.gen } := by
    show (slAt (h.c.set s.toNat _).us s.toNat).val = _
    rw [set_val hi, if_pos rfl]
  have hl : live (h.inst 0 s.toNat x).v.us = live h.v.us + 1 := live_put _ _
  have hlc : live (h.inst 0 s.toNat x).c.us = live h.c.us := set_live hi _
  refine ⟨⟨?_, by rw [hlc]; exact k.es.lc, by rw [hl]; have := k.es.lv; omega, k.es.sc, k.es.sv, k.es.st, ?_, ?_, k.es.ep, k.es.k4, k.es.k5⟩, k.cell.inst 0 x hgen.1, ?_, ?_⟩
  · show h.sh.set 0 { shAt h.sh 0 with v := (shAt h.sh 0).v - 1 } = _
    rw [k.es.at0, k.es.sh, List.set_set]
    rfl
  · rw [hlc]; exact Gens.setv k.es.gc hi _
  · rw [hl]; exact Gens.put k.es.gv (by omega) _
  · rw [e]
    exact k.all.putV (h.link s.toNat x) rfl (fun _ _ hg => hg.set hi _) hlc
  · rw [List.map_cons, k.ver]
    rfl

theorem Em.shutC (k : Em h K tot cc vv s g b Ls F) (b' : Bool) : Em (h.setC s.toNat { (slAt h.c.us s.toNat).val with closed := b' }) K tot cc vv s g b' Ls F := by
  have hi := k.cell.good.lt
  have e : (slAt (h.setC s.toNat { (slAt h.c.us s.toNat).val with closed := b' }).c.us s.toNat).val = { (slAt h.c.us s.toNat).val with closed := b' } := by
    show (slAt (h.c.set s.toNat _).us s.toNat).val = _
    rw [set_val hi, if_pos rfl]
  have hlc : live (h.setC s.toNat { (slAt h.c.us s.toNat).val with closed := b' }).c.us = live h.c.us := set_live hi _
  refine ⟨⟨k.es.sh, by rw [hlc]; exact k.es.lc, k.es.lv, k.es.sc, k.es.sv, k.es.st, by rw [hlc]; exact Gens.setv k.es.gc hi _, k.es.gv, k.es.ep, k.es.k4, k.es.k5⟩, k.cell.setClosed b', ?_, k.ver⟩
  rw [e]
  exact k.all.same rfl (fun _ _ hg => hg.set hi _) hlc

/-- It was retired. -/
structure Eg (h : Hp) (K tot cc vv : Nat) (s g : Int) : Prop where
  es : Es h K tot cc vv
  good : h.c.Good s g
  shut : (slAt h.c.us s.toNat).val.closed = true
  nil : (slAt h.c.us s.toNat).val.s = 0 ∧ (slAt h.c.us s.toNat).val.g = 0
  all : AllG h h.e.cur

theorem Em.retired (k : Em h K tot cc vv s g true Ls F) : Eg (h.retired s g (slAt h.c.us s.toNat).val Ls) K tot cc vv s g := by
  have hi := k.cell.good.lt
  have hlc : live (h.retired s g (slAt h.c.us s.toNat).val Ls).c.us = live h.c.us := set_live hi _
  have e : (slAt (h.retired s g (slAt h.c.us s.toNat).val Ls).c.us s.toNat).val = { (slAt h.c.us s.toNat).val with s := 0, g := 0 } := by
    show (slAt (h.c.set s.toNat _).us s.toNat).val = _
    rw [set_val hi, if_pos rfl]
  obtain ⟨c, hc⟩ := k.es.ep
  refine ⟨⟨k.es.sh, by rw [hlc]; exact k.es.lc, k.es.lv, k.es.sc, k.es.sv, k.es.st, by rw [hlc]; exact Gens.setv k.es.gc hi _, k.es.gv, ⟨(h.retired s g (slAt h.c.us s.toNat).val Ls).e.cur, ?_⟩, k.es.k4, k.es.k5⟩, k.cell.good.set hi _, ?_, ?_, ?_⟩
  · show ({ h.e with cur := _ } : Ep) = _
    rw [hc]
    rfl
  · rw [e]; exact k.cell.shut
  · rw [e]; exact ⟨rfl, rfl⟩
  · have := k.all.same (h2 := h.retired s g (slAt h.c.us s.toNat).val Ls) rfl (fun _ _ hg => hg.set hi _) hlc
    have e2 : (h.retired s g (slAt h.c.us s.toNat).val Ls).e.cur = h.e.cur ++ ((hds (slAt h.c.us s.toNat).val.s (slAt h.c.us s.toNat).val.g Ls).map (fun x => ⟨3, x.1, x.2⟩) ++ [⟨4, s, g⟩]) := by
      simp [Hp.retired, Hp.wait, Hp.setC]
    rw [e2]
    exact this

theorem Em.curle (k : Em h K tot cc vv s g b Ls F) : h.e.cur.length ≤ 240 ∧ Ls.length ≤ 240 := by
  have h1 := k.all.len
  have h2 := k.es.lc
  have h3 := k.es.lv
  have h4 := k.es.k4
  have h5 := k.es.k5
  simp only [List.length_append, List.length_map, List.length_cons, List.length_nil, hds_len] at h1
  omega

theorem kept_del {mark : Int} {d : Vs} {r : List Vs} (hd : d.del = true) (h : ∀ x ∈ d :: r, x.ts ≤ mark) : (Vr.prune mark (d :: r)).kept = [] := by
  unfold Vr.prune
  rw [List.foldl_cons, Vr.pstep_del (h d (by simp)) hd, Vr.fold_low (fun y hy => h y (by simp [hy]))]

/-- The walk's state in memory. -/
structure Hm (m : Nat) (w0 wr : World) (H cB vB eB B : Nat) (s g : Int) (h : Hp) : Prop where
  mid : MidH m w0 [B] wr H cB vB eB h []
  box : Bk wr B 36 #[.int .i64 s, .int .i64 g]

variable {m : Nat} {w0 wr w1 : World} {H cB vB eB B : Nat}

theorem Hm.below (k : Hm m w0 wr H cB vB eB B s g h) (hb : Below wr.heap.size wr w1) : Hm m w0 w1 H cB vB eB B s g h := ⟨k.mid.quiet (Tn.of_below hb []), k.box.tn (Tn.of_below hb []) (by simp)⟩
theorem Hm.call {h2 : Hp} (k : Hm m w0 wr H cB vB eB B s g h) (a : AftH m wr w1 H cB vB eB h2 ([B] ++ [])) : Hm m w0 w1 H cB vB eB B s g h2 := ⟨k.mid.call a, a.blk (by simp) k.box⟩

theorem ends_install (K1 : Hm m w0 wr H cB vB eB B s g h) (N : Em h K tot cc (vv + 1) s g false Ls F) (x : Vs) (hx : x.val.size ≤ 256) (hp : Vr.putE F x = 0) :
    Calls Try.prog 13 #[.pointer (some ⟨H, 0, none⟩), .int .i64 0, .agg #[.int .i64 s, .int .i64 g], x.v] wr fun e w' => e = .returned (.int .i64 0) ∧ ∃ h2 L2, Hm m w0 w' H cB vB eB B s g h2 ∧ Em h2 K tot cc vv s g false L2 (x :: F) := by
  have hgen := N.es.gv.gen (by omega)
  have h0 := N.es.at0
  have h3 := N.es.lv
  have h5 := N.es.k5
  have h6 := N.curle
  refine (install_ok K1.mid.1 0 (by omega) (by rw [h0]) s g N.cell.good x Ls N.cell.chn (by omega) N.cell.shut (by omega) (by rw [N.ver]; exact hp) (by rw [h0]; exact Nat.succ_pos _) (by rw [h0]; show vv + 1 ≤ 65536; omega) (by rw [N.es.sv]; omega) hgen.1 (by omega)).mono ?_
  rintro e w' ⟨rfl, ha⟩
  exact ⟨rfl, _, _, K1.call ha, N.inst x⟩

theorem Em.g1 (N : Em h K tot cc vv s g b Ls F) (hF : F ≠ []) : 1 ≤ (slAt h.c.us s.toNat).val.g := by
  have hc := N.cell.chn
  have hv := N.ver
  cases Ls with
  | nil => exact absurd hv.symm hF
  | cons x r => exact hc.1.2.1

theorem ends_prune (K1 : Hm m w0 wr H cB vB eB B s g h) (N : Em h K tot cc vv s g false Ls F) (hF : F ≠ []) (mark : Int) (hk : (Vr.prune mark F).kept = []) :
    Calls Try.prog 14 #[.pointer (some ⟨H, 0, none⟩), .agg #[.int .i64 s, .int .i64 g], .int .i64 mark] wr fun e w' => e = .returned (.tuple #[.int .i64 0, .bool true, .int .i64 0]) ∧ ∃ h2, Hm m w0 w' H cB vB eB B s g h2 ∧ Em h2 K tot cc vv s g true Ls F := by
  have h6 := N.curle
  refine (prune_shut K1.mid.1 s g mark N.cell.good Ls N.cell.chn (by omega) (N.g1 hF) N.cell.shut (by rw [N.ver]; exact hk)).mono ?_
  rintro e w' ⟨rfl, ha⟩
  exact ⟨rfl, _, K1.call ha, N.shutC true⟩

theorem ends_closed (K1 : Hm m w0 wr H cB vB eB B s g h) (N : Em h K tot cc vv s g true Ls F) (x : Vs) :
    Calls Try.prog 13 #[.pointer (some ⟨H, 0, none⟩), .int .i64 0, .agg #[.int .i64 s, .int .i64 g], x.v] wr fun e w' => e = .returned (.int .i64 160) ∧ Hm m w0 w' H cB vB eB B s g h := by
  refine (install_closed K1.mid.1 0 (by omega) (by rw [N.es.at0]) s g N.cell.good x N.cell.shut).mono ?_
  rintro e w' ⟨rfl, hb⟩
  exact ⟨rfl, K1.below hb⟩

theorem ends_reopen (K1 : Hm m w0 wr H cB vB eB B s g h) (N : Em h K tot cc vv s g true Ls F) (hF : F ≠ []) :
    Calls Try.prog 17 #[.pointer (some ⟨H, 0, none⟩), .agg #[.int .i64 s, .int .i64 g]] wr fun e w' => e = .returned (.int .i64 0) ∧ ∃ h2, Hm m w0 w' H cB vB eB B s g h2 ∧ Em h2 K tot cc vv s g false Ls F := by
  refine (reopen_good K1.mid.1 s g N.cell.good (N.g1 hF) N.cell.shut).mono ?_
  rintro e w' ⟨rfl, ha⟩
  exact ⟨rfl, _, K1.call ha, N.shutC false⟩

theorem ends_reopen2 (K1 : Hm m w0 wr H cB vB eB B s g h) (N : Em h K tot cc vv s g false Ls F) :
    Calls Try.prog 17 #[.pointer (some ⟨H, 0, none⟩), .agg #[.int .i64 s, .int .i64 g]] wr fun e w' => e = .returned (.int .i64 162) ∧ Hm m w0 w' H cB vB eB B s g h := by
  refine (reopen_no2 K1.mid.1 s g (fun w hh => closedCell_open hh s g N.cell.good N.cell.shut)).mono ?_
  rintro e w' ⟨rfl, hb⟩
  exact ⟨rfl, K1.below hb⟩

theorem ends_retire (K1 : Hm m w0 wr H cB vB eB B s g h) (N : Em h K tot cc vv s g true Ls F) (hF : F ≠ []) :
    Calls Try.prog 18 #[.pointer (some ⟨H, 0, none⟩), .agg #[.int .i64 s, .int .i64 g]] wr fun e w' => e = .returned (.int .i64 0) ∧ ∃ h2, Hm m w0 w' H cB vB eB B s g h2 ∧ Eg h2 K tot cc vv s g := by
  have h6 := N.curle
  refine (retire_good K1.mid.1 s g N.cell.good Ls N.cell.chn (by omega) (N.g1 hF) N.cell.shut (by omega)).mono ?_
  rintro e w' ⟨rfl, ha⟩
  exact ⟨rfl, _, K1.call ha, N.retired⟩

theorem ends_retire2 (K1 : Hm m w0 wr H cB vB eB B s g h) (N : Eg h K tot cc vv s g) :
    Calls Try.prog 18 #[.pointer (some ⟨H, 0, none⟩), .agg #[.int .i64 s, .int .i64 g]] wr fun e w' => e = .returned (.int .i64 162) ∧ Hm m w0 w' H cB vB eB B s g h := by
  refine (retire_no2 K1.mid.1 s g (fun w hh => closedCell_retired hh s g N.good N.shut N.nil)).mono ?_
  rintro e w' ⟨rfl, hb⟩
  exact ⟨rfl, K1.below hb⟩

end Go.Proofs.Ytbdcdiihaecheaa

namespace Go.Proofs.Ytbdcdiihaecheaa
open Go.RowKit
set_option linter.unusedVariables false
set_option maxRecDepth 100000
set_option linter.unusedSectionVars false
variable [Inhabited Cl] [Inhabited Ln]

variable {m : Nat} {w w1 w2 w' : World} {H cB vB eB : Nat} {cb vb eb : List Nat} {h h' : Hp} {av L L' : List Nat}

/-- A session that has nothing reserved, or is none. -/
theorem ask_no2 (w : World) (s : Int) (hS hG er : Int) (hsh : ∀ w', Below w.heap.size w w' → Calls Try.prog 35 #[.pointer (some ⟨H, 0, none⟩), .int .i64 s] w' fun e w2 => e = .returned (.tuple #[.pointer none, .int .i64 er]) ∧ w2 = w') (h0 : ¬ er = 0) :
    Calls Try.prog 38 #[.pointer (some ⟨H, 0, none⟩), .int .i64 s, .agg #[.int .i64 hS, .int .i64 hG]] w fun e w' => e = .returned (.tuple #[.pointer none, Cl.zero.v, .int .i64 er]) ∧ Below w.heap.size w w' := by
  obtain ⟨w2, hw2, hk2⟩ : ∃ w2, (w.alloc (.cells #[.int .i64 hS, .int .i64 hG] 36)).alloc (.cells #[.string ⟨#[]⟩, .int .i64 0, .int .i64 0, .bool false] 93) = w2 ∧ Bk w2 (w.heap.size + 1) 93 #[.string ⟨#[]⟩, .int .i64 0, .int .i64 0, .bool false] := ⟨_, rfl, bk_new2 _ _ _ _⟩
  have hb2 : Below w.heap.size w w2 := by rw [← hw2]; exact ((Below.refl _ w).alloc (Nat.le_refl _) _).alloc (by simp) _
  have HR5 : Hid (Bk w2 (w.heap.size + 1) 93 #[.string ⟨#[]⟩, .int .i64 0, .int .i64 0, .bool false] ∧ Below w.heap.size w w2) := ⟨hk2, hb2⟩
  have HSH : Hid (Calls Try.prog 35 #[.pointer (some ⟨H, 0, none⟩), .int .i64 s] w2 fun e w3 => e = .returned (.tuple #[.pointer none, .int .i64 er]) ∧ w3 = w2) := hsh w2 hb2
  have y0 : w2.cell? ⟨w.heap.size + 1, 0, none⟩ = some (.string ⟨#[]⟩) := HR5.out.1.cell 0
  have y1 : w2.cell? ⟨w.heap.size + 1, 1, none⟩ = some (.int .i64 0) := HR5.out.1.cell 1
  have y2 : w2.cell? ⟨w.heap.size + 1, 2, none⟩ = some (.int .i64 0) := HR5.out.1.cell 2
  have y3 : w2.cell? ⟨w.heap.size + 1, 3, none⟩ = some (.bool false) := HR5.out.1.cell 3
  have g0 : w2.frozen? ⟨w.heap.size + 1, 0, none⟩ = false := HR5.out.1.frozen 0
  have g1 : w2.frozen? ⟨w.heap.size + 1, 1, none⟩ = false := HR5.out.1.frozen 1
  have g2 : w2.frozen? ⟨w.heap.size + 1, 2, none⟩ = false := HR5.out.1.frozen 2
  have g3 : w2.frozen? ⟨w.heap.size + 1, 3, none⟩ = false := HR5.out.1.frozen 3
  clear hsh hb2 hk2
  go_enter Try.func38, Try.ntmps38
  go_wp2_with fail
  refine HSH.out.mono ?_
  rintro e w3 ⟨rfl, rfl⟩
  go_wp2
  refine bodyPost_ret (results_ask (x := Cl.zero) rfl rfl (by exact ((((HR5.out.1.set 0 _).set 1 _).set 2 _).set 3 _))) rfl ?_
  exact ⟨rfl, (((HR5.out.2.setCell (Nat.le_succ _) _).setCell (Nat.le_succ _) _).setCell (Nat.le_succ _) _).setCell (Nat.le_succ _) _⟩

theorem install_no2 (w : World) (s : Int) (hS hG er : Int) (x : Vs) (hsh : ∀ w', Below w.heap.size w w' → Calls Try.prog 35 #[.pointer (some ⟨H, 0, none⟩), .int .i64 s] w' fun e w2 => e = .returned (.tuple #[.pointer none, .int .i64 er]) ∧ w2 = w') (h0 : ¬ er = 0) :
    Calls Try.prog 13 #[.pointer (some ⟨H, 0, none⟩), .int .i64 s, .agg #[.int .i64 hS, .int .i64 hG], x.v] w fun e w' => e = .returned (.int .i64 er) ∧ Below w.heap.size w w' := by
  obtain ⟨x1, x2, x3⟩ := x
  obtain ⟨w2, hw2, hk1⟩ : ∃ w2, (w.alloc (.cells #[.int .i64 hS, .int .i64 hG] 36)).alloc (.cells #[.int .i64 x1, .string x2, .bool x3] 34) = w2 ∧ Bk w2 w.heap.size 36 #[.int .i64 hS, .int .i64 hG] := ⟨_, rfl, (Bk.new _ _ _).alloc _⟩
  have hb2 : Below w.heap.size w w2 := by rw [← hw2]; exact ((Below.refl _ _).alloc (Nat.le_refl _) _).alloc (by simp) _
  have HB2 : Hid (Below w.heap.size w w2) := hb2
  have a0 : w2.cell? ⟨w.heap.size, 0, none⟩ = some (.int .i64 hS) := hk1.cell 0
  have a1 : w2.cell? ⟨w.heap.size, 1, none⟩ = some (.int .i64 hG) := hk1.cell 1
  obtain ⟨zd, hzd⟩ : ∃ zd : Bool, zd = false := ⟨_, rfl⟩
  have HASK : Hid (Calls Try.prog 38 #[.pointer (some ⟨H, 0, none⟩), .int .i64 s, .agg #[.int .i64 hS, .int .i64 hG]] w2 fun e w' => e = .returned (.tuple #[.pointer none, .agg #[.string ⟨#[]⟩, .int .i64 0, .int .i64 0, .bool zd], .int .i64 er]) ∧ Below w2.heap.size w2 w') := by
    rw [hzd]
    exact ask_no2 w2 s hS hG er (fun w' hb => hsh w' (hb2.trans (hb.mono hb2.size))) h0
  clear hsh hb2 hk1 hzd
  go_enter Try.func13, Try.ntmps13
  go_wp2_with fail
  refine HASK.out.mono ?_
  rintro e w3 ⟨rfl, hb3⟩
  have HB3 : Hid (∀ o, Below w.heap.size w (w3.alloc o)) := fun o => (HB2.out.trans (hb3.mono HB2.out.size)).alloc (by have := hb3.size; have := HB2.out.size; omega) o
  clear hb3 HASK
  go_wp2
  go_ret
  exact ⟨rfl, HB3.out _⟩

set_option maxHeartbeats 4000000 in
theorem install_put (hh : Hpn m w H cB vB eB h av) (s : Nat) (hs : s < 17) (hn : (shAt h.sh s).has = true) (hS hG : Int) (hg : h.c.Good hS hG) (x : Vs) (l : List Ln) (hc : Chn h.v (slAt h.c.us hS.toNat).val.s (slAt h.c.us hS.toNat).val.g l) (hl : l.length ≤ 65536) (hcd : (slAt h.c.us hS.toNat).val.closed = false)
    (hx : x.val.size ≤ 9223372036854775807) (E : Int) (hp : Vr.putE (l.map Ln.ver) x = E) (hE : ¬ E = 0) :
    Calls Try.prog 13 #[.pointer (some ⟨H, 0, none⟩), .int .i64 (s : Int), .agg #[.int .i64 hS, .int .i64 hG], x.v] w fun e w' => e = .returned (.int .i64 E) ∧ AftH m w w' H cB vB eB h av := by
  obtain ⟨x1, x2, x3⟩ := x
  obtain ⟨w2, hw2, hz2, hk1, hk2⟩ : ∃ w2, (w.alloc (.cells #[.int .i64 hS, .int .i64 hG] 36)).alloc (.cells #[.int .i64 x1, .string x2, .bool x3] 34) = w2 ∧ w2.heap.size = w.heap.size + 2 ∧ Bk w2 w.heap.size 36 #[.int .i64 hS, .int .i64 hG] ∧ Bk w2 (w.heap.size + 1) 34 #[.int .i64 x1, .string x2, .bool x3] := ⟨_, rfl, by simp, (Bk.new _ _ _).alloc _, bk_new2 _ _ _ _⟩
  have t2 : Tn [] w w2 := by rw [← hw2]; exact ((Tn.refl _ _).alloc _).alloc _
  have K2 : MidH m w [w.heap.size, w.heap.size + 1] w2 H cB vB eB h av := (MidH.start hh).new t2 (by simp) (by simp; omega)
  have HK2 : Hid (MidH m w [w.heap.size, w.heap.size + 1] w2 H cB vB eB h av) := K2
  have HA2 : Hid (Bk w2 w.heap.size 36 #[.int .i64 hS, .int .i64 hG] ∧ Bk w2 (w.heap.size + 1) 34 #[.int .i64 x1, .string x2, .bool x3]) := ⟨hk1, hk2⟩
  have a0 : w2.cell? ⟨w.heap.size, 0, none⟩ = some (.int .i64 hS) := hk1.cell 0
  have a1 : w2.cell? ⟨w.heap.size, 1, none⟩ = some (.int .i64 hG) := hk1.cell 1
  have HASK : Hid (Calls Try.prog 38 #[.pointer (some ⟨H, 0, none⟩), .int .i64 (s : Int), .agg #[.int .i64 hS, .int .i64 hG]] w2 fun e w' => e = .returned (.tuple #[.pointer (some ⟨H, 3 + s * 3, none⟩), (slAt h.c.us hS.toNat).val.v, .int .i64 0]) ∧ Below w2.heap.size w2 w') := ask_good K2.1 s hs hn hS hG hg
  have HSS : Hid (s < 17) := hs
  obtain ⟨cl, hcl⟩ : ∃ cl, (slAt h.c.us hS.toNat).val = cl := ⟨_, rfl⟩
  rw [hcl] at HASK
  rw [hcl] at hc hcd
  have HCL : Hid ((slAt h.c.us hS.toNat).val = cl) := hcl
  have HG : Hid (h.c.Good hS hG) := hg
  obtain ⟨c1, c2, c3, c4⟩ := cl
  obtain rfl : c4 = false := hcd
  clear hh t2 K2 hk1 hk2 hs hn hg hcl
  go_enter Try.func13, Try.ntmps13
  go_wp2_with fail
  refine HASK.out.mono ?_
  rintro e w3 ⟨rfl, hb3⟩
  obtain ⟨wz, hwz, hzz, hkz⟩ : ∃ wz, w3.alloc (.cells #[.string ⟨#[]⟩, .int .i64 0, .int .i64 0, .bool false] 93) = wz ∧ wz.heap.size = w3.heap.size + 1 ∧ Bk wz w3.heap.size 93 #[.string ⟨#[]⟩, .int .i64 0, .int .i64 0, .bool false] := ⟨_, rfl, by simp, Bk.new _ _ _⟩
  have z0 : wz.cell? ⟨w3.heap.size, 0, none⟩ = some (.string ⟨#[]⟩) := hkz.cell 0
  have z1 : wz.cell? ⟨w3.heap.size, 1, none⟩ = some (.int .i64 0) := hkz.cell 1
  have z2 : wz.cell? ⟨w3.heap.size, 2, none⟩ = some (.int .i64 0) := hkz.cell 2
  have z3 : wz.cell? ⟨w3.heap.size, 3, none⟩ = some (.bool false) := hkz.cell 3
  have y0 : wz.frozen? ⟨w3.heap.size, 0, none⟩ = false := hkz.frozen 0
  have y1 : wz.frozen? ⟨w3.heap.size, 1, none⟩ = false := hkz.frozen 1
  have y2 : wz.frozen? ⟨w3.heap.size, 2, none⟩ = false := hkz.frozen 2
  have y3 : wz.frozen? ⟨w3.heap.size, 3, none⟩ = false := hkz.frozen 3
  obtain ⟨w4, hw4, hz4, hk4, t34⟩ : ∃ w4, (((wz.setCell ⟨w3.heap.size, 0, none⟩ (.string c1)).setCell ⟨w3.heap.size, 1, none⟩ (.int .i64 c2)).setCell ⟨w3.heap.size, 2, none⟩ (.int .i64 c3)).setCell ⟨w3.heap.size, 3, none⟩ (.bool false) = w4 ∧ w4.heap.size = w3.heap.size + 1 ∧ Bk w4 w3.heap.size 93 #[.string c1, .int .i64 c2, .int .i64 c3, .bool false] ∧ Tn [] w3 w4 := ⟨_, rfl, by simp [hzz], (((hkz.set 0 _).set 1 _).set 2 _).set 3 _, by rw [← hwz]; exact (((((Tn.refl [] w3).alloc _).setCell (.inr (Nat.le_refl _)) _).setCell (.inr (Nat.le_refl _)) _).setCell (.inr (Nat.le_refl _)) _).setCell (.inr (Nat.le_refl _)) _⟩
  obtain ⟨C, hC⟩ : ∃ C, w3.heap.size = C := ⟨_, rfl⟩
  rw [hC] at hw4 z0 z1 z2 z3 y0 y1 y2 y3 hk4
  have hzw := HK2.out.2.1.size
  have hz3 := hb3.size
  have HK4 : Hid (MidH m w [C, w.heap.size, w.heap.size + 1] w4 H cB vB eB h av) := (HK2.out.quiet (Tn.of_below hb3 [])).new t34 (by rw [← hC]; simp) (by have := HK2.out.1.avlt w.heap.size (by simp); have := HK2.out.1.avlt (w.heap.size + 1) (by simp); rw [← hC]; simp; omega)
  have HA4 : Hid (Bk w4 w.heap.size 36 #[.int .i64 hS, .int .i64 hG] ∧ Bk w4 (w.heap.size + 1) 34 #[.int .i64 x1, .string x2, .bool x3] ∧ Bk w4 C 93 #[.string c1, .int .i64 c2, .int .i64 c3, .bool false] ∧ w.heap.size + 2 ≤ C) := ⟨(HA2.out.1.tn (Tn.of_below hb3 []) (by simp)).tn t34 (by simp), (HA2.out.2.tn (Tn.of_below hb3 []) (by simp)).tn t34 (by simp), hk4, by have := HK2.out.1.avlt (w.heap.size + 1) (by simp); omega⟩
  rw [hC] at hz4
  have c0' : w4.cell? ⟨C, 0, none⟩ = some (.string c1) := HA4.out.2.2.1.cell 0
  have c1' : w4.cell? ⟨C, 1, none⟩ = some (.int .i64 c2) := HA4.out.2.2.1.cell 1
  have c2' : w4.cell? ⟨C, 2, none⟩ = some (.int .i64 c3) := HA4.out.2.2.1.cell 2
  have c3' : w4.cell? ⟨C, 3, none⟩ = some (.bool false) := HA4.out.2.2.1.cell 3
  clear hk4 t34 hb3 HASK a0 a1 hzw hz3
  go_wp2_with fail
  have HCH : Hid (Calls Try.prog 39 #[.pointer (some ⟨H, 0, none⟩), .agg #[.string c1, .int .i64 c2, .int .i64 c3, .bool false]] w4 fun e w' => ∃ v1 v2, e = .returned (.tuple #[.agg #[v1, v2], .int .i64 0]) ∧ TwoH w4.heap.size w' v1 v2 (l.map Ln.ver) (hds c2 c3 l) ∧ Below w4.heap.size w4 w') := chain_good HK4.out.1 ⟨c1, c2, c3, false⟩ l hc hl
  clear c0' c1' c2' c3' hc
  refine HCH.out.mono ?_
  rintro e w5 ⟨v1, v2, rfl, htw, hb5⟩
  obtain ⟨q1, n1, d1, rfl, hels, hnil, hn1⟩ : ∃ p n c, v1 = .slice p n c ∧ Vrs w5 p (l.map Ln.ver) ∧ (p = none → n = 0 ∧ c = 0) ∧ (l.map Ln.ver).length = n := by
    obtain ⟨p, c, hv, he, hn, -⟩ := htw.o1.els vknd
    exact ⟨p, _, c, hv, he, hn, rfl⟩
  obtain ⟨q2, n2, d2, rfl⟩ : ∃ p n c, v2 = .slice p n c := by
    obtain ⟨p, c, hv, -⟩ := htw.o2.els hdK
    exact ⟨p, _, c, hv⟩
  have hn9 : n1 ≤ 65536 := by rw [← hn1, List.length_map]; exact hl
  obtain ⟨w6, hw6, hz6, hk6⟩ : ∃ w6, w5.alloc (.cells #[.slice q1 n1 d1, .slice q2 n2 d2] 107) = w6 ∧ w6.heap.size = w5.heap.size + 1 ∧ Bk w6 w5.heap.size 107 #[.slice q1 n1 d1, .slice q2 n2 d2] := ⟨_, rfl, by simp, Bk.new _ _ _⟩
  have t56 : Tn [] w5 w6 := by rw [← hw6]; exact (Tn.refl _ _).alloc _
  have b56 : Below w5.heap.size w5 w6 := by rw [← hw6]; exact (Below.refl _ _).alloc (Nat.le_refl _) _
  obtain ⟨F, hF⟩ : ∃ F, w5.heap.size = F := ⟨_, rfl⟩
  have hz5 := hb5.size
  have HEL : Hid (Vrs w6 q1 (l.map Ln.ver)) := hels.below b56 (Nat.le_refl _)
  have HK6 : Hid (MidH m w [F, C, w.heap.size, w.heap.size + 1] w6 H cB vB eB h av) := by
    have k5 := HK4.out.quiet (Tn.of_below hb5 [])
    refine k5.new t56 (by rw [← hF]; simp) (fun x hx => ?_)
    rcases List.mem_cons.1 hx with rfl | hx
    · omega
    · have := k5.1.avlt x (List.mem_append.2 (.inl hx)); omega
  have HA6 : Hid (Bk w6 w.heap.size 36 #[.int .i64 hS, .int .i64 hG] ∧ Bk w6 (w.heap.size + 1) 34 #[.int .i64 x1, .string x2, .bool x3] ∧ Bk w6 C 93 #[.string c1, .int .i64 c2, .int .i64 c3, .bool false] ∧ w.heap.size + 2 ≤ C) := ⟨(HA4.out.1.tn (Tn.of_below hb5 []) (by simp)).tn t56 (by simp), (HA4.out.2.1.tn (Tn.of_below hb5 []) (by simp)).tn t56 (by simp), (HA4.out.2.2.1.tn (Tn.of_below hb5 []) (by simp)).tn t56 (by simp), HA4.out.2.2.2⟩
  rw [hF] at hz6 hk6
  have f0 : w6.cell? ⟨F, 0, none⟩ = some (.slice q1 n1 d1) := hk6.cell 0
  have v0 : w6.cell? ⟨w.heap.size + 1, 0, none⟩ = some (.int .i64 x1) := HA6.out.2.1.cell 0
  have v1 : w6.cell? ⟨w.heap.size + 1, 1, none⟩ = some (.string x2) := HA6.out.2.1.cell 1
  have v2 : w6.cell? ⟨w.heap.size + 1, 2, none⟩ = some (.bool x3) := HA6.out.2.1.cell 2
  have HPV : Hid (Calls Try.prog 40 #[.slice q1 n1 d1, .agg #[.int .i64 x1, .string x2, .bool x3]] w6 fun e w' => ∃ u, e = .returned (.tuple #[u, .int .i64 (Vr.putE (l.map Ln.ver) ⟨x1, x2, x3⟩)]) ∧ OwnV w' w6.heap.size u (Vr.putL (l.map Ln.ver) ⟨x1, x2, x3⟩) ∧ Below w6.heap.size w6 w') := put_any q1 n1 d1 (l.map Ln.ver) ⟨x1, x2, x3⟩ w6 hn1 HEL.out (fun e => by have := hnil e; omega) hx (by omega)
  clear htw hels hnil hb5 t56 b56 hk6 HCH HEL hn1
  go_wp2_with fail
  refine HPV.out.mono ?_
  rintro e w7 ⟨u, rfl, -, hb7⟩
  have HK7 : Hid (MidH m w [F, C, w.heap.size, w.heap.size + 1] w7 H cB vB eB h av) := HK6.out.quiet (Tn.of_below hb7 [])
  have HA7 : Hid (Bk w7 w.heap.size 36 #[.int .i64 hS, .int .i64 hG] ∧ Bk w7 (w.heap.size + 1) 34 #[.int .i64 x1, .string x2, .bool x3] ∧ Bk w7 C 93 #[.string c1, .int .i64 c2, .int .i64 c3, .bool false]) := ⟨HA6.out.1.tn (Tn.of_below hb7 []) (by simp), HA6.out.2.1.tn (Tn.of_below hb7 []) (by simp), HA6.out.2.2.1.tn (Tn.of_below hb7 []) (by simp)⟩
  clear hb7 HPV f0 v0 v1 v2
  go_wp2
  go_ret
  exact ⟨rfl, HK7.out.fin⟩

set_option maxHeartbeats 4000000 in
theorem install_full (hh : Hpn m w H cB vB eB h av) (s : Nat) (hs : s < 17) (hn : (shAt h.sh s).has = true) (hS hG : Int) (hg : h.c.Good hS hG) (x : Vs) (l : List Ln) (hc : Chn h.v (slAt h.c.us hS.toNat).val.s (slAt h.c.us hS.toNat).val.g l) (hl : l.length ≤ 65536) (hcd : (slAt h.c.us hS.toNat).val.closed = false)
    (hx : x.val.size ≤ 9223372036854775807) (hp : Vr.putE (l.map Ln.ver) x = 0) (hv : (shAt h.sh s).v = 0) :
    Calls Try.prog 13 #[.pointer (some ⟨H, 0, none⟩), .int .i64 (s : Int), .agg #[.int .i64 hS, .int .i64 hG], x.v] w fun e w' => e = .returned (.int .i64 5) ∧ AftH m w w' H cB vB eB h av := by
  obtain ⟨x1, x2, x3⟩ := x
  obtain ⟨w2, hw2, hz2, hk1, hk2⟩ : ∃ w2, (w.alloc (.cells #[.int .i64 hS, .int .i64 hG] 36)).alloc (.cells #[.int .i64 x1, .string x2, .bool x3] 34) = w2 ∧ w2.heap.size = w.heap.size + 2 ∧ Bk w2 w.heap.size 36 #[.int .i64 hS, .int .i64 hG] ∧ Bk w2 (w.heap.size + 1) 34 #[.int .i64 x1, .string x2, .bool x3] := ⟨_, rfl, by simp, (Bk.new _ _ _).alloc _, bk_new2 _ _ _ _⟩
  have t2 : Tn [] w w2 := by rw [← hw2]; exact ((Tn.refl _ _).alloc _).alloc _
  have K2 : MidH m w [w.heap.size, w.heap.size + 1] w2 H cB vB eB h av := (MidH.start hh).new t2 (by simp) (by simp; omega)
  have HK2 : Hid (MidH m w [w.heap.size, w.heap.size + 1] w2 H cB vB eB h av) := K2
  have HA2 : Hid (Bk w2 w.heap.size 36 #[.int .i64 hS, .int .i64 hG] ∧ Bk w2 (w.heap.size + 1) 34 #[.int .i64 x1, .string x2, .bool x3]) := ⟨hk1, hk2⟩
  have a0 : w2.cell? ⟨w.heap.size, 0, none⟩ = some (.int .i64 hS) := hk1.cell 0
  have a1 : w2.cell? ⟨w.heap.size, 1, none⟩ = some (.int .i64 hG) := hk1.cell 1
  have HASK : Hid (Calls Try.prog 38 #[.pointer (some ⟨H, 0, none⟩), .int .i64 (s : Int), .agg #[.int .i64 hS, .int .i64 hG]] w2 fun e w' => e = .returned (.tuple #[.pointer (some ⟨H, 3 + s * 3, none⟩), (slAt h.c.us hS.toNat).val.v, .int .i64 0]) ∧ Below w2.heap.size w2 w') := ask_good K2.1 s hs hn hS hG hg
  have HSS : Hid (s < 17) := hs
  obtain ⟨cl, hcl⟩ : ∃ cl, (slAt h.c.us hS.toNat).val = cl := ⟨_, rfl⟩
  rw [hcl] at HASK
  rw [hcl] at hc hcd
  have HCL : Hid ((slAt h.c.us hS.toNat).val = cl) := hcl
  have HG : Hid (h.c.Good hS hG) := hg
  obtain ⟨c1, c2, c3, c4⟩ := cl
  obtain rfl : c4 = false := hcd
  clear hh t2 K2 hk1 hk2 hs hn hg hcl
  go_enter Try.func13, Try.ntmps13
  go_wp2_with fail
  refine HASK.out.mono ?_
  rintro e w3 ⟨rfl, hb3⟩
  obtain ⟨wz, hwz, hzz, hkz⟩ : ∃ wz, w3.alloc (.cells #[.string ⟨#[]⟩, .int .i64 0, .int .i64 0, .bool false] 93) = wz ∧ wz.heap.size = w3.heap.size + 1 ∧ Bk wz w3.heap.size 93 #[.string ⟨#[]⟩, .int .i64 0, .int .i64 0, .bool false] := ⟨_, rfl, by simp, Bk.new _ _ _⟩
  have z0 : wz.cell? ⟨w3.heap.size, 0, none⟩ = some (.string ⟨#[]⟩) := hkz.cell 0
  have z1 : wz.cell? ⟨w3.heap.size, 1, none⟩ = some (.int .i64 0) := hkz.cell 1
  have z2 : wz.cell? ⟨w3.heap.size, 2, none⟩ = some (.int .i64 0) := hkz.cell 2
  have z3 : wz.cell? ⟨w3.heap.size, 3, none⟩ = some (.bool false) := hkz.cell 3
  have y0 : wz.frozen? ⟨w3.heap.size, 0, none⟩ = false := hkz.frozen 0
  have y1 : wz.frozen? ⟨w3.heap.size, 1, none⟩ = false := hkz.frozen 1
  have y2 : wz.frozen? ⟨w3.heap.size, 2, none⟩ = false := hkz.frozen 2
  have y3 : wz.frozen? ⟨w3.heap.size, 3, none⟩ = false := hkz.frozen 3
  obtain ⟨w4, hw4, hz4, hk4, t34⟩ : ∃ w4, (((wz.setCell ⟨w3.heap.size, 0, none⟩ (.string c1)).setCell ⟨w3.heap.size, 1, none⟩ (.int .i64 c2)).setCell ⟨w3.heap.size, 2, none⟩ (.int .i64 c3)).setCell ⟨w3.heap.size, 3, none⟩ (.bool false) = w4 ∧ w4.heap.size = w3.heap.size + 1 ∧ Bk w4 w3.heap.size 93 #[.string c1, .int .i64 c2, .int .i64 c3, .bool false] ∧ Tn [] w3 w4 := ⟨_, rfl, by simp [hzz], (((hkz.set 0 _).set 1 _).set 2 _).set 3 _, by rw [← hwz]; exact (((((Tn.refl [] w3).alloc _).setCell (.inr (Nat.le_refl _)) _).setCell (.inr (Nat.le_refl _)) _).setCell (.inr (Nat.le_refl _)) _).setCell (.inr (Nat.le_refl _)) _⟩
  obtain ⟨C, hC⟩ : ∃ C, w3.heap.size = C := ⟨_, rfl⟩
  rw [hC] at hw4 z0 z1 z2 z3 y0 y1 y2 y3 hk4
  have hzw := HK2.out.2.1.size
  have hz3 := hb3.size
  have HK4 : Hid (MidH m w [C, w.heap.size, w.heap.size + 1] w4 H cB vB eB h av) := (HK2.out.quiet (Tn.of_below hb3 [])).new t34 (by rw [← hC]; simp) (by have := HK2.out.1.avlt w.heap.size (by simp); have := HK2.out.1.avlt (w.heap.size + 1) (by simp); rw [← hC]; simp; omega)
  have HA4 : Hid (Bk w4 w.heap.size 36 #[.int .i64 hS, .int .i64 hG] ∧ Bk w4 (w.heap.size + 1) 34 #[.int .i64 x1, .string x2, .bool x3] ∧ Bk w4 C 93 #[.string c1, .int .i64 c2, .int .i64 c3, .bool false] ∧ w.heap.size + 2 ≤ C) := ⟨(HA2.out.1.tn (Tn.of_below hb3 []) (by simp)).tn t34 (by simp), (HA2.out.2.tn (Tn.of_below hb3 []) (by simp)).tn t34 (by simp), hk4, by have := HK2.out.1.avlt (w.heap.size + 1) (by simp); omega⟩
  rw [hC] at hz4
  have c0' : w4.cell? ⟨C, 0, none⟩ = some (.string c1) := HA4.out.2.2.1.cell 0
  have c1' : w4.cell? ⟨C, 1, none⟩ = some (.int .i64 c2) := HA4.out.2.2.1.cell 1
  have c2' : w4.cell? ⟨C, 2, none⟩ = some (.int .i64 c3) := HA4.out.2.2.1.cell 2
  have c3' : w4.cell? ⟨C, 3, none⟩ = some (.bool false) := HA4.out.2.2.1.cell 3
  clear hk4 t34 hb3 HASK a0 a1 hzw hz3
  go_wp2_with fail
  have HCH : Hid (Calls Try.prog 39 #[.pointer (some ⟨H, 0, none⟩), .agg #[.string c1, .int .i64 c2, .int .i64 c3, .bool false]] w4 fun e w' => ∃ v1 v2, e = .returned (.tuple #[.agg #[v1, v2], .int .i64 0]) ∧ TwoH w4.heap.size w' v1 v2 (l.map Ln.ver) (hds c2 c3 l) ∧ Below w4.heap.size w4 w') := chain_good HK4.out.1 ⟨c1, c2, c3, false⟩ l hc hl
  clear c0' c1' c2' c3' hc
  refine HCH.out.mono ?_
  rintro e w5 ⟨v1, v2, rfl, htw, hb5⟩
  obtain ⟨q1, n1, d1, rfl, hels, hnil, hn1⟩ : ∃ p n c, v1 = .slice p n c ∧ Vrs w5 p (l.map Ln.ver) ∧ (p = none → n = 0 ∧ c = 0) ∧ (l.map Ln.ver).length = n := by
    obtain ⟨p, c, hv, he, hn, -⟩ := htw.o1.els vknd
    exact ⟨p, _, c, hv, he, hn, rfl⟩
  obtain ⟨q2, n2, d2, rfl⟩ : ∃ p n c, v2 = .slice p n c := by
    obtain ⟨p, c, hv, -⟩ := htw.o2.els hdK
    exact ⟨p, _, c, hv⟩
  have hn9 : n1 ≤ 65536 := by rw [← hn1, List.length_map]; exact hl
  obtain ⟨w6, hw6, hz6, hk6⟩ : ∃ w6, w5.alloc (.cells #[.slice q1 n1 d1, .slice q2 n2 d2] 107) = w6 ∧ w6.heap.size = w5.heap.size + 1 ∧ Bk w6 w5.heap.size 107 #[.slice q1 n1 d1, .slice q2 n2 d2] := ⟨_, rfl, by simp, Bk.new _ _ _⟩
  have t56 : Tn [] w5 w6 := by rw [← hw6]; exact (Tn.refl _ _).alloc _
  have b56 : Below w5.heap.size w5 w6 := by rw [← hw6]; exact (Below.refl _ _).alloc (Nat.le_refl _) _
  obtain ⟨F, hF⟩ : ∃ F, w5.heap.size = F := ⟨_, rfl⟩
  have hz5 := hb5.size
  have HEL : Hid (Vrs w6 q1 (l.map Ln.ver)) := hels.below b56 (Nat.le_refl _)
  have HK6 : Hid (MidH m w [F, C, w.heap.size, w.heap.size + 1] w6 H cB vB eB h av) := by
    have k5 := HK4.out.quiet (Tn.of_below hb5 [])
    refine k5.new t56 (by rw [← hF]; simp) (fun x hx => ?_)
    rcases List.mem_cons.1 hx with rfl | hx
    · omega
    · have := k5.1.avlt x (List.mem_append.2 (.inl hx)); omega
  have HA6 : Hid (Bk w6 w.heap.size 36 #[.int .i64 hS, .int .i64 hG] ∧ Bk w6 (w.heap.size + 1) 34 #[.int .i64 x1, .string x2, .bool x3] ∧ Bk w6 C 93 #[.string c1, .int .i64 c2, .int .i64 c3, .bool false] ∧ w.heap.size + 2 ≤ C) := ⟨(HA4.out.1.tn (Tn.of_below hb5 []) (by simp)).tn t56 (by simp), (HA4.out.2.1.tn (Tn.of_below hb5 []) (by simp)).tn t56 (by simp), (HA4.out.2.2.1.tn (Tn.of_below hb5 []) (by simp)).tn t56 (by simp), HA4.out.2.2.2⟩
  rw [hF] at hz6 hk6
  have f0 : w6.cell? ⟨F, 0, none⟩ = some (.slice q1 n1 d1) := hk6.cell 0
  have v0 : w6.cell? ⟨w.heap.size + 1, 0, none⟩ = some (.int .i64 x1) := HA6.out.2.1.cell 0
  have v1 : w6.cell? ⟨w.heap.size + 1, 1, none⟩ = some (.string x2) := HA6.out.2.1.cell 1
  have v2 : w6.cell? ⟨w.heap.size + 1, 2, none⟩ = some (.bool x3) := HA6.out.2.1.cell 2
  have HPV : Hid (Calls Try.prog 40 #[.slice q1 n1 d1, .agg #[.int .i64 x1, .string x2, .bool x3]] w6 fun e w' => ∃ u, e = .returned (.tuple #[u, .int .i64 (Vr.putE (l.map Ln.ver) ⟨x1, x2, x3⟩)]) ∧ OwnV w' w6.heap.size u (Vr.putL (l.map Ln.ver) ⟨x1, x2, x3⟩) ∧ Below w6.heap.size w6 w') := put_any q1 n1 d1 (l.map Ln.ver) ⟨x1, x2, x3⟩ w6 hn1 HEL.out (fun e => by have := hnil e; omega) hx (by omega)
  clear htw hels hnil hb5 t56 b56 hk6 HCH HEL hn1
  go_wp2_with fail
  refine HPV.out.mono ?_
  rintro e w7 ⟨u, rfl, -, hb7⟩
  have HK7 : Hid (MidH m w [F, C, w.heap.size, w.heap.size + 1] w7 H cB vB eB h av) := HK6.out.quiet (Tn.of_below hb7 [])
  have HA7 : Hid (Bk w7 w.heap.size 36 #[.int .i64 hS, .int .i64 hG] ∧ Bk w7 (w.heap.size + 1) 34 #[.int .i64 x1, .string x2, .bool x3] ∧ Bk w7 C 93 #[.string c1, .int .i64 c2, .int .i64 c3, .bool false]) := ⟨HA6.out.1.tn (Tn.of_below hb7 []) (by simp), HA6.out.2.1.tn (Tn.of_below hb7 []) (by simp), HA6.out.2.2.1.tn (Tn.of_below hb7 []) (by simp)⟩
  obtain ⟨-, -, s2⟩ := HK7.out.1.shc s HSS.out
  have fs2 := HK7.out.1.frz (3 + s * 3 + 2)
  clear hb7 HPV f0 v0 v1 v2
  rw [hv] at s2
  go_wp2
  go_ret
  exact ⟨rfl, HK7.out.fin⟩

end Go.Proofs.Ytbdcdiihaecheaa

namespace Go.Proofs.Ytbdcdiihaecheaa
open Go.RowKit
set_option linter.unusedVariables false
set_option maxRecDepth 100000
set_option linter.unusedSectionVars false
variable [Inhabited Cl] [Inhabited Ln]

theorem sum_set {α : Type} (f : α → Nat) : ∀ (l : List α) (i : Nat) (x d : α), i < l.length → ((l.set i x).map f).sum + f (l.getD i d) = (l.map f).sum + f x
  | [], i, x, d, h => by simp at h
  | y :: r, 0, x, d, h => by simp; omega
  | y :: r, i + 1, x, d, h => by
    have := sum_set f r i x d (by simpa using h)
    simp only [List.set_cons_succ, List.map_cons, List.sum_cons, List.getD_cons_succ] at this ⊢
    omega

theorem sumC_set (l : List Sh) (i : Nat) (x : Sh) (h : i < l.length) : sumC (l.set i x) + (shAt l i).c = sumC l + x.c := sum_set Sh.c l i x _ h
theorem sumV_set (l : List Sh) (i : Nat) (x : Sh) (h : i < l.length) : sumV (l.set i x) + (shAt l i).v = sumV l + x.v := sum_set Sh.v l i x _ h
theorem shAt_set2 (l : List Sh) (i j : Nat) (x : Sh) (h : i < l.length) : shAt (l.set i x) j = if j = i then x else shAt l j := by
  by_cases e : j = i
  · subst e
    rw [if_pos rfl]
    exact shAt_set _ h
  · rw [if_neg e]
    unfold shAt
    simp [List.getD, Ne.symm e]
theorem c_le (l : List Sh) (i : Nat) (h : i < l.length) : (shAt l i).c ≤ sumC l := by
  have h1 := sumC_take l i h
  have h2 := sumC_le l (i + 1)
  omega
theorem v_le (l : List Sh) (i : Nat) (h : i < l.length) : (shAt l i).v ≤ sumV l := by
  have h1 := sumV_take l i h
  have h2 := sumV_le l (i + 1)
  omega

section
variable {α : Type} [Inhabited α]
theorem put_only {v : Ar α} {x : α} {s g : Int} (h : (v.put x).Good s g) : (s = (low v.us : Int) ∧ g = v.gen) ∨ v.Good s g := by
  by_cases hs : s.toNat = low v.us
  · have h0 := h.1
    have hg := h.2.2.2
    rw [hs, (put_new v x).1] at hg
    exact .inl ⟨by omega, hg.symm⟩
  · right
    have hl := h.2.1
    rw [put_length] at hl
    have h0 := h.1
    have hlt : s.toNat < v.us.length := by
      by_cases hc : low v.us < v.us.length
      · rw [if_pos hc] at hl; omega
      · rw [if_neg hc] at hl
        have := low_le v.us
        omega
    have e : slAt (v.put x).us s.toNat = slAt v.us s.toNat := by
      unfold Ar.put
      by_cases hc : low v.us < v.us.length
      · rw [if_pos hc]
        show slAt (v.us.set _ _) _ = _
        rw [slAt_set _ _ _ _ hc, if_neg hs]
      · rw [if_neg hc]
        exact slAt_left _ _ _ hlt
    refine ⟨h0, by omega, ?_, ?_⟩
    · rw [← e]; exact h.2.2.1
    · rw [← e]; exact h.2.2.2

theorem set_only {v : Ar α} {i : Nat} {x : α} {s g : Int} (hi : i < v.us.length) (h : (v.set i x).Good s g) : v.Good s g := by
  have h3 : (slAt (v.us.set i { slAt v.us i with val := x }) s.toNat).given = true := h.2.2.1
  have h4 : (slAt (v.us.set i { slAt v.us i with val := x }) s.toNat).gen = g := h.2.2.2
  rw [slAt_set _ _ _ _ hi] at h3 h4
  refine ⟨h.1, by have := h.2.1; rwa [set_length] at this, ?_, ?_⟩
  · split at h3
    · rename_i e; rw [e]; exact h3
    · exact h3
  · split at h4
    · rename_i e; rw [e]; exact h4
    · exact h4
end

/-- The state: all fits; session 3 has x cells and y versions reserved still; each cell that is given has a chain. -/
structure Ks (h : Hp) (a b x y : Nat) : Prop where
  fit : h.Fit
  sc : h.c.size = a
  sv : h.v.size = b
  a9 : a ≤ 9
  b12 : b ≤ 12
  s3 : shAt h.sh 3 = ⟨true, x, y⟩
  s17 : h.sh.length = 17
  gc : Gens h.c.us (live h.c.us : Int)
  gv : Gens h.v.us (live h.v.us : Int)
  ok : ∀ s g, h.c.Good s g → ∃ L, CellAt h s g false L ∧ L.length ≤ 1024

theorem Ks.bnd {h : Hp} {a b x y : Nat} (k : Ks h a b x y) : live h.c.us + sumC h.sh ≤ 9 ∧ live h.v.us + sumV h.sh ≤ 12 := by
  have h1 := k.fit.c
  have h2 := k.fit.v
  rw [k.sc] at h1
  rw [k.sv] at h2
  have h3 := k.a9
  have h4 := k.b12
  omega

/-- Shares change, all fits still. -/
theorem Ks.share {h : Hp} {a b x y : Nat} (k : Ks h a b x y) (s : Nat) (hs : s < 17) (h3 : s ≠ 3) (n : Sh) (hc : live h.c.us + sumC h.sh + n.c ≤ h.c.size + (shAt h.sh s).c) (hv : live h.v.us + sumV h.sh + n.v ≤ h.v.size + (shAt h.sh s).v) : Ks (h.setSh s n) a b x y where
  fit := by
    have e1 := sumC_set h.sh s n (by rw [k.s17]; exact hs)
    have e2 := sumV_set h.sh s n (by rw [k.s17]; exact hs)
    exact ⟨by show live h.c.us + sumC (h.sh.set s n) ≤ h.c.size; omega, by show live h.v.us + sumV (h.sh.set s n) ≤ h.v.size; omega⟩
  sc := k.sc
  sv := k.sv
  a9 := k.a9
  b12 := k.b12
  s3 := by
    show shAt (h.sh.set s n) 3 = _
    rw [shAt_set2 _ _ _ _ (by rw [k.s17]; exact hs), if_neg (Ne.symm h3)]
    exact k.s3
  s17 := by show (h.sh.set s n).length = 17; rw [List.length_set]; exact k.s17
  gc := k.gc
  gv := k.gv
  ok := fun p q hg => by
    obtain ⟨L, hL, hl⟩ := k.ok p q hg
    exact ⟨L, ⟨hL.good, hL.chn, hL.shut⟩, hl⟩

theorem Ks.cell {h : Hp} {a b x y x2 : Nat} (k : Ks h a b x y) (s : Nat) (hs : s < 17) (key : ByteArray) (hc : 0 < (shAt h.sh s).c) (hx : (shAt (h.sh.set s { shAt h.sh s with c := (shAt h.sh s).c - 1 }) 3) = ⟨true, x2, y⟩) : Ks (h.cellPut s key) a b x2 y ∧ (∀ p q, h.c.Good p q → (h.cellPut s key).c.Good p q) ∧ (h.cellPut s key).c.Good (low h.c.us : Int) h.c.gen := by
  have hl : live (h.cellPut s key).c.us = live h.c.us + 1 := live_put _ _
  refine ⟨⟨⟨?_, ?_⟩, k.sc, k.sv, k.a9, k.b12, hx, ?_, ?_, k.gv, ?_⟩, fun p q hg => hg.put _, put_good _ _⟩
  · have e1 : sumC (h.sh.set s { shAt h.sh s with c := (shAt h.sh s).c - 1 }) + (shAt h.sh s).c = sumC h.sh + ((shAt h.sh s).c - 1) := sumC_set h.sh s _ (by rw [k.s17]; exact hs)
    have h1 := k.fit.c
    show live (h.c.put _).us + sumC (h.sh.set s { shAt h.sh s with c := (shAt h.sh s).c - 1 }) ≤ h.c.size
    rw [live_put]
    omega
  · have e1 : sumV (h.sh.set s { shAt h.sh s with c := (shAt h.sh s).c - 1 }) + (shAt h.sh s).v = sumV h.sh + ((shAt h.sh s).v) := sumV_set h.sh s _ (by rw [k.s17]; exact hs)
    have h1 := k.fit.v
    show live h.v.us + sumV (h.sh.set s { shAt h.sh s with c := (shAt h.sh s).c - 1 }) ≤ h.v.size
    omega
  · show (h.sh.set s _).length = 17
    rw [List.length_set]; exact k.s17
  · rw [hl]; exact Gens.put k.gc (by omega) _
  · intro p q hg
    rcases put_only hg with ⟨rfl, rfl⟩ | hg'
    · refine ⟨[], ⟨hg, ?_, ?_⟩, by simp⟩
      · show Chn h.v (slAt (h.c.put _).us (low h.c.us : Int).toNat).val.s (slAt (h.c.put _).us (low h.c.us : Int).toNat).val.g []
        rw [Int.toNat_natCast, (put_new _ _).1]
        exact ⟨rfl, rfl⟩
      · show (slAt (h.c.put _).us (low h.c.us : Int).toNat).val.closed = false
        rw [Int.toNat_natCast, (put_new _ _).1]
    · obtain ⟨L, hL, hl2⟩ := k.ok p q hg'
      have e : slAt (h.cellPut s key).c.us p.toNat = slAt h.c.us p.toNat := put_keeps h.c _ hg'.lt hg'.2.2.1
      exact ⟨L, ⟨hg, by rw [e]; exact hL.chn, by rw [e]; exact hL.shut⟩, hl2⟩

theorem Ks.inst {h : Hp} {a b x y y2 : Nat} (k : Ks h a b x y) (s : Nat) (hs : s < 17) {p q : Int} (hg : h.c.Good p q) (z : Vs) {L : List Ln} (hL : CellAt h p q false L) (hlen : L.length < 1024) (hv : 0 < (shAt h.sh s).v) (hx : (shAt (h.sh.set s { shAt h.sh s with v := (shAt h.sh s).v - 1 }) 3) = ⟨true, x, y2⟩) : Ks (h.inst s p.toNat z) a b x y2 ∧ (∀ p' q', h.c.Good p' q' → (h.inst s p.toNat z).c.Good p' q') := by
  have hi := hg.lt
  have hl : live (h.inst s p.toNat z).v.us = live h.v.us + 1 := live_put _ _
  have hlc : live (h.inst s p.toNat z).c.us = live h.c.us := set_live hi _
  refine ⟨⟨⟨?_, ?_⟩, k.sc, k.sv, k.a9, k.b12, hx, ?_, ?_, ?_, ?_⟩, fun p' q' hg' => hg'.set hi _⟩
  · have e1 : sumC (h.sh.set s { shAt h.sh s with v := (shAt h.sh s).v - 1 }) + (shAt h.sh s).c = sumC h.sh + ((shAt h.sh s).c) := sumC_set h.sh s _ (by rw [k.s17]; exact hs)
    have h1 := k.fit.c
    rw [hlc]
    show live h.c.us + sumC (h.sh.set s { shAt h.sh s with v := (shAt h.sh s).v - 1 }) ≤ h.c.size
    omega
  · have e1 : sumV (h.sh.set s { shAt h.sh s with v := (shAt h.sh s).v - 1 }) + (shAt h.sh s).v = sumV h.sh + ((shAt h.sh s).v - 1) := sumV_set h.sh s _ (by rw [k.s17]; exact hs)
    have h1 := k.fit.v
    rw [hl]
    show live h.v.us + 1 + sumV (h.sh.set s { shAt h.sh s with v := (shAt h.sh s).v - 1 }) ≤ h.v.size
    omega
  · show (h.sh.set s _).length = 17
    rw [List.length_set]; exact k.s17
  · rw [hlc]; exact Gens.setv k.gc hi _
  · rw [hl]; exact Gens.put k.gv (by omega) _
  · intro p' q' hg'
    have hg2 : h.c.Good p' q' := set_only hi hg'
    by_cases e : p'.toNat = p.toNat
    · obtain ⟨e1, e2⟩ := good_one hg2 hg e
      subst e1
      subst e2
      exact ⟨_, hL.inst s z (k.gv.gen (by omega)).1, by rw [List.length_cons]; omega⟩
    · obtain ⟨L', hL', hl'⟩ := k.ok p' q' hg2
      have ev : (slAt (h.inst s p.toNat z).c.us p'.toNat).val = (slAt h.c.us p'.toNat).val := by
        show (slAt (h.c.set p.toNat _).us p'.toNat).val = _
        rw [set_val hi, if_neg e]
      refine ⟨L', ⟨hg', ?_, ?_⟩, hl'⟩
      · rw [ev]; exact hL'.chn.put _
      · rw [ev]; exact hL'.shut

theorem putE_short {l : List Vs} {z : Vs} (h : Vr.putE l z = 0) : l.length < 1024 := by
  rcases Nat.lt_or_ge l.length 1024 with h1 | h1
  · exact h1
  · exfalso
    cases hf : Vr.fits z with
    | false => rw [(Vr.putE_bad (l := l) hf).1] at h; exact absurd h (by decide)
    | true =>
      cases l with
      | nil => simp at h1
      | cons y r =>
        by_cases ho : z.ts ≤ y.ts
        · rw [(Vr.putE_ord hf (x := y) rfl ho).1] at h; exact absurd h (by decide)
        · rw [(Vr.putE_long hf (x := y) rfl ho h1).1] at h; exact absurd h (by decide)

end Go.Proofs.Ytbdcdiihaecheaa

namespace Go.Proofs.Ytbdcdiihaecheaa
open Go.RowKit
set_option linter.unusedVariables false
set_option maxRecDepth 100000
set_option linter.unusedSectionVars false
variable [Inhabited Cl] [Inhabited Ln]

variable {m : Nat} {w w0 wr w1 w' : World} {H cB vB eB : Nat} {h : Hp} {av : List Nat} {a b x y : Nat}

theorem AftH.small (hh : Hpn m wr H cB vB eB h av) (hb : Below wr.heap.size wr w') : AftH m wr w' H cB vB eB h av := AftH.quiet hh (Tn.of_below hb [])

theorem ks_reserve (hh : Hpn m wr H cB vB eB h av) (K : Ks h a b x y) (s A B : Int) (hs3 : s ≠ 3) :
    Calls Try.prog 10 #[.pointer (some ⟨H, 0, none⟩), .int .i64 s, .int .i64 A, .int .i64 B] wr fun e w' => ∃ er h2, e = .returned (.int .i64 er) ∧ AftH m wr w' H cB vB eB h2 av ∧ Ks h2 a b x y ∧ (∀ p q, h.c.Good p q → h2.c.Good p q) := by
  by_cases hb : s < 0 ∨ (16 : Int) < s ∨ A < 0 ∨ B < 0
  · refine (reserve_arg hh s A B hb).mono ?_
    rintro e w' ⟨rfl, rfl⟩
    exact ⟨1, h, rfl, AftH.refl hh, K, fun _ _ hg => hg⟩
  · obtain ⟨n, rfl⟩ : ∃ n : Nat, s = (n : Int) := ⟨s.toNat, by omega⟩
    obtain ⟨c, rfl⟩ : ∃ n : Nat, A = (n : Int) := ⟨A.toNat, by omega⟩
    obtain ⟨v, rfl⟩ : ∃ n : Nat, B = (n : Int) := ⟨B.toNat, by omega⟩
    have hn : n < 17 := by omega
    cases hh2 : (shAt h.sh n).has with
    | true =>
      refine (reserve_has hh n c v hn hh2).mono ?_
      rintro e w' ⟨rfl, rfl⟩
      exact ⟨161, h, rfl, AftH.refl hh, K, fun _ _ hg => hg⟩
    | false =>
      by_cases hc : h.rc < c ∨ h.rv < v
      · refine (reserve_full hh K.fit n c v hn hh2 hc).mono ?_
        rintro e w' ⟨rfl, hb⟩
        exact ⟨5, h, rfl, AftH.small hh hb, K, fun _ _ hg => hg⟩
      · refine (reserve_ok hh K.fit n c v hn hh2 (by omega) (by omega)).mono ?_
        rintro e w' ⟨rfl, ha⟩
        have f1 := K.fit.c
        have f2 := K.fit.v
        unfold Hp.rc Hp.rv at hc
        exact ⟨0, _, rfl, ha, K.share n hn (by omega) ⟨true, c, v⟩ (by show _ + c ≤ _; omega) (by show _ + v ≤ _; omega), fun _ _ hg => hg⟩

theorem ks_release (hh : Hpn m wr H cB vB eB h av) (K : Ks h a b x y) (s : Int) (hs3 : s ≠ 3) :
    Calls Try.prog 11 #[.pointer (some ⟨H, 0, none⟩), .int .i64 s] wr fun e w' => ∃ er h2, e = .returned (.int .i64 er) ∧ AftH m wr w' H cB vB eB h2 av ∧ Ks h2 a b x y ∧ (∀ p q, h.c.Good p q → h2.c.Good p q) := by
  by_cases hb : s < 0 ∨ (16 : Int) < s
  · refine (release_arg hh s hb).mono ?_
    rintro e w' ⟨rfl, rfl⟩
    exact ⟨1, h, rfl, AftH.refl hh, K, fun _ _ hg => hg⟩
  · obtain ⟨n, rfl⟩ : ∃ n : Nat, s = (n : Int) := ⟨s.toNat, by omega⟩
    have hn : n < 17 := by omega
    cases hh2 : (shAt h.sh n).has with
    | false =>
      refine (release_none hh n hn hh2).mono ?_
      rintro e w' ⟨rfl, rfl⟩
      exact ⟨161, h, rfl, AftH.refl hh, K, fun _ _ hg => hg⟩
    | true =>
      refine (release_ok hh n hn hh2).mono ?_
      rintro e w' ⟨rfl, ha⟩
      have f1 := K.fit.c
      have f2 := K.fit.v
      exact ⟨0, _, rfl, ha, K.share n hn (by omega) Sh.zero (by show _ + 0 ≤ _; omega) (by show _ + 0 ≤ _; omega), fun _ _ hg => hg⟩

theorem ks_cell (hh : Hpn m wr H cB vB eB h av) (K : Ks h a b x y) (s : Int) (hs3 : s ≠ 3) (key : ByteArray) :
    Calls Try.prog 12 #[.pointer (some ⟨H, 0, none⟩), .int .i64 s, .string key] wr fun e w' => ∃ cs cg er h2, e = .returned (.tuple #[.agg #[.int .i64 cs, .int .i64 cg], .int .i64 er]) ∧ AftH m wr w' H cB vB eB h2 av ∧ Ks h2 a b x y ∧ (∀ p q, h.c.Good p q → h2.c.Good p q) ∧ (er = 0 → h2.c.Good cs cg) := by
  by_cases hb : s < 0 ∨ (16 : Int) < s
  · refine (cell_arg hh s key hb).mono ?_
    rintro e w' ⟨rfl, hb⟩
    exact ⟨0, 0, 1, h, rfl, AftH.small hh hb, K, fun _ _ hg => hg, fun h => absurd h (by decide)⟩
  · obtain ⟨n, rfl⟩ : ∃ n : Nat, s = (n : Int) := ⟨s.toNat, by omega⟩
    have hn : n < 17 := by omega
    cases hh2 : (shAt h.sh n).has with
    | false =>
      refine (cell_none hh n key hn hh2).mono ?_
      rintro e w' ⟨rfl, hb⟩
      exact ⟨0, 0, 161, h, rfl, AftH.small hh hb, K, fun _ _ hg => hg, fun h => absurd h (by decide)⟩
    | true =>
      by_cases hk : keyOk key
      · by_cases hc : (shAt h.sh n).c = 0
        · refine (cell_full hh n key hn hh2 hk hc).mono ?_
          rintro e w' ⟨rfl, hb⟩
          exact ⟨0, 0, 5, h, rfl, AftH.small hh hb, K, fun _ _ hg => hg, fun h => absurd h (by decide)⟩
        · have h1 := c_le h.sh n (by rw [K.s17]; exact hn)
          have h2 := K.bnd
          have h3 := K.fit.c
          have hg := K.gc.gen (by omega)
          refine (cell_ok hh n key hn hh2 hk (by omega) (by omega) (by omega) hg.1 (by omega)).mono ?_
          rintro e w' ⟨rfl, ha⟩
          have hx : shAt (h.sh.set n { shAt h.sh n with c := (shAt h.sh n).c - 1 }) 3 = ⟨true, x, y⟩ := by
            rw [shAt_set2 _ _ _ _ (by rw [K.s17]; exact hn), if_neg (by omega)]
            exact K.s3
          obtain ⟨k1, k2, k3⟩ := K.cell n hn key (by omega) hx
          exact ⟨_, _, 0, _, rfl, ha, k1, k2, fun _ => k3⟩
      · refine (cell_key hh n key hn hh2 hk).mono ?_
        rintro e w' ⟨rfl, hb⟩
        exact ⟨0, 0, 30, h, rfl, AftH.small hh hb, K, fun _ _ hg => hg, fun h => absurd h (by decide)⟩

theorem ks_install (hh : Hpn m wr H cB vB eB h av) (K : Ks h a b x y) (s : Int) (hs3 : s ≠ 3) (p q : Int) (hg : h.c.Good p q) (z : Vs) (hz : z.val.size ≤ 9223372036854775807) :
    Calls Try.prog 13 #[.pointer (some ⟨H, 0, none⟩), .int .i64 s, .agg #[.int .i64 p, .int .i64 q], z.v] wr fun e w' => ∃ er h2, e = .returned (.int .i64 er) ∧ AftH m wr w' H cB vB eB h2 av ∧ Ks h2 a b x y ∧ (∀ p q, h.c.Good p q → h2.c.Good p q) := by
  by_cases hb : s < 0 ∨ (16 : Int) < s
  · refine (install_no2 wr s p q 1 z (fun w' hbw => share_arg (hh.below hbw).ptrs.1 s hb) (by decide)).mono ?_
    rintro e w' ⟨rfl, hb⟩
    exact ⟨1, h, rfl, AftH.small hh hb, K, fun _ _ hg => hg⟩
  · obtain ⟨n, rfl⟩ : ∃ n : Nat, s = (n : Int) := ⟨s.toNat, by omega⟩
    have hn : n < 17 := by omega
    cases hh2 : (shAt h.sh n).has with
    | false =>
      refine (install_no2 wr n p q 161 z (fun w' hbw => share_none (hh.below hbw).ptrs.1 n (by omega) (by rw [((hh.below hbw).shc n hn).1, hh2])) (by decide)).mono ?_
      rintro e w' ⟨rfl, hb⟩
      exact ⟨161, h, rfl, AftH.small hh hb, K, fun _ _ hg => hg⟩
    | true =>
      obtain ⟨L, hL, hl⟩ := K.ok p q hg
      by_cases hE : Vr.putE (L.map Ln.ver) z = 0
      · by_cases hv : (shAt h.sh n).v = 0
        · refine (install_full hh n hn hh2 p q hg z L hL.chn (by omega) hL.shut hz hE hv).mono ?_
          rintro e w' ⟨rfl, ha⟩
          exact ⟨5, h, rfl, ha, K, fun _ _ hg => hg⟩
        · have h1 := v_le h.sh n (by rw [K.s17]; exact hn)
          have h2 := K.bnd
          have h3 := K.fit.v
          have hgn := K.gv.gen (by omega)
          refine (install_ok hh n hn hh2 p q hg z L hL.chn (by omega) hL.shut hz hE (by omega) (by omega) (by omega) hgn.1 (by omega)).mono ?_
          rintro e w' ⟨rfl, ha⟩
          have hx : shAt (h.sh.set n { shAt h.sh n with v := (shAt h.sh n).v - 1 }) 3 = ⟨true, x, y⟩ := by
            rw [shAt_set2 _ _ _ _ (by rw [K.s17]; exact hn), if_neg (by omega)]
            exact K.s3
          have hsl := putE_short hE
          rw [List.length_map] at hsl
          obtain ⟨k1, k2⟩ := K.inst n hn hg z hL hsl (by omega) hx
          exact ⟨0, _, rfl, ha, k1, k2⟩
      · refine (install_put hh n hn hh2 p q hg z L hL.chn (by omega) hL.shut hz _ rfl hE).mono ?_
        rintro e w' ⟨rfl, ha⟩
        exact ⟨_, h, rfl, ha, K, fun _ _ hg => hg⟩

/-- Session 3 gets a cell .. -/
theorem ks_cell3 (hh : Hpn m wr H cB vB eB h av) (K : Ks h a b (x + 1) y) (key : ByteArray) (hk : keyOk key) :
    Calls Try.prog 12 #[.pointer (some ⟨H, 0, none⟩), .int .i64 3, .string key] wr fun e w' => ∃ cs cg h2, e = .returned (.tuple #[.agg #[.int .i64 cs, .int .i64 cg], .int .i64 0]) ∧ AftH m wr w' H cB vB eB h2 av ∧ Ks h2 a b x y ∧ CellAt h2 cs cg false [] := by
  have h3 := K.s3
  have h1 := c_le h.sh 3 (by rw [K.s17]; omega)
  have h2 := K.bnd
  have hf := K.fit.c
  have hg := K.gc.gen (by omega)
  rw [h3] at h1
  simp only at h1
  refine (cell_ok hh 3 key (by omega) (by rw [h3]) hk (by rw [h3]; exact Nat.succ_pos _) (by rw [h3]; show x + 1 ≤ 65536; omega) (by omega) hg.1 (by omega)).mono ?_
  rintro e w' ⟨rfl, ha⟩
  have hx : shAt (h.sh.set 3 { shAt h.sh 3 with c := (shAt h.sh 3).c - 1 }) 3 = ⟨true, x, y⟩ := by
    rw [shAt_set2 _ _ _ _ (by rw [K.s17]; omega), if_pos rfl, h3]
    rfl
  obtain ⟨k1, k2, k3⟩ := K.cell 3 (by omega) key (by rw [h3]; exact Nat.succ_pos _) hx
  refine ⟨_, _, _, rfl, ha, k1, k3, ?_, ?_⟩
  · show Chn h.v (slAt (h.c.put _).us (low h.c.us : Int).toNat).val.s (slAt (h.c.put _).us (low h.c.us : Int).toNat).val.g []
    rw [Int.toNat_natCast, (put_new _ _).1]
    exact ⟨rfl, rfl⟩
  · show (slAt (h.c.put _).us (low h.c.us : Int).toNat).val.closed = false
    rw [Int.toNat_natCast, (put_new _ _).1]

theorem ks_cell3_full (hh : Hpn m wr H cB vB eB h av) (K : Ks h a b 0 y) (key : ByteArray) (hk : keyOk key) :
    Calls Try.prog 12 #[.pointer (some ⟨H, 0, none⟩), .int .i64 3, .string key] wr fun e w' => e = .returned (.tuple #[.agg #[.int .i64 0, .int .i64 0], .int .i64 5]) ∧ AftH m wr w' H cB vB eB h av := by
  refine (cell_full hh 3 key (by omega) (by rw [K.s3]) hk (by rw [K.s3])).mono ?_
  rintro e w' ⟨rfl, hb⟩
  exact ⟨rfl, AftH.small hh hb⟩

/-- .. and a version. -/
theorem ks_inst3 {p q : Int} {L : List Ln} {F : List Vs} (hh : Hpn m wr H cB vB eB h av) (K : Ks h a b x (y + 1)) (C : CellAt h p q false L) (hL : L.map Ln.ver = F) (z : Vs) (hz : z.val.size ≤ 256) (hp : Vr.putE F z = 0) :
    Calls Try.prog 13 #[.pointer (some ⟨H, 0, none⟩), .int .i64 3, .agg #[.int .i64 p, .int .i64 q], z.v] wr fun e w' => e = .returned (.int .i64 0) ∧ ∃ h2 L2, AftH m wr w' H cB vB eB h2 av ∧ Ks h2 a b x y ∧ CellAt h2 p q false L2 ∧ L2.map Ln.ver = z :: F := by
  have h3 := K.s3
  have h1 := v_le h.sh 3 (by rw [K.s17]; omega)
  have h2 := K.bnd
  have hf := K.fit.v
  have hgn := K.gv.gen (by omega)
  have hsl := putE_short hp
  rw [← hL, List.length_map] at hsl
  rw [h3] at h1
  simp only at h1
  refine (install_ok hh 3 (by omega) (by rw [h3]) p q C.good z L C.chn (by omega) C.shut (by omega) (by rw [hL]; exact hp) (by rw [h3]; exact Nat.succ_pos _) (by rw [h3]; show y + 1 ≤ 65536; omega) (by omega) hgn.1 (by omega)).mono ?_
  rintro e w' ⟨rfl, ha⟩
  have hx : shAt (h.sh.set 3 { shAt h.sh 3 with v := (shAt h.sh 3).v - 1 }) 3 = ⟨true, x, y⟩ := by
    rw [shAt_set2 _ _ _ _ (by rw [K.s17]; omega), if_pos rfl, h3]
    rfl
  obtain ⟨k1, k2⟩ := K.inst 3 (by omega) C.good z C hsl (by rw [h3]; exact Nat.succ_pos _) hx
  exact ⟨rfl, _, _, ha, k1, C.inst 3 z hgn.1, by rw [List.map_cons, hL]; rfl⟩

theorem ks_inst3_full {p q : Int} {L : List Ln} {F : List Vs} (hh : Hpn m wr H cB vB eB h av) (K : Ks h a b x 0) (C : CellAt h p q false L) (hL : L.map Ln.ver = F) (z : Vs) (hz : z.val.size ≤ 256) (hp : Vr.putE F z = 0) :
    Calls Try.prog 13 #[.pointer (some ⟨H, 0, none⟩), .int .i64 3, .agg #[.int .i64 p, .int .i64 q], z.v] wr fun e w' => e = .returned (.int .i64 5) ∧ AftH m wr w' H cB vB eB h av := by
  have hsl := putE_short hp
  rw [← hL, List.length_map] at hsl
  exact install_full hh 3 (by omega) (by rw [K.s3]) p q C.good z L C.chn (by omega) C.shut (by omega) (by rw [hL]; exact hp) (by rw [K.s3])

end Go.Proofs.Ytbdcdiihaecheaa

namespace Go.Proofs.Ytbdcdiihaecheaa
open Go.RowKit
set_option linter.unusedVariables false
set_option maxRecDepth 100000
set_option linter.unusedSectionVars false
variable [Inhabited Cl] [Inhabited Ln]

variable {m : Nat} {w w0 wr w1 w' : World} {H cB vB eB B : Nat} {h : Hp} {av : List Nat}

def ed0 : Hp := ⟨Ar.fresh 40, Ar.fresh 200, Ep.fresh, List.replicate 17 Sh.zero⟩
theorem ed0_fit : ed0.Fit := ⟨of_decide_eq_true rfl, of_decide_eq_true rfl⟩
theorem ed0_rc : ed0.rc = 40 := rfl
theorem ed0_rv : ed0.rv = 200 := rfl
theorem ed1_es (K tot : Nat) (h1 : K ≤ 40) (h2 : tot ≤ 200) : Es (ed0.setSh 0 ⟨true, K, tot⟩) K tot K tot :=
  ⟨rfl, by show 0 + K = K; omega, by show 0 + tot = tot; omega, rfl, rfl, ⟨rfl, rfl⟩, Gens.nil _, Gens.nil _, ⟨[], rfl⟩, h1, h2⟩
theorem ed1_all (K tot : Nat) : AllG (ed0.setSh 0 ⟨true, K, tot⟩) (ed0.setSh 0 ⟨true, K, tot⟩).e.cur := ⟨fun x hx => absurd (show x ∈ ([] : List Rt) from hx) (by simp), List.nodup_nil, rfl, rfl⟩

/-- What is the same in the law's second half. -/
structure Zs (h : Hp) (now : Nat) : Prop where
  pins : h.e.pins = List.replicate 17 0
  now : h.e.now = now
  sh : h.sh = List.replicate 17 Sh.zero
  sc : h.c.size = 40
  sv : h.v.size = 200
  st : h.c.stale = 0 ∧ h.v.stale = 0

/-- In the midst of a freeing: D is to be freed still. -/
structure Fr (h : Hp) (now : Nat) (D Dc : List Rt) : Prop where
  all : AllG h (D ++ Dc)
  old : h.e.old = Dc
  cur : h.e.cur = []
  z : Zs h now

structure Ez (h : Hp) (now : Nat) (Do Dc : List Rt) : Prop where
  all : AllG h (Do ++ Dc)
  old : h.e.old = Do
  cur : h.e.cur = Dc
  z : Zs h now

theorem Es.ez {K tot : Nat} (k : Es h K tot 0 0) (a : AllG h h.e.cur) : Ez (h.setSh 0 Sh.zero) 1 [] h.e.cur := by
  obtain ⟨c, hc⟩ := k.ep
  refine ⟨by simpa using (a.same (h2 := h.setSh 0 Sh.zero) rfl (fun _ _ hg => hg) rfl), ?_, rfl, ⟨?_, ?_, ?_, k.sc, k.sv, k.st⟩⟩
  · show h.e.old = []
    rw [hc]; rfl
  · show h.e.pins = _
    rw [hc]; rfl
  · show h.e.now = 1
    rw [hc]; rfl
  · show h.sh.set 0 Sh.zero = _
    rw [k.sh, List.set_set]
    rfl

theorem Zs.held {now : Nat} (k : Zs h now) : h.e.held = false := by
  unfold Ep.held
  rw [k.pins]
  simp

theorem Ez.adv {now : Nat} {Do Dc : List Rt} (k : Ez h now Do Dc) : Fr { h with e := h.e.next } (now + 1) Do Dc :=
  ⟨k.all.same rfl (fun _ _ hg => hg) rfl, k.cur, rfl, ⟨k.z.pins, by show h.e.now + 1 = _; rw [k.z.now], k.z.sh, k.z.sc, k.z.sv, k.z.st⟩⟩

theorem Fr.done {now : Nat} {Dc : List Rt} (k : Fr h now [] Dc) : Ez h now Dc [] := ⟨by simpa using k.all, k.old, k.cur, k.z⟩

theorem ends_free {now : Nat} {x : Rt} {D Dc : List Rt} (hh : Hpn m wr H cB vB eB h av) (N : Fr h now (x :: D) Dc) :
    Calls Try.prog 22 #[.pointer (some ⟨H, 0, none⟩), .agg #[.int .i64 x.k, .int .i64 x.s, .int .i64 x.g]] wr fun e w' => e = .returned (.int .i64 0) ∧ ∃ h2, AftH m wr w' H cB vB eB h2 av ∧ Fr h2 now D Dc := by
  obtain ⟨xk, xs, xg⟩ := x
  have ha := N.all
  rcases ha.good _ (List.mem_cons_self ..) with h1 | h1
  · obtain rfl : xk = 3 := h1.1
    obtain ⟨hg, hn⟩ := AllG.freeV ha Ln.zero
    refine (hfree_ver hh xs xg hg).mono ?_
    rintro e w' ⟨rfl, hf⟩
    exact ⟨rfl, _, hf, hn, N.old, N.cur, ⟨N.z.pins, N.z.now, N.z.sh, N.z.sc, N.z.sv, N.z.st⟩⟩
  · obtain rfl : xk = 4 := h1.1
    obtain ⟨hg, hn⟩ := AllG.freeC ha Cl.zero
    refine (hfree_cell hh xs xg hg).mono ?_
    rintro e w' ⟨rfl, hf⟩
    exact ⟨rfl, _, hf, hn, N.old, N.cur, ⟨N.z.pins, N.z.now, N.z.sh, N.z.sc, N.z.sv, N.z.st⟩⟩

theorem ends_advance {now : Nat} {Do Dc : List Rt} (hh : Hpn m wr H cB vB eB h []) (N : Ez h now Do Dc) (hn : now ≤ 100) :
    Calls Try.prog 21 #[.pointer (some ⟨eB, 0, none⟩)] wr fun r w' => ∃ v, r = .returned (.tuple #[v, .int .i64 0]) ∧ (∃ h2, Hpn m w' H cB vB eB h2 v.ownBlock.toList ∧ Fr h2 (now + 1) Do Dc) ∧ Below m wr w' ∧ Rr w' v Do := by
  refine (advance_heap hh (by rw [N.z.now]; omega) N.z.held).mono ?_
  rintro r w' ⟨v, rfl, h1, h2, h3⟩
  rw [List.append_nil] at h1
  rw [N.old] at h3
  exact ⟨v, rfl, ⟨_, h1, N.adv⟩, h2, h3⟩

/-- At the end. -/
theorem Ez.room {now : Nat} (N : Ez h now [] []) : h.Fit ∧ h.rc = 40 ∧ h.rv = 200 ∧ live h.c.us = 0 ∧ live h.v.us = 0 ∧ h.e.old.length + h.e.cur.length = 0 := by
  have h1 : live h.c.us = 0 := N.all.lc
  have h2 : live h.v.us = 0 := N.all.lv
  have h3 : sumC h.sh = 0 := by rw [N.z.sh]; rfl
  have h4 : sumV h.sh = 0 := by rw [N.z.sh]; rfl
  refine ⟨⟨by rw [h1, h3]; omega, by rw [h2, h4]; omega⟩, ?_, ?_, h1, h2, by rw [N.old, N.cur]; rfl⟩
  · unfold Hp.rc; rw [h1, h3, N.z.sc]
  · unfold Hp.rv; rw [h2, h4, N.z.sv]

theorem ends_waiting {now : Nat} {Do Dc : List Rt} (hh : Hpn m wr H cB vB eB h av) (N : Ez h now Do Dc) (hn : now ≤ 100) (hl : Do.length + Dc.length = 0) :
    Calls Try.prog 24 #[.pointer (some ⟨eB, 0, none⟩)] wr fun r w' => r = .returned (.int .i64 0) ∧ Below wr.heap.size wr w' := by
  obtain ⟨cb, vb, eb, hI⟩ := hh
  obtain ⟨vs, -, hE⟩ := hI.e
  refine (waiting_any hE (by rw [N.z.now]; omega) (by rw [N.old, N.cur]; omega)).mono ?_
  rintro r w' ⟨rfl, k, rfl⟩
  rw [N.old, N.cur, hl]
  exact ⟨rfl, below_drewN (Below.refl _ _) _⟩

theorem rr_blk {v : Value} {l : List Rt} (h : Rr w v l) (hb : ∀ g, v.ownBlock = some g → w'.heap[g]? = w.heap[g]?) : Rr w' v l := by
  refine ⟨h.1, ?_⟩
  rcases h.2 with hv | ⟨g, cap, cur, hv, hb', hgg, rest⟩
  · exact .inl hv
  · exact .inr ⟨g, cap, cur, hv, hb', (hb g (by rw [hv]; rfl)).trans hgg, rest⟩

/-- How many are given at most. -/
theorem Hpn.liveb (hh : Hpn m wr H cB vB eB h av) : live h.c.us ≤ 65536 ∧ live h.v.us ≤ 65536 := by
  obtain ⟨cb, vb, eb, hI⟩ := hh
  refine ⟨?_, ?_⟩
  · obtain ⟨_, _, _, _, hi⟩ := hI.c
    have := live_le h.c.us
    have := hi.le
    have := hi.s2
    omega
  · obtain ⟨_, _, _, _, hi⟩ := hI.v
    have := live_le h.v.us
    have := hi.le
    have := hi.s2
    omega

end Go.Proofs.Ytbdcdiihaecheaa

namespace Go.Proofs.Ytbdcdiihaecheaa
open Go.ChangeShapes Go.WideShapes Go.ChangeAt Go.RowKit
set_option linter.unusedVariables false
set_option maxRecDepth 100000

def Vs.ok (x : Vs) : Prop := x.val.size ≤ 9223372036854775807

section
variable {H : Type} {enc : TypeId × Value → H} {W : World} {fuel : Nat} {cs : List Value} {x : DataW H × List MemPlace}

theorem in_ver (hf : DataW.trod enc Try.prog W 0 (fun _ => true) true fuel 34 cs = some x) : ∃ g : Vs, cs = g.cells ∧ g.ok := by
  obtain ⟨ys, n, -, rfl, hlen, hys, hall⟩ := DataW.trod_struct Try.underlying34 hf
  have eT : Try.prog.cellsOf 34 = 3 := by kernel_rfl
  rw [eT] at hlen
  obtain ⟨c0, c1, c2, rfl⟩ := list3 hlen
  obtain ⟨y0, y1, y2, rfl⟩ := list3 (l := ys) hys
  have h0 : DataW.trod enc Try.prog W 0 (fun _ => true) true n 2 [c0] = some y0 := by
    have h : DataW.trod enc Try.prog W 0 (fun _ => true) true n 2 (List.take (Try.prog.cellsOf 2) (List.drop 0 [c0, c1, c2])) = some y0 := hall 0 _ rfl
    rw [show Try.prog.cellsOf 2 = 1 by kernel_rfl] at h
    exact h
  have h1 : DataW.trod enc Try.prog W 0 (fun _ => true) true n 9 [c1] = some y1 := by
    have h : DataW.trod enc Try.prog W 0 (fun _ => true) true n 9 (List.take (Try.prog.cellsOf 9) (List.drop 1 [c0, c1, c2])) = some y1 := hall 1 _ rfl
    rw [show Try.prog.cellsOf 9 = 1 by kernel_rfl] at h
    exact h
  have h2 : DataW.trod enc Try.prog W 0 (fun _ => true) true n 4 [c2] = some y2 := by
    have h : DataW.trod enc Try.prog W 0 (fun _ => true) true n 4 (List.take (Try.prog.cellsOf 4) (List.drop 2 [c0, c1, c2])) = some y2 := hall 2 _ rfl
    rw [show Try.prog.cellsOf 4 = 1 by kernel_rfl] at h
    exact h
  obtain ⟨v0, q0, _, w0⟩ := DataW.trod_int Try.underlying2 h0
  obtain ⟨v1, q1, _, w1⟩ := DataW.trod_string Try.underlying9 h1
  obtain ⟨v2, q2, _⟩ := DataW.trod_bool Try.underlying4 h2
  simp only [List.cons.injEq, and_true] at q0 q1 q2
  subst q0 q1 q2
  exact ⟨⟨v0, v1, v2⟩, rfl, by unfold maxLen at w1; exact w1⟩
end

/-- Versions that came in. -/
abbrev InV (W : World) (a : Option Addr) (len cap : Nat) (l : List Vs) : Prop := InL Vs.cells Vs.ok 3 4398046510976 W a len cap l
theorem in_vers {H : Type} {enc : TypeId × Value → H} {W : World} {a : Option Addr} {len cap : Nat} {d : DataW H} {p : List MemPlace}
    (h : DataW.Trod enc Try.prog W 0 (fun _ => true) true 46 (.slice a len cap) d p) (hB : ∀ n ∈ d.weights Try.prog 46, n ≤ 140737488351232) : ∃ l, InV W a len cap l :=
  haveI : Inhabited Vs := ⟨Vs.zero⟩
  in_list (k := 3) (B := 32) Try.underlying46 (by kernel_rfl) (by kernel_rfl) (by decide) (fun n hn => by omega) (fun fuel cs x hf => in_ver hf) (fun g => by simp [Vs.cells]) h hB

theorem InV.vrs {W : World} {a : Option Addr} {len cap : Nat} {l : List Vs} (h : InV W a len cap l) : Vrs W a l ∧ l.length = len ∧ Vr.Okl l ∧ (a = none → len = 0 ∧ cap = 0) ∧ len ≤ 4398046510976 :=
  ⟨fun hl => h.cel (by rw [← h.lenq]; exact hl), h.lenq, fun i x hx => h.ok x (List.mem_of_getElem? hx), h.nil, Nat.le_trans h.le h.room⟩
end Go.Proofs.Ytbdcdiihaecheaa

namespace Go.Proofs.Ytbdcdiihaecheaa
open Go.ChangeShapes Go.WideShapes Go.ChangeAt Go.RowKit
set_option linter.unusedVariables false
set_option maxRecDepth 100000

/-- An operation of a script. -/
structure Hop where
  dd : Int
  s : Int
  a : Int
  b : Int
  use : Int
  key : ByteArray
  v : Vs
  ts : Int
  os : Int
  og : Int
  kind : Int

def Hop.cells (o : Hop) : List Value := [.int .i64 o.dd, .int .i64 o.s, .int .i64 o.a, .int .i64 o.b, .int .i64 o.use, .string o.key, .int .i64 o.v.ts, .string o.v.val, .bool o.v.del, .int .i64 o.ts, .int .i64 o.os, .int .i64 o.og, .int .i64 o.kind]
abbrev Hop.val (o : Hop) : Value := .agg #[.int .i64 o.dd, .int .i64 o.s, .int .i64 o.a, .int .i64 o.b, .int .i64 o.use, .string o.key, .int .i64 o.v.ts, .string o.v.val, .bool o.v.del, .int .i64 o.ts, .int .i64 o.os, .int .i64 o.og, .int .i64 o.kind]
def I9 (x : Int) : Prop := -9223372036854775808 ≤ x ∧ x ≤ 9223372036854775807
def Hop.ok (o : Hop) : Prop := (I9 o.dd ∧ I9 o.s ∧ I9 o.a ∧ I9 o.b ∧ I9 o.use) ∧ o.key.size ≤ 9223372036854775807 ∧ o.v.ok ∧ I9 o.ts ∧ I9 o.os ∧ I9 o.og ∧ I9 o.kind

theorem list13 {α : Type} {l : List α} (h : l.length = 13) : ∃ c0 c1 c2 c3 c4 c5 c6 c7 c8 c9 c10 c11 c12, l = [c0, c1, c2, c3, c4, c5, c6, c7, c8, c9, c10, c11, c12] := by
  match l, h with
  | [c0, c1, c2, c3, c4, c5, c6, c7, c8, c9, c10, c11, c12], _ => exact ⟨c0, c1, c2, c3, c4, c5, c6, c7, c8, c9, c10, c11, c12, rfl⟩
theorem list10 {α : Type} {l : List α} (h : l.length = 10) : ∃ c0 c1 c2 c3 c4 c5 c6 c7 c8 c9, l = [c0, c1, c2, c3, c4, c5, c6, c7, c8, c9] := by
  match l, h with
  | [c0, c1, c2, c3, c4, c5, c6, c7, c8, c9], _ => exact ⟨c0, c1, c2, c3, c4, c5, c6, c7, c8, c9, rfl⟩

section
variable {H : Type} {enc : TypeId × Value → H} {W : World} {fuel : Nat} {cs : List Value} {x : DataW H × List MemPlace}

theorem in_hnd (hf : DataW.trod enc Try.prog W 0 (fun _ => true) true fuel 36 cs = some x) : ∃ s g : Int, cs = [.int .i64 s, .int .i64 g] ∧ I9 s ∧ I9 g := by
  obtain ⟨ys, n, -, rfl, hlen, hys, hall⟩ := DataW.trod_struct Try.underlying36 hf
  have eT : Try.prog.cellsOf 36 = 2 := by kernel_rfl
  rw [eT] at hlen
  obtain ⟨c0, c1, rfl⟩ := list2 hlen
  obtain ⟨y0, y1, rfl⟩ := list2 (l := ys) hys
  have h0 : DataW.trod enc Try.prog W 0 (fun _ => true) true n 3 [c0] = some y0 := by
    have h : DataW.trod enc Try.prog W 0 (fun _ => true) true n 3 (List.take (Try.prog.cellsOf 3) (List.drop 0 [c0, c1])) = some y0 := hall 0 _ rfl
    rw [show Try.prog.cellsOf 3 = 1 by kernel_rfl] at h
    exact h
  have h1 : DataW.trod enc Try.prog W 0 (fun _ => true) true n 2 [c1] = some y1 := by
    have h : DataW.trod enc Try.prog W 0 (fun _ => true) true n 2 (List.take (Try.prog.cellsOf 2) (List.drop 1 [c0, c1])) = some y1 := hall 1 _ rfl
    rw [show Try.prog.cellsOf 2 = 1 by kernel_rfl] at h
    exact h
  obtain ⟨v0, q0, _, w0⟩ := DataW.trod_int Try.underlying3 h0
  obtain ⟨v1, q1, _, w1⟩ := DataW.trod_int Try.underlying2 h1
  simp only [List.cons.injEq, and_true] at q0 q1
  subst q0 q1
  exact ⟨v0, v1, rfl, bounds_i64 w0, bounds_i64 w1⟩

theorem in_hop (hf : DataW.trod enc Try.prog W 0 (fun _ => true) true fuel 38 cs = some x) : ∃ g : Hop, cs = g.cells ∧ g.ok := by
  obtain ⟨ys, n, -, rfl, hlen, hys, hall⟩ := DataW.trod_struct Try.underlying38 hf
  have eT : Try.prog.cellsOf 38 = 13 := by kernel_rfl
  rw [eT] at hlen
  obtain ⟨c0, c1, c2, c3, c4, c5, c6, c7, c8, c9, c10, c11, c12, rfl⟩ := list13 hlen
  obtain ⟨y0, y1, y2, y3, y4, y5, y6, y7, y8, y9, rfl⟩ := list10 (l := ys) hys
  have h0 : DataW.trod enc Try.prog W 0 (fun _ => true) true n 3 [c0] = some y0 := by
    have h : DataW.trod enc Try.prog W 0 (fun _ => true) true n 3 (List.take (Try.prog.cellsOf 3) (List.drop 0 [c0, c1, c2, c3, c4, c5, c6, c7, c8, c9, c10, c11, c12])) = some y0 := hall 0 _ rfl
    rw [show Try.prog.cellsOf 3 = 1 by kernel_rfl] at h
    exact h
  have h1 : DataW.trod enc Try.prog W 0 (fun _ => true) true n 3 [c1] = some y1 := by
    have h : DataW.trod enc Try.prog W 0 (fun _ => true) true n 3 (List.take (Try.prog.cellsOf 3) (List.drop 1 [c0, c1, c2, c3, c4, c5, c6, c7, c8, c9, c10, c11, c12])) = some y1 := hall 1 _ rfl
    rw [show Try.prog.cellsOf 3 = 1 by kernel_rfl] at h
    exact h
  have h2 : DataW.trod enc Try.prog W 0 (fun _ => true) true n 3 [c2] = some y2 := by
    have h : DataW.trod enc Try.prog W 0 (fun _ => true) true n 3 (List.take (Try.prog.cellsOf 3) (List.drop 2 [c0, c1, c2, c3, c4, c5, c6, c7, c8, c9, c10, c11, c12])) = some y2 := hall 2 _ rfl
    rw [show Try.prog.cellsOf 3 = 1 by kernel_rfl] at h
    exact h
  have h3 : DataW.trod enc Try.prog W 0 (fun _ => true) true n 3 [c3] = some y3 := by
    have h : DataW.trod enc Try.prog W 0 (fun _ => true) true n 3 (List.take (Try.prog.cellsOf 3) (List.drop 3 [c0, c1, c2, c3, c4, c5, c6, c7, c8, c9, c10, c11, c12])) = some y3 := hall 3 _ rfl
    rw [show Try.prog.cellsOf 3 = 1 by kernel_rfl] at h
    exact h
  have h4 : DataW.trod enc Try.prog W 0 (fun _ => true) true n 3 [c4] = some y4 := by
    have h : DataW.trod enc Try.prog W 0 (fun _ => true) true n 3 (List.take (Try.prog.cellsOf 3) (List.drop 4 [c0, c1, c2, c3, c4, c5, c6, c7, c8, c9, c10, c11, c12])) = some y4 := hall 4 _ rfl
    rw [show Try.prog.cellsOf 3 = 1 by kernel_rfl] at h
    exact h
  have h5 : DataW.trod enc Try.prog W 0 (fun _ => true) true n 9 [c5] = some y5 := by
    have h : DataW.trod enc Try.prog W 0 (fun _ => true) true n 9 (List.take (Try.prog.cellsOf 9) (List.drop 5 [c0, c1, c2, c3, c4, c5, c6, c7, c8, c9, c10, c11, c12])) = some y5 := hall 5 _ rfl
    rw [show Try.prog.cellsOf 9 = 1 by kernel_rfl] at h
    exact h
  have h6 : DataW.trod enc Try.prog W 0 (fun _ => true) true n 34 [c6, c7, c8] = some y6 := by
    have h : DataW.trod enc Try.prog W 0 (fun _ => true) true n 34 (List.take (Try.prog.cellsOf 34) (List.drop 6 [c0, c1, c2, c3, c4, c5, c6, c7, c8, c9, c10, c11, c12])) = some y6 := hall 6 _ rfl
    rw [show Try.prog.cellsOf 34 = 3 by kernel_rfl] at h
    exact h
  have h7 : DataW.trod enc Try.prog W 0 (fun _ => true) true n 2 [c9] = some y7 := by
    have h : DataW.trod enc Try.prog W 0 (fun _ => true) true n 2 (List.take (Try.prog.cellsOf 2) (List.drop 9 [c0, c1, c2, c3, c4, c5, c6, c7, c8, c9, c10, c11, c12])) = some y7 := hall 7 _ rfl
    rw [show Try.prog.cellsOf 2 = 1 by kernel_rfl] at h
    exact h
  have h8 : DataW.trod enc Try.prog W 0 (fun _ => true) true n 36 [c10, c11] = some y8 := by
    have h : DataW.trod enc Try.prog W 0 (fun _ => true) true n 36 (List.take (Try.prog.cellsOf 36) (List.drop 10 [c0, c1, c2, c3, c4, c5, c6, c7, c8, c9, c10, c11, c12])) = some y8 := hall 8 _ rfl
    rw [show Try.prog.cellsOf 36 = 2 by kernel_rfl] at h
    exact h
  have h9 : DataW.trod enc Try.prog W 0 (fun _ => true) true n 3 [c12] = some y9 := by
    have h : DataW.trod enc Try.prog W 0 (fun _ => true) true n 3 (List.take (Try.prog.cellsOf 3) (List.drop 12 [c0, c1, c2, c3, c4, c5, c6, c7, c8, c9, c10, c11, c12])) = some y9 := hall 9 _ rfl
    rw [show Try.prog.cellsOf 3 = 1 by kernel_rfl] at h
    exact h
  obtain ⟨v0, q0, _, w0⟩ := DataW.trod_int Try.underlying3 h0
  obtain ⟨v1, q1, _, w1⟩ := DataW.trod_int Try.underlying3 h1
  obtain ⟨v2, q2, _, w2⟩ := DataW.trod_int Try.underlying3 h2
  obtain ⟨v3, q3, _, w3⟩ := DataW.trod_int Try.underlying3 h3
  obtain ⟨v4, q4, _, w4⟩ := DataW.trod_int Try.underlying3 h4
  obtain ⟨v5, q5, _, w5⟩ := DataW.trod_string Try.underlying9 h5
  obtain ⟨v6, q6, w6⟩ := in_ver h6
  obtain ⟨v7, q7, _, w7⟩ := DataW.trod_int Try.underlying2 h7
  obtain ⟨vs, vg, q8, w8, w89⟩ := in_hnd h8
  obtain ⟨v9, q9, _, w9⟩ := DataW.trod_int Try.underlying3 h9
  simp only [List.cons.injEq, and_true, Vs.cells] at q0 q1 q2 q3 q4 q5 q6 q7 q8 q9
  obtain ⟨q6a, q6b, q6c⟩ := q6
  obtain ⟨q8a, q8b⟩ := q8
  subst q0 q1 q2 q3 q4 q5 q6a q6b q6c q7 q8a q8b q9
  refine ⟨⟨v0, v1, v2, v3, v4, v5, v6, v7, vs, vg, v9⟩, rfl, ⟨bounds_i64 w0, bounds_i64 w1, bounds_i64 w2, bounds_i64 w3, bounds_i64 w4⟩, ?_, w6, bounds_i64 w7, w8, w89, bounds_i64 w9⟩
  unfold maxLen at w5
  exact w5
end

abbrev InHo (w : World) (p : Option Addr) (len cap : Nat) (l : List Hop) : Prop := InL Hop.cells Hop.ok 13 1099511627776 w p len cap l
end Go.Proofs.Ytbdcdiihaecheaa

namespace Go.Proofs.Ytbdcdiihaecheaa
open Go.ChangeShapes Go.WideShapes Go.ChangeAt Go.RowKit
set_option linter.unusedVariables false
set_option maxRecDepth 100000

abbrev Hop.zero : Hop := ⟨0, 0, 0, 0, 0, ⟨#[]⟩, ⟨0, ⟨#[]⟩, false⟩, 0, 0, 0, 0⟩

/-- A script that came in. -/
abbrev InHk (W : World) (a : Option Addr) (len cap : Nat) (l : List Hop) : Prop := InL Hop.cells Hop.ok 13 1172812402927 W a len cap l
theorem in_hops {H : Type} {enc : TypeId × Value → H} {W : World} {a : Option Addr} {len cap : Nat} {d : DataW H} {p : List MemPlace}
    (h : DataW.Trod enc Try.prog W 0 (fun _ => true) true 23 (.slice a len cap) d p) (hB : ∀ n ∈ d.weights Try.prog 23, n ≤ 140737488351232) : ∃ l, InHk W a len cap l :=
  haveI : Inhabited Hop := ⟨Hop.zero⟩
  in_list (k := 13) (B := 120) Try.underlying23 (by kernel_rfl) (by kernel_rfl) (by decide) (fun n hn => by omega) (fun fuel cs x hf => in_hop hf) (fun g => by simp [Hop.cells]) h hB

theorem hopK : Knd Hop.cells 13 := ⟨fun _ => rfl, fun x u hu => by simp [Hop.cells] at hu; rcases hu with rfl | rfl | rfl | rfl | rfl | rfl | rfl | rfl | rfl | rfl | rfl | rfl | rfl <;> rfl, by decide⟩

theorem in_arr2 {H : Type} {enc : TypeId × Value → H} {W : World} {v : Value} {d : DataW H} {p : List MemPlace} {r : Reach} {b0 : Nat} (hval : Value.okWide Try.prog W r b0 22 v)
    (h : DataW.Trod enc Try.prog W 0 (fun _ => true) true 22 v d p) : ∃ x y : Int, v = .agg #[.int .u8 x, .int .u8 y] ∧ (0 ≤ x ∧ x < 256) ∧ (0 ≤ y ∧ y < 256) := by
  have ht : Try.prog.underlying 22 = some (.array 2 5) := Try.underlying22
  obtain ⟨cs, hcs, hsz⟩ : ∃ cs, v = .agg cs ∧ cs.size = Try.prog.cellsOf 22 := by
    simp only [Value.okWide, ht] at hval
    obtain ⟨cs, h1, h2, _⟩ := hval
    exact ⟨cs, h1, h2⟩
  subst hcs
  rw [show Try.prog.cellsOf 22 = 2 by kernel_rfl] at hsz
  obtain ⟨fuel, hf⟩ := h
  obtain ⟨xs, n, -, -, -, hx2, hall⟩ := DataW.trod_array ht hf
  rw [show Try.prog.cellsOf 5 = 1 by kernel_rfl] at hall
  obtain ⟨cl⟩ := cs
  simp only [List.size_toArray] at hsz
  obtain ⟨c0, c1, rfl⟩ : ∃ c0 c1, cl = [c0, c1] := by
    match cl, hsz with
    | [a, b], _ => exact ⟨a, b, rfl⟩
  obtain ⟨y0, y1, rfl⟩ : ∃ y0 y1, xs = [y0, y1] := by
    match xs, hx2 with
    | [a, b], _ => exact ⟨a, b, rfl⟩
  have h0 : DataW.trod enc Try.prog W 0 (fun _ => true) true n 5 [c0] = some y0 := hall 0 (by omega)
  have h1 : DataW.trod enc Try.prog W 0 (fun _ => true) true n 5 [c1] = some y1 := hall 1 (by omega)
  obtain ⟨v0, q0, _, w0⟩ := DataW.trod_int Try.underlying5 h0
  obtain ⟨v1, q1, _, w1⟩ := DataW.trod_int Try.underlying5 h1
  simp only [List.cons.injEq, and_true] at q0 q1
  subst q0 q1
  have b0 := bounds_u8 w0
  have b1 := bounds_u8 w1
  exact ⟨v0, v1, rfl, by omega, by omega⟩

end Go.Proofs.Ytbdcdiihaecheaa

namespace Go.Proofs.Ytbdcdiihaecheaa
open Go.RowKit
set_option linter.unusedVariables false
set_option maxRecDepth 100000
set_option linter.unusedSectionVars false
variable [Inhabited Cl] [Inhabited Ln]

/-- An index out of any number. -/
theorem kmod3 (use : Int) {nL : Nat} (h0 : 0 < nL) (h1 : nL ≤ 1000000000000000) : ∃ (u1 u2 : Int) (k : Nat), use.tmod nL = u1 ∧ u1 + nL = u2 ∧ wrap64 u2 = u2 ∧ u2.tmod nL = (k : Int) ∧ k < nL ∧ -(nL : Int) < u1 ∧ u1 < nL := by
  have a1 : -(nL : Int) < use.tmod nL := by
    have := Int.lt_tmod_of_pos use (show (0 : Int) < nL by omega)
    omega
  have a2 : use.tmod nL < nL := Int.tmod_lt_of_pos use (show (0 : Int) < nL by omega)
  have b1 : 0 ≤ (use.tmod nL + nL).tmod nL := Int.tmod_nonneg _ (by omega)
  have b2 : (use.tmod nL + nL).tmod nL < nL := Int.tmod_lt_of_pos _ (show (0 : Int) < nL by omega)
  exact ⟨_, _, ((use.tmod nL + nL).tmod nL).toNat, rfl, rfl, by unfold wrap64; omega, by omega, by omega, a1, a2⟩

variable {m : Nat} {w w0 wr w1 w' : World} {H cB vB eB : Nat} {h : Hp} {av : List Nat}

/-- The heap, a row of handles; X: further blocks of its own. -/
structure Kn (m : Nat) (w0 wr : World) (H cB vB eB : Nat) (X : List Nat) (v : Value) (h : Hp) (R : List Hd) : Prop where
  mid : MidH m w0 (v.ownBlock.toList ++ X) wr H cB vB eB h []
  own : Own Hd.cells 2 36 wr w0.heap.size v R

variable {v : Value} {R : List Hd} {X : List Nat}

theorem Kn.quiet (k : Kn m w0 wr H cB vB eB X v h R) (t : Tn [] wr w1) : Kn m w0 w1 H cB vB eB X v h R := ⟨k.mid.quiet t, k.own.tn t (by simp)⟩
theorem Kn.below (k : Kn m w0 wr H cB vB eB X v h R) (hb : Below wr.heap.size wr w1) : Kn m w0 w1 H cB vB eB X v h R := k.quiet (Tn.of_below hb [])
theorem Kn.lt (k : Kn m w0 wr H cB vB eB X v h R) : (∀ g ∈ X, g < wr.heap.size) ∧ ∀ g, v.ownBlock = some g → g < wr.heap.size := by
  have h1 := k.mid.1.avlt
  exact ⟨fun g hg => h1 g (by simp [hg]), fun g hg => h1 g (by simp [hg])⟩

theorem Kn.ge (k : Kn m w0 wr H cB vB eB X v h R) : w0.heap.size ≤ wr.heap.size := k.mid.2.1.size

theorem Kn.add {g : Nat} (k : Kn m w0 wr H cB vB eB X v h R) (t : Tn [] wr w1) (hg : wr.heap.size ≤ g) (hg' : g < w1.heap.size) : Kn m w0 w1 H cB vB eB (g :: X) v h R := by
  refine ⟨k.mid.new t (fun x hx => ?_) (fun x hx => ?_), k.own.tn t (by simp)⟩
  · simp only [List.mem_cons, List.mem_append] at hx ⊢
    rcases hx with hx | rfl | hx
    · exact .inl (.inl hx)
    · exact .inr hg
    · exact .inl (.inr hx)
  · have h1 := k.mid.1.avlt
    have h2 := t.size
    simp only [List.mem_cons, List.mem_append] at hx h1
    rcases hx with hx | rfl | hx
    · have := h1 x (.inl (.inl hx)); omega
    · exact hg'
    · have := h1 x (.inl (.inr hx)); omega

theorem Kn.drop (k : Kn m w0 wr H cB vB eB X v h R) : Kn m w0 wr H cB vB eB [] v h R :=
  ⟨k.mid.sub (fun x hx => by simp only [List.mem_append, List.not_mem_nil, or_false] at hx ⊢; exact .inl hx), k.own⟩

theorem Kn.call {h2 : Hp} (k : Kn m w0 wr H cB vB eB X v h R) (a : AftH m wr w1 H cB vB eB h2 (v.ownBlock.toList ++ X ++ [])) : Kn m w0 w1 H cB vB eB X v h2 R :=
  ⟨k.mid.call a, own_blk k.own (fun g hg => a.2.2 g (by simp [hg]))⟩

theorem Kn.app {v' : Value} {R' : List Hd} {cs' : Array Value} {e : TypeId} (k : Kn m w0 wr H cB vB eB X v h R) (h1 : Own Hd.cells 2 36 w1 w0.heap.size v' R') (h2 : (wr.alloc (.cells cs' e)).grownBy w1 v.ownBlock) (h3 : v'.ownBlock = v.ownBlock ∨ v'.ownBlock = some (wr.heap.size + 1)) : Kn m w0 w1 H cB vB eB [] v' h R' := by
  have t1 : Tn v.ownBlock.toList wr w1 := ((Tn.refl v.ownBlock.toList wr).alloc (.cells cs' e)).trans (grown_tn h2) (fun x hx => .inl hx)
  refine ⟨k.mid.turn t1 (fun x hx => .inl (by simp [opt_toList.1 hx])) (fun x hx => ?_) (fun x hx => ?_), h1⟩
  · simp only [List.mem_append, List.not_mem_nil, or_false] at hx
    have hx := opt_toList.1 hx
    rcases h3 with h3 | h3
    · exact .inl (by rw [h3] at hx; simp [hx])
    · rw [h3] at hx; cases hx; exact .inr (by omega)
  · simp only [List.mem_append, List.not_mem_nil, or_false] at hx
    exact (h1.blk (opt_toList.1 hx)).2

def kd0 (a b : Nat) : Hp := ⟨Ar.fresh a, Ar.fresh b, Ep.fresh, List.replicate 17 Sh.zero⟩
theorem kd0_fit (a b : Nat) : (kd0 a b).Fit := ⟨by show 0 + 0 ≤ a; omega, by show 0 + 0 ≤ b; omega⟩
theorem kd0_rc (a b : Nat) : (kd0 a b).rc = a := by show a - 0 - 0 = a; omega
theorem kd0_rv (a b : Nat) : (kd0 a b).rv = b := by show b - 0 - 0 = b; omega
theorem kd1_ks (a b x y : Nat) (h1 : a ≤ 9) (h2 : b ≤ 12) (h3 : x ≤ a) (h4 : y ≤ b) : Ks ((kd0 a b).setSh 3 ⟨true, x, y⟩) a b x y where
  fit := by
    refine ⟨?_, ?_⟩
    · have : sumC ((List.replicate 17 Sh.zero).set 3 ⟨true, x, y⟩) + (shAt (List.replicate 17 Sh.zero) 3).c = sumC (List.replicate 17 Sh.zero) + x := sumC_set _ 3 ⟨true, x, y⟩ (by simp)
      have e1 : (shAt (List.replicate 17 Sh.zero) 3).c = 0 := rfl
      have e2 : sumC (List.replicate 17 Sh.zero) = 0 := rfl
      show 0 + sumC ((List.replicate 17 Sh.zero).set 3 ⟨true, x, y⟩) ≤ a
      omega
    · have : sumV ((List.replicate 17 Sh.zero).set 3 ⟨true, x, y⟩) + (shAt (List.replicate 17 Sh.zero) 3).v = sumV (List.replicate 17 Sh.zero) + y := sumV_set _ 3 ⟨true, x, y⟩ (by simp)
      have e1 : (shAt (List.replicate 17 Sh.zero) 3).v = 0 := rfl
      have e2 : sumV (List.replicate 17 Sh.zero) = 0 := rfl
      show 0 + sumV ((List.replicate 17 Sh.zero).set 3 ⟨true, x, y⟩) ≤ b
      omega
  sc := rfl
  sv := rfl
  a9 := h1
  b12 := h2
  s3 := rfl
  s17 := rfl
  gc := Gens.nil _
  gv := Gens.nil _
  ok := fun s g hg => by
    have h0 := hg.1
    have h1 : s < ((([] : List (Sl Cl)).length : Nat) : Int) := hg.2.1
    simp at h1
    omega

end Go.Proofs.Ytbdcdiihaecheaa

namespace Go.Proofs.Ytbdcdiihaecheaa
open Go.ChangeShapes Go.WideShapes Go.ChangeAt Go.RowKit
open Go.ChangeMaps (open_string shut_string)
set_option linter.unusedVariables false
set_option maxRecDepth 100000

set_option maxHeartbeats 3000000 in
theorem walk_heapKeeps (u0 u1 m0 m1 : Int) (p3 : Option Addr) (n3 c3 : Nat) (ol : List Hop) (w : World) (hu0 : (Lit.int .u8 u0).wf = true) (hu1 : (Lit.int .u8 u1).wf = true) (hm0 : 0 ≤ m0 ∧ m0 < 256) (hm1 : 0 ≤ m1 ∧ m1 < 256) (i3 : InHk w p3 n3 c3 ol) :
    Calls Try.prog 3 #[.int .u8 u0, .int .u8 u1, .agg #[.int .u8 m0, .int .u8 m1], .slice p3 n3 c3] w fun e w' => e = .returned (.bool true) ∧ Below w.heap.size w w' := by
  haveI : Inhabited Cl := ⟨Cl.zero⟩
  haveI : Inhabited Ln := ⟨Ln.zero⟩
  have hub0 : 0 ≤ u0 ∧ u0 < 256 := by have := bounds_u8 hu0; omega
  have hub1 : 0 ≤ u1 ∧ u1 < 256 := by have := bounds_u8 hu1; omega
  obtain ⟨na, hna, hna1, hna9⟩ : ∃ nn : Nat, u0 % 9 + 1 = (nn : Int) ∧ 1 ≤ nn ∧ nn ≤ 9 := ⟨(u0 % 9 + 1).toNat, by omega, by omega, by omega⟩
  obtain ⟨nb, hnb, hnb1, hnb9⟩ : ∃ nn : Nat, u1 % 12 + 1 = (nn : Int) ∧ 1 ≤ nn ∧ nn ≤ 12 := ⟨(u1 % 12 + 1).toNat, by omega, by omega, by omega⟩
  obtain ⟨a1, ha1, ha1b⟩ : ∃ z1 : Int, (na : Int) + 1 = z1 ∧ 2 ≤ z1 := ⟨_, rfl, by omega⟩
  obtain ⟨b1, hb1, hb1b⟩ : ∃ z1 : Int, (nb : Int) + 1 = z1 ∧ 2 ≤ z1 := ⟨_, rfl, by omega⟩
  have hax : 0 ≤ m0 % a1 ∧ m0 % a1 < a1 := ⟨Int.emod_nonneg _ (by omega), Int.emod_lt_of_pos _ (by omega)⟩
  have hbx : 0 ≤ m1 % b1 ∧ m1 % b1 < b1 := ⟨Int.emod_nonneg _ (by omega), Int.emod_lt_of_pos _ (by omega)⟩
  obtain ⟨x, hx, hxa⟩ : ∃ x : Nat, m0 % a1 = (x : Int) ∧ x ≤ na := ⟨(m0 % a1).toNat, by omega, by omega⟩
  obtain ⟨y, hy, hyb⟩ : ∃ y : Nat, m1 % b1 = (y : Int) ∧ y ≤ nb := ⟨(m1 % b1).toNat, by omega, by omega⟩
  have hx2 : m0.tmod a1 = (x : Int) := by rw [Int.tmod_eq_emod_of_nonneg hm0.1]; exact hx
  have hy2 : m1.tmod b1 = (y : Int) := by rw [Int.tmod_eq_emod_of_nonneg hm1.1]; exact hy
  have q3 := i3.le
  have q4 := i3.room
  have ha0 : ¬ a1 = 0 := by omega
  have hb0 : ¬ b1 = 0 := by omega
  obtain ⟨M0, hM0⟩ : ∃ M0, w.heap.size = M0 := ⟨_, rfl⟩
  obtain ⟨wb, hwb, hkb⟩ : ∃ wb, w.alloc (.cells #[.int .u8 m0, .int .u8 m1] 22) = wb ∧ Bk wb M0 22 #[.int .u8 m0, .int .u8 m1] := ⟨_, rfl, by rw [← hM0]; exact Bk.new _ _ _⟩
  have HWB : Hid (Below w.heap.size w wb ∧ Bk wb M0 22 #[.int .u8 m0, .int .u8 m1] ∧ wb.heap.size = M0 + 1 ∧ w.heap.size = M0) := ⟨by rw [← hwb]; exact (Below.refl _ _).alloc (Nat.le_refl _) _, hkb, by rw [← hwb, ← hM0]; simp, hM0⟩
  have HIN : Hid (∀ W, Below wb.heap.size wb W → InHk W p3 n3 c3 ol) := fun W hb => i3.up (HWB.out.1.trans (hb.mono HWB.out.1.size))
  obtain ⟨zd, hzd⟩ : ∃ zd : Bool, zd = false := ⟨_, rfl⟩
  have HZD : Hid (zd = false) := hzd
  clear i3 hzd hkb hax hbx
  go_enter Try.func3, Try.ntmps3
  go_wp2_with fail
  refine (new_any wb).mono ?_
  rintro e w1 ⟨rfl, he1, hb1, hz1⟩
  have HNEW : Hid (Calls Try.prog 8 #[.int .i64 (na : Int), .int .i64 (nb : Int), .pointer (some ⟨wb.heap.size, 0, none⟩)] w1 fun r w' => r = .returned (.tuple #[.pointer (some ⟨wb.heap.size + 3, 0, none⟩), .int .i64 0]) ∧ Hpn wb.heap.size w' (wb.heap.size + 3) (wb.heap.size + 1) (wb.heap.size + 2) wb.heap.size (kd0 na nb) [] ∧ Below wb.heap.size wb w') := by
    refine (hnew_any he1 na nb (by omega) (by omega) (by omega) (by omega)).mono ?_
    rintro r w' ⟨rfl, hc, hv, hk, hb, hz⟩
    rw [hz1] at hc hv hk hz
    refine ⟨by rw [hz1], ⟨[wb.heap.size + 1], [wb.heap.size + 2], [wb.heap.size], { blk := hk, c := hc, v := hv, e := he1.tn (Tn.of_below hb []) (by simp), s17 := by simp [kd0], mH := by omega, mc := by simp, mv := by simp, me := by simp, Hc := by simp, Hv := by simp, He := by simp, cv := by simp, ce := by simp, ve := by simp, av := by simp }⟩, hb1.trans (hb.mono hb1.size)⟩
  clear he1 hb1 hz1
  go_wp2_with fail
  refine HNEW.out.mono ?_
  rintro e w2 ⟨rfl, hh2, hb2⟩
  have HK2 : Hid (Hpn wb.heap.size w2 (wb.heap.size + 3) (wb.heap.size + 1) (wb.heap.size + 2) wb.heap.size (kd0 na nb) [] ∧ Below wb.heap.size wb w2) := ⟨hh2, hb2⟩
  clear hh2 hb2 HNEW
  obtain ⟨H, hH⟩ : ∃ H, wb.heap.size + 3 = H := ⟨_, rfl⟩
  rw [hH] at HK2
  go_wp2_with fail
  refine (hbegun_any w2).mono ?_
  rintro e w3 ⟨rfl, hb3⟩
  have HK3 : Hid (Hpn wb.heap.size w3 H (wb.heap.size + 1) (wb.heap.size + 2) wb.heap.size (kd0 na nb) [] ∧ Below wb.heap.size wb w3) := ⟨HK2.out.1.below hb3, HK2.out.2.trans (hb3.mono HK2.out.2.size)⟩
  have kb3 : Bk w3 M0 22 #[.int .u8 m0, .int .u8 m1] := HWB.out.2.1.below HK3.out.2 (by have := HWB.out.2.2.1; omega)
  have b30 : w3.cell? ⟨M0, 0, none⟩ = some (.int .u8 m0) := kb3.cell 0
  have b31 : w3.cell? ⟨M0, 1, none⟩ = some (.int .u8 m1) := kb3.cell 1
  clear kb3 hb3 HK2
  go_wp2_with fail
  go_quiet (fail)
  have HK3q : Hid (Hpn wb.heap.size (w3.drewN nq) H (wb.heap.size + 1) (wb.heap.size + 2) wb.heap.size (kd0 na nb) [] ∧ Below wb.heap.size wb (w3.drewN nq)) := ⟨HK3.out.1.quiet (tn_drewN _ _), below_drewN HK3.out.2 _⟩
  have HRES : Hid (Calls Try.prog 10 #[.pointer (some ⟨H, 0, none⟩), .int .i64 3, .int .i64 (x : Int), .int .i64 (y : Int)] (w3.drewN nq) fun e w' => e = .returned (.int .i64 0) ∧ AftH wb.heap.size (w3.drewN nq) w' H (wb.heap.size + 1) (wb.heap.size + 2) wb.heap.size ((kd0 na nb).setSh 3 ⟨true, x, y⟩) []) := reserve_ok HK3q.out.1 (kd0_fit na nb) 3 x y (of_decide_eq_true rfl) rfl (by rw [kd0_rc]; omega) (by rw [kd0_rv]; omega)
  clear HK3
  go_wp2_with fail
  refine HRES.out.mono ?_
  rintro e w4 ⟨rfl, ha4⟩
  have HK4 : Hid (Hpn wb.heap.size w4 H (wb.heap.size + 1) (wb.heap.size + 2) wb.heap.size ((kd0 na nb).setSh 3 ⟨true, x, y⟩) [] ∧ Below wb.heap.size wb w4) := ⟨ha4.1, HK3q.out.2.trans ha4.2.1⟩
  have HKS : Hid (Ks ((kd0 na nb).setSh 3 ⟨true, x, y⟩) na nb x y) := kd1_ks na nb x y (by omega) (by omega) hxa hyb
  clear ha4 HK3q HRES
  go_wp2_with fail
  go_loopw [71, 16] (fun i v wr => ∃ (j : Nat) (h : Hp) (R : List Hd), j ≤ n3 ∧ i = .int .i64 j ∧ Hid (Kn wb.heap.size w4 wr H (wb.heap.size + 1) (wb.heap.size + 2) wb.heap.size [] v h R ∧ Ks h na nb x y ∧ (∀ z ∈ R, h.c.Good z.1 z.2) ∧ R.length ≤ j)) (fun i _ _ => n3 - (intOf i).toNat)
  case atStart => exact ⟨0, _, [], Nat.zero_le _, rfl, ⟨MidH.start HK4.out.1, Own.nil _ _ _⟩, HKS.out, by simp, by simp⟩
  case round =>
    clear HKS
    obtain ⟨j, h, R, hj, rfl, HK⟩ := hrel
    have hbw : Below wb.heap.size wb wr := HK4.out.2.trans HK.out.1.mid.2.1
    obtain ⟨nR, hnR⟩ : ∃ nR, R.length = nR := ⟨_, rfl⟩
    have HNR : Hid (R.length = nR) := hnR
    have hRj : nR ≤ j := by rw [← hnR]; exact HK.out.2.2.2
    obtain ⟨pl, cl, rfl⟩ : ∃ p c, u16 = .slice p nR c := by
      obtain ⟨p, c, hv, -⟩ := HK.out.1.own.els hdK
      rw [hnR] at hv
      exact ⟨p, c, hv⟩
    by_cases hlt : j < n3
    · have hli : (j : Int) < (n3 : Int) := by omega
      have g0 : (0 : Int) ≤ (j : Int) := by omega
      obtain ⟨ob, oo, op, rfl, hop, hok, hoc⟩ := (HIN.out wr hbw).at hlt
      obtain ⟨dd, gs, ga, gb, use, key, ⟨vt, vv, vd⟩, ts, os, og, kd⟩ := op
      have hkz : vv.size ≤ 9223372036854775807 := hok.2.2.1
      have huz : -9223372036854775808 ≤ use ∧ use ≤ 9223372036854775807 := hok.1.2.2.2.2
      have c0 : wr.cell? ⟨ob, oo + j * 13, none⟩ = some (.int .i64 dd) := hoc 0 _ rfl
      have c1 : wr.cell? ⟨ob, oo + j * 13 + 1, none⟩ = some (.int .i64 gs) := hoc 1 _ rfl
      have c2 : wr.cell? ⟨ob, oo + j * 13 + 2, none⟩ = some (.int .i64 ga) := hoc 2 _ rfl
      have c3 : wr.cell? ⟨ob, oo + j * 13 + 3, none⟩ = some (.int .i64 gb) := hoc 3 _ rfl
      have c4 : wr.cell? ⟨ob, oo + j * 13 + 4, none⟩ = some (.int .i64 use) := hoc 4 _ rfl
      have c5 : wr.cell? ⟨ob, oo + j * 13 + 5, none⟩ = some (.string key) := hoc 5 _ rfl
      have c6 : wr.cell? ⟨ob, oo + j * 13 + 6, none⟩ = some (.int .i64 vt) := hoc 6 _ rfl
      have c7 : wr.cell? ⟨ob, oo + j * 13 + 7, none⟩ = some (.string vv) := hoc 7 _ rfl
      have c8 : wr.cell? ⟨ob, oo + j * 13 + 8, none⟩ = some (.bool vd) := hoc 8 _ rfl
      have c9 : wr.cell? ⟨ob, oo + j * 13 + 9, none⟩ = some (.int .i64 ts) := hoc 9 _ rfl
      have c10 : wr.cell? ⟨ob, oo + j * 13 + 10, none⟩ = some (.int .i64 os) := hoc 10 _ rfl
      have c11 : wr.cell? ⟨ob, oo + j * 13 + 11, none⟩ = some (.int .i64 og) := hoc 11 _ rfl
      have c12 : wr.cell? ⟨ob, oo + j * 13 + 12, none⟩ = some (.int .i64 kd) := hoc 12 _ rfl
      clear hok hop hoc hnR
      obtain ⟨V0, hV0⟩ : ∃ V0, wr.heap.size = V0 := ⟨_, rfl⟩
      obtain ⟨w7, hw7, hk7, t7⟩ : ∃ w7, wr.alloc (.cells #[.int .i64 dd, .int .i64 gs, .int .i64 ga, .int .i64 gb, .int .i64 use, .string key, .int .i64 vt, .string vv, .bool vd, .int .i64 ts, .int .i64 os, .int .i64 og, .int .i64 kd] 38) = w7 ∧ Bk w7 V0 38 #[.int .i64 dd, .int .i64 gs, .int .i64 ga, .int .i64 gb, .int .i64 use, .string key, .int .i64 vt, .string vv, .bool vd, .int .i64 ts, .int .i64 os, .int .i64 og, .int .i64 kd] ∧ Tn [] wr w7 := ⟨_, rfl, by rw [← hV0]; exact Bk.new _ _ _, (Tn.refl _ _).alloc _⟩
      have HK7 : Hid (Kn wb.heap.size w4 w7 H (wb.heap.size + 1) (wb.heap.size + 2) wb.heap.size [V0] (.slice pl nR cl) h R ∧ Ks h na nb x y ∧ (∀ z ∈ R, h.c.Good z.1 z.2)) := ⟨HK.out.1.add t7 (by omega) hk7.lt, HK.out.2.1, HK.out.2.2.1⟩
      have d0 : w7.cell? ⟨V0, 0, none⟩ = some (.int .i64 dd) := hk7.cell 0
      have d1 : w7.cell? ⟨V0, 1, none⟩ = some (.int .i64 gs) := hk7.cell 1
      have d2 : w7.cell? ⟨V0, 2, none⟩ = some (.int .i64 ga) := hk7.cell 2
      have d3 : w7.cell? ⟨V0, 3, none⟩ = some (.int .i64 gb) := hk7.cell 3
      have d4 : w7.cell? ⟨V0, 4, none⟩ = some (.int .i64 use) := hk7.cell 4
      have d5 : w7.cell? ⟨V0, 5, none⟩ = some (.string key) := hk7.cell 5
      have d6 : w7.cell? ⟨V0, 6, none⟩ = some (.int .i64 vt) := hk7.cell 6
      have d7 : w7.cell? ⟨V0, 7, none⟩ = some (.string vv) := hk7.cell 7
      have d8 : w7.cell? ⟨V0, 8, none⟩ = some (.bool vd) := hk7.cell 8
      have d9 : w7.cell? ⟨V0, 9, none⟩ = some (.int .i64 ts) := hk7.cell 9
      have d10 : w7.cell? ⟨V0, 10, none⟩ = some (.int .i64 os) := hk7.cell 10
      have d11 : w7.cell? ⟨V0, 11, none⟩ = some (.int .i64 og) := hk7.cell 11
      have d12 : w7.cell? ⟨V0, 12, none⟩ = some (.int .i64 kd) := hk7.cell 12
      have HBK : Hid (Bk w7 V0 38 #[.int .i64 dd, .int .i64 gs, .int .i64 ga, .int .i64 gb, .int .i64 use, .string key, .int .i64 vt, .string vv, .bool vd, .int .i64 ts, .int .i64 os, .int .i64 og, .int .i64 kd]) := hk7
      clear hk7 t7 HK
      by_cases hgs : gs = 3
      · subst hgs
        by_cases hd0 : dd = 0
        · subst hd0
          have HC : Hid (Calls Try.prog 10 #[.pointer (some ⟨H, 0, none⟩), .int .i64 4, .int .i64 ga, .int .i64 gb] w7 fun e w' => ∃ er h2, e = .returned (.int .i64 er) ∧ AftH wb.heap.size w7 w' H (wb.heap.size + 1) (wb.heap.size + 2) wb.heap.size h2 ((Value.slice pl nR cl).ownBlock.toList ++ [V0] ++ []) ∧ Ks h2 na nb x y ∧ (∀ p q, h.c.Good p q → h2.c.Good p q)) := ks_reserve HK7.out.1.mid.1 HK7.out.2.1 4 ga gb (by decide)
          go_wp2_with fail
          refine HC.out.mono ?_
          rintro e w8 ⟨er, h2, rfl, ha2, k2, hg2⟩
          have HK9 : Hid (Kn wb.heap.size w4 w8 H (wb.heap.size + 1) (wb.heap.size + 2) wb.heap.size [] (.slice pl nR cl) h2 R ∧ Ks h2 na nb x y ∧ (∀ z ∈ R, h2.c.Good z.1 z.2) ∧ R.length ≤ j + 1) := ⟨(HK7.out.1.call ha2).drop, k2, fun z hz => hg2 _ _ (HK7.out.2.2 z hz), by rw [HNR.out]; omega⟩
          clear ha2 k2 hg2 HC HK7
          go_wp2
          go_roundw
          case rel => exact ⟨j + 1, h2, R, by omega, by go_num, HK9⟩
          case measure => simp [intOf]; omega
        · by_cases hd1 : dd = 1
          · subst hd1
            have HC : Hid (Calls Try.prog 11 #[.pointer (some ⟨H, 0, none⟩), .int .i64 4] w7 fun e w' => ∃ er h2, e = .returned (.int .i64 er) ∧ AftH wb.heap.size w7 w' H (wb.heap.size + 1) (wb.heap.size + 2) wb.heap.size h2 ((Value.slice pl nR cl).ownBlock.toList ++ [V0] ++ []) ∧ Ks h2 na nb x y ∧ (∀ p q, h.c.Good p q → h2.c.Good p q)) := ks_release HK7.out.1.mid.1 HK7.out.2.1 4 (by decide)
            go_wp2_with fail
            refine HC.out.mono ?_
            rintro e w8 ⟨er, h2, rfl, ha2, k2, hg2⟩
            have HK9 : Hid (Kn wb.heap.size w4 w8 H (wb.heap.size + 1) (wb.heap.size + 2) wb.heap.size [] (.slice pl nR cl) h2 R ∧ Ks h2 na nb x y ∧ (∀ z ∈ R, h2.c.Good z.1 z.2) ∧ R.length ≤ j + 1) := ⟨(HK7.out.1.call ha2).drop, k2, fun z hz => hg2 _ _ (HK7.out.2.2 z hz), by rw [HNR.out]; omega⟩
            clear ha2 k2 hg2 HC HK7
            go_wp2
            go_roundw
            case rel => exact ⟨j + 1, h2, R, by omega, by go_num, HK9⟩
            case measure => simp [intOf]; omega
          · by_cases hd2 : dd = 2
            · subst hd2
              have HC : Hid (Calls Try.prog 12 #[.pointer (some ⟨H, 0, none⟩), .int .i64 4, .string key] w7 fun e w' => ∃ cs cg er h2, e = .returned (.tuple #[.agg #[.int .i64 cs, .int .i64 cg], .int .i64 er]) ∧ AftH wb.heap.size w7 w' H (wb.heap.size + 1) (wb.heap.size + 2) wb.heap.size h2 ((Value.slice pl nR cl).ownBlock.toList ++ [V0] ++ []) ∧ Ks h2 na nb x y ∧ (∀ p q, h.c.Good p q → h2.c.Good p q) ∧ (er = 0 → h2.c.Good cs cg)) := ks_cell HK7.out.1.mid.1 HK7.out.2.1 4 (by decide) key
              go_wp2_with fail
              refine HC.out.mono ?_
              rintro e w8 ⟨cs, cg, er, h2, rfl, ha2, k2, hg2, hge⟩
              have HK9 : Hid (Kn wb.heap.size w4 w8 H (wb.heap.size + 1) (wb.heap.size + 2) wb.heap.size [] (.slice pl nR cl) h2 R ∧ Ks h2 na nb x y ∧ (∀ z ∈ R, h2.c.Good z.1 z.2) ∧ R.length ≤ j + 1) := ⟨(HK7.out.1.call ha2).drop, k2, fun z hz => hg2 _ _ (HK7.out.2.2 z hz), by rw [HNR.out]; omega⟩
              obtain ⟨V1, hV1⟩ : ∃ V1, w8.heap.size = V1 := ⟨_, rfl⟩
              obtain ⟨w9, hw9, hk9, t9⟩ : ∃ w9, w8.alloc (.cells #[.int .i64 cs, .int .i64 cg] 36) = w9 ∧ Bk w9 V1 36 #[.int .i64 cs, .int .i64 cg] ∧ Tn [] w8 w9 := ⟨_, rfl, by rw [← hV1]; exact Bk.new _ _ _, (Tn.refl _ _).alloc _⟩
              have HK10 : Hid (Kn wb.heap.size w4 w9 H (wb.heap.size + 1) (wb.heap.size + 2) wb.heap.size [] (.slice pl nR cl) h2 R ∧ Ks h2 na nb x y ∧ (∀ z ∈ R, h2.c.Good z.1 z.2) ∧ R.length ≤ j + 1) := ⟨HK9.out.1.quiet t9, HK9.out.2⟩
              have e0 : w9.cell? ⟨V1, 0, none⟩ = some (.int .i64 cs) := hk9.cell 0
              have e1 : w9.cell? ⟨V1, 1, none⟩ = some (.int .i64 cg) := hk9.cell 1
              by_cases her : er = 0
              · subst her
                have HG9 : Hid (h2.c.Good cs cg) := hge rfl
                clear ha2 k2 hg2 hge HC HK7 HK9 hk9 t9
                go_wp2_with (at_builtin; refine app1L hdK Try.underlying32 hdinfo rfl w9 rfl _ _ rfl w4.heap.size (.slice pl nR cl) R rfl (cs, cg) _ rfl rfl _ rfl HK10.out.1.own (by rw [HNR.out]; unfold maxLen; omega) (by rw [HNR.out]; omega) HK10.out.1.ge ?_; intro v10 w10 h1 h2' h3)
                have HK11 : Hid (Kn wb.heap.size w4 w10 H (wb.heap.size + 1) (wb.heap.size + 2) wb.heap.size [] v10 h2 (R ++ [(cs, cg)]) ∧ Ks h2 na nb x y ∧ (∀ z ∈ R ++ [(cs, cg)], h2.c.Good z.1 z.2) ∧ (R ++ [(cs, cg)]).length ≤ j + 1) := ⟨HK10.out.1.app h1 h2' h3, HK10.out.2.1, fun z hz => by rcases List.mem_append.1 hz with hz | hz; exact HK10.out.2.2.1 z hz; rw [List.mem_singleton.1 hz]; exact HG9.out, by rw [List.length_append, HNR.out]; show nR + 1 ≤ j + 1; omega⟩
                clear h1 h2' h3 HK10
                go_wp2
                go_roundw
                case rel => exact ⟨j + 1, h2, _, by omega, by go_num, HK11⟩
                case measure => simp [intOf]; omega
              · have herb : (er == 0) = false := by simp [her]
                clear ha2 k2 hg2 hge HC HK7 HK9 hk9 t9
                go_wp2
                go_roundw
                case rel => exact ⟨j + 1, h2, R, by omega, by go_num, HK10⟩
                case measure => simp [intOf]; omega
            · by_cases hd3 : dd = 3
              · subst hd3
                by_cases hR0 : 0 < nR
                · have hR1 : (0 : Int) < (nR : Int) := by omega
                  obtain ⟨u1', u2', k, f1, f2, f3, f4, f5, f6, f7⟩ := kmod3 use hR0 (by omega)
                  obtain ⟨rb, rc, hvr, hels, hcap, hge, hlt9⟩ := own_more hdK HK7.out.1.own (by rw [HNR.out]; exact hR0)
                  rw [HNR.out] at hvr
                  simp only [Value.slice.injEq] at hvr
                  obtain ⟨rfl, -, -⟩ := hvr
                  obtain ⟨b', o', ⟨p, q⟩, he, hgx, hcc⟩ := hels.at (j := k) (by rw [HNR.out]; exact f5)
                  cases he
                  have e0 : w7.cell? ⟨rb, k * 2, none⟩ = some (.int .i64 p) := by have := hcc 0 _ rfl; simpa using this
                  have e1 : w7.cell? ⟨rb, k * 2 + 1, none⟩ = some (.int .i64 q) := by have := hcc 1 _ rfl; simpa using this
                  have hgd : h.c.Good p q := HK7.out.2.2 (p, q) (List.mem_of_getElem? hgx)
                  have HC : Hid (Calls Try.prog 13 #[.pointer (some ⟨H, 0, none⟩), .int .i64 4, .agg #[.int .i64 p, .int .i64 q], .agg #[.int .i64 vt, .string vv, .bool vd]] w7.drew fun e w' => ∃ er h2, e = .returned (.int .i64 er) ∧ Kn wb.heap.size w4 w' H (wb.heap.size + 1) (wb.heap.size + 2) wb.heap.size [V0] (.slice (some ⟨rb, 0, none⟩) nR cl) h2 R ∧ Ks h2 na nb x y ∧ (∀ z ∈ R, h2.c.Good z.1 z.2) ∧ (∀ (b o : Nat), (b = V0 ∨ b = rb) → w'.cell? ⟨b, o, none⟩ = w7.cell? ⟨b, o, none⟩)) := by
                    have K7 := HK7.out.1.quiet (Tn.refl [] _).drew
                    refine (ks_install K7.mid.1 HK7.out.2.1 4 (by decide) p q hgd ⟨vt, vv, vd⟩ hkz).mono ?_
                    rintro e w8 ⟨er, h2, rfl, ha2, k2, hg2⟩
                    refine ⟨er, h2, rfl, K7.call ha2, k2, fun z hz => hg2 _ _ (HK7.out.2.2 z hz), fun b o hb => ?_⟩
                    have := ha2.2.2 b (by rcases hb with rfl | rfl <;> simp [Value.ownBlock])
                    exact cell_blk (w' := w8) (w := w7) this o
                  clear hgd hgx hcc hels hge hlt9 hcap
                  have i1 : (0 : Int) ≤ (k : Int) := by omega
                  have i2 : (k : Int) < (nR : Int) := by omega
                  have i3 : ¬ (nR : Int) = 0 := by omega
                  have i4 : ((nR : Int) == 0) = false := by simp; omega
                  have i5 : ¬ nR = 0 := by omega
                  have f9 : IntKind.i64.wrap u2' = u2' := by rw [IntKind.wrap_i64]; omega
                  have f8 : u2' % (nR : Int) = (k : Int) := by rw [← Int.tmod_eq_emod_of_nonneg (by omega)]; exact f4
                  go_wp2_with fail
                  go_region_held3 (fun w' => w'.cell? ⟨rb, k * 2, none⟩ = some (.int .i64 p) ∧ w'.cell? ⟨rb, k * 2 + 1, none⟩ = some (.int .i64 q) ∧ w'.cell? ⟨V0, 4, none⟩ = some (.int .i64 use) ∧ w'.cell? ⟨V0, 6, none⟩ = some (.int .i64 vt) ∧ w'.cell? ⟨V0, 7, none⟩ = some (.string vv) ∧ w'.cell? ⟨V0, 8, none⟩ = some (.bool vd)) (go_keep) (first
                    | (go_at_call 13; refine HC.out.mono ?_; rintro e w8 ⟨er, h2, rfl, K8, k8, g8, q8⟩; have HK8 : Hid (Kn wb.heap.size w4 w8 H (wb.heap.size + 1) (wb.heap.size + 2) wb.heap.size [] (.slice (some ⟨rb, 0, none⟩) nR cl) h2 R ∧ Ks h2 na nb x y ∧ (∀ z ∈ R, h2.c.Good z.1 z.2) ∧ R.length ≤ j + 1) := ⟨K8.drop, k8, g8, by rw [HNR.out]; omega⟩; have o0 : w8.cell? ⟨rb, k * 2, none⟩ = some (.int .i64 p) := (q8 rb _ (.inr rfl)).trans e0; have o1 : w8.cell? ⟨rb, k * 2 + 1, none⟩ = some (.int .i64 q) := (q8 rb _ (.inr rfl)).trans e1; have o4 : w8.cell? ⟨V0, 4, none⟩ = some (.int .i64 use) := (q8 V0 _ (.inl rfl)).trans d4; have o6 : w8.cell? ⟨V0, 6, none⟩ = some (.int .i64 vt) := (q8 V0 _ (.inl rfl)).trans d6; have o7 : w8.cell? ⟨V0, 7, none⟩ = some (.string vv) := (q8 V0 _ (.inl rfl)).trans d7; have o8 : w8.cell? ⟨V0, 8, none⟩ = some (.bool vd) := (q8 V0 _ (.inl rfl)).trans d8; clear K8 k8 g8 q8))
                  go_wp2
                  go_roundw
                  case rel => exact ⟨j + 1, h2, R, by omega, by go_num, HK8⟩
                  case measure => simp [intOf]; omega
                · have hR1 : ¬ (0 : Int) < (nR : Int) := by omega
                  have HK9 : Hid (Kn wb.heap.size w4 w7 H (wb.heap.size + 1) (wb.heap.size + 2) wb.heap.size [] (.slice pl nR cl) h R ∧ Ks h na nb x y ∧ (∀ z ∈ R, h.c.Good z.1 z.2) ∧ R.length ≤ j + 1) := ⟨HK7.out.1.drop, HK7.out.2.1, HK7.out.2.2, by rw [HNR.out]; omega⟩
                  clear HK7
                  go_wp2
                  go_roundw
                  case rel => exact ⟨j + 1, h, R, by omega, by go_num, HK9⟩
                  case measure => simp [intOf]; omega
              · have HK9 : Hid (Kn wb.heap.size w4 w7 H (wb.heap.size + 1) (wb.heap.size + 2) wb.heap.size [] (.slice pl nR cl) h R ∧ Ks h na nb x y ∧ (∀ z ∈ R, h.c.Good z.1 z.2) ∧ R.length ≤ j + 1) := ⟨HK7.out.1.drop, HK7.out.2.1, HK7.out.2.2, by rw [HNR.out]; omega⟩
                have d0b : (dd == 0) = false := by simp [hd0]
                have d1b : (dd == 1) = false := by simp [hd1]
                have d2b : (dd == 2) = false := by simp [hd2]
                have d3b : (dd == 3) = false := by simp [hd3]
                clear HK7
                go_wp2
                go_roundw
                case rel => exact ⟨j + 1, h, R, by omega, by go_num, HK9⟩
                case measure => simp [intOf]; omega
      · have hgsb : (gs == 3) = false := by simp [hgs]
        by_cases hd0 : dd = 0
        · subst hd0
          have HC : Hid (Calls Try.prog 10 #[.pointer (some ⟨H, 0, none⟩), .int .i64 gs, .int .i64 ga, .int .i64 gb] w7 fun e w' => ∃ er h2, e = .returned (.int .i64 er) ∧ AftH wb.heap.size w7 w' H (wb.heap.size + 1) (wb.heap.size + 2) wb.heap.size h2 ((Value.slice pl nR cl).ownBlock.toList ++ [V0] ++ []) ∧ Ks h2 na nb x y ∧ (∀ p q, h.c.Good p q → h2.c.Good p q)) := ks_reserve HK7.out.1.mid.1 HK7.out.2.1 gs ga gb hgs
          go_wp2_with fail
          refine HC.out.mono ?_
          rintro e w8 ⟨er, h2, rfl, ha2, k2, hg2⟩
          have HK9 : Hid (Kn wb.heap.size w4 w8 H (wb.heap.size + 1) (wb.heap.size + 2) wb.heap.size [] (.slice pl nR cl) h2 R ∧ Ks h2 na nb x y ∧ (∀ z ∈ R, h2.c.Good z.1 z.2) ∧ R.length ≤ j + 1) := ⟨(HK7.out.1.call ha2).drop, k2, fun z hz => hg2 _ _ (HK7.out.2.2 z hz), by rw [HNR.out]; omega⟩
          clear ha2 k2 hg2 HC HK7
          go_wp2
          go_roundw
          case rel => exact ⟨j + 1, h2, R, by omega, by go_num, HK9⟩
          case measure => simp [intOf]; omega
        · by_cases hd1 : dd = 1
          · subst hd1
            have HC : Hid (Calls Try.prog 11 #[.pointer (some ⟨H, 0, none⟩), .int .i64 gs] w7 fun e w' => ∃ er h2, e = .returned (.int .i64 er) ∧ AftH wb.heap.size w7 w' H (wb.heap.size + 1) (wb.heap.size + 2) wb.heap.size h2 ((Value.slice pl nR cl).ownBlock.toList ++ [V0] ++ []) ∧ Ks h2 na nb x y ∧ (∀ p q, h.c.Good p q → h2.c.Good p q)) := ks_release HK7.out.1.mid.1 HK7.out.2.1 gs hgs
            go_wp2_with fail
            refine HC.out.mono ?_
            rintro e w8 ⟨er, h2, rfl, ha2, k2, hg2⟩
            have HK9 : Hid (Kn wb.heap.size w4 w8 H (wb.heap.size + 1) (wb.heap.size + 2) wb.heap.size [] (.slice pl nR cl) h2 R ∧ Ks h2 na nb x y ∧ (∀ z ∈ R, h2.c.Good z.1 z.2) ∧ R.length ≤ j + 1) := ⟨(HK7.out.1.call ha2).drop, k2, fun z hz => hg2 _ _ (HK7.out.2.2 z hz), by rw [HNR.out]; omega⟩
            clear ha2 k2 hg2 HC HK7
            go_wp2
            go_roundw
            case rel => exact ⟨j + 1, h2, R, by omega, by go_num, HK9⟩
            case measure => simp [intOf]; omega
          · by_cases hd2 : dd = 2
            · subst hd2
              have HC : Hid (Calls Try.prog 12 #[.pointer (some ⟨H, 0, none⟩), .int .i64 gs, .string key] w7 fun e w' => ∃ cs cg er h2, e = .returned (.tuple #[.agg #[.int .i64 cs, .int .i64 cg], .int .i64 er]) ∧ AftH wb.heap.size w7 w' H (wb.heap.size + 1) (wb.heap.size + 2) wb.heap.size h2 ((Value.slice pl nR cl).ownBlock.toList ++ [V0] ++ []) ∧ Ks h2 na nb x y ∧ (∀ p q, h.c.Good p q → h2.c.Good p q) ∧ (er = 0 → h2.c.Good cs cg)) := ks_cell HK7.out.1.mid.1 HK7.out.2.1 gs hgs key
              go_wp2_with fail
              refine HC.out.mono ?_
              rintro e w8 ⟨cs, cg, er, h2, rfl, ha2, k2, hg2, hge⟩
              have HK9 : Hid (Kn wb.heap.size w4 w8 H (wb.heap.size + 1) (wb.heap.size + 2) wb.heap.size [] (.slice pl nR cl) h2 R ∧ Ks h2 na nb x y ∧ (∀ z ∈ R, h2.c.Good z.1 z.2) ∧ R.length ≤ j + 1) := ⟨(HK7.out.1.call ha2).drop, k2, fun z hz => hg2 _ _ (HK7.out.2.2 z hz), by rw [HNR.out]; omega⟩
              obtain ⟨V1, hV1⟩ : ∃ V1, w8.heap.size = V1 := ⟨_, rfl⟩
              obtain ⟨w9, hw9, hk9, t9⟩ : ∃ w9, w8.alloc (.cells #[.int .i64 cs, .int .i64 cg] 36) = w9 ∧ Bk w9 V1 36 #[.int .i64 cs, .int .i64 cg] ∧ Tn [] w8 w9 := ⟨_, rfl, by rw [← hV1]; exact Bk.new _ _ _, (Tn.refl _ _).alloc _⟩
              have HK10 : Hid (Kn wb.heap.size w4 w9 H (wb.heap.size + 1) (wb.heap.size + 2) wb.heap.size [] (.slice pl nR cl) h2 R ∧ Ks h2 na nb x y ∧ (∀ z ∈ R, h2.c.Good z.1 z.2) ∧ R.length ≤ j + 1) := ⟨HK9.out.1.quiet t9, HK9.out.2⟩
              have e0 : w9.cell? ⟨V1, 0, none⟩ = some (.int .i64 cs) := hk9.cell 0
              have e1 : w9.cell? ⟨V1, 1, none⟩ = some (.int .i64 cg) := hk9.cell 1
              by_cases her : er = 0
              · subst her
                have HG9 : Hid (h2.c.Good cs cg) := hge rfl
                clear ha2 k2 hg2 hge HC HK7 HK9 hk9 t9
                go_wp2_with (at_builtin; refine app1L hdK Try.underlying32 hdinfo rfl w9 rfl _ _ rfl w4.heap.size (.slice pl nR cl) R rfl (cs, cg) _ rfl rfl _ rfl HK10.out.1.own (by rw [HNR.out]; unfold maxLen; omega) (by rw [HNR.out]; omega) HK10.out.1.ge ?_; intro v10 w10 h1 h2' h3)
                have HK11 : Hid (Kn wb.heap.size w4 w10 H (wb.heap.size + 1) (wb.heap.size + 2) wb.heap.size [] v10 h2 (R ++ [(cs, cg)]) ∧ Ks h2 na nb x y ∧ (∀ z ∈ R ++ [(cs, cg)], h2.c.Good z.1 z.2) ∧ (R ++ [(cs, cg)]).length ≤ j + 1) := ⟨HK10.out.1.app h1 h2' h3, HK10.out.2.1, fun z hz => by rcases List.mem_append.1 hz with hz | hz; exact HK10.out.2.2.1 z hz; rw [List.mem_singleton.1 hz]; exact HG9.out, by rw [List.length_append, HNR.out]; show nR + 1 ≤ j + 1; omega⟩
                clear h1 h2' h3 HK10
                go_wp2
                go_roundw
                case rel => exact ⟨j + 1, h2, _, by omega, by go_num, HK11⟩
                case measure => simp [intOf]; omega
              · have herb : (er == 0) = false := by simp [her]
                clear ha2 k2 hg2 hge HC HK7 HK9 hk9 t9
                go_wp2
                go_roundw
                case rel => exact ⟨j + 1, h2, R, by omega, by go_num, HK10⟩
                case measure => simp [intOf]; omega
            · by_cases hd3 : dd = 3
              · subst hd3
                by_cases hR0 : 0 < nR
                · have hR1 : (0 : Int) < (nR : Int) := by omega
                  obtain ⟨u1', u2', k, f1, f2, f3, f4, f5, f6, f7⟩ := kmod3 use hR0 (by omega)
                  obtain ⟨rb, rc, hvr, hels, hcap, hge, hlt9⟩ := own_more hdK HK7.out.1.own (by rw [HNR.out]; exact hR0)
                  rw [HNR.out] at hvr
                  simp only [Value.slice.injEq] at hvr
                  obtain ⟨rfl, -, -⟩ := hvr
                  obtain ⟨b', o', ⟨p, q⟩, he, hgx, hcc⟩ := hels.at (j := k) (by rw [HNR.out]; exact f5)
                  cases he
                  have e0 : w7.cell? ⟨rb, k * 2, none⟩ = some (.int .i64 p) := by have := hcc 0 _ rfl; simpa using this
                  have e1 : w7.cell? ⟨rb, k * 2 + 1, none⟩ = some (.int .i64 q) := by have := hcc 1 _ rfl; simpa using this
                  have hgd : h.c.Good p q := HK7.out.2.2 (p, q) (List.mem_of_getElem? hgx)
                  have HC : Hid (Calls Try.prog 13 #[.pointer (some ⟨H, 0, none⟩), .int .i64 gs, .agg #[.int .i64 p, .int .i64 q], .agg #[.int .i64 vt, .string vv, .bool vd]] w7.drew fun e w' => ∃ er h2, e = .returned (.int .i64 er) ∧ Kn wb.heap.size w4 w' H (wb.heap.size + 1) (wb.heap.size + 2) wb.heap.size [V0] (.slice (some ⟨rb, 0, none⟩) nR cl) h2 R ∧ Ks h2 na nb x y ∧ (∀ z ∈ R, h2.c.Good z.1 z.2) ∧ (∀ (b o : Nat), (b = V0 ∨ b = rb) → w'.cell? ⟨b, o, none⟩ = w7.cell? ⟨b, o, none⟩)) := by
                    have K7 := HK7.out.1.quiet (Tn.refl [] _).drew
                    refine (ks_install K7.mid.1 HK7.out.2.1 gs hgs p q hgd ⟨vt, vv, vd⟩ hkz).mono ?_
                    rintro e w8 ⟨er, h2, rfl, ha2, k2, hg2⟩
                    refine ⟨er, h2, rfl, K7.call ha2, k2, fun z hz => hg2 _ _ (HK7.out.2.2 z hz), fun b o hb => ?_⟩
                    have := ha2.2.2 b (by rcases hb with rfl | rfl <;> simp [Value.ownBlock])
                    exact cell_blk (w' := w8) (w := w7) this o
                  clear hgd hgx hcc hels hge hlt9 hcap
                  have i1 : (0 : Int) ≤ (k : Int) := by omega
                  have i2 : (k : Int) < (nR : Int) := by omega
                  have i3 : ¬ (nR : Int) = 0 := by omega
                  have i4 : ((nR : Int) == 0) = false := by simp; omega
                  have i5 : ¬ nR = 0 := by omega
                  have f9 : IntKind.i64.wrap u2' = u2' := by rw [IntKind.wrap_i64]; omega
                  have f8 : u2' % (nR : Int) = (k : Int) := by rw [← Int.tmod_eq_emod_of_nonneg (by omega)]; exact f4
                  go_wp2_with fail
                  go_region_held3 (fun w' => w'.cell? ⟨rb, k * 2, none⟩ = some (.int .i64 p) ∧ w'.cell? ⟨rb, k * 2 + 1, none⟩ = some (.int .i64 q) ∧ w'.cell? ⟨V0, 4, none⟩ = some (.int .i64 use) ∧ w'.cell? ⟨V0, 6, none⟩ = some (.int .i64 vt) ∧ w'.cell? ⟨V0, 7, none⟩ = some (.string vv) ∧ w'.cell? ⟨V0, 8, none⟩ = some (.bool vd)) (go_keep) (first
                    | (go_at_call 13; refine HC.out.mono ?_; rintro e w8 ⟨er, h2, rfl, K8, k8, g8, q8⟩; have HK8 : Hid (Kn wb.heap.size w4 w8 H (wb.heap.size + 1) (wb.heap.size + 2) wb.heap.size [] (.slice (some ⟨rb, 0, none⟩) nR cl) h2 R ∧ Ks h2 na nb x y ∧ (∀ z ∈ R, h2.c.Good z.1 z.2) ∧ R.length ≤ j + 1) := ⟨K8.drop, k8, g8, by rw [HNR.out]; omega⟩; have o0 : w8.cell? ⟨rb, k * 2, none⟩ = some (.int .i64 p) := (q8 rb _ (.inr rfl)).trans e0; have o1 : w8.cell? ⟨rb, k * 2 + 1, none⟩ = some (.int .i64 q) := (q8 rb _ (.inr rfl)).trans e1; have o4 : w8.cell? ⟨V0, 4, none⟩ = some (.int .i64 use) := (q8 V0 _ (.inl rfl)).trans d4; have o6 : w8.cell? ⟨V0, 6, none⟩ = some (.int .i64 vt) := (q8 V0 _ (.inl rfl)).trans d6; have o7 : w8.cell? ⟨V0, 7, none⟩ = some (.string vv) := (q8 V0 _ (.inl rfl)).trans d7; have o8 : w8.cell? ⟨V0, 8, none⟩ = some (.bool vd) := (q8 V0 _ (.inl rfl)).trans d8; clear K8 k8 g8 q8))
                  go_wp2
                  go_roundw
                  case rel => exact ⟨j + 1, h2, R, by omega, by go_num, HK8⟩
                  case measure => simp [intOf]; omega
                · have hR1 : ¬ (0 : Int) < (nR : Int) := by omega
                  have HK9 : Hid (Kn wb.heap.size w4 w7 H (wb.heap.size + 1) (wb.heap.size + 2) wb.heap.size [] (.slice pl nR cl) h R ∧ Ks h na nb x y ∧ (∀ z ∈ R, h.c.Good z.1 z.2) ∧ R.length ≤ j + 1) := ⟨HK7.out.1.drop, HK7.out.2.1, HK7.out.2.2, by rw [HNR.out]; omega⟩
                  clear HK7
                  go_wp2
                  go_roundw
                  case rel => exact ⟨j + 1, h, R, by omega, by go_num, HK9⟩
                  case measure => simp [intOf]; omega
              · have HK9 : Hid (Kn wb.heap.size w4 w7 H (wb.heap.size + 1) (wb.heap.size + 2) wb.heap.size [] (.slice pl nR cl) h R ∧ Ks h na nb x y ∧ (∀ z ∈ R, h.c.Good z.1 z.2) ∧ R.length ≤ j + 1) := ⟨HK7.out.1.drop, HK7.out.2.1, HK7.out.2.2, by rw [HNR.out]; omega⟩
                have d0b : (dd == 0) = false := by simp [hd0]
                have d1b : (dd == 1) = false := by simp [hd1]
                have d2b : (dd == 2) = false := by simp [hd2]
                have d3b : (dd == 3) = false := by simp [hd3]
                clear HK7
                go_wp2
                go_roundw
                case rel => exact ⟨j + 1, h, R, by omega, by go_num, HK9⟩
                case measure => simp [intOf]; omega
    · have hli : ¬ (j : Int) < (n3 : Int) := by omega
      have hjn : n3 = j := by omega
      subst hjn
      obtain ⟨W1, hW1⟩ : ∃ W1, wr.heap.size = W1 := ⟨_, rfl⟩
      obtain ⟨w6, hw6, hk6, t6⟩ : ∃ w6, wr.alloc (.cells #[.int .i64 0, .int .i64 0] 36) = w6 ∧ Bk w6 W1 36 #[.int .i64 0, .int .i64 0] ∧ Tn [] wr w6 := ⟨_, rfl, by rw [← hW1]; exact Bk.new _ _ _, (Tn.refl _ _).alloc _⟩
      have HS6 : Hid (MidH wb.heap.size w4 [W1] w6 H (wb.heap.size + 1) (wb.heap.size + 2) wb.heap.size h [] ∧ Bk w6 W1 36 #[.int .i64 0, .int .i64 0] ∧ Ks h na nb x y) := ⟨HK.out.1.mid.new t6 (by simp; omega) (by simp; exact hk6.lt), hk6, HK.out.2.1⟩
      clear HK hk6 t6 hbw hnR HNR hRj
      go_wp2_with fail
      go_loopw [137] (fun i wr => ∃ (q r : Nat) (h : Hp) (cs cg : Int), q + r = x ∧ i = .int .i64 q ∧ Hid (MidH wb.heap.size w4 [W1] wr H (wb.heap.size + 1) (wb.heap.size + 2) wb.heap.size h [] ∧ Bk wr W1 36 #[.int .i64 cs, .int .i64 cg] ∧ Ks h na nb r y ∧ (1 ≤ q → CellAt h cs cg false []))) (fun i _ => x - (intOf i).toNat)
      case atStart => exact ⟨0, x, h, 0, 0, by omega, rfl, HS6.out.1, HS6.out.2.1, HS6.out.2.2, fun h => absurd h (by omega)⟩
      case round =>
        clear HS6
        obtain ⟨q, r, h, cs, cg, hqr, rfl, HK⟩ := hrel
        by_cases hqx : q < x
        · have hli2 : (q : Int) < (x : Int) := by omega
          have g1 : (0 : Int) ≤ (q : Int) := by omega
          obtain ⟨r, rfl⟩ : ∃ r', r = r' + 1 := ⟨r - 1, by omega⟩
          have HC : Hid (Calls Try.prog 12 #[.pointer (some ⟨H, 0, none⟩), .int .i64 3, .string ⟨#[107]⟩] wr fun e w' => ∃ cs cg h2, e = .returned (.tuple #[.agg #[.int .i64 cs, .int .i64 cg], .int .i64 0]) ∧ AftH wb.heap.size wr w' H (wb.heap.size + 1) (wb.heap.size + 2) wb.heap.size h2 ([W1] ++ []) ∧ Ks h2 na nb r y ∧ CellAt h2 cs cg false []) := ks_cell3 HK.out.1.1 HK.out.2.2.1 ⟨#[107]⟩ (⟨of_decide_eq_true rfl, of_decide_eq_true rfl⟩)
          go_wp2_with fail
          refine HC.out.mono ?_
          rintro e w8 ⟨cs2, cg2, h2, rfl, ha8, k8, ca8⟩
          have kw8 := ha8.blk (by simp) HK.out.2.1
          have e0 : w8.cell? ⟨W1, 0, none⟩ = some (.int .i64 cs) := kw8.cell 0
          have e1 : w8.cell? ⟨W1, 1, none⟩ = some (.int .i64 cg) := kw8.cell 1
          have f0 : w8.frozen? ⟨W1, 0, none⟩ = false := kw8.frozen 0
          have f1 : w8.frozen? ⟨W1, 1, none⟩ = false := kw8.frozen 1
          obtain ⟨w10, hw10, t10, hk10⟩ : ∃ w10, (w8.setCell ⟨W1, 0, none⟩ (.int .i64 cs2)).setCell ⟨W1, 1, none⟩ (.int .i64 cg2) = w10 ∧ Tn [W1] w8 w10 ∧ Bk w10 W1 36 #[.int .i64 cs2, .int .i64 cg2] := ⟨_, rfl, ((Tn.refl _ _).setCell (.inl (by simp)) _).setCell (.inl (by simp)) _, (kw8.set 0 _).set 1 _⟩
          have HK10 : Hid (MidH wb.heap.size w4 [W1] w10 H (wb.heap.size + 1) (wb.heap.size + 2) wb.heap.size h2 [] ∧ Bk w10 W1 36 #[.int .i64 cs2, .int .i64 cg2] ∧ Ks h2 na nb r y ∧ (1 ≤ q + 1 → CellAt h2 cs2 cg2 false [])) := ⟨(HK.out.1.call ha8).own t10, hk10, k8, fun _ => ca8⟩
          clear ha8 k8 ca8 kw8 t10 hk10 HK HC
          go_wp2
          go_roundw
          case rel => exact ⟨q + 1, r, h2, cs2, cg2, by omega, by go_num, HK10⟩
          case measure => simp [intOf]; omega
        · have hli2 : ¬ (q : Int) < (x : Int) := by omega
          obtain ⟨hqx9, hr9⟩ : x = q ∧ r = 0 := by omega
          subst hqx9
          subst hr9
          obtain ⟨zc, hzc⟩ : ∃ zc : Int, zc = 0 := ⟨_, rfl⟩
          have HC : Hid (Calls Try.prog 12 #[.pointer (some ⟨H, 0, none⟩), .int .i64 3, .string ⟨#[107]⟩] wr fun e w' => e = .returned (.tuple #[.agg #[.int .i64 zc, .int .i64 zc], .int .i64 5]) ∧ AftH wb.heap.size wr w' H (wb.heap.size + 1) (wb.heap.size + 2) wb.heap.size h ([W1] ++ [])) := by
            rw [hzc]
            exact ks_cell3_full HK.out.1.1 HK.out.2.2.1 ⟨#[107]⟩ (⟨of_decide_eq_true rfl, of_decide_eq_true rfl⟩)
          clear hzc
          go_wp2_with fail
          refine HC.out.mono ?_
          rintro e w8 ⟨rfl, ha8⟩
          obtain ⟨w9, hw9, t9⟩ : ∃ w9, w8.alloc (.cells #[.int .i64 zc, .int .i64 zc] 36) = w9 ∧ Tn [] w8 w9 := ⟨_, rfl, (Tn.refl _ _).alloc _⟩
          have HK9 : Hid (MidH wb.heap.size w4 [W1] w9 H (wb.heap.size + 1) (wb.heap.size + 2) wb.heap.size h [] ∧ Bk w9 W1 36 #[.int .i64 cs, .int .i64 cg] ∧ Ks h na nb 0 y ∧ (1 ≤ x → CellAt h cs cg false [])) := ⟨(HK.out.1.call ha8).quiet t9, (ha8.blk (by simp) HK.out.2.1).tn t9 (by simp), HK.out.2.2⟩
          clear ha8 t9 HK HC
          have HBE : Hid (∀ W, Below wb.heap.size w4 W → Below w.heap.size w W) := fun W hW => by
            have h1 := HWB.out.1
            have h2 := HWB.out.2.2
            have h3 : Below wb.heap.size wb W := HK4.out.2.trans hW
            exact h1.trans (h3.mono (by omega))
          by_cases hx0 : x = 0
          · subst hx0
            go_wp2
            go_ret
            exact ⟨rfl, HBE.out _ HK9.out.1.2.1⟩
          · have hx0i : ¬ (x : Int) = 0 := by omega
            have hx0b : ((x : Int) == 0) = false := by simp; omega
            have HS9 : Hid (MidH wb.heap.size w4 [W1] w9 H (wb.heap.size + 1) (wb.heap.size + 2) wb.heap.size h [] ∧ Bk w9 W1 36 #[.int .i64 cs, .int .i64 cg] ∧ Ks h na nb 0 y ∧ CellAt h cs cg false []) := ⟨HK9.out.1, HK9.out.2.1, HK9.out.2.2.1, HK9.out.2.2.2 (by omega)⟩
            clear HK9
            go_wp2_with fail
            go_loopw [157] (fun i wr => ∃ (q r : Nat) (h : Hp) (L : List Ln) (F : List Vs), q + r = y ∧ i = .int .i64 q ∧ Hid (MidH wb.heap.size w4 [W1] wr H (wb.heap.size + 1) (wb.heap.size + 2) wb.heap.size h [] ∧ Bk wr W1 36 #[.int .i64 cs, .int .i64 cg] ∧ Ks h na nb 0 r ∧ CellAt h cs cg false L ∧ L.map Ln.ver = F ∧ Fs F q (q : Int))) (fun i _ => y - (intOf i).toNat)
            case atStart => exact ⟨0, y, h, [], [], by omega, rfl, HS9.out.1, HS9.out.2.1, HS9.out.2.2.1, HS9.out.2.2.2, rfl, ⟨rfl, by simp, List.Pairwise.nil, by simp, by simp⟩⟩
            case round =>
              clear HS9
              obtain ⟨q, r, h, L, F, hqr2, rfl, HK⟩ := hrel
              by_cases hqy : q < y
              · have hli4 : (q : Int) < (y : Int) := by omega
                have g4 : (0 : Int) ≤ (q : Int) := by omega
                obtain ⟨r, rfl⟩ : ∃ r', r = r' + 1 := ⟨r - 1, by omega⟩
                obtain ⟨z, hz⟩ : ∃ z : Int, (q : Int) + 1 = z := ⟨_, rfl⟩
                have hzb : 1 ≤ z ∧ z ≤ 13 := by omega
                have HPU : Hid (Vr.putE F ⟨z, ⟨#[118]⟩, false⟩ = 0) := HK.out.2.2.2.2.2.putK z ⟨#[118]⟩ (by omega) (by omega) (by omega) (of_decide_eq_true rfl)
                have HFS : Hid (Fs (⟨z, ⟨#[118]⟩, false⟩ :: F) (q + 1) ((q + 1 : Nat) : Int)) := by
                  have := HK.out.2.2.2.2.2.cons ⟨z, ⟨#[118]⟩, false⟩ (by show (q : Int) < z; omega) (by show z ≤ (q : Int) + 4; omega)
                  have e : z = ((q + 1 : Nat) : Int) := by omega
                  exact e ▸ this
                have HIS : Hid (Calls Try.prog 13 #[.pointer (some ⟨H, 0, none⟩), .int .i64 3, .agg #[.int .i64 cs, .int .i64 cg], .agg #[.int .i64 z, .string ⟨#[118]⟩, .bool false]] wr fun e w' => e = .returned (.int .i64 0) ∧ ∃ h2 L2, AftH wb.heap.size wr w' H (wb.heap.size + 1) (wb.heap.size + 2) wb.heap.size h2 ([W1] ++ []) ∧ Ks h2 na nb 0 r ∧ CellAt h2 cs cg false L2 ∧ L2.map Ln.ver = ⟨z, ⟨#[118]⟩, false⟩ :: F) := ks_inst3 HK.out.1.1 HK.out.2.2.1 HK.out.2.2.2.1 HK.out.2.2.2.2.1 ⟨z, ⟨#[118]⟩, false⟩ (of_decide_eq_true rfl) HPU.out
                have a0 : wr.cell? ⟨W1, 0, none⟩ = some (.int .i64 cs) := HK.out.2.1.cell 0
                have a1' : wr.cell? ⟨W1, 1, none⟩ = some (.int .i64 cg) := HK.out.2.1.cell 1
                go_wp2_with fail
                refine HIS.out.mono ?_
                rintro e w11 ⟨rfl, h2, L2, ha11, k11, c11, l11⟩
                have HK11 : Hid (MidH wb.heap.size w4 [W1] w11 H (wb.heap.size + 1) (wb.heap.size + 2) wb.heap.size h2 [] ∧ Bk w11 W1 36 #[.int .i64 cs, .int .i64 cg] ∧ Ks h2 na nb 0 r ∧ CellAt h2 cs cg false L2 ∧ L2.map Ln.ver = ⟨z, ⟨#[118]⟩, false⟩ :: F ∧ Fs (⟨z, ⟨#[118]⟩, false⟩ :: F) (q + 1) ((q + 1 : Nat) : Int)) := ⟨HK.out.1.call ha11, ha11.blk (by simp) HK.out.2.1, k11, c11, l11, HFS.out⟩
                clear ha11 k11 c11 l11 HK HIS a0 a1'
                go_wp2
                go_roundw
                case rel => exact ⟨q + 1, r, h2, L2, _, by omega, by rw [← hz]; rfl, HK11⟩
                case measure => simp [intOf]; omega
              · have hli4 : ¬ (q : Int) < (y : Int) := by omega
                obtain ⟨hqy9, hr9⟩ : y = q ∧ r = 0 := by omega
                subst hqy9
                subst hr9
                obtain ⟨z, hz⟩ : ∃ z : Int, (y : Int) + 1 = z := ⟨_, rfl⟩
                have hzb : 1 ≤ z ∧ z ≤ 13 := by omega
                have HPU : Hid (Vr.putE F ⟨z, ⟨#[]⟩, false⟩ = 0) := HK.out.2.2.2.2.2.putK z ⟨#[]⟩ (by omega) (by omega) (by omega) (Nat.zero_le _)
                have HIS : Hid (Calls Try.prog 13 #[.pointer (some ⟨H, 0, none⟩), .int .i64 3, .agg #[.int .i64 cs, .int .i64 cg], .agg #[.int .i64 z, .string ⟨#[]⟩, .bool false]] wr fun e w' => e = .returned (.int .i64 5) ∧ AftH wb.heap.size wr w' H (wb.heap.size + 1) (wb.heap.size + 2) wb.heap.size h ([W1] ++ [])) := ks_inst3_full HK.out.1.1 HK.out.2.2.1 HK.out.2.2.2.1 HK.out.2.2.2.2.1 ⟨z, ⟨#[]⟩, false⟩ (Nat.zero_le _) HPU.out
                have a0 : wr.cell? ⟨W1, 0, none⟩ = some (.int .i64 cs) := HK.out.2.1.cell 0
                have a1' : wr.cell? ⟨W1, 1, none⟩ = some (.int .i64 cg) := HK.out.2.1.cell 1
                go_wp2_with fail
                refine HIS.out.mono ?_
                rintro e w11 ⟨rfl, ha11⟩
                have HB11 : Hid (Below w.heap.size w w11) := HBE.out _ (HK.out.1.call ha11).2.1
                clear ha11 HK HIS a0 a1'
                go_wp2
                go_ret
                exact ⟨rfl, HB11.out⟩


set_option maxRecDepth 100000 in
set_option maxHeartbeats 2000000 in
theorem lifted_heapKeeps (os : Os) (started : os.Started) (H : Type) (enc : TypeId × Value → H) :
    ReturnsInHanded {} Try.checked os 3 .any (Rows.heapKeepsSpec.pre6 enc Try.prog Try.f3 Rows.heapKeepsRow.domain false) (Rows.heapKeepsSpec.post enc Try.prog Try.f3 false true false false) := by
  refine returnsInHanded_of_change_sized (C := Try.checked) own started (by kernel_rfl) Try.func3
    (ChangeSpec.witness6 (enc := enc) (C := Try.checked) false ⟨#[], #[.int .u8 0, .int .u8 0, .agg #[.int .u8 0, .int .u8 0], .slice none 0 0], []⟩ 8 (by kernel_rfl) (by kernel_rfl) (by kernel_rfl) (by kernel_rfl)) ?_
  intro W base args ds gs before hval0 hW _ hsz0 _
  have hsz : (DataW.weightsEach Try.prog (Try.f3.params.toList ++ Rows.heapKeepsSpec.plain.varTypes Try.prog) (ds ++ gs)).all (· ≤ reachBytes) = true := hsz0
  clear hsz0
  have hval : ∀ (j : Nat) t v, Try.f3.params[j]? = some t → args[j]? = some v → Value.okWide Try.prog W .any base t v := hval0
  have hW' := hW
  obtain ⟨p, q, hA0, hV, rfl, hfz, hnd⟩ := hW
  have hA : DataW.TrodAll enc Try.prog W 0 (fun _ => true) true Try.f3.params.toList args.toList ds p := hA0
  rw [Try.params3] at hA hval hsz
  obtain ⟨v0, vs0, d0, ds0, p0, q0, hargs, rfl, rfl, h0, r0⟩ := trodAll_cons hA
  obtain ⟨v1, vs1, d1, ds1, p1, q1, rfl, rfl, rfl, h1, r1⟩ := trodAll_cons r0
  obtain ⟨v2, vs2, d2, ds2, p2, q2, rfl, rfl, rfl, h2, r2⟩ := trodAll_cons r1
  obtain ⟨v3, vs3, d3, ds3, p3, q3, rfl, rfl, rfl, h3, r3⟩ := trodAll_cons r2
  obtain ⟨rfl, rfl, rfl⟩ := trodAll_nil r3
  obtain rfl : args = #[v0, v1, v2, v3] := by cases args; simp_all
  obtain ⟨rfl, rfl⟩ := trodVars_none hV
  obtain ⟨a0, rfl, rfl, rfl, w0⟩ := open_int Try.underlying5 (hval 0 5 v0 rfl rfl) h0
  obtain ⟨a1, rfl, rfl, rfl, w1⟩ := open_int Try.underlying5 (hval 1 5 v1 rfl rfl) h1
  have k2 := h2
  have lt2 : ∀ x ∈ p2, x.block < W.heap.size := by obtain ⟨m, hm⟩ := k2; exact DataW.trod_lt m _ _ _ hm
  obtain ⟨x2, y2, e2, u2, w2⟩ := in_arr2 (hval 2 22 v2 rfl rfl) h2
  subst e2
  obtain ⟨a3, len3, cap3, rfl⟩ := okWide_slice Try.underlying23 (hval 3 23 v3 rfl rfl)
  have k3 := h3
  have lt3 : ∀ x ∈ p3, x.block < W.heap.size := by obtain ⟨m, hm⟩ := k3; exact DataW.trod_lt m _ _ _ hm
  obtain ⟨z3, w3⟩ : ∃ l, InHk W a3 len3 cap3 l := by
    refine in_hops h3 fun n hn => ?_
    have := of_decide_eq_true (List.all_eq_true.1 hsz _ (DataW.weights_mem_each (j := 3) (t := 23) rfl rfl n hn))
    simp only [reachBytes] at this
    omega
  clear hA0 hval0
  refine (walk_heapKeeps a0 a1 x2 y2 a3 len3 cap3 z3 W w0 w1 u2 w2 w3).mono fun e W' ⟨he, bel⟩ => ?_
  subst he
  exact ⟨_, rfl, _, _, _, [], _, [], hW', trodAll_mk1 (shut_bool Try.underlying4 _), (trodAll_cons_mk (shut_int Try.underlying5 w0) (trodAll_cons_mk (shut_int Try.underlying5 w1) (trodAll_cons_mk (Below.trod laidOut (by kernel_rfl) (of_decide_eq_true (by kernel_rfl)) k2 bel lt2) (trodAll_cons_mk (Below.trod laidOut (by kernel_rfl) (of_decide_eq_true (by kernel_rfl)) k3 bel lt3) trodAll_mk0)))), rfl, bel.frame _, fun h => by cases h⟩

/-- The statement. -/
theorem heapKeeps_holds : Rows.HeapKeepsSaid :=
  OpenClaim.holds_of_wide 3 Try.f3 rfl rfl rfl rfl rfl rfl rfl ⟨rfl, rfl, rfl, rfl, rfl⟩ rfl rfl rfl rfl rfl (by kernel_rfl) Try.func3 (by kernel_rfl)
    (of_decide_eq_true (by kernel_rfl)) (by unfold Func.isWrapper; first | (rw [if_pos (by decide +kernel)]; kernel_rfl) | (rw [if_neg (by decide +kernel)]; exact ⟨rfl, rfl⟩))
    (fun os started H enc _ => lifted_heapKeeps os started H enc)
#print axioms heapKeeps_holds
end Go.Proofs.Ytbdcdiihaecheaa
