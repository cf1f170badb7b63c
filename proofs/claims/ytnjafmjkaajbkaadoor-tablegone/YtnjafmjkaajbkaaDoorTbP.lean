/- A table and the document's beside it. -/
import Derived.Test.YtnjafmjkaajbkaaDoorTbRg
namespace Go.Proofs.YtnjafmjkaajbkaaDoor
open Go.RowKit
set_option linter.unusedVariables false
set_option maxRecDepth 100000

/-- They say the same. -/
structure Rel (t : Tb) (r : Rt) (n : Nat) : Prop where
  size : t.size = n
  miss : r.missed = t.missed
  st : ∀ q : Int, r.s q = (t.pg q).st
  hd : ∀ (q : Int) (c : Nat) (x : Int × Int) (m : Int), t.pg q = Pa.live c x m → r.h q = x

/-- A table's blocks are none of other kinds. -/
theorem Tbn.kinds {w : World} {B : Nat} {bs : List Nat} {t : Tb} (h : Tbn w B bs t) : ∀ b ∈ bs, ∃ cs τ, w.heap[b]? = some (.cells cs τ (0, 0)) ∧ τ ∈ [64, 80, 100, 96] := by
  obtain ⟨uv, wv, rfl, h, ho⟩ := h
  intro b hb
  rcases mem_bsT.1 hb with rfl | hb | hb | ⟨i, x, n, hi⟩
  · exact ⟨_, _, h.blk, by simp⟩
  · obtain ⟨cs, hc⟩ := row_type h.row b hb
    exact ⟨cs, _, hc, by simp⟩
  · obtain ⟨cs, hc⟩ := row_type h.wrd b hb
    exact ⟨cs, _, hc, by simp⟩
  · exact ⟨_, _, h.cel _ _ _ _ hi, by simp⟩
theorem Tbn.not_in {w : World} {B : Nat} {bs : List Nat} {t : Tb} (h : Tbn w B bs t) {k : Nat} {τ : TypeId} {cs : Array Value} (hk : Bk w k τ cs) (hτ : τ ∉ [64, 80, 100, 96]) : k ∉ bs := by
  intro hm
  obtain ⟨cs', τ', h1, h2⟩ := h.kinds k hm
  rw [show w.heap[k]? = _ from hk] at h1
  injection h1 with h1
  injection h1 with _ h1 _
  subst h1
  exact hτ h2

structure Pr (w : World) (B : Nat) (bs : List Nat) (t : Tb) (R g1 g2 n : Nat) (r : Rt) : Prop where
  tb : Tbn w B bs t
  rf : IsR w R g1 g2 n r
  rel : Rel t r n
  tab : Tab w
  pos : ∀ b ∈ bs ++ [R, g1, g2], 0 < b

section
variable {w w' : World} {B : Nat} {bs : List Nat} {t : Tb} {R g1 g2 n : Nat} {r : Rt}

theorem apart (h : Tbn w B bs t) (k : IsR w R g1 g2 n r) : ∀ b ∈ [R, g1, g2], b ∉ bs := by
  intro b hb
  simp at hb
  rcases hb with rfl | rfl | rfl
  · exact h.not_in k.blk (by decide)
  · exact h.not_in k.st (by decide)
  · exact h.not_in k.hd (by decide)
theorem apart' (h : Tbn w B bs t) (k : IsR w R g1 g2 n r) : ∀ b ∈ bs, b ∉ [R, g1, g2] := fun b hb hm => apart h k b hm hb

theorem Pr.below (h : Pr w B bs t R g1 g2 n r) (hb : Below w.heap.size w w') : Pr w' B bs t R g1 g2 n r := ⟨h.tb.below hb, h.rf.below hb, h.rel, h.tab.below hb, h.pos⟩

/-- What a step makes of both. -/
def Prt (w w' : World) (B' : Nat) (bs : List Nat) (R g1 g2 n : Nat) : Prop := ∃ bs' t' r', Pr w' B' bs' t' R g1 g2 n r' ∧ Tn (bs ++ [R, g1, g2]) w w' ∧ ∀ b ∈ bs', b ∈ bs ∨ w.heap.size ≤ b

theorem Prt.same (h : Pr w B bs t R g1 g2 n r) (hb : Below w.heap.size w w') : Prt w w' B bs R g1 g2 n := ⟨bs, t, r, h.below hb, Tn.of_below hb _, fun b hb => .inl hb⟩

/-- The document's stays, where the table turned. -/
theorem TbT.ref {t' : Tb} (h : Tbn w B bs t) (k : IsR w R g1 g2 n r) (ht : TbT w w' B bs t') : IsR w' R g1 g2 n r := by
  obtain ⟨bs', h', t1, hm⟩ := ht
  exact k.tn t1 (apart h k)

/-- The table turned, then the document's. -/
theorem Prt.both {t' : Tb} {r' : Rt} {w1 w2 : World} (h : Pr w B bs t R g1 g2 n r) (ht : TbT w w1 B bs t') (hk : IsR w2 R g1 g2 n r') (hT : Tn [R, g1, g2] w1 w2) (hr : Rel t' r' n) : Prt w w2 B bs R g1 g2 n := by
  have k1 := ht.ref h.tb h.rf
  obtain ⟨bs', h1, t1, hm⟩ := ht
  have h0 := h.tab.lt
  have hpos : ∀ b ∈ bs' ++ [R, g1, g2], 0 < b := by
    intro b hb
    rcases List.mem_append.1 hb with hb | hb
    · rcases hm b hb with hb | hb
      · exact h.pos b (List.mem_append.2 (.inl hb))
      · omega
    · exact h.pos b (List.mem_append.2 (.inr hb))
  have t12 : Tn (bs ++ [R, g1, g2]) w w2 := (t1.mono (fun x hx => List.mem_append.2 (.inl hx))).trans hT (fun x hx => .inl (List.mem_append.2 (.inr hx)))
  exact ⟨bs', t', r', ⟨h1.tn hT (apart' h1 k1), hk, hr, h.tab.tn t12 (fun hm => Nat.lt_irrefl 0 (h.pos 0 hm)), hpos⟩, t12, hm⟩

/-- The document's turned, then the table. -/
theorem Prt.rev {t' : Tb} {r' : Rt} {w1 w2 : World} (h : Pr w B bs t R g1 g2 n r) (hk : IsR w1 R g1 g2 n r') (hT : Tn [R, g1, g2] w w1) (ht : TbT w1 w2 B bs t') (hr : Rel t' r' n) : Prt w w2 B bs R g1 g2 n := by
  have h1' := h.tb.tn hT (apart' h.tb h.rf)
  have k2 := ht.ref h1' hk
  obtain ⟨bs', h1, t1, hm⟩ := ht
  have h0 := h.tab.lt
  have hs := hT.size
  have hpos : ∀ b ∈ bs' ++ [R, g1, g2], 0 < b := by
    intro b hb
    rcases List.mem_append.1 hb with hb | hb
    · rcases hm b hb with hb | hb
      · exact h.pos b (List.mem_append.2 (.inl hb))
      · omega
    · exact h.pos b (List.mem_append.2 (.inr hb))
  have t12 : Tn (bs ++ [R, g1, g2]) w w2 := (hT.mono (fun x hx => List.mem_append.2 (.inr hx))).trans t1 (fun x hx => .inl (List.mem_append.2 (.inl hx)))
  refine ⟨bs', t', r', ⟨h1, k2, hr, h.tab.tn t12 (fun hm => Nat.lt_irrefl 0 (h.pos 0 hm)), hpos⟩, t12, fun b hb => ?_⟩
  rcases hm b hb with h | h
  · exact .inl h
  · exact .inr (by omega)

/-- One page turned in both. -/
theorem Rel.upd {t' : Tb} {i : Nat} {x : Pa} (h : Rel t r n) (hl : r.st.length = n) (hlh : r.hd.length = n) (hi : i < n) (hu : Tb.Upd t t' (i : Int) x) {hd' : List (Int × Int)} (hh : ∀ c y m, x = Pa.live c y m → hd' = r.hd.set i y) (hh2 : (∀ c y m, x ≠ Pa.live c y m) → hd' = r.hd) : Rel t' { r with st := r.st.set i x.st, hd := hd' } n := by
  obtain ⟨u1, u2, u3⟩ := hu
  have hil : i < r.st.length := by omega
  refine ⟨by rw [u1]; exact h.size, by rw [u2]; exact h.miss, fun q => ?_, fun q c y m hq => ?_⟩
  · rw [u3 q]
    by_cases h0 : q < 0
    · rw [if_neg (by omega), ← h.st q]
      simp [Rt.s, h0]
    · obtain ⟨k, rfl⟩ : ∃ k : Nat, q = (k : Int) := ⟨q.toNat, by omega⟩
      rw [Rt.s_nat]
      by_cases hk : k = i
      · subst hk
        simp [List.getD, hil]
      · rw [if_neg (by omega), ← h.st, Rt.s_nat]
        simp [List.getD, List.getElem?_set_ne (Ne.symm hk)]
  · rw [u3 q] at hq
    by_cases hqi : q = (i : Int)
    · rw [if_pos hqi] at hq
      subst hqi
      have e := hh c y m hq
      subst e
      rw [Rt.h_nat]
      have : i < r.hd.length := by omega
      simp [List.getD, this]
    · rw [if_neg hqi] at hq
      have hold := h.hd q c y m hq
      rw [← hold]
      obtain ⟨k, rfl, -⟩ := Tb.live_at hq
      rw [Rt.h_nat, Rt.h_nat]
      have hki : k ≠ i := fun e => hqi (by rw [e])
      by_cases hx : ∃ c y m, x = Pa.live c y m
      · obtain ⟨c', y', m', hx⟩ := hx
        show hd'.getD k (0, 0) = r.hd.getD k (0, 0)
        rw [hh c' y' m' hx]
        simp [List.getD, List.getElem?_set_ne (Ne.symm hki)]
      · show hd'.getD k (0, 0) = r.hd.getD k (0, 0)
        rw [hh2 (fun c y m e => hx ⟨c, y, m, e⟩)]

/-- The page of the table, by the document's state. -/
theorem Rel.live (h : Rel t r n) {q : Int} (hs : r.s q = 1) : ∃ c x m, t.pg q = Pa.live c x m ∧ r.h q = x := by
  rw [h.st q] at hs
  obtain ⟨c, x, m, hp⟩ := Pa.st1.1 hs
  exact ⟨c, x, m, hp, h.hd q c x m hp⟩
theorem Rel.idx (h : Rel t r n) (hl : r.st.length = n) {q : Int} (hs : r.s q ≠ 0) : ∃ i : Nat, q = (i : Int) ∧ i < n := by
  obtain ⟨i, hi, h2⟩ := r.s_in hs
  exact ⟨i, hi, by omega⟩
end

/-- The lowest free page, if there is one. -/
theorem lowest_free (f : Nat → Bool) (n : Nat) : (∀ i, i < n → f i = false) ∨ ∃ p, p < n ∧ f p = true ∧ ∀ i, i < p → f i = false := by
  induction n with
  | zero => exact .inl (fun i hi => by omega)
  | succ n ih =>
    rcases ih with ih | ⟨p, h1, h2, h3⟩
    · by_cases hf : f n = true
      · exact .inr ⟨n, by omega, hf, ih⟩
      · refine .inl (fun i hi => ?_)
        by_cases hin : i = n
        · subst hin; simpa using hf
        · exact ih i (by omega)
    · exact .inr ⟨p, by omega, h2, h3⟩
end Go.Proofs.YtnjafmjkaajbkaaDoor
