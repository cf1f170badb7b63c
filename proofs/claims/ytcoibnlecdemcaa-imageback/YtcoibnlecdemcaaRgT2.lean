/- A range over a function that makes memory of its own between the rounds; what the rounds own is told by a list of blocks (free of any package). -/
import Derived.Test.YtcoibnlecdemcaaItG
namespace Go.Proofs.Ytcoibnlecdemcaa
open Go.RowKit Go.Shelf
set_option linter.unusedVariables false
set_option maxRecDepth 100000

section
variable {P : Program} {n : Nat} {Q : Exit → Act → World → Prop} {a : Act} {w : World}

/-- What a round leaves: what the iterator reads (R), and what lies from B on and isn't the rounds' own (T). -/
structure Rd (B : Nat) (R T : List Nat) (W W' : World) : Prop where
  size : W.heap.size ≤ W'.heap.size
  reads : KpP R W W'
  rest : ∀ b, B ≤ b → b < W.heap.size → b ∉ T → W'.heap[b]? = W.heap[b]?

theorem Rd.refl (B : Nat) (R T : List Nat) (W : World) : Rd B R T W W := ⟨Nat.le_refl _, KpP.refl _ _, fun _ _ _ _ => rfl⟩
theorem Rd.t {B : Nat} {R T : List Nat} {W W' W2 : World} (h : Rd B R T W W') (k : Rd B R T W' W2) : Rd B R T W W2 :=
  ⟨Nat.le_trans h.size k.size, h.reads.t k.reads, fun b h1 h2 h3 => (k.rest b h1 (Nat.lt_of_lt_of_le h2 h.size) h3).trans (h.rest b h1 h2 h3)⟩

/-- An iterator whose rounds never stop it: it makes memory of its own between them. J tells what the rounds have, and in which blocks; blk: the blocks that an element is handed on with. -/
def SeqT {α : Type} (n : Nat) (P : Program) (g : Nat) (lb : Array Value) (encs : α → Array Value) (R : List Nat) (blk : α → List Nat) (Dt : α → World → Prop) (Sp S : List α → Prop) (w : World) : Prop :=
  ∀ (l : Nat) (J : List α → List Nat → World → Prop) (W : World), Below w.heap.size w W →
    (∀ pre T A A', J pre T A → Below W.heap.size A A' → KpP T A A' → J pre T A') →
    (∀ pre T A, J pre T A → ∀ b ∈ T, W.heap.size ≤ b ∧ ∃ o : Obj, A.heap[b]? = some o ∧ o.isCells = true) →
    (∀ pre x T W1, J pre T W1 → W.heap.size ≤ W1.heap.size → Sp (pre ++ [x]) → Dt x W1 → (∀ b ∈ blk x, W.heap.size ≤ b ∧ b < W1.heap.size ∧ b ∉ T) → YieldAt Fence.wide (n - 1) P l (encs x) W1 fun e W' =>
      e = .returned (.bool true) ∧ Rd W.heap.size R T W1 W' ∧ ∃ T', J (pre ++ [x]) T' W' ∧ ∀ b ∈ T', b ∈ T ∨ b ∈ blk x ∨ W1.heap.size ≤ b) →
    J [] [] W →
    CallsIn Fence.wide n P g (#[.func (.yield l) #[] #[]] ++ lb) W fun e W' => (∃ v, e = .returned v) ∧ ∃ xs T, S xs ∧ J xs T W'

/-- What is asked at the end of a round's body. -/
def postT (R : World → Prop) : Exit → Act → World → Prop
  | .normal, _, W => R W
  | _, _, _ => False

theorem wpIn_rangeT {α : Type} {g : Operand} {ps : Array Tmp} {assign body : Code}
    {gf : Nat} {lb : Array Value} (hg : a.eval g = .func (.func gf) #[] lb) (eg : ∀ args w, (callFunc gf args).run P w = .ok (.enter gf args) w)
    {encs : α → Array Value} {R : List Nat} {blk : α → List Nat} {Dt : α → World → Prop} {Sp S : List α → Prop} {w0 : World} (hseq : SeqT 8 P gf lb encs R blk Dt Sp S w0)
    (hb0 : Below w0.heap.size w0 w) (hps : ∀ x, (encs x).size = ps.size) (hR : ∀ b ∈ R, b < w.heap.size)
    (hDt : ∀ x W W', Dt x W → KpP (blk x) W W' → Dt x W')
    (I : List α → List Nat → World → Prop)
    (hI : ∀ pre T A A', I pre T A → Below w.heap.size A A' → KpP T A A' → I pre T A')
    (hT : ∀ pre T A, I pre T A → ∀ b ∈ T, w.heap.size + 2 ≤ b ∧ ∃ o : Obj, A.heap[b]? = some o ∧ o.isCells = true)
    (h0 : I [] [] w) (Ax : α → List Nat → Act → World → Prop)
    (hAx : ∀ x T a' W W', Ax x T a' W → (∀ b, b ≠ w.heap.size + 1 → W'.heap[b]? = W.heap[b]?) → Ax x T a' W')
    (hassign : ∀ (l : Nat) (pre : List α) (x : α) (T : List Nat) (W : World) (K : Act → World → Prop), I pre T W → w.heap.size + 2 ≤ W.heap.size → (∀ a' W', Rd w.heap.size R T W W' → I pre T W' → Ax x T a' W' → K a' W') →
      assign.wpIn (Fence.wide.inRound l) 7 P (Exit.then K (fun _ _ _ => False)) { tmps := (ps.zip (encs x)).foldl (fun t (p, v) => t.setIfInBounds p v) a.tmps, defers := [] } W)
    (hbody : ∀ (l : Nat) (pre : List α) (x : α) (T : List Nat) (a' : Act) (W : World), I pre T W → w.heap.size + 2 ≤ W.heap.size → Ax x T a' W → Sp (pre ++ [x]) → Dt x W → (∀ b ∈ blk x, w.heap.size + 2 ≤ b ∧ b < W.heap.size ∧ b ∉ T) →
      body.wpIn (Fence.wide.inRound l) 7 P (postT fun W' => Rd w.heap.size R T W W' ∧ ∃ T', I (pre ++ [x]) T' W' ∧ ∀ b ∈ T', b ∈ T ∨ b ∈ blk x ∨ W.heap.size ≤ b) a' W)
    (hdone : ∀ (D : Nat) (xs : List α) (T : List Nat) (W : World), D = w.heap.size → S xs → I xs T W → w.heap.size + 2 ≤ W.heap.size → W.heap[D]? = some (.deferred (some [])) → Q .normal { a with defers := { target := .collected D, args := #[] } :: a.defers } W) :
    (Code.rangeFunc g ps assign body).wpIn Fence.wide 9 P Q a w := by
  refine wpIn_rangeFunc ?_
  intro fn hfn
  rw [show Fence.wide.round = none from rfl]
  obtain ⟨rec, hrec⟩ : ∃ rec : LoopState → Option Code → Loop, rec = fun st pe => { state := st, pending := pe, fn, tmps := a.tmps, params := ps, assign, body, defers := w.heap.size } := ⟨_, rfl⟩
  obtain ⟨W1, hW1⟩ : ∃ W1, (w.alloc (.deferred (some []))).alloc (.loop (rec .ready none)) = W1 := ⟨_, rfl⟩
  have hL1 : W1.heap[w.heap.size + 1]? = some (.loop (rec .ready none)) := by
    rw [← hW1]; have := World.alloc_heap_new (w.alloc (.deferred (some []))) (.loop (rec .ready none)); rwa [World.size_alloc] at this
  have hK1 : W1.heap[w.heap.size]? = some (.deferred (some [])) := by
    rw [← hW1]; exact (Below.heap_alloc _ _ _ (by simp)).trans (World.alloc_heap_new w _)
  have hz1 : W1.heap.size = w.heap.size + 2 := by rw [← hW1]; simp
  have hbw : Below w.heap.size w W1 := by
    rw [← hW1]; exact ((Below.refl _ w).alloc (Nat.le_refl _) _).alloc (by simp) _
  have hI1 : I [] [] W1 := hI _ _ _ _ h0 hbw (fun _ h => by cases h)
  have hb1 : Below w0.heap.size w0 W1 := hb0.trans (hbw.mono hb0.size)
  refine ⟨w.heap.size + 1, [{ target := .collected w.heap.size, args := #[] }], W1, { target := .fn (.func gf) lb, args := #[.func (.yield (w.heap.size + 1)) #[] #[]] }, W1, gf,
    #[.func (.yield (w.heap.size + 1)) #[] #[]] ++ lb, W1, ?_, ?_, ?_, ?_, fun _ => by omega, ?_⟩
  · rw [← hW1, hrec]; exact run_enterLoop_outer _ _ _ _ _
  · simp only [resolve, hg]
    simp [go_sem]
  · intro f' hf'; trivial
  · simp [invoke, go_sem, eg]
  · have put : ∀ (A : World) (o : Obj), Below w.heap.size A (A.putObj (w.heap.size + 1) o) := fun A o => ⟨rfl, rfl, rfl, by simp, fun k hk => World.putObj_heap_other (by omega)⟩
    have hIp : ∀ pre T A o, I pre T A → I pre T (A.putObj (w.heap.size + 1) o) := fun pre T A o hi =>
      hI _ _ _ _ hi (put A o) (fun b hb => World.putObj_heap_other (by have := (hT _ _ _ hi b hb).1; omega))
    have rdp : ∀ (T : List Nat) (A : World) (o : Obj), Rd (w.heap.size + 2) R T A (A.putObj (w.heap.size + 1) o) := fun T A o =>
      ⟨by simp, fun b hb => World.putObj_heap_other (by have := hR b hb; omega), fun b hb _ _ => World.putObj_heap_other (by omega)⟩
    have rdw : ∀ {T : List Nat} {A A' : World}, Rd w.heap.size R T A A' → Rd (w.heap.size + 2) R T A A' := fun h => ⟨h.size, h.reads, fun b h1 h2 h3 => h.rest b (by omega) h2 h3⟩
    refine (hseq (w.heap.size + 1)
      (fun pre T W => I pre T W ∧ w.heap.size + 2 ≤ W.heap.size ∧ W.heap[w.heap.size + 1]? = some (.loop (rec .ready none)) ∧ W.heap[w.heap.size]? = some (.deferred (some [])))
      W1 hb1 ?_ ?_ ?_ ⟨hI1, Nat.le_of_eq hz1.symm, hL1, hK1⟩).mono ?_
    · rintro pre T A A' ⟨hi, hs, hl, hk⟩ hb hkp
      rw [hz1] at hb
      exact ⟨hI _ _ _ _ hi (hb.mono (by omega)) hkp, Nat.le_trans hs hb.size, (hb.block _ (by omega)).trans hl, (hb.block _ (by omega)).trans hk⟩
    · rintro pre T A ⟨hi, -⟩ b hb
      rw [hz1]
      exact hT _ _ _ hi b hb
    · rintro pre x T W ⟨hi, hs, hl, hk⟩ - hsp hdt hbk
      rw [hz1] at hbk ⊢
      have hy := run_yield (P := P) (args := encs x) hl (by rw [hrec]; exact hps x)
      rw [hrec] at hy
      refine ⟨fn, _, assign, body, hy, roundIn_of_wpIn hfn (hassign _ pre x T W _ hi hs ?_)⟩
      clear hy
      intro a' Wa hrd hia hax
      have nT : ∀ {A : World}, I pre T A → w.heap.size ∉ T ∧ w.heap.size + 1 ∉ T := fun h => ⟨fun hm => by have := (hT _ _ _ h _ hm).1; omega, fun hm => by have := (hT _ _ _ h _ hm).1; omega⟩
      have hla := (hrd.rest (w.heap.size + 1) (by omega) (by omega) (nT hi).2).trans hl
      have hka := (hrd.rest w.heap.size (by omega) (by omega) (nT hi).1).trans hk
      have hlt : w.heap.size + 1 < Wa.heap.size := (Array.getElem?_eq_some_iff.1 hla).1
      refine ⟨_, run_beginRound hla (by rw [hrec]), ?_⟩
      obtain ⟨W2, hW2⟩ : ∃ W2, Wa.putObj (w.heap.size + 1) (.loop { rec .ready none with state := .busy }) = W2 := ⟨_, rfl⟩
      rw [hW2]
      have hi2 : I pre T W2 := by rw [← hW2]; exact hIp _ _ _ _ hia
      have hz2 : W2.heap.size = Wa.heap.size := by rw [← hW2]; simp
      have hl2 : W2.heap[w.heap.size + 1]? = some (.loop { rec .ready none with state := .busy }) := by rw [← hW2]; exact World.putObj_heap_same hlt
      have ho2 : ∀ b, b ≠ w.heap.size + 1 → W2.heap[b]? = Wa.heap[b]? := fun b hb => by rw [← hW2]; exact World.putObj_heap_other hb
      have hk2 : W2.heap[w.heap.size]? = some (.deferred (some [])) := (ho2 _ (by omega)).trans hka
      have rd2 : Rd (w.heap.size + 2) R T W W2 := (rdw hrd).t (by rw [← hW2]; exact rdp T Wa _)
      have hsz := hrd.size
      have hdt2 : Dt x W2 := hDt _ _ _ hdt (fun b hb => rd2.rest b (hbk b hb).1 (hbk b hb).2.1 (hbk b hb).2.2)
      refine wpIn_mono (hbody _ pre x T a' W2 hi2 (by omega) (hAx _ _ _ _ _ hax ho2) hsp hdt2 (fun b hb => ⟨(hbk b hb).1, by have := (hbk b hb).2.1; omega, (hbk b hb).2.2⟩)) ?_
      rintro e a3 W3 hp
      cases e with
      | normal =>
        obtain ⟨hrd3, T', hi3, hT'⟩ := hp
        have hl3 := (hrd3.rest (w.heap.size + 1) (by omega) (by omega) (nT hi).2).trans hl2
        have hk3 := (hrd3.rest w.heap.size (by omega) (by omega) (nT hi).1).trans hk2
        have hr := run_endRound (P := P) none hl3
        rw [hrec] at hr
        have h3z := hrd3.size
        refine ⟨_, _, hr, rfl, (rd2.t (rdw hrd3)).t (rdp T W3 _), T', ⟨hIp _ _ _ _ hi3, by simp; omega, ?_, (World.putObj_heap_other (by omega)).trans hk3⟩, fun b hb => ?_⟩
        · rw [hrec]
          exact World.putObj_heap_same (Array.getElem?_eq_some_iff.1 hl3).1
        · rcases hT' b hb with h | h | h
          · exact .inl h
          · exact .inr (.inl h)
          · exact .inr (.inr (by omega))
      | ret => exact hp.elim
      | exit id => exact hp.elim
      | goto t => exact hp.elim
      | panic ch => exact hp.elim
      | outgrown => exact hp.elim
    · rintro e W2 ⟨⟨v, rfl⟩, xs, T, hS, hi, hs, hl, hk⟩
      have hr := run_endLoop (P := P) hl (by rw [hrec]; simp)
      rw [hrec] at hr
      exact ⟨none, _, hr, hdone _ xs T _ rfl hS (hIp _ _ _ _ hi) (by simp; omega) ((World.putObj_heap_other (by omega)).trans hk)⟩

/-- The same, where the round's variable is boxed in each round: Af is the activation, told by the box. -/
theorem wpIn_rangeTb {α : Type} {g : Operand} {ps : Array Tmp} {assign body : Code} (Af : Nat → α → Act)
    {gf : Nat} {lb : Array Value} (hg : a.eval g = .func (.func gf) #[] lb) (eg : ∀ args w, (callFunc gf args).run P w = .ok (.enter gf args) w)
    {encs : α → Array Value} {R : List Nat} {blk : α → List Nat} {Dt : α → World → Prop} {Sp S : List α → Prop} {w0 : World} (hseq : SeqT 8 P gf lb encs R blk Dt Sp S w0)
    (hb0 : Below w0.heap.size w0 w) (hps : ∀ x, (encs x).size = ps.size) (hR : ∀ b ∈ R, b < w.heap.size)
    (hDt : ∀ x W W', Dt x W → KpP (blk x) W W' → Dt x W')
    (I : List α → List Nat → World → Prop)
    (hI : ∀ pre T A A', I pre T A → Below w.heap.size A A' → KpP T A A' → I pre T A')
    (hT : ∀ pre T A, I pre T A → ∀ b ∈ T, w.heap.size + 2 ≤ b ∧ ∃ o : Obj, A.heap[b]? = some o ∧ o.isCells = true)
    (h0 : I [] [] w) (Bx : α → List Nat → Nat → World → Prop)
    (hBx : ∀ x T bx W W', Bx x T bx W → (∀ b, b ≠ w.heap.size + 1 → W'.heap[b]? = W.heap[b]?) → Bx x T bx W')
    (hassign : ∀ (l : Nat) (pre : List α) (x : α) (T : List Nat) (W : World) (K : Act → World → Prop), I pre T W → w.heap.size + 2 ≤ W.heap.size → (∀ bx W', Rd w.heap.size R T W W' → I pre T W' → Bx x T bx W' → K (Af bx x) W') →
      assign.wpIn (Fence.wide.inRound l) 7 P (Exit.then K (fun _ _ _ => False)) { tmps := (ps.zip (encs x)).foldl (fun t (p, v) => t.setIfInBounds p v) a.tmps, defers := [] } W)
    (hbody : ∀ (l : Nat) (pre : List α) (x : α) (T : List Nat) (bx : Nat) (W : World), I pre T W → w.heap.size + 2 ≤ W.heap.size → Bx x T bx W → Sp (pre ++ [x]) → Dt x W → (∀ b ∈ blk x, w.heap.size + 2 ≤ b ∧ b < W.heap.size ∧ b ∉ T) →
      body.wpIn (Fence.wide.inRound l) 7 P (postT fun W' => Rd w.heap.size R T W W' ∧ ∃ T', I (pre ++ [x]) T' W' ∧ ∀ b ∈ T', b ∈ T ∨ b ∈ blk x ∨ W.heap.size ≤ b) (Af bx x) W)
    (hdone : ∀ (D : Nat) (xs : List α) (T : List Nat) (W : World), D = w.heap.size → S xs → I xs T W → w.heap.size + 2 ≤ W.heap.size → W.heap[D]? = some (.deferred (some [])) → Q .normal { a with defers := { target := .collected D, args := #[] } :: a.defers } W) :
    (Code.rangeFunc g ps assign body).wpIn Fence.wide 9 P Q a w :=
  wpIn_rangeT hg eg hseq hb0 hps hR hDt I hI hT h0 (fun x T a' W => ∃ bx, Bx x T bx W ∧ a' = Af bx x)
    (fun x T a' W W' h hk => by
      obtain ⟨bx, h1, h2⟩ := h
      exact ⟨bx, hBx _ _ _ _ _ h1 hk, h2⟩)
    (fun l pre x T W K hi hs hK => hassign l pre x T W K hi hs (fun bx W' h1 h2 h3 => hK _ W' h1 h2 ⟨bx, h3, rfl⟩))
    (fun l pre x T a' W hi hs hx => by
      obtain ⟨bx, h, rfl⟩ := hx
      exact hbody l pre x T bx W hi hs h)
    hdone
end
end Go.Proofs.Ytcoibnlecdemcaa
