/- Ranges over functions: what a round leaves as it was; boxes between the rounds; a region that only reads, in a round (free of any package). -/
import Derived.Test.YtcoibnlecdemcaaRgM
import Derived.OrdersIn
import Derived.BigQuiet
import Derived.RangeFuncNested
import Derived.RangeFuncBound
import Derived.RangeFuncCalls
import Derived.RangeFuncLeaves
import Derived.RangeFuncBox
import Derived.RangeFuncMany
import Derived.Shelf.Abstract
import Derived.Shelf.RegionOpen
import Derived.OwnWalkIn
import Derived.TacticsIn
import Derived.TacticsInMore
import Derived.LoopNIn
import Derived.LoopIn
namespace Go.Proofs.Ytcoibnlecdemcaa
open Go.RowKit Go.Shelf
attribute [local go_sem] Oper.semAt_some
set_option linter.unusedVariables false
set_option maxRecDepth 100000

/-- What a round leaves as it was. -/
def KpP (S : List Nat) (W W' : World) : Prop := ∀ k ∈ S, W'.heap[k]? = W.heap[k]?

theorem KpP.refl (S : List Nat) (W : World) : KpP S W W := fun _ _ => rfl
theorem KpP.t {S : List Nat} {A B C : World} (h : KpP S A B) (k : KpP S B C) : KpP S A C := fun j hj => (k j hj).trans (h j hj)
theorem KpP.mono {S T : List Nat} {A B : World} (h : KpP T A B) (hS : ∀ x ∈ S, x ∈ T) : KpP S A B := fun j hj => h j (hS j hj)
theorem KpP.alloc {S : List Nat} {W W' : World} (h : KpP S W W') (hS : ∀ x ∈ S, x < W'.heap.size) (o : Obj) : KpP S W (W'.alloc o) := fun j hj => (Below.heap_alloc _ _ _ (hS j hj)).trans (h j hj)
theorem KpP.lt {S : List Nat} {W W' : World} (h : KpP S W W') (hS : ∀ x ∈ S, x < W.heap.size) : ∀ x ∈ S, x < W'.heap.size := fun x hx => by
  have := h x hx
  rw [Array.getElem?_eq_getElem (hS x hx)] at this
  exact (Array.getElem?_eq_some_iff.1 this).1
theorem KpP.bk {S : List Nat} {W W' : World} {b : Nat} {t : TypeId} {cs : Array Value} (h : KpP S W W') (hk : Bk W b t cs) (hb : b ∈ S) : Bk W' b t cs := (h b hb).trans hk
theorem KpP.of_below {S : List Nat} {W W' : World} {B : Nat} (h : Below B W W') (hS : ∀ x ∈ S, x < B) : KpP S W W' := fun j hj => h.block j (hS j hj)
theorem KpP.of_tn {S T : List Nat} {W W' : World} (h : Tn T W W') (hS : ∀ x ∈ S, x < W.heap.size ∧ x ∉ T) : KpP S W W' := fun j hj => h.block j (hS j hj).1 (hS j hj).2

theorem take_snoc {α : Type} {L : List α} {k : Nat} {x : α} (h : L[k]? = some x) : L.take (k + 1) = L.take k ++ [x] := by
  rw [List.take_add_one, h]
  rfl

theorem boxed_from {W W' : World} {row : Option Nat} {B m : Nat} {t : TypeId} {v : Value} (h : Boxed W B t v) (hg : W.grownBy W' row) (hr : ∀ r, row = some r → m ≤ r ∧ ∃ o : Obj, W.heap[r]? = some o ∧ o.isCells = false) : Boxed W' B t v :=
  h.kept hg fun e' => by
    obtain ⟨_, o, ho, hc⟩ := hr B e'.symm
    rw [show W.heap[B]? = _ from h] at ho
    cases ho
    cases hc

theorem keeps_tn {T : List Nat} {W W' : World} (h : Tn T W W') (hc : ∀ b ∈ T, ∃ o : Obj, W.heap[b]? = some o ∧ o.isCells = true) : KeepsOthers W W' :=
  ⟨h.size, fun k o hk ho => by
    refine (h.block k (Array.getElem?_eq_some_iff.1 hk).1 (fun hm => ?_)).trans hk
    obtain ⟨o', ho', hc'⟩ := hc k hm
    rw [hk] at ho'
    cases ho'
    rw [ho] at hc'
    cases hc'⟩

theorem bk_from {W W' : World} {row : Option Nat} {b m : Nat} {t : TypeId} {cs : Array Value} (h : Bk W b t cs) (hg : W.grownBy W' row) (hr : ∀ r, row = some r → m ≤ r ∧ ∃ o : Obj, W.heap[r]? = some o ∧ o.isCells = false) : Bk W' b t cs := by
  refine (hg.block b h.lt (fun e => ?_)).trans h
  obtain ⟨_, o, ho, hc⟩ := hr b e.symm
  rw [show W.heap[b]? = _ from h] at ho
  cases ho
  cases hc

theorem res_true {W W' : World} {b D : Nat} {u : Value} (h1 : Boxed W b 4 u) (hW' : W'.heap = (W.setCell ⟨b, 0, none⟩ (.bool true)).heap) (hD : D ≠ b) : (W'.putObj D (.deferred none)).cell? ⟨b, 0, none⟩ = some (.bool true) := by
  have h2 : Bk (W.setCell ⟨b, 0, none⟩ (.bool true)) b 4 #[.bool true] := Bk.set (show Bk W b _ _ from h1) 0 (.bool true)
  have h3 : Bk W' b 4 #[.bool true] := by unfold Bk; rw [hW']; exact h2
  have h4 : Bk (W'.putObj D (.deferred none)) b 4 #[.bool true] := (World.putObj_heap_other (fun e => hD e.symm)).trans h3
  exact h4.cell 0

theorem res_below {w W W' : World} {b D : Nat} (h : Below w.heap.size w W) (hb : w.heap.size ≤ b) (hD : w.heap.size ≤ D) (h1 : W'.os = W.os) (h2 : W'.tape = W.tape) (h3 : W'.output = W.output) (hW' : W'.heap = (W.setCell ⟨b, 0, none⟩ (.bool true)).heap) : Below w.heap.size w (W'.putObj D (.deferred none)) := by
  have hs : (W.setCell ⟨b, 0, none⟩ (.bool true)).heap.size = W.heap.size := by simp [World.setCell]
  refine h.trans ⟨h1, h2, h3, ?_, fun k hk => ?_⟩
  · simp [hW', hs]
  · refine (World.putObj_heap_other (by omega)).trans ?_
    rw [hW']
    exact Below.heap_setCell _ _ _ _ (by simp; omega)

/-- A range over a function whose variable is boxed in each round: A is the activation, told by the box. -/
theorem range_boxed {F : Fence} {n : Nat} {P : Program} {α : Type} {g : Operand} {ps : Array Tmp} {assign body : Code} {Q : Exit → Act → World → Prop} {a : Act} {w : World} (A : Nat → α → Act)
    (hro : F.round = none) (h1 : 1 ≤ n) {gf : Nat} {lb : Array Value} (hg : a.eval g = .func (.func gf) #[] lb) (hFg : F.fn gf) (eg : ∀ args w, (callFunc gf args).run P w = .ok (.enter gf args) w)
    {encs : α → Array Value} {Kp : World → World → Prop} {S Sp : List α → Prop} {N : Nat} {w0 : World} (hseq : SeqStopsK F (n - 1) P gf lb encs Kp S Sp N w0)
    (hKt : ∀ {A B C : World}, Kp A B → Kp B C → Kp A C) (hKb : ∀ (W : World) (l : Nat) (o o' : Obj), w.heap.size ≤ l → W.heap[l]? = some o → o.isCells = false → o.isWalk = false → Kp W (W.putObj l o')) (hb0 : Below w0.heap.size w0 w) (hps : ∀ x, (encs x).size = ps.size)
    (I : List α → World → Prop) (Ix : Code → List α → World → Prop) (hI : OwnFrom w.heap.size I) (hIx : ∀ c, OwnFrom w.heap.size (Ix c)) (h0 : I [] w) (Bx : α → Nat → World → Prop) (hBx : ∀ x bx, OwnFrom w.heap.size (fun (_ : Unit) W => Bx x bx W))
    (hassign : ∀ (l : Nat) (pre : List α) (x : α) (W : World) (K : Act → World → Prop), I pre W → (∀ bx W', KeepsFrom w.heap.size W W' → Kp W W' → I pre W' → Bx x bx W' → K (A bx x) W') →
      assign.wpIn (F.inRound l) (n - 1 - 1) P (Exit.then K (fun _ _ _ => False)) { tmps := (ps.zip (encs x)).foldl (fun t (p, v) => t.setIfInBounds p v) a.tmps, defers := [] } W)
    (hbody : ∀ (l : Nat) (pre : List α) (x : α) (bx : Nat) (W : World), w.heap.size ≤ l → I pre W → Bx x bx W → pre.length < N → body.wpIn (F.inRound l) (n - 1 - 1) P (ownPostG w.heap.size Kp I Ix (pre ++ [x]) W) (A bx x) W)
    (hdone : ∀ (D : Nat) (xs : List α) (W : World), w.heap.size ≤ D → S xs → I xs W → W.heap[D]? = some (.deferred (some [])) → Q .normal { a with defers := { target := .collected D, args := #[] } :: a.defers } W)
    (hstop : ∀ (D : Nat) (c : Code) (pre : List α) (W : World), w.heap.size ≤ D → Sp pre → Ix c pre W → W.heap[D]? = some (.deferred (some [])) → c.wpIn F n P Q { a with defers := { target := .collected D, args := #[] } :: a.defers } W) :
    (Code.rangeFunc g ps assign body).wpIn F n P Q a w :=
  wpIn_rangeFunc_ownH hro h1 hg hFg eg hseq (fun h k => hKt h k) hKb hb0 hps I Ix hI hIx h0 (fun x a' W => ∃ bx, Bx x bx W ∧ a' = A bx x)
    (fun x a' s W W' row hs hg hr => by
      obtain ⟨bx, h, e⟩ := hs
      exact ⟨bx, hBx x bx s W W' row h hg hr, e⟩)
    (fun l pre x W K hi hK => hassign l pre x W K hi (fun bx W' k1 k2 k3 k4 => hK _ W' k1 k2 k3 ⟨bx, k4, rfl⟩))
    (fun l pre x a' W hl _ hi hx hp => by
      obtain ⟨bx, h, rfl⟩ := hx
      exact hbody l pre x bx W hl hi h hp)
    hdone hstop

section
variable {P : Program} {ops : Array Oper} {Q : Exit → Act → World → Prop} {md : Region.Mode} {S : World → Prop} {l n m : Nat}

theorem wpIn_of_wp {o : Oper} {a : Act} {w : World} {K : Act → World → Prop} (ho : ∀ c, o.op ≠ .defer c) (hh : o.wp P a w K Q) : o.wpIn (Fence.wide.inRound l) n P a w K Q := by
  unfold Oper.wpIn
  refine ⟨fun f _ => trivial, ?_⟩
  rw [Oper.semAt_eq _ _ _ ho]
  unfold Oper.wp at hh
  generalize (execOp a.eval o).run P w = r at *
  cases r with
  | ok nx w' =>
    cases nx <;> simp only [Oper.upon] at hh
    case value v => exact hh
    case skip => exact hh
    case defer d => exact hh
    case enter f args => exact ⟨fun h => (by cases h), CallsIn.inRound l (callsIn_wide.2 hh)⟩
    case row row args => exact ⟨fun h => (by cases h), fun c cs _ => let ⟨v, w', r, s⟩ := hh c cs; ⟨v, w', r, stepsIn_wide.2 s⟩⟩
  | halt x w' => cases x <;> simp only [Oper.upon] at hh <;> exact hh

theorem wpOpIn_of_op {i : Nat} {a : Act} {w : World} {K K' : Act → World → Prop} (ho : ∀ (i : Nat) (o : Oper), ops[i]? = some o → ∀ c, o.op ≠ .defer c) (hq : ¬ LetsOut Q) (h : ∀ a w, K a w → K' a w) (hh : wpOp P ops Q i K a w) :
    wpOpIn (Fence.wide.inRound l) n P ops Q i K' a w := by
  unfold wpOp at hh
  unfold wpOpIn
  split
  · rename_i ho'
    simp only [ho'] at hh
    exact h _ _ hh
  · rename_i o ho'
    simp only [ho'] at hh
    split
    · rename_i hw
      simp only [hw, if_true] at hh
      rcases hh with hh | hh
      · exact wpIn_of_wp (ho i o ho') (Oper.wp_mono h hh)
      · exact absurd hh.2 hq
    · rename_i hw
      simp only [hw] at hh
      exact ⟨fun f _ => trivial, h _ _ hh⟩

theorem wpAnyIn_of_any (ho : ∀ (i : Nat) (o : Oper), ops[i]? = some o → ∀ c, o.op ≠ .defer c) (hq : ¬ LetsOut Q) :
    ∀ (f : Nat) (listed : Array Bool) (a : Act) (w : World), wpAny P md ops Q f listed a w → wpAnyIn (Fence.wide.inRound l) n P md ops Q f listed a w
  | 0, listed, a, w, h => h
  | f + 1, listed, a, w, h => ⟨h.1, fun i hi => wpOpIn_of_op ho hq (fun a' w' h' => wpAnyIn_of_any ho hq f _ a' w' h') (h.2 i hi)⟩

end

/-- No deferring in a region. -/
def noDefer (l : List Oper) : Bool := l.all fun o => match o.op with | .defer _ => false | _ => true

theorem noDefer_out {ops : List Oper} (h : noDefer ops = true) : ∀ (i : Nat) (o : Oper), ops.toArray[i]? = some o → ∀ c, o.op ≠ .defer c := by
  intro i o ho c hc
  have hm : o ∈ ops := by
    have : ops[i]? = some o := by simpa using ho
    exact List.mem_of_getElem? this
  have := List.all_eq_true.1 h o hm
  rw [hc] at this
  cases this

/-- In a round: a region that only reads. -/
theorem wpIn_region_quiet_round {P : Program} {l n id : Nat} {Q : Exit → Act → World → Prop} {a : Act} {w : World} {os : List Oper} (hm : P.follows .mixedOrders = true) (hd : noDefer os = true) (hq : ¬ LetsOut Q) (hB : Region.lexB .any os.toArray = true)
    (h : wpQuiet P os.toArray (fun w' => ∃ n, w' = w.drewN n) (fun a' => ∀ w', (∃ n, w' = w.drewN n) → Q .normal a' w') os a) : (Code.region id os.toArray true).wpIn (Fence.wide.inRound l) n P Q a w := by
  simp only [Region.lexB, Bool.and_eq_true] at hB
  refine wpIn_region_any hm (wpAnyIn_of_any (noDefer_out hd) hq _ _ _ _ (wpAny_of_quiet (C := fun w' => ∃ n, w' = w.drewN n) (Q := fun a' => ∀ w', (∃ n, w' = w.drewN n) → Q .normal a' w') (fun _ w' hw' h => h w' hw') _ _ _ _ ⟨1, rfl⟩ ?_))
  have := wpAnyQ_lex (C := fun w' => ∃ n, w' = w.drewN n) (md := .any) hB.1 os 0 (Array.replicate os.toArray.size false) a (by simp) (by simpa using hB.2) h
  simpa using this

end Go.Proofs.Ytcoibnlecdemcaa
