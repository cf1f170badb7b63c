/- A region that draws its order; what is held is held till its last operations alone. -/
import Derived.Test.YtcoibnlecdemcaaMem
import Derived.OrdersHeld
import Derived.Deep.RegionHeld
import Derived.Laws.BitsLemmas
namespace Go.Proofs.Ytcoibnlecdemcaa
open Go.RowKit
set_option linter.unusedVariables false
set_option maxRecDepth 100000

section
variable {P : Program} {ops : Array Oper} {Q : Exit → Act → World → Prop} {md : Region.Mode} {S : World → Prop} {l n m : Nat}

/-- Whatever order is picked from here on, AND S holds behind each of the first m operations. -/
def wpAnyM (P : Program) (md : Region.Mode) (ops : Array Oper) (Q : Exit → Act → World → Prop) (S : World → Prop) (m : Nat) : Nat → Array Bool → Act → World → Prop
  | 0, listed, a, w => Region.ready md ops listed = [] ∧ Q .normal a w
  | fuel + 1, listed, a, w =>
    (Region.ready md ops listed = [] → Q .normal a w) ∧
    ∀ i ∈ Region.ready md ops listed, wpOp P ops Q i (fun a' w' => (i < m → S w') ∧ wpAnyM P md ops Q S m fuel (listed.setIfInBounds i true) a' w') a w

theorem wpAny_of_mid : ∀ (fuel : Nat) (listed : Array Bool) (a : Act) (w : World), wpAnyM P md ops Q S m fuel listed a w → wpAny P md ops Q fuel listed a w
  | 0, _, _, _, h => h
  | fuel + 1, _, _, _, h => ⟨h.1, fun i hi => wpOp_mono (fun a' w' h' => wpAny_of_mid fuel _ a' w' h'.2) (h.2 i hi)⟩

theorem getD_un {listed : Array Bool} {k : Nat} (h0 : listed.getD k true = false) (h1 : listed.getD k false = true) : False := by
  rcases Nat.lt_or_ge k listed.size with h' | h'
  · simp [h'] at h0 h1; rw [h0] at h1; cases h1
  · simp [Array.getElem?_eq_none h'] at h1

/-- Number i may be taken first, if each who may come ahead of it is one of the first m; ps are some that wait for it. -/
theorem wpAnyM_first {i : Nat} {oi : Oper} {v : Value} {ps : List Nat} (hi : ops[i]? = some oi) (hsel : ∀ (j : Nat) (o : Oper) cs b, ops[j]? = some o → o.op ≠ .select cs b)
    (hQ : ∀ c a w, Q (.panic c) (a.put oi.dst v) w → Q (.panic c) a w)
    (hdep : ∀ p ∈ ps, ∀ op, ops[p]? = some op → ∃ e ∈ op.after, Region.binds md e = true ∧ (e.on = i ∨ e.on ∈ ps)) :
    ∀ (fuel : Nat) (listed : Array Bool) (a : Act) (w : World),
      (∀ p ∈ ps, listed.getD p true = false) →
      (∀ j oj, ops[j]? = some oj → j ≠ i → listed.getD j true = false → (∀ e ∈ oj.after, Region.binds md e = true → e.on ≠ i) → oi.apart ops oj = true) →
      (∀ j oj, ops[j]? = some oj → j ≠ i → listed.getD j true = false → (∀ e ∈ oj.after, Region.binds md e = true → e.on ≠ i ∧ e.on ∉ ps) → j < m) →
      i ∈ Region.ready md ops listed → YieldsIf P ops S oi v a → S w →
      wpAnyM P md ops Q S m fuel (listed.setIfInBounds i true) (a.put oi.dst v) w → wpAnyM P md ops Q S m (fuel + 1) listed a w := by
  intro fuel
  induction fuel with
  | zero =>
    intro listed a w _ _ _ hr hy hS H
    refine ⟨fun h => (by rw [h] at hr; cases hr), fun j hj => ?_⟩
    by_cases hji : j = i
    · subst hji; exact hy.wpOp hi hS ⟨fun _ => hS, H⟩
    · have := ready_mono hj hji
      rw [H.1] at this
      cases this
  | succ fuel ih =>
    intro listed a w hps hfree hearly hr hy hS H
    refine ⟨fun h => (by rw [h] at hr; cases hr), fun j hj => ?_⟩
    by_cases hji : j = i
    · subst hji; exact hy.wpOp hi hS ⟨fun _ => hS, H⟩
    · have h1 := H.2 j (ready_mono hj hji)
      obtain ⟨hjun, oj, hoj, hall⟩ := mem_ready.1 hj
      have hnot : ∀ e ∈ oj.after, Region.binds md e = true → e.on ≠ i := fun e he hb heq => getD_un (mem_ready.1 hr).1 (by rw [← heq]; exact hall e he hb)
      have hnotp : ∀ e ∈ oj.after, Region.binds md e = true → e.on ∉ ps := fun e he hb hm => getD_un (hps _ hm) (hall e he hb)
      have hjp : j ∉ ps := fun hm => by
        obtain ⟨e, he, hb, hx⟩ := hdep j hm oj hoj
        rcases hx with hx | hx
        · exact hnot e he hb hx
        · exact hnotp e he hb hx
      have hjm : j < m := hearly j oj hoj hji hjun (fun e he hb => ⟨hnot e he hb, hnotp e he hb⟩)
      have h2 := wpOp_putIf hoj (hfree j oj hoj hji hjun hnot) (fun cs b => hsel i oi cs b hi) (fun cs b => hsel j oj cs b hoj) hQ hy h1
      have un : ∀ k, (listed.setIfInBounds j true).getD k true = false → listed.getD k true = false := fun k hun => by
        by_cases hjk : j = k
        · subst hjk; exact hjun
        · rw [getD_set_ne true hjk] at hun; exact hun
      have hps' : ∀ p ∈ ps, (listed.setIfInBounds j true).getD p true = false := fun p hp => by
        have hjp' : j ≠ p := fun e => hjp (by rw [e]; exact hp)
        rw [getD_set_ne true hjp']
        exact hps p hp
      refine wpOp_mono (fun a' w' h3 => ⟨fun _ => h3.2.1 hjm, ih (listed.setIfInBounds j true) a' w' hps' (fun k ok hk hki hun hno => hfree k ok hk hki (un k hun) hno) (fun k ok hk hki hun hno => hearly k ok hk hki (un k hun) hno) (ready_mono hr (Ne.symm hji)) h3.1 (h3.2.1 hjm) ?_⟩) h2
      rw [Array.setIfInBounds_comm _ _ hji]
      exact h3.2.2

/-- Who may come ahead of number i is one of the first m. -/
def earlyB (md : Region.Mode) (ops : Array Oper) (listed : Array Bool) (i : Nat) (ps : List Nat) (m : Nat) : Bool :=
  (ps.all fun p => !listed.getD p true && ((ops[p]?).map (·.after.any fun e => Region.binds md e && (e.on == i || ps.contains e.on))).getD true) &&
  (List.range ops.size).all fun j => j == i || listed.getD j true || ((ops[j]?).map (·.after.any fun e => Region.binds md e && (e.on == i || ps.contains e.on))).getD true || decide (j < m)

theorem earlyB_spec {i : Nat} {ps : List Nat} {listed : Array Bool} (h : earlyB md ops listed i ps m = true) (j : Nat) (oj : Oper) (ho : ops[j]? = some oj) (hji : j ≠ i) (hl : listed.getD j true = false) (hn : ∀ e ∈ oj.after, Region.binds md e = true → e.on ≠ i ∧ e.on ∉ ps) : j < m := by
  have hj : j < ops.size := (Array.getElem?_eq_some_iff.1 ho).1
  unfold earlyB at h
  rw [Bool.and_eq_true] at h
  have := List.all_eq_true.1 h.2 j (List.mem_range.2 hj)
  simp only [Bool.or_eq_true, beq_iff_eq, ho, Option.map_some, Option.getD_some, decide_eq_true_eq] at this
  rcases this with ((h1 | h1) | h1) | h1
  · exact absurd h1 hji
  · rw [hl] at h1
    cases h1
  · obtain ⟨e, he, hb⟩ := Array.any_eq_true'.1 h1
    simp only [Bool.and_eq_true, Bool.or_eq_true, beq_iff_eq, List.contains_iff_mem] at hb
    rcases hb.2 with hx | hx
    · exact absurd hx (hn e he hb.1).1
    · exact absurd hx (hn e he hb.1).2
  · exact h1

theorem earlyB_dep {i : Nat} {ps : List Nat} {listed : Array Bool} (h : earlyB md ops listed i ps m = true) : (∀ p ∈ ps, listed.getD p true = false) ∧ ∀ p ∈ ps, ∀ op, ops[p]? = some op → ∃ e ∈ op.after, Region.binds md e = true ∧ (e.on = i ∨ e.on ∈ ps) := by
  unfold earlyB at h
  rw [Bool.and_eq_true] at h
  have hh := fun p hp => List.all_eq_true.1 h.1 p hp
  refine ⟨fun p hp => ?_, fun p hp op ho => ?_⟩
  · have := hh p hp
    simp only [Bool.and_eq_true, Bool.not_eq_true'] at this
    exact this.1
  · have := hh p hp
    simp only [Bool.and_eq_true, ho, Option.map_some, Option.getD_some] at this
    obtain ⟨e, he, hb⟩ := Array.any_eq_true'.1 this.2
    simp only [Bool.and_eq_true, Bool.or_eq_true, beq_iff_eq, List.contains_iff_mem] at hb
    exact ⟨e, he, hb.1, hb.2⟩

theorem wpAnyM_take {i : Nat} {oi : Oper} {v : Value} (ps : List Nat) {fuel : Nat} {listed : Array Bool} {a : Act} {w : World} (hi : ops[i]? = some oi)
    (hs : Region.noSelect ops = true) (hf : Region.free md ops listed i = true) (he : earlyB md ops listed i ps m = true) (hr : (Region.ready md ops listed).contains i = true)
    (hQ : ∀ c a w, Q (.panic c) (a.put oi.dst v) w → Q (.panic c) a w) (hy : YieldsIf P ops S oi v a) (hS : S w)
    (h : wpAnyM P md ops Q S m fuel (listed.setIfInBounds i true) (a.put oi.dst v) w) : wpAnyM P md ops Q S m (fuel + 1) listed a w :=
  wpAnyM_first hi (Region.noSelect_spec hs) hQ (earlyB_dep he).2 fuel listed a w (earlyB_dep he).1 (Region.free_spec hi hf) (earlyB_spec he) (by simpa using hr) hy hS h

def AllReadyM (P : Program) (md : Region.Mode) (ops : Array Oper) (Q : Exit → Act → World → Prop) (S : World → Prop) (m fuel : Nat) (listed : Array Bool) (a : Act) (w : World) (rs : List Nat) : Prop :=
  ∀ i ∈ rs, wpOp P ops Q i (fun a' w' => (i < m → S w') ∧ wpAnyM P md ops Q S m fuel (listed.setIfInBounds i true) a' w') a w

theorem AllReadyM.nil {fuel : Nat} {listed : Array Bool} {a : Act} {w : World} : AllReadyM P md ops Q S m fuel listed a w [] := fun _ h => by cases h

theorem AllReadyM.cons {fuel : Nat} {listed : Array Bool} {a : Act} {w : World} {i : Nat} {o : Oper} {rs : List Nat} (ho : ops[i]? = some o)
    (h : ∀ K' : Act → World → Prop, (∀ a w, ((i < m → S w) ∧ wpAnyM P md ops Q S m fuel (listed.setIfInBounds i true) a w) → K' a w) → if Region.wanted o (yielded ops a.tmps) = true then Oper.wp P o a w K' Q else K' (a.put o.dst undef) w)
    (hs : AllReadyM P md ops Q S m fuel listed a w rs) : AllReadyM P md ops Q S m fuel listed a w (i :: rs) := fun j hj => by
  rcases List.mem_cons.1 hj with rfl | hj
  · exact wpOp_step ho h
  · exact hs j hj

theorem wpAnyM_ready {rs : List Nat} {fuel : Nat} {listed : Array Bool} {a : Act} {w : World} (hr : Region.ready md ops listed = rs) (hne : rs ≠ [])
    (h : AllReadyM P md ops Q S m fuel listed a w rs) : wpAnyM P md ops Q S m (fuel + 1) listed a w := ⟨fun h0 => absurd (hr ▸ h0) hne, hr ▸ h⟩

theorem wpAnyM_done {listed : Array Bool} {a : Act} {w : World} (hr : Region.ready md ops listed = []) (h : Q .normal a w) :
    ∀ fuel, wpAnyM P md ops Q S m fuel listed a w
  | 0 => ⟨hr, h⟩
  | _ + 1 => ⟨fun _ => h, by rw [hr]; simp⟩

theorem wp_region_mid {id : Nat} {a : Act} {w : World} (m : Nat) (hm : P.follows .mixedOrders = true)
    (h : wpAnyM P .any ops Q S m ops.size (Array.replicate ops.size false) a w.drew) : (Code.region id ops true).wp P Q a w :=
  wp_region_any hm (wpAny_of_mid _ _ _ _ h)
end

theorem wrap_id9 {x : Int} (h : -9223372036854775808 ≤ x ∧ x ≤ 9223372036854775807) : IntKind.i64.wrap x = x := by
  rw [IntKind.wrap_i64]
  omega
end Go.Proofs.Ytcoibnlecdemcaa
