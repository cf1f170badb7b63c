/- Appends to a row of ranges of the call's own, in a region that draws its order. -/
import Derived.Test.YtgppnbcneknpdaaKyGa
import Derived.Test.YtgppnbcneknpdaaRgM
namespace Go.Proofs.Ytgppnbcneknpdaa
open Go.RowKit Go.Sort
set_option linter.unusedVariables false
set_option maxRecDepth 100000

theorem step_appR {ops : Array Oper} {o : Oper} {a : Act} {w : World} {K : Act → World → Prop} {Q : Exit → Act → World → Prop} {E : Prop}
    (hg : o.guard = none) (s x : Operand) (t : TypeId) (hop : o.op = Op.call { callee := Callee.builtin Builtin.append, args := #[s, x], argTypes := #[t, t] })
    (v u : Value) (hs : a.eval s = v) (hx : a.eval x = u) {v' : Value} {w' : World} (hr : (Builtin.append_ #[t, t] o.type #[v, u]).run Try.prog w = .ok v' w') (hK : K (a.put o.dst v') w') :
    if Region.wanted o (yielded ops a.tmps) = true then Oper.wp Try.prog o a w K Q else E := by
  have hw : Region.wanted o (yielded ops a.tmps) = true := by simp [Region.wanted, hg]
  rw [if_pos hw]
  unfold Oper.wp
  simp [execOp, hop, resolve, invoke, builtin, hs, hx, hr, Result.andThen]
  exact hK

/-- 'append(v, x...)', v a row of the call's own, x whatever leads to entries. -/
theorem run_appRg (w : World) (base : Nat) (ty : TypeId) (v : Value) (l l2 : List Rg) (p : Option Addr) (m c : Nat) (hm : l2.length = m) (hens : Rgs w p l2) (hnil : p = none → m = 0 ∧ c = 0) (hown : OwnR w base v l) (hb : (l.length + m) * 32 ≤ 140737488355328) (hbase : base ≤ w.heap.size) :
    ∃ v' w', (Builtin.append_ #[22, 22] ty #[v, .slice p m c]).run Try.prog w = .ok v' w' ∧ OwnR w' base v' (l ++ l2) ∧ w.grownBy w' v.ownBlock ∧ (v'.ownBlock = v.ownBlock ∨ v'.ownBlock = some w.heap.size) := by
  obtain ⟨i0, hi0, hz0, hz1, hz2⟩ := rg_info
  cases p with
  | none =>
    obtain ⟨rfl, rfl⟩ := hnil rfl
    have : l2 = [] := List.eq_nil_of_length_eq_zero hm
    subst this
    refine ⟨v, w, run_append_owned_none (P := Try.prog) (w := w) base 22 ty 24 i0 2 Try.underlying22 hi0 v l.length (flatR l) hown, by simpa using hown, ⟨rfl, rfl, rfl, Nat.le_refl _, fun _ _ _ => rfl⟩, .inl rfl⟩
  | some ad =>
    obtain ⟨v', w', hr, h2, h3, h4, h5⟩ := run_append_own_at (P := Try.prog) w base 22 ty 24 i0 _ 2 32 Try.underlying22 hi0 hz0 hz1 hz2 rfl (by decide) v l.length (flatR l) hown ad m c (flatR l2) (by rw [flatR_len, hm]) (hens.news ad rfl) (flatR_one l2) (by unfold maxLen; omega) hb hbase
    refine ⟨v', w', hr, ?_, h3, h5⟩
    unfold OwnR
    rw [flatR_append, List.length_append, hm]
    exact h2

/-- Three appends to a row of the call's own, whatever is made between them. -/
theorem app_oneR {w0 : World} {B0 : Nat} (hB0 : B0 ≤ w0.heap.size) {l l2 : List Rg} {p : Option Addr} {m c : Nat} (hm : l2.length = m) (hens : ∀ W, Below w0.heap.size w0 W → Rgs W p l2) (hnil : p = none → m = 0 ∧ c = 0) (hb : (l.length + m) * 32 ≤ 140737488355328) :
    ∀ W v, Below w0.heap.size w0 W → OwnR W w0.heap.size v l → ∃ v' W', (Builtin.append_ #[22, 22] 22 #[v, .slice p m c]).run Try.prog W = .ok v' W' ∧ OwnR W' w0.heap.size v' (l ++ l2) ∧ Below w0.heap.size w0 W' ∧ (v.ownBlock = none → Below W.heap.size W W') := by
  intro W v hW hv
  obtain ⟨v', W', hr, ho, hg, hk⟩ := run_appRg W w0.heap.size 22 v l l2 p m c hm (hens W hW) hnil hv hb hW.size
  exact ⟨v', W', hr, ho, hW.grown hg hW.size (fun k hk => (World.ownsRow.lt hv k hk).1), fun h0 => (Below.refl _ W).grown hg (Nat.le_refl _) (fun k hk => by rw [h0] at hk; cases hk)⟩

theorem app_entryR {w0 : World} {l : List Rg} {e : Rg} (hb : (l.length + 1) * 32 ≤ 140737488355328) :
    ∀ W v (E : Nat), Below w0.heap.size w0 W → OwnR W w0.heap.size v l → Rgs W (some ⟨E, 0, none⟩) [e] → ∃ v' W', (Builtin.append_ #[22, 22] 22 #[v, .slice (some ⟨E, 0, none⟩) 1 1]).run Try.prog W = .ok v' W' ∧ OwnR W' w0.heap.size v' (l ++ [e]) ∧ Below w0.heap.size w0 W' := by
  intro W v E hW hv hE
  obtain ⟨v', W', hr, ho, hg, hk⟩ := run_appRg W w0.heap.size 22 v l [e] (some ⟨E, 0, none⟩) 1 1 rfl hE (fun h => by cases h) hv hb hW.size
  exact ⟨v', W', hr, ho, hW.grown hg hW.size (fun k hk => (World.ownsRow.lt hv k hk).1)⟩

theorem rg_one (w : World) (e : Rg) : Rgs (w.alloc (.cells #[.string e.lo, .string e.hi] 24)) (some ⟨w.heap.size, 0, none⟩) [e] := by
  intro _
  have hk := Bk.new w 24 #[.string e.lo, .string e.hi]
  refine ⟨w.heap.size, 0, rfl, fun i g hi => ?_⟩
  match i, hi with
  | 0, hi =>
    simp at hi
    subst hi
    exact ⟨hk.cell 0, hk.cell 1⟩
  | n + 1, hi => simp at hi

theorem Rgs.take {w : World} {p : Option Addr} {l : List Rg} (h : Rgs w p l) (n : Nat) : Rgs w p (l.take n) := by
  intro hl
  rw [List.length_take] at hl
  obtain ⟨b, o, rfl, hc⟩ := h (by omega)
  refine ⟨b, o, rfl, fun i g hi => hc i g ?_⟩
  rw [List.getElem?_take] at hi
  split at hi
  · exact hi
  · cases hi

theorem Rgs.drop {w : World} {b o : Nat} {l : List Rg} (h : Rgs w (some ⟨b, o, none⟩) l) (k : Nat) : Rgs w (some ⟨b, o + k * 2, none⟩) (l.drop k) := by
  intro hl
  rw [List.length_drop] at hl
  obtain ⟨b', o', hp, hc⟩ := h (by omega)
  cases hp
  refine ⟨b, o + k * 2, rfl, fun i g hi => ?_⟩
  rw [List.getElem?_drop] at hi
  have := hc _ g hi
  rw [show o + (k + i) * 2 = o + k * 2 + i * 2 by omega] at this
  exact this

end Go.Proofs.Ytgppnbcneknpdaa
