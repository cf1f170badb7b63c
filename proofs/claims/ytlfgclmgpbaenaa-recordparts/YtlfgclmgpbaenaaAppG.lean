import Derived.Test.YtlfgclmgpbaenaaApp
import Derived.Maps.AppendAt
namespace Go.Proofs.Ytlfgclmgpbaenaa
open Go.RowKit
set_option linter.unusedVariables false
set_option maxRecDepth 100000

/-- 'append(v, x...)' as in app8; what is written is told by its block. -/
theorem app8g {ops : Array Oper} {rest : List Oper} {o : Oper} {a : Act} {Q : Exit → Act → World → Prop} (w : World) (hw : Region.wanted o (yielded ops a.tmps) = true) (s x : Operand)
    (ho : o.op = .call { callee := .builtin .append, args := #[s, x], argTypes := #[42, 42] })
    (base : Nat) (v : Value) (n : Nat) (xs : List Int) (hs : a.eval s = v) (hown : Own w base v n xs)
    (q : Option Addr) (m c : Nat) (ys : List Int) (hx : a.eval x = .slice q m c) (hy : Bys w q ys) (hm : ys.length = m) (hq : q = none → m = 0 ∧ c = 0)
    (hb : n + m ≤ 140737488355328) (hbase : base ≤ w.heap.size)
    (h : ∀ v' w', Own w' base v' (n + m) (xs ++ ys) → w.grownBy w' v.ownBlock → (v'.ownBlock = v.ownBlock ∨ v'.ownBlock = some w.heap.size) → wpList Try.prog ops Q rest (a.put o.dst v') w') : wpList Try.prog ops Q (o :: rest) a w := by
  obtain ⟨i0, hi, hz0, hz1, hz2⟩ := info_parts u8info
  cases q with
  | some ad =>
    obtain ⟨v', w', hr, h2, h3, _, h5⟩ := run_append_own_at (P := Try.prog) w base 42 o.type 5 i0 (.int .u8 0) 1 1 Try.underlying42 hi hz0 hz1 hz2 rfl (by decide) v n (xs.map (Value.int .u8)) hown ad m c (ys.map (Value.int .u8)) (by simp [hm]) (hy.cells ad rfl) (ints_oneCell _ _) (by unfold maxLen; omega) (by omega) hbase
    refine BigFrame.wpList_want hw fun _ hK => ?_
    unfold Oper.wp execOp
    simp only [ho, resolve, invoke, builtin, Sem.run_bind, Sem.run_pure, Result.andThen_ok, List.map_toArray, List.map_cons, List.map_nil, hs, hx, hr]
    exact hK _ _ (h v' w' (by simpa [Own] using h2) h3 h5)
  | none =>
    obtain ⟨rfl, rfl⟩ := hq rfl
    obtain rfl : ys = [] := List.eq_nil_of_length_eq_zero hm
    refine BigFrame.wpList_want hw fun K hK => ?_
    have hrun := run_append_owned_none (P := Try.prog) (w := w) base 42 o.type 5 i0 1 Try.underlying42 hi v n (xs.map (Value.int .u8)) hown
    unfold Oper.wp
    simp [execOp, ho, resolve, invoke, builtin, hs, hx, hrun, Result.andThen]
    exact hK _ _ (by simpa using h v w (by simpa using hown) (World.grownBy.refl _ _) (Or.inl rfl))

theorem Own.kept {w w' : World} {base n : Nat} {v : Value} {xs : List Int} {row : Option Nat} (h : Own w base v n xs) (hg : w.grownBy w' row) (hne : v.ownBlock = none ∨ v.ownBlock ≠ row) : Own w' base v n xs := World.ownsRow.kept h hg hne

end Go.Proofs.Ytlfgclmgpbaenaa
