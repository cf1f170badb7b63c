/- Minus: the code's. -/
import Derived.Test.YtgppnbcneknpdaaKyUni
import Derived.Maps.AppendAt
namespace Go.Proofs.Ytgppnbcneknpdaa
open Go.RowKit
set_option linter.unusedVariables false
set_option maxRecDepth 100000

/-- 'append(v, x)', v a row of the call's own, x one range that was just laid; blocks that are not v's stay. -/
theorem appS {ops : Array Oper} {rest : List Oper} {o : Oper} {a : Act} {Q : Exit → Act → World → Prop} (w : World) (hw : Region.wanted o (yielded ops a.tmps) = true) (s x : Operand)
    (ho : o.op = .call { callee := .builtin .append, args := #[s, x], argTypes := #[22, 22] })
    (base : Nat) (v : Value) (l : List Rg) (hs : a.eval s = v) (g : Rg) (B : Nat) (hx : a.eval x = .slice (some ⟨B, 0, none⟩) 1 1) (hB : B = w.heap.size) (hown : OwnR w base v l)
    (hb : (l.length + 1) * 32 ≤ 140737488355328) (hbase : base ≤ w.heap.size)
    (h : ∀ v' w', OwnR w' base v' (l ++ [g]) → Below base w w' → (∀ b8 T cs, Bk w b8 T cs → v.ownBlock ≠ some b8 → Bk w' b8 T cs ∧ v'.ownBlock ≠ some b8) → wpList Try.prog ops Q rest (a.put o.dst v') w') : wpList Try.prog ops Q (o :: rest) a (w.alloc (.cells #[.string g.lo, .string g.hi] 24)) := by
  subst hB
  obtain ⟨i0, hi0, hz0, hz1, hz2⟩ := rg_info
  have hbA : Below base w (w.alloc (.cells #[.string g.lo, .string g.hi] 24)) := (Below.refl _ _).alloc hbase _
  have hoA : OwnR (w.alloc (.cells #[.string g.lo, .string g.hi] 24)) base v l := hown.below ((Below.refl _ _).alloc (Nat.le_refl _) _) (Nat.le_refl _)
  obtain ⟨v', w', hr, h2, h3, _, h5⟩ := run_append_own_at (P := Try.prog) (w.alloc (.cells #[.string g.lo, .string g.hi] 24)) base 22 o.type 24 i0 _ 2 32 Try.underlying22 hi0 hz0 hz1 hz2 rfl (by decide) v l.length (flatR l) hoA ⟨w.heap.size, 0, none⟩ 1 1 (flatR [g]) rfl ((rgs_one w g).news _ rfl) (flatR_one _) (by unfold maxLen; omega) (by omega) (by simp; omega)
  refine BigFrame.wpList_want hw fun _ hK => ?_
  unfold Oper.wp execOp
  simp only [ho, resolve, invoke, builtin, Sem.run_bind, Sem.run_pure, Result.andThen_ok, List.map_toArray, List.map_cons, List.map_nil, hs, hx, hr]
  refine hK _ _ (h v' w' ?_ ?_ ?_)
  · unfold OwnR
    rw [flatR_append, List.length_append]
    exact h2
  · exact hbA.grown h3 (by simp; omega) (fun k hk => (World.ownsRow.lt hoA k hk).1)
  · intro b8 T cs hk8 hne
    have hlt := hk8.lt
    refine ⟨?_, ?_⟩
    · have hA : Bk (w.alloc (.cells #[.string g.lo, .string g.hi] 24)) b8 T cs := hk8.alloc _
      exact (h3.block b8 hA.lt (fun e => hne e.symm)).trans hA
    · rcases h5 with e | e
      · rw [e]; exact hne
      · rw [e]
        intro e2
        have := Option.some.inj e2
        simp at this
        omega

/-- What a row of ranges leaves outside. -/
def Ky.outs (whole : List Rg) (o : Rg) : List Rg := whole.map fun x => Ky.meet [x, o]
def Ky.left (whole os : List Rg) : List Rg := os.flatMap (Ky.outs whole)

theorem Ky.uni_len : ∀ (l out : List Rg), (l.foldl Ky.step out).length ≤ out.length + l.length
  | [], out => by simp
  | x :: t, out => by
    have := Ky.uni_len t (Ky.step out x)
    have := Ky.step_len out x
    simp only [List.foldl_cons, List.length_cons]
    omega

theorem Ky.around_len (r : Rg) : (Ky.around r).length ≤ 2 := by
  unfold Ky.around
  rw [List.length_append]
  split <;> split <;> simp

end Go.Proofs.Ytgppnbcneknpdaa
