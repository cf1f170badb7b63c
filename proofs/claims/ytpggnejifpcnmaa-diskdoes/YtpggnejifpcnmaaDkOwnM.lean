/- Loops over a row of one's own. -/
import Derived.Test.YtpggnejifpcnmaaDkOpen
namespace Go.Proofs.Ytpggnejifpcnmaa
open Go.RowKit Go.Shelf Go.Maps
set_option linter.unusedVariables false

/-- 'append([]bool(nil), keep...)'. -/
theorem wp_app_bools {w : World} {ops : Array Oper} {rest : List Oper} {o : Oper} {a : Act} {Q : Exit → Act → World → Prop} (hw : Region.wanted o (yielded ops a.tmps) = true) (s x : Operand)
    (ho : o.op = .call { callee := .builtin .append, args := #[s, x], argTypes := #[31, 31] }) (hs : a.eval s = .slice none 0 0) (q : Option Addr) (m c : Nat) (ks : List Bool) (hx : a.eval x = .slice q m c) (hy : Bls w q ks) (hm : ks.length = m) (hq : q = none → m = 0 ∧ c = 0) (hb : m ≤ 140737488355328)
    (h : ∀ p' c' w', Bls w' p' ks → (∀ ad, p' = some ad → w.heap.size ≤ ad.block ∧ ad.block < w'.heap.size) → (p' = none → m = 0 ∧ c' = 0) → m ≤ c' → (0 < m → ∃ g cur, p' = some ⟨g, 0, none⟩ ∧ Bk w' g 4 cur) → Below w.heap.size w w' → wpList Try.prog ops Q rest (a.put o.dst (.slice p' m c')) w') : wpList Try.prog ops Q (o :: rest) a w := by
  obtain ⟨i0, hi, hz0, hz1, hz2⟩ := info_parts boolinfo
  cases q with
  | some ad =>
    refine BigFrame.wpList_want hw fun _ hK => wp_append_own w s x _ ho w.heap.size 4 i0 (.bool false) 1 1 Try.underlying31 hi hz0 hz1 hz2 rfl (by decide) (.slice none 0 0) 0 [] hs (World.ownsRow_nil _ _ _ _) ad m c (ks.map Value.bool) hx (by simp [hm]) (hy.cells ad rfl) (bools_oneCell _) (by unfold maxLen; omega) (by omega) (Nat.le_refl _) fun v' w' h2 h3 _ => ?_
    have hw : w'.ownsRow w.heap.size 4 1 v' m (ks.map Value.bool) := by simpa using h2
    have hb1 : Below w.heap.size w w' := (Below.refl _ _).grown h3 (Nat.le_refl _) (fun k hk => by simp [Value.ownBlock] at hk)
    rcases hw.2 with ⟨hv, hn0⟩ | ⟨g, cap, cur, hv, hbb, hgg, hle, hcm, hcur, htake⟩
    · subst hv
      subst hn0
      obtain rfl : ks = [] := List.eq_nil_of_length_eq_zero hm
      exact hK _ _ (h none 0 w' (Bls.nil _ _) (fun ad h => by cases h) (fun _ => ⟨rfl, rfl⟩) (Nat.le_refl _) (fun h => by omega) hb1)
    · subst hv
      refine hK _ _ (h (some ⟨g, 0, none⟩) cap w' ?_ ?_ (fun h => by cases h) hle (fun _ => ⟨g, cur, rfl, hgg⟩) hb1)
      · intro _
        refine ⟨g, 0, rfl, fun i hi => ?_⟩
        have := World.ownsRow.cells hw (g := g) rfl i (.bool (ks.getD i false)) (by simp [List.getD, hi])
        rw [Addr.add_lit] at this
        simpa using this
      · intro ad had
        cases had
        exact ⟨hbb, (Array.getElem?_eq_some_iff.1 hgg).1⟩
  | none =>
    obtain ⟨rfl, rfl⟩ := hq rfl
    obtain rfl : ks = [] := List.eq_nil_of_length_eq_zero hm
    refine BigFrame.wpList_want hw fun K hK => ?_
    have hrun := run_append_owned_none (P := Try.prog) (w := w) w.heap.size 31 o.type 4 i0 1 Try.underlying31 hi (.slice none 0 0) 0 [] (World.ownsRow_nil _ _ _ _)
    unfold Oper.wp
    simp [execOp, ho, resolve, invoke, builtin, hs, hx, hrun, Result.andThen]
    exact hK _ _ (h none 0 w (Bls.nil _ _) (fun ad h => by cases h) (fun _ => ⟨rfl, rfl⟩) (Nat.le_refl _) (fun h => by omega) (Below.refl _ _))

end Go.Proofs.Ytpggnejifpcnmaa
