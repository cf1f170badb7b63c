/- The texts that are not in a range. -/
import Derived.Test.YtgppnbcneknpdaaKyU
namespace Go.Proofs.Ytgppnbcneknpdaa
open Go.RowKit
set_option linter.unusedVariables false
set_option maxRecDepth 100000

/-- What is outside of a range: below it, and from its end on. -/
def Ky.around (r : Rg) : List Rg := (if Ky.nil r.lo then [] else [⟨⟨#[]⟩, r.lo⟩]) ++ (if Ky.nil r.hi then [] else [⟨r.hi, ⟨#[]⟩⟩])

theorem OwnR.nil (w : World) (base : Nat) : OwnR w base (.slice none 0 0) [] := ⟨rfl, .inl ⟨rfl, rfl⟩⟩

theorem OwnR.mono {w : World} {base base' : Nat} {v : Value} {l : List Rg} (h : OwnR w base v l) (hb : base' ≤ base) : OwnR w base' v l := by
  refine ⟨h.1, ?_⟩
  rcases h.2 with hn | ⟨g, cap, cur, hv, hbb, rest⟩
  · exact .inl hn
  · exact .inr ⟨g, cap, cur, hv, Nat.le_trans hb hbb, rest⟩

/-- 'append(v, x)', v a row of the call's own, x one range that was just laid. -/
theorem appR {ops : Array Oper} {rest : List Oper} {o : Oper} {a : Act} {Q : Exit → Act → World → Prop} (w : World) (hw : Region.wanted o (yielded ops a.tmps) = true) (s x : Operand)
    (ho : o.op = .call { callee := .builtin .append, args := #[s, x], argTypes := #[22, 22] })
    (base : Nat) (v : Value) (l : List Rg) (hs : a.eval s = v) (g : Rg) (B : Nat) (hx : a.eval x = .slice (some ⟨B, 0, none⟩) 1 1) (hB : B = w.heap.size) (hown : OwnR w base v l)
    (hb : (l.length + 1) * 32 ≤ 140737488355328) (hbase : base ≤ w.heap.size)
    (h : ∀ v' w', OwnR w' base v' (l ++ [g]) → Below base w w' → wpList Try.prog ops Q rest (a.put o.dst v') w') : wpList Try.prog ops Q (o :: rest) a (w.alloc (.cells #[.string g.lo, .string g.hi] 24)) := by
  subst hB
  obtain ⟨i0, hi0, hz0, hz1, hz2⟩ := rg_info
  have hbA : Below base w (w.alloc (.cells #[.string g.lo, .string g.hi] 24)) := (Below.refl _ _).alloc hbase _
  have hoA : OwnR (w.alloc (.cells #[.string g.lo, .string g.hi] 24)) base v l := hown.below ((Below.refl _ _).alloc (Nat.le_refl _) _) (Nat.le_refl _)
  refine BigFrame.wpList_want hw fun _ hK => wp_append_own _ s x _ ho base 24 i0 _ 2 32 Try.underlying22 hi0 hz0 hz1 hz2 rfl (by decide) v l.length (flatR l) hs hoA ⟨w.heap.size, 0, none⟩ 1 1 (flatR [g]) hx rfl ((rgs_one w g).news _ rfl) (flatR_one _) (by unfold maxLen; omega) (by omega) (by simp; omega) fun v' w' h2 h3 _ => hK _ _ (h v' w' ?_ ?_)
  · unfold OwnR
    rw [flatR_append, List.length_append]
    exact h2
  · exact hbA.grown h3 (by simp; omega) (fun k hk => (World.ownsRow.lt hoA k hk).1)

set_option maxHeartbeats 1000000 in
theorem around_any (r : Rg) (w : World) : Calls Try.prog 36 #[r.val] w fun e w' => ∃ v, e = .returned v ∧ OwnR w' w.heap.size v (Ky.around r) ∧ Below w.heap.size w w' := by
  obtain ⟨lo, hi⟩ := r
  obtain ⟨w0, hw0⟩ : ∃ w0, w0 = w.alloc (.cells #[.string lo, .string hi] 24) := ⟨_, rfl⟩
  have hk0 : Bk w0 w.heap.size 24 #[.string lo, .string hi] := by rw [hw0]; exact Bk.new _ _ _
  have HB0 : Hid (Below w.heap.size w w0) := by rw [hw0]; exact (Below.refl _ _).alloc (Nat.le_refl _) _
  have HK0 : Hid (Bk w0 w.heap.size 24 #[.string lo, .string hi]) := hk0
  have HS0 : Hid (w.heap.size + 1 ≤ w0.heap.size) := hk0.lt
  have a0 := hk0.cell 0
  have a1 := hk0.cell 1
  simp at a0 a1
  clear hk0
  have HA : Hid (Ky.around ⟨lo, hi⟩ = (if lo.toList.isEmpty then [] else [⟨⟨#[]⟩, lo⟩]) ++ (if hi.toList.isEmpty then [] else [⟨hi, ⟨#[]⟩⟩])) := rfl
  cases h1 : lo.toList.isEmpty with
  | true =>
    cases h2 : hi.toList.isEmpty with
    | true =>
      rw [h1, h2] at HA
      subst hw0
      go_enter Try.func36, Try.ntmps36
      go_wp2
      go_ret
      refine ⟨_, rfl, ?_, HB0.out⟩
      rw [HA.out]
      exact OwnR.nil _ _
    | false =>
      rw [h1, h2] at HA
      subst hw0
      go_enter Try.func36, Try.ntmps36
      go_wp2_with (at_builtin; refine appR _ rfl _ _ rfl (w.heap.size + 1) (.slice none 0 0) [] rfl ⟨hi, ⟨#[]⟩⟩ _ rfl (by simp) (OwnR.nil _ _) (by decide) HS0.out ?_; intro v7 w7 ho7 hb7)
      have HO7 : Hid (OwnR w7 w.heap.size v7 [⟨hi, ⟨#[]⟩⟩]) := ho7.mono (by omega)
      have HW7 : Hid (Below w.heap.size w w7) := HB0.out.trans (hb7.mono (by omega))
      clear ho7 hb7
      go_wp2
      go_ret
      refine ⟨_, rfl, ?_, HW7.out⟩
      rw [HA.out]
      exact HO7.out
  | false =>
    cases h2 : hi.toList.isEmpty with
    | true =>
      rw [h1, h2] at HA
      subst hw0
      go_enter Try.func36, Try.ntmps36
      go_wp2_with (at_builtin; refine appR _ rfl _ _ rfl (w.heap.size + 1) (.slice none 0 0) [] rfl ⟨⟨#[]⟩, lo⟩ _ rfl (by simp) (OwnR.nil _ _) (by decide) HS0.out ?_; intro v7 w7 ho7 hb7; have b1 := (HK0.out.below hb7 (by omega)).cell 1; simp at b1)
      have HO7 : Hid (OwnR w7 w.heap.size v7 [⟨⟨#[]⟩, lo⟩]) := ho7.mono (by omega)
      have HW7 : Hid (Below w.heap.size w w7) := HB0.out.trans (hb7.mono (by omega))
      clear ho7 hb7
      go_wp2
      go_ret
      refine ⟨_, rfl, ?_, HW7.out⟩
      rw [HA.out]
      exact HO7.out
    | false =>
      rw [h1, h2] at HA
      subst hw0
      go_enter Try.func36, Try.ntmps36
      go_wp2_with (first
        | (at_builtin; refine appR _ rfl _ _ rfl (w.heap.size + 1) (.slice none 0 0) [] rfl ⟨⟨#[]⟩, lo⟩ _ rfl (by simp) (OwnR.nil _ _) (by decide) HS0.out ?_; intro v7 w7 ho7 hb7; have b1 := (HK0.out.below hb7 (by omega)).cell 1; simp at b1; have hs7 := Nat.le_trans HS0.out hb7.size)
        | (at_builtin; refine appR w7 rfl _ _ rfl (w.heap.size + 1) v7 [⟨⟨#[]⟩, lo⟩] rfl ⟨hi, ⟨#[]⟩⟩ _ rfl rfl ho7 (by simp) hs7 ?_; intro v8 w8 ho8 hb8))
      have HO8 : Hid (OwnR w8 w.heap.size v8 [⟨⟨#[]⟩, lo⟩, ⟨hi, ⟨#[]⟩⟩]) := ho8.mono (by omega)
      have HW8 : Hid (Below w.heap.size w w8) := HB0.out.trans ((hb7.trans hb8).mono (by omega))
      clear ho7 hb7 ho8 hb8
      go_wp2
      go_ret
      refine ⟨_, rfl, ?_, HW8.out⟩
      rw [HA.out]
      exact HO8.out

end Go.Proofs.Ytgppnbcneknpdaa
