/- A heap's number goes up. -/
import Derived.Test.YtoehlgigidgfpaaGreatAgWt
namespace Go.Proofs.YtoehlgigidgfpaaGreat
open Go.RowKit
set_option linter.unusedVariables false
set_option maxRecDepth 100000

/-- A pointer to a row of numbers that a block has as its third cell. -/
structure Wt (w : World) (B : Nat) (t : TypeId) (c0 c1 c3 v : Value) (l : List Nat) : Prop where
  blk : Bk w B t #[c0, c1, v, c3]
  row : Nr w v l
  ne : ∀ k, v.ownBlock = some k → k ≠ B
  len : l.length ≤ 65536

theorem Wt.tn {w w' : World} {B : Nat} {t : TypeId} {c0 c1 c3 v : Value} {l l' : List Nat} (h : Wt w B t c0 c1 c3 v l) (ht : Tn v.ownBlock.toList w w') (hr : Nr w' v l') (hl : l'.length = l.length) : Wt w' B t c0 c1 c3 v l' :=
  ⟨h.blk.tn ht (by intro hm; exact h.ne B (by simpa using hm) rfl), hr, h.ne, by rw [hl]; exact h.len⟩

theorem Wt.cell {w : World} {B : Nat} {t : TypeId} {c0 c1 c3 v : Value} {l : List Nat} (h : Wt w B t c0 c1 c3 v l) : w.cell? ⟨B, 2, none⟩ = some v := h.blk.cell 2

theorem meth_push (B : Nat) (w : World) : (method 393 183 (.pointer (some ⟨B, 2, none⟩)) "Push").run Tryz.prog w = .ok (239, .pointer (some ⟨B, 2, none⟩)) w := by kernel_rfl
theorem meth_pop (B : Nat) (w : World) : (method 393 183 (.pointer (some ⟨B, 2, none⟩)) "Pop").run Tryz.prog w = .ok (238, .pointer (some ⟨B, 2, none⟩)) w := by kernel_rfl
theorem meth_len {B : Nat} {w : World} {fv : Value} (hc : w.cell? ⟨B, 2, none⟩ = some fv) : (method 393 183 (.pointer (some ⟨B, 2, none⟩)) "Len").run Tryz.prog w = .ok (233, fv) w := by
  have e : (method 393 183 (.pointer (some ⟨B, 2, none⟩)) "Len").run Tryz.prog w = (do let v ← load ⟨B, 2, none⟩; pure (233, v) : Sem (FuncId × Value)).run Tryz.prog w := by kernel_rfl
  rw [e]
  simp [hc]
theorem meth_less {B : Nat} {w : World} {fv : Value} (hc : w.cell? ⟨B, 2, none⟩ = some fv) : (method 393 183 (.pointer (some ⟨B, 2, none⟩)) "Less").run Tryz.prog w = .ok (234, fv) w := by
  have e : (method 393 183 (.pointer (some ⟨B, 2, none⟩)) "Less").run Tryz.prog w = (do let v ← load ⟨B, 2, none⟩; pure (234, v) : Sem (FuncId × Value)).run Tryz.prog w := by kernel_rfl
  rw [e]
  simp [hc]
theorem meth_swap {B : Nat} {w : World} {fv : Value} (hc : w.cell? ⟨B, 2, none⟩ = some fv) : (method 393 183 (.pointer (some ⟨B, 2, none⟩)) "Swap").run Tryz.prog w = .ok (235, fv) w := by
  have e : (method 393 183 (.pointer (some ⟨B, 2, none⟩)) "Swap").run Tryz.prog w = (do let v ← load ⟨B, 2, none⟩; pure (235, v) : Sem (FuncId × Value)).run Tryz.prog w := by kernel_rfl
  rw [e]
  simp [hc]

theorem half_nat (j : Nat) (h : 0 < j) : ((j : Int) - 1).tdiv 2 = (((j - 1) / 2 : Nat) : Int) := by
  have : ((j : Int) - 1) = ((j - 1 : Nat) : Int) := by omega
  rw [this]
  rfl

set_option maxHeartbeats 1000000 in
theorem up_any {w : World} {B : Nat} {t : TypeId} {c0 c1 c3 v : Value} {l : List Nat} (h : Wt w B t c0 c1 c3 v l) (j : Nat) (hu : Hq.Up l j) :
    Calls Tryz.prog 140 #[.iface 183 (.pointer (some ⟨B, 2, none⟩)), .int .i64 j] w fun e w' => e = .returned (.tuple #[]) ∧ ∃ l', Wt w' B t c0 c1 c3 v l' ∧ l'.Perm l ∧ Hq.Is l' ∧ Tn v.ownBlock.toList w w' := by
  have HH : Hid (∃ l', Wt w B t c0 c1 c3 v l' ∧ l'.Perm l ∧ Hq.Up l' j ∧ Tn v.ownBlock.toList w w) := ⟨l, h, List.Perm.refl _, hu, Tn.refl _ _⟩
  clear h hu
  go_enter Tryz.func140, Tryz.ntmps140
  go_wp2_with fail
  go_loopw [1] (fun jv wr => ∃ j : Nat, jv = .int .i64 j ∧ Hid (∃ l', Wt wr B t c0 c1 c3 v l' ∧ l'.Perm l ∧ Hq.Up l' j ∧ Tn v.ownBlock.toList w wr)) (fun jv _ => (intOf jv).toNat)
  case atStart => exact ⟨j, rfl, HH⟩
  case round =>
    obtain ⟨j, rfl, HW⟩ := hrel
    clear HH
    obtain ⟨l', hw, hp, hu, ht⟩ := HW.out
    have hlen := hw.len
    have hj := hu.hj
    have HU : Hid (Hq.Up l' j) := hu
    clear hu
    by_cases h0 : j = 0
    · subst h0
      have HE : Hid (Hq.Is l') := HU.out.stop (.inl rfl)
      have HG : Hid (Wt wr B t c0 c1 c3 v l' ∧ l'.Perm l ∧ Tn v.ownBlock.toList w wr) := ⟨hw, hp, ht⟩
      clear hw hp ht
      go_wp2
      go_end0
      exact ⟨rfl, l', HG.out.1, HG.out.2.1, HE.out, HG.out.2.2⟩
    · obtain ⟨p, hpe, hpj, HP⟩ : ∃ p : Nat, ((j : Int) - 1).tdiv 2 = (p : Int) ∧ p < j ∧ Hid (p = (j - 1) / 2) := ⟨_, half_nat j (by omega), by omega, rfl⟩
      have ml := meth_less hw.cell
      have hne : ((p : Int) == (j : Int)) = false := by simp; omega
      have HG : Hid (Wt wr B t c0 c1 c3 v l' ∧ l'.Perm l ∧ Tn v.ownBlock.toList w wr) := ⟨hw, hp, ht⟩
      clear hw hp ht HW
      go_wp2_with fail
      refine (less_any HG.out.1.row j p hj (by omega) hlen).mono ?_
      rintro e w1 ⟨rfl, ht1⟩
      have HG1 : Hid (Wt w1 B t c0 c1 c3 v l' ∧ l'.Perm l ∧ Tn v.ownBlock.toList w w1) := ⟨HG.out.1.tn (ht1.mono (by simp)) (HG.out.1.row.tn ht1 (by simp)) rfl, HG.out.2.1, HG.out.2.2.trans ht1 (by simp)⟩
      clear ml HG ht1
      by_cases hlt : Hq.at' l' j < Hq.at' l' p
      · simp only [hlt, decide_true]
        have HU2 : Hid (Hq.Up (Hq.swap l' p j) p) := by
          have := HU.out.step (by omega) (by rw [← HP.out]; exact hlt)
          rw [← HP.out] at this
          exact this
        have ms := meth_swap HG1.out.1.cell
        go_wp2_with fail
        refine (swap_any HG1.out.1.row p j (by omega) hj hlen).mono ?_
        rintro e w2 ⟨rfl, hr2, ht2⟩
        have HG2 : Hid (Wt w2 B t c0 c1 c3 v (Hq.swap l' p j) ∧ (Hq.swap l' p j).Perm l ∧ Tn v.ownBlock.toList w w2) :=
          ⟨HG1.out.1.tn ht2 hr2 (Hq.swap_length _ _ _), (Hq.swap_perm _ _ _ (by omega) hj).trans HG1.out.2.1, HG1.out.2.2.trans ht2 (fun x hx => .inl hx)⟩
        clear hr2 ht2 ms HG1
        go_wp2
        go_roundw
        case rel => exact ⟨p, rfl, ⟨_, HG2.out.1, HG2.out.2.1, HU2.out, HG2.out.2.2⟩⟩
        case measure => simp [intOf]; omega
      · simp only [hlt, decide_false]
        have HE : Hid (Hq.Is l') := HU.out.stop (.inr (by rw [← HP.out]; omega))
        go_wp2
        go_end0
        exact ⟨rfl, l', HG1.out.1, HG1.out.2.1, HE.out, HG1.out.2.2⟩
end Go.Proofs.YtoehlgigidgfpaaGreat
