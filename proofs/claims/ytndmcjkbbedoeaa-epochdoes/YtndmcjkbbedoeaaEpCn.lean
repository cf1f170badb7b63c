/- Clone, whole. -/
import Derived.Test.YtndmcjkbbedoeaaEpCl
namespace Go.Proofs.Ytndmcjkbbedoeaa
open Go.RowKit
set_option linter.unusedVariables false
set_option maxRecDepth 100000

theorem index30 (a b c : Value) (W : World) : (Instr.index 69 (.agg #[a, b, c]) (.int .i64 0)).run Try.prog W = .ok a W := by kernel_rfl
theorem index31 (a b c : Value) (W : World) : (Instr.index 69 (.agg #[a, b, c]) (.int .i64 1)).run Try.prog W = .ok b W := by kernel_rfl
theorem index32 (a b c : Value) (W : World) : (Instr.index 69 (.agg #[a, b, c]) (.int .i64 2)).run Try.prog W = .ok c W := by kernel_rfl
theorem index3 (a b c : Value) (i : Nat) (hi : i < 3) (W : World) : (Instr.index 69 (.agg #[a, b, c]) (.int .i64 (i : Int))).run Try.prog W = .ok ([a, b, c].getD i vNil) W := by
  have : i = 0 ∨ i = 1 ∨ i = 2 := by omega
  rcases this with rfl | rfl | rfl
  · exact index30 a b c W
  · exact index31 a b c W
  · exact index32 a b c W

set_option maxHeartbeats 4000000 in
theorem clone_any {w : World} {B : Nat} {bs : List Nat} {e : Ep} (h : Epn w B bs e) (hl : e.old.length + e.cur.length ≤ 3600000000000) :
    Calls Try.prog 23 #[.pointer (some ⟨B, 0, none⟩)] w fun r w' => ∃ bs', r = .returned (.pointer (some ⟨w.heap.size, 0, none⟩)) ∧ Epn w' w.heap.size bs' e ∧ Tn [] w w' ∧ ∀ b ∈ bs', w.heap.size ≤ b := by
  obtain ⟨vs, rfl, h⟩ := h
  have HI : Hid (IsEp w B vs e) := h
  have c0 := h.cNow
  have h1 := h.n1
  have hB := h.blk.lt
  obtain ⟨va, vb, vc, hvs⟩ := list3 h.v3
  have HVS : Hid (vs = [va, vb, vc]) := hvs
  have hx18 : w.cell? ⟨B, 18, none⟩ = some va := by have := h.cList 0 (by omega); rwa [hvs] at this
  have hx19 : w.cell? ⟨B, 19, none⟩ = some vb := by have := h.cList 1 (by omega); rwa [hvs] at this
  have hx20 : w.cell? ⟨B, 20, none⟩ = some vc := by have := h.cList 2 (by omega); rwa [hvs] at this
  have HLL : Hid (∀ k, (e.lst k).length ≤ 3600000000000) := fun k => by
    unfold Ep.lst
    split
    · omega
    · split
      · omega
      · simp
  have HNW : Hid (Bk (w.alloc (.cells #[.int .i64 (e.now : Int), .int .i64 0, .int .i64 0, .int .i64 0, .int .i64 0, .int .i64 0, .int .i64 0, .int .i64 0, .int .i64 0, .int .i64 0, .int .i64 0, .int .i64 0, .int .i64 0, .int .i64 0, .int .i64 0, .int .i64 0, .int .i64 0, .int .i64 0, .slice none 0 0, .slice none 0 0, .slice none 0 0] 71)) w.heap.size 71 (epCells e.now (cpins e 0) [vNil, vNil, vNil])) := Bk.new w _ _
  have HTW : Hid (Tn [] w (w.alloc (.cells #[.int .i64 (e.now : Int), .int .i64 0, .int .i64 0, .int .i64 0, .int .i64 0, .int .i64 0, .int .i64 0, .int .i64 0, .int .i64 0, .int .i64 0, .int .i64 0, .int .i64 0, .int .i64 0, .int .i64 0, .int .i64 0, .int .i64 0, .int .i64 0, .int .i64 0, .slice none 0 0, .slice none 0 0, .slice none 0 0] 71))) := (Tn.refl _ _).alloc _
  clear h hvs hl
  go_enter Try.func23, Try.ntmps23
  go_wp2_with fail
  refine (made_any c0 h1).mono ?_
  rintro r w1 ⟨rfl, rfl⟩
  go_wp2_with fail
  go_loopw [16] (fun iv wr => ∃ k : Nat, k ≤ 17 ∧ iv = .int .i64 k ∧ Hid (Tn [w1.heap.size] w1 wr) ∧ Hid (Bk wr w1.heap.size 71 (epCells e.now (cpins e k) [vNil, vNil, vNil]))) (fun iv _ => 17 - (intOf iv).toNat)
  case atStart => exact ⟨0, Nat.zero_le _, rfl, HTW.out.mono (by simp), HNW.out⟩
  case round =>
    clear HNW HTW
    obtain ⟨k, hk, rfl, HT, HK⟩ := hrel
    by_cases hk17 : k < 17
    · have hli : (k : Int) < 17 := by omega
      have g0 : (0 : Int) ≤ (k : Int) := by omega
      have hp17 := HI.out.p17
      obtain ⟨hcs, hcl⟩ := cpins_set hp17 k hk17
      have d1 : wr.drew.cell? ⟨B, 1 + k, none⟩ = some (.int .i64 ((e.pin k : Nat) : Int)) := (HI.out.tn HT.out (fun b hb => by have := HI.out.lt b hb; simp; omega)).cPin k hk17
      have d2 : wr.drew.cell? ⟨w1.heap.size, 1 + k, none⟩ = some (.int .i64 (((cpins e k).getD k 0 : Nat) : Int)) := (HK.out.cell _).trans (epCells_pin _ _ _ k (by omega))
      have d3 : wr.drew.frozen? ⟨w1.heap.size, 1 + k, none⟩ = false := HK.out.frozen _
      have HK2 : Hid (Bk (wr.drew.setCell ⟨w1.heap.size, 1 + k, none⟩ (.int .i64 ((e.pin k : Nat) : Int))) w1.heap.size 71 (epCells e.now (cpins e (k + 1)) [vNil, vNil, vNil])) := by
        have := HK.out.set (1 + k) (.int .i64 ((e.pin k : Nat) : Int))
        rw [epCells_setPin _ _ _ _ k (by omega), hcs] at this
        exact this
      have HT2 : Hid (Tn [w1.heap.size] w1 (wr.drew.setCell ⟨w1.heap.size, 1 + k, none⟩ (.int .i64 ((e.pin k : Nat) : Int)))) := HT.out.drew.setCell (.inl (by simp)) _
      clear hcs hcl hp17
      generalize (((cpins e k).getD k 0 : Nat) : Int) = x0 at *
      generalize ((e.pin k : Nat) : Int) = pk at *
      go_wp2_with fail
      go_region_law (first
        | (go_simp; go_at_call 36; refine (aload_any d1).mono ?_; rintro r w2 ⟨rfl, rfl⟩)
        | (go_simp; go_at_call 39; refine (astore_any (y := pk) d2 d3).mono ?_; rintro r w3 ⟨rfl, rfl⟩))
      go_wp2
      go_roundw
      case rel => exact ⟨k + 1, by omega, by go_num, HT2, HK2⟩
      case measure => simp [intOf]; omega
    · have hli : ¬ (k : Int) < 17 := by omega
      have hke : k = 17 := by omega
      subst hke
      have hIr := HI.out.tn HT.out (fun b hb => by have := HI.out.lt b hb; simp; omega)
      have HIr : Hid (IsEp wr B vs e) := hIr
      have x18 : wr.cell? ⟨B, 18, none⟩ = some va := by have := hIr.cList 0 (by omega); rwa [HVS.out] at this
      have x19 : wr.cell? ⟨B, 19, none⟩ = some vb := by have := hIr.cList 1 (by omega); rwa [HVS.out] at this
      have x20 : wr.cell? ⟨B, 20, none⟩ = some vc := by have := hIr.cList 2 (by omega); rwa [HVS.out] at this
      have HC0 : Hid (Cp w1 wr B w1.heap.size vs [vNil, vNil, vNil] e 0) := by
        have hk := HK.out
        rw [cpins_all HI.out.p17] at hk
        have hn : ∀ k, k < 3 → ([vNil, vNil, vNil] : List Value).getD k vNil = vNil := by
          intro k hk
          match k, hk with
          | 0, _ => rfl
          | 1, _ => rfl
          | 2, _ => rfl
        exact ⟨hk, rfl, fun k hk => absurd hk (Nat.not_lt_zero _), fun k _ h => hn k h, fun k b hk hb => (by rw [hn k hk] at hb; cases hb), fun j k b hj hk h1 => (by rw [hn j hj] at h1; cases h1), HT.out, rfl⟩
      have HLT : Hid (w1.heap.size < wr.heap.size) := HK.out.lt
      clear hIr HK HT
      go_wp2_with fail
      go_loopw [36] (fun iv wr2 => ∃ (i : Nat) (vs' : List Value), i ≤ 3 ∧ iv = .int .i64 i ∧ Hid (Cp w1 wr2 B w1.heap.size vs vs' e i)) (fun iv _ => 3 - (intOf iv).toNat)
      case atStart => exact ⟨0, _, Nat.zero_le _, rfl, HC0.out⟩
      case round =>
        clear HC0 x18 x19 x20
        obtain ⟨i, vs', hi, rfl, HC⟩ := hrel
        by_cases hi3 : i < 3
        · have hii : (i : Int) < 3 := by omega
          have hi0 : (0 : Int) ≤ (i : Int) := by omega
          have hix := fun W => index3 va vb vc i hi3 W
          obtain ⟨u, hu⟩ : ∃ u, [va, vb, vc].getD i vNil = u := ⟨_, rfl⟩
          rw [hu] at hix
          have HU : Hid (Rr wr u (e.lst i)) := by
            have := (HI.out.row i hi3)
            rw [HVS.out, hu] at this
            exact this.tn HC.out.tn (fun b hb => by have := this.lt b hb; simp; omega)
          have hBlt := HC.out.blk.lt
          have HP : Hid (∀ (w2 : World) (u2 : Value), Rr w2 u2 (e.lst i) → Tn [] wr w2 → (∀ b, u2.ownBlock = some b → wr.heap.size ≤ b) → (w2.cell? ⟨w1.heap.size, 18 + i, none⟩ = some (vs'.getD i vNil) ∧ w2.frozen? ⟨w1.heap.size, 18 + i, none⟩ = false) ∧ Cp w1 (w2.setCell ⟨w1.heap.size, 18 + i, none⟩ u2) B w1.heap.size vs (vs'.set i u2) e (i + 1)) := fun w2 u2 hr ht hn => by
            have hb2 := HC.out.blk.tn ht (by simp)
            exact ⟨⟨(hb2.cell _).trans (epCells_list _ _ _ HI.out.p17 i (by rw [HC.out.v3]; exact hi3)), hb2.frozen _⟩, HC.out.more hi3 ht hr hn HI.out.p17 hBlt⟩
          clear hu
          go_wp2_with fail
          go_region_law (first
            | (go_simp; go_at_call 40; refine (sclone_any (HU.out.tn (Tn.refl [] _).drew (by simp)) (HLL.out i)).mono ?_; rintro r w2 ⟨u2, rfl, hr2, ht2, hn2⟩; obtain ⟨⟨y1, y2⟩, y3⟩ := HP.out w2 u2 hr2 (((Tn.refl [] wr).drew).trans ht2 (by simp)) hn2; obtain ⟨p2, c2, hf2, -⟩ := hr2.form; subst hf2))
          have HC2 : Hid (Cp w1 (w2.setCell ⟨w1.heap.size, 18 + i, none⟩ (.slice p2 (e.lst i).length c2)) B w1.heap.size vs (vs'.set i (.slice p2 (e.lst i).length c2)) e (i + 1)) := y3
          clear y1 y2 y3 hr2 ht2 hn2 hix
          go_wp2
          go_roundw
          case rel => exact ⟨i + 1, _, by omega, by go_num, HC2⟩
          case measure => simp [intOf]; omega
        · have hii : ¬ (i : Int) < 3 := by omega
          have hie : i = 3 := by omega
          subst hie
          have HF : Hid (∃ bs', Epn wr w1.heap.size bs' e ∧ Tn [] w1 wr ∧ ∀ b ∈ bs', w1.heap.size ≤ b) := by
            have h := HC.out
            refine ⟨blocks w1.heap.size vs', ⟨vs', rfl, ?_⟩, ?_, fun b hb => ?_⟩
            · exact ⟨h.blk, HI.out.p17, h.v3, h.row, h.ne, fun k b hk hb => by have := (h.new k b hk hb).1; omega, HI.out.n1, HI.out.ple⟩
            · exact ⟨h.tn.os, h.tn.tape, h.tn.output, h.tn.size, fun k hk _ => h.tn.block k hk (by simp; omega)⟩
            · rcases (mem_blocks h.v3).1 hb with rfl | ⟨k, hk, hb⟩
              · exact Nat.le_refl _
              · have := (h.new k b hk hb).1
                omega
          go_wp2
          go_ret
          obtain ⟨bs', f1, f2, f3⟩ := HF.out
          exact ⟨rfl, bs', f1, f2, f3⟩

end Go.Proofs.Ytndmcjkbbedoeaa
