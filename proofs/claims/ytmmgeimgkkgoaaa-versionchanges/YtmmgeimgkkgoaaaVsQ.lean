/- The document's Prune. -/
import Derived.Test.YtmmgeimgkkgoaaaVsP
namespace Go.Proofs.Ytmmgeimgkkgoaaa
open Go.RowKit Go.Sort
set_option linter.unusedVariables false
set_option maxRecDepth 100000

set_option maxHeartbeats 4000000 in
theorem dprune_any (p : Option Addr) (n c : Nat) (l : List Vs) (mark : Int) (w : World) (hn : l.length = n) (hx : Vrs w p l) (hl : n ≤ 4398046510976) :
    Calls Try.prog 21 #[.slice p n c, .int .i64 mark] w fun e w' => ∃ v1 v2, e = .returned (.tuple #[v1, v2]) ∧ TwoV w w' v1 v2 (Vr.prune mark l).kept (Vr.prune mark l).rest := by
  have HX : Hid (Vrs w p l) := hx
  have HN : Hid (l.length = n) := hn
  have HTK : Hid (l.take n = l) := List.take_of_length_le (by omega)
  have HEND : Hid (∀ v1 v2 W, TwoV w W v1 v2 (Vr.prune mark (l.take n)).kept (Vr.prune mark (l.take n)).rest → TwoV w W v1 v2 (Vr.prune mark l).kept (Vr.prune mark l).rest) := fun v1 v2 W h => by rw [HTK.out] at h; exact h
  clear hx hn
  go_enter Try.func21, Try.ntmps21
  go_wp2_with fail
  go_loopw [6, 7, 8, 9] (fun a1 a2 ff i wr => ∃ (k : Nat) (f : Bool), k ≤ n ∧ i = .int .i64 k ∧ ff = .bool f ∧ Hid ((Vr.prune mark (l.take k)).found = f) ∧ Hid (TwoV w wr a1 a2 (Vr.prune mark (l.take k)).kept (Vr.prune mark (l.take k)).rest)) (fun _ _ _ i _ => n - (intOf i).toNat)
  case atStart => exact ⟨0, false, Nat.zero_le _, rfl, rfl, rfl, TwoR.nil _ (Below.refl _ _)⟩
  case round =>
    obtain ⟨k, f, hk, rfl, rfl, HF, HT⟩ := hrel
    by_cases hlt : k < n
    · have hli : (k : Int) < (n : Int) := by omega
      obtain ⟨b, o, x, rfl, hg, c0, c1, c2⟩ := Vrs.cells (Els.below HX.out HT.out.below (Nat.le_refl _)) (j := k) (by have := HN.out; omega)
      have HPT : Hid (Vr.prune mark (l.take (k + 1)) = Vr.pstep mark (Vr.prune mark (l.take k)) x) := Vr.prune_take hg
      have HR : Hid ((Vr.prune mark (l.take k)).kept.length < n ∧ (Vr.prune mark (l.take k)).rest.length < n) := HT.out.room hlt hl
      obtain ⟨x1, x2, x3⟩ := x
      clear hg
      by_cases hm : mark < x1
      · have HP2 : Hid (Vr.prune mark (l.take (k + 1)) = ⟨(Vr.prune mark (l.take k)).kept ++ [⟨x1, x2, x3⟩], (Vr.prune mark (l.take k)).rest, f⟩) := by rw [← HF.out]; exact HPT.out.trans (Vr.pstep_up hm)
        have hm' : ¬ x1 ≤ mark := by omega
        have hmd : decide (x1 ≤ mark) = false := decide_eq_false hm'
        have hmd2 : decide (mark < x1) = true := decide_eq_true hm
        cases f with
        | true =>
          go_wp2_with (at_builtin; refine app1L vknd Try.underlying22 vinfo rfl wr rfl _ _ rfl w.heap.size u6 _ rfl ⟨x1, x2, x3⟩ _ rfl rfl _ rfl HT.out.o1 (by have := HR.out; unfold maxLen; omega) (by have := HR.out; omega) HT.out.below.size ?_; intro v3 w3 h1 h2 h3)
          have HT3 : Hid (TwoV w w3 v3 u7 (Vr.prune mark (l.take (k + 1))).kept (Vr.prune mark (l.take (k + 1))).rest) := by unfold Hid; rw [HP2.out]; exact TwoR.app HT.out h1 h2 h3
          have HF3 : Hid ((Vr.prune mark (l.take (k + 1))).found = true) := by unfold Hid; rw [HP2.out]
          clear h1 h2 h3
          go_wp2
          go_roundw
          case rel => exact ⟨k + 1, true, by omega, by go_num, rfl, HF3, HT3⟩
          case measure => simp [intOf]; omega
        | false =>
          go_wp2_with (at_builtin; refine app1L vknd Try.underlying22 vinfo rfl wr rfl _ _ rfl w.heap.size u6 _ rfl ⟨x1, x2, x3⟩ _ rfl rfl _ rfl HT.out.o1 (by have := HR.out; unfold maxLen; omega) (by have := HR.out; omega) HT.out.below.size ?_; intro v3 w3 h1 h2 h3)
          have HT3 : Hid (TwoV w w3 v3 u7 (Vr.prune mark (l.take (k + 1))).kept (Vr.prune mark (l.take (k + 1))).rest) := by unfold Hid; rw [HP2.out]; exact TwoR.app HT.out h1 h2 h3
          have HF3 : Hid ((Vr.prune mark (l.take (k + 1))).found = false) := by unfold Hid; rw [HP2.out]
          clear h1 h2 h3
          go_wp2
          go_roundw
          case rel => exact ⟨k + 1, false, by omega, by go_num, rfl, HF3, HT3⟩
          case measure => simp [intOf]; omega
      · have hle : x1 ≤ mark := by omega
        have hmd : decide (x1 ≤ mark) = true := decide_eq_true hle
        have hmd2 : decide (mark < x1) = false := decide_eq_false hm
        cases f with
        | true =>
          have HP2 : Hid (Vr.prune mark (l.take (k + 1)) = ⟨(Vr.prune mark (l.take k)).kept, (Vr.prune mark (l.take k)).rest ++ [⟨x1, x2, x3⟩], true⟩) := HPT.out.trans (Vr.pstep_found hle HF.out)
          go_wp2_with (at_builtin; refine app1L vknd Try.underlying22 vinfo rfl wr rfl _ _ rfl w.heap.size u7 _ rfl ⟨x1, x2, x3⟩ _ rfl rfl _ rfl HT.out.o2 (by have := HR.out; unfold maxLen; omega) (by have := HR.out; omega) HT.out.below.size ?_; intro v3 w3 h1 h2 h3)
          have HT3 : Hid (TwoV w w3 u6 v3 (Vr.prune mark (l.take (k + 1))).kept (Vr.prune mark (l.take (k + 1))).rest) := by unfold Hid; rw [HP2.out]; exact (TwoR.app HT.out.swap h1 h2 h3).swap
          have HF3 : Hid ((Vr.prune mark (l.take (k + 1))).found = true) := by unfold Hid; rw [HP2.out]
          clear h1 h2 h3
          go_wp2
          go_roundw
          case rel => exact ⟨k + 1, true, by omega, by go_num, rfl, HF3, HT3⟩
          case measure => simp [intOf]; omega
        | false =>
          cases x3 with
          | true =>
            have HP2 : Hid (Vr.prune mark (l.take (k + 1)) = ⟨(Vr.prune mark (l.take k)).kept, (Vr.prune mark (l.take k)).rest ++ [⟨x1, x2, true⟩], true⟩) := HPT.out.trans (Vr.pstep_del hle rfl)
            go_wp2_with (at_builtin; refine app1L vknd Try.underlying22 vinfo rfl wr rfl _ _ rfl w.heap.size u7 _ rfl ⟨x1, x2, true⟩ _ rfl rfl _ rfl HT.out.o2 (by have := HR.out; unfold maxLen; omega) (by have := HR.out; omega) HT.out.below.size ?_; intro v3 w3 h1 h2 h3)
            have HT3 : Hid (TwoV w w3 u6 v3 (Vr.prune mark (l.take (k + 1))).kept (Vr.prune mark (l.take (k + 1))).rest) := by unfold Hid; rw [HP2.out]; exact (TwoR.app HT.out.swap h1 h2 h3).swap
            have HF3 : Hid ((Vr.prune mark (l.take (k + 1))).found = true) := by unfold Hid; rw [HP2.out]
            clear h1 h2 h3
            go_wp2
            go_roundw
            case rel => exact ⟨k + 1, true, by omega, by go_num, rfl, HF3, HT3⟩
            case measure => simp [intOf]; omega
          | false =>
            have HP2 : Hid (Vr.prune mark (l.take (k + 1)) = ⟨(Vr.prune mark (l.take k)).kept ++ [⟨x1, x2, false⟩], (Vr.prune mark (l.take k)).rest, true⟩) := HPT.out.trans (Vr.pstep_first hle HF.out rfl)
            go_wp2_with (at_builtin; refine app1L vknd Try.underlying22 vinfo rfl wr rfl _ _ rfl w.heap.size u6 _ rfl ⟨x1, x2, false⟩ _ rfl rfl _ rfl HT.out.o1 (by have := HR.out; unfold maxLen; omega) (by have := HR.out; omega) HT.out.below.size ?_; intro v3 w3 h1 h2 h3)
            have HT3 : Hid (TwoV w w3 v3 u7 (Vr.prune mark (l.take (k + 1))).kept (Vr.prune mark (l.take (k + 1))).rest) := by unfold Hid; rw [HP2.out]; exact TwoR.app HT.out h1 h2 h3
            have HF3 : Hid ((Vr.prune mark (l.take (k + 1))).found = true) := by unfold Hid; rw [HP2.out]
            clear h1 h2 h3
            go_wp2
            go_roundw
            case rel => exact ⟨k + 1, true, by omega, by go_num, rfl, HF3, HT3⟩
            case measure => simp [intOf]; omega
    · obtain rfl : k = n := by omega
      go_wp2
      go_ret2
      exact ⟨_, _, rfl, HEND.out _ _ _ HT.out⟩
end Go.Proofs.Ytmmgeimgkkgoaaa
