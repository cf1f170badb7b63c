/- A text in a range; what parts two texts (the document's). -/
import Derived.Test.YtakibndjmhadnaaPgK
namespace Go.Proofs.Ytakibndjmhadnaa
open Go.RowKit
set_option linter.unusedVariables false
set_option maxRecDepth 100000

theorem Ky.leq_iff (x y : List UInt8) : (Op.bytesLess x y || x == y) = !Op.bytesLess y x := by
  rw [← Ky.gtr_iff x y, Bool.not_and, Bool.not_not, Bool.not_not]

set_option maxHeartbeats 400000 in
theorem rsep_any (a b : ByteArray) (w : World) (ha : a.size ≤ 140737488351232) (hb : b.size ≤ 140737488351232) : Calls Try.prog 53 #[.string a, .string b] w fun r w' => r = .returned (if Ky.lt a b then .tuple #[.string (Ky.sep a b), .bool true] else .tuple #[.string ⟨#[]⟩, .bool false]) ∧ Below w.heap.size w w' := by
  unfold Ky.lt
  cases h : Op.bytesLess a.toList b.toList with
  | false =>
    go_enter Try.func53, Try.ntmps53
    go_wp2
    go_ret2
    exact ⟨rfl, Below.refl _ _⟩
  | true =>
    have HL : Hid (Ky.com a.toList b.toList < b.size) := by
      have := Ky.com_lt _ _ h
      rw [Ky.size_list] at this
      exact this
    have HS : Hid (∀ n, n ≤ b.size → Op.bytesLess a.toList (b.extract 0 n).toList = decide (Ky.com a.toList b.toList < n)) := by
      intro n hn
      rw [Ky.cut_list]
      exact Ky.sep_iff _ _ n h (by rw [Ky.size_list]; exact hn)
    go_enter Try.func53, Try.ntmps53
    go_wp2_with fail
    go_loopw [6] (fun i wr => ∃ k : Nat, k ≤ b.size ∧ i = .int .i64 k ∧ Hid (Below w.heap.size w wr) ∧ Hid (k ≤ Ky.com a.toList b.toList + 1)) (fun i _ => b.size - (intOf i).toNat)
    case atStart => exact ⟨0, Nat.zero_le _, rfl, Below.refl _ _, by simp [Hid]⟩
    case round =>
      obtain ⟨k, hk, rfl, HW, HC⟩ := hrel
      by_cases hlt : k < b.size
      · have hli : (k : Int) < (b.size : Int) := by omega
        go_wp2_with fail
        case roundEnd =>
          rename_i hq
          have hg := Ky.gtr_iff (b.extract 0 k).toList a.toList
          rw [HS.out k hk] at hg
          have : ¬ Ky.com a.toList b.toList < k := by
            intro hc
            rw [decide_eq_true hc, Bool.and_eq_true] at hg
            rcases hq with hq | hq
            · rw [hg.1] at hq; cases hq
            · rw [hg.2] at hq; cases hq
          exact ⟨⟨k + 1, by omega, by go_num, HW, by unfold Hid; omega⟩, by simp [intOf]; omega⟩
        · rename_i hq
          have hg := Ky.gtr_iff (b.extract 0 k).toList a.toList
          rw [HS.out k hk, hq.1, hq.2] at hg
          have hc : Ky.com a.toList b.toList < k := of_decide_eq_true hg.symm
          have : k = Ky.com a.toList b.toList + 1 := by have := HC.out; omega
          go_ret2
          refine ⟨?_, HW.out⟩
          unfold Ky.sep
          rw [← this]
          rfl
      · have hkk : k = b.size := by omega
        have hli : ¬ ((k : Int) < (b.size : Int)) := by omega
        have HF : Hid (Ky.sep a b = b) := by
          unfold Hid Ky.sep
          have h0 := HL.out
          have h1 := HC.out
          rw [show Ky.com a.toList b.toList + 1 = b.size by omega, Ky.cut_all]
        go_wp2
        go_ret2
        rw [HF.out]
        exact ⟨rfl, HW.out⟩

theorem rin_any (r : Rg) (k : ByteArray) (w : World) : Calls Try.prog 41 #[r.val, .string k] w fun e w' => e = .returned (.bool (Ky.inn r k)) ∧ Below w.heap.size w w' := by
  have HI : Hid (Ky.inn r k = (!Op.bytesLess k.toList r.lo.toList && (r.hi.toList.isEmpty || Op.bytesLess k.toList r.hi.toList))) := rfl
  cases h : Op.bytesLess k.toList r.lo.toList with
  | true =>
    rw [h] at HI
    go_enter Try.func41, Try.ntmps41
    go_wp2
    go_ret
    exact ⟨by rw [HI.out]; rfl, (Below.refl _ _).alloc (Nat.le_refl _) _⟩
  | false =>
    rw [h] at HI
    cases h2 : r.hi.toList.isEmpty with
    | true =>
      rw [h2] at HI
      go_enter Try.func41, Try.ntmps41
      go_wp2
      go_ret
      exact ⟨by rw [HI.out]; rfl, (Below.refl _ _).alloc (Nat.le_refl _) _⟩
    | false =>
      rw [h2] at HI
      go_enter Try.func41, Try.ntmps41
      go_wp2
      all_goals go_ret
      all_goals exact ⟨by rw [HI.out]; simp, (Below.refl _ _).alloc (Nat.le_refl _) _⟩

theorem rempty_any (r : Rg) (w : World) : Calls Try.prog 38 #[r.val] w fun e w' => e = .returned (.bool (Ky.emp r)) ∧ Below w.heap.size w w' := by
  have HI : Hid (Ky.emp r = !(r.hi.toList.isEmpty || Op.bytesLess r.lo.toList r.hi.toList)) := rfl
  have hle := Ky.leq_iff r.hi.toList r.lo.toList
  cases h2 : r.hi.toList.isEmpty with
  | true =>
    rw [h2] at HI
    clear hle
    go_enter Try.func38, Try.ntmps38
    go_wp2
    go_ret
    exact ⟨by rw [HI.out]; rfl, (Below.refl _ _).alloc (Nat.le_refl _) _⟩
  | false =>
    rw [h2] at HI
    go_enter Try.func38, Try.ntmps38
    go_wp2
    all_goals go_ret
    all_goals exact ⟨by rw [HI.out]; simp, (Below.refl _ _).alloc (Nat.le_refl _) _⟩


end Go.Proofs.Ytakibndjmhadnaa
