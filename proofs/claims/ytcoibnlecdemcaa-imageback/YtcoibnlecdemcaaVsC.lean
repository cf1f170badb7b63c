/- Which versions may be: Check. -/
import Derived.Test.YtcoibnlecdemcaaVsB
import Derived.Deep.QuietTactic
import Derived.Deep.RegionHeld3
import Derived.Lib.QuietBelow
namespace Go.Proofs.Ytcoibnlecdemcaa
open Go.RowKit
set_option linter.unusedVariables false
set_option maxRecDepth 100000

/-- Texts that may be in memory. -/
def Vr.Okl (l : List Vs) : Prop := ∀ (i : Nat) x, l[i]? = some x → x.val.size ≤ 9223372036854775807

/-- The timestamp ahead of the j-th one. -/
def Vr.ahead (l : List Vs) (j : Nat) : Int := match j with | 0 => 1099511627777 | i + 1 => (l.getD i Vs.zero).ts
theorem Vr.ahead_succ {l : List Vs} {j : Nat} {x : Vs} (h : l[j]? = some x) : Vr.ahead l (j + 1) = x.ts := by
  unfold Vr.ahead
  simp [List.getD, h]

/-- How Check goes on from the j-th one. -/
theorem Vr.chk_drop {l : List Vs} {j : Nat} {x : Vs} (h : l[j]? = some x) : Vr.chk (Vr.ahead l j) (l.drop j) = if (Vr.fits x && decide (x.ts < Vr.ahead l j)) = true then Vr.chk (Vr.ahead l (j + 1)) (l.drop (j + 1)) else 151 := by
  have hj : j < l.length := (List.getElem?_eq_some_iff.1 h).1
  rw [List.drop_eq_getElem_cons hj, Vr.ahead_succ h]
  have : l[j] = x := by
    rw [List.getElem?_eq_getElem hj] at h
    exact Option.some.inj h
  rw [this]
  rfl

theorem Vr.check_of {l : List Vs} (h : ¬ 1024 < l.length) : Vr.check l = Vr.chk (Vr.ahead l 0) (l.drop 0) := by
  unfold Vr.check
  rw [if_neg h]
  rfl

set_option maxHeartbeats 2000000 in
theorem check_any (p : Option Addr) (n c : Nat) (l : List Vs) (w : World) (hn : l.length = n) (hx : Vrs w p l) (ho : Vr.Okl l) (hl : n ≤ 4611686018427387904) :
    Calls Try.prog 55 #[.slice p n c] w fun e w' => e = .returned (.int .i64 (Vr.check l)) ∧ Below w.heap.size w w' := by
  by_cases hbig : 1024 < n
  · have HC : Hid (Vr.check l = 3) := by unfold Hid Vr.check; rw [hn, if_pos hbig]
    have hbi : (1024 : Int) < (n : Int) := by omega
    clear hx hn ho
    go_enter Try.func55, Try.ntmps55
    go_wp2
    go_ret
    exact ⟨by rw [HC.out]; rfl, Below.refl _ _⟩
  · have HC : Hid (Vr.check l = Vr.chk (Vr.ahead l 0) (l.drop 0)) := Vr.check_of (by omega)
    have hbi : ¬ (1024 : Int) < (n : Int) := by omega
    have HX : Hid (Vrs w p l) := hx
    have HN : Hid (l.length = n) := hn
    have HO : Hid (Vr.Okl l) := ho
    clear hx hn ho
    go_enter Try.func55, Try.ntmps55
    go_wp2_with fail
    go_loopw [3, 11] (fun a i wr => ∃ k : Nat, k ≤ n ∧ a = .int .i64 (Vr.ahead l k) ∧ i = .int .i64 k ∧ Hid (Below w.heap.size w wr) ∧ Hid (Vr.check l = Vr.chk (Vr.ahead l k) (l.drop k))) (fun _ i _ => n - (intOf i).toNat)
    case atStart => exact ⟨0, Nat.zero_le _, rfl, rfl, Below.refl _ _, HC⟩
    case round =>
      obtain ⟨k, hk, rfl, rfl, HW, HE⟩ := hrel
      by_cases hlt : k < n
      · have hli : (k : Int) < (n : Int) := by omega
        obtain ⟨b, o, x, rfl, hg, c0, c1, c2⟩ := Vrs.cells (Els.below HX.out HW.out (Nat.le_refl _)) (j := k) (by have := HN.out; omega)
        have hs := Vr.chk_drop hg
        have hah := Vr.ahead_succ hg
        have HAH : Hid (Vr.ahead l (k + 1) = x.ts) := hah
        have hsz := HO.out k x hg
        obtain ⟨ah, hah2⟩ : ∃ ah, Vr.ahead l k = ah := ⟨_, rfl⟩
        rw [hah2] at hs ⊢
        obtain ⟨w1, hw1⟩ : ∃ w1, wr.alloc (.cells #[.int .i64 x.ts, .string x.val, .bool x.del] 83) = w1 := ⟨_, rfl⟩
        have k1 : Bk w1 wr.heap.size 83 #[.int .i64 x.ts, .string x.val, .bool x.del] := by rw [← hw1]; exact Bk.new _ _ _
        have d0 : w1.cell? ⟨wr.heap.size, 0, none⟩ = some (.int .i64 x.ts) := k1.cell 0
        have d1 : w1.cell? ⟨wr.heap.size, 1, none⟩ = some (.string x.val) := k1.cell 1
        have d2 : w1.cell? ⟨wr.heap.size, 2, none⟩ = some (.bool x.del) := k1.cell 2
        have HK1 : Hid (Bk w1 wr.heap.size 83 #[.int .i64 x.ts, .string x.val, .bool x.del]) := k1
        have HW1 : Hid (Below w.heap.size w w1) := by rw [← hw1]; exact HW.out.alloc HW.out.size _
        have hcall := fits_any x w1 hsz
        have HS : Hid (Vr.chk (Vr.ahead l k) (l.drop k) = if (Vr.fits x && decide (x.ts < ah)) = true then Vr.chk (Vr.ahead l (k + 1)) (l.drop (k + 1)) else 151) := by unfold Hid; rw [hah2]; exact hs
        clear hg hs hah hah2 k1
        cases hf : Vr.fits x with
        | false =>
          rw [hf] at hcall
          go_wp2_with fail
          refine hcall.mono ?_
          rintro e w2 ⟨rfl, hb2⟩
          go_wp2
          go_ret
          refine ⟨?_, HW1.out.trans (hb2.mono HW1.out.size)⟩
          rw [HE.out, HS.out, hf]
          rfl
        | true =>
          rw [hf] at hcall
          go_wp2_with fail
          refine hcall.mono ?_
          rintro e w2 ⟨rfl, hb2⟩
          have e0 : w2.cell? ⟨wr.heap.size, 0, none⟩ = some (.int .i64 x.ts) := (HK1.out.below hb2 HK1.out.lt).cell 0
          have HW2 : Hid (Below w.heap.size w w2) := HW1.out.trans (hb2.mono HW1.out.size)
          clear hb2 hcall
          by_cases hta : x.ts < ah
          · have hta' : ¬ ah ≤ x.ts := by omega
            have HS2 : Hid (Vr.check l = Vr.chk (Vr.ahead l (k + 1)) (l.drop (k + 1))) := by unfold Hid; rw [HE.out, HS.out, hf, decide_eq_true hta]; rfl
            go_wp2
            go_roundw
            case rel => exact ⟨k + 1, by omega, by rw [HAH.out], by go_num, HW2, HS2⟩
            case measure => simp [intOf]; omega
          · have hta' : ah ≤ x.ts := by omega
            have HS2 : Hid (Vr.check l = 151) := by unfold Hid; rw [HE.out, HS.out, hf, decide_eq_false hta]; rfl
            go_wp2
            go_ret
            exact ⟨by rw [HS2.out]; rfl, HW2.out⟩
      · have hli : ¬ ((k : Int) < (n : Int)) := by omega
        have HS2 : Hid (Vr.check l = 0) := by
          unfold Hid
          rw [HE.out, List.drop_eq_nil_of_le (by have := HN.out; omega)]
          rfl
        go_wp2
        go_ret
        exact ⟨by rw [HS2.out]; rfl, HW.out⟩
end Go.Proofs.Ytcoibnlecdemcaa
