/- The reference: barriers. -/
import Derived.Test.YtpggnejifpcnmaaDkRefC
namespace Go.Proofs.Ytpggnejifpcnmaa
open Go.RowKit Go.Shelf Go.Maps
set_option linter.unusedVariables false

/-- What stands ahead of a round of a barrier. -/
structure Rb (w : World) (N S D : Nat) (d : Dk) (j : Nat) (wr : World) : Prop where
  now : SRow wr N d.n d.last
  sure : SRow wr S d.n (fun i => if i < j then d.last i else d.sure i)
  dirty : BRow wr D d.n (fun i => if i < j then false else (d.dirty i).isSome)
  tn : Tn [N, S, D] w wr

section
variable {w w1 : World} {R N S D cN cS : Nat} {p : Option Addr} {c : Nat} {kk : List Bool} {kb : List Nat} {d : Dk} {j : Nat}

theorem Rb.over (h : Rb w N S D d j w1) (hj : j < d.n) (hne : N ≠ S ∧ N ≠ D ∧ S ≠ D) {w2 : World} (hw2 : w2 = ((w1.setCell ⟨S, j, none⟩ (.string (strOfNums (d.last j)))).setCell ⟨D, j, none⟩ (.bool false)).drew) : Rb w N S D d (j + 1) w2 := by
  subst hw2
  have t : Tn [S] w1 (w1.setCell ⟨S, j, none⟩ (.string (strOfNums (d.last j)))) := (Tn.refl _ _).setCell (by simp) _
  have t2 : Tn [D] (w1.setCell ⟨S, j, none⟩ (.string (strOfNums (d.last j)))) (((w1.setCell ⟨S, j, none⟩ (.string (strOfNums (d.last j)))).setCell ⟨D, j, none⟩ (.bool false)).drew) := ((Tn.refl _ _).setCell (by simp) _).drew
  exact {
    now := (h.now.tn t (by simp; omega)).tn t2 (by simp; omega)
    sure := (h.sure.set hj ⟨(if_step _ _ j).1, fun x _ hx => (if_step _ _ j).2 x hx⟩).tn t2 (by simp; omega)
    dirty := (h.dirty.tn t (by simp; omega)).set hj ⟨by simp, fun x _ hx => (if_step (fun _ => false) (fun i => (d.dirty i).isSome) j).2 x hx⟩
    tn := ((h.tn.setCell (by simp) _).setCell (by simp) _).drew }

theorem rb_end (h : IsRf w R N S D cN cS p c kk kb d) (hb : Rb w N S D d d.n w1) : IsRf w1 R N S D cN cS p c kk kb { d with sure := fun i => (d.dirty i).getD (d.sure i), dirty := fun _ => none } := by
  obtain ⟨n1, n2, n3, n4, n5, n6⟩ := h.ne
  have t := hb.tn
  exact {
    blk := h.blk.tn t (by simp; omega)
    now := hb.now
    sure := hb.sure.as (fun i hi => by
      have hi' : i < d.n := hi
      simp only [hi', if_true]
      rfl)
    dirty := hb.dirty.as (fun i hi => by
      have hi' : i < d.n := hi
      simp only [hi', if_true]
      rfl)
    keep := h.keep.tn t (fun ad ha hl hm => by
      have h0 := h.kbs ad ha hl
      simp only [List.mem_cons, List.not_mem_nil, or_false] at hm
      rcases hm with e | e | e
      · exact h.kne.2.1 (e ▸ h0)
      · exact h.kne.2.2.1 (e ▸ h0)
      · exact h.kne.2.2.2 (e ▸ h0))
    kbs := h.kbs
    kne := h.kne
    klt := fun b hb => Nat.lt_of_lt_of_le (h.klt b hb) t.size
    ne := h.ne
    eqk := h.eqk
    n1 := h.n1
    n2 := h.n2
    caps := h.caps
    secS := fun i hi => by
      show Sec ((d.dirty i).getD (d.sure i))
      cases hdi : d.dirty i with
      | none => exact h.secS i hi
      | some x => exact h.secD i x hdi
    secD := fun i x h => by cases h
    left := h.left }

set_option maxRecDepth 100000 in
set_option maxHeartbeats 4000000 in
theorem rbar {bs : List Nat} (h : Rf w R bs d) :
    Calls Try.prog 30 #[.pointer (some ⟨R, 0, none⟩)] w fun e w' => e = .returned (.int .i64 d.bar.1) ∧ RTurns w w' R bs d.bar.2 := by
  have HR : Hid (Rf w R bs d) := h
  obtain ⟨N, S, D, cN, cS, q, cq, kk, kb, rfl, h⟩ := h
  have HI : Hid (IsRf w R N S D cN cS q cq kk kb d) := h
  obtain ⟨-, -, -, -, -, -, c6⟩ := h.cells
  unfold Dk.bar
  cases hd : d.down
  · rw [hd] at c6
    simp only [Bool.false_eq_true, if_false]
    have HKK : Hid (d.count.1 = true → kk = d.count.2.keep) := by
      intro hc
      unfold Dk.count at hc ⊢
      split at hc
      · cases hc
      · rename_i hl0
        rw [if_neg hl0]
        exact h.eqk hl0
    have hen : d.count.2.n = d.n := by unfold Dk.count; split <;> rfl
    have HNE : Hid (N ≠ S ∧ N ≠ D ∧ S ≠ D) := ⟨h.ne.2.2.2.1, h.ne.2.2.2.2.1, h.ne.2.2.2.2.2⟩
    obtain ⟨n1, n2, n3, n4, n5, n6⟩ := h.ne
    have m1 := n1.symm
    have m2 := n2.symm
    have m3 := n3.symm
    have m4 := n4.symm
    have m5 := n5.symm
    have m6 := n6.symm
    have hn2 := h.n2
    unfold Dk.barrier
    obtain ⟨⟨hit, d1⟩, hc⟩ : ∃ x, d.count = x := ⟨_, rfl⟩
    have HC : Hid (d.count = (hit, d1)) := hc
    rw [hc] at hen HKK ⊢
    have hn1 : d1.n ≤ 16384 := by
      have : d1.n = d.n := hen
      omega
    clear h hen hc hd
    cases hit with
    | true =>
      simp only [if_true]
      go_enter Try.func30, Try.ntmps30
      go_wp2_with fail
      refine (rmeets HI.out).mono ?_
      rintro e w2 ⟨rfl, hi2, ht2⟩
      rw [HC.out] at hi2 ⊢
      have HI2 : Hid (IsRf w2 R N S D cN cS q cq kk kb d1) := hi2
      have HT2 : Hid (Tn [R] w w2) := ht2
      obtain ⟨-, -, -, -, r4, -⟩ := hi2.cells
      have HKQ : Hid (kk = d1.keep) := HKK.out (by simp)
      clear hi2 ht2 c6 HKK HI HR
      go_wp2_with fail
      refine (rlose HI2.out q cq kk kk.length rfl HI2.out.keep (fun ad ha hl hm => by
        have h0 := HI2.out.kbs ad ha hl
        simp only [List.mem_cons, List.not_mem_nil, or_false] at hm
        rcases hm with e | e | e
        · exact HI2.out.kne.2.1 (e ▸ h0)
        · exact HI2.out.kne.2.2.1 (e ▸ h0)
        · exact HI2.out.kne.2.2.2 (e ▸ h0))).mono ?_
      rintro e w6 ⟨rfl, ht6⟩
      have HT6 : Hid (RTurns w2 w6 R (R :: N :: S :: D :: kb) (d1.lose kk)) := ht6
      clear ht6
      go_wp2
      go_ret
      obtain ⟨bs', h1, h2, h3⟩ := HT6.out
      refine ⟨rfl, bs', ?_, (HT2.out.mono (by simp)).trans h2 (fun x hx => .inl hx), fun b hb => (h3 b hb).elim .inl (fun h => .inr (Nat.le_trans HT2.out.size h))⟩
      rw [HKQ.out] at h1
      exact h1
    | false =>
      simp only [Bool.false_eq_true, if_false]
      clear HKK
      go_enter Try.func30, Try.ntmps30
      go_wp2_with fail
      refine (rmeets HI.out).mono ?_
      rintro e w2 ⟨rfl, hi2, ht2⟩
      rw [HC.out] at hi2 ⊢
      have HI2 : Hid (IsRf w2 R N S D cN cS q cq kk kb d1) := hi2
      have HT2 : Hid (Tn [R] w w2) := ht2
      have HB0 : Hid (Rb w2 N S D d1 0 w2) := ⟨hi2.now, hi2.sure.as (fun i _ => by simp), hi2.dirty.as (fun i _ => by simp), Tn.refl _ _⟩
      clear hi2 ht2 c6 HI HR
      go_wp2_with fail
      go_loopw [3] (fun iv wr => ∃ j : Nat, j ≤ d1.n ∧ iv = .int .i64 j ∧ Hid (Rb w2 N S D d1 j wr)) (fun iv _ => d1.n - (intOf iv).toNat)
      case atStart => exact ⟨0, Nat.zero_le _, rfl, HB0⟩
      case round =>
        obtain ⟨j, hj, rfl, HB⟩ := hrel
        clear HB0
        obtain ⟨r0, r1, r2, -⟩ := rcells HI2.out HB.out.tn
        by_cases hq : j < d1.n
        · have hqi : (j : Int) < (d1.n : Int) := by omega
          obtain ⟨t0, -⟩ := HB.out.now.cell hq
          obtain ⟨s0, s1⟩ := HB.out.sure.cell hq
          obtain ⟨b0, b1⟩ := HB.out.dirty.cell hq
          simp only [Nat.lt_irrefl, if_false] at s0 b0
          go_wp2_with fail
          refine wp_region_tail 13 (by kernel_rfl) (by kernel_rfl) ?_
          simp only [List.take_succ_cons, List.take_zero, List.drop_succ_cons, List.drop_zero]
          iterate 13 still_step
          refine wpStill_nil ?_
          go_wp2
          go_roundw
          case rel => exact ⟨j + 1, by omega, by go_num, HB.out.over hq HNE.out rfl⟩
          case measure => simp [intOf]; omega
        · have hjn : d1.n = j := by omega
          go_wp2
          go_ret
          refine ⟨rfl, _, ⟨N, S, D, cN, cS, q, cq, kk, kb, rfl, rb_end HI2.out (by rw [hjn]; exact HB.out)⟩, (HT2.out.mono (by simp)).trans (HB.out.tn.mono (T := R :: N :: S :: D :: kb) (by simp)) (fun x hx => .inl hx), fun b hb => .inl hb⟩
  · rw [hd] at c6
    simp only [if_true]
    clear h
    go_enter Try.func30, Try.ntmps30
    go_wp2
    go_ret
    exact ⟨rfl, RTurns.refl HR.out⟩
end

end Go.Proofs.Ytpggnejifpcnmaa
