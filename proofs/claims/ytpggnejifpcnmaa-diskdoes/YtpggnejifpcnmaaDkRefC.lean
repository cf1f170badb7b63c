/- The reference: crash, write, read. -/
import Derived.Test.YtpggnejifpcnmaaDkRefB
namespace Go.Proofs.Ytpggnejifpcnmaa
open Go.RowKit Go.Shelf Go.Maps
set_option linter.unusedVariables false

theorem IsRf.put {w w' : World} {R N S D cN cS : Nat} {p : Option Addr} {c : Nat} {kk : List Bool} {kb : List Nat} {d : Dk} (h : IsRf w R N S D cN cS p c kk kb d) {k : Nat} (hk : k < d.n) {xs : List Int} (hx : Sec xs)
    (hw : w' = ((w.setCell ⟨N, k, none⟩ (.string (strOfNums xs))).setCell ⟨D, k, none⟩ (.bool true)).drew) : IsRf w' R N S D cN cS p c kk kb { d with dirty := upd d.dirty k xs } ∧ Tn [N, D] w w' := by
  subst hw
  obtain ⟨n1, n2, n3, n4, n5, n6⟩ := h.ne
  have t1 : Tn [N] w (w.setCell ⟨N, k, none⟩ (.string (strOfNums xs))) := (Tn.refl _ _).setCell (by simp) _
  have t2 : Tn [D] (w.setCell ⟨N, k, none⟩ (.string (strOfNums xs))) (((w.setCell ⟨N, k, none⟩ (.string (strOfNums xs))).setCell ⟨D, k, none⟩ (.bool true)).drew) := ((Tn.refl _ _).setCell (by simp) _).drew
  have t3 : Tn [N, D] w (((w.setCell ⟨N, k, none⟩ (.string (strOfNums xs))).setCell ⟨D, k, none⟩ (.bool true)).drew) := (((Tn.refl _ _).setCell (by simp) _).setCell (by simp) _).drew
  refine ⟨?_, t3⟩
  exact { h with
    blk := h.blk.tn t3 (by simp; omega)
    now := (h.now.set hk ⟨by simp [Dk.last, upd], fun x _ hx => by simp [Dk.last, upd, hx]⟩).tn t2 (by simp; omega)
    sure := h.sure.tn t3 (by simp; omega)
    dirty := (h.dirty.tn t1 (by simp; omega)).set hk ⟨by simp [upd], fun x _ hx => by simp [upd, hx]⟩
    keep := h.keep.tn t3 (fun ad ha hl hm => by
      have h0 := h.kbs ad ha hl
      simp only [List.mem_cons, List.not_mem_nil, or_false] at hm
      rcases hm with e | e
      · exact h.kne.2.1 (e ▸ h0)
      · exact h.kne.2.2.2 (e ▸ h0))
    klt := fun b hb => Nat.lt_of_lt_of_le (h.klt b hb) t3.size
    secD := fun i x hix => by
      simp only [upd] at hix
      split at hix
      · cases hix
        exact hx
      · exact h.secD i x hix }

section
variable {w : World} {R : Nat} {bs : List Nat} {d : Dk}

set_option maxHeartbeats 2000000 in
theorem rcrash (h : Rf w R bs d) (p : Option Addr) (c : Nat) (ks : List Bool) (len : Nat) (hlen : ks.length = len) (hks : Bls w p ks) (hkS : ∀ ad, p = some ad → 0 < ks.length → ad.block ∉ bs) :
    Calls Try.prog 32 #[.pointer (some ⟨R, 0, none⟩), .slice p len c] w fun e w' => e = .returned (.int .i64 (d.crash ks).1) ∧ RTurns w w' R bs (d.crash ks).2 := by
  have HR : Hid (Rf w R bs d) := h
  obtain ⟨N, S, D, cN, cS, q, cq, kk, kb, rfl, h⟩ := h
  obtain ⟨-, -, -, -, -, -, c6⟩ := h.cells
  have HL : Hid (Calls Try.prog 53 #[.pointer (some ⟨R, 0, none⟩), .slice p len c] w fun e w' => e = .returned (.tuple #[]) ∧ RTurns w w' R (R :: N :: S :: D :: kb) (d.lose ks)) :=
    rlose h p c ks len hlen hks (fun ad ha hl hm => hkS ad ha hl (by simp at hm ⊢; rcases hm with e | e | e <;> simp [e]))
  clear h hks hkS hlen
  unfold Dk.crash
  cases hd : d.down
  · rw [hd] at c6
    simp only [Bool.false_eq_true, if_false]
    go_enter Try.func32, Try.ntmps32
    go_wp2_with fail
    refine Calls.mono HL.out ?_
    rintro e w1 ⟨rfl, ht⟩
    clear HL
    go_wp2
    go_ret
    exact ⟨rfl, ht⟩
  · rw [hd] at c6
    simp only [if_true]
    go_enter Try.func32, Try.ntmps32
    go_wp2
    go_ret
    exact ⟨rfl, RTurns.refl HR.out⟩

set_option maxRecDepth 100000 in
set_option maxHeartbeats 4000000 in
theorem rwrite (h : Rf w R bs d) (i : Int) (p : Option Addr) (len c : Nat) (xs : List Int) (hlen : xs.length = len) (hx : Bys w p xs) (hby : ∀ y ∈ xs, 0 ≤ y ∧ y < 256) (hxS : ∀ ad, p = some ad → 0 < xs.length → ad.block ∉ bs) :
    Calls Try.prog 29 #[.pointer (some ⟨R, 0, none⟩), .int .i64 i, .slice p len c] w fun e w' => e = .returned (.int .i64 (d.write i xs).1) ∧ RTurns w w' R bs (d.write i xs).2 := by
  have HR : Hid (Rf w R bs d) := h
  unfold Dk.write
  by_cases hr : d.reach i = 0
  · obtain ⟨hd, k, rfl, hk⟩ := Dk.reach_ok hr
    have HRE : Hid (d.reach (k : Int) = 0) := hr
    simp only [hr, ne_eq, not_true_eq_false, if_false]
    by_cases h5 : xs.length = 512
    · obtain rfl : len = 512 := by omega
      simp only [h5, not_true_eq_false, if_false, Int.toNat_natCast]
      obtain ⟨N, S, D, cN, cS, q, cq, kk, kb, rfl, h⟩ := h
      have HI : Hid (IsRf w R N S D cN cS q cq kk kb d) := h
      have HX : Hid (∀ w1, Tn [R] w w1 → Bys w1 p xs) := by
        intro w1 k1 hl
        obtain ⟨b, o, rfl, hc⟩ := hx hl
        have hb := hxS _ rfl hl
        exact ⟨b, o, rfl, fun y hy => k1.cell (hc y hy) (by simp at hb ⊢; exact hb.1)⟩
      have HSEC : Hid (Sec xs) := ⟨h5, hby⟩
      have HKK : Hid (d.count.1 = true → kk = d.count.2.keep) := by
        intro hc
        unfold Dk.count at hc ⊢
        split at hc
        · cases hc
        · rename_i hl0
          rw [if_neg hl0]
          exact h.eqk hl0
      obtain ⟨n1, n2, n3, n4, n5, n6⟩ := h.ne
      have m1 := n1.symm
      have m3 := n3.symm
      have m5 := n5.symm
      have hn2 := h.n2
      have hki : (k : Int) < (d.n : Int) := by omega
      have hen : d.count.2.n = d.n := by unfold Dk.count; split <;> rfl
      have hes : d.count.2.sure = d.sure := by unfold Dk.count; split <;> rfl
      have hed : d.count.2.dirty = d.dirty := by unfold Dk.count; split <;> rfl
      clear h hx hxS hby hd
      have hcw : ({ d with dirty := upd d.dirty k xs } : Dk).count = (d.count.1, { d.count.2 with dirty := upd d.dirty k xs }) := by
        unfold Dk.count
        split <;> rfl
      unfold Dk.wrote
      rw [hcw]
      obtain ⟨⟨hit, d1⟩, hc⟩ : ∃ x, d.count = x := ⟨_, rfl⟩
      have HC : Hid (d.count = (hit, d1)) := hc
      rw [hc] at hen hes hed HKK ⊢
      have HEN : Hid (d1.n = d.n) := hen
      have HES : Hid (d1.sure = d.sure) := hes
      have HED : Hid (d1.dirty = d.dirty) := hed
      clear hen hes hed hcw hc
      cases hit with
      | false =>
        simp only [Bool.false_eq_true, if_false]
        go_enter Try.func29, Try.ntmps29
        go_wp2_with fail
        refine (rmay HR.out _).mono ?_
        rintro e w1 ⟨rfl, rfl⟩
        rw [HRE.out]
        go_wp2_with fail
        refine (rmeets HI.out).mono ?_
        rintro e w2 ⟨rfl, hi2, ht2⟩
        rw [HC.out] at hi2 ⊢
        have HI2 : Hid (IsRf w2 R N S D cN cS q cq kk kb d1) := hi2
        have HT2 : Hid (Tn [R] w1 w2) := ht2
        have cv := conv_str (HX.out w2.drew ht2.drew) 512 c h5
        obtain ⟨r0, -, r2, -, r4, -⟩ := hi2.cells
        have hk2 : k < d1.n := by rw [HEN.out]; exact hk
        obtain ⟨t0, t1⟩ := hi2.now.cell hk2
        obtain ⟨b0, b1⟩ := hi2.dirty.cell hk2
        have hki2 : (k : Int) < (d1.n : Int) := by omega
        have hnn : d1.n ≤ 16384 := by have := HEN.out; omega
        clear hi2 ht2 HX HR HI
        go_wp2_with fail
        refine wp_region_tail 8 (by kernel_rfl) (by kernel_rfl) ?_
        simp only [List.take_succ_cons, List.take_zero, List.drop_succ_cons, List.drop_zero]
        iterate 8 still_step
        refine wpStill_nil ?_
        obtain ⟨w5, hw5⟩ : ∃ w5, w5 = ((w2.setCell ⟨N, k, none⟩ (.string (strOfNums xs))).setCell ⟨D, k, none⟩ (.bool true)).drew := ⟨_, rfl⟩
        have hp5 := HI2.out.put hk2 HSEC.out hw5
        rw [HED.out] at hp5
        have HI5 : Hid (IsRf w5 R N S D cN cS q cq kk kb { d1 with dirty := upd d.dirty k xs }) := hp5.1
        have HT5 : Hid (Tn [N, D] w2 w5) := hp5.2
        have HT15 : Hid (Tn (R :: N :: S :: D :: kb) w1 w5) := (HT2.out.mono (by simp)).trans HT5.out (fun x hx => .inl (by simp at hx; rcases hx with e | e <;> simp [e]))
        clear hp5
        go_wp2
        go_ret
        refine ⟨rfl, _, ⟨N, S, D, cN, cS, q, cq, kk, kb, rfl, ?_⟩, ?_, fun b hb => .inl hb⟩
        · rw [hw5] at HI5
          exact HI5.out
        · rw [hw5] at HT15
          exact HT15.out
      | true =>
        simp only [if_true]
        go_enter Try.func29, Try.ntmps29
        go_wp2_with fail
        refine (rmay HR.out _).mono ?_
        rintro e w1 ⟨rfl, rfl⟩
        rw [HRE.out]
        go_wp2_with fail
        refine (rmeets HI.out).mono ?_
        rintro e w2 ⟨rfl, hi2, ht2⟩
        rw [HC.out] at hi2 ⊢
        have HI2 : Hid (IsRf w2 R N S D cN cS q cq kk kb d1) := hi2
        have HT2 : Hid (Tn [R] w1 w2) := ht2
        have cv := conv_str (HX.out w2.drew ht2.drew) 512 c h5
        obtain ⟨r0, -, r2, -, r4, -⟩ := hi2.cells
        have hk2 : k < d1.n := by rw [HEN.out]; exact hk
        obtain ⟨t0, t1⟩ := hi2.now.cell hk2
        obtain ⟨b0, b1⟩ := hi2.dirty.cell hk2
        have hki2 : (k : Int) < (d1.n : Int) := by omega
        have hnn : d1.n ≤ 16384 := by have := HEN.out; omega
        clear hi2 ht2 HX HR HI
        go_wp2_with fail
        refine wp_region_tail 8 (by kernel_rfl) (by kernel_rfl) ?_
        simp only [List.take_succ_cons, List.take_zero, List.drop_succ_cons, List.drop_zero]
        iterate 8 still_step
        refine wpStill_nil ?_
        obtain ⟨w5, hw5⟩ : ∃ w5, w5 = ((w2.setCell ⟨N, k, none⟩ (.string (strOfNums xs))).setCell ⟨D, k, none⟩ (.bool true)).drew := ⟨_, rfl⟩
        have hp5 := HI2.out.put hk2 HSEC.out hw5
        rw [HED.out] at hp5
        have HI5 : Hid (IsRf w5 R N S D cN cS q cq kk kb { d1 with dirty := upd d.dirty k xs }) := hp5.1
        have HT5 : Hid (Tn [N, D] w2 w5) := hp5.2
        have HT15 : Hid (Tn (R :: N :: S :: D :: kb) w1 w5) := (HT2.out.mono (by simp)).trans HT5.out (fun x hx => .inl (by simp at hx; rcases hx with e | e <;> simp [e]))
        clear hp5
        go_wp2_with fail
        rw [← hw5]
        have HKQ : Hid (kk = d1.keep) := HKK.out (by simp)
        clear hw5 r0 r2 r4 t0 t1 b0 b1 cv HKK
        refine (rlose HI5.out q cq kk kk.length rfl HI5.out.keep (fun ad ha hl hm => by
          have h0 := HI5.out.kbs ad ha hl
          simp only [List.mem_cons, List.not_mem_nil, or_false] at hm
          rcases hm with e | e | e
          · exact HI5.out.kne.2.1 (e ▸ h0)
          · exact HI5.out.kne.2.2.1 (e ▸ h0)
          · exact HI5.out.kne.2.2.2 (e ▸ h0))).mono ?_
        rintro e w6 ⟨rfl, ht6⟩
        have HT6 : Hid (RTurns w5 w6 R (R :: N :: S :: D :: kb) (({ d1 with dirty := upd d.dirty k xs } : Dk).lose kk)) := ht6
        clear ht6
        go_wp2
        go_ret
        obtain ⟨bs', h1, h2, h3⟩ := HT6.out
        refine ⟨rfl, bs', ?_, HT15.out.trans h2 (fun x hx => .inl hx), fun b hb => (h3 b hb).elim .inl (fun h => .inr (Nat.le_trans HT15.out.size h))⟩
        rw [HKQ.out] at h1
        exact h1
    · simp only [h5, not_false_eq_true, if_true]
      have h5i : (len : Int) ≠ 512 := by omega
      clear hx hxS hby h
      go_enter Try.func29, Try.ntmps29
      go_wp2_with fail
      refine (rmay HR.out _).mono ?_
      rintro e w1 ⟨rfl, rfl⟩
      rw [HRE.out]
      go_wp2
      go_ret
      exact ⟨rfl, RTurns.refl HR.out⟩
  · have HRE : Hid (¬ d.reach i = 0) := hr
    have hrb : (d.reach i != 0) = true := by simpa using hr
    simp only [hr, ne_eq, not_false_eq_true, if_true]
    clear hx hxS hby h hr
    go_enter Try.func29, Try.ntmps29
    go_wp2_with fail
    refine (rmay HR.out _).mono ?_
    rintro e w1 ⟨rfl, rfl⟩
    go_wp2
    go_ret
    exact ⟨rfl, RTurns.refl HR.out⟩
end

end Go.Proofs.Ytpggnejifpcnmaa
