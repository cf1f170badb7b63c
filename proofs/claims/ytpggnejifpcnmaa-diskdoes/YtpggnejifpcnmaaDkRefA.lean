/- The reference: counting, losing. -/
import Derived.Test.YtpggnejifpcnmaaDkRef
import Derived.StillTail
namespace Go.Proofs.Ytpggnejifpcnmaa
open Go.RowKit Go.Shelf Go.Maps
set_option linter.unusedVariables false

section
variable {w w' : World} {R N S D cN cS : Nat} {p : Option Addr} {c : Nat} {kk : List Bool} {kb : List Nat} {d : Dk}

theorem IsRf.reblk (h : IsRf w R N S D cN cS p c kk kb d) (k : Tn [R] w w') (d' : Dk)
    (hb : Bk w' R 65 #[.slice (some ⟨N, 0, none⟩) d'.n cN, .slice (some ⟨S, 0, none⟩) d'.n cS, .slice (some ⟨D, 0, none⟩) d'.n d'.n, .int .i64 d'.left, .slice p kk.length c, .int .i64 d'.calls, .bool d'.down])
    (hn : d'.n = d.n) (hs : d'.sure = d.sure) (hdt : d'.dirty = d.dirty) (hk : d'.left ≠ 0 → kk = d'.keep) (hl : 0 ≤ d'.left ∧ d'.left ≤ 9223372036854775807) : IsRf w' R N S D cN cS p c kk kb d' := by
  obtain ⟨n1, n2, n3, n4, n5, n6⟩ := h.ne
  have el : d'.last = d.last := by
    funext i
    simp only [Dk.last, hs, hdt]
  exact {
    blk := hb
    now := by rw [hn, el]; exact h.now.tn k (by simp; omega)
    sure := by rw [hn, hs]; exact h.sure.tn k (by simp; omega)
    dirty := by rw [hn, hdt]; exact h.dirty.tn k (by simp; omega)
    keep := h.keep.tn k (fun ad ha hl => by have := h.kbs ad ha hl; simp; rintro rfl; exact h.kne.1 this)
    kbs := h.kbs
    kne := h.kne
    klt := fun b hb => Nat.lt_of_lt_of_le (h.klt b hb) k.size
    ne := h.ne
    eqk := hk
    n1 := by rw [hn]; exact h.n1
    n2 := by rw [hn]; exact h.n2
    caps := by rw [hn]; exact h.caps
    secS := by rw [hn, hs]; exact h.secS
    secD := by rw [hdt]; exact h.secD
    left := hl }

theorem rturns_of (h : IsRf w' R N S D cN cS p c kk kb d) (k : Tn [R] w w') : RTurns w w' R (R :: N :: S :: D :: kb) d :=
  ⟨_, ⟨N, S, D, cN, cS, p, c, kk, kb, rfl, h⟩, k.mono (by simp), fun b hb => .inl hb⟩

set_option maxHeartbeats 2000000 in
theorem rmeets (h : IsRf w R N S D cN cS p c kk kb d) :
    Calls Try.prog 52 #[.pointer (some ⟨R, 0, none⟩)] w fun e w' => e = .returned (.bool d.count.1) ∧ IsRf w' R N S D cN cS p c kk kb d.count.2 ∧ Tn [R] w w' := by
  have HD : Hid (IsRf w R N S D cN cS p c kk kb d) := h
  obtain ⟨-, -, -, c3, -, c5, -⟩ := h.cells
  have f3 := h.blk.frozen 3
  have f5 := h.blk.frozen 5
  have hl := h.left
  clear h
  obtain ⟨l, hlq⟩ : ∃ l, l = d.left := ⟨_, rfl⟩
  rw [← hlq] at c3 hl
  have HQ : Hid (l = d.left) := hlq
  obtain ⟨q, hq⟩ : ∃ q, q = d.calls := ⟨_, rfl⟩
  rw [← hq] at c5
  have HQ2 : Hid (q = d.calls) := hq
  clear hlq hq
  by_cases h0 : l = 0
  · subst h0
    go_enter Try.func52, Try.ntmps52
    go_wp2
    go_ret
    have e1 : d.count = (false, { d with calls := wrap64 (d.calls + 1) }) := by simp [Dk.count, ← HQ.out]
    rw [e1]
    refine ⟨rfl, IsRf.reblk HD.out (Tn.setCell (Tn.refl _ _) (by simp) _) _ ?_ rfl rfl rfl HD.out.eqk HD.out.left, Tn.setCell (Tn.refl _ _) (by simp) _⟩
    rw [← HQ2.out]
    exact HD.out.blk.set 5 _
  · go_enter Try.func52, Try.ntmps52
    go_wp2
    go_ret
    have hl0 : ¬ d.left = 0 := by rw [← HQ.out]; exact h0
    have e1 : d.count = (decide (d.left = 1), { d with calls := wrap64 (d.calls + 1), left := d.left - 1 }) := by simp [Dk.count, hl0]
    rw [e1]
    have t1 : Tn [R] w ((w.setCell ⟨R, 5, none⟩ (Value.int IntKind.i64 (wrap64 (q + 1)))).setCell ⟨R, 3, none⟩ (Value.int IntKind.i64 (l - 1))) := Tn.setCell (Tn.setCell (Tn.refl _ _) (by simp) _) (by simp) _
    refine ⟨?_, IsRf.reblk HD.out t1 _ ?_ rfl rfl rfl (fun _ => HD.out.eqk hl0) ?_, t1⟩
    · rw [← HQ.out]
      have : (l - 1 == 0) = decide (l = 1) := by
        rw [Bool.eq_iff_iff]
        simp
        omega
      simp [this]
    · rw [← HQ2.out, ← HQ.out]
      exact (HD.out.blk.set 5 _).set 3 _
    · have := HQ.out
      simp only []
      omega

set_option maxHeartbeats 2000000 in
theorem rrestart {bs : List Nat} (h : Rf w R bs d) :
    Calls Try.prog 19 #[.pointer (some ⟨R, 0, none⟩)] w fun e w' => e = .returned (.int .i64 0) ∧ RTurns w w' R bs { d with down := false } := by
  obtain ⟨N, S, D, cN, cS, p, c, kk, kb, rfl, h⟩ := h
  have HD : Hid (IsRf w R N S D cN cS p c kk kb d) := h
  obtain ⟨-, -, -, -, -, -, c6⟩ := h.cells
  have f6 := h.blk.frozen 6
  clear h
  go_enter Try.func19, Try.ntmps19
  go_wp2
  go_ret
  exact ⟨rfl, rturns_of (IsRf.reblk HD.out (Tn.setCell (Tn.refl _ _) (by simp) _) _ (HD.out.blk.set 6 _) rfl rfl rfl HD.out.eqk HD.out.left) (Tn.setCell (Tn.refl _ _) (by simp) _)⟩
end

/-- What stands ahead of a round of a crash. -/
structure Rl (w : World) (N S D : Nat) (d : Dk) (ks : List Bool) (jn j : Nat) (wr : World) : Prop where
  now : SRow wr N d.n (fun i => if i < jn then loseS d.dirty ks d.sure i else d.last i)
  sure : SRow wr S d.n (fun i => if i < j then loseS d.dirty ks d.sure i else d.sure i)
  dirty : BRow wr D d.n (fun i => if i < j then false else (d.dirty i).isSome)
  tn : Tn [N, S, D] w wr

theorem if_step {α : Type} (f g : Nat → α) (j : Nat) : (fun i => if i < j + 1 then f i else g i) j = f j ∧ ∀ x, x ≠ j → (fun i => if i < j + 1 then f i else g i) x = (fun i => if i < j then f i else g i) x := by
  refine ⟨by simp, fun x hx => ?_⟩
  by_cases h : x < j
  · simp [h, show x < j + 1 by omega]
  · simp [h, show ¬ x < j + 1 by omega]

section
variable {w w1 : World} {R N S D cN cS : Nat} {p : Option Addr} {c : Nat} {kk : List Bool} {kb : List Nat} {d : Dk} {ks : List Bool} {j : Nat}

theorem Rl.stay (h : Rl w N S D d ks j j w1) (e : d.last j = loseS d.dirty ks d.sure j) : Rl w N S D d ks (j + 1) j w1 :=
  { h with
    now := h.now.as fun i hi => by
      by_cases hij : i = j
      · subst hij
        simp [e]
      · exact (if_step _ _ j).2 i hij }

theorem Rl.take (h : Rl w N S D d ks j j w1) (hj : j < d.n) (hne : N ≠ S ∧ N ≠ D) {xs : List Int} (e : loseS d.dirty ks d.sure j = xs) {w2 : World} (hw2 : w2 = w1.setCell ⟨N, j, none⟩ (.string (strOfNums xs))) : Rl w N S D d ks (j + 1) j w2 := by
  subst hw2
  have t : Tn [N] w1 (w1.setCell ⟨N, j, none⟩ (.string (strOfNums xs))) := (Tn.refl _ _).setCell (by simp) _
  exact {
    now := h.now.set hj ⟨by rw [← e]; simp, fun x _ hx => (if_step _ _ j).2 x hx⟩
    sure := h.sure.tn t (by simp; omega)
    dirty := h.dirty.tn t (by simp; omega)
    tn := h.tn.setCell (by simp) _ }

theorem Rl.over (h : Rl w N S D d ks (j + 1) j w1) (hj : j < d.n) (hne : N ≠ S ∧ N ≠ D ∧ S ≠ D) {w2 : World} (hw2 : w2 = (w1.setCell ⟨S, j, none⟩ (.string (strOfNums (loseS d.dirty ks d.sure j)))).setCell ⟨D, j, none⟩ (.bool false)) : Rl w N S D d ks (j + 1) (j + 1) w2 := by
  subst hw2
  have t : Tn [S] w1 (w1.setCell ⟨S, j, none⟩ (.string (strOfNums (loseS d.dirty ks d.sure j)))) := (Tn.refl _ _).setCell (by simp) _
  have t2 : Tn [D] (w1.setCell ⟨S, j, none⟩ (.string (strOfNums (loseS d.dirty ks d.sure j)))) ((w1.setCell ⟨S, j, none⟩ (.string (strOfNums (loseS d.dirty ks d.sure j)))).setCell ⟨D, j, none⟩ (.bool false)) := (Tn.refl _ _).setCell (by simp) _
  exact {
    now := (h.now.tn t (by simp; omega)).tn t2 (by simp; omega)
    sure := (h.sure.set hj ⟨(if_step _ _ j).1, fun x _ hx => (if_step _ _ j).2 x hx⟩).tn t2 (by simp; omega)
    dirty := (h.dirty.tn t (by simp; omega)).set hj ⟨by simp, fun x _ hx => (if_step (fun _ => false) (fun i => (d.dirty i).isSome) j).2 x hx⟩
    tn := (h.tn.setCell (by simp) _).setCell (by simp) _ }

theorem Rl.drew (h : Rl w N S D d ks j j w1) : Rl w N S D d ks j j w1.drew := ⟨h.now, h.sure, h.dirty, h.tn.drew⟩
end

end Go.Proofs.Ytpggnejifpcnmaa
