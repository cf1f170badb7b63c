/- The document's epoch: sessions, what is retired. -/
import Derived.Test.YtndmcjkbbedoeaaEpRf
namespace Go.Proofs.Ytndmcjkbbedoeaa
open Go.RowKit
set_option linter.unusedVariables false
set_option maxRecDepth 100000

theorem rses_ok (w : World) (s : Int) (k1 : 0 ≤ s) (k2 : s ≤ 16) : Calls Try.prog 41 #[.int .i64 s] w fun r w' => r = .returned (.bool true) ∧ w' = w := by
  go_enter Try.func41, Try.ntmps41
  go_wp2
  go_ret
  exact ⟨by simp, rfl⟩

theorem rses_bad (w : World) (s : Int) (hs : s < 0 ∨ 16 < s) : Calls Try.prog 41 #[.int .i64 s] w fun r w' => r = .returned (.bool false) ∧ w' = w := by
  by_cases h1 : s < 0
  · have h2 : ¬ 0 ≤ s := by omega
    clear hs
    go_enter Try.func41, Try.ntmps41
    go_wp2
    go_ret
    exact ⟨rfl, rfl⟩
  · have h2 : 0 ≤ s := by omega
    have h3 : ¬ s ≤ 16 := by omega
    clear hs h1
    go_enter Try.func41, Try.ntmps41
    go_wp2
    go_ret
    exact ⟨by simp, rfl⟩

set_option maxHeartbeats 1000000 in
theorem rpin_any {w : World} {R : Nat} {rs : List Nat} {e : Ep} (h : Ren w R rs e) (s : Nat) (hs : s < 17) :
    Calls Try.prog 24 #[.pointer (some ⟨R, 0, none⟩), .int .i64 (s : Int)] w fun r w' => r = .returned (.int .i64 (if e.pin s = 0 then 0 else 60)) ∧ ReT w w' R rs (if e.pin s = 0 then e.setPin s e.now else e) := by
  obtain ⟨v, atl, rfl, h⟩ := h
  have c0 := h.cIs s hs
  have g1 : (0 : Int) ≤ (s : Int) := by omega
  have g2 : (s : Int) ≤ 16 := by omega
  have g3 : (s : Int) < 17 := by omega
  by_cases hp : e.pin s = 0
  · rw [if_pos hp, if_pos hp]
    have f0 : w.frozen? ⟨R, 1 + s, none⟩ = false := h.blk.frozen _
    have hB := h.blk.set (1 + s) (.bool true)
    rw [re_setIs _ _ _ _ _ s (by simp [h.p17]; exact hs)] at hB
    have d0 : (w.setCell ⟨R, 1 + s, none⟩ (.bool true)).drew.cell? ⟨R, 0, none⟩ = some (.int .i64 (e.now : Int)) := (hB.cell 0).trans (re_now _ _ _ _)
    have d1 : (w.setCell ⟨R, 1 + s, none⟩ (.bool true)).drew.cell? ⟨R, 18 + s, none⟩ = some (.int .i64 ((atl.getD s 0 : Nat) : Int)) := (hB.cell _).trans (re_at _ _ _ _ (by simp [h.p17]) s (by rw [h.a17]; exact hs))
    have d2 : (w.setCell ⟨R, 1 + s, none⟩ (.bool true)).drew.frozen? ⟨R, 18 + s, none⟩ = false := hB.frozen _
    have HT : Hid (ReT w ((w.setCell ⟨R, 1 + s, none⟩ (.bool true)).drew.setCell ⟨R, 18 + s, none⟩ (.int .i64 (e.now : Int))) R (R :: v.ownBlock.toList) (e.setPin s e.now)) := (h.pin s hs).then (Tn.refl [] _).drew
    rw [show decide (e.pin s ≠ 0) = false by simp [hp]] at c0
    clear h hp hB
    generalize e.now = n at *
    generalize atl.getD s 0 = x at *
    go_enter Try.func24, Try.ntmps24
    go_wp2_with fail
    refine (rses_ok _ _ g1 g2).mono ?_
    rintro r w1 ⟨rfl, rfl⟩
    go_wp2_with fail
    go_region
    go_wp2
    go_ret
    exact ⟨rfl, HT.out⟩
  · rw [if_neg hp, if_neg hp]
    have HT : Hid (ReT w w R (R :: v.ownBlock.toList) e) := ReT.refl ⟨v, atl, rfl, h⟩
    rw [show decide (e.pin s ≠ 0) = true by simp [hp]] at c0
    clear h hp
    go_enter Try.func24, Try.ntmps24
    go_wp2_with fail
    refine (rses_ok _ _ g1 g2).mono ?_
    rintro r w1 ⟨rfl, rfl⟩
    go_wp2
    go_ret
    exact ⟨rfl, HT.out⟩

theorem rpin_int {w : World} {R : Nat} {rs : List Nat} {e : Ep} (h : Ren w R rs e) (s : Int) :
    Calls Try.prog 24 #[.pointer (some ⟨R, 0, none⟩), .int .i64 s] w fun r w' => r = .returned (.int .i64 (e.pinE s)) ∧ ReT w w' R rs (e.pinI s) := by
  unfold Ep.pinE Ep.pinI
  by_cases hs : s < 0 ∨ 16 < s
  · rw [if_pos hs, if_pos hs]
    have HS : Hid (s < 0 ∨ 16 < s) := hs
    have HT : Hid (ReT w w R rs e) := ReT.refl h
    clear hs h
    go_enter Try.func24, Try.ntmps24
    go_wp2_with fail
    refine (rses_bad _ _ HS.out).mono ?_
    rintro r w1 ⟨rfl, rfl⟩
    go_wp2
    go_ret
    exact ⟨rfl, HT.out⟩
  · rw [if_neg hs, if_neg hs]
    obtain ⟨k, rfl⟩ := Int.eq_ofNat_of_zero_le (show 0 ≤ s by omega)
    exact rpin_any h k (by omega)

set_option maxHeartbeats 1000000 in
theorem runpin_any {w : World} {R : Nat} {rs : List Nat} {e : Ep} (h : Ren w R rs e) (s : Nat) (hs : s < 17) :
    Calls Try.prog 25 #[.pointer (some ⟨R, 0, none⟩), .int .i64 (s : Int)] w fun r w' => r = .returned (.int .i64 (if e.pin s = 0 then 61 else 0)) ∧ ReT w w' R rs (e.setPin s 0) := by
  obtain ⟨v, atl, rfl, h⟩ := h
  have c0 := h.cIs s hs
  have f0 : w.frozen? ⟨R, 1 + s, none⟩ = false := h.blk.frozen _
  have g1 : (0 : Int) ≤ (s : Int) := by omega
  have g2 : (s : Int) ≤ 16 := by omega
  have g3 : (s : Int) < 17 := by omega
  by_cases hp : e.pin s = 0
  · rw [if_pos hp]
    have HT : Hid (ReT w w R (R :: v.ownBlock.toList) (e.setPin s 0)) := by
      rw [Hid, Ep.setPin_same hp (by rw [h.p17]; exact hs)]
      exact ReT.refl ⟨v, atl, rfl, h⟩
    rw [show decide (e.pin s ≠ 0) = false by simp [hp]] at c0
    clear h hp
    go_enter Try.func25, Try.ntmps25
    go_wp2_with fail
    refine (rses_ok _ _ g1 g2).mono ?_
    rintro r w1 ⟨rfl, rfl⟩
    go_wp2
    go_ret
    exact ⟨rfl, HT.out⟩
  · rw [if_neg hp]
    have HT : Hid (ReT w (w.setCell ⟨R, 1 + s, none⟩ (.bool false)) R (R :: v.ownBlock.toList) (e.setPin s 0)) := h.unpin s hs
    rw [show decide (e.pin s ≠ 0) = true by simp [hp]] at c0
    clear h hp
    go_enter Try.func25, Try.ntmps25
    go_wp2_with fail
    refine (rses_ok _ _ g1 g2).mono ?_
    rintro r w1 ⟨rfl, rfl⟩
    go_wp2
    go_ret
    exact ⟨rfl, HT.out⟩

theorem runpin_int {w : World} {R : Nat} {rs : List Nat} {e : Ep} (h : Ren w R rs e) (s : Int) :
    Calls Try.prog 25 #[.pointer (some ⟨R, 0, none⟩), .int .i64 s] w fun r w' => r = .returned (.int .i64 (e.unpinE s)) ∧ ReT w w' R rs (e.unpinI s) := by
  unfold Ep.unpinE Ep.unpinI
  by_cases hs : s < 0 ∨ 16 < s
  · rw [if_pos hs, if_pos hs]
    have HS : Hid (s < 0 ∨ 16 < s) := hs
    have HT : Hid (ReT w w R rs e) := ReT.refl h
    clear hs h
    go_enter Try.func25, Try.ntmps25
    go_wp2_with fail
    refine (rses_bad _ _ HS.out).mono ?_
    rintro r w1 ⟨rfl, rfl⟩
    go_wp2
    go_ret
    exact ⟨rfl, HT.out⟩
  · rw [if_neg hs, if_neg hs]
    obtain ⟨k, rfl⟩ := Int.eq_ofNat_of_zero_le (show 0 ≤ s by omega)
    exact runpin_any h k (by omega)

theorem rpinned_bad {w : World} {R : Nat} (s : Int) (hs : s < 0 ∨ 16 < s) :
    Calls Try.prog 31 #[.pointer (some ⟨R, 0, none⟩), .int .i64 s] w fun r w' => r = .returned (.tuple #[.int .i64 0, .bool false]) ∧ w' = w := by
  have HS : Hid (s < 0 ∨ 16 < s) := hs
  clear hs
  go_enter Try.func31, Try.ntmps31
  go_wp2_with fail
  refine (rses_bad _ _ HS.out).mono ?_
  rintro r w1 ⟨rfl, rfl⟩
  go_wp2
  go_ret2
  exact ⟨rfl, rfl⟩

set_option maxHeartbeats 1000000 in
theorem rpinned_any {w : World} {R : Nat} {rs : List Nat} {e : Ep} (h : Ren w R rs e) (s : Nat) (hs : s < 17) :
    Calls Try.prog 31 #[.pointer (some ⟨R, 0, none⟩), .int .i64 (s : Int)] w fun r w' => r = .returned (.tuple #[.int .i64 ((e.pin s : Nat) : Int), .bool (decide (e.pin s ≠ 0))]) ∧ w' = w := by
  obtain ⟨v, atl, rfl, h⟩ := h
  have c0 := h.cIs s hs
  have c1 := h.cAt s hs
  have g1 : (0 : Int) ≤ (s : Int) := by omega
  have g2 : (s : Int) ≤ 16 := by omega
  have g3 : (s : Int) < 17 := by omega
  by_cases hp : e.pin s = 0
  · rw [show decide (e.pin s ≠ 0) = false by simp [hp]] at c0 ⊢
    rw [hp]
    clear h hp
    go_enter Try.func31, Try.ntmps31
    go_wp2_with fail
    refine (rses_ok _ _ g1 g2).mono ?_
    rintro r w1 ⟨rfl, rfl⟩
    go_wp2
    go_ret2
    exact ⟨rfl, rfl⟩
  · rw [h.at' s hs hp] at c1
    rw [show decide (e.pin s ≠ 0) = true by simp [hp]] at c0 ⊢
    clear h hp
    generalize e.pin s = x at *
    go_enter Try.func31, Try.ntmps31
    go_wp2_with fail
    refine (rses_ok _ _ g1 g2).mono ?_
    rintro r w1 ⟨rfl, rfl⟩
    go_wp2
    go_ret2
    exact ⟨rfl, rfl⟩

theorem rnew_any (w : World) : Calls Try.prog 9 #[] w fun r w' => r = .returned (.pointer (some ⟨w.heap.size, 0, none⟩)) ∧ Ren w' w.heap.size [w.heap.size] Ep.fresh ∧ Below w.heap.size w w' ∧ w'.heap.size = w.heap.size + 1 := by
  have HE : Hid (Ren (w.alloc (.cells #[.int .i64 1, .bool false, .bool false, .bool false, .bool false, .bool false, .bool false, .bool false, .bool false, .bool false, .bool false, .bool false, .bool false, .bool false, .bool false, .bool false, .bool false, .bool false, .int .i64 0, .int .i64 0, .int .i64 0, .int .i64 0, .int .i64 0, .int .i64 0, .int .i64 0, .int .i64 0, .int .i64 0, .int .i64 0, .int .i64 0, .int .i64 0, .int .i64 0, .int .i64 0, .int .i64 0, .int .i64 0, .int .i64 0, .slice none 0 0] 41)) w.heap.size [w.heap.size] Ep.fresh) := by
    refine ⟨.slice none 0 0, List.replicate 17 0, rfl, ?_⟩
    exact {
      blk := Bk.new w _ _
      p17 := rfl
      a17 := rfl
      at' := fun s hs hp => by
        have : Ep.fresh.pin s = 0 := by
          unfold Ep.pin Ep.fresh
          rw [List.getD, List.getElem?_replicate]
          split <;> rfl
        exact absurd this hp
      row := Wr.nil _
      ne := fun b hb => by cases hb
      n1 := Nat.le_refl _ }
  go_enter Try.func9, Try.ntmps9
  go_wp2
  go_ret
  exact ⟨rfl, HE.out, (Below.refl _ _).alloc (Nat.le_refl _) _, by simp⟩

set_option maxHeartbeats 2000000 in
theorem rretire_any {w : World} {R : Nat} {rs : List Nat} {e : Ep} (h : Ren w R rs e) (x : Rt) (hl : e.limbo.length ≤ 3600000000000) :
    Calls Try.prog 26 #[.pointer (some ⟨R, 0, none⟩), x.val] w fun r w' => r = .returned (.int .i64 0) ∧ ReT w w' R rs (e.retire x) := by
  obtain ⟨v, atl, rfl, h⟩ := h
  have HI : Hid (IsRe w R v atl e) := h
  obtain ⟨p, c, hv, -⟩ := row_form h.row
  obtain ⟨n, hn⟩ : ∃ n, e.limbo.length = n := ⟨_, rfl⟩
  rw [hn] at hv hl
  have HN : Hid (e.limbo.length = n) := hn
  have HB : Hid (IsRe (w.alloc (.cells #[.int .i64 x.k, .int .i64 x.s, .int .i64 x.g] 31)) R v atl e) := h.tn ((Tn.refl [] _).alloc _) (by simp)
  have c0 := HB.out.cLim
  have k1 : Bk (w.alloc (.cells #[.int .i64 x.k, .int .i64 x.s, .int .i64 x.g] 31)) w.heap.size 31 #[.int .i64 x.k, .int .i64 x.s, .int .i64 x.g] := Bk.new _ _ _
  have HK1 : Hid _ := k1
  subst hv
  have HR : Hid (Wr (w.alloc (.cells #[.int .i64 x.k, .int .i64 x.s, .int .i64 x.g] 31)) (.slice p n c) e.limbo) := HB.out.row
  have HO : Hid (World.ownsRow (w.alloc (.cells #[.int .i64 x.k, .int .i64 x.s, .int .i64 x.g] 31)) 0 85 4 (.slice none 0 0) 0 []) := World.ownsRow_nil _ _ _ _
  clear h hn k1
  go_enter Try.func26, Try.ntmps26
  go_wp2_with (at_builtin; refine appX _ rfl _ _ _ rfl 85 (.agg #[.int .i64 0, .int .i64 0, .int .i64 0, .int .i64 0]) 4 32 Try.underlying39 wtinfo rfl (by decide) (.slice none 0 0) 0 [] rfl HO.out p n c (wts e.limbo) rfl HR.out.news.2.2.1 HR.out.news.1 HR.out.news.2.1 HR.out.news.2.2.2 (by unfold maxLen; omega) (by omega) ?_)
  intro v2 w2 o2 g2 q2
  have t2 : Tn [] w w2 := tnA g2 ((Tn.refl [] _).alloc _)
  have n2 : ∀ g, v2.ownBlock = some g → w.heap.size ≤ g := fun g hg => by have := newB q2 g hg; omega
  have kb2 : Bk w2 w.heap.size 31 #[.int .i64 x.k, .int .i64 x.s, .int .i64 x.g] := Bk.tn HK1.out (grown_tn g2) (by simp [Value.ownBlock])
  have d0 : w2.cell? ⟨w.heap.size, 0, none⟩ = some (.int .i64 x.k) := kb2.cell 0
  have d1 : w2.cell? ⟨w.heap.size, 1, none⟩ = some (.int .i64 x.s) := kb2.cell 1
  have d2 : w2.cell? ⟨w.heap.size, 2, none⟩ = some (.int .i64 x.g) := kb2.cell 2
  have HI2 : Hid (IsRe w2 R (.slice p n c) atl e) := HI.out.tn t2 (by simp)
  have e0 := HI2.out.cNow
  obtain ⟨p2, c2, hv2, -⟩ := row_form o2
  subst hv2
  have HO2 : Hid (∀ W', Tn [] w2 W' → W'.ownsRow 0 85 4 (.slice p2 n c2) n (wts e.limbo)) := fun W' ht => owns_tn o2 ht (by simp)
  have HP : Hid (∀ {W w3 : World} {v3 : Value} (hg : W.grownBy w3 (Value.slice p2 n c2).ownBlock) (hv3 : v3.ownBlock = (Value.slice p2 n c2).ownBlock ∨ v3.ownBlock = some W.heap.size) (ho : w3.ownsRow 0 85 4 v3 (n + 1) (wts e.limbo ++ wt (e.now, x))), Tn [] w2 W → w3.cell? ⟨R, 35, none⟩ = some (.slice p n c) ∧ w3.frozen? ⟨R, 35, none⟩ = false ∧ ReT w (w3.setCell ⟨R, 35, none⟩ v3) R (R :: (Value.slice p n c).ownBlock.toList) (e.retire x)) := by
    intro W w3 v3 hg hv3 ho hT
    have ht3 : Tn [] w w3 := (t2.trans hT (by simp)).grown hg (fun k hk => .inr (n2 k hk))
    have h3 := HI.out.tn ht3 (by simp)
    refine ⟨h3.cLim, h3.blk.frozen _, ?_⟩
    refine HI.out.lim (e' := e.retire x) (ht3.mono (by simp)) h3.blk rfl HI.out.n1 ?_ ?_ rfl
    · unfold Wr
      rw [Ep.limbo_retire, wts_append, List.length_append, HN.out]
      have := ho
      simpa [wts] using this
    · intro b hb
      rcases hv3 with q | q
      · rw [q] at hb
        exact n2 b hb
      · rw [q] at hb
        cases hb
        have := (t2.trans hT (by simp)).size
        exact this
  clear o2 g2 q2 kb2 t2
  go_wp2_with fail
  go_region_law (first
    | (refine stepX rfl _ _ 39 rfl 85 (.agg #[.int .i64 0, .int .i64 0, .int .i64 0, .int .i64 0]) 4 32 Try.underlying39 wtinfo rfl (by decide) (.slice p2 n c2) n (wts e.limbo) (by go_simp) (HO2.out _ (by repeat (first | exact Tn.refl _ _ | refine Tn.alloc ?_ _ | refine Tn.drew ?_))) ⟨_, 0, none⟩ 1 1 (wt (e.now, x)) (by rfl) rfl (news_bk (by first | exact Bk.new _ _ _)) (wtone _) (by unfold maxLen; omega) (by omega) ?_; intro v3 w3 HO3 hg3 hv3; obtain ⟨g3, k3, rfl⟩ := row_some HO3 (by omega); obtain ⟨z1, z2, z3⟩ := HP.out hg3 hv3 HO3 (by repeat (first | exact Tn.refl _ _ | refine Tn.alloc ?_ _ | refine Tn.drew ?_))))
  all_goals go_wp2
  all_goals go_ret
  all_goals exact ⟨rfl, z3⟩

end Go.Proofs.Ytndmcjkbbedoeaa
