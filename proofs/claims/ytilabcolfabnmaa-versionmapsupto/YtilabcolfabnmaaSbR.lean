/- slices' rotate, at commits. -/
import Derived.Test.YtilabcolfabnmaaSbS
namespace Go.Proofs.Ytilabcolfabnmaa
open Go.RowKit
set_option linter.unusedVariables false
set_option maxRecDepth 100000

set_option maxHeartbeats 2000000 in
theorem rotate_any (g cap N a m b : Nat) (A X Y B : List Cm) (cf : Value) (w : World) (hr : Rcm w g (A ++ (X ++ (Y ++ B)))) (hN : (A ++ (X ++ (Y ++ B))).length = N) (ha : A.length = a) (hm : a + X.length = m) (hb : m + Y.length = b) (ham : a < m) (hmb : m < b) (hl : N ≤ 4398046511104) :
    Calls Try.prog 79 #[.slice (some ⟨g, 0, none⟩) N cap, .int .i64 a, .int .i64 m, .int .i64 b, cf] w fun e w' => e = .returned (.tuple #[]) ∧ Rcm w' g (A ++ (Y ++ (X ++ B))) ∧ Tn [g] w w' := by
  have hbN : b ≤ N := by
    simp only [List.length_append] at hN
    omega
  obtain ⟨i0, hi0⟩ : ∃ i0, X.length = i0 := ⟨_, rfl⟩
  obtain ⟨j0, hj0⟩ : ∃ j0, Y.length = j0 := ⟨_, rfl⟩
  have hi0' : (m : Int) - (a : Int) = (i0 : Int) := by omega
  have hj0' : (b : Int) - (m : Int) = (j0 : Int) := by omega
  have hi1 : 1 ≤ i0 := by omega
  have hj1 : 1 ≤ j0 := by omega
  have hmi : a + i0 = m := by omega
  have hmj : m + j0 = b := by omega
  have HA : Hid (A.length = a) := ha
  have HN : Hid ((A ++ (X ++ (Y ++ B))).length = N) := hN
  have HS : Hid (∃ L X' Y' R : List Cm, X'.length = i0 ∧ Y'.length = j0 ∧ A.length + L.length + i0 = m ∧ Y ++ X = L ++ (Y' ++ (X' ++ R)) ∧ Rcm w g (A ++ (L ++ (X' ++ (Y' ++ (R ++ B)))))) := ⟨[], X, Y, [], hi0, hj0, by rw [List.length_nil]; omega, by simp, by simpa using hr⟩
  clear hr hN ha hm hb hi0 hj0
  go_enter Try.func79, Try.ntmps79
  go_wp2_with fail
  go_loopw [10, 11] (fun u v wr => ∃ i j : Nat, u = .int .i64 i ∧ v = .int .i64 j ∧ 1 ≤ i ∧ 1 ≤ j ∧ i ≤ m ∧ m + j ≤ N ∧ Hid (∃ L X' Y' R : List Cm, X'.length = i ∧ Y'.length = j ∧ A.length + L.length + i = m ∧ Y ++ X = L ++ (Y' ++ (X' ++ R)) ∧ Rcm wr g (A ++ (L ++ (X' ++ (Y' ++ (R ++ B)))))) ∧ Hid (Tn [g] w wr)) (fun u v _ => (intOf u).toNat + (intOf v).toNat)
  case atStart => exact ⟨i0, j0, rfl, rfl, hi1, hj1, by omega, by omega, HS, Tn.refl _ _⟩
  case round =>
    obtain ⟨i, j, rfl, rfl, hi, hj, him, hjm, HR, HT⟩ := hrel
    obtain ⟨mi, hmi'⟩ : ∃ mi, m - i = mi := ⟨_, rfl⟩
    have hmii : (m : Int) - (i : Int) = (mi : Int) := by omega
    rcases Nat.lt_trichotomy i j with hlt | heq | hgt
    · have hne : ¬ (i : Int) = (j : Int) := by omega
      have hneb : decide ((i : Int) = (j : Int)) = false := by simpa using hne
      have hng : ¬ ((j : Int) < (i : Int)) := by omega
      obtain ⟨mj, hmj'⟩ : ∃ mj, m + j = mj := ⟨_, rfl⟩
      have hmj2 : (m : Int) + (j : Int) = (mj : Int) := by omega
      obtain ⟨mk, hmk'⟩ : ∃ mk, mj - i = mk := ⟨_, rfl⟩
      have hmk2 : (mj : Int) - (i : Int) = (mk : Int) := by omega
      obtain ⟨ji, hji'⟩ : ∃ ji, j - i = ji := ⟨_, rfl⟩
      have hji2 : (j : Int) - (i : Int) = (ji : Int) := by omega
      obtain ⟨L, X', Y', R, h1, h2, h3, h4, h5⟩ := HR.out
      have hY : Y' = Y'.take ji ++ Y'.drop ji := (List.take_append_drop _ _).symm
      have hY1 : (Y'.take ji).length = ji := by rw [List.length_take]; omega
      have hY2 : (Y'.drop ji).length = i := by rw [List.length_drop]; omega
      generalize Y'.take ji = Y1 at hY hY1
      generalize Y'.drop ji = Y2 at hY hY2
      subst hY
      have hc := swapRange_any g cap N mi mk i (A ++ L) X' Y1 Y2 (R ++ B) cf wr (by simpa using h5) (by
        have e := congrArg List.length h4
        have := HN.out
        simp only [List.length_append] at e this ⊢
        omega) (by rw [List.length_append]; omega) (by omega) h1 hY2 hl
      have HEQ : Hid (Y ++ X = L ++ (Y1 ++ (Y2 ++ (X' ++ R)))) := by unfold Hid; rw [h4]; simp
      have HL : Hid (Y1.length = ji ∧ Y2.length = i ∧ A.length + L.length + i = m) := ⟨hY1, hY2, h3⟩
      clear h1 h2 h3 h4 h5 hY1 hY2 HR hmi' hmj' hmk' hji'
      go_wp2_with fail
      refine hc.mono ?_
      rintro e w1 ⟨rfl, hr1, ht1⟩
      have HT1 : Hid (Tn [g] w w1) := HT.out.trans ht1 (fun x hx => .inl hx)
      have HR1 : Hid (∃ L X' Y' R : List Cm, X'.length = i ∧ Y'.length = ji ∧ A.length + L.length + i = m ∧ Y ++ X = L ++ (Y' ++ (X' ++ R)) ∧ Rcm w1 g (A ++ (L ++ (X' ++ (Y' ++ (R ++ B)))))) := ⟨L, Y2, Y1, X' ++ R, HL.out.2.1, HL.out.1, HL.out.2.2, HEQ.out, by simpa using hr1⟩
      clear hc hr1 ht1
      go_wp2
      go_roundw
      case rel => exact ⟨i, ji, rfl, by go_num, hi, by omega, him, by omega, HR1, HT1⟩
      case measure => simp [intOf]; omega
    · subst heq
      obtain ⟨L, X', Y', R, h1, h2, h3, h4, h5⟩ := HR.out
      have hc := swapRange_any g cap N mi m i (A ++ L) X' [] Y' (R ++ B) cf wr (by simpa using h5) (by
        have e := congrArg List.length h4
        have := HN.out
        simp only [List.length_append, List.length_nil] at e this ⊢
        omega) (by rw [List.length_append]; omega) (by rw [List.length_nil]; omega) h1 h2 hl
      have HEQ : Hid (Y ++ X = L ++ (Y' ++ (X' ++ R))) := h4
      clear h1 h2 h3 h4 h5 HR hmi'
      go_wp2_with fail
      refine hc.mono ?_
      rintro e w1 ⟨rfl, hr1, ht1⟩
      have HT1 : Hid (Tn [g] w w1) := HT.out.trans ht1 (fun x hx => .inl hx)
      have HR1 : Hid (Rcm w1 g (A ++ (Y ++ (X ++ B)))) := by
        unfold Hid
        have e : A ++ (Y ++ (X ++ B)) = A ++ L ++ (Y' ++ ([] ++ (X' ++ (R ++ B)))) := by
          rw [← List.append_assoc Y X B, HEQ.out]
          simp
        rw [e]
        exact hr1
      clear hc hr1 ht1
      go_wp2
      go_end0
      exact ⟨rfl, HR1.out, HT1.out⟩
    · have hne : ¬ (i : Int) = (j : Int) := by omega
      have hneb : decide ((i : Int) = (j : Int)) = false := by simpa using hne
      have hng : (j : Int) < (i : Int) := by omega
      obtain ⟨ij, hij'⟩ : ∃ ij, i - j = ij := ⟨_, rfl⟩
      have hij2 : (i : Int) - (j : Int) = (ij : Int) := by omega
      obtain ⟨L, X', Y', R, h1, h2, h3, h4, h5⟩ := HR.out
      have hX : X' = X'.take j ++ X'.drop j := (List.take_append_drop _ _).symm
      have hX1 : (X'.take j).length = j := by rw [List.length_take]; omega
      have hX2 : (X'.drop j).length = ij := by rw [List.length_drop]; omega
      generalize X'.take j = X1 at hX hX1
      generalize X'.drop j = X2 at hX hX2
      subst hX
      have hc := swapRange_any g cap N mi m j (A ++ L) X1 X2 Y' (R ++ B) cf wr (by simpa using h5) (by
        have e := congrArg List.length h4
        have := HN.out
        simp only [List.length_append] at e this ⊢
        omega) (by rw [List.length_append]; omega) (by omega) hX1 h2 hl
      have HEQ : Hid (Y ++ X = (L ++ Y') ++ (X1 ++ (X2 ++ R))) := by unfold Hid; rw [h4]; simp
      have HL : Hid (X1.length = j ∧ X2.length = ij ∧ A.length + (L ++ Y').length + ij = m) := ⟨hX1, hX2, by rw [List.length_append]; omega⟩
      clear h1 h2 h3 h4 h5 hX1 hX2 HR hmi' hij'
      go_wp2_with fail
      refine hc.mono ?_
      rintro e w1 ⟨rfl, hr1, ht1⟩
      have HT1 : Hid (Tn [g] w w1) := HT.out.trans ht1 (fun x hx => .inl hx)
      have HR1 : Hid (∃ L X' Y' R : List Cm, X'.length = ij ∧ Y'.length = j ∧ A.length + L.length + ij = m ∧ Y ++ X = L ++ (Y' ++ (X' ++ R)) ∧ Rcm w1 g (A ++ (L ++ (X' ++ (Y' ++ (R ++ B)))))) := ⟨L ++ Y', X2, X1, R, HL.out.2.1, HL.out.1, HL.out.2.2, HEQ.out, by simpa using hr1⟩
      clear hc hr1 ht1
      go_wp2
      go_roundw
      case rel => exact ⟨ij, j, by go_num, rfl, by omega, hj, by omega, hjm, HR1, HT1⟩
      case measure => simp [intOf]; omega
end Go.Proofs.Ytilabcolfabnmaa
