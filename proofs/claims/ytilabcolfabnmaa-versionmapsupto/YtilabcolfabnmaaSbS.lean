/- slices' swapRange and rotate, at commits. -/
import Derived.Test.YtilabcolfabnmaaSbM
namespace Go.Proofs.Ytilabcolfabnmaa
open Go.RowKit
set_option linter.unusedVariables false
set_option maxRecDepth 100000

set_option maxHeartbeats 2000000 in
theorem swapRange_any (g cap N a b n : Nat) (A X M Y B : List Cm) (cf : Value) (w : World) (hr : Rcm w g (A ++ (X ++ (M ++ (Y ++ B))))) (hN : (A ++ (X ++ (M ++ (Y ++ B)))).length = N) (ha : A.length = a) (hb : a + X.length + M.length = b) (hx : X.length = n) (hy : Y.length = n) (hl : N ≤ 4398046511104) :
    Calls Try.prog 85 #[.slice (some ⟨g, 0, none⟩) N cap, .int .i64 a, .int .i64 b, .int .i64 n, cf] w fun e w' => e = .returned (.tuple #[]) ∧ Rcm w' g (A ++ (Y ++ (M ++ (X ++ B)))) ∧ Tn [g] w w' := by
  have hab : a + n ≤ b := by omega
  have hbn : b + n ≤ N := by
    simp only [List.length_append] at hN
    omega
  have HX : Hid (X.length = n) := hx
  have HY : Hid (Y.length = n) := hy
  have HA : Hid (A.length = a) := ha
  have HB : Hid (a + X.length + M.length = b) := hb
  have H0 : Hid (Rcm w g (A ++ (Y.take 0 ++ (X.drop 0 ++ (M ++ (X.take 0 ++ (Y.drop 0 ++ B))))))) := by
    unfold Hid
    simpa using hr
  clear hr hN ha hb hx hy
  go_enter Try.func85, Try.ntmps85
  go_wp2_with fail
  go_loopw [10] (fun v wr => ∃ i : Nat, i ≤ n ∧ v = .int .i64 i ∧ Hid (Rcm wr g (A ++ (Y.take i ++ (X.drop i ++ (M ++ (X.take i ++ (Y.drop i ++ B))))))) ∧ Hid (Tn [g] w wr)) (fun v _ => n - (intOf v).toNat)
  case atStart => exact ⟨0, Nat.zero_le _, rfl, H0, Tn.refl _ _⟩
  case round =>
    obtain ⟨i, hi, rfl, HR, HT⟩ := hrel
    by_cases hlt : i < n
    · have hli : (i : Int) < (n : Int) := by omega
      obtain ⟨ai, hai⟩ : ∃ ai, a + i = ai := ⟨_, rfl⟩
      obtain ⟨bi, hbi⟩ : ∃ bi, b + i = bi := ⟨_, rfl⟩
      have hai' : (a : Int) + (i : Int) = (ai : Int) := by omega
      have hbi' : (b : Int) + (i : Int) = (bi : Int) := by omega
      have hal : (ai : Int) < (N : Int) := by omega
      have hbl : (bi : Int) < (N : Int) := by omega
      obtain ⟨x, hxe, hx1, hx2, hx3⟩ := split_at (l := X) (i := i) (by have := HX.out; omega)
      obtain ⟨y, hye, hy1, hy2, hy3⟩ := split_at (l := Y) (i := i) (by have := HY.out; omega)
      have hrw : Rcm wr g ((A ++ Y.take i) ++ x :: ((X.drop (i + 1) ++ (M ++ X.take i)) ++ y :: (Y.drop (i + 1) ++ B))) := by
        have := HR.out
        rw [hx3, hy3] at this
        simpa using this
      obtain ⟨⟨⟨c0, c1⟩, f0, f1⟩, ⟨⟨d0, d1⟩, z0, z1⟩, hs, -⟩ := swap_row (a := ai) (b := bi) hrw (by have := HA.out; have := HY.out; simp; omega) (by have := HX.out; have := HB.out; simp; omega)
      have HR2 : Hid (Rcm (wset (wset wr g ai y) g bi x) g (A ++ (Y.take (i + 1) ++ (X.drop (i + 1) ++ (M ++ (X.take (i + 1) ++ (Y.drop (i + 1) ++ B))))))) := by
        rw [hx2, hy2]
        unfold Hid
        simpa using hs
      have HT2 : Hid (Tn [g] w (wset (wset wr g ai y) g bi x)) := wset_tn (wset_tn HT.out _ _) _ _
      obtain ⟨x1, x2, x3, x4⟩ := x
      obtain ⟨y1, y2, y3, y4⟩ := y
      have hne1 : ¬ ai * 2 = bi * 2 := by omega
      obtain ⟨u1, e1⟩ := cell?_setCell_some (p := ⟨g, ai * 2 + 1, none⟩) (x := .slice y2 y3 y4) (cell?_setCell_some (p := ⟨g, ai * 2, none⟩) (x := .int .i64 y1) d0).choose_spec
      obtain ⟨u2, e2⟩ := cell?_setCell_some (p := ⟨g, bi * 2, none⟩) (x := .int .i64 x1) (cell?_setCell_some (p := ⟨g, ai * 2 + 1, none⟩) (x := .slice y2 y3 y4) (cell?_setCell_some (p := ⟨g, ai * 2, none⟩) (x := .int .i64 y1) d1).choose_spec).choose_spec
      unfold wset at HR2 HT2
      clear hxe hx1 hx2 hx3 hye hy1 hy2 hy3 hrw hs hai hbi
      go_wp2_with fail
      go_region
      go_wp2
      go_roundw
      case rel => exact ⟨i + 1, by omega, by go_num, HR2.out, HT2.out.drew⟩
      case measure => simp [intOf]; omega
    · obtain rfl : i = n := by omega
      have HR2 : Hid (Rcm wr g (A ++ (Y ++ (M ++ (X ++ B))))) := by
        have := HR.out
        rw [List.take_of_length_le (by have := HY.out; omega), List.take_of_length_le (by have := HX.out; omega), List.drop_eq_nil_of_le (by have := HX.out; omega), List.drop_eq_nil_of_le (by have := HY.out; omega)] at this
        unfold Hid
        simpa using this
      go_wp2
      go_end0
      exact ⟨rfl, HR2.out, HT.out⟩
end Go.Proofs.Ytilabcolfabnmaa
