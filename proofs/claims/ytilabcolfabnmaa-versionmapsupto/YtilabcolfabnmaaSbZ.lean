/- slices' stable sort of commits, whole. -/
import Derived.Test.YtilabcolfabnmaaSbY
namespace Go.Proofs.Ytilabcolfabnmaa
open Go.RowKit Go.Sort
set_option linter.unusedVariables false
set_option maxRecDepth 100000

/-- Each block of so many rises. -/
def Blk (s : Nat) (l : List Cm) : Prop := ∀ q, Asc Cm.ts ((l.drop (q * s)).take s)

theorem Blk.snoc {t k : Nat} {D Z : List Cm} (h : Blk t D) (hD : D.length = k * t) (hZ : Asc Cm.ts Z) (hz : Z.length ≤ t) : Blk t (D ++ Z) := by
  intro q
  rcases Nat.lt_trichotomy q k with hq | hq | hq
  · have h1 : q * t + t ≤ k * t := by
      have := Nat.mul_le_mul_right t (show q + 1 ≤ k by omega)
      rwa [Nat.add_mul, Nat.one_mul] at this
    rw [List.drop_append_of_le_length (by omega), List.take_append_of_le_length (by rw [List.length_drop]; omega)]
    exact h q
  · subst hq
    rw [← hD, List.drop_left, List.take_of_length_le hz]
    exact hZ
  · have h1 : k * t + t ≤ q * t := by
      have := Nat.mul_le_mul_right t (show k + 1 ≤ q by omega)
      rwa [Nat.add_mul, Nat.one_mul] at this
    rw [List.drop_eq_nil_of_le (by rw [List.length_append]; omega), List.take_nil]
    exact Asc.nil
theorem Blk.nil (s : Nat) : Blk s [] := fun q => by simp; exact Asc.nil
theorem Blk.first {s : Nat} {l : List Cm} (h : Blk s l) : Asc Cm.ts (l.take s) := by
  have := h 0
  simpa using this
theorem Blk.second {s : Nat} {l : List Cm} (h : Blk s l) : Asc Cm.ts ((l.drop s).take s) := by
  have := h 1
  simpa using this
theorem Blk.rest {s : Nat} {l : List Cm} (h : Blk s l) : Blk s (l.drop (2 * s)) := fun q => by
  rw [List.drop_drop, ← Nat.add_mul]
  exact h (2 + q)
theorem Blk.all {s : Nat} {l : List Cm} (h : Blk s l) (hl : l.length ≤ s) : Asc Cm.ts l := by
  have := h.first
  rwa [List.take_of_length_le hl] at this

theorem three_parts (l : List Cm) (s : Nat) : l = l.take s ++ ((l.drop s).take s ++ l.drop (2 * s)) := by
  have h1 : l.drop (2 * s) = (l.drop s).drop s := by rw [List.drop_drop]; congr 1; omega
  rw [h1, List.take_append_drop, List.take_append_drop]

set_option maxHeartbeats 4000000 in
theorem stable_any (g cap n : Nat) (L : List Cm) (w : World) (hr : Rcm w g L) (hg : g < w.heap.size) (hn : L.length = n) (hl : n ≤ 4398046511104) :
    Calls Try.prog 61 #[.slice (some ⟨g, 0, none⟩) n cap, .int .i64 n, .func (.func 48) #[] #[]] w fun e w' => e = .returned (.tuple #[]) ∧ ∃ Z, Rcm w' g Z ∧ Sam Cm.ts L Z ∧ Asc Cm.ts Z ∧ Tn [g] w w' := by
  have HG : Hid (g < w.heap.size) := hg
  have HN : Hid (L.length = n) := hn
  have H0 : Hid (∃ D E, Rcm w g (D ++ E) ∧ D.length = 0 * 20 ∧ Blk 20 D ∧ Sam Cm.ts L (D ++ E) ∧ (D ++ E).length = n) := ⟨[], L, hr, rfl, Blk.nil _, Sam.refl _, hn⟩
  clear hr hg hn
  go_enter Try.func61, Try.ntmps61
  go_wp2_with fail
  go_loopw [7, 8] (fun u v wr => ∃ k a b : Nat, u = .int .i64 a ∧ v = .int .i64 b ∧ a + 20 = b ∧ a = k * 20 ∧ a ≤ n ∧ Hid (∃ D E, Rcm wr g (D ++ E) ∧ D.length = a ∧ Blk 20 D ∧ Sam Cm.ts L (D ++ E) ∧ (D ++ E).length = n) ∧ Hid (Tn [g] w wr)) (fun u _ _ => n - (intOf u).toNat)
  case atStart => exact ⟨0, 0, 20, rfl, rfl, rfl, rfl, Nat.zero_le _, H0, Tn.refl _ _⟩
  case round =>
    obtain ⟨k, a, b, rfl, rfl, hb, hak, han, HI, HT⟩ := hrel
    have hgw : g < wr.heap.size := Nat.lt_of_lt_of_le HG.out HT.out.size
    have HAK : Hid (a = k * 20) := hak
    by_cases hbn : b ≤ n
    · have hbi : (b : Int) ≤ (n : Int) := by omega
      obtain ⟨b2, hb2⟩ : ∃ b2, b + 20 = b2 := ⟨_, rfl⟩
      have hb20 : (b : Int) + 20 = (b2 : Int) := by omega
      obtain ⟨D, E, h1, h2, h3, h4, h5⟩ := HI.out
      have hE : E = E.take 20 ++ E.drop 20 := (List.take_append_drop _ _).symm
      rw [List.length_append] at h5
      have hx : (E.take 20).length = 20 := by rw [List.length_take]; omega
      generalize E.take 20 = X at hE hx
      generalize E.drop 20 = E2 at hE
      subst hE
      have hc := isort_any g cap n a b D X E2 wr h1 hgw (by rw [List.length_append]; exact h5) h2 (by omega) hl
      have HX : Hid (D.length = a ∧ Blk 20 D ∧ Sam Cm.ts L (D ++ (X ++ E2)) ∧ D.length + (X ++ E2).length = n ∧ X.length = 20) := ⟨h2, h3, h4, h5, hx⟩
      clear h1 h2 h3 h4 h5 hx HI hak
      go_wp2_with fail
      refine hc.mono ?_
      rintro e w1 ⟨rfl, Z, h1, h2, h3, h4⟩
      have HI2 : Hid (∃ D E, Rcm w1 g (D ++ E) ∧ D.length = b ∧ Blk 20 D ∧ Sam Cm.ts L (D ++ E) ∧ (D ++ E).length = n) := by
        obtain ⟨k2, k3, k4, k5, k6⟩ := HX.out
        have hzl := h2.len
        refine ⟨D ++ Z, E2, by simpa using h1, by rw [List.length_append]; omega, k3.snoc (by rw [k2]; exact HAK.out) h3 (by omega), k4.trans (by rw [List.append_assoc]; exact (Sam.refl D).app (h2.app (Sam.refl E2))), by simp only [List.length_append] at *; omega⟩
      have HT2 : Hid (Tn [g] w w1) := HT.out.trans h4 (fun x hx => .inl hx)
      clear hc h1 h2 h3 h4
      go_wp2
      go_roundw
      case rel => exact ⟨k + 1, b, b2, rfl, rfl, hb2, by have := HAK.out; omega, hbn, HI2, HT2⟩
      case measure => simp [intOf]; omega
    · have hbi : ¬ (b : Int) ≤ (n : Int) := by omega
      obtain ⟨D, E, h1, h2, h3, h4, h5⟩ := HI.out
      have hc := isort_any g cap n a n D E [] wr (by simpa using h1) hgw (by simpa using h5) h2 (by rw [List.length_append] at h5; omega) hl
      rw [List.length_append] at h5
      have HX : Hid (D.length = a ∧ Blk 20 D ∧ Sam Cm.ts L (D ++ E) ∧ D.length + E.length = n) := ⟨h2, h3, h4, h5⟩
      clear h1 h2 h3 h4 h5 HI hak
      go_wp2_with fail
      refine hc.mono ?_
      rintro e w1 ⟨rfl, Z, h1, h2, h3, h4⟩
      have HI2 : Hid (∃ M, Rcm w1 g M ∧ Blk 20 M ∧ Sam Cm.ts L M ∧ M.length = n) := by
        obtain ⟨k2, k3, k4, k5⟩ := HX.out
        have hzl := h2.len
        refine ⟨D ++ Z, by simpa using h1, k3.snoc (by rw [k2]; exact HAK.out) h3 (by omega), k4.trans ((Sam.refl D).app h2), by simp only [List.length_append] at *; omega⟩
      have HT2 : Hid (Tn [g] w w1) := HT.out.trans h4 (fun x hx => .inl hx)
      clear hc h1 h2 h3 h4 HT HX HAK
      go_wp2_with fail
      go_loopw [6, 7, 8] (fun u _ _ wr => ∃ s : Nat, u = .int .i64 s ∧ 20 ≤ s ∧ s ≤ 2 * n + 40 ∧ Hid (∃ M, Rcm wr g M ∧ Blk s M ∧ Sam Cm.ts L M ∧ M.length = n) ∧ Hid (Tn [g] w wr)) (fun u _ _ _ => 2 * n - (intOf u).toNat)
      case atStart => exact ⟨20, rfl, Nat.le_refl _, by omega, HI2, HT2⟩
      case round =>
        obtain ⟨s, rfl, hs20, hs2, HJ, HT3⟩ := hrel
        by_cases hsn : s < n
        · have hsi : (s : Int) < (n : Int) := by omega
          obtain ⟨t, ht⟩ : ∃ t, 2 * s = t := ⟨_, rfl⟩
          have hti : (2 : Int) * (s : Int) = (t : Int) := by omega
          have hti2 : (s : Int) * (2 : Int) = (t : Int) := by omega
          have HTS : Hid (2 * s = t) := ht
          have HJ0 : Hid (∃ D E, Rcm wr g (D ++ E) ∧ D.length = 0 * t ∧ Blk t D ∧ Blk s E ∧ Sam Cm.ts L (D ++ E) ∧ (D ++ E).length = n) := by
            obtain ⟨M, h1, h2, h3, h4⟩ := HJ.out
            exact ⟨[], M, h1, by simp, Blk.nil _, h2, h3, h4⟩
          clear HJ ht
          go_wp2_with fail
          go_loopw [7, 8] (fun u v wr => ∃ k a b : Nat, u = .int .i64 a ∧ v = .int .i64 b ∧ a + t = b ∧ a = k * t ∧ a ≤ n ∧ Hid (∃ D E, Rcm wr g (D ++ E) ∧ D.length = k * t ∧ Blk t D ∧ Blk s E ∧ Sam Cm.ts L (D ++ E) ∧ (D ++ E).length = n) ∧ Hid (Tn [g] w wr)) (fun u _ _ => n - (intOf u).toNat)
          case atStart => exact ⟨0, 0, t, rfl, rfl, by omega, by simp, Nat.zero_le _, HJ0, HT3⟩
          case round =>
            obtain ⟨k, a, b, rfl, rfl, hb, hak, han, HI, HT4⟩ := hrel
            have hgw2 : g < wr.heap.size := Nat.lt_of_lt_of_le HG.out HT4.out.size
            obtain ⟨m, hm⟩ : ∃ m, a + s = m := ⟨_, rfl⟩
            have hmi : (a : Int) + (s : Int) = (m : Int) := by omega
            have HAK : Hid (a = k * t) := hak
            by_cases hbn : b ≤ n
            · have hbi : (b : Int) ≤ (n : Int) := by omega
              obtain ⟨b2, hb2⟩ : ∃ b2, b + t = b2 := ⟨_, rfl⟩
              have hb20 : (b : Int) + (t : Int) = (b2 : Int) := by omega
              obtain ⟨D, E, h1, h2, h3, h3b, h4, h5⟩ := HI.out
              have hE := three_parts E s
              rw [List.length_append] at h5
              rw [← hak] at h2
              have hx : (E.take s).length = s := by have := HTS.out; rw [List.length_take]; omega
              have hy : ((E.drop s).take s).length = s := by have := HTS.out; rw [List.length_take, List.length_drop]; omega
              have sx := h3b.first
              have sy := h3b.second
              have sr := h3b.rest
              generalize E.take s = X at hE hx sx
              generalize (E.drop s).take s = Y at hE hy sy
              generalize E.drop (2 * s) = E2 at hE sr
              subst hE
              have hc := sym_any g cap n hl (X.length + Y.length) a m b D X Y E2 wr (Nat.le_refl _) h1 hgw2 (by rw [List.length_append]; exact h5) h2 (by omega) (by have := HTS.out; omega) (by omega) (by have := HTS.out; omega) sx sy
              have HX : Hid (D.length = a ∧ Blk t D ∧ Blk s E2 ∧ Sam Cm.ts L (D ++ (X ++ (Y ++ E2))) ∧ D.length + (X ++ (Y ++ E2)).length = n ∧ X.length = s ∧ Y.length = s) := ⟨h2, h3, sr, h4, h5, hx, hy⟩
              clear h1 h2 h3 h3b h4 h5 hx hy sx sy sr HI hak
              go_wp2_with fail
              refine hc.mono ?_
              rintro e w2 ⟨rfl, Z, h1, h2, h3, h4⟩
              have HI2 : Hid (∃ D E, Rcm w2 g (D ++ E) ∧ D.length = (k + 1) * t ∧ Blk t D ∧ Blk s E ∧ Sam Cm.ts L (D ++ E) ∧ (D ++ E).length = n) := by
                obtain ⟨k2, k3, k3b, k4, k5, k6, k7⟩ := HX.out
                have hzl := h2.len
                have := HTS.out
                have := HAK.out
                rw [List.length_append] at hzl
                refine ⟨D ++ Z, E2, by simpa using h1, by rw [List.length_append, Nat.add_mul, Nat.one_mul]; omega, k3.snoc (by rw [k2]; exact HAK.out) h3 (by omega), k3b, k4.trans (by rw [List.append_assoc]; refine (Sam.refl D).app ?_; rw [← List.append_assoc X Y E2]; exact h2.app (Sam.refl E2)), by simp only [List.length_append] at *; omega⟩
              have HT5 : Hid (Tn [g] w w2) := HT4.out.trans h4 (fun x hx => .inl hx)
              clear hc h1 h2 h3 h4
              go_wp2
              go_roundw
              case rel => exact ⟨k + 1, b, b2, rfl, rfl, hb2, by have := HAK.out; have := HTS.out; rw [Nat.add_mul, Nat.one_mul]; omega, hbn, HI2, HT5⟩
              case measure => simp [intOf]; omega
            · have hbi : ¬ (b : Int) ≤ (n : Int) := by omega
              by_cases hmn : m < n
              · have hmni : (m : Int) < (n : Int) := by omega
                obtain ⟨D, E, h1, h2, h3, h3b, h4, h5⟩ := HI.out
                have hE : E = E.take s ++ E.drop s := (List.take_append_drop _ _).symm
                rw [List.length_append] at h5
                rw [← hak] at h2
                have hx : (E.take s).length = s := by rw [List.length_take]; omega
                have hy : (E.drop s).length = n - m := by rw [List.length_drop]; omega
                have sx := h3b.first
                have sy := h3b.second
                rw [List.take_of_length_le (by have := HTS.out; omega)] at sy
                generalize E.take s = X at hE hx sx
                generalize E.drop s = Y at hE hy sy
                subst hE
                have hc := sym_any g cap n hl (X.length + Y.length) a m n D X Y [] wr (Nat.le_refl _) (by simpa using h1) hgw2 (by rw [List.append_nil, List.length_append]; exact h5) h2 (by omega) (by omega) (by omega) hmn sx sy
                have HX : Hid (D.length = a ∧ Blk t D ∧ Sam Cm.ts L (D ++ (X ++ Y)) ∧ D.length + (X ++ Y).length = n ∧ X.length = s ∧ Y.length = n - m) := ⟨h2, h3, h4, h5, hx, hy⟩
                clear h1 h2 h3 h3b h4 h5 hx hy sx sy HI hak
                go_wp2_with fail
                refine hc.mono ?_
                rintro e w2 ⟨rfl, Z, h1, h2, h3, h4⟩
                have HI2 : Hid (∃ M, Rcm w2 g M ∧ Blk t M ∧ Sam Cm.ts L M ∧ M.length = n) := by
                  obtain ⟨k2, k3, k4, k5, k6, k7⟩ := HX.out
                  have hzl := h2.len
                  have := HTS.out
                  rw [List.length_append] at hzl
                  refine ⟨D ++ Z, by simpa using h1, k3.snoc (by rw [k2]; exact HAK.out) h3 (by omega), k4.trans ((Sam.refl D).app h2), by simp only [List.length_append] at *; omega⟩
                have HT5 : Hid (Tn [g] w w2) := HT4.out.trans h4 (fun x hx => .inl hx)
                clear hc h1 h2 h3 h4
                go_wp2
                go_roundw
                case rel => exact ⟨t, rfl, by have := HTS.out; omega, by have := HTS.out; omega, HI2, HT5⟩
                case measure => have := HTS.out; simp [intOf]; omega
              · have hmni : ¬ (m : Int) < (n : Int) := by omega
                have HI2 : Hid (∃ M, Rcm wr g M ∧ Blk t M ∧ Sam Cm.ts L M ∧ M.length = n) := by
                  obtain ⟨D, E, h1, h2, h3, h3b, h4, h5⟩ := HI.out
                  have h6 := h5
                  rw [List.length_append] at h6
                  have := HTS.out
                  have := HAK.out
                  exact ⟨D ++ E, h1, h3.snoc h2 (h3b.all (by omega)) (by omega), h4, h5⟩
                clear HI hak
                go_wp2
                go_roundw
                case rel => exact ⟨t, rfl, by have := HTS.out; omega, by have := HTS.out; omega, HI2, HT4⟩
                case measure => have := HTS.out; simp [intOf]; omega
        · have hsi : ¬ (s : Int) < (n : Int) := by omega
          have HF : Hid (∃ Z, Rcm wr g Z ∧ Sam Cm.ts L Z ∧ Asc Cm.ts Z) := by
            obtain ⟨M, h1, h2, h3, h4⟩ := HJ.out
            exact ⟨M, h1, h3, h2.all (by omega)⟩
          go_wp2
          go_end0
          obtain ⟨Z, h1, h2, h3⟩ := HF.out
          exact ⟨rfl, Z, h1, h2, h3, HT3.out⟩
end Go.Proofs.Ytilabcolfabnmaa
