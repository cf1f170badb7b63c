/- slices' symMerge of commits: part 1 of four. -/
import Derived.Test.YtilabcolfabnmaaSbY0
namespace Go.Proofs.Ytilabcolfabnmaa
open Go.RowKit Go.Sort
set_option linter.unusedVariables false
set_option maxRecDepth 100000

set_option maxHeartbeats 8000000 in
theorem sym_part1 (g cap N : Nat) (hl : N ≤ 4398046511104) (s : Nat) (ih : (∀ (a m b : Nat) (A X Y B : List Cm) (w : World), X.length + Y.length ≤ s → Rcm w g (A ++ (X ++ (Y ++ B))) → g < w.heap.size → (A ++ (X ++ (Y ++ B))).length = N → A.length = a → a + X.length = m → m + Y.length = b → a < m → m < b → Asc Cm.ts X → Asc Cm.ts Y →
    Calls Try.prog 68 #[.slice (some ⟨g, 0, none⟩) N cap, .int .i64 a, .int .i64 m, .int .i64 b, .func (.func 48) #[] #[]] w fun e w' => e = .returned (.tuple #[]) ∧ ∃ Z, Rcm w' g (A ++ (Z ++ B)) ∧ Sam Cm.ts (X ++ Y) Z ∧ Asc Cm.ts Z ∧ Tn [g] w w')) (a m b : Nat) (A X Y B : List Cm) (w : World) (hs : X.length + Y.length ≤ s + 1) (hr : Rcm w g (A ++ (X ++ (Y ++ B)))) (hg : g < w.heap.size) (hN : (A ++ (X ++ (Y ++ B))).length = N) (ha : A.length = a) (hm : a + X.length = m) (hb : m + Y.length = b) (ham : a < m) (hmb : m < b) (hX : Asc Cm.ts X) (hY : Asc Cm.ts Y) (h1 : m - a = 1) :
    Calls Try.prog 68 #[.slice (some ⟨g, 0, none⟩) N cap, .int .i64 a, .int .i64 m, .int .i64 b, .func (.func 48) #[] #[]] w fun e w' => e = .returned (.tuple #[]) ∧ ∃ Z, Rcm w' g (A ++ (Z ++ B)) ∧ Sam Cm.ts (X ++ Y) Z ∧ Asc Cm.ts Z ∧ Tn [g] w w' := by
  have IH : Hid _ := ih
  have eg := cmpEnters
  have hbN : b ≤ N := by
    simp only [List.length_append] at hN
    omega
  have HA : Hid (A.length = a) := ha
  have HG : Hid (g < w.heap.size) := hg
  have HL : Hid (a + X.length = m ∧ m + Y.length = b ∧ X.length + Y.length ≤ s + 1) := ⟨hm, hb, hs⟩
  have HR : Hid (Rcm w g (A ++ (X ++ (Y ++ B)))) := hr
  have HN : Hid ((A ++ (X ++ (Y ++ B))).length = N) := hN
  have HXY : Hid (Asc Cm.ts X ∧ Asc Cm.ts Y) := ⟨hX, hY⟩
  obtain ⟨ma, hma⟩ : ∃ ma, m - a = ma := ⟨_, rfl⟩
  have hma' : (m : Int) - (a : Int) = (ma : Int) := by omega
  have hma1 : 1 ≤ ma := by omega
  have HMA : Hid (m - a = ma) := hma
  obtain ⟨bm, hbm⟩ : ∃ bm, b - m = bm := ⟨_, rfl⟩
  have hbm' : (b : Int) - (m : Int) = (bm : Int) := by omega
  have hbm1 : 1 ≤ bm := by omega
  have HBM : Hid (b - m = bm) := hbm
  have hone : ma = 1 := by omega
  clear ih hs hr hg hN ha hm hb hX hY hma hbm h1
  subst hone
  obtain ⟨x, rfl⟩ : ∃ x, X = [x] := by
    have := HL.out
    have := HMA.out
    match X, (show X.length = 1 by omega) with
    | [x], _ => exact ⟨x, rfl⟩
  have hme : a + 1 = m := by have := HMA.out; omega
  obtain ⟨x1, x2, x3, x4⟩ := x
  go_enter Try.func68, Try.ntmps68
  go_wp2_with fail
  go_loopg [10, 11] bm (fun kx u v wr => ∃ lo hi : Nat, u = .int .i64 lo ∧ v = .int .i64 hi ∧ m ≤ lo ∧ lo ≤ hi ∧ hi ≤ b ∧ hi - lo ≤ kx ∧ Hid (Below w.heap.size w wr) ∧ Hid ((∀ y ∈ Y.take (lo - m), y.ts < x1) ∧ (∀ y ∈ Y.drop (hi - m), x1 ≤ y.ts)))
  case atStart => exact ⟨m, b, rfl, rfl, Nat.le_refl _, by omega, Nat.le_refl _, by have := HBM.out; omega, Below.refl _ _, by simp, by rw [List.drop_eq_nil_of_le (by have := HL.out; omega)]; simp⟩
  case round =>
    obtain ⟨lo, hi, rfl, rfl, hlo, hlh, hib, hgk, HW, HI⟩ := hrel
    by_cases hlt : lo < hi
    · have hli : (lo : Int) < (hi : Int) := by omega
      obtain ⟨h, hh⟩ : ∃ h, (lo + hi) / 2 = h := ⟨_, rfl⟩
      have hhi : ((lo : Int) + (hi : Int)) / 2 = (h : Int) := by omega
      have hb1 : lo ≤ h ∧ h < hi := by omega
      have hhN : (h : Int) < (N : Int) := by omega
      have haN : (a : Int) < (N : Int) := by omega
      obtain ⟨y, hye, -⟩ := split_at (l := Y) (i := h - m) (by have := HL.out; omega)
      have hrow := Rcm.below HR.out HW.out HG.out
      obtain ⟨⟨c0, c1⟩, -, -⟩ := hrow h y (by have := row_at2 (A := A) (X := [⟨x1, x2, x3, x4⟩]) (B := B) (m := m) (by have := HA.out; have := HL.out; simp only [List.length_cons, List.length_nil] at *; omega) hye; rwa [show m + (h - m) = h by omega] at this)
      obtain ⟨⟨d0, d1⟩, -, -⟩ := hrow a ⟨x1, x2, x3, x4⟩ (by have := row_at (A := A) (X := [⟨x1, x2, x3, x4⟩]) (Y := Y) (B := B) (t := 0) HA.out rfl; simpa using this)
      obtain ⟨y1, y2, y3, y4⟩ := y
      have k0 := cell_regrown c0
      have k1 := cell_regrown c1
      have k2 := cell_regrown d0
      have k3 := cell_regrown d1
      obtain ⟨c, hc⟩ : ∃ c, cmpI y1 x1 = c := ⟨_, rfl⟩
      have hca := cmpc_at y1 y2 y3 y4 x1 x2 x3 x4 c hc wr
      have HYE : Hid (Y[h - m]? = some ⟨y1, y2, y3, y4⟩) := hye
      clear c0 c1 d0 d1 hrow hye hh
      by_cases hyx : y1 < x1
      · have hcl : c < 0 := by rw [← hc]; exact cmpI_lt hyx
        have HI2 : Hid ((∀ y ∈ Y.take (h + 1 - m), y.ts < x1) ∧ (∀ y ∈ Y.drop (hi - m), x1 ≤ y.ts)) := ⟨fun y hy => by
          obtain ⟨t, ht, hyt⟩ := mem_take_at hy
          have := HXY.out.2.at hyt HYE.out (by omega)
          exact Int.lt_of_le_of_lt this hyx, HI.out.2⟩
        clear hc hyx HI
        go_wp2_with fail
        refine wp_region_quiet_below (by kernel_rfl) (by kernel_rfl) ?_
        repeat (go_big_quiet_step (first | (go_at_fn 48; exact hca _ _)))
        refine wpQuiet_nil ?_
        intro _ hw'
        obtain ⟨⟨dq, osq⟩, hw''⟩ := hw'
        subst hw''
        have hb3 := below_regrown wr dq osq
        generalize grow (redrawn wr dq) osq = w3 at hb3 ⊢
        have HW3 : Hid (Below w.heap.size w w3) := HW.out.trans (hb3.mono HW.out.size)
        clear hca k0 k1 k2 k3 hb3
        go_wp2
        go_roundg (hi - (h + 1))
        case measure => omega
        case rel => exact ⟨h + 1, hi, by go_num, rfl, by omega, by omega, hib, Nat.le_refl _, HW3, HI2⟩
      · have hcl : ¬ c < 0 := by rw [← hc]; exact cmpI_ge hyx
        have hcb : decide (c < 0) = false := decide_eq_false hcl
        have HI2 : Hid ((∀ y ∈ Y.take (lo - m), y.ts < x1) ∧ (∀ y ∈ Y.drop (h - m), x1 ≤ y.ts)) := ⟨HI.out.1, fun y hy => by
          obtain ⟨t, ht, hyt⟩ := mem_drop_at hy
          have := HXY.out.2.at HYE.out hyt (by omega)
          exact Int.le_trans (Int.not_lt.1 hyx) this⟩
        clear hc hyx HI
        go_wp2_with fail
        refine wp_region_quiet_below (by kernel_rfl) (by kernel_rfl) ?_
        repeat (go_big_quiet_step (first | (go_at_fn 48; exact hca _ _)))
        refine wpQuiet_nil ?_
        intro _ hw'
        obtain ⟨⟨dq, osq⟩, hw''⟩ := hw'
        subst hw''
        have hb3 := below_regrown wr dq osq
        generalize grow (redrawn wr dq) osq = w3 at hb3 ⊢
        have HW3 : Hid (Below w.heap.size w w3) := HW.out.trans (hb3.mono HW.out.size)
        clear hca k0 k1 k2 k3 hb3
        go_wp2
        go_roundg (h - lo)
        case measure => omega
        case rel => exact ⟨lo, h, rfl, rfl, hlo, by omega, by omega, Nat.le_refl _, HW3, HI2⟩
    · obtain rfl : lo = hi := by omega
      have hli : ¬ ((lo : Int) < (lo : Int)) := by omega
      obtain ⟨p, hp⟩ : ∃ p, lo - m = p := ⟨_, rfl⟩
      obtain ⟨lm, hlm⟩ : ∃ lm, lo - 1 = lm := ⟨_, rfl⟩
      have hlm' : (lo : Int) - 1 = (lm : Int) := by omega
      have hpl : a + p = lm := by omega
      have HPY : Hid (p ≤ Y.length) := by have := HL.out; unfold Hid; omega
      have HI2 : Hid ((∀ y ∈ Y.take p, y.ts < x1) ∧ (∀ y ∈ Y.drop p, x1 ≤ y.ts)) := by rw [← hp]; exact HI
      have HR0 : Hid (Rcm wr g (A ++ (Y.take 0 ++ (⟨x1, x2, x3, x4⟩ :: (Y.drop 0 ++ B))))) := by
        have := Rcm.below HR.out HW.out HG.out
        unfold Hid
        simpa using this
      have HT0 : Hid (Tn [g] w wr) := Tn.of_below HW.out _
      clear HI hp hlm HW
      go_wp2_with fail
      go_loopw [13] (fun v wr => ∃ k t : Nat, v = .int .i64 k ∧ a + t = k ∧ t ≤ p ∧ Hid (Rcm wr g (A ++ (Y.take t ++ (⟨x1, x2, x3, x4⟩ :: (Y.drop t ++ B))))) ∧ Hid (Tn [g] w wr)) (fun v _ => lm - (intOf v).toNat)
      case atStart => exact ⟨a, 0, rfl, rfl, Nat.zero_le _, HR0, HT0⟩
      case round =>
        obtain ⟨k, t, rfl, hkt, htp, HR1, HT1⟩ := hrel
        by_cases hlt2 : k < lm
        · have hli2 : (k : Int) < (lm : Int) := by omega
          obtain ⟨y, hye, hy1, hy2, hy3⟩ := split_at (l := Y) (i := t) (by have := HPY.out; omega)
          have hrow : Rcm wr g ((A ++ Y.take t) ++ ⟨x1, x2, x3, x4⟩ :: ([] ++ y :: (Y.drop (t + 1) ++ B))) := by
            have := HR1.out
            rw [hy3] at this
            simpa using this
          have hYl : t ≤ Y.length := by have := HPY.out; omega
          obtain ⟨⟨⟨c0, c1⟩, f0, f1⟩, ⟨⟨d0, d1⟩, z0, z1⟩, hs, -⟩ := swap_row (a := k) (b := k + 1) hrow (by have := HA.out; simp; omega) (by simp)
          have HS2 : Hid (Rcm (wset (wset wr g k y) g (k + 1) ⟨x1, x2, x3, x4⟩) g (A ++ (Y.take (t + 1) ++ (⟨x1, x2, x3, x4⟩ :: (Y.drop (t + 1) ++ B))))) := by
            rw [hy2]
            unfold Hid
            simpa using hs
          have HT2 : Hid (Tn [g] w (wset (wset wr g k y) g (k + 1) ⟨x1, x2, x3, x4⟩)) := wset_tn (wset_tn HT1.out _ _) _ _
          obtain ⟨y1, y2, y3, y4⟩ := y
          obtain ⟨u1, e1⟩ := cell?_setCell_some (p := ⟨g, k * 2 + 1, none⟩) (x := .slice y2 y3 y4) (cell?_setCell_some (p := ⟨g, k * 2, none⟩) (x := .int .i64 y1) d0).choose_spec
          obtain ⟨u2, e2⟩ := cell?_setCell_some (p := ⟨g, (k + 1) * 2, none⟩) (x := .int .i64 x1) (cell?_setCell_some (p := ⟨g, k * 2 + 1, none⟩) (x := .slice y2 y3 y4) (cell?_setCell_some (p := ⟨g, k * 2, none⟩) (x := .int .i64 y1) d1).choose_spec).choose_spec
          have hk1 : (k : Int) + 1 < (N : Int) := by have := HL.out; have := HPY.out; omega
          have hk0 : (k : Int) < (N : Int) := by omega
          unfold wset at HS2 HT2
          clear hye hy1 hy2 hy3 hrow hs hYl
          go_wp2_with fail
          go_region
          go_wp2
          go_roundw
          case rel => exact ⟨k + 1, t + 1, by go_num, by omega, by omega, HS2.out, HT2.out.drew⟩
          case measure => simp [intOf]; omega
        · have hli2 : ¬ ((k : Int) < (lm : Int)) := by omega
          obtain rfl : t = p := by omega
          have HF : Hid (∃ Z, Rcm wr g (A ++ (Z ++ B)) ∧ Sam Cm.ts ([⟨x1, x2, x3, x4⟩] ++ Y) Z ∧ Asc Cm.ts Z) := by
            have h2 := ins_left (x := (⟨x1, x2, x3, x4⟩ : Cm)) (key := Cm.ts) (P := Y.take t) (Q := Y.drop t) (by rw [List.take_append_drop]; exact HXY.out.2) HI2.out.1 HI2.out.2
            rw [List.take_append_drop] at h2
            exact ⟨_, by have := HR1.out; simpa using this, by simpa using h2.1, h2.2⟩
          go_wp2
          ((try simp only [Exit.inBlock, Exit.then]); refine bodyPost_ret (results_none rfl _ _ _) rfl ?_)
          obtain ⟨Z, h1, h2, h3⟩ := HF.out
          exact ⟨rfl, Z, h1, h2, h3, HT1.out⟩
end Go.Proofs.Ytilabcolfabnmaa
