/- slices' symMerge of commits: part 3 of four. -/
import Derived.Test.YtilabcolfabnmaaSbY0
namespace Go.Proofs.Ytilabcolfabnmaa
open Go.RowKit Go.Sort
set_option linter.unusedVariables false
set_option maxRecDepth 100000

set_option maxHeartbeats 8000000 in
theorem sym_part3 (g cap N : Nat) (hl : N ≤ 4398046511104) (s : Nat) (ih : (∀ (a m b : Nat) (A X Y B : List Cm) (w : World), X.length + Y.length ≤ s → Rcm w g (A ++ (X ++ (Y ++ B))) → g < w.heap.size → (A ++ (X ++ (Y ++ B))).length = N → A.length = a → a + X.length = m → m + Y.length = b → a < m → m < b → Asc Cm.ts X → Asc Cm.ts Y →
    Calls Try.prog 68 #[.slice (some ⟨g, 0, none⟩) N cap, .int .i64 a, .int .i64 m, .int .i64 b, .func (.func 48) #[] #[]] w fun e w' => e = .returned (.tuple #[]) ∧ ∃ Z, Rcm w' g (A ++ (Z ++ B)) ∧ Sam Cm.ts (X ++ Y) Z ∧ Asc Cm.ts Z ∧ Tn [g] w w')) (a m b : Nat) (A X Y B : List Cm) (w : World) (hs : X.length + Y.length ≤ s + 1) (hr : Rcm w g (A ++ (X ++ (Y ++ B)))) (hg : g < w.heap.size) (hN : (A ++ (X ++ (Y ++ B))).length = N) (ha : A.length = a) (hm : a + X.length = m) (hb : m + Y.length = b) (ham : a < m) (hmb : m < b) (hX : Asc Cm.ts X) (hY : Asc Cm.ts Y) (h1 : ¬ m - a = 1) (h2 : ¬ b - m = 1) (h3 : (a + b) / 2 < m) :
    Calls Try.prog 68 #[.slice (some ⟨g, 0, none⟩) N cap, .int .i64 a, .int .i64 m, .int .i64 b, .func (.func 48) #[] #[]] w fun e w' => e = .returned (.tuple #[]) ∧ ∃ Z, Rcm w' g (A ++ (Z ++ B)) ∧ Sam Cm.ts (X ++ Y) Z ∧ Asc Cm.ts Z ∧ Tn [g] w w' := by
  have IH : Hid _ := ih
  have eg := cmpEnters
  have hbN : b ≤ N := by
    simp only [List.length_append] at hN
    omega
  have HA : Hid (A.length = a) := ha
  have HG : Hid (g < w.heap.size) := hg
  have HL : Hid (a + X.length = m ∧ m + Y.length = b ∧ X.length + Y.length ≤ s + 1) := ⟨hm, hb, hs⟩
  have HR : Hid (Rcm w g (A ++ (X ++ (Y ++ B)))) := hr
  have HN : Hid ((A ++ (X ++ (Y ++ B))).length = N) := hN
  have HXY : Hid (Asc Cm.ts X ∧ Asc Cm.ts Y) := ⟨hX, hY⟩
  obtain ⟨ma, hma⟩ : ∃ ma, m - a = ma := ⟨_, rfl⟩
  have hma' : (m : Int) - (a : Int) = (ma : Int) := by omega
  have hma1 : 1 ≤ ma := by omega
  have HMA : Hid (m - a = ma) := hma
  obtain ⟨bm, hbm⟩ : ∃ bm, b - m = bm := ⟨_, rfl⟩
  have hbm' : (b : Int) - (m : Int) = (bm : Int) := by omega
  have hbm1 : 1 ≤ bm := by omega
  have HBM : Hid (b - m = bm) := hbm
  have hone : ¬ ma = 1 := by omega
  have htwo : ¬ bm = 1 := by omega
  clear ih hs hr hg hN ha hm hb hX hY hma hbm h1 h2
  have honei : ¬ (ma : Int) = 1 := by omega
  have honeb : ((ma : Int) == 1) = false := by simpa using honei
  have htwoi : ¬ (bm : Int) = 1 := by omega
  have htwob : ((bm : Int) == 1) = false := by simpa using htwoi
  obtain ⟨mid, hmid⟩ : ∃ mid, (a + b) / 2 = mid := ⟨_, rfl⟩
  have hmidi : ((a : Int) + (b : Int)) / 2 = (mid : Int) := by omega
  have hamid : a < mid := by omega
  have hmidb : mid < b := by omega
  obtain ⟨n, hn⟩ : ∃ n, mid + m = n := ⟨_, rfl⟩
  have hni : (mid : Int) + (m : Int) = (n : Int) := by omega
  obtain ⟨p, hp⟩ : ∃ p, n - 1 = p := ⟨_, rfl⟩
  have hpi : (n : Int) - 1 = (p : Int) := by omega
  have HMM : Hid (mid + m = n ∧ n - 1 = p ∧ 2 * mid ≤ a + b ∧ a + b ≤ 2 * mid + 1) := ⟨hn, hp, by omega, by omega⟩
  have hnN : n ≤ 2 * N := by omega
  have hside : mid < m := by rw [← hmid]; exact h3
  clear hmid hn hp h3
  have hsi : (mid : Int) < (m : Int) := by omega
  obtain ⟨s0, hs0⟩ : ∃ s0, n - b = s0 := ⟨_, rfl⟩
  have hs0i : (n : Int) - (b : Int) = (s0 : Int) := by have := HMM.out; omega
  obtain ⟨r0, hr0⟩ : ∃ r0, r0 = mid := ⟨_, rfl⟩
  have HS0 : Hid ((m ≤ mid ∧ s0 = a ∧ r0 = m) ∨ (mid < m ∧ s0 + b = n ∧ r0 = mid)) := .inr ⟨hside, by have := HMM.out; omega, hr0⟩
  have hs0m : a ≤ s0 ∧ r0 ≤ m ∧ r0 ≤ mid ∧ n ≤ s0 + b := by have := HMM.out; omega
  go_enter Try.func68, Try.ntmps68
  go_wp2_with fail
  try simp only [honeb, htwob]
  go_loopg [20, 21] b (fun kx u v wr => ∃ lo hi : Nat, u = .int .i64 lo ∧ v = .int .i64 hi ∧ s0 ≤ lo ∧ lo ≤ hi ∧ hi ≤ r0 ∧ hi ≤ b ∧ hi - lo ≤ kx ∧ Hid (Below w.heap.size w wr) ∧ Hid ((lo = s0 ∨ ∀ x y, X[lo - 1 - a]? = some x → Y[mid - lo]? = some y → x.ts ≤ y.ts) ∧ (hi = r0 ∨ ∀ x y, X[hi - a]? = some x → Y[mid - 1 - hi]? = some y → y.ts < x.ts)))
  case atStart => exact ⟨s0, mid, rfl, rfl, Nat.le_refl _, by have := HMM.out; have := HL.out; omega, by omega, by omega, by have := HMM.out; omega, Below.refl _ _, .inl rfl, .inl hr0.symm⟩
  case round =>
    obtain ⟨lo, hi, rfl, rfl, hlo, hlh, hib, hhb, hgk, HW, HI⟩ := hrel
    by_cases hlt : lo < hi
    · have hli : (lo : Int) < (hi : Int) := by omega
      obtain ⟨h, hh⟩ : ∃ h, (lo + hi) / 2 = h := ⟨_, rfl⟩
      have hhi : ((lo : Int) + (hi : Int)) / 2 = (h : Int) := by omega
      have hb1 : lo ≤ h ∧ h < hi := by omega
      obtain ⟨q, hq⟩ : ∃ q, p - h = q := ⟨_, rfl⟩
      have hqi : (p : Int) - (h : Int) = (q : Int) := by have := HMM.out; omega
      have hqm : m ≤ q ∧ q < b ∧ q - m = mid - 1 - h := by have := HMM.out; omega
      have hhN : (h : Int) < (N : Int) := by omega
      have hqN : (q : Int) < (N : Int) := by omega
      obtain ⟨x, hxe, -⟩ := split_at (l := X) (i := h - a) (by have := HL.out; omega)
      obtain ⟨y, hye, -⟩ := split_at (l := Y) (i := q - m) (by have := HL.out; omega)
      have hrow := Rcm.below HR.out HW.out HG.out
      obtain ⟨⟨c0, c1⟩, -, -⟩ := hrow h x (by have := row_at (A := A) (Y := Y) (B := B) HA.out hxe; rwa [show a + (h - a) = h by omega] at this)
      obtain ⟨⟨d0, d1⟩, -, -⟩ := hrow q y (by have := row_at2 (A := A) (X := X) (B := B) (m := m) (by have := HA.out; have := HL.out; omega) hye; rwa [show m + (q - m) = q by omega] at this)
      obtain ⟨x1, x2, x3, x4⟩ := x
      obtain ⟨y1, y2, y3, y4⟩ := y
      have k0 := cell_regrown c0
      have k1 := cell_regrown c1
      have k2 := cell_regrown d0
      have k3 := cell_regrown d1
      obtain ⟨c, hc⟩ : ∃ c, cmpI y1 x1 = c := ⟨_, rfl⟩
      have hca := cmpc_at y1 y2 y3 y4 x1 x2 x3 x4 c hc wr
      rw [hqm.2.2] at hye
      have HYE : Hid (X[h - a]? = some ⟨x1, x2, x3, x4⟩ ∧ Y[mid - 1 - h]? = some ⟨y1, y2, y3, y4⟩) := ⟨hxe, hye⟩
      clear c0 c1 d0 d1 hrow hye hxe hh hq
      by_cases hyx : y1 < x1
      · have hcl : c < 0 := by rw [← hc]; exact cmpI_lt hyx
        have HI2 : Hid ((lo = s0 ∨ ∀ x y, X[lo - 1 - a]? = some x → Y[mid - lo]? = some y → x.ts ≤ y.ts) ∧ (h = r0 ∨ ∀ x y, X[h - a]? = some x → Y[mid - 1 - h]? = some y → y.ts < x.ts)) := ⟨HI.out.1, .inr fun x y hx hy => by
          rw [HYE.out.1] at hx
          rw [HYE.out.2] at hy
          cases hx
          cases hy
          exact hyx⟩
        clear hc hyx HI
        go_wp2_with fail
        refine wp_region_quiet_below (by kernel_rfl) (by kernel_rfl) ?_
        repeat (go_big_quiet_step (first | (go_at_fn 48; exact hca _ _)))
        refine wpQuiet_nil ?_
        intro _ hw'
        obtain ⟨⟨dq, osq⟩, hw''⟩ := hw'
        subst hw''
        have hb3 := below_regrown wr dq osq
        generalize grow (redrawn wr dq) osq = w3 at hb3 ⊢
        have HW3 : Hid (Below w.heap.size w w3) := HW.out.trans (hb3.mono HW.out.size)
        clear hca k0 k1 k2 k3 hb3
        go_wp2
        go_roundg (h - lo)
        case measure => omega
        case rel => exact ⟨lo, h, rfl, rfl, hlo, by omega, by omega, by omega, Nat.le_refl _, HW3, HI2⟩
      · have hcl : ¬ c < 0 := by rw [← hc]; exact cmpI_ge hyx
        have hcb : decide (c < 0) = false := decide_eq_false hcl
        have HI2 : Hid ((h + 1 = s0 ∨ ∀ x y, X[h + 1 - 1 - a]? = some x → Y[mid - (h + 1)]? = some y → x.ts ≤ y.ts) ∧ (hi = r0 ∨ ∀ x y, X[hi - a]? = some x → Y[mid - 1 - hi]? = some y → y.ts < x.ts)) := ⟨.inr fun x y hx hy => by
          rw [show h + 1 - 1 - a = h - a by omega, HYE.out.1] at hx
          rw [show mid - (h + 1) = mid - 1 - h by omega, HYE.out.2] at hy
          cases hx
          cases hy
          exact Int.not_lt.1 hyx, HI.out.2⟩
        clear hc hyx HI
        go_wp2_with fail
        refine wp_region_quiet_below (by kernel_rfl) (by kernel_rfl) ?_
        repeat (go_big_quiet_step (first | (go_at_fn 48; exact hca _ _)))
        refine wpQuiet_nil ?_
        intro _ hw'
        obtain ⟨⟨dq, osq⟩, hw''⟩ := hw'
        subst hw''
        have hb3 := below_regrown wr dq osq
        generalize grow (redrawn wr dq) osq = w3 at hb3 ⊢
        have HW3 : Hid (Below w.heap.size w w3) := HW.out.trans (hb3.mono HW.out.size)
        clear hca k0 k1 k2 k3 hb3
        go_wp2
        go_roundg (hi - (h + 1))
        case measure => omega
        case rel => exact ⟨h + 1, hi, by go_num, rfl, by omega, by omega, hib, hhb, Nat.le_refl _, HW3, HI2⟩
    · obtain rfl : lo = hi := by omega
      have hli : ¬ ((lo : Int) < (lo : Int)) := by omega
      obtain ⟨en, hen⟩ : ∃ en, n - lo = en := ⟨_, rfl⟩
      have heni : (n : Int) - (lo : Int) = (en : Int) := by have := HMM.out; omega
      have hlom : a ≤ lo ∧ lo ≤ m ∧ lo ≤ mid ∧ m ≤ en ∧ en ≤ b ∧ mid ≤ en := by have := HMM.out; omega
      have hpt := parts_at HXY.out.1 HXY.out.2 HL.out.1 HL.out.2.1 HMM.out.1 HS0.out hamid hmidb HMM.out.2.2.1 HMM.out.2.2.2 hlo hib HI.out.1 HI.out.2
      obtain ⟨hL, hU⟩ : (X.take (lo - a)).length = lo - a ∧ (X.drop (lo - a)).length = m - lo := by
        have := HL.out
        rw [List.length_take, List.length_drop]
        omega
      obtain ⟨hV, hRl⟩ : (Y.take (mid - lo)).length = mid - lo ∧ (Y.drop (mid - lo)).length = b - en := by
        have := HL.out
        have := HMM.out
        rw [List.length_take, List.length_drop]
        omega
      have hXe : X = X.take (lo - a) ++ X.drop (lo - a) := (List.take_append_drop _ _).symm
      have hYe : Y = Y.take (mid - lo) ++ Y.drop (mid - lo) := (List.take_append_drop _ _).symm
      generalize X.take (lo - a) = L at hpt hL hXe
      generalize X.drop (lo - a) = U at hpt hU hXe
      generalize Y.take (mid - lo) = V at hpt hV hYe
      generalize Y.drop (mid - lo) = R at hpt hRl hYe
      have hrow : Rcm wr g (A ++ (L ++ (U ++ (V ++ (R ++ B))))) := by
        have := Rcm.below HR.out HW.out HG.out
        rw [hXe, hYe] at this
        simpa using this
      have hlen := HN.out
      have hXY := HXY.out
      have hLL := HL.out
      rw [hXe, hYe] at hlen hXY hLL
      simp only [List.length_append] at hlen hLL
      have HP : Hid ((∀ x ∈ U, ∀ y ∈ V, y.ts < x.ts) ∧ (∀ x ∈ L, ∀ y ∈ R, x.ts ≤ y.ts)) := hpt
      have HLEN : Hid (L.length = lo - a ∧ U.length = m - lo ∧ V.length = mid - lo ∧ R.length = b - en ∧ A.length + (L.length + (U.length + (V.length + (R.length + B.length)))) = N ∧ n - lo = en) := ⟨hL, hU, hV, hRl, by omega, hen⟩
      have HASC : Hid (Asc Cm.ts (L ++ U) ∧ Asc Cm.ts (V ++ R)) := hXY
      have HXE : Hid (X = L ++ U ∧ Y = V ++ R) := ⟨hXe, hYe⟩
      have HROW : Hid (Rcm wr g (A ++ (L ++ (U ++ (V ++ (R ++ B)))))) := hrow
      have hgr : g < wr.heap.size := Nat.lt_of_lt_of_le HG.out HW.out.size
      have HTW : Hid (Tn [g] w wr) := Tn.of_below HW.out _
      clear hpt hL hU hV hRl hXe hYe hrow hlen hXY hLL hen HI HW
      by_cases hrot : lo < m ∧ m < en
      · have hr1 : (lo : Int) < (m : Int) := by omega
        have hr2 : (m : Int) < (en : Int) := by omega
        have hc := rotate_any g cap N lo m en (A ++ L) U V (R ++ B) (.func (.func 48) #[] #[]) wr (by simpa using HROW.out) (by have := HLEN.out; simp only [List.length_append]; omega) (by have := HA.out; have := HLEN.out; rw [List.length_append]; omega) (by have := HLEN.out; omega) (by have := HLEN.out; have := HMM.out; omega) hrot.1 hrot.2 hl
        go_wp2_with fail
        refine hc.mono ?_
        rintro e w1 ⟨rfl, hrw1, ht1⟩
        have HROW1 : Hid (Rcm w1 g (A ++ (L ++ (V ++ (U ++ (R ++ B)))))) := by unfold Hid; simpa using hrw1
        have HT1 : Hid (Tn [g] w w1) := HTW.out.trans ht1 (fun x hx => .inl hx)
        have hg1 : g < w1.heap.size := Nat.lt_of_lt_of_le hgr ht1.size
        clear hc hrw1 ht1 hrot
        by_cases hq1 : a < lo
        · have hq1i : (a : Int) < (lo : Int) := by omega
          by_cases hq2 : lo < mid
          · have hq2i : (lo : Int) < (mid : Int) := by omega
            have hc1 := IH.out a lo mid A L V (U ++ (R ++ B)) w1 (by have := HLEN.out; have := HL.out; omega) (by simpa using HROW1.out) hg1 (by have := HLEN.out; simp only [List.length_append]; omega) HA.out (by have := HLEN.out; omega) (by have := HLEN.out; omega) hq1 hq2 HASC.out.1.left HASC.out.2.left
            go_wp2_with fail
            refine hc1.mono ?_
            rintro e w2 ⟨rfl, Z1, hz1, hz2, hz3, hz4⟩
            have HZ : Hid (Rcm w2 g (A ++ (Z1 ++ (U ++ (R ++ B)))) ∧ Sam Cm.ts (L ++ V) Z1 ∧ Asc Cm.ts Z1) := ⟨hz1, hz2, hz3⟩
            have HT2 : Hid (Tn [g] w w2) := HT1.out.trans (by first | exact hz4 | (rw [hw1]; exact hz4)) (fun x hx => .inl hx)
            have hg2 : g < w2.heap.size := Nat.lt_of_lt_of_le hg1 (by first | exact hz4.size | (rw [hw1]; exact hz4.size))
            clear hc1 hz1 hz2 hz3 hz4
            by_cases hv1 : mid < en
            · have hv1i : (mid : Int) < (en : Int) := by omega
              by_cases hv2 : en < b
              · have hv2i : (en : Int) < (b : Int) := by omega
                have hc2 := IH.out mid en b (A ++ Z1) U R B w2 (by have := HLEN.out; have := HL.out; omega) (by simpa using HZ.out.1) hg2 (by have := HLEN.out; have := HZ.out.2.1.len; simp only [List.length_append] at *; omega) (by have := HA.out; have := HLEN.out; have := HZ.out.2.1.len; simp only [List.length_append] at *; omega) (by have := HLEN.out; have := HMM.out; omega) (by have := HLEN.out; omega) hv1 hv2 HASC.out.1.right HASC.out.2.right
                try rw [hw2] at hc2
                try rw [hw1] at hc2
                go_wp2_with fail
                refine hc2.mono ?_
                rintro e w3 ⟨rfl, Z2, hy1, hy2, hy3, hy4⟩
                have hmg := merge_parts HASC.out.1 HASC.out.2 HP.out.1 HP.out.2 HZ.out.2.1 HZ.out.2.2 hy2 hy3
                rw [← HXE.out.1, ← HXE.out.2] at hmg
                have HF : Hid (∃ Z, Rcm w3 g (A ++ (Z ++ B)) ∧ Sam Cm.ts (X ++ Y) Z ∧ Asc Cm.ts Z ∧ Tn [g] w w3) := ⟨Z1 ++ Z2, by simpa using hy1, hmg.1, hmg.2, HT2.out.trans (by first | exact hy4 | (rw [hw2]; exact hy4) | (rw [hw2, hw1]; exact hy4)) (fun x hx => .inl hx)⟩
                clear hc2 hy1 hy2 hy3 hy4 hmg
                go_wp2
                go_end0
                exact ⟨rfl, HF.out⟩
              · have hv2i : ¬ (en : Int) < (b : Int) := by omega
                have HF : Hid (∃ Z, Rcm w2 g (A ++ (Z ++ B)) ∧ Sam Cm.ts (X ++ Y) Z ∧ Asc Cm.ts Z ∧ Tn [g] w w2) := by
                  have h0 : U = [] ∨ R = [] := by
                    have := HLEN.out
                    have := HMM.out
                    by_cases e : mid < en
                    · exact .inr (List.eq_nil_of_length_eq_zero (by omega))
                    · exact .inl (List.eq_nil_of_length_eq_zero (by omega))
                  have hur : Asc Cm.ts (U ++ R) := by
                    rcases h0 with h0 | h0
                    · have := HASC.out.2.right
                      rw [h0]
                      simpa using this
                    · have := HASC.out.1.right
                      rw [h0]
                      simpa using this
                  have hmg := merge_parts HASC.out.1 HASC.out.2 HP.out.1 HP.out.2 HZ.out.2.1 HZ.out.2.2 (Sam.refl (U ++ R)) hur
                  rw [← HXE.out.1, ← HXE.out.2] at hmg
                  exact ⟨Z1 ++ (U ++ R), by simpa using HZ.out.1, hmg.1, hmg.2, HT2.out⟩
                try rw [hw2] at HF
                try rw [hw1] at HF
                go_wp2
                go_end0
                exact ⟨rfl, HF.out⟩
            · have hv1i : ¬ (mid : Int) < (en : Int) := by omega
              have HF : Hid (∃ Z, Rcm w2 g (A ++ (Z ++ B)) ∧ Sam Cm.ts (X ++ Y) Z ∧ Asc Cm.ts Z ∧ Tn [g] w w2) := by
                have h0 : U = [] ∨ R = [] := by
                  have := HLEN.out
                  have := HMM.out
                  by_cases e : mid < en
                  · exact .inr (List.eq_nil_of_length_eq_zero (by omega))
                  · exact .inl (List.eq_nil_of_length_eq_zero (by omega))
                have hur : Asc Cm.ts (U ++ R) := by
                  rcases h0 with h0 | h0
                  · have := HASC.out.2.right
                    rw [h0]
                    simpa using this
                  · have := HASC.out.1.right
                    rw [h0]
                    simpa using this
                have hmg := merge_parts HASC.out.1 HASC.out.2 HP.out.1 HP.out.2 HZ.out.2.1 HZ.out.2.2 (Sam.refl (U ++ R)) hur
                rw [← HXE.out.1, ← HXE.out.2] at hmg
                exact ⟨Z1 ++ (U ++ R), by simpa using HZ.out.1, hmg.1, hmg.2, HT2.out⟩
              try rw [hw2] at HF
              try rw [hw1] at HF
              go_wp2
              go_end0
              exact ⟨rfl, HF.out⟩
          · have hq2i : ¬ (lo : Int) < (mid : Int) := by omega
            obtain ⟨Z1, hZ1⟩ : ∃ Z1, Z1 = L ++ V := ⟨_, rfl⟩
            obtain ⟨w2, hw2⟩ : ∃ w2, w2 = w1 := ⟨_, rfl⟩
            have HZ : Hid (Rcm w2 g (A ++ (Z1 ++ (U ++ (R ++ B)))) ∧ Sam Cm.ts (L ++ V) Z1 ∧ Asc Cm.ts Z1) := by
              refine ⟨by rw [hw2, hZ1]; simpa using HROW1.out, by rw [hZ1]; exact Sam.refl _, ?_⟩
              have h0 : L = [] ∨ V = [] := by
                have := HLEN.out
                by_cases e : a < lo
                · exact .inr (List.eq_nil_of_length_eq_zero (by omega))
                · exact .inl (List.eq_nil_of_length_eq_zero (by omega))
              rw [hZ1]
              rcases h0 with h0 | h0
              · have := HASC.out.2.left
                rw [h0]
                simpa using this
              · have := HASC.out.1.left
                rw [h0]
                simpa using this
            have HT2 : Hid (Tn [g] w w2) := by rw [hw2]; exact HT1
            have hg2 : g < w2.heap.size := by rw [hw2]; exact hg1
            clear hZ1
            by_cases hv1 : mid < en
            · have hv1i : (mid : Int) < (en : Int) := by omega
              by_cases hv2 : en < b
              · have hv2i : (en : Int) < (b : Int) := by omega
                have hc2 := IH.out mid en b (A ++ Z1) U R B w2 (by have := HLEN.out; have := HL.out; omega) (by simpa using HZ.out.1) hg2 (by have := HLEN.out; have := HZ.out.2.1.len; simp only [List.length_append] at *; omega) (by have := HA.out; have := HLEN.out; have := HZ.out.2.1.len; simp only [List.length_append] at *; omega) (by have := HLEN.out; have := HMM.out; omega) (by have := HLEN.out; omega) hv1 hv2 HASC.out.1.right HASC.out.2.right
                try rw [hw2] at hc2
                try rw [hw1] at hc2
                go_wp2_with fail
                refine hc2.mono ?_
                rintro e w3 ⟨rfl, Z2, hy1, hy2, hy3, hy4⟩
                have hmg := merge_parts HASC.out.1 HASC.out.2 HP.out.1 HP.out.2 HZ.out.2.1 HZ.out.2.2 hy2 hy3
                rw [← HXE.out.1, ← HXE.out.2] at hmg
                have HF : Hid (∃ Z, Rcm w3 g (A ++ (Z ++ B)) ∧ Sam Cm.ts (X ++ Y) Z ∧ Asc Cm.ts Z ∧ Tn [g] w w3) := ⟨Z1 ++ Z2, by simpa using hy1, hmg.1, hmg.2, HT2.out.trans (by first | exact hy4 | (rw [hw2]; exact hy4) | (rw [hw2, hw1]; exact hy4)) (fun x hx => .inl hx)⟩
                clear hc2 hy1 hy2 hy3 hy4 hmg
                go_wp2
                go_end0
                exact ⟨rfl, HF.out⟩
              · have hv2i : ¬ (en : Int) < (b : Int) := by omega
                have HF : Hid (∃ Z, Rcm w2 g (A ++ (Z ++ B)) ∧ Sam Cm.ts (X ++ Y) Z ∧ Asc Cm.ts Z ∧ Tn [g] w w2) := by
                  have h0 : U = [] ∨ R = [] := by
                    have := HLEN.out
                    have := HMM.out
                    by_cases e : mid < en
                    · exact .inr (List.eq_nil_of_length_eq_zero (by omega))
                    · exact .inl (List.eq_nil_of_length_eq_zero (by omega))
                  have hur : Asc Cm.ts (U ++ R) := by
                    rcases h0 with h0 | h0
                    · have := HASC.out.2.right
                      rw [h0]
                      simpa using this
                    · have := HASC.out.1.right
                      rw [h0]
                      simpa using this
                  have hmg := merge_parts HASC.out.1 HASC.out.2 HP.out.1 HP.out.2 HZ.out.2.1 HZ.out.2.2 (Sam.refl (U ++ R)) hur
                  rw [← HXE.out.1, ← HXE.out.2] at hmg
                  exact ⟨Z1 ++ (U ++ R), by simpa using HZ.out.1, hmg.1, hmg.2, HT2.out⟩
                try rw [hw2] at HF
                try rw [hw1] at HF
                go_wp2
                go_end0
                exact ⟨rfl, HF.out⟩
            · have hv1i : ¬ (mid : Int) < (en : Int) := by omega
              have HF : Hid (∃ Z, Rcm w2 g (A ++ (Z ++ B)) ∧ Sam Cm.ts (X ++ Y) Z ∧ Asc Cm.ts Z ∧ Tn [g] w w2) := by
                have h0 : U = [] ∨ R = [] := by
                  have := HLEN.out
                  have := HMM.out
                  by_cases e : mid < en
                  · exact .inr (List.eq_nil_of_length_eq_zero (by omega))
                  · exact .inl (List.eq_nil_of_length_eq_zero (by omega))
                have hur : Asc Cm.ts (U ++ R) := by
                  rcases h0 with h0 | h0
                  · have := HASC.out.2.right
                    rw [h0]
                    simpa using this
                  · have := HASC.out.1.right
                    rw [h0]
                    simpa using this
                have hmg := merge_parts HASC.out.1 HASC.out.2 HP.out.1 HP.out.2 HZ.out.2.1 HZ.out.2.2 (Sam.refl (U ++ R)) hur
                rw [← HXE.out.1, ← HXE.out.2] at hmg
                exact ⟨Z1 ++ (U ++ R), by simpa using HZ.out.1, hmg.1, hmg.2, HT2.out⟩
              try rw [hw2] at HF
              try rw [hw1] at HF
              go_wp2
              go_end0
              exact ⟨rfl, HF.out⟩
        · have hq1i : ¬ (a : Int) < (lo : Int) := by omega
          obtain ⟨Z1, hZ1⟩ : ∃ Z1, Z1 = L ++ V := ⟨_, rfl⟩
          obtain ⟨w2, hw2⟩ : ∃ w2, w2 = w1 := ⟨_, rfl⟩
          have HZ : Hid (Rcm w2 g (A ++ (Z1 ++ (U ++ (R ++ B)))) ∧ Sam Cm.ts (L ++ V) Z1 ∧ Asc Cm.ts Z1) := by
            refine ⟨by rw [hw2, hZ1]; simpa using HROW1.out, by rw [hZ1]; exact Sam.refl _, ?_⟩
            have h0 : L = [] ∨ V = [] := by
              have := HLEN.out
              by_cases e : a < lo
              · exact .inr (List.eq_nil_of_length_eq_zero (by omega))
              · exact .inl (List.eq_nil_of_length_eq_zero (by omega))
            rw [hZ1]
            rcases h0 with h0 | h0
            · have := HASC.out.2.left
              rw [h0]
              simpa using this
            · have := HASC.out.1.left
              rw [h0]
              simpa using this
          have HT2 : Hid (Tn [g] w w2) := by rw [hw2]; exact HT1
          have hg2 : g < w2.heap.size := by rw [hw2]; exact hg1
          clear hZ1
          by_cases hv1 : mid < en
          · have hv1i : (mid : Int) < (en : Int) := by omega
            by_cases hv2 : en < b
            · have hv2i : (en : Int) < (b : Int) := by omega
              have hc2 := IH.out mid en b (A ++ Z1) U R B w2 (by have := HLEN.out; have := HL.out; omega) (by simpa using HZ.out.1) hg2 (by have := HLEN.out; have := HZ.out.2.1.len; simp only [List.length_append] at *; omega) (by have := HA.out; have := HLEN.out; have := HZ.out.2.1.len; simp only [List.length_append] at *; omega) (by have := HLEN.out; have := HMM.out; omega) (by have := HLEN.out; omega) hv1 hv2 HASC.out.1.right HASC.out.2.right
              try rw [hw2] at hc2
              try rw [hw1] at hc2
              go_wp2_with fail
              refine hc2.mono ?_
              rintro e w3 ⟨rfl, Z2, hy1, hy2, hy3, hy4⟩
              have hmg := merge_parts HASC.out.1 HASC.out.2 HP.out.1 HP.out.2 HZ.out.2.1 HZ.out.2.2 hy2 hy3
              rw [← HXE.out.1, ← HXE.out.2] at hmg
              have HF : Hid (∃ Z, Rcm w3 g (A ++ (Z ++ B)) ∧ Sam Cm.ts (X ++ Y) Z ∧ Asc Cm.ts Z ∧ Tn [g] w w3) := ⟨Z1 ++ Z2, by simpa using hy1, hmg.1, hmg.2, HT2.out.trans (by first | exact hy4 | (rw [hw2]; exact hy4) | (rw [hw2, hw1]; exact hy4)) (fun x hx => .inl hx)⟩
              clear hc2 hy1 hy2 hy3 hy4 hmg
              go_wp2
              go_end0
              exact ⟨rfl, HF.out⟩
            · have hv2i : ¬ (en : Int) < (b : Int) := by omega
              have HF : Hid (∃ Z, Rcm w2 g (A ++ (Z ++ B)) ∧ Sam Cm.ts (X ++ Y) Z ∧ Asc Cm.ts Z ∧ Tn [g] w w2) := by
                have h0 : U = [] ∨ R = [] := by
                  have := HLEN.out
                  have := HMM.out
                  by_cases e : mid < en
                  · exact .inr (List.eq_nil_of_length_eq_zero (by omega))
                  · exact .inl (List.eq_nil_of_length_eq_zero (by omega))
                have hur : Asc Cm.ts (U ++ R) := by
                  rcases h0 with h0 | h0
                  · have := HASC.out.2.right
                    rw [h0]
                    simpa using this
                  · have := HASC.out.1.right
                    rw [h0]
                    simpa using this
                have hmg := merge_parts HASC.out.1 HASC.out.2 HP.out.1 HP.out.2 HZ.out.2.1 HZ.out.2.2 (Sam.refl (U ++ R)) hur
                rw [← HXE.out.1, ← HXE.out.2] at hmg
                exact ⟨Z1 ++ (U ++ R), by simpa using HZ.out.1, hmg.1, hmg.2, HT2.out⟩
              try rw [hw2] at HF
              try rw [hw1] at HF
              go_wp2
              go_end0
              exact ⟨rfl, HF.out⟩
          · have hv1i : ¬ (mid : Int) < (en : Int) := by omega
            have HF : Hid (∃ Z, Rcm w2 g (A ++ (Z ++ B)) ∧ Sam Cm.ts (X ++ Y) Z ∧ Asc Cm.ts Z ∧ Tn [g] w w2) := by
              have h0 : U = [] ∨ R = [] := by
                have := HLEN.out
                have := HMM.out
                by_cases e : mid < en
                · exact .inr (List.eq_nil_of_length_eq_zero (by omega))
                · exact .inl (List.eq_nil_of_length_eq_zero (by omega))
              have hur : Asc Cm.ts (U ++ R) := by
                rcases h0 with h0 | h0
                · have := HASC.out.2.right
                  rw [h0]
                  simpa using this
                · have := HASC.out.1.right
                  rw [h0]
                  simpa using this
              have hmg := merge_parts HASC.out.1 HASC.out.2 HP.out.1 HP.out.2 HZ.out.2.1 HZ.out.2.2 (Sam.refl (U ++ R)) hur
              rw [← HXE.out.1, ← HXE.out.2] at hmg
              exact ⟨Z1 ++ (U ++ R), by simpa using HZ.out.1, hmg.1, hmg.2, HT2.out⟩
            try rw [hw2] at HF
            try rw [hw1] at HF
            go_wp2
            go_end0
            exact ⟨rfl, HF.out⟩
      · have HROW1 : Hid (Rcm wr g (A ++ (L ++ (V ++ (U ++ (R ++ B)))))) := by
          have h0 : U = [] ∨ V = [] := by
            have := HLEN.out
            have := HMM.out
            by_cases e : lo < m
            · exact .inr (List.eq_nil_of_length_eq_zero (by omega))
            · exact .inl (List.eq_nil_of_length_eq_zero (by omega))
          have := HROW.out
          unfold Hid
          rcases h0 with rfl | rfl <;> simpa using this
        have HT1 : Hid (Tn [g] w wr) := HTW.out
        have hg1 : g < wr.heap.size := hgr
        obtain ⟨w1, hw1⟩ : ∃ w1, w1 = wr := ⟨_, rfl⟩
        rw [← hw1] at HROW1 HT1 hg1
        by_cases hr1 : lo < m
        · have hr1i : (lo : Int) < (m : Int) := by omega
          have hr2i : ¬ (m : Int) < (en : Int) := by omega
          clear hrot
          by_cases hq1 : a < lo
          · have hq1i : (a : Int) < (lo : Int) := by omega
            by_cases hq2 : lo < mid
            · have hq2i : (lo : Int) < (mid : Int) := by omega
              have hc1 := IH.out a lo mid A L V (U ++ (R ++ B)) w1 (by have := HLEN.out; have := HL.out; omega) (by simpa using HROW1.out) hg1 (by have := HLEN.out; simp only [List.length_append]; omega) HA.out (by have := HLEN.out; omega) (by have := HLEN.out; omega) hq1 hq2 HASC.out.1.left HASC.out.2.left
              rw [hw1] at hc1
              go_wp2_with fail
              refine hc1.mono ?_
              rintro e w2 ⟨rfl, Z1, hz1, hz2, hz3, hz4⟩
              have HZ : Hid (Rcm w2 g (A ++ (Z1 ++ (U ++ (R ++ B)))) ∧ Sam Cm.ts (L ++ V) Z1 ∧ Asc Cm.ts Z1) := ⟨hz1, hz2, hz3⟩
              have HT2 : Hid (Tn [g] w w2) := HT1.out.trans (by first | exact hz4 | (rw [hw1]; exact hz4)) (fun x hx => .inl hx)
              have hg2 : g < w2.heap.size := Nat.lt_of_lt_of_le hg1 (by first | exact hz4.size | (rw [hw1]; exact hz4.size))
              clear hc1 hz1 hz2 hz3 hz4
              by_cases hv1 : mid < en
              · have hv1i : (mid : Int) < (en : Int) := by omega
                by_cases hv2 : en < b
                · have hv2i : (en : Int) < (b : Int) := by omega
                  have hc2 := IH.out mid en b (A ++ Z1) U R B w2 (by have := HLEN.out; have := HL.out; omega) (by simpa using HZ.out.1) hg2 (by have := HLEN.out; have := HZ.out.2.1.len; simp only [List.length_append] at *; omega) (by have := HA.out; have := HLEN.out; have := HZ.out.2.1.len; simp only [List.length_append] at *; omega) (by have := HLEN.out; have := HMM.out; omega) (by have := HLEN.out; omega) hv1 hv2 HASC.out.1.right HASC.out.2.right
                  try rw [hw2] at hc2
                  try rw [hw1] at hc2
                  go_wp2_with fail
                  refine hc2.mono ?_
                  rintro e w3 ⟨rfl, Z2, hy1, hy2, hy3, hy4⟩
                  have hmg := merge_parts HASC.out.1 HASC.out.2 HP.out.1 HP.out.2 HZ.out.2.1 HZ.out.2.2 hy2 hy3
                  rw [← HXE.out.1, ← HXE.out.2] at hmg
                  have HF : Hid (∃ Z, Rcm w3 g (A ++ (Z ++ B)) ∧ Sam Cm.ts (X ++ Y) Z ∧ Asc Cm.ts Z ∧ Tn [g] w w3) := ⟨Z1 ++ Z2, by simpa using hy1, hmg.1, hmg.2, HT2.out.trans (by first | exact hy4 | (rw [hw2]; exact hy4) | (rw [hw2, hw1]; exact hy4)) (fun x hx => .inl hx)⟩
                  clear hc2 hy1 hy2 hy3 hy4 hmg
                  go_wp2
                  go_end0
                  exact ⟨rfl, HF.out⟩
                · have hv2i : ¬ (en : Int) < (b : Int) := by omega
                  have HF : Hid (∃ Z, Rcm w2 g (A ++ (Z ++ B)) ∧ Sam Cm.ts (X ++ Y) Z ∧ Asc Cm.ts Z ∧ Tn [g] w w2) := by
                    have h0 : U = [] ∨ R = [] := by
                      have := HLEN.out
                      have := HMM.out
                      by_cases e : mid < en
                      · exact .inr (List.eq_nil_of_length_eq_zero (by omega))
                      · exact .inl (List.eq_nil_of_length_eq_zero (by omega))
                    have hur : Asc Cm.ts (U ++ R) := by
                      rcases h0 with h0 | h0
                      · have := HASC.out.2.right
                        rw [h0]
                        simpa using this
                      · have := HASC.out.1.right
                        rw [h0]
                        simpa using this
                    have hmg := merge_parts HASC.out.1 HASC.out.2 HP.out.1 HP.out.2 HZ.out.2.1 HZ.out.2.2 (Sam.refl (U ++ R)) hur
                    rw [← HXE.out.1, ← HXE.out.2] at hmg
                    exact ⟨Z1 ++ (U ++ R), by simpa using HZ.out.1, hmg.1, hmg.2, HT2.out⟩
                  try rw [hw2] at HF
                  try rw [hw1] at HF
                  go_wp2
                  go_end0
                  exact ⟨rfl, HF.out⟩
              · have hv1i : ¬ (mid : Int) < (en : Int) := by omega
                have HF : Hid (∃ Z, Rcm w2 g (A ++ (Z ++ B)) ∧ Sam Cm.ts (X ++ Y) Z ∧ Asc Cm.ts Z ∧ Tn [g] w w2) := by
                  have h0 : U = [] ∨ R = [] := by
                    have := HLEN.out
                    have := HMM.out
                    by_cases e : mid < en
                    · exact .inr (List.eq_nil_of_length_eq_zero (by omega))
                    · exact .inl (List.eq_nil_of_length_eq_zero (by omega))
                  have hur : Asc Cm.ts (U ++ R) := by
                    rcases h0 with h0 | h0
                    · have := HASC.out.2.right
                      rw [h0]
                      simpa using this
                    · have := HASC.out.1.right
                      rw [h0]
                      simpa using this
                  have hmg := merge_parts HASC.out.1 HASC.out.2 HP.out.1 HP.out.2 HZ.out.2.1 HZ.out.2.2 (Sam.refl (U ++ R)) hur
                  rw [← HXE.out.1, ← HXE.out.2] at hmg
                  exact ⟨Z1 ++ (U ++ R), by simpa using HZ.out.1, hmg.1, hmg.2, HT2.out⟩
                try rw [hw2] at HF
                try rw [hw1] at HF
                go_wp2
                go_end0
                exact ⟨rfl, HF.out⟩
            · have hq2i : ¬ (lo : Int) < (mid : Int) := by omega
              obtain ⟨Z1, hZ1⟩ : ∃ Z1, Z1 = L ++ V := ⟨_, rfl⟩
              obtain ⟨w2, hw2⟩ : ∃ w2, w2 = w1 := ⟨_, rfl⟩
              have HZ : Hid (Rcm w2 g (A ++ (Z1 ++ (U ++ (R ++ B)))) ∧ Sam Cm.ts (L ++ V) Z1 ∧ Asc Cm.ts Z1) := by
                refine ⟨by rw [hw2, hZ1]; simpa using HROW1.out, by rw [hZ1]; exact Sam.refl _, ?_⟩
                have h0 : L = [] ∨ V = [] := by
                  have := HLEN.out
                  by_cases e : a < lo
                  · exact .inr (List.eq_nil_of_length_eq_zero (by omega))
                  · exact .inl (List.eq_nil_of_length_eq_zero (by omega))
                rw [hZ1]
                rcases h0 with h0 | h0
                · have := HASC.out.2.left
                  rw [h0]
                  simpa using this
                · have := HASC.out.1.left
                  rw [h0]
                  simpa using this
              have HT2 : Hid (Tn [g] w w2) := by rw [hw2]; exact HT1
              have hg2 : g < w2.heap.size := by rw [hw2]; exact hg1
              clear hZ1
              by_cases hv1 : mid < en
              · have hv1i : (mid : Int) < (en : Int) := by omega
                by_cases hv2 : en < b
                · have hv2i : (en : Int) < (b : Int) := by omega
                  have hc2 := IH.out mid en b (A ++ Z1) U R B w2 (by have := HLEN.out; have := HL.out; omega) (by simpa using HZ.out.1) hg2 (by have := HLEN.out; have := HZ.out.2.1.len; simp only [List.length_append] at *; omega) (by have := HA.out; have := HLEN.out; have := HZ.out.2.1.len; simp only [List.length_append] at *; omega) (by have := HLEN.out; have := HMM.out; omega) (by have := HLEN.out; omega) hv1 hv2 HASC.out.1.right HASC.out.2.right
                  try rw [hw2] at hc2
                  try rw [hw1] at hc2
                  go_wp2_with fail
                  refine hc2.mono ?_
                  rintro e w3 ⟨rfl, Z2, hy1, hy2, hy3, hy4⟩
                  have hmg := merge_parts HASC.out.1 HASC.out.2 HP.out.1 HP.out.2 HZ.out.2.1 HZ.out.2.2 hy2 hy3
                  rw [← HXE.out.1, ← HXE.out.2] at hmg
                  have HF : Hid (∃ Z, Rcm w3 g (A ++ (Z ++ B)) ∧ Sam Cm.ts (X ++ Y) Z ∧ Asc Cm.ts Z ∧ Tn [g] w w3) := ⟨Z1 ++ Z2, by simpa using hy1, hmg.1, hmg.2, HT2.out.trans (by first | exact hy4 | (rw [hw2]; exact hy4) | (rw [hw2, hw1]; exact hy4)) (fun x hx => .inl hx)⟩
                  clear hc2 hy1 hy2 hy3 hy4 hmg
                  go_wp2
                  go_end0
                  exact ⟨rfl, HF.out⟩
                · have hv2i : ¬ (en : Int) < (b : Int) := by omega
                  have HF : Hid (∃ Z, Rcm w2 g (A ++ (Z ++ B)) ∧ Sam Cm.ts (X ++ Y) Z ∧ Asc Cm.ts Z ∧ Tn [g] w w2) := by
                    have h0 : U = [] ∨ R = [] := by
                      have := HLEN.out
                      have := HMM.out
                      by_cases e : mid < en
                      · exact .inr (List.eq_nil_of_length_eq_zero (by omega))
                      · exact .inl (List.eq_nil_of_length_eq_zero (by omega))
                    have hur : Asc Cm.ts (U ++ R) := by
                      rcases h0 with h0 | h0
                      · have := HASC.out.2.right
                        rw [h0]
                        simpa using this
                      · have := HASC.out.1.right
                        rw [h0]
                        simpa using this
                    have hmg := merge_parts HASC.out.1 HASC.out.2 HP.out.1 HP.out.2 HZ.out.2.1 HZ.out.2.2 (Sam.refl (U ++ R)) hur
                    rw [← HXE.out.1, ← HXE.out.2] at hmg
                    exact ⟨Z1 ++ (U ++ R), by simpa using HZ.out.1, hmg.1, hmg.2, HT2.out⟩
                  try rw [hw2] at HF
                  try rw [hw1] at HF
                  go_wp2
                  go_end0
                  exact ⟨rfl, HF.out⟩
              · have hv1i : ¬ (mid : Int) < (en : Int) := by omega
                have HF : Hid (∃ Z, Rcm w2 g (A ++ (Z ++ B)) ∧ Sam Cm.ts (X ++ Y) Z ∧ Asc Cm.ts Z ∧ Tn [g] w w2) := by
                  have h0 : U = [] ∨ R = [] := by
                    have := HLEN.out
                    have := HMM.out
                    by_cases e : mid < en
                    · exact .inr (List.eq_nil_of_length_eq_zero (by omega))
                    · exact .inl (List.eq_nil_of_length_eq_zero (by omega))
                  have hur : Asc Cm.ts (U ++ R) := by
                    rcases h0 with h0 | h0
                    · have := HASC.out.2.right
                      rw [h0]
                      simpa using this
                    · have := HASC.out.1.right
                      rw [h0]
                      simpa using this
                  have hmg := merge_parts HASC.out.1 HASC.out.2 HP.out.1 HP.out.2 HZ.out.2.1 HZ.out.2.2 (Sam.refl (U ++ R)) hur
                  rw [← HXE.out.1, ← HXE.out.2] at hmg
                  exact ⟨Z1 ++ (U ++ R), by simpa using HZ.out.1, hmg.1, hmg.2, HT2.out⟩
                try rw [hw2] at HF
                try rw [hw1] at HF
                go_wp2
                go_end0
                exact ⟨rfl, HF.out⟩
          · have hq1i : ¬ (a : Int) < (lo : Int) := by omega
            obtain ⟨Z1, hZ1⟩ : ∃ Z1, Z1 = L ++ V := ⟨_, rfl⟩
            obtain ⟨w2, hw2⟩ : ∃ w2, w2 = w1 := ⟨_, rfl⟩
            have HZ : Hid (Rcm w2 g (A ++ (Z1 ++ (U ++ (R ++ B)))) ∧ Sam Cm.ts (L ++ V) Z1 ∧ Asc Cm.ts Z1) := by
              refine ⟨by rw [hw2, hZ1]; simpa using HROW1.out, by rw [hZ1]; exact Sam.refl _, ?_⟩
              have h0 : L = [] ∨ V = [] := by
                have := HLEN.out
                by_cases e : a < lo
                · exact .inr (List.eq_nil_of_length_eq_zero (by omega))
                · exact .inl (List.eq_nil_of_length_eq_zero (by omega))
              rw [hZ1]
              rcases h0 with h0 | h0
              · have := HASC.out.2.left
                rw [h0]
                simpa using this
              · have := HASC.out.1.left
                rw [h0]
                simpa using this
            have HT2 : Hid (Tn [g] w w2) := by rw [hw2]; exact HT1
            have hg2 : g < w2.heap.size := by rw [hw2]; exact hg1
            clear hZ1
            by_cases hv1 : mid < en
            · have hv1i : (mid : Int) < (en : Int) := by omega
              by_cases hv2 : en < b
              · have hv2i : (en : Int) < (b : Int) := by omega
                have hc2 := IH.out mid en b (A ++ Z1) U R B w2 (by have := HLEN.out; have := HL.out; omega) (by simpa using HZ.out.1) hg2 (by have := HLEN.out; have := HZ.out.2.1.len; simp only [List.length_append] at *; omega) (by have := HA.out; have := HLEN.out; have := HZ.out.2.1.len; simp only [List.length_append] at *; omega) (by have := HLEN.out; have := HMM.out; omega) (by have := HLEN.out; omega) hv1 hv2 HASC.out.1.right HASC.out.2.right
                try rw [hw2] at hc2
                try rw [hw1] at hc2
                go_wp2_with fail
                refine hc2.mono ?_
                rintro e w3 ⟨rfl, Z2, hy1, hy2, hy3, hy4⟩
                have hmg := merge_parts HASC.out.1 HASC.out.2 HP.out.1 HP.out.2 HZ.out.2.1 HZ.out.2.2 hy2 hy3
                rw [← HXE.out.1, ← HXE.out.2] at hmg
                have HF : Hid (∃ Z, Rcm w3 g (A ++ (Z ++ B)) ∧ Sam Cm.ts (X ++ Y) Z ∧ Asc Cm.ts Z ∧ Tn [g] w w3) := ⟨Z1 ++ Z2, by simpa using hy1, hmg.1, hmg.2, HT2.out.trans (by first | exact hy4 | (rw [hw2]; exact hy4) | (rw [hw2, hw1]; exact hy4)) (fun x hx => .inl hx)⟩
                clear hc2 hy1 hy2 hy3 hy4 hmg
                go_wp2
                go_end0
                exact ⟨rfl, HF.out⟩
              · have hv2i : ¬ (en : Int) < (b : Int) := by omega
                have HF : Hid (∃ Z, Rcm w2 g (A ++ (Z ++ B)) ∧ Sam Cm.ts (X ++ Y) Z ∧ Asc Cm.ts Z ∧ Tn [g] w w2) := by
                  have h0 : U = [] ∨ R = [] := by
                    have := HLEN.out
                    have := HMM.out
                    by_cases e : mid < en
                    · exact .inr (List.eq_nil_of_length_eq_zero (by omega))
                    · exact .inl (List.eq_nil_of_length_eq_zero (by omega))
                  have hur : Asc Cm.ts (U ++ R) := by
                    rcases h0 with h0 | h0
                    · have := HASC.out.2.right
                      rw [h0]
                      simpa using this
                    · have := HASC.out.1.right
                      rw [h0]
                      simpa using this
                  have hmg := merge_parts HASC.out.1 HASC.out.2 HP.out.1 HP.out.2 HZ.out.2.1 HZ.out.2.2 (Sam.refl (U ++ R)) hur
                  rw [← HXE.out.1, ← HXE.out.2] at hmg
                  exact ⟨Z1 ++ (U ++ R), by simpa using HZ.out.1, hmg.1, hmg.2, HT2.out⟩
                try rw [hw2] at HF
                try rw [hw1] at HF
                go_wp2
                go_end0
                exact ⟨rfl, HF.out⟩
            · have hv1i : ¬ (mid : Int) < (en : Int) := by omega
              have HF : Hid (∃ Z, Rcm w2 g (A ++ (Z ++ B)) ∧ Sam Cm.ts (X ++ Y) Z ∧ Asc Cm.ts Z ∧ Tn [g] w w2) := by
                have h0 : U = [] ∨ R = [] := by
                  have := HLEN.out
                  have := HMM.out
                  by_cases e : mid < en
                  · exact .inr (List.eq_nil_of_length_eq_zero (by omega))
                  · exact .inl (List.eq_nil_of_length_eq_zero (by omega))
                have hur : Asc Cm.ts (U ++ R) := by
                  rcases h0 with h0 | h0
                  · have := HASC.out.2.right
                    rw [h0]
                    simpa using this
                  · have := HASC.out.1.right
                    rw [h0]
                    simpa using this
                have hmg := merge_parts HASC.out.1 HASC.out.2 HP.out.1 HP.out.2 HZ.out.2.1 HZ.out.2.2 (Sam.refl (U ++ R)) hur
                rw [← HXE.out.1, ← HXE.out.2] at hmg
                exact ⟨Z1 ++ (U ++ R), by simpa using HZ.out.1, hmg.1, hmg.2, HT2.out⟩
              try rw [hw2] at HF
              try rw [hw1] at HF
              go_wp2
              go_end0
              exact ⟨rfl, HF.out⟩
        · have hr1i : ¬ (lo : Int) < (m : Int) := by omega
          clear hrot
          by_cases hq1 : a < lo
          · have hq1i : (a : Int) < (lo : Int) := by omega
            by_cases hq2 : lo < mid
            · have hq2i : (lo : Int) < (mid : Int) := by omega
              have hc1 := IH.out a lo mid A L V (U ++ (R ++ B)) w1 (by have := HLEN.out; have := HL.out; omega) (by simpa using HROW1.out) hg1 (by have := HLEN.out; simp only [List.length_append]; omega) HA.out (by have := HLEN.out; omega) (by have := HLEN.out; omega) hq1 hq2 HASC.out.1.left HASC.out.2.left
              rw [hw1] at hc1
              go_wp2_with fail
              refine hc1.mono ?_
              rintro e w2 ⟨rfl, Z1, hz1, hz2, hz3, hz4⟩
              have HZ : Hid (Rcm w2 g (A ++ (Z1 ++ (U ++ (R ++ B)))) ∧ Sam Cm.ts (L ++ V) Z1 ∧ Asc Cm.ts Z1) := ⟨hz1, hz2, hz3⟩
              have HT2 : Hid (Tn [g] w w2) := HT1.out.trans (by first | exact hz4 | (rw [hw1]; exact hz4)) (fun x hx => .inl hx)
              have hg2 : g < w2.heap.size := Nat.lt_of_lt_of_le hg1 (by first | exact hz4.size | (rw [hw1]; exact hz4.size))
              clear hc1 hz1 hz2 hz3 hz4
              by_cases hv1 : mid < en
              · have hv1i : (mid : Int) < (en : Int) := by omega
                by_cases hv2 : en < b
                · have hv2i : (en : Int) < (b : Int) := by omega
                  have hc2 := IH.out mid en b (A ++ Z1) U R B w2 (by have := HLEN.out; have := HL.out; omega) (by simpa using HZ.out.1) hg2 (by have := HLEN.out; have := HZ.out.2.1.len; simp only [List.length_append] at *; omega) (by have := HA.out; have := HLEN.out; have := HZ.out.2.1.len; simp only [List.length_append] at *; omega) (by have := HLEN.out; have := HMM.out; omega) (by have := HLEN.out; omega) hv1 hv2 HASC.out.1.right HASC.out.2.right
                  try rw [hw2] at hc2
                  try rw [hw1] at hc2
                  go_wp2_with fail
                  refine hc2.mono ?_
                  rintro e w3 ⟨rfl, Z2, hy1, hy2, hy3, hy4⟩
                  have hmg := merge_parts HASC.out.1 HASC.out.2 HP.out.1 HP.out.2 HZ.out.2.1 HZ.out.2.2 hy2 hy3
                  rw [← HXE.out.1, ← HXE.out.2] at hmg
                  have HF : Hid (∃ Z, Rcm w3 g (A ++ (Z ++ B)) ∧ Sam Cm.ts (X ++ Y) Z ∧ Asc Cm.ts Z ∧ Tn [g] w w3) := ⟨Z1 ++ Z2, by simpa using hy1, hmg.1, hmg.2, HT2.out.trans (by first | exact hy4 | (rw [hw2]; exact hy4) | (rw [hw2, hw1]; exact hy4)) (fun x hx => .inl hx)⟩
                  clear hc2 hy1 hy2 hy3 hy4 hmg
                  go_wp2
                  go_end0
                  exact ⟨rfl, HF.out⟩
                · have hv2i : ¬ (en : Int) < (b : Int) := by omega
                  have HF : Hid (∃ Z, Rcm w2 g (A ++ (Z ++ B)) ∧ Sam Cm.ts (X ++ Y) Z ∧ Asc Cm.ts Z ∧ Tn [g] w w2) := by
                    have h0 : U = [] ∨ R = [] := by
                      have := HLEN.out
                      have := HMM.out
                      by_cases e : mid < en
                      · exact .inr (List.eq_nil_of_length_eq_zero (by omega))
                      · exact .inl (List.eq_nil_of_length_eq_zero (by omega))
                    have hur : Asc Cm.ts (U ++ R) := by
                      rcases h0 with h0 | h0
                      · have := HASC.out.2.right
                        rw [h0]
                        simpa using this
                      · have := HASC.out.1.right
                        rw [h0]
                        simpa using this
                    have hmg := merge_parts HASC.out.1 HASC.out.2 HP.out.1 HP.out.2 HZ.out.2.1 HZ.out.2.2 (Sam.refl (U ++ R)) hur
                    rw [← HXE.out.1, ← HXE.out.2] at hmg
                    exact ⟨Z1 ++ (U ++ R), by simpa using HZ.out.1, hmg.1, hmg.2, HT2.out⟩
                  try rw [hw2] at HF
                  try rw [hw1] at HF
                  go_wp2
                  go_end0
                  exact ⟨rfl, HF.out⟩
              · have hv1i : ¬ (mid : Int) < (en : Int) := by omega
                have HF : Hid (∃ Z, Rcm w2 g (A ++ (Z ++ B)) ∧ Sam Cm.ts (X ++ Y) Z ∧ Asc Cm.ts Z ∧ Tn [g] w w2) := by
                  have h0 : U = [] ∨ R = [] := by
                    have := HLEN.out
                    have := HMM.out
                    by_cases e : mid < en
                    · exact .inr (List.eq_nil_of_length_eq_zero (by omega))
                    · exact .inl (List.eq_nil_of_length_eq_zero (by omega))
                  have hur : Asc Cm.ts (U ++ R) := by
                    rcases h0 with h0 | h0
                    · have := HASC.out.2.right
                      rw [h0]
                      simpa using this
                    · have := HASC.out.1.right
                      rw [h0]
                      simpa using this
                  have hmg := merge_parts HASC.out.1 HASC.out.2 HP.out.1 HP.out.2 HZ.out.2.1 HZ.out.2.2 (Sam.refl (U ++ R)) hur
                  rw [← HXE.out.1, ← HXE.out.2] at hmg
                  exact ⟨Z1 ++ (U ++ R), by simpa using HZ.out.1, hmg.1, hmg.2, HT2.out⟩
                try rw [hw2] at HF
                try rw [hw1] at HF
                go_wp2
                go_end0
                exact ⟨rfl, HF.out⟩
            · have hq2i : ¬ (lo : Int) < (mid : Int) := by omega
              obtain ⟨Z1, hZ1⟩ : ∃ Z1, Z1 = L ++ V := ⟨_, rfl⟩
              obtain ⟨w2, hw2⟩ : ∃ w2, w2 = w1 := ⟨_, rfl⟩
              have HZ : Hid (Rcm w2 g (A ++ (Z1 ++ (U ++ (R ++ B)))) ∧ Sam Cm.ts (L ++ V) Z1 ∧ Asc Cm.ts Z1) := by
                refine ⟨by rw [hw2, hZ1]; simpa using HROW1.out, by rw [hZ1]; exact Sam.refl _, ?_⟩
                have h0 : L = [] ∨ V = [] := by
                  have := HLEN.out
                  by_cases e : a < lo
                  · exact .inr (List.eq_nil_of_length_eq_zero (by omega))
                  · exact .inl (List.eq_nil_of_length_eq_zero (by omega))
                rw [hZ1]
                rcases h0 with h0 | h0
                · have := HASC.out.2.left
                  rw [h0]
                  simpa using this
                · have := HASC.out.1.left
                  rw [h0]
                  simpa using this
              have HT2 : Hid (Tn [g] w w2) := by rw [hw2]; exact HT1
              have hg2 : g < w2.heap.size := by rw [hw2]; exact hg1
              clear hZ1
              by_cases hv1 : mid < en
              · have hv1i : (mid : Int) < (en : Int) := by omega
                by_cases hv2 : en < b
                · have hv2i : (en : Int) < (b : Int) := by omega
                  have hc2 := IH.out mid en b (A ++ Z1) U R B w2 (by have := HLEN.out; have := HL.out; omega) (by simpa using HZ.out.1) hg2 (by have := HLEN.out; have := HZ.out.2.1.len; simp only [List.length_append] at *; omega) (by have := HA.out; have := HLEN.out; have := HZ.out.2.1.len; simp only [List.length_append] at *; omega) (by have := HLEN.out; have := HMM.out; omega) (by have := HLEN.out; omega) hv1 hv2 HASC.out.1.right HASC.out.2.right
                  try rw [hw2] at hc2
                  try rw [hw1] at hc2
                  go_wp2_with fail
                  refine hc2.mono ?_
                  rintro e w3 ⟨rfl, Z2, hy1, hy2, hy3, hy4⟩
                  have hmg := merge_parts HASC.out.1 HASC.out.2 HP.out.1 HP.out.2 HZ.out.2.1 HZ.out.2.2 hy2 hy3
                  rw [← HXE.out.1, ← HXE.out.2] at hmg
                  have HF : Hid (∃ Z, Rcm w3 g (A ++ (Z ++ B)) ∧ Sam Cm.ts (X ++ Y) Z ∧ Asc Cm.ts Z ∧ Tn [g] w w3) := ⟨Z1 ++ Z2, by simpa using hy1, hmg.1, hmg.2, HT2.out.trans (by first | exact hy4 | (rw [hw2]; exact hy4) | (rw [hw2, hw1]; exact hy4)) (fun x hx => .inl hx)⟩
                  clear hc2 hy1 hy2 hy3 hy4 hmg
                  go_wp2
                  go_end0
                  exact ⟨rfl, HF.out⟩
                · have hv2i : ¬ (en : Int) < (b : Int) := by omega
                  have HF : Hid (∃ Z, Rcm w2 g (A ++ (Z ++ B)) ∧ Sam Cm.ts (X ++ Y) Z ∧ Asc Cm.ts Z ∧ Tn [g] w w2) := by
                    have h0 : U = [] ∨ R = [] := by
                      have := HLEN.out
                      have := HMM.out
                      by_cases e : mid < en
                      · exact .inr (List.eq_nil_of_length_eq_zero (by omega))
                      · exact .inl (List.eq_nil_of_length_eq_zero (by omega))
                    have hur : Asc Cm.ts (U ++ R) := by
                      rcases h0 with h0 | h0
                      · have := HASC.out.2.right
                        rw [h0]
                        simpa using this
                      · have := HASC.out.1.right
                        rw [h0]
                        simpa using this
                    have hmg := merge_parts HASC.out.1 HASC.out.2 HP.out.1 HP.out.2 HZ.out.2.1 HZ.out.2.2 (Sam.refl (U ++ R)) hur
                    rw [← HXE.out.1, ← HXE.out.2] at hmg
                    exact ⟨Z1 ++ (U ++ R), by simpa using HZ.out.1, hmg.1, hmg.2, HT2.out⟩
                  try rw [hw2] at HF
                  try rw [hw1] at HF
                  go_wp2
                  go_end0
                  exact ⟨rfl, HF.out⟩
              · have hv1i : ¬ (mid : Int) < (en : Int) := by omega
                have HF : Hid (∃ Z, Rcm w2 g (A ++ (Z ++ B)) ∧ Sam Cm.ts (X ++ Y) Z ∧ Asc Cm.ts Z ∧ Tn [g] w w2) := by
                  have h0 : U = [] ∨ R = [] := by
                    have := HLEN.out
                    have := HMM.out
                    by_cases e : mid < en
                    · exact .inr (List.eq_nil_of_length_eq_zero (by omega))
                    · exact .inl (List.eq_nil_of_length_eq_zero (by omega))
                  have hur : Asc Cm.ts (U ++ R) := by
                    rcases h0 with h0 | h0
                    · have := HASC.out.2.right
                      rw [h0]
                      simpa using this
                    · have := HASC.out.1.right
                      rw [h0]
                      simpa using this
                  have hmg := merge_parts HASC.out.1 HASC.out.2 HP.out.1 HP.out.2 HZ.out.2.1 HZ.out.2.2 (Sam.refl (U ++ R)) hur
                  rw [← HXE.out.1, ← HXE.out.2] at hmg
                  exact ⟨Z1 ++ (U ++ R), by simpa using HZ.out.1, hmg.1, hmg.2, HT2.out⟩
                try rw [hw2] at HF
                try rw [hw1] at HF
                go_wp2
                go_end0
                exact ⟨rfl, HF.out⟩
          · have hq1i : ¬ (a : Int) < (lo : Int) := by omega
            obtain ⟨Z1, hZ1⟩ : ∃ Z1, Z1 = L ++ V := ⟨_, rfl⟩
            obtain ⟨w2, hw2⟩ : ∃ w2, w2 = w1 := ⟨_, rfl⟩
            have HZ : Hid (Rcm w2 g (A ++ (Z1 ++ (U ++ (R ++ B)))) ∧ Sam Cm.ts (L ++ V) Z1 ∧ Asc Cm.ts Z1) := by
              refine ⟨by rw [hw2, hZ1]; simpa using HROW1.out, by rw [hZ1]; exact Sam.refl _, ?_⟩
              have h0 : L = [] ∨ V = [] := by
                have := HLEN.out
                by_cases e : a < lo
                · exact .inr (List.eq_nil_of_length_eq_zero (by omega))
                · exact .inl (List.eq_nil_of_length_eq_zero (by omega))
              rw [hZ1]
              rcases h0 with h0 | h0
              · have := HASC.out.2.left
                rw [h0]
                simpa using this
              · have := HASC.out.1.left
                rw [h0]
                simpa using this
            have HT2 : Hid (Tn [g] w w2) := by rw [hw2]; exact HT1
            have hg2 : g < w2.heap.size := by rw [hw2]; exact hg1
            clear hZ1
            by_cases hv1 : mid < en
            · have hv1i : (mid : Int) < (en : Int) := by omega
              by_cases hv2 : en < b
              · have hv2i : (en : Int) < (b : Int) := by omega
                have hc2 := IH.out mid en b (A ++ Z1) U R B w2 (by have := HLEN.out; have := HL.out; omega) (by simpa using HZ.out.1) hg2 (by have := HLEN.out; have := HZ.out.2.1.len; simp only [List.length_append] at *; omega) (by have := HA.out; have := HLEN.out; have := HZ.out.2.1.len; simp only [List.length_append] at *; omega) (by have := HLEN.out; have := HMM.out; omega) (by have := HLEN.out; omega) hv1 hv2 HASC.out.1.right HASC.out.2.right
                try rw [hw2] at hc2
                try rw [hw1] at hc2
                go_wp2_with fail
                refine hc2.mono ?_
                rintro e w3 ⟨rfl, Z2, hy1, hy2, hy3, hy4⟩
                have hmg := merge_parts HASC.out.1 HASC.out.2 HP.out.1 HP.out.2 HZ.out.2.1 HZ.out.2.2 hy2 hy3
                rw [← HXE.out.1, ← HXE.out.2] at hmg
                have HF : Hid (∃ Z, Rcm w3 g (A ++ (Z ++ B)) ∧ Sam Cm.ts (X ++ Y) Z ∧ Asc Cm.ts Z ∧ Tn [g] w w3) := ⟨Z1 ++ Z2, by simpa using hy1, hmg.1, hmg.2, HT2.out.trans (by first | exact hy4 | (rw [hw2]; exact hy4) | (rw [hw2, hw1]; exact hy4)) (fun x hx => .inl hx)⟩
                clear hc2 hy1 hy2 hy3 hy4 hmg
                go_wp2
                go_end0
                exact ⟨rfl, HF.out⟩
              · have hv2i : ¬ (en : Int) < (b : Int) := by omega
                have HF : Hid (∃ Z, Rcm w2 g (A ++ (Z ++ B)) ∧ Sam Cm.ts (X ++ Y) Z ∧ Asc Cm.ts Z ∧ Tn [g] w w2) := by
                  have h0 : U = [] ∨ R = [] := by
                    have := HLEN.out
                    have := HMM.out
                    by_cases e : mid < en
                    · exact .inr (List.eq_nil_of_length_eq_zero (by omega))
                    · exact .inl (List.eq_nil_of_length_eq_zero (by omega))
                  have hur : Asc Cm.ts (U ++ R) := by
                    rcases h0 with h0 | h0
                    · have := HASC.out.2.right
                      rw [h0]
                      simpa using this
                    · have := HASC.out.1.right
                      rw [h0]
                      simpa using this
                  have hmg := merge_parts HASC.out.1 HASC.out.2 HP.out.1 HP.out.2 HZ.out.2.1 HZ.out.2.2 (Sam.refl (U ++ R)) hur
                  rw [← HXE.out.1, ← HXE.out.2] at hmg
                  exact ⟨Z1 ++ (U ++ R), by simpa using HZ.out.1, hmg.1, hmg.2, HT2.out⟩
                try rw [hw2] at HF
                try rw [hw1] at HF
                go_wp2
                go_end0
                exact ⟨rfl, HF.out⟩
            · have hv1i : ¬ (mid : Int) < (en : Int) := by omega
              have HF : Hid (∃ Z, Rcm w2 g (A ++ (Z ++ B)) ∧ Sam Cm.ts (X ++ Y) Z ∧ Asc Cm.ts Z ∧ Tn [g] w w2) := by
                have h0 : U = [] ∨ R = [] := by
                  have := HLEN.out
                  have := HMM.out
                  by_cases e : mid < en
                  · exact .inr (List.eq_nil_of_length_eq_zero (by omega))
                  · exact .inl (List.eq_nil_of_length_eq_zero (by omega))
                have hur : Asc Cm.ts (U ++ R) := by
                  rcases h0 with h0 | h0
                  · have := HASC.out.2.right
                    rw [h0]
                    simpa using this
                  · have := HASC.out.1.right
                    rw [h0]
                    simpa using this
                have hmg := merge_parts HASC.out.1 HASC.out.2 HP.out.1 HP.out.2 HZ.out.2.1 HZ.out.2.2 (Sam.refl (U ++ R)) hur
                rw [← HXE.out.1, ← HXE.out.2] at hmg
                exact ⟨Z1 ++ (U ++ R), by simpa using HZ.out.1, hmg.1, hmg.2, HT2.out⟩
              try rw [hw2] at HF
              try rw [hw1] at HF
              go_wp2
              go_end0
              exact ⟨rfl, HF.out⟩
end Go.Proofs.Ytilabcolfabnmaa
