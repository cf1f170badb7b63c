/- How commits are held against each other; insertion sort of commits. -/
import Derived.Test.YtilabcolfabnmaaSbR
import Derived.Lib.QuietBelow
import Derived.BigQuiet
import Derived.Deep.QuietTactic
import Derived.Shelf.GgClosure.Gives
namespace Go.Proofs.Ytilabcolfabnmaa
open Go.RowKit Go.Sort
set_option linter.unusedVariables false
set_option maxRecDepth 100000

theorem nan_any (x : Int) (w : World) : Calls Try.prog 62 #[.int .i64 x] w fun e w' => e = .returned (.bool false) ∧ w' = w := by
  go_enter Try.func62, Try.ntmps62
  go_wp2
  all_goals first | (go_ret; exact ⟨by simp, rfl⟩) | skip

/-- How two timestamps are held against each other. -/
def cmpI (x y : Int) : Int := if x < y then -1 else if y < x then 1 else 0
theorem cmpI_lt {x y : Int} (h : x < y) : cmpI x y < 0 := by simp [cmpI, h]
theorem cmpI_ge {x y : Int} (h : ¬ x < y) : ¬ cmpI x y < 0 := by
  unfold cmpI
  rw [if_neg h]
  split <;> omega

theorem cmpi_any (x y : Int) (w : World) : Calls Try.prog 49 #[.int .i64 x, .int .i64 y] w fun e w' => e = .returned (.int .i64 (cmpI x y)) ∧ w' = w := by
  by_cases h1 : x < y
  · have HV : Hid (cmpI x y = -1) := by simp [Hid, cmpI, h1]
    go_enter Try.func49, Try.ntmps49
    go_wp2_with (go_at_call 62; refine (nan_any _ _).mono ?_; rintro e w1 ⟨rfl, rfl⟩)
    go_ret
    exact ⟨by rw [HV.out]; rfl, rfl⟩
  · by_cases h2 : y < x
    · have HV : Hid (cmpI x y = 1) := by simp [Hid, cmpI, h1, h2]
      go_enter Try.func49, Try.ntmps49
      go_wp2_with (go_at_call 62; refine (nan_any _ _).mono ?_; rintro e w1 ⟨rfl, rfl⟩)
      go_ret
      exact ⟨by rw [HV.out]; rfl, rfl⟩
    · have HV : Hid (cmpI x y = 0) := by simp [Hid, cmpI, h1, h2]
      go_enter Try.func49, Try.ntmps49
      go_wp2_with (go_at_call 62; refine (nan_any _ _).mono ?_; rintro e w1 ⟨rfl, rfl⟩)
      go_ret
      exact ⟨by rw [HV.out]; rfl, rfl⟩

theorem cmpc_any (x y : Cm) (w : World) : Calls Try.prog 48 #[x.v, y.v] w fun e w' => e = .returned (.int .i64 (cmpI x.ts y.ts)) ∧ Below w.heap.size w w' := by
  obtain ⟨x1, x2, x3, x4⟩ := x
  obtain ⟨y1, y2, y3, y4⟩ := y
  go_enter Try.func48, Try.ntmps48
  go_wp2_with fail
  refine (cmpi_any x1 y1 _).mono ?_
  rintro e w1 ⟨rfl, rfl⟩
  go_wp2
  go_ret
  exact ⟨rfl, ((Below.refl _ _).alloc (Nat.le_refl _) _).alloc (by simp) _⟩

/-- .. in whatever world behind one. -/
theorem cmpc_at (x1 : Int) (x2 : Option Addr) (x3 x4 : Nat) (y1 : Int) (y2 : Option Addr) (y3 y4 : Nat) (c : Int) (hc : cmpI x1 y1 = c) (w : World) : ∀ d os, Calls Try.prog 48 #[.agg #[.int .i64 x1, .slice x2 x3 x4], .agg #[.int .i64 y1, .slice y2 y3 y4]] (grow (redrawn w d) os) fun e w'' => e = .returned (.int .i64 c) ∧ ∃ p : Regrown, w'' = grow (redrawn w p.d) p.os := fun d os =>
  Calls.regrown_of (by have := cmpc_any ⟨x1, x2, x3, x4⟩ ⟨y1, y2, y3, y4⟩ (grow (redrawn w d) os); rw [hc] at this; exact this)

theorem cmpEnters : ∀ args w, (callFunc 48 args).run Try.prog w = .ok (.enter 48 args) w := enters_of Try.func48 (by kernel_rfl) rfl

theorem last_split {l : List Cm} (h : l ≠ []) : ∃ r x, l = r ++ [x] := ⟨l.dropLast, l.getLast h, (List.dropLast_concat_getLast h).symm⟩

set_option maxHeartbeats 4000000 in
theorem isort_any (g cap N a b : Nat) (A X B : List Cm) (w : World) (hr : Rcm w g (A ++ (X ++ B))) (hg : g < w.heap.size) (hN : (A ++ (X ++ B)).length = N) (ha : A.length = a) (hb : a + X.length = b) (hl : N ≤ 4398046511104) :
    Calls Try.prog 67 #[.slice (some ⟨g, 0, none⟩) N cap, .int .i64 a, .int .i64 b, .func (.func 48) #[] #[]] w fun e w' => e = .returned (.tuple #[]) ∧ ∃ Z, Rcm w' g (A ++ (Z ++ B)) ∧ Sam Cm.ts X Z ∧ Asc Cm.ts Z ∧ Tn [g] w w' := by
  have eg := cmpEnters
  have hbN : b ≤ N := by
    simp only [List.length_append] at hN
    omega
  obtain ⟨n, hn⟩ : ∃ n, X.length = n := ⟨_, rfl⟩
  rw [hn] at hb
  have HA : Hid (A.length = a) := ha
  have HX : Hid (X.length = n) := hn
  have HG : Hid (g < w.heap.size) := hg
  have H0 : Hid (∃ Z, Rcm w g (A ++ (Z ++ (X.drop 1 ++ B))) ∧ Sam Cm.ts (X.take 1) Z ∧ Asc Cm.ts Z) := ⟨X.take 1, by
    rw [← List.append_assoc (X.take 1), List.take_append_drop]
    exact hr, Sam.refl _, by
    cases X with
    | nil => exact Asc.nil
    | cons x r => exact Asc.single x⟩
  clear hr hN ha hn hg
  go_enter Try.func67, Try.ntmps67
  go_wp2_with fail
  go_loopw [8] (fun v wr => ∃ i k : Nat, v = .int .i64 i ∧ a + k = i ∧ 1 ≤ k ∧ k ≤ n + 1 ∧ Hid (∃ Z, Rcm wr g (A ++ (Z ++ (X.drop k ++ B))) ∧ Sam Cm.ts (X.take k) Z ∧ Asc Cm.ts Z) ∧ Hid (Tn [g] w wr)) (fun v _ => b + 1 - (intOf v).toNat)
  case atStart => exact ⟨a + 1, 1, by go_num, rfl, by omega, by omega, H0, Tn.refl _ _⟩
  case round =>
    obtain ⟨i, k, rfl, hik, hk1, hkn, HR, HT⟩ := hrel
    by_cases hlt : i < b
    · have hli : (i : Int) < (b : Int) := by omega
      obtain ⟨Z, hz1, hz2, hz3⟩ := HR.out
      obtain ⟨x, hxe, hx1, hx2, hx3⟩ := split_at (l := X) (i := k) (by have := HX.out; omega)
      rw [hx3] at hz1
      have hzl : Z.length = k := by
        have := hz2.len
        rw [List.length_take] at this
        have := HX.out
        omega
      have HZ : Hid (Sam Cm.ts (X.take (k + 1)) (Z ++ [x]) ∧ Asc Cm.ts Z) := ⟨by rw [hx2]; exact hz2.app (Sam.refl _), hz3⟩
      have HI0 : Hid (∃ Z1 Z2, Z = Z1 ++ Z2 ∧ a + Z1.length = i ∧ (∀ y ∈ Z2, x.ts < y.ts) ∧ Rcm wr g (A ++ (Z1 ++ (x :: (Z2 ++ (X.drop (k + 1) ++ B)))))) := ⟨Z, [], by simp, by omega, by simp, by simpa using hz1⟩
      clear hz1 hz2 hz3 hxe hx1 hx2 hx3 hzl HR
      obtain ⟨x1, x2, x3, x4⟩ := x
      go_wp2_with fail
      go_loopw [9] (fun v wr => ∃ j : Nat, v = .int .i64 j ∧ a ≤ j ∧ j ≤ i ∧ Hid (∃ Z1 Z2, Z = Z1 ++ Z2 ∧ a + Z1.length = j ∧ (∀ y ∈ Z2, x1 < y.ts) ∧ Rcm wr g (A ++ (Z1 ++ (⟨x1, x2, x3, x4⟩ :: (Z2 ++ (X.drop (k + 1) ++ B)))))) ∧ Hid (Tn [g] w wr)) (fun v _ => (intOf v).toNat)
      case atStart => exact ⟨i, rfl, by omega, Nat.le_refl _, HI0, HT⟩
      case round =>
        obtain ⟨j, rfl, haj, hji, HI, HT2⟩ := hrel
        obtain ⟨Z1, Z2, hZ, hz1, hzq, hrow⟩ := HI.out
        by_cases hja : a < j
        · obtain ⟨jp, rfl⟩ : ∃ jp, j = jp + 1 := ⟨j - 1, by omega⟩
          obtain ⟨Z1', z, rfl⟩ := last_split (l := Z1) (by intro e; subst e; simp at hz1; omega)
          have hjpl : a + Z1'.length = jp := by
            simp only [List.length_append, List.length_cons, List.length_nil] at hz1
            omega
          have hrow2 : Rcm wr g ((A ++ Z1') ++ z :: ([] ++ ⟨x1, x2, x3, x4⟩ :: (Z2 ++ (X.drop (k + 1) ++ B)))) := by simpa using hrow
          obtain ⟨⟨⟨c0, c1⟩, f0, f1⟩, ⟨⟨d0, d1⟩, z0, z1⟩, -, hs⟩ := swap_row (a := jp) (b := jp + 1) hrow2 (by have := HA.out; simp; omega) (by simp)
          have HZ2 : Hid (Z = Z1' ++ (z :: Z2)) := by unfold Hid; rw [hZ]; simp
          have HP : Hid (a + Z1'.length = jp) := hjpl
          have HQ : Hid (∀ y ∈ Z2, x1 < y.ts) := hzq
          have HRO : Hid (Rcm wr g (A ++ (Z1' ++ ([z] ++ (⟨x1, x2, x3, x4⟩ :: (Z2 ++ (X.drop (k + 1) ++ B))))))) := by unfold Hid; simpa using hrow
          have hjN : ((jp : Int) + 1) < (N : Int) := by omega
          have hjN' : (jp : Int) < (N : Int) := by omega
          have hja' : (a : Int) < (jp : Int) + 1 := by omega
          have hgw : g < wr.heap.size := World.block_lt_of_cell? wr _ c0
          obtain ⟨zt, z2, z3, z4⟩ := z
          have k0 := cell_regrown c0
          have k1 := cell_regrown c1
          have k2 := cell_regrown d0
          have k3 := cell_regrown d1
          obtain ⟨c, hc⟩ : ∃ c, cmpI x1 zt = c := ⟨_, rfl⟩
          have hca := cmpc_at x1 x2 x3 x4 zt z2 z3 z4 c hc wr
          by_cases hxz : x1 < zt
          · have hcl : c < 0 := by rw [← hc]; exact cmpI_lt hxz
            have HXZ : Hid (x1 < zt) := hxz
            clear hZ hz1 hzq hrow hrow2 hs HI hjpl hc hxz c0 c1 d0 d1 z0 z1 f0 f1
            go_wp2_with fail
            refine wp_region_quiet_below (by kernel_rfl) (by kernel_rfl) ?_
            repeat (go_big_quiet_step (first | (go_at_fn 48; exact hca _ _)))
            refine wpQuiet_nil ?_
            intro _ hw'
            obtain ⟨⟨dq, osq⟩, hw''⟩ := hw'
            subst hw''
            have hb3 := below_regrown wr dq osq
            generalize grow (redrawn wr dq) osq = w3 at hb3 ⊢
            have hrow3 : Rcm w3 g ((A ++ Z1') ++ ⟨zt, z2, z3, z4⟩ :: ([] ++ ⟨x1, x2, x3, x4⟩ :: (Z2 ++ (X.drop (k + 1) ++ B)))) := by
              have := Rcm.below HRO.out hb3 hgw
              simpa using this
            obtain ⟨⟨⟨c0, c1⟩, f0, f1⟩, ⟨⟨d0, d1⟩, z0, z1⟩, -, hs⟩ := swap_row (a := jp) (b := jp + 1) hrow3 (by have := HA.out; have := HP.out; simp; omega) (by simp)
            have HS3 : Hid (Rcm (wset (wset w3 g (jp + 1) ⟨zt, z2, z3, z4⟩) g jp ⟨x1, x2, x3, x4⟩) g (A ++ (Z1' ++ (⟨x1, x2, x3, x4⟩ :: ((⟨zt, z2, z3, z4⟩ :: Z2) ++ (X.drop (k + 1) ++ B)))))) := by unfold Hid; simpa using hs
            have HT3 : Hid (Tn [g] w (wset (wset w3 g (jp + 1) ⟨zt, z2, z3, z4⟩) g jp ⟨x1, x2, x3, x4⟩)) := wset_tn (wset_tn (HT2.out.trans (Tn.of_below hb3 []) (by simp)) _ _) _ _
            have HQ3 : Hid (∀ y ∈ (⟨zt, z2, z3, z4⟩ :: Z2 : List Cm), x1 < y.ts) := fun y hy => by
              rcases List.mem_cons.1 hy with rfl | hy
              · exact HXZ.out
              · exact HQ.out y hy
            have e1 := cell?_setCell_some (p := ⟨g, (jp + 1) * 2 + 1, none⟩) (x := .slice z2 z3 z4) (cell?_setCell_some (p := ⟨g, (jp + 1) * 2, none⟩) (x := .int .i64 zt) c0).choose_spec
            have e2 := cell?_setCell_some (p := ⟨g, jp * 2, none⟩) (x := .int .i64 x1) (cell?_setCell_some (p := ⟨g, (jp + 1) * 2 + 1, none⟩) (x := .slice z2 z3 z4) (cell?_setCell_some (p := ⟨g, (jp + 1) * 2, none⟩) (x := .int .i64 zt) c1).choose_spec).choose_spec
            obtain ⟨u1, e1⟩ := e1
            obtain ⟨u2, e2⟩ := e2
            unfold wset at HS3 HT3
            clear hs hrow3 k0 k1 k2 k3 hca hb3
            go_wp2_with fail
            go_region
            go_wp2
            go_roundw
            case rel => exact ⟨jp, by go_num, by omega, by omega, ⟨Z1', _, HZ2.out, HP.out, HQ3.out, HS3.out⟩, HT3.out.drew⟩
            case measure => simp [intOf]
          · have hcl : ¬ c < 0 := by rw [← hc]; exact cmpI_ge hxz
            have HZ3 : Hid (∃ Z', Z' = Z1' ++ ⟨zt, z2, z3, z4⟩ :: (⟨x1, x2, x3, x4⟩ :: Z2) ∧ Sam Cm.ts (X.take (k + 1)) Z' ∧ Asc Cm.ts Z') := by
              have h1 := HZ.out
              have hle : zt ≤ x1 := by omega
              rw [hZ] at h1
              have h2 := ins_right (x := (⟨x1, x2, x3, x4⟩ : Cm)) (key := Cm.ts) h1.2 (fun y hy => by
                rcases List.mem_append.1 hy with hy | hy
                · have := h1.2.left.cross y hy ⟨zt, z2, z3, z4⟩ (by simp)
                  exact Int.le_trans this hle
                · simp at hy
                  subst hy
                  exact hle) HQ.out
              refine ⟨_, rfl, ?_, ?_⟩
              · have := h1.1.trans h2.1
                simpa using this
              · simpa using h2.2
            clear hZ hz1 hzq hrow hrow2 hs HI hjpl hc hxz c0 c1 d0 d1 z0 z1 f0 f1
            go_wp2_with fail
            refine wp_region_quiet_below (by kernel_rfl) (by kernel_rfl) ?_
            repeat (go_big_quiet_step (first | (go_at_fn 48; exact hca _ _)))
            refine wpQuiet_nil ?_
            intro _ hw'
            obtain ⟨⟨dq, osq⟩, hw''⟩ := hw'
            subst hw''
            have hb3 := below_regrown wr dq osq
            generalize grow (redrawn wr dq) osq = w3 at hb3 ⊢
            have HR3 : Hid (∃ Z, Rcm w3 g (A ++ (Z ++ (X.drop (k + 1) ++ B))) ∧ Sam Cm.ts (X.take (k + 1)) Z ∧ Asc Cm.ts Z) := by
              obtain ⟨Z', e, h1, h2⟩ := HZ3.out
              refine ⟨Z', ?_, h1, h2⟩
              have := Rcm.below HRO.out hb3 hgw
              rw [e]
              simpa using this
            have HT3 : Hid (Tn [g] w w3) := HT2.out.trans (Tn.of_below hb3 []) (by simp)
            clear k0 k1 k2 k3 hca hb3
            go_wp2
            go_roundw
            case rel => exact ⟨i + 1, k + 1, by go_num, by omega, by omega, by omega, HR3, HT3⟩
            case measure => simp [intOf]; omega
        · have hja' : ¬ (a : Int) < (j : Int) := by omega
          have HR3 : Hid (∃ Z, Rcm wr g (A ++ (Z ++ (X.drop (k + 1) ++ B))) ∧ Sam Cm.ts (X.take (k + 1)) Z ∧ Asc Cm.ts Z) := by
            have h0 : Z1 = [] := List.eq_nil_of_length_eq_zero (by omega)
            subst h0
            have h1 := HZ.out
            rw [hZ, List.nil_append] at h1
            have h2 := ins_right (x := (⟨x1, x2, x3, x4⟩ : Cm)) (P := []) (key := Cm.ts) (by simpa using h1.2) (by simp) hzq
            refine ⟨⟨x1, x2, x3, x4⟩ :: Z2, by simpa using hrow, ?_, by simpa using h2.2⟩
            have := h1.1.trans h2.1
            simpa using this
          clear hZ hz1 hzq hrow HI
          go_wp2_with fail
          go_quiet (fail)
          have HT3 : Hid (Tn [g] w (wr.drewN nq)) := HT2.out.trans (Tn.of_below (below_drewN (Below.refl _ _) _) []) (by simp)
          have HR4 : Hid (∃ Z, Rcm (wr.drewN nq) g (A ++ (Z ++ (X.drop (k + 1) ++ B))) ∧ Sam Cm.ts (X.take (k + 1)) Z ∧ Asc Cm.ts Z) := HR3
          clear HR3
          go_wp2
          go_roundw
          case rel => exact ⟨i + 1, k + 1, by go_num, by omega, by omega, by omega, HR4, HT3⟩
          case measure => simp [intOf]; omega
    · have HR2 : Hid (∃ Z, Rcm wr g (A ++ (Z ++ B)) ∧ Sam Cm.ts X Z ∧ Asc Cm.ts Z) := by
        obtain ⟨Z, h1, h2, h3⟩ := HR.out
        have := HX.out
        rw [List.drop_eq_nil_of_le (by omega), List.nil_append] at h1
        rw [List.take_of_length_le (by omega)] at h2
        exact ⟨Z, h1, h2, h3⟩
      have hli : ¬ ((i : Int) < (b : Int)) := by omega
      go_wp2
      go_end0
      obtain ⟨Z, h1, h2, h3⟩ := HR2.out
      exact ⟨rfl, Z, h1, h2, h3, HT.out⟩
end Go.Proofs.Ytilabcolfabnmaa
