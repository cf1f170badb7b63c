/- Which pages may be (the code's Check out of its parts, and the document's). -/
import Derived.Test.YtoehlgigidgfpaaGreatPgC
import Derived.Lib.QuietBelow
namespace Go.Proofs.YtoehlgigidgfpaaGreat
open Go.RowKit Go.Sort
set_option linter.unusedVariables false
set_option maxRecDepth 100000

theorem Pg.may_range {leaf : Bool} {r : Rg} {right : Int} {l : List En} (h : Ky.emp r = true) : Pg.may leaf r right l = false := by unfold Pg.may; rw [h]; rfl
theorem Pg.may_right {leaf : Bool} {r : Rg} {right : Int} {l : List En} (h : right < 0) : Pg.may leaf r right l = false := by
  unfold Pg.may; rw [decide_eq_false (by omega : ¬ 0 ≤ right)]; simp
theorem Pg.may_fits {leaf : Bool} {r : Rg} {right : Int} {l : List En} (h : Pg.fits leaf r l = false) : Pg.may leaf r right l = false := by unfold Pg.may; rw [h]; simp
theorem Pg.may_rest {leaf : Bool} {r : Rg} {right : Int} {l : List En} (h1 : Ky.emp r = false) (h2 : ¬ right < 0) (h3 : Pg.fits leaf r l = true) : Pg.may leaf r right l = Pg.begins leaf r.lo l := by
  unfold Pg.may; rw [h1, decide_eq_true (by omega : 0 ≤ right), h3]; rfl


set_option maxHeartbeats 4000000 in
theorem check_any (leaf : Bool) (lo hi : ByteArray) (r : Int) (p : Option Addr) (len cap : Nat) (l : List En) (w : World) (hlen : l.length = len) (hx : Ens w p l) (hl : len ≤ 4398046511104) :
    Calls Tryz.prog 49 #[pgv leaf lo hi r p len cap] w fun e w' => e = .returned (.int .i64 (if Pg.may leaf ⟨lo, hi⟩ r l then 0 else 70)) ∧ Below w.heap.size w w' := by
  obtain ⟨w0, hw0⟩ : ∃ w0, w0 = w.alloc (.cells (pgc leaf lo hi r p len cap) 29) := ⟨_, rfl⟩
  have HK0 : Hid (Bk w0 w.heap.size 29 (pgc leaf lo hi r p len cap)) := by rw [hw0]; exact Bk.new _ _ _
  have HB0 : Hid (Below w.heap.size w w0) := by rw [hw0]; exact (Below.refl _ _).alloc (Nat.le_refl _) _
  have HX : Hid (Ens w p l) := hx
  have HL : Hid (l.length = len) := hlen
  clear hx hlen
  obtain ⟨v, HV⟩ : ∃ v : Int, Hid ((if Pg.may leaf ⟨lo, hi⟩ r l then 0 else 70 : Int) = v) := ⟨_, rfl⟩
  rw [HV.out]
  go_enter Tryz.func49, Tryz.ntmps49
  go_wp2_with fail
  rw [← hw0]
  clear hw0
  refine (span_any leaf lo hi r p len cap _).mono ?_
  rintro e w1 ⟨rfl, hb1⟩
  have HB1 : Hid (Below w.heap.size w w1) := HB0.out.trans (hb1.mono HB0.out.size)
  have HK1 : Hid (Bk w1 w.heap.size 29 (pgc leaf lo hi r p len cap)) := HK0.out.below hb1 HK0.out.lt
  clear hb1 HB0 HK0
  go_wp2_with fail
  refine (empty_any ⟨lo, hi⟩ _).mono ?_
  rintro e w2 ⟨rfl, hb2⟩
  have HB2 : Hid (Below w.heap.size w w2) := HB1.out.trans (hb2.mono HB1.out.size)
  have HK2 : Hid (Bk w2 w.heap.size 29 (pgc leaf lo hi r p len cap)) := HK1.out.below hb2 HK1.out.lt
  clear hb2 HB1 HK1
  have p0 : w2.cell? ⟨w.heap.size, 0, none⟩ = some (.bool leaf) := HK2.out.cell 0
  have p1 : w2.cell? ⟨w.heap.size, 1, none⟩ = some (.string lo) := HK2.out.cell 1
  have p2 : w2.cell? ⟨w.heap.size, 2, none⟩ = some (.string hi) := HK2.out.cell 2
  have p3 : w2.cell? ⟨w.heap.size, 3, none⟩ = some (.int .i64 r) := HK2.out.cell 3
  have p4 : w2.cell? ⟨w.heap.size, 4, none⟩ = some (.slice p len cap) := HK2.out.cell 4
  cases hem : Ky.emp ⟨lo, hi⟩ with
  | true =>
    have HF : Hid (Pg.may leaf ⟨lo, hi⟩ r l = false) := Pg.may_range hem
    go_wp2
    go_ret
    exact ⟨by rw [← HV.out, HF.out]; rfl, HB2.out⟩
  | false =>
    by_cases hr : r < 0
    · have HF : Hid (Pg.may leaf ⟨lo, hi⟩ r l = false) := Pg.may_right hr
      go_wp2
      go_ret
      exact ⟨by rw [← HV.out, HF.out]; rfl, HB2.out⟩
    · have HR : Hid (Pg.fits leaf ⟨lo, hi⟩ l = true → Pg.may leaf ⟨lo, hi⟩ r l = Pg.begins leaf lo l) := fun h => Pg.may_rest hem hr h
      have hr0 : decide (r < 0) = false := decide_eq_false hr
      clear hem
      go_wp2_with fail
      refine (fits_any leaf lo hi r p len cap l _ HL.out (HX.out.below HB2.out (Nat.le_refl _)) hl).mono ?_
      rintro e w3 ⟨rfl, hb3⟩
      have HB3 : Hid (Below w.heap.size w w3) := HB2.out.trans (hb3.mono HB2.out.size)
      have HK3 : Hid (Bk w3 w.heap.size 29 (pgc leaf lo hi r p len cap)) := HK2.out.below hb3 HK2.out.lt
      clear hb3 HB2 HK2 p0 p1 p2 p3 p4
      cases hft : Pg.fits leaf ⟨lo, hi⟩ l with
      | false =>
        have HF : Hid (Pg.may leaf ⟨lo, hi⟩ r l = false) := Pg.may_fits hft
        go_wp2
        go_ret
        exact ⟨by rw [← HV.out, HF.out]; rfl, HB3.out⟩
      | true =>
        have HR := HR.out hft
        have HR : Hid (Pg.may leaf ⟨lo, hi⟩ r l = Pg.begins leaf lo l) := HR
        clear hft
        have q0 : w3.cell? ⟨w.heap.size, 0, none⟩ = some (.bool leaf) := HK3.out.cell 0
        have q1 : w3.cell? ⟨w.heap.size, 1, none⟩ = some (.string lo) := HK3.out.cell 1
        have q4 : w3.cell? ⟨w.heap.size, 4, none⟩ = some (.slice p len cap) := HK3.out.cell 4
        cases leaf with
        | true =>
          have HF : Hid (Pg.begins true lo l = true) := rfl
          go_wp2_with fail
          go_quiet (fail)
          go_wp2
          go_ret
          exact ⟨by rw [← HV.out, HR.out, HF.out]; rfl, below_dn HB3.out _⟩
        | false =>
          by_cases h0 : len = 0
          · have HF : Hid (Pg.begins false lo l = false) := by
              have : l = [] := List.eq_nil_of_length_eq_zero (by have := HL.out; omega)
              rw [Hid, this]; rfl
            have h0' : ((len : Int) == 0) = true := by simp; omega
            have h0'' : (len : Int) = 0 := by omega
            clear h0
            go_wp2_with fail
            go_quiet (fail)
            go_wp2
            go_ret
            exact ⟨by rw [← HV.out, HR.out, HF.out]; rfl, below_dn HB3.out _⟩
          · have h0' : ((len : Int) == 0) = false := by simp; omega
            have h0'' : ¬ (len : Int) = 0 := by omega
            have hpos : (0 : Int) < (len : Int) := by omega
            obtain ⟨b, o, x, rfl, hg, -, c0, -, -, -⟩ := (HX.out.below HB3.out (Nat.le_refl _)).at (j := 0) (by have := HL.out; omega)
            simp only [Nat.zero_mul, Nat.add_zero] at c0
            have HF : Hid (Pg.begins false lo l = (x.key.toList == lo.toList)) := by
              cases l with
              | nil => simp at hg
              | cons y t => simp at hg; subst hg; rfl
            obtain ⟨xk, xs, xg, xc⟩ := x
            simp only at c0 HF
            clear hg
            cases hq : (xk.toList == lo.toList) with
            | true =>
              rw [hq] at HF
              go_wp2_with fail
              go_quiet (fail)
              go_wp2
              go_ret
              exact ⟨by rw [← HV.out, HR.out, HF.out]; rfl, below_dn HB3.out _⟩
            | false =>
              rw [hq] at HF
              go_wp2_with fail
              go_quiet (fail)
              go_wp2
              go_ret
              exact ⟨by rw [← HV.out, HR.out, HF.out]; rfl, below_dn HB3.out _⟩

set_option maxHeartbeats 4000000 in
theorem rcheck_any (leaf : Bool) (lo hi : ByteArray) (r : Int) (p : Option Addr) (len cap : Nat) (l : List En) (w : World) (hlen : l.length = len) (hx : Ens w p l) (hl : len ≤ 4398046511104) :
    Calls Tryz.prog 21 #[pgv leaf lo hi r p len cap] w fun e w' => e = .returned (.int .i64 (if Pg.may leaf ⟨lo, hi⟩ r l then 0 else 70)) ∧ Below w.heap.size w w' := by
  obtain ⟨w0, hw0⟩ : ∃ w0, w0 = w.alloc (.cells (pgc leaf lo hi r p len cap) 29) := ⟨_, rfl⟩
  have HK0 : Hid (Bk w0 w.heap.size 29 (pgc leaf lo hi r p len cap)) := by rw [hw0]; exact Bk.new _ _ _
  have HB0 : Hid (Below w.heap.size w w0) := by rw [hw0]; exact (Below.refl _ _).alloc (Nat.le_refl _) _
  have HX : Hid (Ens w p l) := hx
  have HL : Hid (l.length = len) := hlen
  clear hx hlen
  obtain ⟨v, HV⟩ : ∃ v : Int, Hid ((if Pg.may leaf ⟨lo, hi⟩ r l then 0 else 70 : Int) = v) := ⟨_, rfl⟩
  rw [HV.out]
  go_enter Tryz.func21, Tryz.ntmps21
  go_wp2_with fail
  rw [← hw0]
  clear hw0
  refine (rrange_any leaf lo hi r p len cap _).mono ?_
  rintro e w1 ⟨rfl, hb1⟩
  have HB1 : Hid (Below w.heap.size w w1) := HB0.out.trans (hb1.mono HB0.out.size)
  have HK1 : Hid (Bk w1 w.heap.size 29 (pgc leaf lo hi r p len cap)) := HK0.out.below hb1 HK0.out.lt
  clear hb1 HB0 HK0
  go_wp2_with fail
  refine (rempty_any ⟨lo, hi⟩ _).mono ?_
  rintro e w2 ⟨rfl, hb2⟩
  have HB2 : Hid (Below w.heap.size w w2) := HB1.out.trans (hb2.mono HB1.out.size)
  have HK2 : Hid (Bk w2 w.heap.size 29 (pgc leaf lo hi r p len cap)) := HK1.out.below hb2 HK1.out.lt
  clear hb2 HB1 HK1
  have p0 : w2.cell? ⟨w.heap.size, 0, none⟩ = some (.bool leaf) := HK2.out.cell 0
  have p1 : w2.cell? ⟨w.heap.size, 1, none⟩ = some (.string lo) := HK2.out.cell 1
  have p2 : w2.cell? ⟨w.heap.size, 2, none⟩ = some (.string hi) := HK2.out.cell 2
  have p3 : w2.cell? ⟨w.heap.size, 3, none⟩ = some (.int .i64 r) := HK2.out.cell 3
  have p4 : w2.cell? ⟨w.heap.size, 4, none⟩ = some (.slice p len cap) := HK2.out.cell 4
  cases hem : Ky.emp ⟨lo, hi⟩ with
  | true =>
    have HF : Hid (Pg.may leaf ⟨lo, hi⟩ r l = false) := Pg.may_range hem
    go_wp2
    go_ret
    exact ⟨by rw [← HV.out, HF.out]; rfl, HB2.out⟩
  | false =>
    by_cases hr : r < 0
    · have HF : Hid (Pg.may leaf ⟨lo, hi⟩ r l = false) := Pg.may_right hr
      go_wp2
      go_ret
      exact ⟨by rw [← HV.out, HF.out]; rfl, HB2.out⟩
    · have HR : Hid (Pg.fits leaf ⟨lo, hi⟩ l = true → Pg.may leaf ⟨lo, hi⟩ r l = Pg.begins leaf lo l) := fun h => Pg.may_rest hem hr h
      have hr0 : decide (r < 0) = false := decide_eq_false hr
      clear hem
      go_wp2_with fail
      clear p0 p1 p2 p3 p4
      go_loopw [3] (fun i wr => ∃ k : Nat, k ≤ len ∧ i = .int .i64 k ∧ Hid (Below w.heap.size w wr) ∧ Hid (Bk wr w.heap.size 29 (pgc leaf lo hi r p len cap)) ∧ Hid (∀ j, j < k → Pg.good leaf ⟨lo, hi⟩ l j = true)) (fun i _ => len - (intOf i).toNat)
      case atStart => exact ⟨0, Nat.zero_le _, rfl, HB2, HK2, fun j hj => absurd hj (Nat.not_lt_zero _)⟩
      case round =>
        clear HK2 HB2
        obtain ⟨k, hk, rfl, HW, HP, HA⟩ := hrel
        have r4 : wr.cell? ⟨w.heap.size, 4, none⟩ = some (.slice p len cap) := HP.out.cell 4
        by_cases hlt : k < len
        · have hli : (k : Int) < (len : Int) := by omega
          obtain ⟨b, o, x, rfl, hg, hblt, c0, c1, c2, c3⟩ := (HX.out.below HW.out (Nat.le_refl _)).at (j := k) (by have := HL.out; omega)
          have HG : Hid (l[k]? = some x) := hg
          have hbw : w.heap.size < wr.heap.size := HP.out.lt
          obtain ⟨xk, xs, xg, xc⟩ := x
          simp only at c0 c1 c2 c3
          clear hg
          have hbe : Below wr.heap.size wr (wr.alloc (.cells #[.string xk, .int .i64 xs, .int .i64 xg, .int .i64 xc] 33)) := (Below.refl _ _).alloc (Nat.le_refl _) _
          have HBE : Hid (Below w.heap.size w (wr.alloc (.cells #[.string xk, .int .i64 xs, .int .i64 xg, .int .i64 xc] 33))) := HW.out.trans (hbe.mono HW.out.size)
          have HKE : Hid (Bk (wr.alloc (.cells #[.string xk, .int .i64 xs, .int .i64 xg, .int .i64 xc] 33)) wr.heap.size 33 #[.string xk, .int .i64 xs, .int .i64 xg, .int .i64 xc]) := Bk.new _ _ _
          have HPE : Hid (Bk (wr.alloc (.cells #[.string xk, .int .i64 xs, .int .i64 xg, .int .i64 xc] 33)) w.heap.size 29 (pgc leaf lo hi r (some ⟨b, o, none⟩) len cap)) := HP.out.alloc _
          have hen := (HX.out.below HBE.out (Nat.le_refl _))
          generalize hwe : wr.alloc (.cells #[.string xk, .int .i64 xs, .int .i64 xg, .int .i64 xc] 33) = we at HBE HKE HPE hen
          have p0 := cell_regrown (show we.cell? ⟨w.heap.size, 0, none⟩ = some (.bool leaf) from HPE.out.cell 0)
          have p1 := cell_regrown (show we.cell? ⟨w.heap.size, 1, none⟩ = some (.string lo) from HPE.out.cell 1)
          have p2 := cell_regrown (show we.cell? ⟨w.heap.size, 2, none⟩ = some (.string hi) from HPE.out.cell 2)
          have p3 := cell_regrown (show we.cell? ⟨w.heap.size, 3, none⟩ = some (.int .i64 r) from HPE.out.cell 3)
          have p4 := cell_regrown (show we.cell? ⟨w.heap.size, 4, none⟩ = some (.slice (some ⟨b, o, none⟩) len cap) from HPE.out.cell 4)
          have e0 := cell_regrown (show we.cell? ⟨wr.heap.size, 0, none⟩ = some (.string xk) from HKE.out.cell 0)
          have HQB : Hid (∀ d os, Below w.heap.size w (grow (redrawn we d) os)) := fun d os => HBE.out.trans ((below_regrown we d os).mono HBE.out.size)
          have HQP : Hid (∀ d os, Bk (grow (redrawn we d) os) w.heap.size 29 (pgc leaf lo hi r (some ⟨b, o, none⟩) len cap)) := fun d os => HPE.out.below (below_regrown we d os) HPE.out.lt
          have HQE : Hid (∀ d os, Bk (grow (redrawn we d) os) wr.heap.size 33 #[.string xk, .int .i64 xs, .int .i64 xg, .int .i64 xc]) := fun d os => HKE.out.below (below_regrown we d os) HKE.out.lt
          have hh := fun d os => rhas_any leaf lo hi r (some ⟨b, o, none⟩) len cap (grow (redrawn we d) os) xk
          cases hin : Ky.inn ⟨lo, hi⟩ xk with
          | false =>
            have HF : Hid (Pg.may leaf ⟨lo, hi⟩ r l = false) := by
              refine Pg.may_fits (Pg.fits_not (j := k) (by have := HL.out; omega) ?_)
              unfold Pg.good
              rw [HG.out]
              simp only [hin]
              simp
            have cH : ∀ d os, Calls Tryz.prog 54 #[pgv leaf lo hi r (some ⟨b, o, none⟩) len cap, .string xk] (grow (redrawn we d) os) fun e w'' => e = .returned (.bool false) ∧ ∃ p : Regrown, w'' = grow (redrawn we p.d) p.os := fun d os => Calls.regrown_of (by have := hh d os; rw [hin] at this; exact this)
            clear hh hen hbe
            go_wp2_with fail
            refine wp_region_quiet_below (by kernel_rfl) (by kernel_rfl) ?_
            repeat (go_big_quiet_step (first | exact cH _ _))
            refine wpQuiet_nil ?_
            intro _ hw'
            obtain ⟨⟨dq, osq⟩, hw''⟩ := hw'
            subst hw''
            go_wp2
            go_ret
            exact ⟨by rw [← HV.out, HF.out]; rfl, HQB.out _ _⟩
          | true =>
            have cH : ∀ d os, Calls Tryz.prog 54 #[pgv leaf lo hi r (some ⟨b, o, none⟩) len cap, .string xk] (grow (redrawn we d) os) fun e w'' => e = .returned (.bool true) ∧ ∃ p : Regrown, w'' = grow (redrawn we p.d) p.os := fun d os => Calls.regrown_of (by have := hh d os; rw [hin] at this; exact this)
            clear hh hbe
            cases k with
            | zero =>
              have HGd := Pg.good_first (leaf := leaf) (r := ⟨lo, hi⟩) HG.out
              rw [show Ky.inn ⟨lo, hi⟩ (En.mk xk xs xg xc).key = true from hin, Bool.true_and] at HGd
              have HGd : Hid (Pg.good leaf ⟨lo, hi⟩ l 0 = Pg.kind leaf ⟨xk, xs, xg, xc⟩) := HGd
              clear hen
              simp only [Nat.zero_mul, Nat.add_zero] at c0 c1 c2 c3
              go_wp2_with fail
              refine wp_region_quiet_below (by kernel_rfl) (by kernel_rfl) ?_
              repeat (go_big_quiet_step (first | exact cH _ _))
              refine wpQuiet_nil ?_
              intro _ hw'
              obtain ⟨⟨dq, osq⟩, hw''⟩ := hw'
              subst hw''
              clear cH p0 p1 p2 p3 p4 e0
              generalize hwq : grow (redrawn we dq) osq = wq
              have HB1 : Hid (Below w.heap.size w wq) := by rw [← hwq]; exact HQB.out _ _
              have HP1 : Hid (Bk wq w.heap.size 29 (pgc leaf lo hi r (some ⟨b, o, none⟩) len cap)) := by rw [← hwq]; exact HQP.out _ _
              have HE1 : Hid (Bk wq wr.heap.size 33 #[.string xk, .int .i64 xs, .int .i64 xg, .int .i64 xc]) := by rw [← hwq]; exact HQE.out _ _
              clear hwq
              have g0 : wq.cell? ⟨w.heap.size, 0, none⟩ = some (.bool leaf) := HP1.out.cell 0
              have k1 : wq.cell? ⟨wr.heap.size, 1, none⟩ = some (.int .i64 xs) := HE1.out.cell 1
              have k2 : wq.cell? ⟨wr.heap.size, 2, none⟩ = some (.int .i64 xg) := HE1.out.cell 2
              have k3 : wq.cell? ⟨wr.heap.size, 3, none⟩ = some (.int .i64 xc) := HE1.out.cell 3
              cases leaf with
              | true =>
                by_cases hc : xc = 0
                · have HN : Hid (Pg.good true ⟨lo, hi⟩ l (0) = true) := by rw [Hid, HGd.out]; simp [Pg.kind, hc]
                  subst hc
                  go_wp2
                  go_roundw
                  case rel =>
                    refine ⟨1, by omega, by go_num, HB1, HP1, fun j hj => ?_⟩
                    by_cases hjk : j = 0
                    · rw [hjk]; exact HN.out
                    · exact HA.out j (by omega)
                  case measure => simp [intOf]; omega
                · have HF : Hid (Pg.may true ⟨lo, hi⟩ r l = false) := Pg.may_fits (Pg.fits_not (j := 0) (by have := HL.out; omega) (by rw [HGd.out]; simp [Pg.kind, hc]))
                  go_wp2
                  go_ret
                  exact ⟨by rw [← HV.out, HF.out]; rfl, HB1.out⟩
              | false =>
                by_cases hs : xs = 0
                · by_cases hg2 : xg = 0
                  · by_cases hc : xc < 1
                    · have HF : Hid (Pg.may false ⟨lo, hi⟩ r l = false) := Pg.may_fits (Pg.fits_not (j := 0) (by have := HL.out; omega) (by rw [HGd.out]; simp [Pg.kind, hs, hg2]; omega))
                      subst hs hg2
                      go_wp2
                      go_ret
                      exact ⟨by rw [← HV.out, HF.out]; rfl, HB1.out⟩
                    · have HN : Hid (Pg.good false ⟨lo, hi⟩ l (0) = true) := by rw [Hid, HGd.out]; simp [Pg.kind, hs, hg2]; omega
                      subst hs hg2
                      go_wp2
                      go_roundw
                      case rel =>
                        refine ⟨1, by omega, by go_num, HB1, HP1, fun j hj => ?_⟩
                        by_cases hjk : j = 0
                        · rw [hjk]; exact HN.out
                        · exact HA.out j (by omega)
                      case measure => simp [intOf]; omega
                  · have HF : Hid (Pg.may false ⟨lo, hi⟩ r l = false) := Pg.may_fits (Pg.fits_not (j := 0) (by have := HL.out; omega) (by rw [HGd.out]; simp [Pg.kind, hg2]))
                    subst hs
                    go_wp2
                    go_ret
                    exact ⟨by rw [← HV.out, HF.out]; rfl, HB1.out⟩
                · have HF : Hid (Pg.may false ⟨lo, hi⟩ r l = false) := Pg.may_fits (Pg.fits_not (j := 0) (by have := HL.out; omega) (by rw [HGd.out]; simp [Pg.kind, hs]))
                  go_wp2
                  go_ret
                  exact ⟨by rw [← HV.out, HF.out]; rfl, HB1.out⟩
            | succ i =>
              obtain ⟨b', o', d, hp', hd, -, d0', -, -, -⟩ := hen.at (j := i) (by have := HL.out; omega)
              cases hp'
              have HGd := Pg.good_next (leaf := leaf) (r := ⟨lo, hi⟩) HG.out hd
              rw [show Ky.inn ⟨lo, hi⟩ (En.mk xk xs xg xc).key = true from hin, Bool.true_and] at HGd
              obtain ⟨dk, ds, dg, dc⟩ := d
              simp only at d0' HGd
              have d0 := cell_regrown d0'
              have hle := Ky.leq_iff xk.toList dk.toList
              have hi1 : (0 : Int) < ((i + 1 : Nat) : Int) := by omega
              have hi0 : decide ((0 : Int) < (i : Int) + 1) = true := decide_eq_true (by omega)
              have hj0 : (0 : Int) ≤ (i : Int) := by omega
              have hi3 : (i : Int) < (len : Int) := by omega
              have hib : i + 1 ≤ 4611686018427387904 := by omega
              clear hd hen d0'
              unfold Ky.lt at HGd
              cases hq : Op.bytesLess dk.toList xk.toList with
              | true =>
                rw [hq] at hle HGd
                rw [Bool.true_and] at HGd
                have HGd : Hid (Pg.good leaf ⟨lo, hi⟩ l (i + 1) = Pg.kind leaf ⟨xk, xs, xg, xc⟩) := HGd
                rw [Bool.not_true, Bool.or_eq_false_iff] at hle
                obtain ⟨hle1, hle2⟩ := hle
                go_wp2_with fail
                refine wp_region_quiet_below (by kernel_rfl) (by kernel_rfl) ?_
                repeat (go_big_quiet_step (first | exact cH _ _))
                refine wpQuiet_nil ?_
                intro _ hw'
                obtain ⟨⟨dq, osq⟩, hw''⟩ := hw'
                subst hw''
                clear cH p0 p1 p2 p3 p4 e0
                generalize hwq : grow (redrawn we dq) osq = wq
                have HB1 : Hid (Below w.heap.size w wq) := by rw [← hwq]; exact HQB.out _ _
                have HP1 : Hid (Bk wq w.heap.size 29 (pgc leaf lo hi r (some ⟨b, o, none⟩) len cap)) := by rw [← hwq]; exact HQP.out _ _
                have HE1 : Hid (Bk wq wr.heap.size 33 #[.string xk, .int .i64 xs, .int .i64 xg, .int .i64 xc]) := by rw [← hwq]; exact HQE.out _ _
                clear hwq
                have g0 : wq.cell? ⟨w.heap.size, 0, none⟩ = some (.bool leaf) := HP1.out.cell 0
                have k1 : wq.cell? ⟨wr.heap.size, 1, none⟩ = some (.int .i64 xs) := HE1.out.cell 1
                have k2 : wq.cell? ⟨wr.heap.size, 2, none⟩ = some (.int .i64 xg) := HE1.out.cell 2
                have k3 : wq.cell? ⟨wr.heap.size, 3, none⟩ = some (.int .i64 xc) := HE1.out.cell 3
                cases leaf with
                | true =>
                  by_cases hc : xc = 0
                  · have HN : Hid (Pg.good true ⟨lo, hi⟩ l (i + 1) = true) := by rw [Hid, HGd.out]; simp [Pg.kind, hc]
                    subst hc
                    go_wp2
                    go_roundw
                    case rel =>
                      refine ⟨(i + 1) + 1, by omega, by go_num, HB1, HP1, fun j hj => ?_⟩
                      by_cases hjk : j = i + 1
                      · rw [hjk]; exact HN.out
                      · exact HA.out j (by omega)
                    case measure => simp [intOf]; omega
                  · have HF : Hid (Pg.may true ⟨lo, hi⟩ r l = false) := Pg.may_fits (Pg.fits_not (j := i + 1) (by have := HL.out; omega) (by rw [HGd.out]; simp [Pg.kind, hc]))
                    go_wp2
                    go_ret
                    exact ⟨by rw [← HV.out, HF.out]; rfl, HB1.out⟩
                | false =>
                  by_cases hs : xs = 0
                  · by_cases hg2 : xg = 0
                    · by_cases hc : xc < 1
                      · have HF : Hid (Pg.may false ⟨lo, hi⟩ r l = false) := Pg.may_fits (Pg.fits_not (j := i + 1) (by have := HL.out; omega) (by rw [HGd.out]; simp [Pg.kind, hs, hg2]; omega))
                        subst hs hg2
                        go_wp2
                        go_ret
                        exact ⟨by rw [← HV.out, HF.out]; rfl, HB1.out⟩
                      · have HN : Hid (Pg.good false ⟨lo, hi⟩ l (i + 1) = true) := by rw [Hid, HGd.out]; simp [Pg.kind, hs, hg2]; omega
                        subst hs hg2
                        go_wp2
                        go_roundw
                        case rel =>
                          refine ⟨(i + 1) + 1, by omega, by go_num, HB1, HP1, fun j hj => ?_⟩
                          by_cases hjk : j = i + 1
                          · rw [hjk]; exact HN.out
                          · exact HA.out j (by omega)
                        case measure => simp [intOf]; omega
                    · have HF : Hid (Pg.may false ⟨lo, hi⟩ r l = false) := Pg.may_fits (Pg.fits_not (j := i + 1) (by have := HL.out; omega) (by rw [HGd.out]; simp [Pg.kind, hg2]))
                      subst hs
                      go_wp2
                      go_ret
                      exact ⟨by rw [← HV.out, HF.out]; rfl, HB1.out⟩
                  · have HF : Hid (Pg.may false ⟨lo, hi⟩ r l = false) := Pg.may_fits (Pg.fits_not (j := i + 1) (by have := HL.out; omega) (by rw [HGd.out]; simp [Pg.kind, hs]))
                    go_wp2
                    go_ret
                    exact ⟨by rw [← HV.out, HF.out]; rfl, HB1.out⟩
              | false =>
                rw [hq] at hle HGd
                have HF : Hid (Pg.may leaf ⟨lo, hi⟩ r l = false) := Pg.may_fits (Pg.fits_not (j := i + 1) (by have := HL.out; omega) (by rw [HGd]; rfl))
                clear HGd
                go_wp2_with fail
                refine wp_region_quiet_below (by kernel_rfl) (by kernel_rfl) ?_
                repeat (go_big_quiet_step (first | exact cH _ _))
                refine wpQuiet_nil ?_
                intro _ hw'
                obtain ⟨⟨dq, osq⟩, hw''⟩ := hw'
                subst hw''
                go_wp2
                go_ret
                exact ⟨by rw [← HV.out, HF.out]; rfl, HQB.out _ _⟩
        · have hkk : k = len := by omega
          have hli : ¬ ((k : Int) < (len : Int)) := by omega
          have HR := HR.out (Pg.fits_all (fun j hj => HA.out j (by have := HL.out; omega)))
          have HR : Hid (Pg.may leaf ⟨lo, hi⟩ r l = Pg.begins leaf lo l) := HR
          subst hkk
          clear HA hk hlt
          have q0 : wr.cell? ⟨w.heap.size, 0, none⟩ = some (.bool leaf) := HP.out.cell 0
          have q1 : wr.cell? ⟨w.heap.size, 1, none⟩ = some (.string lo) := HP.out.cell 1
          cases leaf with
          | true =>
            have HF : Hid (Pg.begins true lo l = true) := rfl
            go_wp2_with fail
            go_quiet (fail)
            go_wp2
            go_ret
            exact ⟨by rw [← HV.out, HR.out, HF.out]; rfl, below_dn HW.out _⟩
          | false =>
            by_cases h0 : k = 0
            · have HF : Hid (Pg.begins false lo l = false) := by
                have : l = [] := List.eq_nil_of_length_eq_zero (by have := HL.out; omega)
                rw [Hid, this]; rfl
              have h0' : ((k : Int) == 0) = true := by simp; omega
              have h0'' : (k : Int) = 0 := by omega
              clear h0
              go_wp2_with fail
              go_quiet (fail)
              go_wp2
              go_ret
              exact ⟨by rw [← HV.out, HR.out, HF.out]; rfl, below_dn HW.out _⟩
            · have h0' : ((k : Int) == 0) = false := by simp; omega
              have h0'' : ¬ (k : Int) = 0 := by omega
              have hpos : (0 : Int) < (k : Int) := by omega
              obtain ⟨b, o, x, rfl, hg, -, c0, -, -, -⟩ := (HX.out.below HW.out (Nat.le_refl _)).at (j := 0) (by have := HL.out; omega)
              simp only [Nat.zero_mul, Nat.add_zero] at c0
              have HF : Hid (Pg.begins false lo l = (x.key.toList == lo.toList)) := by
                cases l with
                | nil => simp at hg
                | cons y t => simp at hg; subst hg; rfl
              obtain ⟨xk, xs, xg, xc⟩ := x
              simp only at c0 HF
              clear hg
              cases hq : (xk.toList == lo.toList) with
              | true =>
                rw [hq] at HF
                go_wp2_with fail
                go_quiet (fail)
                go_wp2
                go_ret
                exact ⟨by rw [← HV.out, HR.out, HF.out]; rfl, below_dn HW.out _⟩
              | false =>
                rw [hq] at HF
                go_wp2_with fail
                go_quiet (fail)
                go_wp2
                go_ret
                exact ⟨by rw [← HV.out, HR.out, HF.out]; rfl, below_dn HW.out _⟩

end Go.Proofs.YtoehlgigidgfpaaGreat
