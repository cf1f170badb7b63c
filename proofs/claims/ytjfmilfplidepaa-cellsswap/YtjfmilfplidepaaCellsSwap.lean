/- Each answer of a cell of numbers is the document's, whatever a script does. -/
import Derived.Test.YtjfmilfplidepaaCeRf
import Derived.Test.YtjfmilfplidepaaCeOpen
namespace Go.Proofs.Ytjfmilfplidepaa
open Go.ChangeShapes Go.WideShapes Go.ChangeAt Go.RowKit
open Go.ChangeMaps (open_string shut_string)
set_option linter.unusedVariables false
set_option maxRecDepth 100000

theorem Bk.unlike {w : World} {a b : Nat} {t t' : TypeId} {cs cs' : Array Value} (h : Bk w a t cs) (k : Bk w b t' cs') (ht : t ≠ t') : a ≠ b := by
  intro e
  subst e
  have := (show w.heap[a]? = _ from h).symm.trans (show w.heap[a]? = _ from k)
  simp at this
  exact ht this.2

/-- A cell and the document's. -/
structure Cw (w wr : World) (B R : Nat) (x n : Int) : Prop where
  ce : CeI wr B x n
  rc : Rc wr R x n
  lb : w.heap.size ≤ B
  lr : w.heap.size ≤ R
  below : Below w.heap.size w wr

theorem Cw.ne {w wr : World} {B R : Nat} {x n : Int} (h : Cw w wr B R x n) : B ≠ R := h.ce.unlike h.rc (by decide)
theorem Cw.still {w wr w' : World} {B R : Nat} {x n : Int} (h : Cw w wr B R x n) (hb : Below wr.heap.size wr w') : Cw w w' B R x n :=
  ⟨h.ce.below hb h.ce.lt, h.rc.below hb h.rc.lt, h.lb, h.lr, h.below.trans (hb.mono h.below.size)⟩

/-- The box of an operation. -/
def Ob (W : World) (O : Nat) (g : Cop) : Prop := Bk W O 30 #[.int .i64 g.dd, .int .i64 g.was, .int .i64 g.is, .string g.x]
theorem Ob.was {W : World} {O : Nat} {g : Cop} (h : Ob W O g) : W.cell? ⟨O, 1, none⟩ = some (.int .i64 g.was) := Bk.cell h 1
theorem Ob.is {W : World} {O : Nat} {g : Cop} (h : Ob W O g) : W.cell? ⟨O, 2, none⟩ = some (.int .i64 g.is) := Bk.cell h 2

/-- The cell was changed, then the document's. -/
theorem Cw.both {w wr w2 w3 : World} {B R O : Nat} {x n x' n' : Int} {g : Cop} (h : Cw w wr B R x n) (ho : Ob wr O g) (t2 : Tn [B] wr.drew w2) (c2 : CeI w2 B x' n') (t3 : Tn [R] w2 w3) (r3 : Rc w3 R x' n') : Cw w w3 B R x' n' ∧ Ob w3 O g := by
  have hne := h.ne
  have k2 := t2.below (B := w.heap.size) h.below.size (by simpa using h.lb)
  have k3 := t3.below (B := w.heap.size) (Nat.le_trans h.below.size k2.size) (by simpa using h.lr)
  have oB : O ≠ B := ho.unlike h.ce (by decide)
  have oR : O ≠ R := ho.unlike h.rc (by decide)
  exact ⟨⟨c2.tn t3 (by simpa using hne), r3, h.lb, h.lr, (h.below.trans (below_drewC (Below.refl _ wr) 1)).trans (k2.trans k3)⟩, ((Bk.drew ho).tn t2 (by simpa using oB)).tn t3 (by simpa using oR)⟩

set_option maxHeartbeats 8000000 in
theorem walk_cellsSwap (first : Int) (a : Option Addr) (len cap : Nat) (l : List Cop) (w : World) (_hf : (Lit.int IntKind.i64 first).wf = true) (hin : InC w a len cap l) :
    Calls Try.prog 3 #[.int .i64 first, .slice a len cap] w fun e w' => e = .returned (.bool true) ∧ Below w.heap.size w w' := by
  have hroom : len ≤ 3518437208780 := by have := hin.le; have := hin.room; omega
  have HI : Hid (InC w a len cap l) := hin
  clear hin _hf
  go_enter Try.func3, Try.ntmps3
  go_wp2_with fail
  refine (newCell_anyI first w).mono ?_
  rintro e w1 ⟨rfl, hw1⟩
  have H1 : Hid (CeI w1 w.heap.size first 0 ∧ Below w.heap.size w w1) := by
    rw [hw1]
    exact ⟨Bk.new w _ _, (Below.refl _ w).alloc (Nat.le_refl _) _⟩
  clear hw1
  go_wp2_with fail
  refine (begun_any _).mono ?_
  rintro e w2 ⟨rfl, hb2⟩
  have HP0 : Hid (Cw w w2 w.heap.size w1.heap.size first 0) := by
    have hb1 : Below w1.heap.size w1 (w1.alloc (.cells #[.int .i64 first, .int .i64 0] 27)) := (Below.refl _ w1).alloc (Nat.le_refl _) _
    have hb : Below w1.heap.size w1 w2 := hb1.trans (hb2.mono hb1.size)
    exact ⟨H1.out.1.below hb H1.out.1.lt, (Bk.new w1 _ _).below hb2 (by simp), Nat.le_refl _, H1.out.2.size, H1.out.2.trans (hb.mono H1.out.2.size)⟩
  clear hb2 H1
  obtain ⟨R, hR⟩ : ∃ R, w1.heap.size = R := ⟨_, rfl⟩
  rw [hR] at HP0 ⊢
  clear hR
  go_wp2_with fail
  go_loopw [5, 27] (fun cv iv wr => ∃ (j B : Nat) (x n : Int), j ≤ len ∧ iv = .int .i64 j ∧ cv = .pointer (some ⟨B, 0, none⟩) ∧ Hid (Cw w wr B R x n)) (fun _ iv _ => len - (intOf iv).toNat)
  case atStart => exact ⟨0, _, _, _, Nat.zero_le _, rfl, rfl, HP0⟩
  case round =>
    obtain ⟨j, B, x, n, hj, rfl, rfl, HP⟩ := hrel
    by_cases hlt : j < len
    · have hli : (j : Int) < (len : Int) := by omega
      obtain ⟨b, o, g, rfl, hg, hb, c0, c1, c2, c3⟩ := InC.at4 (HI.out.up HP.out.below) hlt
      obtain ⟨wo, hwo⟩ : ∃ wo, wr.alloc (.cells #[.int .i64 g.dd, .int .i64 g.was, .int .i64 g.is, .string g.x] 30) = wo := ⟨_, rfl⟩
      have HO : Hid (Ob wo wr.heap.size g) := by rw [← hwo]; exact Bk.new _ _ _
      have HPO : Hid (Cw w wo B R x n) := by rw [← hwo]; exact HP.out.still ((Below.refl _ wr).alloc (Nat.le_refl _) _)
      have d0 : wo.cell? ⟨wr.heap.size, 0, none⟩ = some (.int .i64 g.dd) := Bk.cell HO.out 0
      have d1 := HO.out.was
      have d2 := HO.out.is
      clear hg hb
      by_cases h0 : g.dd = 0
      · by_cases hx : x = g.was
        · subst hx
          rw [h0] at c0 d0 hwo
          go_wp2_with fail
          go_region_held3 (fun w' => w'.cell? ⟨wr.heap.size, 1, none⟩ = some (.int .i64 g.was) ∧ w'.cell? ⟨wr.heap.size, 2, none⟩ = some (.int .i64 g.is)) (go_keep) (first
            | (go_at_call 10; refine (cswap_hitI (Bk.drew HPO.out.ce) g.is).mono ?_; rintro e w3 ⟨rfl, hc3, t3⟩; have ho3 := (Bk.drew HO.out).tn t3 (by simpa using HO.out.unlike HPO.out.ce (by decide)); have s1 := Ob.was ho3; have s2 := Ob.is ho3; have hr3 := (Bk.drew HPO.out.rc).tn t3 (by simpa using fun h => HPO.out.ne h.symm))
            | (go_at_call 11; refine (rswap_hit hr3 g.is).mono ?_; rintro e w4 ⟨rfl, hr4, t4⟩; obtain ⟨hP4, hO4⟩ := HPO.out.both HO.out t3 hc3 t4 hr4; have s1 := Ob.was hO4; have s2 := Ob.is hO4))
          have HP4 : Hid (Cw w w4 B R g.is (wrap64 (n + 1))) := hP4
          clear hP4 hO4 hr4 t4 hr3 ho3 hc3 t3 s1 s2
          go_wp2_with fail
          refine (cload_anyI HP4.out.ce).mono ?_
          rintro e w9 ⟨rfl, k, rfl⟩
          have HP9 : Hid (Cw w (w4.drewN k) B R g.is (wrap64 (n + 1))) := HP4.out.still (below_drewC (Below.refl _ _) k)
          have r0 : (w4.drewN k).cell? ⟨R, 0, none⟩ = some (.int .i64 g.is) := Bk.cell HP9.out.rc 0
          have r1 : (w4.drewN k).cell? ⟨R, 1, none⟩ = some (.int .i64 (wrap64 (n + 1))) := Bk.cell HP9.out.rc 1
          go_wp2
          go_roundw
          case rel => exact ⟨j + 1, _, _, _, by omega, by go_num, rfl, HP9⟩
          case measure => simp [intOf]; omega
        · have HX : Hid (¬ x = g.was) := hx
          rw [h0] at c0 d0 hwo
          clear hx
          go_wp2_with fail
          go_region_held3 (fun w' => w'.cell? ⟨wr.heap.size, 1, none⟩ = some (.int .i64 g.was) ∧ w'.cell? ⟨wr.heap.size, 2, none⟩ = some (.int .i64 g.is)) (go_keep) (first
            | (go_at_call 10; refine (cswap_missI (Bk.drew HPO.out.ce) g.was g.is HX.out).mono ?_; rintro e w3 ⟨rfl, hc3, t3⟩; have ho3 := Bk.below (Bk.drew HO.out) t3 (Bk.lt HO.out); have s1 := Ob.was ho3; have s2 := Ob.is ho3; have hr3 := Bk.below (Bk.drew HPO.out.rc) t3 (Bk.lt HPO.out.rc))
            | (go_at_call 11; refine (rswap_miss hr3 g.was g.is HX.out).mono ?_; rintro e w4 ⟨rfl, rfl⟩; have s1 := Ob.was ho3; have s2 := Ob.is ho3))
          have HP4 : Hid (Cw w w4 B R x n) := HPO.out.still ((below_drewC (Below.refl _ wo) 1).trans t3)
          clear hr3 ho3 hc3 t3 s1 s2
          go_wp2_with fail
          refine (cload_anyI HP4.out.ce).mono ?_
          rintro e w9 ⟨rfl, k, rfl⟩
          have HP9 : Hid (Cw w (w4.drewN k) B R x n) := HP4.out.still (below_drewC (Below.refl _ _) k)
          have r0 : (w4.drewN k).cell? ⟨R, 0, none⟩ = some (.int .i64 x) := Bk.cell HP9.out.rc 0
          have r1 : (w4.drewN k).cell? ⟨R, 1, none⟩ = some (.int .i64 n) := Bk.cell HP9.out.rc 1
          go_wp2
          go_roundw
          case rel => exact ⟨j + 1, _, _, _, by omega, by go_num, rfl, HP9⟩
          case measure => simp [intOf]; omega
      · by_cases h1 : g.dd = 1
        · rw [h1] at c0 d0 hwo
          go_wp2_with fail
          go_region_held3 (fun w' => w'.cell? ⟨wr.heap.size, 2, none⟩ = some (.int .i64 g.is)) (go_keep) (first
            | (go_at_call 12; refine (cset_anyI (Bk.drew HPO.out.ce) g.is).mono ?_; rintro e w3 ⟨rfl, hc3, t3⟩; have ho3 := (Bk.drew HO.out).tn t3 (by simpa using HO.out.unlike HPO.out.ce (by decide)); have s1 := Ob.was ho3; have s2 := Ob.is ho3; have hr3 := (Bk.drew HPO.out.rc).tn t3 (by simpa using fun h => HPO.out.ne h.symm))
            | (go_at_call 13; refine (rset_any hr3 g.is).mono ?_; rintro e w4 ⟨rfl, hr4, t4⟩; obtain ⟨hP4, hO4⟩ := HPO.out.both HO.out t3 hc3 t4 hr4; have s1 := Ob.was hO4; have s2 := Ob.is hO4))
          have HP4 : Hid (Cw w w4 B R g.is (wrap64 (n + 1))) := hP4
          clear hP4 hO4 hr4 t4 hr3 ho3 hc3 t3 s1 s2
          go_wp2_with fail
          refine (cload_anyI HP4.out.ce).mono ?_
          rintro e w9 ⟨rfl, k, rfl⟩
          have HP9 : Hid (Cw w (w4.drewN k) B R g.is (wrap64 (n + 1))) := HP4.out.still (below_drewC (Below.refl _ _) k)
          have r0 : (w4.drewN k).cell? ⟨R, 0, none⟩ = some (.int .i64 g.is) := Bk.cell HP9.out.rc 0
          have r1 : (w4.drewN k).cell? ⟨R, 1, none⟩ = some (.int .i64 (wrap64 (n + 1))) := Bk.cell HP9.out.rc 1
          go_wp2
          go_roundw
          case rel => exact ⟨j + 1, _, _, _, by omega, by go_num, rfl, HP9⟩
          case measure => simp [intOf]; omega
        · by_cases h2 : g.dd = 2
          · rw [h2] at c0 d0 hwo
            go_wp2_with fail
            refine (cclone_anyI HPO.out.ce).mono ?_
            rintro e w3 ⟨rfl, hw3⟩
            have hb3 : Below wo.heap.size wo w3 := by rw [hw3]; exact (Below.refl _ wo).alloc (Nat.le_refl _) _
            have HP3 : Hid (Cw w w3 B R x n ∧ CeI w3 wo.heap.size x n ∧ B < wo.heap.size ∧ R < wo.heap.size ∧ w.heap.size ≤ wo.heap.size) := ⟨HPO.out.still hb3, by rw [hw3]; exact Bk.new _ _ _, HPO.out.ce.lt, HPO.out.rc.lt, HPO.out.below.size⟩
            have HO3 : Hid (Ob w3 wr.heap.size g) := Bk.below HO.out hb3 (Bk.lt HO.out)
            have d13 := HO3.out.was
            clear hw3 hb3
            go_wp2_with fail
            refine (cset_anyI HP3.out.1.ce g.was).mono ?_
            rintro e w4 ⟨rfl, hc4, t4⟩
            have HP4 : Hid (Cw w w4 wo.heap.size R x n) := by
              obtain ⟨p1, p2, p3, p4, p5⟩ := HP3.out
              exact ⟨p2.tn t4 (by simp; omega), p1.rc.tn t4 (by simpa using fun h => p1.ne h.symm), p5, p1.lr, p1.below.trans (t4.below p1.below.size (by simpa using p1.lb))⟩
            clear hc4 t4 HP3
            go_wp2_with fail
            refine (cload_anyI HP4.out.ce).mono ?_
            rintro e w9 ⟨rfl, k, rfl⟩
            have HP9 : Hid (Cw w (w4.drewN k) wo.heap.size R x n) := HP4.out.still (below_drewC (Below.refl _ _) k)
            have r0 : (w4.drewN k).cell? ⟨R, 0, none⟩ = some (.int .i64 x) := Bk.cell HP9.out.rc 0
            have r1 : (w4.drewN k).cell? ⟨R, 1, none⟩ = some (.int .i64 n) := Bk.cell HP9.out.rc 1
            go_wp2
            go_roundw
            case rel => exact ⟨j + 1, _, _, _, by omega, by go_num, rfl, HP9⟩
            case measure => simp [intOf]; omega
          · go_wp2_with fail
            refine (cload_anyI HPO.out.ce).mono ?_
            rintro e w3 ⟨rfl, k, rfl⟩
            have HP3 : Hid (Cw w (wo.drewN k) B R x n) := HPO.out.still (below_drewC (Below.refl _ _) k)
            have r0 : (wo.drewN k).cell? ⟨R, 0, none⟩ = some (.int .i64 x) := Bk.cell HP3.out.rc 0
            have r1 : (wo.drewN k).cell? ⟨R, 1, none⟩ = some (.int .i64 n) := Bk.cell HP3.out.rc 1
            go_wp2
            go_roundw
            case rel => exact ⟨j + 1, B, x, n, by omega, by go_num, rfl, HP3⟩
            case measure => simp [intOf]; omega
    · have hli : ¬ (j : Int) < (len : Int) := by omega
      go_wp2_with fail
      refine (cload_anyI HP.out.ce).mono ?_
      rintro e w3 ⟨rfl, k, rfl⟩
      have HP3 : Hid (Cw w (wr.drewN k) B R x n) := HP.out.still (below_drewC (Below.refl _ _) k)
      have r0 : (wr.drewN k).cell? ⟨R, 0, none⟩ = some (.int .i64 x) := Bk.cell HP3.out.rc 0
      have r1 : (wr.drewN k).cell? ⟨R, 1, none⟩ = some (.int .i64 n) := Bk.cell HP3.out.rc 1
      go_wp2
      go_ret
      exact ⟨rfl, HP3.out.below⟩

set_option maxRecDepth 100000 in
set_option maxHeartbeats 2000000 in
theorem lifted_cellsSwap (os : Os) (started : os.Started) (H : Type) (enc : TypeId × Value → H) :
    ReturnsInHanded {} Try.checked os 3 .any (Rows.cellsSwapSpec.pre6 enc Try.prog Try.f3 Rows.cellsSwapRow.domain false) (Rows.cellsSwapSpec.post enc Try.prog Try.f3 false true false false) := by
  refine returnsInHanded_of_change_sized (C := Try.checked) own started (by kernel_rfl) Try.func3
    (ChangeSpec.witness6 (enc := enc) (C := Try.checked) false ⟨#[], #[.int .i64 0, .slice none 0 0], []⟩ 8 (by kernel_rfl) (by kernel_rfl) (by kernel_rfl) (by kernel_rfl)) ?_
  intro W base args ds gs before hval0 hW _ hsz0 _
  have hsz : (DataW.weightsEach Try.prog (Try.f3.params.toList ++ Rows.cellsSwapSpec.plain.varTypes Try.prog) (ds ++ gs)).all (· ≤ reachBytes) = true := hsz0
  clear hsz0
  have hval : ∀ (j : Nat) t v, Try.f3.params[j]? = some t → args[j]? = some v → Value.okWide Try.prog W .any base t v := hval0
  have hW' := hW
  obtain ⟨p, q, hA0, hV, rfl, hfz, hnd⟩ := hW
  have hA : DataW.TrodAll enc Try.prog W 0 (fun _ => true) true Try.f3.params.toList args.toList ds p := hA0
  rw [Try.params3] at hA hval hsz
  obtain ⟨v0, vs0, d0, ds0, p0, q0, hargs, rfl, rfl, h0, r0⟩ := trodAll_cons hA
  obtain ⟨v1, vs1, d1, ds1, p1, q1, rfl, rfl, rfl, h1, r1⟩ := trodAll_cons r0
  obtain ⟨rfl, rfl, rfl⟩ := trodAll_nil r1
  obtain rfl : args = #[v0, v1] := by cases args; simp_all
  obtain ⟨rfl, rfl⟩ := trodVars_none hV
  obtain ⟨a0, rfl, rfl, rfl, w0⟩ := open_int Try.underlying3 (hval 0 3 v0 rfl rfl) h0
  obtain ⟨a1, len1, cap1, rfl⟩ := okWide_slice Try.underlying22 (hval 1 22 v1 rfl rfl)
  have k1 := h1
  have lt1 : ∀ x ∈ p1, x.block < W.heap.size := by obtain ⟨m, hm⟩ := k1; exact DataW.trod_lt m _ _ _ hm
  obtain ⟨z1, w1⟩ : ∃ l, InC W a1 len1 cap1 l := by
    refine in_cops h1 fun n hn => ?_
    have := of_decide_eq_true (List.all_eq_true.1 hsz _ (DataW.weights_mem_each (j := 1) (t := 22) rfl rfl n hn))
    simp only [reachBytes] at this
    omega
  clear hA0 hval0
  refine (walk_cellsSwap a0 a1 len1 cap1 z1 W w0 w1).mono fun e W' ⟨he, bel⟩ => ?_
  subst he
  exact ⟨_, rfl, _, _, _, [], _, [], hW', trodAll_mk1 (shut_bool Try.underlying4 _), (trodAll_cons_mk (shut_int Try.underlying3 w0) (trodAll_cons_mk (Below.trod laidOut (by kernel_rfl) (of_decide_eq_true (by kernel_rfl)) k1 bel lt1) trodAll_mk0)), rfl, bel.frame _, fun h => by cases h⟩

/-- The statement. -/
theorem cellsSwap_holds : Rows.CellsSwapSaid :=
  OpenClaim.holds_of_wide 3 Try.f3 rfl rfl rfl rfl rfl rfl rfl ⟨rfl, rfl, rfl, rfl, rfl⟩ rfl rfl rfl rfl rfl (by kernel_rfl) Try.func3 (by kernel_rfl)
    (of_decide_eq_true (by kernel_rfl)) (by unfold Func.isWrapper; first | (rw [if_pos (by decide +kernel)]; kernel_rfl) | (rw [if_neg (by decide +kernel)]; exact ⟨rfl, rfl⟩))
    (fun os started H enc _ => lifted_cellsSwap os started H enc)
#print axioms cellsSwap_holds
end Go.Proofs.Ytjfmilfplidepaa
