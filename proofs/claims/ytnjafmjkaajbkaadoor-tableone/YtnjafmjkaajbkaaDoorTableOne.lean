/- Of swaps of a page from one head to others one is done, the first one; the others count as missed. -/
import Derived.Test.YtnjafmjkaajbkaaDoorTbBg
import Derived.Test.YtnjafmjkaajbkaaDoorTbEq
import Derived.Test.YtnjafmjkaajbkaaDoorTbOpen
namespace Go.Proofs.YtnjafmjkaajbkaaDoor
open Go.ChangeShapes Go.WideShapes Go.ChangeAt Go.RowKit
open Go.ChangeMaps (open_string shut_string)
set_option linter.unusedVariables false
set_option maxRecDepth 100000

/-- Between the rounds: either nothing was swapped yet, or one swap was done. -/
def One (f1 f2 : Int) (x : Int × Int) (d m : Nat) : Prop := (x = (f1, f2) ∧ d = 0 ∧ m = 0) ∨ (¬ x = (f1, f2) ∧ d = 1)

/-- A table of one live page, in a walk that began in w: B its block. -/
def Ots (w wr : World) (B : Nat) (x : Int × Int) (m : Int) : Prop := ∃ uv c n, Rw wr B uv (.slice none 0 0) 3 [.live c x n] [] 0 0 m ∧ w.heap.size ≤ c

set_option maxHeartbeats 8000000 in
theorem walk_tableOne (f1 f2 : Int) (a : Option Addr) (len cap : Nat) (l : List (Int × Int)) (w : World) (hin : InH w a len cap l) :
    Calls Tryd.prog 5 #[.agg #[.int .i64 f1, .int .i64 f2], .slice a len cap] w fun e w' => e = .returned (.bool true) ∧ Below w.heap.size w w' := by
  have hlen : len ≤ 8796093021952 := Nat.le_trans hin.le hin.room
  have HI : Hid (InH w a len cap l) := hin
  clear hin
  obtain ⟨w0, hw0⟩ : ∃ w0, w.alloc (.cells #[.int .i64 f1, .int .i64 f2] 32) = w0 := ⟨_, rfl⟩
  have hb0 : Below w.heap.size w w0 := by rw [← hw0]; exact (Below.refl _ w).alloc (Nat.le_refl _) _
  have hk0 : Bk w0 w.heap.size 32 #[.int .i64 f1, .int .i64 f2] := by rw [← hw0]; exact Bk.new _ _ _
  have H0 : Hid (Below w.heap.size w w0 ∧ Bk w0 w.heap.size 32 #[.int .i64 f1, .int .i64 f2]) := ⟨hb0, hk0⟩
  clear hb0 hk0
  go_enter Tryd.func5, Tryd.ntmps5
  go_wp2_with fail
  refine (new_ok 3 (by decide) (by decide) w0).mono ?_
  rintro e w1 ⟨rfl, h1, b1⟩
  have hz0 : w.heap.size < w0.heap.size := H0.out.2.lt
  have H1 : Hid (Rw w1 w0.heap.size (.slice none 0 0) (.slice none 0 0) 3 [] [] 0 0 0 ∧ Below w.heap.size w w1 ∧ Bk w1 w.heap.size 32 #[.int .i64 f1, .int .i64 f2]) := ⟨h1, H0.out.1.trans (b1.mono H0.out.1.size), H0.out.2.below b1 hz0⟩
  clear h1 b1 hw0
  go_wp2_with fail
  refine (begun_any w1).mono ?_
  rintro e w2 ⟨rfl, b2⟩
  have H2 : Hid (Rw w2 w0.heap.size (.slice none 0 0) (.slice none 0 0) 3 [] [] 0 0 0 ∧ Below w.heap.size w w2 ∧ Bk w2 w.heap.size 32 #[.int .i64 f1, .int .i64 f2]) := ⟨H1.out.1.below b2, H1.out.2.1.trans (b2.mono H1.out.2.1.size), H1.out.2.2.below b2 H1.out.2.2.lt⟩
  have q0 : w2.cell? ⟨w.heap.size, 0, none⟩ = some (.int .i64 f1) := H2.out.2.2.cell 0
  have q1 : w2.cell? ⟨w.heap.size, 1, none⟩ = some (.int .i64 f2) := H2.out.2.2.cell 1
  clear b2 H1
  by_cases hz : ((f1, f2) : Int × Int) = (0, 0)
  · obtain ⟨rfl, rfl⟩ : f1 = 0 ∧ f2 = 0 := by simpa using hz
    clear hz
    go_wp2_with fail
    refine (alloc_arg H2.out.1 (by decide)).mono ?_
    rintro e w3 ⟨rfl, b3⟩
    have k3 := H2.out.2.2.below b3 H2.out.2.2.lt
    have q0 : w3.cell? ⟨w.heap.size, 0, none⟩ = some (.int .i64 0) := k3.cell 0
    have q1 : w3.cell? ⟨w.heap.size, 1, none⟩ = some (.int .i64 0) := k3.cell 1
    have HE : Hid (Below w.heap.size w w3) := H2.out.2.1.trans (b3.mono H2.out.2.1.size)
    clear b3 k3
    go_wp2
    go_ret
    exact ⟨rfl, HE.out⟩
  · have HZ : Hid (¬ ((f1, f2) : Int × Int) = (0, 0)) := hz
    have hEz := heql_ne hz
    clear hz
    go_wp2_with fail
    refine (alloc_first H2.out.1 (by decide) (by decide) (f1, f2) HZ.out).mono ?_
    rintro e w3 ⟨rfl, uv, c, h3, t3, hc, -⟩
    have k3 := H2.out.2.2.tn t3 (by simp; omega)
    have q0 : w3.cell? ⟨w.heap.size, 0, none⟩ = some (.int .i64 f1) := k3.cell 0
    have q1 : w3.cell? ⟨w.heap.size, 1, none⟩ = some (.int .i64 f2) := k3.cell 1
    have H3 : Hid (Ots w w3 w0.heap.size (f1, f2) 0 ∧ Below w.heap.size w w3 ∧ Bk w3 w.heap.size 32 #[.int .i64 f1, .int .i64 f2]) := ⟨⟨uv, c, 0, h3, by have := H2.out.2.1.size; omega⟩, H2.out.2.1.trans (t3.below H2.out.2.1.size (by simp; omega)), k3⟩
    clear h3 t3 hc k3 H2
    go_wp2_with fail
    go_loopw [8, 9, 45] (fun dv mv iv wr => ∃ (j d m : Nat) (x : Int × Int), j ≤ len ∧ d ≤ 1 ∧ m ≤ j ∧ dv = .int .i64 d ∧ mv = .int .i64 m ∧ iv = .int .i64 j ∧ Hid (One f1 f2 x d m ∧ Ots w wr w0.heap.size x (m : Int) ∧ Below w.heap.size w wr ∧ Bk wr w.heap.size 32 #[.int .i64 f1, .int .i64 f2])) (fun _ _ iv _ => len - (intOf iv).toNat)
    case atStart => exact ⟨0, 0, 0, (f1, f2), by omega, by omega, by omega, rfl, rfl, rfl, .inl ⟨rfl, rfl, rfl⟩, H3.out⟩
    case round =>
      obtain ⟨j, d, m, x, hj, hd1, hm, rfl, rfl, rfl, HB⟩ := hrel
      clear q0 q1
      by_cases hlt : j < len
      · have hli : (j : Int) < (len : Int) := by omega
        obtain ⟨b, o, ⟨y1, y2⟩, rfl, hx, -, cy1, cy2⟩ := InH.at2 (HI.out.up HB.out.2.2.1) hlt
        obtain ⟨w4, hw4⟩ : ∃ w4, wr.alloc (.cells #[.int .i64 y1, .int .i64 y2] 32) = w4 := ⟨_, rfl⟩
        have b4 : Below wr.heap.size wr w4 := by rw [← hw4]; exact (Below.refl _ wr).alloc (Nat.le_refl _) _
        have hk4 : Bk w4 wr.heap.size 32 #[.int .i64 y1, .int .i64 y2] := by rw [← hw4]; exact Bk.new _ _ _
        have kf := HB.out.2.2.2.below b4 HB.out.2.2.2.lt
        have hbw : Below w.heap.size w w4 := HB.out.2.2.1.trans (b4.mono HB.out.2.2.1.size)
        have hot : Ots w w4 w0.heap.size x (m : Int) := by
          obtain ⟨uv, c, n, h, hc⟩ := HB.out.2.1
          exact ⟨uv, c, n, h.below b4, hc⟩
        have H4 : Hid (One f1 f2 x d m ∧ Ots w w4 w0.heap.size x (m : Int) ∧ Below w.heap.size w w4 ∧ Bk w4 w.heap.size 32 #[.int .i64 f1, .int .i64 f2]) := ⟨HB.out.1, hot, hbw, kf⟩
        have p0 : w4.cell? ⟨wr.heap.size, 0, none⟩ = some (.int .i64 y1) := hk4.cell 0
        have p1 : w4.cell? ⟨wr.heap.size, 1, none⟩ = some (.int .i64 y2) := hk4.cell 1
        have q0 : w4.cell? ⟨w.heap.size, 0, none⟩ = some (.int .i64 f1) := kf.cell 0
        have q1 : w4.cell? ⟨w.heap.size, 1, none⟩ = some (.int .i64 f2) := kf.cell 1
        have e1' : wr.cell? ⟨b, o + j * 2, none⟩ = some (.int .i64 y1) := cy1
        have e2' : wr.cell? ⟨b, o + j * 2 + 1, none⟩ = some (.int .i64 y2) := cy2
        clear b4 hk4 kf hbw hot hx cy1 cy2 HB
        by_cases hyf : ((y1, y2) : Int × Int) = (f1, f2)
        · obtain ⟨rfl, rfl⟩ : y1 = f1 ∧ y2 = f2 := by simpa using hyf
          clear hyf
          go_wp2
          go_roundw
          case rel => exact ⟨j + 1, d, m, x, by omega, hd1, by omega, rfl, rfl, by go_num, H4⟩
          case measure => simp [intOf]; omega
        · have hE1 := heql_ne hyf
          have HYF : Hid (¬ ((y1, y2) : Int × Int) = (f1, f2)) := hyf
          clear hyf
          by_cases hy0 : ((y1, y2) : Int × Int) = (0, 0)
          · have hE2 := heql_eq hy0
            clear hy0
            go_wp2
            go_roundw
            case rel => exact ⟨j + 1, d, m, x, by omega, hd1, by omega, rfl, rfl, by go_num, H4⟩
            case measure => simp [intOf]; omega
          · have hE2 := heql_ne hy0
            have HY0 : Hid (¬ ((y1, y2) : Int × Int) = (0, 0)) := hy0
            clear hy0
            obtain ⟨hone, ⟨uv, c, n, h4, hc⟩, hbw, kf⟩ := H4.out
            have hcl : w.heap.size ≠ c := by
              have := ne_type kf (h4.cel 0 c x n rfl) (by decide)
              exact this
            rcases hone with ⟨hx, rfl, rfl⟩ | ⟨hx, rfl⟩
            · have HR : Hid _ := h4
              have HS : Hid (Below w.heap.size w w4 ∧ Bk w4 w.heap.size 32 #[.int .i64 f1, .int .i64 f2] ∧ w.heap.size ≤ c ∧ w.heap.size ≠ c ∧ x = (f1, f2)) := ⟨hbw, kf, hc, hcl, hx⟩
              clear h4 hbw kf hc hcl hx H4
              go_wp2_with fail
              refine (swap_hit (i := 0) (c := c) (x := x) (n := n) HR.out (by decide) rfl (f1, f2) (y1, y2) HY0.out HS.out.2.2.2.2).mono ?_
              rintro e w5 ⟨rfl, h5, t5⟩
              have HE : Hid (One f1 f2 (y1, y2) 1 0 ∧ Ots w w5 w0.heap.size (y1, y2) ((0 : Nat) : Int) ∧ Below w.heap.size w w5 ∧ Bk w5 w.heap.size 32 #[.int .i64 f1, .int .i64 f2]) := ⟨.inr ⟨HYF.out, rfl⟩, ⟨uv, c, _, h5, HS.out.2.2.1⟩, HS.out.1.trans (t5.below HS.out.1.size (by simpa using HS.out.2.2.1)), HS.out.2.1.tn t5 (by simpa using HS.out.2.2.2.1)⟩
              clear h5 t5
              go_wp2
              go_roundw
              case rel => exact ⟨j + 1, 1, 0, (y1, y2), by omega, by omega, by omega, by go_num, rfl, by go_num, HE⟩
              case measure => simp [intOf]; omega
            · have HR : Hid _ := h4
              have HS : Hid (Below w.heap.size w w4 ∧ Bk w4 w.heap.size 32 #[.int .i64 f1, .int .i64 f2] ∧ w.heap.size ≤ c ∧ ¬ x = (f1, f2)) := ⟨hbw, kf, hc, hx⟩
              clear h4 hbw kf hc hcl hx H4
              go_wp2_with fail
              refine (swap_miss (i := 0) (c := c) (x := x) (n := n) HR.out (by decide) rfl (f1, f2) (y1, y2) HY0.out HS.out.2.2.2).mono ?_
              rintro e w5 ⟨rfl, h5, t5⟩
              have hm1 : wrap64 ((m : Int) + 1) = ((m + 1 : Nat) : Int) := by rw [IntWalk.wrap64_in _ (by omega)]; omega
              rw [hm1] at h5
              have HE : Hid (One f1 f2 x 1 (m + 1) ∧ Ots w w5 w0.heap.size x ((m + 1 : Nat) : Int) ∧ Below w.heap.size w w5 ∧ Bk w5 w.heap.size 32 #[.int .i64 f1, .int .i64 f2]) := ⟨.inr ⟨HS.out.2.2.2, rfl⟩, ⟨uv, c, _, h5, HS.out.2.2.1⟩, HS.out.1.trans (t5.below HS.out.1.size (by simp; omega)), HS.out.2.1.tn t5 (by simp; omega)⟩
              clear h5 t5 hm1
              go_wp2
              go_roundw
              case rel => exact ⟨j + 1, 1, m + 1, x, by omega, by omega, by omega, rfl, by go_num, by go_num, HE⟩
              case measure => simp [intOf]; omega
      · have hli : ¬ (j : Int) < (len : Int) := by omega
        obtain ⟨hone, ⟨uv, c, n, h4, hc⟩, hbw, kf⟩ := HB.out
        have HE : Hid (Below w.heap.size w wr) := hbw
        have c0 := h4.cells.1
        have c5 := h4.cells.2.2.2.2.2
        clear h4 hc hbw kf HB
        rcases hone with ⟨hx, rfl, rfl⟩ | ⟨hx, rfl⟩
        · clear hx
          go_wp2_with fail
          refine (missed_any c0 c5 (by decide)).mono ?_
          rintro e w5 ⟨rfl, rfl⟩
          go_wp2
          go_ret
          exact ⟨rfl, HE.out⟩
        · clear hx
          have hmb : (m : Int) ≤ 8796093021952 := by omega
          go_wp2_with fail
          refine (missed_any c0 c5 (by decide)).mono ?_
          rintro e w5 ⟨rfl, rfl⟩
          go_wp2
          go_ret
          exact ⟨rfl, HE.out⟩

theorem laid_met_tableOne (os : Os) : laidMet Tryd.prog Rows.tableOneRow.laid (({ World.holding Tryd.prog os ⟨#[], #[], []⟩ with heap := (World.holding Tryd.prog os ⟨#[], #[], []⟩).heap.modify 0 fun | .cells _ t frozen => .cells (tabInts.map (Value.int .u8)).toArray t frozen | o => o } : World).forCall (fun _ _ => 0) ⟨#[], #[.agg #[.int .i64 0, .int .i64 0], .slice none 0 0], []⟩).memory :=
  laidMet_of_run' 8 (by kernel_rfl) (by kernel_rfl)
theorem reads_tableOne (os : Os) {H : Type} (enc : TypeId × Value → H) : ∃ places, DataW.whole enc Tryd.prog (({ World.holding Tryd.prog os ⟨#[], #[], []⟩ with heap := (World.holding Tryd.prog os ⟨#[], #[], []⟩).heap.modify 0 fun | .cells _ t frozen => .cells (tabInts.map (Value.int .u8)).toArray t frozen | o => o } : World).forCall (fun _ _ => 0) ⟨#[], #[.agg #[.int .i64 0, .int .i64 0], .slice none 0 0], []⟩).memory Tryd.f5.params.toList Rows.tableOneSpec.vars false (#[.agg #[.int .i64 0, .int .i64 0], .slice none 0 0] : Array Value).toList 8 = some ([.agg [.lit (.int .i64 0), .lit (.int .i64 0)], .nil], [], places) :=
  ⟨[], by kernel_rfl⟩

set_option maxRecDepth 100000 in
set_option maxHeartbeats 2000000 in
theorem lifted_tableOne (os : Os) (started : os.Started) (H : Type) (enc : TypeId × Value → H) (F : Stop.Interp) :
    ReturnsInHanded {} Tryd.checked os 5 .any ((OpenSpec.ofChange Rows.tableOneSpec).preRow enc Tryd.prog Tryd.f5 Rows.tableOneRow.domain false Rows.tableOneRow.laid) (((OpenSpec.ofChange Rows.tableOneSpec).at F).post enc Tryd.prog Tryd.f5 false true false false) := by
  obtain ⟨places, hx⟩ := reads_tableOne os enc
  refine returnsInHanded_of_row (C := Tryd.checked) (s := OpenSpec.ofChange Rows.tableOneSpec) own started (by kernel_rfl) Tryd.func5
    (witness_row_at (enc := enc) (C := Tryd.checked) false ({ World.holding Tryd.prog os ⟨#[], #[], []⟩ with heap := (World.holding Tryd.prog os ⟨#[], #[], []⟩).heap.modify 0 fun | .cells _ t frozen => .cells (tabInts.map (Value.int .u8)).toArray t frozen | o => o } : World) #[.agg #[.int .i64 0, .int .i64 0], .slice none 0 0] rfl (by kernel_rfl) (by kernel_rfl) (by kernel_rfl)
      (OpenSpec.preRow_of_cond 8 hx (by kernel_rfl) (fun k hk => by cases hk) (by kernel_rfl) (laid_met_tableOne os))) ?_
  intro W base args ds gs before hval0 hW0 _ _ hsz0 hL _ _
  have hW : DataW.Whole enc Tryd.prog Tryd.f5.params.toList Rows.tableOneSpec.vars false W args.toList ds gs before := hW0
  clear hW0
  have hsz : (DataW.weightsEach Tryd.prog (Tryd.f5.params.toList ++ Rows.tableOneSpec.plain.varTypes Tryd.prog) (ds ++ gs)).all (· ≤ reachBytes) = true := hsz0
  clear hsz0
  show Calls Tryd.prog 5 args W fun e W' => ∃ v, e = .returned v ∧ Rows.tableOneSpec.post enc Tryd.prog Tryd.f5 false true false false W args v W'
  have hval : ∀ (j : Nat) t v, Tryd.f5.params[j]? = some t → args[j]? = some v → Value.okWide Tryd.prog W .any base t v := hval0
  have hW' := hW
  obtain ⟨p, q, hA0, hV, rfl, hfz, hnd⟩ := hW
  have hA : DataW.TrodAll enc Tryd.prog W 0 (fun _ => true) true Tryd.f5.params.toList args.toList ds p := hA0
  rw [Tryd.params5] at hA hval hsz
  obtain ⟨v0, vs0, d0, ds0, p0, q0, hargs, rfl, rfl, h0, r0⟩ := trodAll_cons hA
  obtain ⟨v1, vs1, d1, ds1, p1, q1, rfl, rfl, rfl, h1, r1⟩ := trodAll_cons r0
  obtain ⟨rfl, rfl, rfl⟩ := trodAll_nil r1
  obtain rfl : args = #[v0, v1] := by cases args; simp_all
  obtain ⟨rfl, rfl⟩ := trodVars_none hV
  have k0 := h0
  have lt0 : ∀ x ∈ p0, x.block < W.heap.size := by obtain ⟨m, hm⟩ := k0; exact DataW.trod_lt m _ _ _ hm
  obtain ⟨s0, g0, e0⟩ : ∃ s0 g0, v0 = .agg #[.int .i64 s0, .int .i64 g0] := by
    obtain ⟨cs, hcs, _⟩ := okWide_struct Tryd.underlying32 (hval 0 32 v0 rfl rfl)
    obtain ⟨fuel, hf⟩ := h0
    obtain ⟨s0, g0, hg, _⟩ := in_hnd hf
    refine ⟨s0, g0, ?_⟩
    rw [hcs] at hg ⊢
    congr 1
    apply Array.ext'
    simpa [Value.cells] using hg
  subst e0
  obtain ⟨a1, len1, cap1, rfl⟩ := okWide_slice Tryd.underlying52 (hval 1 52 v1 rfl rfl)
  have k1 := h1
  have lt1 : ∀ x ∈ p1, x.block < W.heap.size := by obtain ⟨m, hm⟩ := k1; exact DataW.trod_lt m _ _ _ hm
  obtain ⟨z1, w1⟩ : ∃ l, InH W a1 len1 cap1 l := by
    refine in_hnds h1 fun n hn => ?_
    have := of_decide_eq_true (List.all_eq_true.1 hsz _ (DataW.weights_mem_each (j := 1) (t := 52) rfl rfl n hn))
    simp only [reachBytes] at this
    omega
  clear hA0 hval0
  refine (walk_tableOne s0 g0 a1 len1 cap1 z1 W w1).mono fun e W' ⟨he, bel⟩ => ?_
  subst he
  exact ⟨_, rfl, _, _, _, [], _, [], hW', trodAll_mk1 (shut_bool Tryd.underlying4 _), (trodAll_cons_mk (Below.trod laidOut (by kernel_rfl) (of_decide_eq_true (by kernel_rfl)) k0 bel lt0) (trodAll_cons_mk (Below.trod laidOut (by kernel_rfl) (of_decide_eq_true (by kernel_rfl)) k1 bel lt1) trodAll_mk0)), rfl, bel.frame _, fun h => by cases h⟩

theorem tableOne_row : Rows.TableOneSaid :=
  OpenClaim.holds_of_cond 5 Tryd.f5 rfl rfl rfl rfl rfl rfl rfl ⟨rfl, rfl, rfl, rfl, rfl⟩ rfl rfl rfl rfl rfl (by kernel_rfl) Tryd.func5 (by kernel_rfl)
    (of_decide_eq_true (by kernel_rfl)) (by unfold Func.isWrapper; first | (rw [if_pos (by decide +kernel)]; kernel_rfl) | (rw [if_neg (by decide +kernel)]; exact ⟨rfl, rfl⟩))
    (fun os started H enc _ F => by rw [OpenClaim.pre_eq_preRow]; exact lifted_tableOne os started H enc F)

/-- No parameter wants a stand-in; the program's own looks are off. -/
theorem tableOne_plain (f : FuncId) (fn : Func) (hf : Tryd.pinned.checked.prog.funcNamed "cresset/cressetlaw10.TableOne" = some f) (hfn : Tryd.pinned.checked.prog.funcs[f]? = some fn) :
    false = Tryd.pinned.checked.prog.looks [] ∧ ∀ (j : Nat) t, fn.params[j]? = some t → Tryd.pinned.checked.prog.wantsStandIn t = false := by
  obtain rfl : f = 5 := Option.some.inj ((show Tryd.prog.funcNamed "cresset/cressetlaw10.TableOne" = some 5 by kernel_rfl).symm.trans hf) |>.symm
  obtain rfl : fn = Tryd.f5 := (Option.some.inj (Tryd.func5.symm.trans hfn)).symm
  refine ⟨by kernel_rfl, fun j t ht => ?_⟩
  rw [Tryd.params5] at ht
  have hm : t = 32 ∨ t = 52 := by simpa using Array.mem_of_getElem? ht
  rcases hm with rfl | rfl
  all_goals first | exact (show Tryd.prog.wantsStandIn 32 = false by kernel_rfl) | exact (show Tryd.prog.wantsStandIn 52 = false by kernel_rfl)

/-- The statement. -/
theorem tableOne_holds : Rows.TableOneCardSaid :=
  Claim7.holds_tied_plain_at .later [] _ _ _ _ tableOne_row (fun _ h => by cases h) (by kernel_rfl) (fun _ h => by cases h) tableOne_row_tie rfl ⟨rfl, rfl⟩ (by kernel_rfl) rfl tableOne_plain (by kernel_rfl)
#print axioms tableOne_holds
end Go.Proofs.YtnjafmjkaajbkaaDoor
