/- Whatever a script does to an oracle, each answer is the document's. -/
import Derived.Test.YtdgphlghmjnjfaaOrEq
namespace Go.Proofs.Ytdgphlghmjnjfaa
open Go.ChangeShapes Go.WideShapes Go.ChangeAt Go.RowKit
open Go.ChangeMaps (open_string shut_string)
set_option linter.unusedVariables false
set_option maxRecDepth 100000

theorem InOo.cells {w : World} {p : Option Addr} {len cap : Nat} {l : List Oop} (h : InOo w p len cap l) {j : Nat} (hj : j < len) : ∃ b o g, p = some ⟨b, o, none⟩ ∧ l[j]? = some g ∧ g.ok ∧ w.cell? ⟨b, o + j * 4, none⟩ = some (.int .i64 g.dd) ∧ w.cell? ⟨b, o + j * 4 + 1, none⟩ = some (.int .i64 g.s) ∧ w.cell? ⟨b, o + j * 4 + 2, none⟩ = some (.int .i64 g.ts) ∧ w.cell? ⟨b, o + j * 4 + 3, none⟩ = some (.bool g.odd) := by
  obtain ⟨b, o, g, hp, hl, hok, hc⟩ := h.at hj
  exact ⟨b, o, g, hp, hl, hok, hc 0 _ rfl, hc 1 _ rfl, hc 2 _ rfl, hc 3 _ rfl⟩

set_option maxHeartbeats 16000000 in
theorem walk_oracleDoes (q : Int) (p : Option Addr) (len cap : Nat) (l : List Oop) (w : World) (hq : (Lit.int .i64 q).wf = true) (hin : InOo w p len cap l) :
    Calls Try.prog 3 #[.int .i64 q, .slice p len cap] w fun e w' => e = .returned (.bool true) ∧ Below w.heap.size w w' := by
  have HI : Hid (InOo w p len cap l) := hin
  have hlen : len ≤ 4398046510976 := Nat.le_trans hin.le hin.room
  clear hin hq
  by_cases hbad : q < 0 ∨ (1099511627776 : Int) < q
  · have HB : Hid (q < 0 ∨ (1099511627776 : Int) < q) := hbad
    clear hbad
    go_enter Try.func3, Try.ntmps3
    go_wp2_with fail
    refine (new_bad w q HB.out).mono ?_
    rintro r w1 ⟨rfl, rfl⟩
    go_wp2_with fail
    refine (rnew_bad _ q HB.out).mono ?_
    rintro r w2 ⟨rfl, rfl⟩
    go_wp2_with fail
    refine (begun_any _).mono ?_
    rintro r w3 ⟨rfl, hb3⟩
    have HB3 : Hid (Below w2.heap.size w2 w3) := hb3
    clear hb3
    go_wp2
    go_ret
    exact ⟨rfl, HB3.out⟩
  · obtain ⟨n, rfl⟩ : ∃ n : Nat, q = (n : Int) := ⟨q.toNat, by omega⟩
    have hn : n ≤ 1099511627776 := by omega
    clear hbad
    go_enter Try.func3, Try.ntmps3
    go_wp2_with fail
    refine (new_any w n hn).mono ?_
    rintro r w1 ⟨rfl, hO1, hb1⟩
    have HO1 : Hid (IsOr w1 (w.heap.size + 1) w.heap.size (Or.begin n n) ∧ Below w.heap.size w w1) := ⟨hO1, hb1⟩
    clear hO1 hb1
    go_wp2_with fail
    refine (rnew_any w1 n hn).mono ?_
    rintro r w2 ⟨rfl, hR2, hb2⟩
    have H2 : Hid (Bo w w2 (w.heap.size + 1) w.heap.size w1.heap.size (.slice none 0 0) (Or.begin n n) (List.replicate 17 0)) := ⟨HO1.out.1.below hb2, hR2, Or.begin_ok n hn, HO1.out.2.trans (hb2.mono HO1.out.2.size), by omega, Nat.le_refl _, HO1.out.2.size, fun b hb => by cases hb⟩
    clear hR2 hb2 HO1
    go_wp2_with fail
    refine (begun_any _).mono ?_
    rintro r w3 ⟨rfl, hb3⟩
    have H3 : Hid (Bo w w3 (w.heap.size + 1) w.heap.size w1.heap.size (.slice none 0 0) (Or.begin n n) (List.replicate 17 0)) := H2.out.blw hb3
    clear hb3 H2
    obtain ⟨B0, hB⟩ : ∃ B, w.heap.size + 1 = B := ⟨_, rfl⟩
    obtain ⟨R, hR⟩ : ∃ R, w1.heap.size = R := ⟨_, rfl⟩
    rw [hB, hR] at H3
    rw [hB, hR]
    clear hB hR
    go_wp2_with fail
    go_loopw [5, 40] (fun pv iv wr => ∃ (j B M : Nat) (v : Value) (o : Or) (ats : List Nat), j ≤ len ∧ iv = .int .i64 j ∧ pv = .pointer (some ⟨B, 0, none⟩) ∧ Hid (Bo w wr B M R v o ats)) (fun pv iv _ => len - (intOf iv).toNat)
    case atStart => exact ⟨0, _, _, _, _, _, Nat.zero_le _, rfl, rfl, H3⟩
    case round =>
      obtain ⟨j, B, M, v, o, ats, hj, rfl, rfl, HS⟩ := hrel
      clear H3
      by_cases hlt : j < len
      · have hli : (j : Int) < (len : Int) := by omega
        obtain ⟨b, off, g, rfl, hg, hok, e0, e1, e2, e3⟩ := InOo.cells (HI.out.up HS.out.below) hlt
        obtain ⟨wo, hwo⟩ : ∃ wo, wo = wr.alloc (.cells #[.int .i64 g.dd, .int .i64 g.s, .int .i64 g.ts, .bool g.odd] 32) := ⟨_, rfl⟩
        have hbo : Below wr.heap.size wr wo := by rw [hwo]; exact (Below.refl _ wr).alloc (Nat.le_refl _) _
        have kbo : Bk wo wr.heap.size 32 #[.int .i64 g.dd, .int .i64 g.s, .int .i64 g.ts, .bool g.odd] := by rw [hwo]; exact Bk.new _ _ _
        have HO : Hid (Bo w wo B M R v o ats ∧ g.ok) := ⟨HS.out.blw hbo, hok⟩
        clear hg hok hbo kbo HS
        go_wp2_with fail
        rw [← hwo]
        refine (step_any HO.out.1 g HO.out.2).mono ?_
        rintro r w5 ⟨B', M', v', o', ats', rfl, h5⟩
        have H5 : Hid (Bo w w5 B' M' R v' o' ats') := h5
        clear h5 HO hwo
        have k0 := H5.out.is.c0
        have k1 := H5.out.is.c1
        have k2 := H5.out.is.c2
        have z0 := H5.out.rf.c0
        have HD : Hid (∀ m, Bo w (w5.drewN m) B' M' R v' o' ats') := fun m => H5.out.blw ⟨rfl, rfl, rfl, Nat.le_refl _, fun _ _ => rfl⟩
        go_wp2_with fail
        go_quiet (first
          | (go_at_call 11; refine Calls.quiet_of_same (last_any (M := M') (n := (o'.last : Int)) (by first | exact (HD.out 0).is.c0 | exact (HD.out _).is.c0) (by first | exact (HD.out 0).is.c2 | exact (HD.out _).is.c2)))
          | (go_at_call 12; refine Calls.quiet_of_same (published_any (M := M') (n := (o'.pub : Int)) (by first | exact (HD.out 0).is.c1 | exact (HD.out _).is.c1) (by first | exact (HD.out 0).is.c2 | exact (HD.out _).is.c2)))
          | (go_at_call 13; refine Calls.quiet_of_same (rpub_any (v := v') (o := o') (by first | exact (HD.out 0).ok | exact (HD.out _).ok) (by first | exact (HD.out 0).rf.c0 | exact (HD.out _).rf.c0) (by first | exact (HD.out 0).rf.c1 | exact (HD.out _).rf.c1) (by first | exact (HD.out 0).rf.row | exact (HD.out _).rf.row)))
          | (go_at_call 14; refine Calls.quiet_of_same (water_any (M := M') (o := o') (by first | exact (HD.out 0).is | exact (HD.out _).is) (by first | exact (HD.out 0).ok | exact (HD.out _).ok)))
          | (go_at_call 15; refine Calls.quiet_of_same (rwater_any (v := v') (o := o') (ats := ats') (by first | exact (HD.out 0).rf | exact (HD.out _).rf) (by first | exact (HD.out 0).ok | exact (HD.out _).ok))))
        have H6 : Hid (Bo w (w5.drewN nq) B' M' R v' o' ats') := HD.out nq
        go_wp2
        go_roundw
        case rel => exact ⟨j + 1, _, _, _, _, _, by omega, by go_num, rfl, H6⟩
        case measure => simp [intOf]; omega
      · have hli : ¬ (j : Int) < (len : Int) := by omega
        go_wp2_with fail
        refine (equal_any HS.out).mono ?_
        rintro r w5 ⟨rfl, hb5⟩
        have HE : Hid (Below w.heap.size w w5) := HS.out.below.trans (hb5.mono HS.out.below.size)
        clear hb5
        go_wp2
        go_ret
        exact ⟨rfl, HE.out⟩


set_option maxRecDepth 100000 in
set_option maxHeartbeats 2000000 in
theorem lifted_oracleDoes (os : Os) (started : os.Started) (H : Type) (enc : TypeId × Value → H) :
    ReturnsInHanded {} Try.checked os 3 .any (Rows.oracleDoesSpec.pre6 enc Try.prog Try.f3 Rows.oracleDoesRow.domain false) (Rows.oracleDoesSpec.post enc Try.prog Try.f3 false true false false) := by
  refine returnsInHanded_of_change_sized (C := Try.checked) own started (by kernel_rfl) Try.func3
    (ChangeSpec.witness6 (enc := enc) (C := Try.checked) false ⟨#[], #[.int .i64 0, .slice none 0 0], []⟩ 8 (by kernel_rfl) (by kernel_rfl) (by kernel_rfl) (by kernel_rfl)) ?_
  intro W base args ds gs before hval0 hW _ hsz0 _
  have hsz : (DataW.weightsEach Try.prog (Try.f3.params.toList ++ Rows.oracleDoesSpec.plain.varTypes Try.prog) (ds ++ gs)).all (· ≤ reachBytes) = true := hsz0
  clear hsz0
  have hval : ∀ (j : Nat) t v, Try.f3.params[j]? = some t → args[j]? = some v → Value.okWide Try.prog W .any base t v := hval0
  have hW' := hW
  obtain ⟨p, q, hA0, hV, rfl, hfz, hnd⟩ := hW
  have hA : DataW.TrodAll enc Try.prog W 0 (fun _ => true) true Try.f3.params.toList args.toList ds p := hA0
  rw [Try.params3] at hA hval hsz
  obtain ⟨v0, vs0, d0, ds0, p0, q0, hargs, rfl, rfl, h0, r0⟩ := trodAll_cons hA
  obtain ⟨v1, vs1, d1, ds1, p1, q1, rfl, rfl, rfl, h1, r1⟩ := trodAll_cons r0
  obtain ⟨rfl, rfl, rfl⟩ := trodAll_nil r1
  obtain rfl : args = #[v0, v1] := by cases args; simp_all
  obtain ⟨rfl, rfl⟩ := trodVars_none hV
  obtain ⟨a0, rfl, rfl, rfl, w0⟩ := open_int Try.underlying2 (hval 0 2 v0 rfl rfl) h0
  obtain ⟨a1, len1, cap1, rfl⟩ := okWide_slice Try.underlying22 (hval 1 22 v1 rfl rfl)
  have k1 := h1
  have lt1 : ∀ x ∈ p1, x.block < W.heap.size := by obtain ⟨m, hm⟩ := k1; exact DataW.trod_lt m _ _ _ hm
  obtain ⟨z1, w1⟩ : ∃ l, InOo W a1 len1 cap1 l := by
    refine in_oops h1 fun n hn => ?_
    have := of_decide_eq_true (List.all_eq_true.1 hsz _ (DataW.weights_mem_each (j := 1) (t := 22) rfl rfl n hn))
    simp only [reachBytes] at this
    omega
  clear hA0 hval0
  refine (walk_oracleDoes a0 a1 len1 cap1 z1 W w0 w1).mono fun e W' ⟨he, bel⟩ => ?_
  subst he
  exact ⟨_, rfl, _, _, _, [], _, [], hW', trodAll_mk1 (shut_bool Try.underlying4 _), (trodAll_cons_mk (shut_int Try.underlying2 w0) (trodAll_cons_mk (Below.trod laidOut (by kernel_rfl) (of_decide_eq_true (by kernel_rfl)) k1 bel lt1) trodAll_mk0)), rfl, bel.frame _, fun h => by cases h⟩

/-- The statement. -/
theorem oracleDoes_holds : Rows.OracleDoesSaid :=
  OpenClaim.holds_of_wide 3 Try.f3 rfl rfl rfl rfl rfl rfl rfl ⟨rfl, rfl, rfl, rfl, rfl⟩ rfl rfl rfl rfl rfl (by kernel_rfl) Try.func3 (by kernel_rfl)
    (of_decide_eq_true (by kernel_rfl)) (by unfold Func.isWrapper; first | (rw [if_pos (by decide +kernel)]; kernel_rfl) | (rw [if_neg (by decide +kernel)]; exact ⟨rfl, rfl⟩))
    (fun os started H enc _ => lifted_oracleDoes os started H enc)
#print axioms oracleDoes_holds
end Go.Proofs.Ytdgphlghmjnjfaa
