/- Whatever a script does to an arena, each answer is the document's; then it is told as the document says, up to where it is left, and again. -/
import Derived.Test.YtfbmbjbokmomhaaArEq
import Derived.Test.YtfbmbjbokmomhaaRgT
import Derived.Test.YtfbmbjbokmomhaaArOpen
namespace Go.Proofs.Ytfbmbjbokmomhaa
open Go.ChangeShapes Go.WideShapes Go.ChangeAt Go.RowKit Go.Sort
open Go.ChangeMaps (open_string shut_string)
set_option linter.unusedVariables false
set_option maxRecDepth 100000

theorem avs_nil (P R G N H : Nat) : ∀ x ∈ avs P R G N H (.slice none 0 0), x = P ∨ x ∈ ras R G N H := by
  intro x hx
  simp only [avs, Value.ownBlock, Option.toList, List.nil_append, List.mem_cons] at hx
  exact hx

/-- Both are new. -/
theorem pw_new {w w1 w2 w3 w4 : World} {P R G N H n : Nat} (hA : AsS w.heap.size w1 w.heap.size (Ar.fresh n) []) (hb1 : Below w.heap.size w w1) (hR : IsRa w2 R G N H (Ar.fresh n) (List.replicate n ⟨#[]⟩)) (hb2 : Below w1.heap.size w1 w2) (hx : ∀ x ∈ ras R G N H, w1.heap.size ≤ x) (hb3 : Below w2.heap.size w2 w3) (hP : P = w3.heap.size) (hw4 : w4 = w3.alloc (.cells #[.pointer (some ⟨w.heap.size, 0, none⟩), .pointer (some ⟨R, 0, none⟩), .slice none 0 0] 34)) :
    Pw w w4 [] P w.heap.size R G N H (.slice none 0 0) [] (Ar.fresh n) (List.replicate n ⟨#[]⟩) 0 := by
  subst hP
  have h13 : Below w1.heap.size w1 w3 := hb2.trans (hb3.mono hb2.size)
  have h34 : Below w3.heap.size w3 w4 := by rw [hw4]; exact (Below.refl _ _).alloc (Nat.le_refl _) _
  have h14 : Below w1.heap.size w1 w4 := h13.trans (h34.mono h13.size)
  have h24 : Below w2.heap.size w2 w4 := hb3.trans (h34.mono hb3.size)
  have hk : Bk w4 w3.heap.size 34 #[.pointer (some ⟨w.heap.size, 0, none⟩), .pointer (some ⟨R, 0, none⟩), .slice none 0 0] := by rw [hw4]; exact Bk.new _ _ _
  obtain ⟨bs, ha, hm, -⟩ := hA
  have hr4 : IsRa w4 R G N H (Ar.fresh n) (List.replicate n ⟨#[]⟩) := hR.quiet (Tn.of_below h24 [])
  have hs1 := hb1.size
  have hs3 := h13.size
  have hav : ∀ x ∈ avs w3.heap.size R G N H (.slice none 0 0), w1.heap.size ≤ x ∧ x < w4.heap.size := fun x hx' => by
    rcases avs_nil _ _ _ _ _ x hx' with rfl | h
    · exact ⟨hs3, hk.lt⟩
    · exact ⟨hx x h, hr4.lt x h⟩
  exact ⟨hk, ⟨bs, ha.below h14, hm, fun g hg => by
      have := hav g hg
      exact ⟨fun hb => by have := ha.lt g hb; omega, this.2⟩⟩, hr4, Hr.nil _, hb1.trans (h14.mono hs1), fun x hx' => by have := (hav x hx').1; omega, fun x hx' => (by cases hx'), ⟨Gens.nil _, Int.le_refl _, Int.le_refl _, fun s hs => by cases hs⟩, Nat.le_refl _⟩

theorem Pw.bt {w wr : World} {P B R G N H : Nat} {lv : Value} {L : List (Int × Int)} {a : Ar} {hs : List ByteArray} {j : Nat} (h : Pw w wr [] P B R G N H lv L a hs j) : ∃ bs, Bt wr P B R G N H lv bs a hs := by
  obtain ⟨bs, ha, -, -⟩ := h.ar
  exact ⟨bs, ⟨h.pb, h.ra⟩, ha⟩

set_option maxHeartbeats 16000000 in
theorem walk_arenaDoes (sl : Int) (p : Option Addr) (len cap : Nat) (os : List Aop) (stop : Int) (w : World) (hsl : (Lit.int .i64 sl).wf = true) (hin : InA w p len cap os) (hst : (Lit.int .i64 stop).wf = true) :
    Calls Try.prog 3 #[.int .i64 sl, .slice p len cap, .int .i64 stop] w fun e w' => e = .returned (.bool true) ∧ Below w.heap.size w w' := by
  clear hsl hst
  by_cases hbad : sl < 1 ∨ 65536 < sl
  · have HB : Hid (sl < 1 ∨ 65536 < sl) := hbad
    clear hbad hin
    go_enter Try.func3, Try.ntmps3
    go_wp2_with fail
    refine (newBadS w sl HB.out).mono ?_
    rintro r w1 ⟨rfl, rfl⟩
    go_wp2_with fail
    refine (rnew_bad _ sl HB.out).mono ?_
    rintro r w2 ⟨rfl, rfl⟩
    go_wp2_with fail
    refine (begun_any _).mono ?_
    rintro r w3 ⟨rfl, hb3⟩
    have HB3 : Hid (Below w2.heap.size w2 w3) := hb3
    clear hb3
    go_wp2
    go_ret
    exact ⟨rfl, HB3.out⟩
  · obtain ⟨n, rfl⟩ : ∃ n : Nat, sl = (n : Int) := ⟨sl.toNat, by omega⟩
    have hn1 : 1 ≤ n := by omega
    have hn2 : n ≤ 65536 := by omega
    have hle := hin.le
    have hroom := hin.room
    have HI : Hid (InA w p len cap os) := hin
    clear hbad hin
    go_enter Try.func3, Try.ntmps3
    go_wp2_with fail
    refine (newSS w n hn1 hn2).mono ?_
    rintro r w1 ⟨rfl, hA1, hb1, -⟩
    have HA1 : Hid (AsS w.heap.size w1 w.heap.size (Ar.fresh n) [] ∧ Below w.heap.size w w1) := ⟨hA1, hb1⟩
    clear hA1 hb1
    go_wp2_with fail
    refine (rnew_any w1 n hn1 hn2).mono ?_
    rintro r w2 ⟨R, G, N, H, rfl, hR2, hb2, hx2⟩
    have HR2 : Hid (IsRa w2 R G N H (Ar.fresh n) (List.replicate n ⟨#[]⟩) ∧ Below w1.heap.size w1 w2 ∧ ∀ x ∈ ras R G N H, w1.heap.size ≤ x) := ⟨hR2, hb2, hx2⟩
    clear hR2 hb2 hx2
    go_wp2_with fail
    refine (begun_any _).mono ?_
    rintro r w3 ⟨rfl, hb3⟩
    obtain ⟨P, hP⟩ : ∃ P, w3.heap.size = P := ⟨_, rfl⟩
    obtain ⟨w4, hw4⟩ : ∃ w4, w3.alloc (.cells #[.pointer (some ⟨w.heap.size, 0, none⟩), .pointer (some ⟨R, 0, none⟩), .slice none 0 0] 34) = w4 := ⟨_, rfl⟩
    have H4 : Hid (Pw w w4 [] P w.heap.size R G N H (.slice none 0 0) [] (Ar.fresh n) (List.replicate n ⟨#[]⟩) 0) := pw_new HA1.out.1 HA1.out.2 HR2.out.1 HR2.out.2.1 HR2.out.2.2 hb3 hP.symm hw4.symm
    clear hb3 HA1 HR2
    go_wp2_with fail
    go_loopw [46] (fun iv wr => ∃ (j B : Nat) (lv : Value) (L : List (Int × Int)) (a : Ar) (hs : List ByteArray), j ≤ len ∧ iv = .int .i64 j ∧ Hid (Pw w wr [] P B R G N H lv L a hs j)) (fun iv _ => len - (intOf iv).toNat)
    case atStart => exact ⟨0, _, _, _, _, _, Nat.zero_le _, rfl, H4⟩
    case round =>
      obtain ⟨j, B, lv, L, a, hs, hj, rfl, HS⟩ := hrel
      clear H4
      by_cases hlt : j < len
      · have hli : (j : Int) < (len : Int) := by omega
        obtain ⟨b, off, g, rfl, hg, hok, -, e0, e1, e2, e3, e4⟩ := (HI.out.up HS.out.below).at hlt
        obtain ⟨dd, use, tx, gs, gg⟩ := g
        obtain ⟨wo, hwo⟩ : ∃ wo, wr.alloc (.cells #[.int .i64 dd, .int .i64 use, .string tx, .int .i64 gs, .int .i64 gg] 38) = wo := ⟨_, rfl⟩
        have hto : Tn [] wr wo := by rw [← hwo]; exact (Tn.refl _ _).alloc _
        have kbo : Bk wo wr.heap.size 38 #[.int .i64 dd, .int .i64 use, .string tx, .int .i64 gs, .int .i64 gg] := by rw [← hwo]; exact Bk.new _ _ _
        have HO : Hid (∀ k, Pw w (wo.drewN k) [] P B R G N H lv L a hs j) := fun k => (HS.out.quiet hto).quiet (tn_drewN _ _)
        have HU : Hid (-9223372036854775808 ≤ use ∧ use ≤ 9223372036854775807) := hok.1
        have HKB : Hid (∀ w' : World, w'.heap = wo.heap → w'.cell? ⟨wr.heap.size, 0, none⟩ = some (.int .i64 dd) ∧ w'.cell? ⟨wr.heap.size, 1, none⟩ = some (.int .i64 use) ∧ w'.cell? ⟨wr.heap.size, 2, none⟩ = some (.string tx) ∧ w'.cell? ⟨wr.heap.size, 3, none⟩ = some (.int .i64 gs) ∧ w'.cell? ⟨wr.heap.size, 4, none⟩ = some (.int .i64 gg)) := fun w' hw' => by
          have kb : Bk w' wr.heap.size 38 #[.int .i64 dd, .int .i64 use, .string tx, .int .i64 gs, .int .i64 gg] := by unfold Bk; rw [hw']; exact kbo
          exact ⟨kb.cell 0, kb.cell 1, kb.cell 2, kb.cell 3, kb.cell 4⟩
        have hjb : j ≤ 2932031007402 := by omega
        clear hg hok kbo hto HS
        go_wp2_with fail
        refine wp_region_mid (S := fun w' => w'.cell? ⟨wr.heap.size, 0, none⟩ = some (.int .i64 dd) ∧ w'.cell? ⟨wr.heap.size, 1, none⟩ = some (.int .i64 use) ∧ w'.cell? ⟨wr.heap.size, 2, none⟩ = some (.string tx) ∧ w'.cell? ⟨wr.heap.size, 3, none⟩ = some (.int .i64 gs) ∧ w'.cell? ⟨wr.heap.size, 4, none⟩ = some (.int .i64 gg)) 2 (by kernel_rfl) ?_
        have hS := HKB.out wo.drew rfl
        refine wpAnyM_take (i := 0) [2, 3, 4, 5, 6, 7, 8, 9, 10, 11, 12, 13, 14, 15, 16, 17, 18, 19, 20, 21, 22, 23, 24, 25, 26, 27, 28, 29] (oi := { dst := some 50, op := Op.move (Operand.tmp 11), type := 31, pos := _, after := #[], guard := none }) (v := ?_) rfl (by kernel_rfl) (by kernel_rfl) (by kernel_rfl) (by kernel_rfl) (fun _ _ _ h => h) (Or.inl ⟨by rfl, ?_⟩) hS ?_
        rotate_left
        · (intro w' hSw; (try dsimp only at hSw); go_simp; try with_reducible rfl)
        try simp only [Act.put, List.setIfInBounds_toArray, List.set_cons_zero, List.set_cons_succ]
        refine wpAnyM_take (i := 1) [2, 3, 4, 5, 6, 7, 8, 9, 10, 11, 12, 13, 14, 15, 16, 17, 18, 19, 20, 21, 22, 23, 24, 25, 26, 27, 28, 29] (oi := { dst := some 51, op := Op.load 38 (Operand.tmp 13), type := 38, pos := _, after := #[], guard := none }) (v := ?_) rfl (by kernel_rfl) (by kernel_rfl) (by kernel_rfl) (by kernel_rfl) (fun _ _ _ h => h) (Or.inl ⟨by rfl, ?_⟩) hS ?_
        rotate_left
        · (intro w' hSw; (try dsimp only at hSw); go_simp; try with_reducible rfl)
        try simp only [Act.put, List.setIfInBounds_toArray, List.set_cons_zero, List.set_cons_succ]
        refine wpAnyM_ready (rs := [2]) (by kernel_rfl) (by simp) ?_
        refine AllReadyM.cons (o := { dst := some 52, op := Op.call { callee := Callee.value (Operand.func 10), args := #[Operand.tmp 50, Operand.tmp 51], argTypes := #[31, 38] }, type := 4, pos := _, after := #[{ on := 0, ground := Ground.data }, { on := 1, ground := Ground.data }], guard := none }) rfl (fun K hK => ?_) AllReadyM.nil
        have HK9 : Hid (∀ a w, _ → K a w) := hK
        clear hK
        go_simp
        refine Calls.mono (step_any (HO.out 1) hjb dd use tx gs gg HU.out) ?_
        rintro r w5 ⟨B5, lv5, L5, a5, hs5, rfl, h5⟩
        have H5 : Hid (Pw w w5 [] P B5 R G N H lv5 L5 a5 hs5 (j + 1)) := h5
        obtain ⟨bs5, hbt⟩ := h5.bt
        refine HK9.out _ _ ⟨fun h => absurd h (by omega), ?_⟩
        clear HK9 K h5 hS HO HKB
        try simp only [Act.put, List.setIfInBounds_toArray, List.set_cons_zero, List.set_cons_succ]
        have d0 := cell_regrown (show w5.cell? ⟨P, 0, none⟩ = some (.pointer (some ⟨B5, 0, none⟩)) from hbt.q.pb.cell 0)
        have d1 := cell_regrown (show w5.cell? ⟨P, 1, none⟩ = some (.pointer (some ⟨R, 0, none⟩)) from hbt.q.pb.cell 1)
        have hgr : ∀ d os, Bt (grow (redrawn w5 d) os) P B5 R G N H lv5 bs5 a5 hs5 := fun d os => hbt.below (below_regrown w5 d os)
        obtain ⟨lf, hlf⟩ : ∃ lf : Nat, live a5.us = lf := ⟨_, rfl⟩
        obtain ⟨st, hst⟩ : ∃ st : Int, a5.stale = st := ⟨_, rfl⟩
        have q3 : Hid (∀ d os, Calls Try.prog 11 #[.pointer (some ⟨B5, 0, none⟩)] (grow (redrawn w5 d) os) fun e w'' => e = .returned (.int .i64 (lf : Int)) ∧ ∃ p : Regrown, w'' = grow (redrawn w5 p.d) p.os) := fun d os => Calls.regrown_of ((liveS (hgr d os).ar).mono (by rintro e w' ⟨rfl, ht⟩; exact ⟨by rw [hlf], ht.below (Nat.le_refl _) (by simp)⟩))
        have q4 : Hid (∀ d os, Calls Try.prog 12 #[.pointer (some ⟨R, 0, none⟩)] (grow (redrawn w5 d) os) fun e w'' => e = .returned (.int .i64 (lf : Int)) ∧ ∃ p : Regrown, w'' = grow (redrawn w5 p.d) p.os) := fun d os => Calls.regrown_of ((rlive_any (hgr d os).q.ra).mono (by rintro e w' ⟨rfl, rfl⟩; exact ⟨by rw [hlf], Below.refl _ _⟩))
        have q5 : Hid (∀ d os, Calls Try.prog 13 #[.pointer (some ⟨B5, 0, none⟩)] (grow (redrawn w5 d) os) fun e w'' => e = .returned (.int .i64 st) ∧ ∃ p : Regrown, w'' = grow (redrawn w5 p.d) p.os) := fun d os => Calls.regrown_of ((staleS (hgr d os).ar).mono (by rintro e w' ⟨rfl, rfl⟩; exact ⟨by rw [hst], Below.refl _ _⟩))
        have q6 : Hid (∀ d os, Calls Try.prog 14 #[.pointer (some ⟨R, 0, none⟩)] (grow (redrawn w5 d) os) fun e w'' => e = .returned (.int .i64 st) ∧ ∃ p : Regrown, w'' = grow (redrawn w5 p.d) p.os) := fun d os => Calls.regrown_of ((rstale_any (hgr d os).q.ra.c3).mono (by rintro e w' ⟨rfl, rfl⟩; exact ⟨by rw [hst], Below.refl _ _⟩))
        have e1' : ((lf : Int) == (lf : Int)) = true := by simp
        have e2' : (st == st) = true := by simp
        clear hbt hgr hlf hst e0 e1 e2 e3 e4
        refine wpAnyM_of_any _ _ _ _ (by
          intro i hi
          rcases i with _ | _ | i
          · kernel_rfl
          · kernel_rfl
          · omega) ?_
        refine wpAny_tail (C := fun w' => ∃ p : Regrown, w' = grow (redrawn w5 p.d) p.os) 3 (List.drop 3 _) (by kernel_rfl) (by kernel_rfl) (fun j => by rw [List.getElem?_drop]; exact (List.getElem?_toArray ..).symm) (by kernel_rfl) (regrown_of_below (RowKit.Below.refl _ _)) ?_
        simp only [List.drop_succ_cons, List.drop_zero]
        repeat (go_big_quiet_step (first
          | (go_at_call 11; exact q3.out _ _)
          | (go_at_call 12; exact q4.out _ _)
          | (go_at_call 13; exact q5.out _ _)
          | (go_at_call 14; exact q6.out _ _)))
        refine wpQuiet_nil ?_
        intro _ hw'
        obtain ⟨⟨dq, osq⟩, hw''⟩ := hw'
        subst hw''
        have H6 : Hid (Pw w (grow (redrawn w5 dq) osq) [] P B5 R G N H lv5 L5 a5 hs5 (j + 1)) := H5.out.quiet (Tn.of_below (below_regrown w5 dq osq) [])
        go_wp2
        go_roundw
        case rel => exact ⟨j + 1, _, _, _, _, _, by omega, by go_num, H6⟩
        case measure => simp [intOf]; omega
      · have hli : ¬ (j : Int) < (len : Int) := by omega
        obtain ⟨bs, hbt⟩ := HS.out.bt
        have heq := equal_any hbt HS.out.iv.tx stop
        have HBL : Hid (Below w.heap.size w wr) := HS.out.below
        clear hbt HS
        go_wp2_with fail
        refine heq.mono ?_
        rintro r w5 ⟨rfl, hb5⟩
        have HE : Hid (Below w.heap.size w w5) := HBL.out.trans (hb5.mono HBL.out.size)
        clear hb5 heq
        go_wp2
        go_ret
        exact ⟨rfl, HE.out⟩

set_option maxRecDepth 100000 in
set_option maxHeartbeats 2000000 in
theorem lifted_arenaDoes (os : Os) (started : os.Started) (H : Type) (enc : TypeId × Value → H) :
    ReturnsInHanded {} Try.checked os 3 .any (Rows.arenaDoesSpec.pre6 enc Try.prog Try.f3 Rows.arenaDoesRow.domain false) (Rows.arenaDoesSpec.post enc Try.prog Try.f3 false true false false) := by
  refine returnsInHanded_of_change_sized (C := Try.checked) own started (by kernel_rfl) Try.func3
    (ChangeSpec.witness6 (enc := enc) (C := Try.checked) false ⟨#[], #[.int .i64 0, .slice none 0 0, .int .i64 0], []⟩ 8 (by kernel_rfl) (by kernel_rfl) (by kernel_rfl) (by kernel_rfl)) ?_
  intro W base args ds gs before hval0 hW _ hsz0 _
  have hsz : (DataW.weightsEach Try.prog (Try.f3.params.toList ++ Rows.arenaDoesSpec.plain.varTypes Try.prog) (ds ++ gs)).all (· ≤ reachBytes) = true := hsz0
  clear hsz0
  have hval : ∀ (j : Nat) t v, Try.f3.params[j]? = some t → args[j]? = some v → Value.okWide Try.prog W .any base t v := hval0
  have hW' := hW
  obtain ⟨p, q, hA0, hV, rfl, hfz, hnd⟩ := hW
  have hA : DataW.TrodAll enc Try.prog W 0 (fun _ => true) true Try.f3.params.toList args.toList ds p := hA0
  rw [Try.params3] at hA hval hsz
  obtain ⟨v0, vs0, d0, ds0, p0, q0, hargs, rfl, rfl, h0, r0⟩ := trodAll_cons hA
  obtain ⟨v1, vs1, d1, ds1, p1, q1, rfl, rfl, rfl, h1, r1⟩ := trodAll_cons r0
  obtain ⟨v2, vs2, d2, ds2, p2, q2, rfl, rfl, rfl, h2, r2⟩ := trodAll_cons r1
  obtain ⟨rfl, rfl, rfl⟩ := trodAll_nil r2
  obtain rfl : args = #[v0, v1, v2] := by cases args; simp_all
  obtain ⟨rfl, rfl⟩ := trodVars_none hV
  obtain ⟨a0, rfl, rfl, rfl, w0⟩ := open_int Try.underlying3 (hval 0 3 v0 rfl rfl) h0
  obtain ⟨a1, len1, cap1, rfl⟩ := okWide_slice Try.underlying22 (hval 1 22 v1 rfl rfl)
  have k1 := h1
  have lt1 : ∀ x ∈ p1, x.block < W.heap.size := by obtain ⟨m, hm⟩ := k1; exact DataW.trod_lt m _ _ _ hm
  obtain ⟨z1, w1⟩ : ∃ l, InA W a1 len1 cap1 l := by
    refine in_aops h1 fun n hn => ?_
    have := of_decide_eq_true (List.all_eq_true.1 hsz _ (DataW.weights_mem_each (j := 1) (t := 22) rfl rfl n hn))
    simp only [reachBytes] at this
    omega
  obtain ⟨a2, rfl, rfl, rfl, w2⟩ := open_int Try.underlying3 (hval 2 3 v2 rfl rfl) h2
  clear hA0 hval0
  refine (walk_arenaDoes a0 a1 len1 cap1 z1 a2 W w0 w1 w2).mono fun e W' ⟨he, bel⟩ => ?_
  subst he
  exact ⟨_, rfl, _, _, _, [], _, [], hW', trodAll_mk1 (shut_bool Try.underlying4 _), (trodAll_cons_mk (shut_int Try.underlying3 w0) (trodAll_cons_mk (Below.trod laidOut (by kernel_rfl) (of_decide_eq_true (by kernel_rfl)) k1 bel lt1) (trodAll_cons_mk (shut_int Try.underlying3 w2) trodAll_mk0))), rfl, bel.frame _, fun h => by cases h⟩

/-- The statement. -/
theorem arenaDoes_holds : Rows.ArenaDoesSaid :=
  OpenClaim.holds_of_wide 3 Try.f3 rfl rfl rfl rfl rfl rfl rfl ⟨rfl, rfl, rfl, rfl, rfl⟩ rfl rfl rfl rfl rfl (by kernel_rfl) Try.func3 (by kernel_rfl)
    (of_decide_eq_true (by kernel_rfl)) (by unfold Func.isWrapper; first | (rw [if_pos (by decide +kernel)]; kernel_rfl) | (rw [if_neg (by decide +kernel)]; exact ⟨rfl, rfl⟩))
    (fun os started H enc _ => lifted_arenaDoes os started H enc)
#print axioms arenaDoes_holds
end Go.Proofs.Ytfbmbjbokmomhaa
