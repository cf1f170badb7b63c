/- Each answer of a table is the document's, whatever a script does. -/
import Derived.Test.YtnjafmjkaajbkaaDoorTbEl
import Derived.Test.YtnjafmjkaajbkaaDoorTbSt
import Derived.Test.YtnjafmjkaajbkaaDoorTbBg
import Derived.Test.YtnjafmjkaajbkaaDoorTbOpen
namespace Go.Proofs.YtnjafmjkaajbkaaDoor
open Go.ChangeShapes Go.WideShapes Go.ChangeAt Go.RowKit
open Go.ChangeMaps (open_string shut_string)
set_option linter.unusedVariables false
set_option maxRecDepth 100000

/-- Both, between the rounds. -/
structure PrU (w W : World) (B : Nat) (bs : List Nat) (t : Tb) (R g1 g2 n : Nat) (r : Rt) : Prop where
  pr : Pr W B bs t R g1 g2 n r
  below : Below w.heap.size w W
  low : ∀ b ∈ bs ++ [R, g1, g2], w.heap.size ≤ b

theorem PrU.still {w W W' : World} {B : Nat} {bs : List Nat} {t : Tb} {R g1 g2 n : Nat} {r : Rt} (h : PrU w W B bs t R g1 g2 n r) (hb : Below W.heap.size W W') : PrU w W' B bs t R g1 g2 n r :=
  ⟨h.pr.below hb, h.below.trans (hb.mono h.below.size), h.low⟩

theorem PrU.on {w W W' : World} {B B' : Nat} {bs : List Nat} {t : Tb} {R g1 g2 n : Nat} {r : Rt} (h : PrU w W B bs t R g1 g2 n r) (k : Prt W W' B' bs R g1 g2 n) : ∃ bs' t' r', PrU w W' B' bs' t' R g1 g2 n r' := by
  obtain ⟨bs', t', r', k1, k2, k3⟩ := k
  refine ⟨bs', t', r', k1, h.below.trans (k2.below h.below.size h.low), fun b hb => ?_⟩
  rcases List.mem_append.1 hb with hb | hb
  · rcases k3 b hb with h1 | h1
    · exact h.low b (List.mem_append.2 (.inl h1))
    · exact Nat.le_trans h.below.size h1
  · exact h.low b (List.mem_append.2 (.inr hb))

theorem rel_new (n : Nat) : Rel ⟨n, [], [], 0⟩ ⟨List.replicate n 0, List.replicate n (0, 0), 0⟩ n where
  size := rfl
  miss := rfl
  st := fun q => by
    have e1 : (Tb.pg ⟨n, [], [], 0⟩ q) = Pa.free := by
      unfold Tb.pg
      by_cases h : q < 0
      · exact pgAt_neg h
      · obtain ⟨k, rfl⟩ : ∃ k : Nat, q = (k : Int) := ⟨q.toNat, by omega⟩
        rw [pgAt_nat]
        simp
    rw [e1]
    unfold Rt.s
    split
    · rfl
    · simp only [List.getD, List.getElem?_replicate]
      split <;> rfl
  hd := fun q c x m h => by
    have e1 : (Tb.pg ⟨n, [], [], 0⟩ q) = Pa.free := by
      unfold Tb.pg
      by_cases h : q < 0
      · exact pgAt_neg h
      · obtain ⟨k, rfl⟩ : ∃ k : Nat, q = (k : Int) := ⟨q.toNat, by omega⟩
        rw [pgAt_nat]
        simp
    rw [e1] at h
    cases h

set_option maxHeartbeats 8000000 in
theorem walk_tableDoes (a0 : Int) (p : Option Addr) (len cap : Nat) (l : List Top) (stop : Int) (w : World) (h0 : (Lit.int IntKind.i64 a0).wf = true) (hin : InO w p len cap l) (hst : (Lit.int IntKind.i64 stop).wf = true) (hT : Tab w) :
    Calls Tryd.prog 3 #[.int .i64 a0, .slice p len cap, .int .i64 stop] w fun e w' => e = .returned (.bool true) ∧ Below w.heap.size w w' := by
  have HI : Hid (InO w p len cap l) := hin
  have HTB : Hid (Tab w) := hT
  have hlen : len ≤ 2932031007401 := Nat.le_trans hin.le hin.room
  clear hin hst h0 hT
  by_cases hbad : a0 < 1 ∨ 65536 < a0
  · go_enter Tryd.func3, Tryd.ntmps3
    go_wp2_with fail
    refine (new_bad a0 hbad w).mono ?_
    rintro e w ⟨rfl, rfl⟩
    go_wp2_with fail
    refine (rNew_bad a0 hbad w).mono ?_
    rintro e w ⟨rfl, rfl⟩
    go_wp2_with fail
    refine (begun_any _).mono ?_
    rintro e w3 ⟨rfl, hb3⟩
    go_wp2
    go_ret
    exact ⟨rfl, hb3⟩
  · obtain ⟨n, rfl⟩ : ∃ n : Nat, a0 = (n : Int) := ⟨a0.toNat, by omega⟩
    have hn1 : 1 ≤ n := by omega
    have hn2 : n ≤ 65536 := by omega
    clear hbad
    go_enter Tryd.func3, Tryd.ntmps3
    go_wp2_with fail
    refine (tNew n hn1 hn2 w).mono ?_
    rintro e w1 ⟨rfl, hE1, hb1⟩
    have HE1 : Hid (Tbn w1 w.heap.size [w.heap.size] ⟨n, [], [], 0⟩ ∧ Below w.heap.size w w1) := ⟨hE1, hb1⟩
    clear hE1 hb1
    go_wp2_with fail
    refine (rNew n hn1 hn2 w1).mono ?_
    rintro e w2 ⟨R, g1, g2, rfl, hR, l1, l2, l3, hb2⟩
    have HR : Hid (IsR w2 R g1 g2 n ⟨List.replicate n 0, List.replicate n (0, 0), 0⟩ ∧ w1.heap.size ≤ R ∧ w1.heap.size ≤ g1 ∧ w1.heap.size ≤ g2 ∧ Below w1.heap.size w1 w2) := ⟨hR, l1, l2, l3, hb2⟩
    clear hR l1 l2 l3 hb2
    go_wp2_with fail
    refine (begun_any _).mono ?_
    rintro e w3 ⟨rfl, hb3⟩
    have HP0 : Hid (PrU w w3 w.heap.size [w.heap.size] ⟨n, [], [], 0⟩ R g1 g2 n ⟨List.replicate n 0, List.replicate n (0, 0), 0⟩) := by
      obtain ⟨hE1, hb1⟩ := HE1.out
      obtain ⟨hR, l1, l2, l3, hb2⟩ := HR.out
      have hs1 := hb1.size
      have hs2 := hb2.size
      have hpos := HTB.out.lt
      have hb := hb2.trans (hb3.mono hs2)
      refine ⟨⟨hE1.below hb, hR.below hb3, rel_new n, HTB.out.below (hb1.trans (hb.mono hs1)), fun b hm => ?_⟩, hb1.trans (hb.mono hs1), fun b hm => ?_⟩
      · simp at hm
        omega
      · simp at hm
        omega
    clear hb3 HE1 HR
    go_wp2_with fail
    go_loopw [7, 42] (fun tv iv wr => ∃ (j B : Nat) (bs : List Nat) (t : Tb) (r : Rt), j ≤ len ∧ iv = .int .i64 j ∧ tv = .pointer (some ⟨B, 0, none⟩) ∧ Hid (PrU w wr B bs t R g1 g2 n r)) (fun _ iv _ => len - (intOf iv).toNat)
    case atStart => exact ⟨0, _, _, _, _, Nat.zero_le _, rfl, rfl, HP0⟩
    case round =>
      obtain ⟨j, B, bs, t, r, hj, rfl, rfl, HP⟩ := hrel
      by_cases hlt : j < len
      · have hli : (j : Int) < (len : Int) := by omega
        obtain ⟨b, o, g, rfl, -, -, c0, c1, c2, c3, c4, c5⟩ := InO.at6 (HI.out.up HP.out.below) hlt
        obtain ⟨dd, page, ⟨wa, wb⟩, ⟨ia, ib⟩⟩ := g
        obtain ⟨wo, hwo, hPo, hbo, hko⟩ := HP.out.pr.box dd page wa wb ia ib
        have HPO : Hid (Pr wo B bs t R g1 g2 n r) := hPo
        have HPU : Hid (PrU w wo B bs t R g1 g2 n r) := HP.out.still hbo
        have d0 : wo.cell? ⟨wr.heap.size, 0, none⟩ = some (.int .i64 dd) := hko.cell 0
        have d1 : wo.cell? ⟨wr.heap.size, 1, none⟩ = some (.int .i64 page) := hko.cell 1
        have d2 : wo.cell? ⟨wr.heap.size, 2, none⟩ = some (.int .i64 wa) := hko.cell 2
        have d3 : wo.cell? ⟨wr.heap.size, 3, none⟩ = some (.int .i64 wb) := hko.cell 3
        have d4 : wo.cell? ⟨wr.heap.size, 4, none⟩ = some (.int .i64 ia) := hko.cell 4
        have d5 : wo.cell? ⟨wr.heap.size, 5, none⟩ = some (.int .i64 ib) := hko.cell 5
        clear hPo hbo hko
        simp only at c0 c1 c2 c3 c4 c5
        go_wp2_with fail
        refine (step_any HPO.out dd page wa wb ia ib).mono ?_
        rintro e w4 ⟨C, rfl, hP4⟩
        obtain ⟨bs4, t4, r4, hU4⟩ := HPU.out.on hP4
        have HU4 : Hid (PrU w w4 C bs4 t4 R g1 g2 n r4) := hU4
        clear hP4 hU4
        go_wp2_with fail
        refine (tMissed HU4.out.pr.tb).mono ?_
        rintro e w4 ⟨rfl, rfl⟩
        go_wp2_with fail
        refine (rMissed HU4.out.pr.rf).mono ?_
        rintro e w4 ⟨rfl, rfl⟩
        have hm : r4.missed = t4.missed := HU4.out.pr.rel.miss
        rw [hm]
        clear hm
        obtain ⟨ms, hms⟩ : ∃ ms, t4.missed = ms := ⟨_, rfl⟩
        rw [hms]
        have hmm : (ms != ms) = false := by simp
        clear hms
        go_wp2
        go_roundw
        case rel => exact ⟨j + 1, C, bs4, t4, r4, by omega, by go_num, rfl, HU4⟩
        case measure => simp [intOf]; omega
      · have hli : ¬ (j : Int) < (len : Int) := by omega
        go_wp2_with fail
        refine (equal_any HP.out.pr stop).mono ?_
        rintro e w5 ⟨rfl, hb5⟩
        have HF : Hid (Below w.heap.size w w5) := HP.out.below.trans (hb5.mono HP.out.below.size)
        clear hb5
        go_wp2
        go_ret
        exact ⟨rfl, HF.out⟩

theorem laid_met_tableDoes (os : Os) : laidMet Tryd.prog Rows.tableDoesRow.laid (({ World.holding Tryd.prog os ⟨#[], #[], []⟩ with heap := (World.holding Tryd.prog os ⟨#[], #[], []⟩).heap.modify 0 fun | .cells _ t frozen => .cells (tabInts.map (Value.int .u8)).toArray t frozen | o => o } : World).forCall (fun _ _ => 0) ⟨#[], #[.int .i64 0, .slice none 0 0, .int .i64 0], []⟩).memory :=
  laidMet_of_run' 8 (by kernel_rfl) (by kernel_rfl)
theorem reads_tableDoes (os : Os) {H : Type} (enc : TypeId × Value → H) : ∃ places, DataW.whole enc Tryd.prog (({ World.holding Tryd.prog os ⟨#[], #[], []⟩ with heap := (World.holding Tryd.prog os ⟨#[], #[], []⟩).heap.modify 0 fun | .cells _ t frozen => .cells (tabInts.map (Value.int .u8)).toArray t frozen | o => o } : World).forCall (fun _ _ => 0) ⟨#[], #[.int .i64 0, .slice none 0 0, .int .i64 0], []⟩).memory Tryd.f3.params.toList Rows.tableDoesSpec.vars false (#[.int .i64 0, .slice none 0 0, .int .i64 0] : Array Value).toList 8 = some ([.lit (.int .i64 0), .nil, .lit (.int .i64 0)], [], places) :=
  ⟨[], by kernel_rfl⟩

set_option maxRecDepth 100000 in
set_option maxHeartbeats 2000000 in
theorem lifted_tableDoes (os : Os) (started : os.Started) (H : Type) (enc : TypeId × Value → H) (F : Stop.Interp) :
    ReturnsInHanded {} Tryd.checked os 3 .any ((OpenSpec.ofChange Rows.tableDoesSpec).preRow enc Tryd.prog Tryd.f3 Rows.tableDoesRow.domain false Rows.tableDoesRow.laid) (((OpenSpec.ofChange Rows.tableDoesSpec).at F).post enc Tryd.prog Tryd.f3 false true false false) := by
  obtain ⟨places, hx⟩ := reads_tableDoes os enc
  refine returnsInHanded_of_row (C := Tryd.checked) (s := OpenSpec.ofChange Rows.tableDoesSpec) own started (by kernel_rfl) Tryd.func3
    (witness_row_at (enc := enc) (C := Tryd.checked) false ({ World.holding Tryd.prog os ⟨#[], #[], []⟩ with heap := (World.holding Tryd.prog os ⟨#[], #[], []⟩).heap.modify 0 fun | .cells _ t frozen => .cells (tabInts.map (Value.int .u8)).toArray t frozen | o => o } : World) #[.int .i64 0, .slice none 0 0, .int .i64 0] rfl (by kernel_rfl) (by kernel_rfl) (by kernel_rfl)
      (OpenSpec.preRow_of_cond 8 hx (by kernel_rfl) (fun k hk => by cases hk) (by kernel_rfl) (laid_met_tableDoes os))) ?_
  intro W base args ds gs before hval0 hW0 _ _ hsz0 hL _ _
  have hW : DataW.Whole enc Tryd.prog Tryd.f3.params.toList Rows.tableDoesSpec.vars false W args.toList ds gs before := hW0
  clear hW0
  have hsz : (DataW.weightsEach Tryd.prog (Tryd.f3.params.toList ++ Rows.tableDoesSpec.plain.varTypes Tryd.prog) (ds ++ gs)).all (· ≤ reachBytes) = true := hsz0
  clear hsz0
  show Calls Tryd.prog 3 args W fun e W' => ∃ v, e = .returned v ∧ Rows.tableDoesSpec.post enc Tryd.prog Tryd.f3 false true false false W args v W'
  have hval : ∀ (j : Nat) t v, Tryd.f3.params[j]? = some t → args[j]? = some v → Value.okWide Tryd.prog W .any base t v := hval0
  have hW' := hW
  obtain ⟨p, q, hA0, hV, rfl, hfz, hnd⟩ := hW
  have hA : DataW.TrodAll enc Tryd.prog W 0 (fun _ => true) true Tryd.f3.params.toList args.toList ds p := hA0
  rw [Tryd.params3] at hA hval hsz
  obtain ⟨v0, vs0, d0, ds0, p0, q0, hargs, rfl, rfl, h0, r0⟩ := trodAll_cons hA
  obtain ⟨v1, vs1, d1, ds1, p1, q1, rfl, rfl, rfl, h1, r1⟩ := trodAll_cons r0
  obtain ⟨v2, vs2, d2, ds2, p2, q2, rfl, rfl, rfl, h2, r2⟩ := trodAll_cons r1
  obtain ⟨rfl, rfl, rfl⟩ := trodAll_nil r2
  obtain rfl : args = #[v0, v1, v2] := by cases args; simp_all
  obtain ⟨rfl, rfl⟩ := trodVars_none hV
  obtain ⟨a0, rfl, rfl, rfl, w0⟩ := open_int Tryd.underlying3 (hval 0 3 v0 rfl rfl) h0
  obtain ⟨a1, len1, cap1, rfl⟩ := okWide_slice Tryd.underlying22 (hval 1 22 v1 rfl rfl)
  have k1 := h1
  have lt1 : ∀ x ∈ p1, x.block < W.heap.size := by obtain ⟨m, hm⟩ := k1; exact DataW.trod_lt m _ _ _ hm
  obtain ⟨z1, w1⟩ : ∃ l, InO W a1 len1 cap1 l := by
    refine in_tops h1 fun n hn => ?_
    have := of_decide_eq_true (List.all_eq_true.1 hsz _ (DataW.weights_mem_each (j := 1) (t := 22) rfl rfl n hn))
    simp only [reachBytes] at this
    omega
  obtain ⟨a2, rfl, rfl, rfl, w2⟩ := open_int Tryd.underlying3 (hval 2 3 v2 rfl rfl) h2
  clear hA0 hval0
  refine (walk_tableDoes a0 a1 len1 cap1 z1 a2 W w0 w1 w2 (tab_of hL)).mono fun e W' ⟨he, bel⟩ => ?_
  subst he
  exact ⟨_, rfl, _, _, _, [], _, [], hW', trodAll_mk1 (shut_bool Tryd.underlying4 _), (trodAll_cons_mk (shut_int Tryd.underlying3 w0) (trodAll_cons_mk (Below.trod laidOut (by kernel_rfl) (of_decide_eq_true (by kernel_rfl)) k1 bel lt1) (trodAll_cons_mk (shut_int Tryd.underlying3 w2) trodAll_mk0))), rfl, bel.frame _, fun h => by cases h⟩

theorem tableDoes_row : Rows.TableDoesSaid :=
  OpenClaim.holds_of_cond 3 Tryd.f3 rfl rfl rfl rfl rfl rfl rfl ⟨rfl, rfl, rfl, rfl, rfl⟩ rfl rfl rfl rfl rfl (by kernel_rfl) Tryd.func3 (by kernel_rfl)
    (of_decide_eq_true (by kernel_rfl)) (by unfold Func.isWrapper; first | (rw [if_pos (by decide +kernel)]; kernel_rfl) | (rw [if_neg (by decide +kernel)]; exact ⟨rfl, rfl⟩))
    (fun os started H enc _ F => by rw [OpenClaim.pre_eq_preRow]; exact lifted_tableDoes os started H enc F)

/-- No parameter wants a stand-in; the program's own looks are off. -/
theorem tableDoes_plain (f : FuncId) (fn : Func) (hf : Tryd.pinned.checked.prog.funcNamed "cresset/cressetlaw10.TableDoes" = some f) (hfn : Tryd.pinned.checked.prog.funcs[f]? = some fn) :
    false = Tryd.pinned.checked.prog.looks [] ∧ ∀ (j : Nat) t, fn.params[j]? = some t → Tryd.pinned.checked.prog.wantsStandIn t = false := by
  obtain rfl : f = 3 := Option.some.inj ((show Tryd.prog.funcNamed "cresset/cressetlaw10.TableDoes" = some 3 by kernel_rfl).symm.trans hf) |>.symm
  obtain rfl : fn = Tryd.f3 := (Option.some.inj (Tryd.func3.symm.trans hfn)).symm
  refine ⟨by kernel_rfl, fun j t ht => ?_⟩
  rw [Tryd.params3] at ht
  have hm : t = 3 ∨ t = 22 ∨ t = 3 := by simpa using Array.mem_of_getElem? ht
  rcases hm with rfl | rfl | rfl
  all_goals first | exact (show Tryd.prog.wantsStandIn 3 = false by kernel_rfl) | exact (show Tryd.prog.wantsStandIn 22 = false by kernel_rfl)

/-- The statement. -/
theorem tableDoes_holds : Rows.TableDoesCardSaid :=
  Claim7.holds_tied_plain_at .later [] _ _ _ _ tableDoes_row (fun _ h => by cases h) (by kernel_rfl) (fun _ h => by cases h) tableDoes_row_tie rfl ⟨rfl, rfl⟩ (by kernel_rfl) rfl tableDoes_plain (by kernel_rfl)
#print axioms tableDoes_holds
end Go.Proofs.YtnjafmjkaajbkaaDoor
