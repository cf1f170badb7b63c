/- The map up to a timestamp, with the next commit's writes upon it, is the map up to that one (for inputs of small bulk). -/
import Derived.Test.YtilabcolfabnmaaVsFo
import Derived.Test.YtilabcolfabnmaaVsL
import Derived.Test.YtilabcolfabnmaaPrW
import Derived.Test.YtilabcolfabnmaaPrX
namespace Go.Proofs.Ytilabcolfabnmaa
open Go.ChangeShapes Go.WideShapes Go.ChangeAt Go.RowKit Go.Sort
open Go.ChangeMaps (open_string shut_string)
set_option linter.unusedVariables false
set_option maxRecDepth 100000

/-- The rising ones that were gathered. -/
structure Rsn (l R : List Cm) (at' : Int) : Prop where
  sub : ∀ x ∈ R, x ∈ l
  rise : R.Pairwise fun x y => x.ts < y.ts
  top : ∀ x ∈ R, x.ts ≤ at'

theorem Rsn.app {l R : List Cm} {a : Int} (h : Rsn l R a) {x : Cm} (hx : x ∈ l) (ha : a < x.ts) : Rsn l (R ++ [x]) x.ts := by
  refine ⟨fun y hy => ?_, List.pairwise_append.2 ⟨h.rise, List.pairwise_singleton _ _, fun y hy z hz => ?_⟩, fun y hy => ?_⟩
  · rcases List.mem_append.1 hy with hy | hy
    · exact h.sub y hy
    · simp at hy; subst hy; exact hx
  · simp at hz
    subst hz
    exact Int.lt_of_le_of_lt (h.top y hy) ha
  · rcases List.mem_append.1 hy with hy | hy
    · have := h.top y hy; omega
    · simp at hy; subst hy; exact Int.le_refl _

set_option maxHeartbeats 8000000 in
theorem walk_versionFolds (p : Option Addr) (n c : Nat) (l : List Cm) (w : World) (hin : InR Cm.cells 2 (Cm.fit w) w p n c l) :
    Calls Try.prog 4 #[.slice p n c] w fun e w' => e = .returned (.bool true) ∧ Below w.heap.size w w' := by
  obtain ⟨f, hf⟩ := wsOf_ex hin.ok
  have HX : Hid (∀ W, Below w.heap.size w W → Els Cm.cells 2 W p l) := fun W hW => Els.below hin.els hW (Nat.le_refl _)
  have HN : Hid (l.length = n) := hin.lenq
  have HF : Hid (∀ x ∈ l, ∀ W, Below w.heap.size w W → CwOk f W x) := fun x hx W hW => (CwOk.of (hf x hx)).below hW
  have HS : Hid (∀ x ∈ l, x.n ≤ 1048576 ∧ ∀ y ∈ f x, y.key.size ≤ 1048576) := fun x hx => ⟨Nat.le_trans (hf x hx).le (hf x hx).room, fun y hy => ((hf x hx).ok y hy).1⟩
  have hnb : n ≤ 1048576 := Nat.le_trans hin.le hin.room
  clear hin hf
  by_cases hn200 : 200 < n
  · have hni : (200 : Int) < (n : Int) := by omega
    go_enter Try.func4, Try.ntmps4
    go_wp2_with fail
    refine (live_any _).mono ?_
    rintro e w1 ⟨rfl, b1⟩
    have HB1 : Hid (Below w.heap.size w w1) := b1
    clear b1
    go_wp2
    go_ret
    exact ⟨rfl, HB1.out⟩
  · have hni : ¬ (200 : Int) < (n : Int) := by omega
    have hn2 : n ≤ 200 := by omega
    go_enter Try.func4, Try.ntmps4
    go_wp2_with fail
    refine (live_any _).mono ?_
    rintro e w1 ⟨rfl, b1⟩
    have HB1 : Hid (Below w.heap.size w w1) := b1
    clear b1
    go_wp2_with fail
    go_loopw [3, 4, 20] (fun v a i wr => ∃ (j : Nat) (R : List Cm) (at' : Int), j ≤ n ∧ i = .int .i64 j ∧ a = .int .i64 at' ∧ R.length ≤ j ∧ Hid (Rsn l R at') ∧ Hid (Own Cm.cells 2 42 wr w1.heap.size v R) ∧ Hid (Below w1.heap.size w1 wr)) (fun _ _ i _ => n - (intOf i).toNat)
    case atStart => exact ⟨0, [], 0, Nat.zero_le _, rfl, rfl, Nat.le_refl _, ⟨by simp, List.Pairwise.nil, by simp⟩, Own.nil _ _ _, Below.refl _ _⟩
    case round =>
      obtain ⟨j, R, at', hj, rfl, rfl, hrl, HR, HO, HW⟩ := hrel
      by_cases hlt : j < n
      · have hli : (j : Int) < (n : Int) := by omega
        obtain ⟨b, o, x, rfl, hx, hcs⟩ := Els.at (HX.out _ (HB1.out.trans (HW.out.mono HB1.out.size))) (j := j) (by have := HN.out; omega)
        have c0 := hcs 0 _ rfl
        have c1 := hcs 1 _ rfl
        rw [Nat.add_zero] at c0
        have HXL : Hid (x ∈ l) := List.mem_of_getElem? hx
        obtain ⟨x1, x2, x3, x4⟩ := x
        obtain ⟨wa, hwa⟩ : ∃ wa, wr.alloc (.cells #[.int .i64 x1, .slice x2 x3 x4] 42) = wa := ⟨_, rfl⟩
        have hba : Below wr.heap.size wr wa := by rw [← hwa]; exact (Below.refl _ _).alloc (Nat.le_refl _) _
        have ka : Bk wa wr.heap.size 42 #[.int .i64 x1, .slice x2 x3 x4] := by rw [← hwa]; exact Bk.new _ _ _
        have d0 : wa.cell? ⟨wr.heap.size, 0, none⟩ = some (.int .i64 x1) := ka.cell 0
        have d1 : wa.cell? ⟨wr.heap.size, 1, none⟩ = some (.slice x2 x3 x4) := ka.cell 1
        have HWA : Hid (Below w1.heap.size w1 wa) := HW.out.trans (hba.mono HW.out.size)
        have HOA : Hid (Own Cm.cells 2 42 wa w1.heap.size u3 R ∧ w1.heap.size ≤ wa.heap.size) := ⟨HO.out.below hba (Nat.le_refl _), HWA.out.size⟩
        have HKA : Hid (Bk wa wr.heap.size 42 #[.int .i64 x1, .slice x2 x3 x4]) := ka
        clear hx hcs ka hba
        by_cases hgt : at' < x1
        · have HR2 : Hid (Rsn l (R ++ [⟨x1, x2, x3, x4⟩]) x1) := HR.out.app HXL.out hgt
          go_wp2_with (at_builtin; refine app1L cmknd Try.underlying24 cminfo rfl wa rfl _ _ rfl w1.heap.size u3 R rfl ⟨x1, x2, x3, x4⟩ _ rfl rfl _ rfl HOA.out.1 (by unfold maxLen; omega) (by omega) HOA.out.2 ?_; intro v4 w4 h1 h2 h3; refine Hid.out ?_)
          unfold Hid
          have hal : Below wa.heap.size wa (wa.alloc (.cells #[.int .i64 x1, .slice x2 x3 x4] 42)) := (Below.refl _ _).alloc (Nat.le_refl _) _
          have e0 : w4.cell? ⟨wr.heap.size, 0, none⟩ = some (.int .i64 x1) := by
            have k1 := HKA.out.below hal HKA.out.lt
            have ht := grown_tn h2
            have h5 : wr.heap.size ∉ u3.ownBlock.toList := fun hm => by
              have := (HO.out.blk (opt_toList.1 hm)).2
              omega
            exact (k1.tn ht h5).cell 0
          have HO4 : Hid (Own Cm.cells 2 42 w4 w1.heap.size v4 (R ++ [⟨x1, x2, x3, x4⟩])) := h1
          have HW4 : Hid (Below w1.heap.size w1 w4) := (HWA.out.trans (hal.mono HOA.out.2)).grown h2 (by have := HOA.out.2; simp; omega) (fun g hg => (Own.blk HOA.out.1 hg).1)
          clear h1 h2 h3 hal d0 d1
          go_wp2
          go_roundw
          case rel => exact ⟨j + 1, _, _, by omega, by go_num, rfl, by simp; omega, HR2, HO4, HW4⟩
          case measure => simp [intOf]; omega
        · have HO4 : Hid (Own Cm.cells 2 42 wa w1.heap.size u3 R) := HOA.out.1
          go_wp2
          go_roundw
          case rel => exact ⟨j + 1, _, _, by omega, by go_num, rfl, by omega, HR, HO4, HWA⟩
          case measure => simp [intOf]; omega
      · obtain rfl : j = n := by omega
        have hli : ¬ ((j : Int) < (j : Int)) := by omega
        obtain ⟨pr, cr, hu3, hels, hnil, -⟩ := HO.out.els cmknd
        obtain ⟨nr, hnr⟩ : ∃ nr, R.length = nr := ⟨_, rfl⟩
        rw [hnr] at hu3
        subst hu3
        have HRN : Hid (R.length = nr ∧ (pr = none → nr = 0 ∧ cr = 0)) := ⟨hnr, fun h => by have := hnil h; omega⟩
        have HRX : Hid (∀ W, Below wr.heap.size wr W → Els Cm.cells 2 W pr R ∧ Below w.heap.size w W) := fun W hW => ⟨Els.below hels hW (Nat.le_refl _), (HB1.out.trans (HW.out.mono HB1.out.size)).trans (hW.mono (HB1.out.trans (HW.out.mono HB1.out.size)).size)⟩
        have hnr2 : nr ≤ 200 := by omega
        have HRF : Hid (Rsn l R at') := HR
        obtain ⟨w2, hw2⟩ : ∃ w2, w2 = wr := ⟨_, rfl⟩
        rw [← hw2] at HRX
        have H2R : Hid (Below w2.heap.size w2 wr) := by rw [hw2]; exact Below.refl _ _
        clear hels hnil hnr HO HW HR
        go_wp2_with fail
        go_loopw [7, 37] (fun v i wr => ∃ (k : Nat) (m : List Pr) (pm : Option Addr) (nm cm : Nat), k ≤ nr ∧ i = .int .i64 k ∧ v = .slice pm nm cm ∧ nm ≤ k * 1048576 ∧ Hid (m.length = nm ∧ Prs wr pm m ∧ (Fm.commits f (fun _ => none) (R.take k)).Is m) ∧ Hid (Below w2.heap.size w2 wr)) (fun _ i _ => nr - (intOf i).toNat)
        case atStart => exact ⟨0, [], none, 0, 0, Nat.zero_le _, rfl, rfl, Nat.zero_le _, ⟨rfl, Els.nil _ _, Fm.is_none⟩, H2R⟩
        case round =>
          obtain ⟨k, m, pm, nm, cm, hk, rfl, rfl, hnm, HM, HWR⟩ := hrel
          by_cases hlt : k < nr
          · have hli2 : (k : Int) < (nr : Int) := by omega
            obtain ⟨b, o, x, rfl, hx, hcs⟩ := Els.at (HRX.out _ HWR.out).1 (j := k) (by have := HRN.out.1; omega)
            have c0 := hcs 0 _ rfl
            have c1 := hcs 1 _ rfl
            rw [Nat.add_zero] at c0
            have hxl := HRF.out.sub x (List.mem_of_getElem? hx)
            have HXL : Hid (x ∈ l) := hxl
            have HKP : Hid (keepC x.ts R = R.take (k + 1)) := keepC_rise HRF.out.rise hx
            have HCT : Hid (Fm.commits f (fun _ => none) (R.take (k + 1)) = (Fm.commits f (fun _ => none) (R.take k)).writes (f x)) := Fm.commits_take hx
            have hxn0 := (HS.out x hxl).1
            obtain ⟨x1, x2, x3, x4⟩ := x
            have hxn : x3 ≤ 1048576 := hxn0
            obtain ⟨wa, hwa⟩ : ∃ wa, wr.alloc (.cells #[.int .i64 x1, .slice x2 x3 x4] 42) = wa := ⟨_, rfl⟩
            have hba : Below wr.heap.size wr wa := by rw [← hwa]; exact (Below.refl _ _).alloc (Nat.le_refl _) _
            have ka : Bk wa wr.heap.size 42 #[.int .i64 x1, .slice x2 x3 x4] := by rw [← hwa]; exact Bk.new _ _ _
            have d0 : wa.cell? ⟨wr.heap.size, 0, none⟩ = some (.int .i64 x1) := ka.cell 0
            have d1 : wa.cell? ⟨wr.heap.size, 1, none⟩ = some (.slice x2 x3 x4) := ka.cell 1
            have HWA : Hid (Below w2.heap.size w2 wa) := HWR.out.trans (hba.mono HWR.out.size)
            have HKA : Hid (Bk wa wr.heap.size 42 #[.int .i64 x1, .slice x2 x3 x4]) := ka
            have hcw := HF.out _ hxl wa (HRX.out _ HWA.out).2
            have hsh : (Fm.commits f (fun _ => none) (R.take k)).Short := Fm.Short.commits (fun _ _ h => by cases h) (fun y hy => (HS.out y (HRF.out.sub y (List.mem_of_mem_take hy))).2)
            have hov := overlay_any pm x2 nm x3 cm x4 m (f ⟨x1, x2, x3, x4⟩) wa HM.out.1 hcw.len (Els.below HM.out.2.1 hba (Nat.le_refl _)) hcw.ws (fun i y hy => by have := hsh _ _ ((HM.out.2.2.mem y).1 (List.mem_of_getElem? hy)); unfold maxLen; omega) hcw.key hcw.nil (by omega)
            rw [puts_is (Fm.ok_none.commits _) HM.out.2.2, ← HCT.out] at hov
            clear hx hcs ka hba hxl hcw hsh hxn0
            go_wp2_with fail
            refine hov.mono ?_
            rintro e w4 ⟨v4, m4, rfl, his4, hln4, han4⟩
            obtain ⟨p4, c4, rfl, hpr4, -⟩ := han4.prs
            obtain ⟨n4, hn4⟩ : ∃ n4, m4.length = n4 := ⟨_, rfl⟩
            rw [hn4] at hln4 ⊢
            have HW4 : Hid (Below w2.heap.size w2 w4) := HWA.out.trans (han4.below.mono HWA.out.size)
            have HM4 : Hid (m4.length = n4 ∧ (∀ W, Below w4.heap.size w4 W → Prs W p4 m4) ∧ (Fm.commits f (fun _ => none) (R.take (k + 1))).Is m4) := ⟨hn4, fun W hW => Els.below hpr4 hW (Nat.le_refl _), his4⟩
            have hn4b : n4 ≤ (k + 1) * 1048576 := by omega
            have e0 : w4.cell? ⟨wr.heap.size, 0, none⟩ = some (.int .i64 x1) := (HKA.out.below han4.below HKA.out.lt).cell 0
            have hfo := foldc_any (some ⟨b, o, none⟩) nr cr R f 1048576 x1 w4 HRN.out.1 (HRX.out _ HW4.out).1 HRN.out.2 (fun y hy => HF.out y (HRF.out.sub y hy) _ (HRX.out _ HW4.out).2) (fun y hy => (HS.out y (HRF.out.sub y hy)).1) (by omega) (by omega)
            clear hov his4 han4 hpr4 hn4 d0 d1 hln4
            go_wp2_with fail
            refine hfo.mono ?_
            rintro e w5 ⟨v5, m5, Z, rfl, hs5, ha5, his5, han5⟩
            have hk5 := HKP.out
            rw [show keepC x1 R = R.take (k + 1) from hk5] at hs5
            have hz : R.take (k + 1) = Z := hs5.one (rise_asc HRF.out.rise _) ha5
            rw [← hz] at his5
            obtain rfl : m5 = m4 := his5.one HM4.out.2.2
            obtain ⟨p5, c5, rfl, hpr5, -⟩ := han5.prs
            rw [HM4.out.1]
            have HW5 : Hid (Below w2.heap.size w2 w5) := HW4.out.trans (han5.below.mono HW4.out.size)
            have HP5 : Hid (Prs w5 p5 m5 ∧ Prs w5 p4 m5 ∧ ∀ W, Below w5.heap.size w5 W → Prs W p4 m5) := ⟨hpr5, HM4.out.2.1 _ han5.below, fun W hW => HM4.out.2.1 W (han5.below.trans (hW.mono han5.below.size))⟩
            clear hs5 ha5 his5 han5 hpr5 hfo hz hk5 e0
            go_wp2_with fail
            refine (samePairs_any p4 p5 n4 n4 c4 c5 m5 m5 _ HM4.out.1 HM4.out.1 HP5.out.2.1 HP5.out.1 (by omega) (by omega)).mono ?_
            rintro e w6 ⟨rfl, b6⟩
            rw [Pl.same_refl]
            have HW6 : Hid (Below w2.heap.size w2 w6) := HW5.out.trans (b6.mono HW5.out.size)
            have HM6 : Hid (m5.length = n4 ∧ Prs w6 p4 m5 ∧ (Fm.commits f (fun _ => none) (R.take (k + 1))).Is m5) := ⟨HM4.out.1, HP5.out.2.2 _ b6, HM4.out.2.2⟩
            clear b6
            go_wp2
            go_roundw
            case rel => exact ⟨k + 1, m5, p4, n4, c4, by omega, by go_num, rfl, hn4b, HM6, HW6⟩
            case measure => simp [intOf]; omega
          · obtain rfl : k = nr := by omega
            have hli2 : ¬ ((k : Int) < (k : Int)) := by omega
            have HBF : Hid (Below w.heap.size w wr) := (HRX.out _ HWR.out).2
            go_wp2
            go_ret
            exact ⟨rfl, HBF.out⟩

theorem contract_versionFolds (H : Type) (enc : TypeId × Value → H) (W : World) (base : Nat) (args : Array Value) (ds gs : List (DataW H)) (before : List MemPlace)
    (hval0 : ∀ (j : Nat) t v, Try.f4.params[j]? = some t → args[j]? = some v → Value.okWide Try.prog W .any base t v)
    (hW : DataW.Whole enc Try.prog Try.f4.params.toList Rows.versionFoldsSpec.vars false W args.toList ds gs before) (hk : Rows.uptoSmall H (ds ++ gs) = true) :
    Calls Try.prog 4 args W fun e W' => ∃ v, e = .returned v ∧ Rows.versionFoldsSpec.post enc Try.prog Try.f4 false true false false W args v W' := by
  have hval : ∀ (j : Nat) t v, Try.f4.params[j]? = some t → args[j]? = some v → Value.okWide Try.prog W .any base t v := hval0
  have hW' := hW
  obtain ⟨p, q, hA0, hV, rfl, hfz, hnd⟩ := hW
  have hA : DataW.TrodAll enc Try.prog W 0 (fun _ => true) true Try.f4.params.toList args.toList ds p := hA0
  rw [Try.params4] at hA hval
  obtain ⟨v0, vs0, d0, ds0, p0, q0, hargs, rfl, rfl, h0, r0⟩ := trodAll_cons hA
  obtain ⟨rfl, rfl, rfl⟩ := trodAll_nil r0
  obtain rfl : args = #[v0] := by cases args; simp_all
  obtain ⟨rfl, rfl⟩ := trodVars_none hV
  simp only [List.append_nil] at hk
  obtain ⟨a0, len0, cap0, rfl⟩ := okWide_slice Try.underlying24 (hval 0 24 v0 rfl rfl)
  have k0 := h0
  have lt0 : ∀ x ∈ p0, x.block < W.heap.size := by obtain ⟨m, hm⟩ := k0; exact DataW.trod_lt m _ _ _ hm
  obtain ⟨z0, w0⟩ : ∃ l, InR Cm.cells 2 (Cm.fit W) W a0 len0 cap0 l := by
    obtain ⟨fuel, hf⟩ := h0
    obtain ⟨a, len, cap, l, hg, ho⟩ := in_cms hf (Nat.le_trans (bulk_part (by simp)) (bulk_bound hk))
    simp [Value.cells] at hg
    obtain ⟨rfl, rfl, rfl⟩ := hg
    exact ⟨l, ho⟩
  clear hA0 hval0
  simp only [List.append_nil] at hW'
  refine (walk_versionFolds a0 len0 cap0 z0 W w0).mono fun e W' ⟨he, bel⟩ => ?_
  subst he
  exact ⟨_, rfl, _, _, _, [], _, [], hW', trodAll_mk1 (shut_bool Try.underlying4 _), (trodAll_cons_mk (Below.trod laidOut (by kernel_rfl) (of_decide_eq_true (by kernel_rfl)) k0 bel lt0) trodAll_mk0), rfl, bel.frame _, fun h => by cases h⟩

set_option maxRecDepth 100000 in
set_option maxHeartbeats 2000000 in
theorem lifted_versionFolds (os : Os) (started : os.Started) (H : Type) (enc : TypeId × Value → H) (F : Stop.Interp) :
    ReturnsInHanded {} Try.checked os 4 .any ((Rows.OpenSpec.upto Rows.versionFoldsSpec).pre6 enc Try.prog Try.f4 Rows.versionFoldsUptoRow.domain false) (((Rows.OpenSpec.upto Rows.versionFoldsSpec).at F).post enc Try.prog Try.f4 false true false false) := by
  refine returnsInHanded_of_cond (C := Try.checked) (s := Rows.OpenSpec.upto Rows.versionFoldsSpec) (k := Rows.uptoSmall) rfl own started (by kernel_rfl) Try.func4
    (OpenSpec.witness (enc := enc) (C := Try.checked) (s := Rows.OpenSpec.upto Rows.versionFoldsSpec) (k := Rows.uptoSmall) rfl false ⟨#[], #[.slice none 0 0], []⟩ 8 (by kernel_rfl) (by kernel_rfl) (by kernel_rfl)
      (x := ([.nil], [], [])) (by kernel_rfl) rfl (by kernel_rfl)) ?_
  intro W base args ds gs before hval hW _ hk _
  exact contract_versionFolds H enc W base args ds gs before hval hW hk

/-- The statement. -/
theorem versionFolds_holds : Rows.VersionFoldsUptoSaid :=
  OpenClaim.holds_of_cond 4 Try.f4 rfl rfl rfl rfl rfl rfl rfl ⟨rfl, rfl, rfl, rfl, rfl⟩ rfl rfl rfl rfl rfl (by kernel_rfl) Try.func4 (by kernel_rfl)
    (of_decide_eq_true (by kernel_rfl)) (by unfold Func.isWrapper; first | (rw [if_pos (by decide +kernel)]; kernel_rfl) | (rw [if_neg (by decide +kernel)]; exact ⟨rfl, rfl⟩))
    (fun os started H enc _ F => lifted_versionFolds os started H enc F)
#print axioms versionFolds_holds
end Go.Proofs.Ytilabcolfabnmaa
