/- KeysFew, where what comes in is of bulk at most 1048576: a union's ranges, and those of what is left, rise; none is empty, none touches the next one. -/
import Derived.Test.YtbfaamdfdnoegaaKyLive
import Derived.Test.YtbfaamdfdnoegaaKyPu
import Derived.Test.YtbfaamdfdnoegaaKyBulk
import Derived.Deep.RegionHeld3
import Derived.Deep.RegionHeldLaw
import Derived.Lib.QuietBelow
import Derived.BigQuiet
namespace Go.Proofs.Ytbfaamdfdnoegaa
open Go.ChangeShapes Go.WideShapes Go.ChangeAt Go.RowKit Go.Sort
set_option linter.unusedVariables false
set_option linter.unusedSimpArgs false
set_option maxRecDepth 100000

set_option maxHeartbeats 4000000 in
theorem walk_keysFew (p : Option Addr) (len cap : Nat) (l : List Rg) (r : Rg) (w : World) (hin : InR w p len cap l) :
    Calls Try.prog 6 #[.slice p len cap, r.val] w fun e w' => e = .returned (.bool true) ∧ Below w.heap.size w w' := by
  obtain ⟨hlen, hrgs, hroom, hnil⟩ := hin
  have HL : Hid (l.length = len) := hlen
  have HN : Hid (p = none → len = 0) := hnil
  obtain ⟨w0, hw0⟩ : ∃ w0, w0 = w.alloc (.cells #[.string r.lo, .string r.hi] 23) := ⟨_, rfl⟩
  have HB0 : Hid (Below w.heap.size w w0) := by rw [hw0]; exact (Below.refl _ _).alloc (Nat.le_refl _) _
  have HK0 : Hid (Bk w0 w.heap.size 23 #[.string r.lo, .string r.hi]) := by rw [hw0]; exact Bk.new _ _ _
  have HX0 : Hid (Rgs w0 p l) := hrgs.below HB0.out (Nat.le_refl _)
  have HS0 : Hid (w.heap.size < w0.heap.size) := HK0.out.lt
  have HX : Hid (∀ w', Below w0.heap.size w0 w' → Rgs w' p l ∧ (w'.cell? ⟨w.heap.size, 0, none⟩ = some (.string r.lo) ∧ w'.cell? ⟨w.heap.size, 1, none⟩ = some (.string r.hi)) ∧ Below w.heap.size w w' ∧ w0.heap.size ≤ w'.heap.size) := by
    intro w' hb
    have hk := HK0.out.below hb HS0.out
    exact ⟨HX0.out.below hb (Nat.le_refl _), ⟨hk.cell 0, hk.cell 1⟩, HB0.out.trans (hb.mono HB0.out.size), hb.size⟩
  have hlm : len ≤ 3298534883328 := by omega
  have hB : Below w0.heap.size w0 w0.drew := (Below.refl _ _).drew
  have hk0 := (HX.out _ hB).2.1
  have hk1 := (HX.out _ (Below.refl _ _)).2.1
  clear hlen hrgs hnil
  go_enter Try.func6, Try.ntmps6
  go_wp2_with fail
  rw [← hw0]
  clear hw0
  go_region_held3 (fun w' => w'.cell? ⟨w.heap.size, 0, none⟩ = some (.string r.lo) ∧ w'.cell? ⟨w.heap.size, 1, none⟩ = some (.string r.hi)) (go_keep) (first
    | (go_at_call 27; refine (union_any p len cap l _ HL.out (HX.out _ hB).1 hlm HN.out).mono ?_; rintro e w1 ⟨v1, l1, rfl, hp1, hs1, ho1, hb1⟩; have hB1 := hB.trans (hb1.mono (HX.out _ hB).2.2.2); have hkc := (HX.out _ hB1).2.1; obtain ⟨pa, ca, rfl, hra, hna⟩ := ho1.rgs)
    | (go_at_call 31; refine (minus_any p len cap l r _ HL.out (HX.out _ hB1).1 hroom HN.out).mono ?_; rintro e w2 ⟨v2, l2, l3, rfl, hp2, hs2, hp3, hs3, ho2, hb2⟩; have hB2 := hB1.trans (hb2.mono (HX.out _ hB1).2.2.2); have hkc2 := (HX.out _ hB2).2.1; obtain ⟨pb, cb, rfl, hrb, hnb⟩ := ho2.rgs; have hn1 : w2.heap.size ≠ w.heap.size := (by have := (HX.out _ hB2).2.2.2; have := HS0.out; omega)))
  have hra2 : Rgs w2 pa (Ky.uni l1) := hra.below hb2 (Nat.le_refl _)
  have hua := (Ky.uni_facts hp1 hs1).1
  have hub := (Ky.uni_facts hp3 hs3).1
  have hla : (Ky.uni l1).length ≤ 4611686018427387904 := by
    have h1 := Ky.uni_len l1 []
    have h2 := hp1.length_eq
    have h3 := Ky.full_le l
    have h4 := HL.out
    unfold Ky.uni
    simp only [List.length_nil] at h1
    omega
  have hlb : (Ky.uni l3).length ≤ 4611686018427387904 := by
    have h1 := Ky.uni_len l3 []
    have h2 := hp3.length_eq
    have h3 := Ky.full_le (Ky.left (Ky.uni l2) (Ky.around r))
    have h4 := Ky.left_len (Ky.uni l2) (Ky.around r)
    have h5 := Ky.uni_len l2 []
    have h6 := hp2.length_eq
    have h7 := Ky.full_le l
    have h8 := HL.out
    have h9 : (Ky.uni l2).length * (Ky.around r).length ≤ 1048576 * 2 := Nat.mul_le_mul (by unfold Ky.uni; simp only [List.length_nil] at h5; omega) (Ky.around_len r)
    unfold Ky.uni at h9 h4 h3 h2 ⊢
    simp only [List.length_nil] at h1
    omega
  generalize Ky.uni l1 = ua at hra2 hua hla ⊢
  generalize Ky.uni l3 = ub at hrb hub hlb ⊢
  have HBL : Hid (Below w.heap.size w w2) := (HX.out _ hB2).2.2.1
  have HU : Hid (∀ w', Below (w2.heap.size + 1) (w2.alloc (.cells #[.slice pa ua.length ca, .slice pb ub.length cb] 31)) w' → (∀ i, i < 2 → ∃ pu cu us, w'.cell? ⟨w2.heap.size, i, none⟩ = some (.slice pu us.length cu) ∧ Rgs w' pu us ∧ Ky.Un us ∧ us.length ≤ 4611686018427387904) ∧ Below w.heap.size w w' ∧ w2.heap.size + 1 ≤ w'.heap.size) := by
    intro w' hb
    have hk : Bk w' w2.heap.size 31 #[.slice pa ua.length ca, .slice pb ub.length cb] := (Bk.new _ _ _).below hb (by omega)
    have hb3 : Below w2.heap.size w2 w' := ((Below.refl _ w2).alloc (Nat.le_refl _) _).trans (hb.mono (by omega))
    refine ⟨fun i hi => ?_, HBL.out.trans (hb3.mono HBL.out.size), by have := hk.lt; omega⟩
    match i, hi with
    | 0, _ => exact ⟨pa, ca, ua, hk.cell 0, hra2.below hb3 (Nat.le_refl _), hua, hla⟩
    | 1, _ => exact ⟨pb, cb, ub, hk.cell 1, hrb.below hb3 (Nat.le_refl _), hub, hlb⟩
    | n + 2, h => omega
  clear hra2 hua hla hrb hub hlb hra hna hnb ho1 ho2 hb1 hb2 hB1 hB2 hB hkc hkc2 hk0 hk1 hp1 hs1 hp2 hs2 hp3 hs3 hn1 HX HK0 HX0
  have HB3 : Hid (Below (w2.heap.size + 1) (w2.alloc (.cells #[.slice pa ua.length ca, .slice pb ub.length cb] 31)) (w2.alloc (.cells #[.slice pa ua.length ca, .slice pb ub.length cb] 31))) := Below.refl _ _
  generalize (w2.alloc (.cells #[.slice pa ua.length ca, .slice pb ub.length cb] 31)) = w3 at HU HB3 ⊢
  go_wp2_with fail
  go_loopw [16] (fun i wr => ∃ k : Nat, k ≤ 2 ∧ i = .int .i64 k ∧ Hid (Below (w2.heap.size + 1) w3 wr)) (fun i _ => 2 - (intOf i).toNat)
  case atStart => exact ⟨0, Nat.zero_le _, rfl, HB3⟩
  case round =>
    obtain ⟨k, hk, rfl, HW⟩ := hrel
    by_cases hlt : k < 2
    · have hli : (k : Int) < 2 := by omega
      obtain ⟨pu, cu, us, hcu, hru, hun, hlu⟩ := (HU.out _ HW.out).1 k hlt
      have HRU : Hid (Rgs wr pu us) := hru
      have HUN : Hid (Ky.Un us) := hun
      obtain ⟨wo, hwo⟩ : ∃ wo, wo = wr := ⟨_, rfl⟩
      have HWO : Hid (Below (w2.heap.size + 1) w3 wo) := by rw [hwo]; exact HW
      have HRO : Hid (Rgs wo pu us) := by rw [hwo]; exact HRU
      obtain ⟨nu, hnu⟩ : ∃ nu, nu = us.length := ⟨_, rfl⟩
      have HNU : Hid (nu = us.length) := hnu
      rw [← hnu] at hcu hlu
      rw [← hwo] at hcu ⊢
      clear hru hun HRU HW hnu hwo
      go_wp2_with fail
      go_loopw [22] (fun i wr => ∃ j : Nat, j ≤ nu ∧ i = .int .i64 j ∧ Hid (Below wo.heap.size wo wr)) (fun i _ => nu - (intOf i).toNat)
      case atStart => exact ⟨0, Nat.zero_le _, rfl, Below.refl _ _⟩
      case round =>
        obtain ⟨j, hj, rfl, HW⟩ := hrel
        by_cases hjt : j < nu
        · have hji : (j : Int) < (nu : Int) := by omega
          obtain ⟨b, o, x, rfl, hg, hblt, c0, c1⟩ := (HRO.out.below HW.out (Nat.le_refl _)).at (j := j) (by have := HNU.out; omega)
          have hex : Ky.emp x = false := HUN.out.full x (List.mem_of_getElem? hg)
          obtain ⟨w8, hw8⟩ : ∃ w8, wr.alloc (.cells #[.string x.lo, .string x.hi] 23) = w8 := ⟨_, rfl⟩
          have hk8 : Bk w8 wr.heap.size 23 #[.string x.lo, .string x.hi] := by rw [← hw8]; exact Bk.new _ _ _
          have hb8 : Below wr.heap.size wr w8 := by rw [← hw8]; exact (Below.refl _ wr).alloc (Nat.le_refl _) _
          have HBX : Hid (∀ w', Below w8.heap.size w8 w' → Below wo.heap.size wo w') := by
            intro w' hb
            exact HW.out.trans ((hb8.trans (hb.mono hb8.size)).mono HW.out.size)
          have k0 := cell_regrown (hk8.cell 0)
          have k1 := cell_regrown (hk8.cell 1)
          have cE : ∀ d os, Calls Try.prog 12 #[.agg #[.string x.lo, .string x.hi]] (grow (redrawn w8 d) os) fun e w'' => e = .returned (.bool false) ∧ ∃ p : Regrown, w'' = grow (redrawn w8 p.d) p.os := fun d os => Calls.regrown_of (by have := empty_any x (grow (redrawn w8 d) os); rw [hex] at this; exact this)
          cases j with
          | zero =>
            simp only [Nat.zero_mul, Nat.add_zero, Nat.zero_add] at c0 c1
            clear hg hk8 hb8
            go_wp2_with fail
            try rw [hw8]
            refine wp_region_quiet_below (by kernel_rfl) (by kernel_rfl) ?_
            repeat (go_big_quiet_step (first | exact cE _ _))
            refine wpQuiet_nil ?_
            intro _ hw'
            obtain ⟨⟨dq, osq⟩, hw''⟩ := hw'
            subst hw''
            have HBF := HBX.out _ (below_regrown w8 dq osq)
            go_wp2
            go_roundw
            case rel => exact ⟨1, by omega, by go_num, HBF⟩
            case measure => simp [intOf]; omega
          | succ j =>
            obtain ⟨b', o', y, hb', hy, hblt', d0, d1⟩ := (HRO.out.below HW.out (Nat.le_refl _)).at (j := j) (by have := HNU.out; omega)
            simp only [Option.some.injEq, Addr.mk.injEq, and_true] at hb'
            obtain ⟨rfl, rfl⟩ := hb'
            have hap := HUN.out.part j y x hy hg
            unfold Ky.apart Ky.nil Ky.lt at hap
            simp only [Bool.and_eq_true, Bool.not_eq_true'] at hap
            obtain ⟨hni, hlo⟩ := hap
            have k2 : ∀ d os, (grow (redrawn w8 d) os).cell? ⟨b, o + j * 2 + 1, none⟩ = some (.string y.hi) := cell_regrown (by rw [hb8.cell (p := ⟨b, o + j * 2 + 1, none⟩) hblt]; exact d1)
            have hj0 : (0 : Int) ≤ (j : Int) := by omega
            have hjn : (j : Int) < (nu : Int) := by omega
            have hjd : decide ((0 : Int) < (j : Int) + 1) = true := decide_eq_true (by omega)
            have hjb : j + 1 ≤ 4611686018427387904 := by omega
            clear hg hy hblt' d0 d1 hk8 hb8
            go_wp2_with fail
            try rw [hw8]
            refine wp_region_quiet_below (by kernel_rfl) (by kernel_rfl) ?_
            repeat (go_big_quiet_step (first | exact cE _ _))
            refine wpQuiet_nil ?_
            intro _ hw'
            obtain ⟨⟨dq, osq⟩, hw''⟩ := hw'
            subst hw''
            have HBF := HBX.out _ (below_regrown w8 dq osq)
            go_wp2
            go_roundw
            case rel => exact ⟨j + 2, by omega, by go_num, HBF⟩
            case measure => simp [intOf]; omega
        · have hjj : j = nu := by omega
          have hji : ¬ ((j : Int) < (nu : Int)) := by omega
          go_wp2
          go_roundw
          case rel => exact ⟨k + 1, by omega, by go_num, HWO.out.trans (HW.out.mono (HU.out _ HWO.out).2.2)⟩
          case measure => simp [intOf]; omega
    · have hkk : k = 2 := by omega
      subst hkk
      go_wp2_with fail
      refine (live_any _).mono ?_
      rintro e w9 ⟨rfl, hb9⟩
      have HW9 : Hid (Below w.heap.size w w9) := (HU.out _ HW.out).2.1.trans (hb9.mono (HU.out _ HW.out).2.1.size)
      clear hb9
      go_wp2
      go_ret
      exact ⟨rfl, HW9.out⟩


theorem contract_keysFew (H : Type) (enc : TypeId × Value → H) (W : World) (base : Nat) (args : Array Value) (ds gs : List (DataW H)) (before : List MemPlace)
    (hval0 : ∀ (j : Nat) t v, Try.f6.params[j]? = some t → args[j]? = some v → Value.okWide Try.prog W .any base t v)
    (hW : DataW.Whole enc Try.prog Try.f6.params.toList Rows.keysFewSpec.vars false W args.toList ds gs before) (hk : Rows.uptoSmall H (ds ++ gs) = true) :
    Calls Try.prog 6 args W fun e W' => ∃ v, e = .returned v ∧ Rows.keysFewSpec.post enc Try.prog Try.f6 false true false false W args v W' := by
  have hval : ∀ (j : Nat) t v, Try.f6.params[j]? = some t → args[j]? = some v → Value.okWide Try.prog W .any base t v := hval0
  have hW' := hW
  obtain ⟨p, q, hA0, hV, rfl, hfz, hnd⟩ := hW
  have hA : DataW.TrodAll enc Try.prog W 0 (fun _ => true) true Try.f6.params.toList args.toList ds p := hA0
  rw [Try.params6] at hA hval
  obtain ⟨v0, vs0, d0, ds0, p0, q0, hargs, rfl, rfl, h0, r0⟩ := trodAll_cons hA
  obtain ⟨v1, vs1, d1, ds1, p1, q1, rfl, rfl, rfl, h1, r1⟩ := trodAll_cons r0
  obtain ⟨rfl, rfl, rfl⟩ := trodAll_nil r1
  obtain rfl : args = #[v0, v1] := by cases args; simp_all
  obtain ⟨rfl, rfl⟩ := trodVars_none hV
  simp only [List.append_nil] at hk
  obtain ⟨a0, len0, cap0, rfl⟩ := okWide_slice Try.underlying31 (hval 0 31 v0 rfl rfl)
  have k0 := h0
  have lt0 : ∀ x ∈ p0, x.block < W.heap.size := by obtain ⟨m, hm⟩ := k0; exact DataW.trod_lt m _ _ _ hm
  obtain ⟨z0, w0⟩ := in_rgs h0 (small_slice hk (by simp))
  have k1 := h1
  have lt1 : ∀ x ∈ p1, x.block < W.heap.size := by obtain ⟨m, hm⟩ := k1; exact DataW.trod_lt m _ _ _ hm
  obtain ⟨g1, e1⟩ : ∃ g : Rg, v1 = g.val := by
    obtain ⟨cs, hcs, _⟩ := okWide_struct Try.underlying23 (hval 1 23 v1 rfl rfl)
    obtain ⟨fuel, hf⟩ := h1
    obtain ⟨g, hg⟩ := in_rg hf
    refine ⟨g, ?_⟩
    rw [hcs] at hg ⊢
    congr 1
    apply Array.ext'
    simpa [Value.cells, Rg.cells] using hg
  subst e1
  clear hA0 hval0
  simp only [List.append_nil] at hW'
  refine (walk_keysFew a0 len0 cap0 z0 g1 W w0).mono fun e W' ⟨he, bel⟩ => ?_
  subst he
  exact ⟨_, rfl, _, _, _, [], _, [], hW', trodAll_mk1 (shut_bool Try.underlying4 _), (trodAll_cons_mk (Below.trod laidOut (by kernel_rfl) (of_decide_eq_true (by kernel_rfl)) k0 bel lt0) (trodAll_cons_mk (Below.trod laidOut (by kernel_rfl) (of_decide_eq_true (by kernel_rfl)) k1 bel lt1) trodAll_mk0)), rfl, bel.frame _, fun h => by cases h⟩

set_option maxRecDepth 100000 in
set_option maxHeartbeats 2000000 in
theorem lifted_keysFew (os : Os) (started : os.Started) (H : Type) (enc : TypeId × Value → H) (F : Stop.Interp) :
    ReturnsInHanded {} Try.checked os 6 .any ((Rows.OpenSpec.upto Rows.keysFewSpec).pre6 enc Try.prog Try.f6 Rows.keysFewUptoRow.domain false) (((Rows.OpenSpec.upto Rows.keysFewSpec).at F).post enc Try.prog Try.f6 false true false false) := by
  refine returnsInHanded_of_cond (C := Try.checked) (s := Rows.OpenSpec.upto Rows.keysFewSpec) (k := Rows.uptoSmall) rfl own started (by kernel_rfl) Try.func6
    (OpenSpec.witness (enc := enc) (C := Try.checked) (s := Rows.OpenSpec.upto Rows.keysFewSpec) (k := Rows.uptoSmall) rfl false ⟨#[], #[.slice none 0 0, .agg #[.string .empty, .string .empty]], []⟩ 8 (by kernel_rfl) (by kernel_rfl) (by kernel_rfl)
      (x := ([.nil, .agg [.lit (.string []), .lit (.string [])]], [], [])) (by kernel_rfl) rfl (by kernel_rfl)) ?_
  intro W base args ds gs before hval hW _ hk _
  exact contract_keysFew H enc W base args ds gs before hval hW hk

/-- The statement. -/
theorem keysFew_holds : Rows.KeysFewUptoSaid :=
  OpenClaim.holds_of_cond 6 Try.f6 rfl rfl rfl rfl rfl rfl rfl ⟨rfl, rfl, rfl, rfl, rfl⟩ rfl rfl rfl rfl rfl (by kernel_rfl) Try.func6 (by kernel_rfl)
    (of_decide_eq_true (by kernel_rfl)) (by unfold Func.isWrapper; first | (rw [if_pos (by decide +kernel)]; kernel_rfl) | (rw [if_neg (by decide +kernel)]; exact ⟨rfl, rfl⟩))
    (fun os started H enc _ F => lifted_keysFew os started H enc F)
#print axioms keysFew_holds
end Go.Proofs.Ytbfaamdfdnoegaa
