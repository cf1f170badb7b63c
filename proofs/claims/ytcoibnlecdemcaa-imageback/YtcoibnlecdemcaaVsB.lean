/- What a timestamp sees of versions: At and Value. -/
import Derived.Test.YtcoibnlecdemcaaVsA
namespace Go.Proofs.Ytcoibnlecdemcaa
open Go.RowKit
set_option linter.unusedVariables false
set_option maxRecDepth 100000

/-- A version and a flag are answered. -/
theorem results_vb {fn : Func} {t u : Tmp} (h : fn.results = #[.cell t 83, .tmp u]) {tmps : Array Value} {w : World} {b : Nat} (ht : tmps.getD t undef = .pointer (some ⟨b, 0, none⟩)) {f : Bool} (hu : tmps.getD u undef = .bool f) {x : Vs} (hk : Bk w b 83 #[.int .i64 x.ts, .string x.val, .bool x.del]) :
    (results fn tmps).run Try.prog w = .ok (.tuple #[x.v, .bool f]) w := by
  have c0 : w.cell? ⟨b, 0, none⟩ = some (.int .i64 x.ts) := hk.cell 0
  have c1 : w.cell? ⟨b, 1, none⟩ = some (.string x.val) := hk.cell 1
  have c2 : w.cell? ⟨b, 2, none⟩ = some (.bool x.del) := hk.cell 2
  rw [Array.getD_eq_getD_getElem?] at ht hu
  simp [results, h, go_sem, ht, hu, c0, c1, c2]

/-- What is answered of what is seen. -/
def Vr.atV (o : Option Vs) : Value := .tuple #[(o.getD Vs.zero).v, .bool o.isSome]

/-- A version in its box is written over. -/
theorem vput {w : World} {b : Nat} {x : Vs} (h : Bk w b 83 #[.int .i64 x.ts, .string x.val, .bool x.del]) (y : Vs) : Bk (((w.setCell ⟨b, 0, none⟩ (.int .i64 y.ts)).setCell ⟨b, 1, none⟩ (.string y.val)).setCell ⟨b, 2, none⟩ (.bool y.del)) b 83 #[.int .i64 y.ts, .string y.val, .bool y.del] := by
  have := ((h.set 0 (.int .i64 y.ts)).set 1 (.string y.val)).set 2 (.bool y.del)
  simpa using this

theorem vput_below {w : World} {b : Nat} {B : Nat} (h : B ≤ b) (y : Vs) : Below B w (((w.setCell ⟨b, 0, none⟩ (.int .i64 y.ts)).setCell ⟨b, 1, none⟩ (.string y.val)).setCell ⟨b, 2, none⟩ (.bool y.del)) :=
  (((Below.refl _ _).setCell (by simpa using h) _).setCell (by simpa using h) _).setCell (by simpa using h) _

set_option maxHeartbeats 1000000 in
theorem at_any (p : Option Addr) (n c : Nat) (l : List Vs) (ts : Int) (w : World) (hn : l.length = n) (hx : Vrs w p l) (hl : n ≤ 4611686018427387904) :
    Calls Try.prog 35 #[.slice p n c, .int .i64 ts] w fun e w' => e = .returned (Vr.atV (Vr.at? l ts)) ∧ Below w.heap.size w w' := by
  obtain ⟨w0, hw0⟩ : ∃ w0, w0 = w.alloc (.cells #[.int .i64 0, .string ⟨#[]⟩, .bool false] 83) := ⟨_, rfl⟩
  have hb0 : Below w.heap.size w w0 := by rw [hw0]; exact (Below.refl _ _).alloc (Nat.le_refl _) _
  have hk0 : Bk w0 w.heap.size 83 #[.int .i64 0, .string ⟨#[]⟩, .bool false] := by rw [hw0]; exact Bk.new _ _ _
  have hcall := seen_any p n c l ts w0 hn (Els.below hx hb0 (Nat.le_refl _)) hl
  have HX : Hid (Vrs w p l) := hx
  have HW0 : Hid (w0 = w.alloc (.cells #[.int .i64 0, .string ⟨#[]⟩, .bool false] 83)) := hw0
  have HK : Hid (Bk w0 w.heap.size 83 #[.int .i64 0, .string ⟨#[]⟩, .bool false] ∧ Below w.heap.size w w0) := ⟨hk0, hb0⟩
  cases hs : Vr.seen l ts with
  | none =>
    have hI : Vr.atI l ts = -1 := by unfold Vr.atI; rw [hs]
    have HA : Hid (Vr.at? l ts = none) := (Vr.seen_none hs).1
    rw [hI] at hcall
    have HC : Hid (Calls Try.prog 56 #[.slice p n c, .int .i64 ts] w0 fun e w' => e = .returned (.int .i64 (-1)) ∧ Below w0.heap.size w0 w') := hcall
    clear hx hb0 hk0 hcall hs hI hw0
    go_enter Try.func35, Try.ntmps35
    go_wp2_with fail
    rw [← HW0.out]
    refine HC.out.mono ?_
    rintro e w' ⟨rfl, hb'⟩
    have k1 : Bk w' w.heap.size 83 #[.int .i64 0, .string ⟨#[]⟩, .bool false] := HK.out.1.below hb' HK.out.1.lt
    obtain ⟨z, hz⟩ : ∃ z : Vs, z = Vs.zero := ⟨_, rfl⟩
    have c0 : w'.cell? ⟨w.heap.size, 0, none⟩ = some (.int .i64 0) := k1.cell 0
    have c1 : w'.cell? ⟨w.heap.size, 1, none⟩ = some (.string ⟨#[]⟩) := k1.cell 1
    have c2 : w'.cell? ⟨w.heap.size, 2, none⟩ = some (.bool false) := k1.cell 2
    have f0 := k1.frozen 0
    have f1 := k1.frozen 1
    have f2 := k1.frozen 2
    have HB : Hid (Below w.heap.size w w') := HK.out.2.trans (hb'.mono HK.out.2.size)
    have HK1 : Hid (Bk w' w.heap.size 83 #[.int .i64 0, .string ⟨#[]⟩, .bool false]) := k1
    clear k1 hb' HC HK HW0
    go_wp2
    refine bodyPost_ret (results_vb (b := w.heap.size) (f := false) (x := Vs.zero) rfl rfl rfl ?_) rfl ⟨by rw [HA.out]; rfl, ?_⟩
    · exact vput (x := Vs.zero) HK1.out Vs.zero
    · exact HB.out.trans (vput_below (Nat.le_refl _) Vs.zero)
  | some k =>
    have hI : Vr.atI l ts = (k : Int) := by unfold Vr.atI; rw [hs]
    obtain ⟨x, hxk, hat, -, -⟩ := Vr.seen_some hs
    have HA : Hid (Vr.at? l ts = some x) := hat
    rw [hI] at hcall
    have HC : Hid (Calls Try.prog 56 #[.slice p n c, .int .i64 ts] w0 fun e w' => e = .returned (.int .i64 (k : Int)) ∧ Below w0.heap.size w0 w') := hcall
    have hkn : k < n := by rw [← hn]; exact (List.getElem?_eq_some_iff.1 hxk).1
    have hki : (k : Int) < (n : Int) := by omega
    have HXK : Hid (l[k]? = some x ∧ k < l.length) := ⟨hxk, by rw [hn]; exact hkn⟩
    clear hx hb0 hk0 hcall hs hI hw0 hxk hat hn
    go_enter Try.func35, Try.ntmps35
    go_wp2_with fail
    rw [← HW0.out]
    refine HC.out.mono ?_
    rintro e w' ⟨rfl, hb'⟩
    have k1 : Bk w' w.heap.size 83 #[.int .i64 0, .string ⟨#[]⟩, .bool false] := HK.out.1.below hb' HK.out.1.lt
    have hB : Below w.heap.size w w' := HK.out.2.trans (hb'.mono HK.out.2.size)
    obtain ⟨b, o, y, rfl, hy, d0, d1, d2⟩ := Vrs.cells (Els.below HX.out hB (Nat.le_refl _)) (j := k) HXK.out.2
    rw [HXK.out.1] at hy
    cases hy
    have c0 : w'.cell? ⟨w.heap.size, 0, none⟩ = some (.int .i64 0) := k1.cell 0
    have c1 : w'.cell? ⟨w.heap.size, 1, none⟩ = some (.string ⟨#[]⟩) := k1.cell 1
    have c2 : w'.cell? ⟨w.heap.size, 2, none⟩ = some (.bool false) := k1.cell 2
    have f0 := k1.frozen 0
    have f1 := k1.frozen 1
    have f2 := k1.frozen 2
    have HB : Hid (Below w.heap.size w w') := hB
    have HK1 : Hid (Bk w' w.heap.size 83 #[.int .i64 0, .string ⟨#[]⟩, .bool false]) := k1
    clear k1 hb' HC HK HW0 hB
    go_wp2
    refine bodyPost_ret (results_vb (b := w.heap.size) (f := true) (x := x) rfl rfl rfl ?_) rfl ⟨by rw [HA.out]; rfl, ?_⟩
    · exact vput (x := Vs.zero) HK1.out x
    · exact HB.out.trans (vput_below (Nat.le_refl _) x)

/-- What is answered of a value that is seen. -/
def Vr.val? (o : Option Vs) : Option ByteArray := o.bind fun x => if x.del then none else some x.val
def Vr.valV (o : Option ByteArray) : Value := .tuple #[.string (o.getD ⟨#[]⟩), .bool o.isSome]
theorem Vr.val_none : Vr.val? none = none := rfl
theorem Vr.val_del {x : Vs} (h : x.del = true) : Vr.val? (some x) = none := by simp [Vr.val?, h]
theorem Vr.val_is {x : Vs} (h : x.del = false) : Vr.val? (some x) = some x.val := by simp [Vr.val?, h]


set_option maxHeartbeats 1000000 in
theorem dat_any (p : Option Addr) (n c : Nat) (l : List Vs) (ts : Int) (w : World) (hn : l.length = n) (hx : Vrs w p l) (hl : n ≤ 4611686018427387904) :
    Calls Try.prog 38 #[.slice p n c, .int .i64 ts] w fun e w' => e = .returned (Vr.atV (Vr.at? l ts)) ∧ Below w.heap.size w w' := by
  obtain ⟨w0, hw0⟩ : ∃ w0, w0 = w.alloc (.cells #[.int .i64 0, .string ⟨#[]⟩, .bool false] 83) := ⟨_, rfl⟩
  have hb0 : Below w.heap.size w w0 := by rw [hw0]; exact (Below.refl _ _).alloc (Nat.le_refl _) _
  have hk0 : Bk w0 w.heap.size 83 #[.int .i64 0, .string ⟨#[]⟩, .bool false] := by rw [hw0]; exact Bk.new _ _ _
  have HW0 : Hid (w0 = w.alloc (.cells #[.int .i64 0, .string ⟨#[]⟩, .bool false] 83)) := hw0
  have HK : Hid (Bk w0 w.heap.size 83 #[.int .i64 0, .string ⟨#[]⟩, .bool false] ∧ Below w.heap.size w w0) := ⟨hk0, hb0⟩
  have HX : Hid (Vrs w0 p l) := Els.below hx hb0 (Nat.le_refl _)
  have HN : Hid (l.length = n) := hn
  have c0 : w0.cell? ⟨w.heap.size, 0, none⟩ = some (.int .i64 0) := hk0.cell 0
  have c1 : w0.cell? ⟨w.heap.size, 1, none⟩ = some (.string ⟨#[]⟩) := hk0.cell 1
  have c2 : w0.cell? ⟨w.heap.size, 2, none⟩ = some (.bool false) := hk0.cell 2
  have f0 := hk0.frozen 0
  have f1 := hk0.frozen 1
  have f2 := hk0.frozen 2
  clear hx hb0 hk0 hw0 hn
  go_enter Try.func38, Try.ntmps38
  go_wp2_with fail
  rw [← HW0.out]
  go_loop [6] (fun i => ∃ k : Nat, k ≤ n ∧ i = .int .i64 k ∧ Hid (∀ j x, j < k → l[j]? = some x → ts < x.ts)) (fun i => n - (intOf i).toNat)
  case atStart => exact ⟨0, Nat.zero_le _, rfl, fun j x hj => absurd hj (Nat.not_lt_zero _)⟩
  case round =>
    obtain ⟨k, hk, rfl, HA⟩ := hrel
    by_cases hlt : k < n
    · have hli : (k : Int) < (n : Int) := by omega
      obtain ⟨b, o, x, rfl, hg, d0, d1, d2⟩ := Vrs.cells HX.out (j := k) (by have := HN.out; omega)
      have HG : Hid (l[k]? = some x) := hg
      clear hg
      by_cases hq : x.ts ≤ ts
      · have HI : Hid (Vr.at? l ts = some x) := (Vr.seen_hit HG.out hq (fun j y hj hy => Int.not_le.2 (HA.out j y hj hy))).2
        go_wp2
        refine bodyPost_ret (results_vb (b := w.heap.size) (f := true) (x := x) rfl rfl rfl ?_) rfl ⟨by rw [HI.out]; rfl, ?_⟩
        · exact vput (x := Vs.zero) HK.out.1 x
        · exact HK.out.2.trans (vput_below (Nat.le_refl _) x)
      · have HQ : Hid (ts < x.ts) := Int.not_le.1 hq
        go_wp2
        go_round
        case rel =>
          refine ⟨k + 1, by omega, by go_num, fun j y hj hy => ?_⟩
          by_cases e : j = k
          · subst e
            rw [HG.out] at hy
            cases hy
            exact HQ.out
          · exact HA.out j y (by omega) hy
        case measure => simp [intOf]; omega
    · have hli : ¬ ((k : Int) < (n : Int)) := by omega
      have HI : Hid (Vr.at? l ts = none) := (Vr.seen_miss (fun j y hy => Int.not_le.2 (HA.out j y (by have := HN.out; have := (List.getElem?_eq_some_iff.1 hy).1; omega) hy))).2
      go_wp2
      refine bodyPost_ret (results_vb (b := w.heap.size) (f := false) (x := Vs.zero) rfl rfl rfl ?_) rfl ⟨by rw [HI.out]; rfl, ?_⟩
      · exact vput (x := Vs.zero) HK.out.1 Vs.zero
      · exact HK.out.2.trans (vput_below (Nat.le_refl _) Vs.zero)

end Go.Proofs.Ytcoibnlecdemcaa
