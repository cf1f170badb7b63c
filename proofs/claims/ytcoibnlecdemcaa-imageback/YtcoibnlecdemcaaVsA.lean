/- What a timestamp sees of versions: the code's and the document's. -/
import Derived.Test.YtcoibnlecdemcaaVsM
import Derived.WalkLawsBesides
import Derived.Shelf.Abstract
namespace Go.Proofs.Ytcoibnlecdemcaa
open Go.RowKit
set_option linter.unusedVariables false
set_option maxRecDepth 100000

theorem Vr.seen_hit {l : List Vs} {ts : Int} {k : Nat} {x : Vs} (hx : l[k]? = some x) (h : x.ts ≤ ts) (ha : ∀ j y, j < k → l[j]? = some y → ¬ y.ts ≤ ts) : Vr.seen l ts = some k ∧ Vr.at? l ts = some x := by
  induction l generalizing k with
  | nil => simp at hx
  | cons y r ih =>
    match k, hx with
    | 0, hx =>
      simp at hx
      subst hx
      simp [Vr.seen, Vr.at?, List.findIdx?_cons, h]
    | k + 1, hx =>
      have hy := ha 0 y (by omega) (by simp)
      obtain ⟨h1, h2⟩ := ih (k := k) (by simpa using hx) (fun j z hj hz => ha (j + 1) z (by omega) (by simpa using hz))
      unfold Vr.seen at h1 ⊢
      unfold Vr.at? at h2 ⊢
      rw [List.findIdx?_cons, h1, List.find?_cons, h2]
      simp [hy]

theorem Vr.seen_miss {l : List Vs} {ts : Int} (ha : ∀ (j : Nat) y, l[j]? = some y → ¬ y.ts ≤ ts) : Vr.seen l ts = none ∧ Vr.at? l ts = none := by
  constructor
  · unfold Vr.seen
    rw [List.findIdx?_eq_none_iff]
    intro x hx
    obtain ⟨j, hj, rfl⟩ := List.getElem_of_mem hx
    simpa using ha j _ (List.getElem?_eq_getElem hj)
  · unfold Vr.at?
    rw [List.find?_eq_none]
    intro x hx
    obtain ⟨j, hj, rfl⟩ := List.getElem_of_mem hx
    simpa using ha j _ (List.getElem?_eq_getElem hj)

theorem Vr.seen_some {l : List Vs} {ts : Int} {k : Nat} (h : Vr.seen l ts = some k) : ∃ x, l[k]? = some x ∧ Vr.at? l ts = some x ∧ x.ts ≤ ts ∧ ∀ j y, j < k → l[j]? = some y → ¬ y.ts ≤ ts := by
  unfold Vr.seen at h
  obtain ⟨hk, h1, h2⟩ := List.findIdx?_eq_some_iff_getElem.1 h
  have hx := List.getElem?_eq_getElem hk
  have ha : ∀ j y, j < k → l[j]? = some y → ¬ y.ts ≤ ts := fun j y hj hy => by
    have := h2 j hj
    rw [List.getElem?_eq_getElem (by omega)] at hy
    cases hy
    simpa using this
  exact ⟨_, hx, (Vr.seen_hit hx (by simpa using h1) ha).2, by simpa using h1, ha⟩

theorem Vr.seen_none {l : List Vs} {ts : Int} (h : Vr.seen l ts = none) : Vr.at? l ts = none ∧ ∀ y ∈ l, ¬ y.ts ≤ ts := by
  unfold Vr.seen at h
  rw [List.findIdx?_eq_none_iff] at h
  refine ⟨?_, fun y hy => by simpa using h y hy⟩
  unfold Vr.at?
  rw [List.find?_eq_none]
  exact fun x hx => by simpa using h x hx

theorem seen1_any (x : Vs) (ts : Int) (B : Nat) (w : World) (hB : Bk w B 2 #[.int .i64 ts]) : Calls Try.prog 78 #[x.v, .pointer (some ⟨B, 0, none⟩)] w fun e w' => e = .returned (.bool (decide (x.ts ≤ ts))) ∧ Below w.heap.size w w' := by
  obtain ⟨t, s, d⟩ := x
  obtain ⟨w1, hw1⟩ : ∃ w1, w.alloc (.cells #[.int .i64 t, .string s, .bool d] 83) = w1 := ⟨_, rfl⟩
  have k1 : Bk w1 w.heap.size 83 #[.int .i64 t, .string s, .bool d] := by rw [← hw1]; exact Bk.new _ _ _
  have c0 : w1.cell? ⟨w.heap.size, 0, none⟩ = some (.int .i64 t) := k1.cell 0
  have cB : w1.cell? ⟨B, 0, none⟩ = some (.int .i64 ts) := by rw [← hw1]; exact (hB.alloc _).cell 0
  have HB : Hid (Below w.heap.size w w1) := by rw [← hw1]; exact (Below.refl _ _).alloc (Nat.le_refl _) _
  clear k1 hB
  by_cases h : t ≤ ts
  · go_enter Try.func78, Try.ntmps78
    go_wp2
    go_ret
    exact ⟨by simp [h], HB.out⟩
  · go_enter Try.func78, Try.ntmps78
    go_wp2
    go_ret
    exact ⟨by simp [h], HB.out⟩

set_option maxHeartbeats 1000000 in
theorem vidx_any (p : Option Addr) (n c : Nat) (l : List Vs) (ts : Int) (B : Nat) (w : World) (hB : Bk w B 2 #[.int .i64 ts]) (hn : l.length = n) (hx : Vrs w p l) (hl : n ≤ 4611686018427387904) :
    Calls Try.prog 77 #[.slice p n c, .func (.func 78) #[] #[.pointer (some ⟨B, 0, none⟩)]] w fun e w' => e = .returned (.int .i64 (Vr.atI l ts)) ∧ Below w.heap.size w w' := by
  have eg : ∀ args w, (callFunc 78 args).run Try.prog w = .ok (.enter 78 args) w := enters_of Try.func78 (by kernel_rfl) rfl
  have HX : Hid (Vrs w p l) := hx
  have HN : Hid (l.length = n) := hn
  have HB : Hid (Bk w B 2 #[.int .i64 ts]) := hB
  clear hx hn hB
  go_enter Try.func77, Try.ntmps77
  go_wp2_with fail
  go_loopw [8] (fun i wr => ∃ k : Nat, k ≤ n ∧ i = .int .i64 k ∧ Hid (Below w.heap.size w wr) ∧ Hid (∀ j x, j < k → l[j]? = some x → ts < x.ts)) (fun i _ => n - (intOf i).toNat)
  case atStart => exact ⟨0, Nat.zero_le _, rfl, Below.refl _ _, fun j x hj => absurd hj (Nat.not_lt_zero _)⟩
  case round =>
    obtain ⟨k, hk, rfl, HW, HA⟩ := hrel
    by_cases hlt : k < n
    · have hli : (k : Int) < (n : Int) := by omega
      obtain ⟨b, o, x, rfl, hg, c0, c1, c2⟩ := Vrs.cells (Els.below HX.out HW.out (Nat.le_refl _)) (j := k) (by have := HN.out; omega)
      have hcall := seen1_any x ts B wr (HB.out.below HW.out HB.out.lt)
      have HG : Hid (l[k]? = some x) := hg
      clear hg
      by_cases hq : x.ts ≤ ts
      · have HI : Hid (Vr.atI l ts = k) := by unfold Vr.atI; rw [(Vr.seen_hit HG.out hq (fun j y hj hy => Int.not_le.2 (HA.out j y hj hy))).1]; rfl
        rw [decide_eq_true hq] at hcall
        go_wp2_with (go_at_fn 78; refine hcall.mono ?_; rintro e w' ⟨rfl, hb'⟩)
        go_ret
        exact ⟨by rw [HI.out]; rfl, HW.out.trans (hb'.mono HW.out.size)⟩
      · rw [decide_eq_false hq] at hcall
        have HQ : Hid (ts < x.ts) := Int.not_le.1 hq
        clear hq
        go_wp2_with (go_at_fn 78; refine hcall.mono ?_; rintro e w' ⟨rfl, hb'⟩)
        go_roundw
        case rel =>
          refine ⟨k + 1, by omega, by go_num, HW.out.trans (hb'.mono HW.out.size), fun j y hj hy => ?_⟩
          by_cases e : j = k
          · subst e
            rw [HG.out] at hy
            cases hy
            exact HQ.out
          · exact HA.out j y (by omega) hy
        case measure => simp [intOf]; omega
    · have hli : ¬ ((k : Int) < (n : Int)) := by omega
      have HI : Hid (Vr.atI l ts = -1) := by
        unfold Vr.atI
        rw [(Vr.seen_miss (fun j y hy => Int.not_le.2 (HA.out j y (by have := HN.out; have := (List.getElem?_eq_some_iff.1 hy).1; omega) hy))).1]
        rfl
      go_wp2
      go_ret
      exact ⟨by rw [HI.out]; rfl, HW.out⟩

theorem seen_any (p : Option Addr) (n c : Nat) (l : List Vs) (ts : Int) (w : World) (hn : l.length = n) (hx : Vrs w p l) (hl : n ≤ 4611686018427387904) :
    Calls Try.prog 56 #[.slice p n c, .int .i64 ts] w fun e w' => e = .returned (.int .i64 (Vr.atI l ts)) ∧ Below w.heap.size w w' := by
  have hb : Below w.heap.size w (w.alloc (.cells #[.int .i64 ts] 2)) := (Below.refl _ _).alloc (Nat.le_refl _) _
  have hcall := vidx_any p n c l ts w.heap.size (w.alloc (.cells #[.int .i64 ts] 2)) (Bk.new _ _ _) hn (Els.below hx hb (Nat.le_refl _)) hl
  have HB : Hid (Below w.heap.size w (w.alloc (.cells #[.int .i64 ts] 2))) := hb
  clear hx hb
  go_enter Try.func56, Try.ntmps56
  go_wp2_with fail
  refine hcall.mono ?_
  rintro e w' ⟨rfl, hb'⟩
  go_wp2
  go_ret
  exact ⟨rfl, HB.out.trans (hb'.mono (by simp))⟩

end Go.Proofs.Ytcoibnlecdemcaa
