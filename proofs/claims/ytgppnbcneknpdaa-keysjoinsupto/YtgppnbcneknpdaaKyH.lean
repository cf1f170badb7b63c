/- The first range that meets a test; whether a text is in one of some ranges (the code's). -/
import Derived.Test.YtgppnbcneknpdaaKyC
import Derived.Shelf.GgClosure.Gives
namespace Go.Proofs.Ytgppnbcneknpdaa
open Go.RowKit
set_option linter.unusedVariables false
set_option maxRecDepth 100000

/-- Where the first one stands that meets a test, or -1. -/
def Ky.idx (pr : Rg → Bool) (l : List Rg) : Int := if l.any pr then (l.findIdx pr : Nat) else -1

/-- A test of ranges that lays memory of its own alone. -/
def Tst (g : Nat) (lb : Array Value) (pr : Rg → Bool) (w : World) : Prop :=
  ∀ (W : World) (x : Rg), Below w.heap.size w W → Calls Try.prog g (#[x.val] ++ lb) W fun e w' => e = .returned (.bool (pr x)) ∧ Below W.heap.size W w'

theorem Ky.idx_hit {pr : Rg → Bool} {l : List Rg} {k : Nat} {g : Rg} (hg : l[k]? = some g) (h : pr g = true) (hb : ∀ j x, j < k → l[j]? = some x → pr x = false) : Ky.idx pr l = k := by
  obtain ⟨hk, rfl⟩ := List.getElem?_eq_some_iff.1 hg
  unfold Ky.idx
  rw [if_pos (List.any_eq_true.2 ⟨_, List.getElem_mem hk, h⟩)]
  rw [(List.findIdx_eq hk).2 ⟨h, fun j hj => hb j _ hj (List.getElem?_eq_getElem (by omega))⟩]

theorem Ky.any_miss {pr : Rg → Bool} {l : List Rg} (hb : ∀ j x, j < l.length → l[j]? = some x → pr x = false) : l.any pr = false := by
  rw [List.any_eq_false]
  intro x hx
  obtain ⟨j, hj, rfl⟩ := List.getElem_of_mem hx
  rw [hb j _ hj (List.getElem?_eq_getElem hj)]
  simp

set_option maxHeartbeats 800000 in
theorem idx_any (g : Nat) (lb : Array Value) (pr : Rg → Bool) (eg : ∀ args w, (callFunc g args).run Try.prog w = .ok (.enter g args) w) (p : Option Addr) (len cap : Nat) (l : List Rg) (w : World) (hp : Tst g lb pr w)
    (hlen : l.length = len) (hx : Rgs w p l) (hl : len ≤ 4611686018427387904) :
    Calls Try.prog 49 #[.slice p len cap, .func (.func g) #[] lb] w fun e w' => e = .returned (.int .i64 (Ky.idx pr l)) ∧ Below w.heap.size w w' := by
  have HX : Hid (Rgs w p l) := hx
  have HL : Hid (l.length = len) := hlen
  have HP : Hid (Tst g lb pr w) := hp
  clear hx hlen hp
  go_enter Try.func49, Try.ntmps49
  go_wp2_with fail
  go_loopw [8] (fun i wr => ∃ k : Nat, k ≤ len ∧ i = .int .i64 k ∧ Hid (Below w.heap.size w wr) ∧ Hid (∀ j x, j < k → l[j]? = some x → pr x = false)) (fun i _ => len - (intOf i).toNat)
  case atStart => exact ⟨0, Nat.zero_le _, rfl, Below.refl _ _, fun j x hj => absurd hj (Nat.not_lt_zero _)⟩
  case round =>
    obtain ⟨k, hk, rfl, HW, HA⟩ := hrel
    by_cases hlt : k < len
    · have hli : (k : Int) < (len : Int) := by omega
      obtain ⟨b, o, x, rfl, hg, hblt, c0, c1⟩ := (HX.out.below HW.out (Nat.le_refl _)).at (j := k) (by have := HL.out; omega)
      have hcall := HP.out wr x HW.out
      have HG : Hid (l[k]? = some x) := hg
      clear hg
      cases hq : pr x with
      | true =>
        rw [hq] at hcall
        have HI : Hid (Ky.idx pr l = k) := Ky.idx_hit HG.out hq HA.out
        go_wp2_with (go_at_fn g; refine hcall.mono ?_; rintro e w' ⟨rfl, hb'⟩)
        go_ret
        exact ⟨by rw [HI.out]; rfl, HW.out.trans (hb'.mono HW.out.size)⟩
      | false =>
        rw [hq] at hcall
        go_wp2_with (go_at_fn g; refine hcall.mono ?_; rintro e w' ⟨rfl, hb'⟩)
        go_roundw
        case rel =>
          refine ⟨k + 1, by omega, by go_num, HW.out.trans (hb'.mono HW.out.size), fun j y hj hy => ?_⟩
          by_cases e : j = k
          · subst e
            rw [HG.out] at hy
            cases hy
            exact hq
          · exact HA.out j y (by omega) hy
        case measure => simp [intOf]; omega
    · have hkk : k = len := by omega
      have hli : ¬ ((k : Int) < (len : Int)) := by omega
      have HI : Hid (Ky.idx pr l = -1) := by
        unfold Hid Ky.idx
        rw [Ky.any_miss (fun j x hj => HA.out j x (by have := HL.out; omega))]
        rfl
      go_wp2
      go_ret
      exact ⟨by rw [HI.out]; rfl, HW.out⟩

set_option maxHeartbeats 800000 in
theorem contains_any (g : Nat) (lb : Array Value) (pr : Rg → Bool) (eg : ∀ args w, (callFunc g args).run Try.prog w = .ok (.enter g args) w) (p : Option Addr) (len cap : Nat) (l : List Rg) (w : World) (hp : Tst g lb pr w)
    (hlen : l.length = len) (hx : Rgs w p l) (hl : len ≤ 4611686018427387904) :
    Calls Try.prog 39 #[.slice p len cap, .func (.func g) #[] lb] w fun e w' => e = .returned (.bool (l.any pr)) ∧ Below w.heap.size w w' := by
  have HI : Hid (decide (0 ≤ Ky.idx pr l) = l.any pr) := by
    unfold Hid Ky.idx
    cases l.any pr <;> simp
  go_enter Try.func39, Try.ntmps39
  go_wp2_with fail
  refine (idx_any g lb pr eg p len cap l _ hp hlen hx hl).mono ?_
  rintro e w1 ⟨rfl, hb1⟩
  go_wp2
  go_ret
  exact ⟨by rw [← HI.out]; rfl, hb1⟩

theorem hits1_any (key : ByteArray) (B : Nat) (w : World) (hB : B < w.heap.size) (hc : w.cell? ⟨B, 0, none⟩ = some (.string key)) : Tst 40 #[.pointer (some ⟨B, 0, none⟩)] (fun x => Ky.inn x key) w := by
  intro W x hb
  have hc1 : W.cell? ⟨B, 0, none⟩ = some (.string key) := (hb.cell (p := ⟨B, 0, none⟩) hB).trans hc
  have hlt : B < W.heap.size := Nat.lt_of_lt_of_le hB hb.size
  have hc2 : (W.alloc (.cells #[.string x.lo, .string x.hi] 24)).cell? ⟨B, 0, none⟩ = some (.string key) := by
    rw [((Below.refl _ W).alloc (Nat.le_refl _) _).cell (p := ⟨B, 0, none⟩) hlt]
    exact hc1
  show Calls Try.prog 40 #[x.val, .pointer (some ⟨B, 0, none⟩)] W _
  clear hb hc
  go_enter Try.func40, Try.ntmps40
  go_wp2_with fail
  refine (in_any x key _).mono ?_
  rintro e w1 ⟨rfl, hb1⟩
  have HB : Hid (Below W.heap.size W w1) := ((Below.refl _ W).alloc (Nat.le_refl _) _).trans (hb1.mono (by simp))
  clear hb1
  go_wp2
  go_ret
  exact ⟨rfl, HB.out⟩

theorem hits_any (p : Option Addr) (len cap : Nat) (l : List Rg) (key : ByteArray) (w : World) (hlen : l.length = len) (hx : Rgs w p l) (hl : len ≤ 4611686018427387904) :
    Calls Try.prog 16 #[.slice p len cap, .string key] w fun e w' => e = .returned (.bool (Ky.hits l key)) ∧ Below w.heap.size w w' := by
  have eg : ∀ args w, (callFunc 40 args).run Try.prog w = .ok (.enter 40 args) w := enters_of Try.func40 (by kernel_rfl) rfl
  have hb0 : Below w.heap.size w (w.alloc (.cells #[.string key] 9)) := (Below.refl _ _).alloc (Nat.le_refl _) _
  have HK : Hid (Bk (w.alloc (.cells #[.string key] 9)) w.heap.size 9 #[.string key]) := Bk.new _ _ _
  go_enter Try.func16, Try.ntmps16
  go_wp2_with fail
  refine (contains_any 40 _ (fun x => Ky.inn x key) eg p len cap l _ (hits1_any key w.heap.size _ HK.out.lt (HK.out.cell 0)) hlen (hx.below hb0 (Nat.le_refl _)) hl).mono ?_
  rintro e w1 ⟨rfl, hb1⟩
  have HB : Hid (Below w.heap.size w w1) := hb0.trans (hb1.mono hb0.size)
  clear hb1
  go_wp2
  go_ret
  exact ⟨rfl, HB.out⟩

end Go.Proofs.Ytgppnbcneknpdaa
