/- The statements' own first look. -/
import Derived.Test.YtlfgclmgpbaenaaRcEq
import Derived.Test.YtlfgclmgpbaenaaRcBk
import Derived.Test.YtlfgclmgpbaenaaByts
namespace Go.Proofs.Ytlfgclmgpbaenaa
open Go.RowKit
set_option linter.unusedVariables false
set_option maxRecDepth 100000

theorem InW.one (w : World) (x : Wr) : InW (w.alloc (.cells x.cells.toArray 33)) (some ⟨w.heap.size, 0, none⟩) 1 1 [x] := by
  refine ⟨rfl, fun _ => ⟨w.heap.size, 0, rfl, fun i g hi j v hj => ?_⟩, Nat.le_refl _, by omega, fun e => by cases e⟩
  have hi0 : i = 0 := by
    have := (List.getElem?_eq_some_iff.1 hi).1
    simpa using this
  subst hi0
  have hg : x = g := by simpa using hi
  subst hg
  have := (Bk.new w 33 x.cells.toArray).cell j
  simp only [Nat.zero_mul, Nat.add_zero, Nat.zero_add]
  rw [this]
  simpa using hj

theorem InW.empty (w : World) : InW w none 0 0 [] := ⟨rfl, fun h => by omega, Nat.le_refl _, by omega, fun _ => ⟨rfl, rfl⟩⟩

theorem Own.inb {w : World} {base n c : Nat} {p : Option Addr} {xs : List Int} (h : Own w base (.slice p n c) n xs) (hb : ∀ y ∈ xs, 0 ≤ y ∧ y < 256) : InB 9223372036854775807 w p n c xs := by
  obtain ⟨q, d, hv, hc, hp, hby⟩ := h.bys
  simp only [Value.slice.injEq] at hv
  obtain ⟨rfl, _, rfl⟩ := hv
  exact ⟨h.len, hby, hc, h.cap_le, hp, hb⟩

def liveW : Wr := ⟨⟨#[97]⟩, ⟨#[49]⟩, false⟩
theorem live_E : Rc.comE 3 [liveW] = 0 := by
  rw [Rc.comE_good (by decide), Rc.wsE, if_pos (by decide), Rc.le_empty (by decide), Rc.wsE]
  rfl
theorem live_B : Rc.comB 3 [liveW] = [111, 109, 109, 97, 108, 109, 49] := by decide

set_option maxHeartbeats 2000000 in
/-- cressetlaw03.live. -/
theorem live_any (w : World) : Calls Try.prog 15 #[] w fun e w' => e = .returned (.bool true) ∧ Below w.heap.size w w' := by
  have HB0 : Hid (Below w.heap.size w (w.alloc (.cells #[.string ⟨#[97]⟩, .string ⟨#[49]⟩, .bool false] 33))) := (Below.refl _ _).alloc (Nat.le_refl _) _
  have HI0 : Hid (InW (w.alloc (.cells #[.string ⟨#[97]⟩, .string ⟨#[49]⟩, .bool false] 33)) (some ⟨w.heap.size, 0, none⟩) 1 1 [liveW]) := InW.one w liveW
  go_enter Try.func15, Try.ntmps15
  go_wp2_with fail
  refine (commit_any 3 (some ⟨w.heap.size, 0, none⟩) 1 1 [liveW] _ HI0.out).mono ?_
  rintro e w1 ⟨v, rfl, hb1, h1, -⟩
  have ho := h1 live_E
  rw [live_E]
  rw [live_B] at ho
  obtain ⟨p, c, hv, hc, hp, hby⟩ := ho.bys
  subst hv
  have HI1 : Hid (InB 9223372036854775807 w1 p 7 c [111, 109, 109, 97, 108, 109, 49]) := ho.inb (by decide)
  have HB1 : Hid (Below w.heap.size w w1) := HB0.out.trans (hb1.mono HB0.out.size)
  clear ho hc hp hby hb1 h1 HI0 HB0
  go_wp2_with fail
  refine (takeCommit_any p 7 c [111, 109, 109, 97, 108, 109, 49] _ HI1.out).mono ?_
  rintro e w2 ⟨v, rfl, ho2, hb2⟩
  rw [← live_B, Rc.takeCom_back live_E] at ho2 ⊢
  simp only at ho2 ⊢
  obtain ⟨pv, cv, rfl⟩ := own_form ho2
  have HO2 : Hid (InW w2 pv 1 cv [liveW]) := ho2.inw
  have HB2 : Hid (Below w.heap.size w w2) := HB1.out.trans (hb2.mono HB1.out.size)
  have HI2 : Hid (InB 9223372036854775807 w2 p 7 c [111, 109, 109, 97, 108, 109, 49]) := HI1.out.below hb2
  clear ho2 hb2 HI1 HB1
  simp only [List.length_singleton]
  have hb3 : Below w2.heap.size w2 ((w2.alloc (.cells #[.int .i64 3, .slice pv 1 cv] 24)).alloc (.cells #[.int .u8 111, .int .u8 109, .int .u8 109, .int .u8 97, .int .u8 108, .int .u8 109, .int .u8 49] 5)) := ((Below.refl _ _).alloc (Nat.le_refl _) _).alloc (by simp) _
  have hB3 : Bys ((w2.alloc (.cells #[.int .i64 3, .slice pv 1 cv] 24)).alloc (.cells #[.int .u8 111, .int .u8 109, .int .u8 109, .int .u8 97, .int .u8 108, .int .u8 109, .int .u8 49] 5)) (some ⟨w2.heap.size + 1, 0, none⟩) [111, 109, 109, 97, 108, 109, 49] := by
    have := bys_laid (w2.alloc (.cells #[.int .i64 3, .slice pv 1 cv] 24)) [111, 109, 109, 97, 108, 109, 49] (0, 0)
    simpa using this
  have HB3 : Hid _ := hB3
  have HI3 : Hid _ := HI2.out.below hb3
  have HO3 : Hid _ := HO2.out.up hb3
  have HW3 : Hid _ := HB2.out.trans (hb3.mono HB2.out.size)
  have HK3 : Hid (Bk ((w2.alloc (.cells #[.int .i64 3, .slice pv 1 cv] 24)).alloc (.cells #[.int .u8 111, .int .u8 109, .int .u8 109, .int .u8 97, .int .u8 108, .int .u8 109, .int .u8 49] 5)) w2.heap.size 24 #[.int .i64 3, .slice pv 1 cv]) := (Bk.new _ _ _).alloc _
  clear hB3 hb3 HI2 HO2 HB2
  go_wp2_with fail
  generalize ((w2.alloc (.cells #[.int .i64 3, .slice pv 1 cv] 24)).alloc (.cells #[.int .u8 111, .int .u8 109, .int .u8 109, .int .u8 97, .int .u8 108, .int .u8 109, .int .u8 49] 5)) = w3 at *
  refine (equal_any p _ c 7 7 7 [111, 109, 109, 97, 108, 109, 49] [111, 109, 109, 97, 108, 109, 49] _ rfl rfl HI3.out.bys HB3.out (by decide) (by decide)).mono ?_
  rintro e w4 ⟨rfl, hw4⟩
  subst hw4
  have k0 : w4.cell? ⟨w2.heap.size, 0, none⟩ = some (.int .i64 3) := HK3.out.cell 0
  have k1 : w4.cell? ⟨w2.heap.size, 1, none⟩ = some (.slice pv 1 cv) := HK3.out.cell 1
  simp only [decide_true]
  go_wp2_with fail
  refine (sameCommit_any 3 3 pv pv 1 1 cv cv [liveW] [liveW] _ HO3.out HO3.out).mono ?_
  rintro e w5 ⟨b, rfl, hq, hb5⟩
  obtain rfl : b = true := hq.2 ⟨rfl, rfl⟩
  have HO5 : Hid _ := HO3.out.up hb5
  have HW5 : Hid _ := HW3.out.trans (hb5.mono HW3.out.size)
  have HK5 : Hid (Bk w5 w2.heap.size 24 #[.int .i64 3, .slice pv 1 cv]) := HK3.out.below hb5 HK3.out.lt
  have m0 : w5.cell? ⟨w2.heap.size, 0, none⟩ = some (.int .i64 3) := HK5.out.cell 0
  have m1 : w5.cell? ⟨w2.heap.size, 1, none⟩ = some (.slice pv 1 cv) := HK5.out.cell 1
  clear hq hb5 k0 k1 HI3 HB3 HO3 HW3 HK3
  go_wp2_with fail
  refine (sameCommit_any 3 0 pv none 1 0 cv 0 [liveW] [] _ HO5.out (InW.empty _)).mono ?_
  rintro e w6 ⟨b, rfl, hq, hb6⟩
  obtain rfl : b = false := by
    cases b
    · rfl
    · exact absurd (hq.1 rfl).1 (by omega)
  have HW6 : Hid _ := HW5.out.trans (hb6.mono HW5.out.size)
  clear hq hb6 m0 m1 HO5 HW5 HK5
  go_wp2
  go_ret
  exact ⟨rfl, HW6.out⟩

end Go.Proofs.Ytlfgclmgpbaenaa
