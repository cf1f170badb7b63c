import Derived.Test.YtlfgclmgpbaenaaLen
import Derived.Test.YtlfgclmgpbaenaaBase
namespace Go.Proofs.Ytlfgclmgpbaenaa
open Go.RowKit
set_option linter.unusedVariables false
set_option maxRecDepth 100000

set_option maxHeartbeats 400000 in
/-- codec.Width. -/
theorem width_any (n : Int) (w : World) (h0 : -9223372036854775808 ≤ n) (h1 : n ≤ 9223372036854775807) :
    Calls Try.prog 94 #[.int .i64 n] w fun e w' => e = .returned (.int .i64 (Cd.width n)) ∧ w' = w := by
  rcases (show (-100 ≤ n ∧ n ≤ 100) ∨ n < -100 ∨ 100 < n by omega) with ⟨a, b⟩ | a | a
  · go_enter Try.func94, Try.ntmps94
    go_wp2
    go_ret
    exact ⟨ret_int (by simp [Cd.width, a, b]), rfl⟩
  · have hw : Hid ((Cd.width n : Int) = 1 + Cd.nb (-1 - n).toNat) := by
      unfold Hid Cd.width
      rw [if_neg (by omega), if_neg (by omega)]
      omega
    go_enter Try.func94, Try.ntmps94
    go_wp2_with fail
    refine (len64_any (-1 - n) _ (by omega) (by omega)).mono ?_
    rintro e w' ⟨L, rfl, rfl, l1, l2, l3⟩
    have hl : Hid _ := l3
    clear l3
    go_wp2
    go_ret
    exact ⟨ret_int (by rw [hw.out, hl.out]), rfl⟩
  · have hw : Hid ((Cd.width n : Int) = 1 + Cd.nb n.toNat) := by
      unfold Hid Cd.width
      rw [if_neg (by omega), if_pos (by omega)]
      omega
    go_enter Try.func94, Try.ntmps94
    go_wp2_with fail
    refine (len64_any n _ (by omega) (by omega)).mono ?_
    rintro e w' ⟨L, rfl, rfl, l1, l2, l3⟩
    have hl : Hid _ := l3
    clear l3
    go_wp2
    go_ret
    exact ⟨ret_int (by rw [hw.out, hl.out]), rfl⟩

set_option maxHeartbeats 400000 in
/-- codec.copyWithRoom. -/
theorem room_any (p : Option Addr) (c len : Nat) (xs : List Int) (more : Int) (w : World) (hlen : xs.length = len) (hx : Bys w p xs) (hm0 : 0 ≤ more) (hl : (len : Int) + more ≤ 281474976710656) (hp : p = none → len = 0 ∧ c = 0) :
    Calls Try.prog 119 #[.slice p len c, .int .i64 more] w fun e w' => e = .returned (.slice (some ⟨w.heap.size, 0, none⟩) len (len + more.toNat)) ∧
      Own w' w.heap.size (.slice (some ⟨w.heap.size, 0, none⟩) len (len + more.toNat)) len xs ∧ Below w.heap.size w w' ∧ w.heap.size < w'.heap.size := by
  obtain ⟨i0, hi, hz0, hz1, hz2⟩ := info_parts u8info
  obtain ⟨m, rfl⟩ := Int.eq_ofNat_of_zero_le hm0
  rw [Int.toNat_natCast]
  have HX : Hid (Bys w p xs) := hx
  have HP : Hid (p = none → len = 0 ∧ c = 0) := hp
  have HL : Hid (xs.length = len) := hlen
  clear hx hp hlen
  go_enter Try.func119, Try.ntmps119
  go_wp2_with (at_make; refine wpList_make_own _ rfl _ _ 42 rfl w.heap.size 5 i0 (.int .u8 0) 1 Try.underlying42 hi hz0 hz1 _ _ _ (len + m) rfl rfl (by omega) (by rw [hz2]; omega) (by unfold maxLen; omega) (Nat.le_refl _) ?_)
  intro w1 hown hg1
  have hb1 : Below w.heap.size w w1 := (Below.refl _ _).grown hg1 (Nat.le_refl _) (fun k hk => by cases hk)
  have HX1 : Hid (Bys w1 p xs) := HX.out.below hb1 (Nat.le_refl _)
  go_wp2_with (at_builtin; refine wpList_append_fits_any _ rfl _ _ 42 rfl w.heap.size 5 i0 1 Try.underlying42 hi hz1 w.heap.size 0 (len + m) [] rfl hown p len c (xs.map (Value.int .u8)) rfl (by simp [HL.out]) HP.out HX1.out.cells (ints_oneCell _ _) (by omega) ?_)
  intro w2 hown2 hg2
  have hb2 : Below w.heap.size w w2 := hb1.grown hg2 hb1.size (fun k hk => by cases hk; exact Nat.le_refl _)
  clear hown hg1 hg2
  go_wp2
  go_ret
  refine ⟨?_, ?_, hb2, ?_⟩
  · simp
  · simpa [Own] using hown2
  · exact (World.ownsRow.lt hown2 w.heap.size rfl).2
end Go.Proofs.Ytlfgclmgpbaenaa
