import Derived.Test.YtcolmebpbjjehabLive
import Derived.Test.YtcolmebpbjjehabApp
import Derived.Test.YtcolmebpbjjehabBack
namespace Go.Proofs.Ytcolmebpbjjehab
open Go.RowKit
set_option linter.unusedVariables false

namespace Cd
/-- A frame. -/
def frm (xs : List Int) : List Int := enc xs.length ++ xs ++ be 4 (sum xs).toNat
end Cd

set_option maxHeartbeats 1000000 in
/-- cressetref01.Sum. -/
theorem refSum_any (p : Option Addr) (c n : Nat) (xs : List Int) (w : World) (hn : xs.length = n) (hx : Bys w p xs) (hm : n ≤ 9223372036854775807) (hy : ∀ y ∈ xs, 0 ≤ y ∧ y < 256) :
    Calls Try.prog 21 #[.slice p n c] w fun e w' => e = .returned (.int .u32 (Cd.sum xs)) ∧ w' = w := by
  have HM : Hid (xs.length = n) := hn
  have HB : Hid (Bys w p xs) := hx
  have HY : Hid (∀ y ∈ xs, 0 ≤ y ∧ y < 256) := hy
  clear hn hx hy
  go_enter Try.func21, Try.ntmps21
  go_wp2_with fail
  go_loop [3, 4, 5] (fun s3 s4 i => ∃ (j : Nat) (a b : Int), j ≤ n ∧ i = .int .i64 j ∧ s3 = .int .u32 a ∧ s4 = .int .u32 b ∧ (0 ≤ a ∧ a < 65521) ∧ (0 ≤ b ∧ b < 65521) ∧ Hid ((a, b) = Cd.adl (xs.take j))) (fun _ _ i => n - (intOf i).toNat)
  case atStart => exact ⟨0, 1, 0, Nat.zero_le _, rfl, rfl, rfl, by omega, by omega, rfl⟩
  case round =>
    obtain ⟨j, a, b, hj, rfl, rfl, rfl, ha, hb, hab⟩ := hrel
    by_cases hjm : j < n
    · have hjx : j < xs.length := by rw [HM.out]; exact hjm
      obtain ⟨b1, o1, rfl, hcs⟩ := HB.out (by omega)
      have hcy := hcs j hjx
      obtain ⟨y, hy⟩ : ∃ y, xs.getD j 0 = y := ⟨_, rfl⟩
      rw [hy] at hcy
      have hyb : 0 ≤ y ∧ y < 256 := by
        rw [← hy]
        have := HY.out xs[j] (List.getElem_mem hjx)
        simpa [List.getD, hjx] using this
      have HQ : Hid (((a + y) % 65521, (b + (a + y) % 65521) % 65521) = Cd.adl (xs.take (j + 1))) := by
        unfold Hid
        rw [Cd.take_snoc xs j hjx, hy, Cd.adl_snoc, ← hab.out]
        rfl
      clear hcs hy
      go_wp2
      go_round
      case rel => exact ⟨j + 1, (a + y) % 65521, (b + (a + y) % 65521) % 65521, by omega, by go_num, by go_num, by go_num, by omega, by omega, HQ⟩
      case measure => simp [intOf]; omega
    · obtain rfl : j = n := by omega
      have HQ : Hid (65536 * b + a = Cd.sum xs) := by
        have h := hab.out
        rw [List.take_of_length_le (by rw [HM.out]; omega)] at h
        unfold Hid Cd.sum
        rw [← h]
        simp only
        omega
      go_wp2
      go_ret
      exact ⟨ret_int HQ.out, rfl⟩

set_option maxHeartbeats 1000000 in
/-- cressetref01.tail. -/
theorem tail_any (s : Int) (w : World) (h0 : 0 ≤ s) (h1 : s < 4294967296) :
    Calls Try.prog 32 #[.int .u32 s] w fun e w' => ∃ v, e = .returned v ∧ Own w' w.heap.size v 4 (Cd.be 4 s.toNat) ∧ Below w.heap.size w w' := by
  have HE : Hid (Cd.be 4 s.toNat = [s / 16777216, s / 65536 % 256, s / 256 % 256, s % 256]) := by
    unfold Hid
    simp only [Cd.be, Nat.reducePow]
    congr 1
    · omega
    congr 1
    · omega
    congr 1
    · omega
    congr 1
    omega
  go_enter Try.func32, Try.ntmps32
  go_wp2
  go_ret
  rw [HE.out]
  exact ⟨_, rfl, own_built w _ [s / 16777216, s / 65536 % 256, s / 256 % 256, s % 256] 4 (Nat.le_refl _) rfl (by omega), (Below.refl _ _).alloc (Nat.le_refl _) _⟩

/-- A slice of one slice of bytes. -/
theorem rows_one {w : World} {p : Option Addr} {xs : List Int} (n c : Nat) (hn : xs.length = n) (h : Bys w p xs) (hm : n ≤ 9223372036854775807) (hy : ∀ y ∈ xs, 0 ≤ y ∧ y < 256) : Rws (w.alloc (.cells #[.slice p n c] 22)) (some ⟨w.heap.size, 0, none⟩) [(p, c, xs)] := by
  intro _
  refine ⟨w.heap.size, 0, rfl, fun i hi => ?_⟩
  match i, hi with
  | 0, _ =>
    refine ⟨?_, bys_alloc h _, by rw [← hn] at hm; exact hm, hy⟩
    rw [Nat.zero_add, cell_of_row _ w.heap.size 0 _ 22 (0, 0) (heap_alloc_new w _)]
    subst hn
    rfl

theorem flat_one (p : Option Addr) (c : Nat) (xs : List Int) : flat [(p, c, xs)] = xs := by simp [flat]

set_option maxHeartbeats 1000000 in
/-- codec.Frame of bytes that are not too many. -/
theorem frame_any (p : Option Addr) (c n : Nat) (xs : List Int) (w : World) (hn : xs.length = n) (hx : Bys w p xs) (hp : p = none → n = 0 ∧ c = 0) (hm : n ≤ 1048576) (hy : ∀ y ∈ xs, 0 ≤ y ∧ y < 256) :
    Calls Try.prog 15 #[.slice p n c] w fun e w' => ∃ v, e = .returned (.tuple #[v, .int .i64 0]) ∧ Own w' w.heap.size v (Cd.width n + n + 4) (Cd.frm xs) ∧ Below w.heap.size w w' := by
  obtain ⟨i0, hi, hz0, hz1, hz2⟩ := info_parts u8info
  have HN : Hid (xs.length = n) := hn
  have HB : Hid (Bys w p xs) := hx
  have HP : Hid (p = none → n = 0 ∧ c = 0) := hp
  have HY : Hid (∀ y ∈ xs, 0 ≤ y ∧ y < 256) := hy
  have HF : Hid (Cd.enc n ++ xs ++ Cd.be 4 (Cd.sum xs).toNat = Cd.frm xs) := by unfold Hid Cd.frm; rw [hn]
  have hw := Cd.width_pos n
  have hs := Cd.sum_bd xs
  clear hn hx hp hy
  go_enter Try.func15, Try.ntmps15
  go_wp2_with fail
  refine (width_any n _ (by omega) (by omega)).mono ?_
  rintro e w0 ⟨rfl, hw0⟩
  subst hw0
  go_wp2_with (at_make; refine wpList_make_own _ rfl _ _ 22 rfl w0.heap.size 5 i0 (.int .u8 0) 1 Try.underlying22 hi hz0 hz1 _ _ _ (Cd.width n + n + 4) rfl rfl (by omega) (by rw [hz2]; omega) (by unfold maxLen; omega) (Nat.le_refl _) ?_)
  intro w1 hown hg1
  have hb1 : Below w0.heap.size w0 w1 := (Below.refl _ _).grown hg1 (Nat.le_refl _) (fun k hk => by cases hk)
  have HO1 : Own w1 w0.heap.size (.slice (some ⟨w0.heap.size, 0, none⟩) 0 (Cd.width n + n + 4)) 0 [] := hown
  have hlt1 : w0.heap.size < w1.heap.size := (World.ownsRow.lt hown w0.heap.size rfl).2
  clear hown hg1
  go_wp2_with fail
  refine (appendInt_any _ _ _ _ _ n _ HO1 (by omega) (by omega) (by omega)).mono ?_
  rintro e w2 ⟨rfl, HO2, hg2⟩
  have hb2 : Below w0.heap.size w0 w2 := hb1.trans (below_of_grown hg2 (by omega) (Nat.le_refl _))
  rw [Nat.zero_add, List.nil_append] at HO2
  rw [Nat.zero_add]
  have HB2 : Hid (Bys w2 p xs) := HB.out.below hb2 (Nat.le_refl _)
  clear HO1 hg2 hb1
  go_wp2_with (at_builtin; refine wpList_append_fits_any _ rfl _ _ 22 rfl w0.heap.size 5 i0 1 Try.underlying22 hi hz1 w0.heap.size (Cd.width n) (Cd.width n + n + 4) ((Cd.enc n).map (Value.int .u8)) rfl HO2 p n c (xs.map (Value.int .u8)) rfl (by simp [HN.out]) HP.out HB2.out.cells (ints_oneCell _ _) (by omega) ?_)
  intro w3 hown3 hg3
  have HO3 : Own w3 w0.heap.size (.slice (some ⟨w0.heap.size, 0, none⟩) (Cd.width n + n) (Cd.width n + n + 4)) (Cd.width n + n) (Cd.enc n ++ xs) := by simpa [Own] using hown3
  have hb3 : Below w0.heap.size w0 w3 := hb2.trans (below_of_grown hg3 (by have := hb2.size; omega) (Nat.le_refl _))
  have HR : Hid (Rws (w3.alloc (.cells #[.slice p n c] 22)) (some ⟨w3.heap.size, 0, none⟩) [(p, c, xs)]) := rows_one n c HN.out (HB.out.below hb3 (Nat.le_refl _)) (by omega) HY.out
  clear hown3 hg3 hb2 HO2 HB2
  go_wp2_with fail
  refine (sum_any _ _ 1 _ _ rfl HR.out (by omega)).mono ?_
  rintro e w4 ⟨rfl, hw4⟩
  have hb4 : Below w0.heap.size w0 w4 := by rw [hw4]; exact hb3.alloc hb3.size _
  have HO4 : Own w4 w0.heap.size (.slice (some ⟨w0.heap.size, 0, none⟩) (Cd.width n + n) (Cd.width n + n + 4)) (Cd.width n + n) (Cd.enc n ++ xs) := by rw [hw4]; exact HO3.below ((Below.refl _ _).alloc (Nat.le_refl _) _) (Nat.le_refl _)
  clear hw4 HR HO3 hb3
  rw [flat_one]
  go_wp2_with fail
  refine (num_any _ _ _ _ _ (Cd.sum xs) 4 _ HO4 hs.1 (by omega) (by omega) (by omega) (by omega)).mono ?_
  rintro e w5 ⟨rfl, HO5, hg5⟩
  have hb5 : Below w0.heap.size w0 w5 := hb4.trans (below_of_grown hg5 (by have := hb4.size; omega) (Nat.le_refl _))
  rw [show (4 : Int).toNat = 4 from rfl] at HO5 ⊢
  clear HO4 hb4 hg5
  go_wp2
  go_ret2
  exact ⟨_, rfl, by rw [← HF.out]; exact HO5, hb5⟩

set_option maxHeartbeats 400000 in
theorem frame_long (p : Option Addr) (c n : Nat) (w : World) (hm : 1048576 < n) (hm2 : n ≤ 9223372036854775807) :
    Calls Try.prog 15 #[.slice p n c] w fun e w' => e = .returned (.tuple #[.slice none 0 0, .int .i64 3]) ∧ w' = w := by
  go_enter Try.func15, Try.ntmps15
  go_wp2
  go_ret2
  exact ⟨rfl, rfl⟩
end Go.Proofs.Ytcolmebpbjjehab
