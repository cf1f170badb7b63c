/- Rows that are laid end to end. -/
import Derived.Test.YtlfgclmgpbaenaaRcBytes
import Derived.Test.YtlfgclmgpbaenaaRcLive
import Derived.Lib.AppendZerosOnto
import Derived.WalkKit
import Derived.Lib.Walk
import Derived.Lib.SliceRun
namespace Go.Proofs.Ytlfgclmgpbaenaa
open Go.RowKit
set_option linter.unusedVariables false
set_option maxRecDepth 100000

theorem zero_size (z : Value) (h : z.cells.size = 1) (k : Nat) : (Builtin.zeroCells z.cells k).size = k := by
  simp [Builtin.zeroCells, h]

open Go.Lib in
set_option maxHeartbeats 2000000 in
theorem grow_nil (n : Nat) (w : World) (h0 : 0 < n) (hn : n ≤ 1099511627776) :
    Calls Try.prog 80 #[.slice none 0 0, .int .i64 n] w fun e w' => ∃ v, e = .returned v ∧ Own w' w.heap.size v 0 [] ∧ Below w.heap.size w w' := by
  obtain ⟨i0, hi, hz0, hz1, hz2⟩ := info_parts u8info
  have hrz : ∀ ty, (Builtin.append_ #[42, 3] ty #[.slice none 0 0, .int .i64 (n : Int)]).run Try.prog w =
      .ok (.slice (some ⟨w.heap.size, 0, none⟩) (0 + n) (grownCap w (0 + n) 0 5)) (w.drew.alloc (.cells (([] : List Value).toArray ++ Builtin.zeroCells (Value.int .u8 0).cells n ++ Builtin.zeroCells (Value.int .u8 0).cells (grownCap w (0 + n) 0 5 - (0 + n))) 5)) := fun ty => by
    exact Lib.run_append_grow_zeros w 42 3 ty 5 i0 _ .i64 .i64 Try.underlying42 Try.underlying3 hi hz0 none 0 0 [] (run_firstCells_none w.drew i0.size 0 0 0) n h0 (by omega) (by omega) (by omega)
      (by rw [hz2]; omega)
      (growslice_fits (by omega) (by rw [hz2]; omega))
  have hGn : 0 + n ≤ grownCap w (0 + n) 0 5 := grownCap_ge w _ _ _
  have hG63 : grownCap w (0 + n) 0 5 ≤ 9223372036854775807 := by
    have := grownCap_le_maxLen w (0 + n) 0 5 (by unfold maxLen; omega)
    unfold maxLen at this
    omega
  generalize grownCap w (0 + n) 0 5 = G at *
  have HO : Hid (Own (w.drew.alloc (.cells (([] : List Value).toArray ++ Builtin.zeroCells (Value.int .u8 0).cells n ++ Builtin.zeroCells (Value.int .u8 0).cells (G - (0 + n))) 5)) w.heap.size (.slice (some ⟨w.heap.size, 0, none⟩) 0 G) 0 []) := by
    refine ⟨rfl, .inr ⟨w.heap.size, G, _, rfl, Nat.le_refl _, Bk.new w.drew _ _, Nat.zero_le _, by unfold maxLen; omega, ?_, ?_⟩⟩
    · simp only [Array.size_append, zero_size (Value.int .u8 0) rfl]
      simp
      omega
    · simp
  have HB : Hid (Below w.heap.size w (w.drew.alloc (.cells (([] : List Value).toArray ++ Builtin.zeroCells (Value.int .u8 0).cells n ++ Builtin.zeroCells (Value.int .u8 0).cells (G - (0 + n))) 5))) := ((Below.refl _ _).drew).alloc (Nat.le_refl _) _
  generalize w.drew.alloc (.cells (([] : List Value).toArray ++ Builtin.zeroCells (Value.int .u8 0).cells n ++ Builtin.zeroCells (Value.int .u8 0).cells (G - (0 + n))) 5) = wn at *
  have h1 : ¬ ((n : Int) < 0) := by omega
  have h4 : (n : Int) > 0 := by omega
  have h3 : wrap64 (n : Int) = n := by unfold wrap64; omega
  clear hi hz0 hz1 hz2
  go_enter Try.func80, Try.ntmps80
  go_wp2_with (at_builtin; refine Lib.wpList_append_run _ rfl _ _ _ _ rfl _ _ rfl rfl _ _ (hrz _) ?_)
  go_ret
  exact ⟨_, rfl, HO.out, HB.out⟩

/-- How many bytes the first k rows have. -/
def upTo (n m k : Nat) : Nat := if k = 0 then 0 else if k = 1 then n else n + m

set_option maxHeartbeats 4000000 in
theorem concat_two (g : Nat) (p q : Option Addr) (n c m d : Nat) (xs ys : List Int) (w : World) (k0 : w.cell? ⟨g, 0, none⟩ = some (.slice p n c)) (k1 : w.cell? ⟨g, 1, none⟩ = some (.slice q m d))
    (hx : Bys w p xs) (hxl : xs.length = n) (hp : p = none → n = 0 ∧ c = 0) (hy : Bys w q ys) (hyl : ys.length = m) (hq : q = none → m = 0 ∧ d = 0) (h0 : 0 < n + m) (hn : n + m ≤ 1099511627776) :
    Calls Try.prog 65 #[.slice (some ⟨g, 0, none⟩) 2 2] w fun e w' => ∃ v, e = .returned v ∧ Own w' w.heap.size v (n + m) (xs ++ ys) ∧ Below w.heap.size w w' := by
  have HP : Hid (∀ w', Below w.heap.size w w' → (w'.cell? ⟨g, 0, none⟩ = some (.slice p n c) ∧ w'.cell? ⟨g, 1, none⟩ = some (.slice q m d)) ∧ Bys w' p xs ∧ Bys w' q ys) := by
    intro w' hb
    refine ⟨⟨?_, ?_⟩, hx.below hb (Nat.le_refl _), hy.below hb (Nat.le_refl _)⟩
    · rw [hb.cell (p := ⟨g, 0, none⟩) (World.block_lt_of_cell? w _ k0)]
      exact k0
    · rw [hb.cell (p := ⟨g, 1, none⟩) (World.block_lt_of_cell? w _ k1)]
      exact k1
  have HXL : Hid (xs.length = n) := hxl
  have HYL : Hid (ys.length = m) := hyl
  have HPN : Hid (p = none → n = 0 ∧ c = 0) := hp
  have HQN : Hid (q = none → m = 0 ∧ d = 0) := hq
  clear hx hy hxl hyl hp hq
  go_enter Try.func65, Try.ntmps65
  go_wp2_with fail
  go_loopw [3, 11] (fun sz i wr => ∃ k : Nat, k ≤ 2 ∧ i = .int .i64 k ∧ sz = .int .i64 (upTo n m k) ∧ w = wr) (fun _ i _ => 2 - (intOf i).toNat)
  case atStart => exact ⟨0, Nat.zero_le _, rfl, rfl, rfl⟩
  case round =>
    obtain ⟨k, hk, rfl, rfl, rfl⟩ := hrel
    obtain rfl | rfl | rfl : k = 0 ∨ k = 1 ∨ k = 2 := by omega
    · have hs : wrap64 (0 + (n : Int)) = n := by unfold wrap64; omega
      have hs1 : ¬ ((n : Int) < 0) := by omega
      rw [show upTo n m 0 = 0 from rfl]
      go_wp2
      go_roundw
      case rel => exact ⟨1, by omega, by go_num, by first | rfl | simp [upTo], by first | rfl | trivial⟩
      case measure => simp [intOf]
    · have hs : wrap64 ((n : Int) + (m : Int)) = (n : Int) + (m : Int) := by unfold wrap64; omega
      have hs1 : ¬ ((n : Int) + (m : Int) < 0) := by omega
      rw [show upTo n m 1 = n from rfl]
      go_wp2
      go_roundw
      case rel => exact ⟨2, by omega, by go_num, by first | rfl | simp [upTo], by first | rfl | trivial⟩
      case measure => simp [intOf]
    · rw [show upTo n m 2 = n + m from rfl]
      go_wp2_with fail
      refine (grow_nil (n + m) _ h0 hn).mono ?_
      rintro e w1 ⟨v, rfl, ho, hb⟩
      have HO1 : Hid (Own w1 w.heap.size v 0 []) := ho
      have HB1 : Hid (Below w.heap.size w w1) := hb
      clear ho hb k0 k1
      go_wp2_with fail
      go_loopw [6, 27] (fun v i wr => ∃ k : Nat, k ≤ 2 ∧ i = .int .i64 k ∧ Hid (Own wr w.heap.size v (upTo n m k) (if k = 0 then [] else if k = 1 then xs else xs ++ ys)) ∧ Hid (Below w.heap.size w wr)) (fun _ i _ => 2 - (intOf i).toNat)
      case atStart => exact ⟨0, Nat.zero_le _, rfl, HO1, HB1⟩
      case round =>
        obtain ⟨k, hk, rfl, HO, HB⟩ := hrel
        obtain ⟨⟨k0, k1⟩, hx, hy⟩ := HP.out _ HB.out
        have HX : Hid (Bys wr p xs) := hx
        have HY : Hid (Bys wr q ys) := hy
        clear hx hy HO1 HB1
        obtain rfl | rfl | rfl : k = 0 ∨ k = 1 ∨ k = 2 := by omega
        · have HO2 : Hid (Own wr w.heap.size u6 0 []) := HO.out
          clear HO
          go_wp2_with (at_builtin; refine app8 _ rfl _ _ rfl w.heap.size u6 0 [] rfl HO2.out p n c xs rfl HX.out HXL.out HPN.out (by omega) HB.out.size ?_; intro v4 w4 ho4 hb4; refine Hid.out ?_)
          have HO4 : Hid (Own w4 w.heap.size v4 n xs) := by simpa [Hid] using ho4
          have HB4 : Hid (Below w.heap.size w w4) := HB.out.trans hb4
          clear ho4 hb4 HO2 HB HX HY k0 k1
          unfold Hid
          go_wp2
          go_roundw
          case rel => exact ⟨1, by omega, by go_num, HO4, HB4⟩
          case measure => simp [intOf]
        · have HO2 : Hid (Own wr w.heap.size u6 n xs) := HO.out
          clear HO
          go_wp2_with (at_builtin; refine app8 _ rfl _ _ rfl w.heap.size u6 n xs rfl HO2.out q m d ys rfl HY.out HYL.out HQN.out (by omega) HB.out.size ?_; intro v4 w4 ho4 hb4; refine Hid.out ?_)
          have HO4 : Hid (Own w4 w.heap.size v4 (n + m) (xs ++ ys)) := ho4
          have HB4 : Hid (Below w.heap.size w w4) := HB.out.trans hb4
          clear ho4 hb4 HO2 HB HX HY k0 k1
          unfold Hid
          go_wp2
          go_roundw
          case rel => exact ⟨2, by omega, by go_num, HO4, HB4⟩
          case measure => simp [intOf]
        · have HO2 : Hid (Own wr w.heap.size u6 (n + m) (xs ++ ys)) := HO.out
          clear HO HX HY k0 k1
          go_wp2
          go_ret
          exact ⟨_, rfl, HO2.out, HB.out⟩

end Go.Proofs.Ytlfgclmgpbaenaa
