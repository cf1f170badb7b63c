import Derived.Test.YtlfgclmgpbaenaaPut
import Derived.Laws.BytesArg
import Derived.Lib.AppendStr
namespace Go.Proofs.Ytlfgclmgpbaenaa
open Go.RowKit
set_option linter.unusedVariables false
set_option maxRecDepth 100000

/-- A text's bytes. -/
def strB (s : ByteArray) : List Int := s.data.toList.map fun b => (b.toNat : Int)

theorem strB_length (s : ByteArray) : (strB s).length = s.size := by
  rw [strB, List.length_map, Array.length_toList]
  rfl

theorem strB_byte (s : ByteArray) : ∀ y ∈ strB s, 0 ≤ y ∧ y < 256 := by
  intro y hy
  obtain ⟨b, _, rfl⟩ := List.mem_map.1 hy
  have := b.toNat_lt
  omega

theorem strB_cells (s : ByteArray) : (strB s).map (Value.int .u8) = Lib.strCells s := by simp [strB, Lib.strCells]

theorem strB_of (xs : List Int) (hb : ∀ y ∈ xs, 0 ≤ y ∧ y < 256) : strB (strOfNums xs) = xs := by
  unfold strB
  rw [strOfNums_data, List.map_map]
  have : ∀ y ∈ xs, ((fun b : UInt8 => (b.toNat : Int)) ∘ fun n : Int => UInt8.ofNat n.toNat) y = y := by
    intro y hy
    have := hb y hy
    simp
    omega
  rw [List.map_congr_left this]
  simp

theorem strOf_B (s : ByteArray) : strOfNums (strB s) = s := by
  apply ByteArray.ext
  apply Array.ext'
  show ((strB s).map fun n => UInt8.ofNat n.toNat) = s.data.toList
  unfold strB
  rw [List.map_map]
  have : ∀ b ∈ s.data.toList, ((fun n : Int => UInt8.ofNat n.toNat) ∘ fun b : UInt8 => (b.toNat : Int)) b = b := by
    intro b _
    simp
  rw [List.map_congr_left this]
  simp

set_option maxHeartbeats 1000000 in
/-- codec.PutText. -/
theorem putText_any (p : Option Addr) (c len : Nat) (xs : List Int) (s : ByteArray) (w : World) (hlen : xs.length = len) (hx : Bys w p xs) (hl : len + s.size ≤ 140737488355300) (hp : p = none → len = 0 ∧ c = 0) :
    Calls Try.prog 120 #[.slice p len c, .string s] w fun e w' => ∃ v, e = .returned v ∧ Own w' w.heap.size v (len + Cd.width s.size + s.size) (xs ++ Cd.enc s.size ++ strB s) ∧ Below w.heap.size w w' := by
  obtain ⟨i0, hi, hz0, hz1, hz2⟩ := info_parts u8info
  have HX : Hid (Bys w p xs) := hx
  have HP : Hid (p = none → len = 0 ∧ c = 0) := hp
  have HL : Hid (xs.length = len) := hlen
  clear hx hp hlen
  have hw := Cd.width_pos s.size
  go_enter Try.func120, Try.ntmps120
  go_wp2_with fail
  refine (width_any s.size _ (by omega) (by omega)).mono ?_
  rintro e w' ⟨rfl, hw'⟩
  subst hw'
  go_wp2_with fail
  refine (room_any p c len xs _ _ HL.out HX.out (by omega) (by omega) HP.out).mono ?_
  rintro e w1 ⟨rfl, HO, hb1, hlt⟩
  rw [show ((Cd.width (s.size : Int) : Int) + (s.size : Int)).toNat = Cd.width s.size + s.size by omega] at HO ⊢
  go_wp2_with fail
  refine (appendInt_any _ _ _ _ _ s.size _ HO (by omega) (by omega) (by omega)).mono ?_
  rintro e w2 ⟨rfl, HO2, hg⟩
  have hb2 : Below w'.heap.size w' w2 := hb1.trans (below_of_grown hg (by omega) (Nat.le_refl _))
  have hsz := hb2.size
  clear HO hg hb1
  go_wp2_with (at_builtin; refine Lib.wpList_append_own_string _ rfl _ _ 42 9 rfl w'.heap.size 5 i0 Try.underlying42 Try.underlying9 hi hz0 hz1 hz2 _ (len + Cd.width s.size) _ rfl HO2 s rfl (by unfold maxLen; omega) (by omega) hsz ?_)
  intro v3 w3 hown hg3 _
  have hb3 : Below w'.heap.size w' w3 := hb2.grown hg3 hsz (fun k hk => (HO2.lt k hk).1)
  have HO3 : Own w3 w'.heap.size v3 (len + Cd.width s.size + s.size) (xs ++ Cd.enc s.size ++ strB s) := by
    simpa [Own, strB_cells] using hown
  clear hown hg3 HO2 hb2
  go_wp2
  go_ret
  exact ⟨_, rfl, HO3, hb3⟩
end Go.Proofs.Ytlfgclmgpbaenaa
