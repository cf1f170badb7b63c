import Derived.Test.YtlfgclmgpbaenaaNums
namespace Go.Proofs.Ytlfgclmgpbaenaa
open Go.RowKit
set_option linter.unusedVariables false
set_option maxRecDepth 100000

set_option maxHeartbeats 400000 in
/-- codec.PutInt. -/
theorem putInt_any (p : Option Addr) (c len : Nat) (xs : List Int) (n : Int) (w : World) (hlen : xs.length = len) (hx : Bys w p xs) (hl : len ≤ 281474976710000) (hp : p = none → len = 0 ∧ c = 0)
    (h0 : -9223372036854775808 ≤ n) (h1 : n ≤ 9223372036854775807) :
    Calls Try.prog 115 #[.slice p len c, .int .i64 n] w fun e w' => e = .returned (.slice (some ⟨w.heap.size, 0, none⟩) (len + Cd.width n) (len + Cd.width n)) ∧
      Own w' w.heap.size (.slice (some ⟨w.heap.size, 0, none⟩) (len + Cd.width n) (len + Cd.width n)) (len + Cd.width n) (xs ++ Cd.enc n) ∧ Below w.heap.size w w' := by
  have HX : Hid (Bys w p xs) := hx
  have HP : Hid (p = none → len = 0 ∧ c = 0) := hp
  have HL : Hid (xs.length = len) := hlen
  clear hx hp hlen
  have hw := Cd.width_pos n
  go_enter Try.func115, Try.ntmps115
  go_wp2_with fail
  refine (width_any n _ h0 h1).mono ?_
  rintro e w' ⟨rfl, rfl⟩
  go_wp2_with fail
  refine (room_any p c len xs _ _ HL.out HX.out (by omega) (by omega) HP.out).mono ?_
  rintro e w1 ⟨rfl, HO, hb1, hlt⟩
  rw [Int.toNat_natCast] at HO ⊢
  go_wp2_with fail
  refine (appendInt_any _ _ _ _ _ n _ HO h0 h1 (Nat.le_refl _)).mono ?_
  rintro e w2 ⟨rfl, HO2, hg⟩
  have hb2 : Below w'.heap.size w' w2 := hb1.trans (below_of_grown hg (by omega) (Nat.le_refl _))
  clear HO hg hb1
  go_wp2
  go_ret
  exact ⟨rfl, HO2, hb2⟩
end Go.Proofs.Ytlfgclmgpbaenaa
