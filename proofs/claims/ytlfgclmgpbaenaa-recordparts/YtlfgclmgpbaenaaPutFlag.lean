import Derived.Test.YtlfgclmgpbaenaaPut
namespace Go.Proofs.Ytlfgclmgpbaenaa
open Go.RowKit
set_option linter.unusedVariables false
set_option maxRecDepth 100000

set_option maxHeartbeats 400000 in
/-- codec.PutFlag. -/
theorem putFlag_any (p : Option Addr) (c len : Nat) (xs : List Int) (yes : Bool) (w : World) (hlen : xs.length = len) (hx : Bys w p xs) (hl : len ≤ 281474976710000) (hp : p = none → len = 0 ∧ c = 0) :
    Calls Try.prog 121 #[.slice p len c, .bool yes] w fun e w' => e = .returned (.slice (some ⟨w.heap.size, 0, none⟩) (len + 1) (len + 1)) ∧
      Own w' w.heap.size (.slice (some ⟨w.heap.size, 0, none⟩) (len + 1) (len + 1)) (len + 1) (xs ++ [if yes then 109 else 108]) ∧ Below w.heap.size w w' := by
  have HX : Hid (Bys w p xs) := hx
  have HP : Hid (p = none → len = 0 ∧ c = 0) := hp
  have HL : Hid (xs.length = len) := hlen
  clear hx hp hlen
  cases yes
  · go_enter Try.func121, Try.ntmps121
    go_wp2_with fail
    refine (putInt_any p c len xs 0 _ HL.out HX.out hl HP.out (by omega) (by omega)).mono ?_
    rintro e w1 ⟨rfl, HO, hb1⟩
    go_wp2
    go_ret
    exact ⟨rfl, HO, hb1⟩
  · go_enter Try.func121, Try.ntmps121
    go_wp2_with fail
    refine (putInt_any p c len xs 1 _ HL.out HX.out hl HP.out (by omega) (by omega)).mono ?_
    rintro e w1 ⟨rfl, HO, hb1⟩
    go_wp2
    go_ret
    exact ⟨rfl, HO, hb1⟩
end Go.Proofs.Ytlfgclmgpbaenaa
