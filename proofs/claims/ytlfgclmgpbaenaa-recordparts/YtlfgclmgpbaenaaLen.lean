import Derived.Test.YtlfgclmgpbaenaaRows
import Derived.Test.YtlfgclmgpbaenaaMath
import Derived.WalkKit
import Derived.WalkSpells
import Derived.WalkLawsBesides
namespace Go.Proofs.Ytlfgclmgpbaenaa
open Go.RowKit
set_option linter.unusedVariables false

theorem bitLen_bd (y : Nat) (h1 : 1 ≤ y) (h2 : y < 256) : 1 ≤ bitLen y ∧ bitLen y ≤ 8 := by
  refine ⟨?_, bitLen_le8 y h2⟩
  unfold bitLen
  rw [if_neg (by omega)]
  omega

theorem len_fin (k j y : Nat) (L : Int) (m : Int) (hL : L = wrap64 ((k : Int) + wrap64 (bitLen y : Int))) (hk : k + 8 = 8 * j) (h1 : 1 ≤ y) (h2 : y < 256) (hj : Cd.nb m.toNat = j) (hj8 : j ≤ 8) :
    1 ≤ L ∧ L ≤ 64 ∧ (L + 7) / 8 = (Cd.nb m.toNat : Int) := by
  have b := bitLen_bd y h1 h2
  rw [IntWalk.wrap64_in (bitLen y : Int) ⟨by omega, by omega⟩, IntWalk.wrap64_in _ ⟨by omega, by omega⟩] at hL
  rw [hj]
  omega

theorem len_fin0 (y : Nat) (L : Int) (m : Int) (hL : L = wrap64 (wrap64 (bitLen y : Int))) (h1 : 1 ≤ y) (h2 : y < 256) (hj : Cd.nb m.toNat = 1) :
    1 ≤ L ∧ L ≤ 64 ∧ (L + 7) / 8 = (Cd.nb m.toNat : Int) := by
  have b := bitLen_bd y h1 h2
  rw [IntWalk.wrap64_in (bitLen y : Int) ⟨by omega, by omega⟩, IntWalk.wrap64_in _ ⟨by omega, by omega⟩] at hL
  rw [hj]
  omega

theorem nb_at (m : Int) : (0 ≤ m ∧ m < 256 → Cd.nb m.toNat = 1) ∧ (256 ≤ m ∧ m < 65536 → Cd.nb m.toNat = 2) ∧ (65536 ≤ m ∧ m < 16777216 → Cd.nb m.toNat = 3) ∧ (16777216 ≤ m ∧ m < 4294967296 → Cd.nb m.toNat = 4) ∧
    (4294967296 ≤ m ∧ m < 1099511627776 → Cd.nb m.toNat = 5) ∧ (1099511627776 ≤ m ∧ m < 281474976710656 → Cd.nb m.toNat = 6) ∧ (281474976710656 ≤ m ∧ m < 72057594037927936 → Cd.nb m.toNat = 7) ∧ (72057594037927936 ≤ m → Cd.nb m.toNat = 8) := by
  unfold Cd.nb
  refine ⟨?_, ?_, ?_, ?_, ?_, ?_, ?_, ?_⟩ <;> intro h <;> repeat' split
  all_goals omega

set_option maxHeartbeats 8000000 in
set_option maxRecDepth 1000000 in
/-- bits.Len64: what Width asks of it. -/
theorem len64_any (m : Int) (w : World) (h0 : 1 ≤ m) (h1 : m < 18446744073709551616) :
    Calls Try.prog 95 #[.int .u64 m] w fun e w' => ∃ L : Int, e = .returned (.int .i64 L) ∧ w' = w ∧ 1 ≤ L ∧ L ≤ 64 ∧ (L + 7) / 8 = (Cd.nb m.toNat : Int) := by
  have HN := nb_at m
  have hn : Hid _ := HN
  clear HN
  rcases (show m < 256 ∨ (256 ≤ m ∧ m < 65536) ∨ (65536 ≤ m ∧ m < 16777216) ∨ (16777216 ≤ m ∧ m < 4294967296) ∨ (4294967296 ≤ m ∧ m < 1099511627776) ∨ (1099511627776 ≤ m ∧ m < 281474976710656) ∨ (281474976710656 ≤ m ∧ m < 72057594037927936) ∨ 72057594037927936 ≤ m by omega) with h | ⟨h, g⟩ | ⟨h, g⟩ | ⟨h, g⟩ | ⟨h, g⟩ | ⟨h, g⟩ | ⟨h, g⟩ | h
  all_goals
    go_enter Try.func95, Try.ntmps95
    go_wp2
    go_ret
    refine ⟨_, rfl, rfl, ?_⟩
    rw [len8tab_get]
  · exact len_fin0 _ _ m rfl (by omega) (by omega) (hn.out.1 ⟨by omega, by omega⟩)
  · exact len_fin 8 2 _ _ m rfl (by omega) (by omega) (by omega) (hn.out.2.1 ⟨by omega, by omega⟩) (by omega)
  · exact len_fin 16 3 _ _ m rfl (by omega) (by omega) (by omega) (hn.out.2.2.1 ⟨by omega, by omega⟩) (by omega)
  · exact len_fin 24 4 _ _ m rfl (by omega) (by omega) (by omega) (hn.out.2.2.2.1 ⟨by omega, by omega⟩) (by omega)
  · exact len_fin 32 5 _ _ m rfl (by omega) (by omega) (by omega) (hn.out.2.2.2.2.1 ⟨by omega, by omega⟩) (by omega)
  · exact len_fin 40 6 _ _ m rfl (by omega) (by omega) (by omega) (hn.out.2.2.2.2.2.1 ⟨by omega, by omega⟩) (by omega)
  · exact len_fin 48 7 _ _ m rfl (by omega) (by omega) (by omega) (hn.out.2.2.2.2.2.2.1 ⟨by omega, by omega⟩) (by omega)
  · exact len_fin 56 8 _ _ m rfl (by omega) (by omega) (by omega) (hn.out.2.2.2.2.2.2.2 (by omega)) (by omega)
end Go.Proofs.Ytlfgclmgpbaenaa
