import Derived.Test.YtlfgclmgpbaenaaPut
import Derived.Test.YtlfgclmgpbaenaaVals
namespace Go.Proofs.Ytlfgclmgpbaenaa
open Go.RowKit
set_option linter.unusedVariables false
set_option maxRecDepth 100000

theorem xor255 (y : Nat) (h : y < 256) : y ^^^ 255 = 255 - y := by
  have all : ∀ j : Fin 256, j.val ^^^ 255 = 255 - j.val := by decide +kernel
  exact all ⟨y, h⟩

theorem wrap_small (y : Int) (h0 : 0 ≤ y) (h1 : y < 18446744073709551616) : IntKind.u64.wrap y = y := by
  simp [IntKind.wrap, IntKind.bits, IntKind.signed]
  omega

theorem turn_eq (t y : Int) (ht : t = 0 ∨ t = 255) (hy : 0 ≤ y ∧ y < 256) : bits .xor .u8 y t = Cd.tn t y := by
  rw [u8_xor y t hy.1 hy.2 (by omega) (by omega)]
  rcases ht with rfl | rfl
  · simp [Cd.tn]
    omega
  · simp only [Cd.tn, if_true]
    rw [show (255 : Int).toNat = 255 from rfl, xor255 _ (by omega)]
    omega

/-- One byte more. -/
theorem or_step (x t y : Int) (hx0 : 0 ≤ x) (hx1 : x < 72057594037927936) (ht : t = 0 ∨ t = 255) (hy : 0 ≤ y ∧ y < 256) :
    bits .or .u64 (x * 256) (IntKind.u64.wrap (bits .xor .u8 y t)) = x * 256 + Cd.tn t y := by
  have hb := Cd.tn_byte t y hy
  rw [turn_eq t y ht hy, wrap_small _ hb.1 (by omega), u64_or _ _ (by omega) (by omega) hb.1 (by omega), nat_join 8 _ _ (by omega) (by omega)]
  omega

theorem val_step (ys : List Int) (t : Int) (k : Nat) (h : k < ys.length) : Cd.val ((ys.take (k + 1)).map (Cd.tn t)) = Cd.val ((ys.take k).map (Cd.tn t)) * 256 + Cd.tn t (ys.getD k 0) := by
  rw [Cd.take_snoc ys k h, List.map_append, List.map_singleton, Cd.val_snoc]

theorem byte_mem {ys : List Int} {len : Nat} (hl : ys.length = len) (hy : ∀ i, i < len → 0 ≤ ys.getD i 0 ∧ ys.getD i 0 < 256) : ∀ y ∈ ys, 0 ≤ y ∧ y < 256 := by
  intro y hm
  obtain ⟨i, hi, rfl⟩ := List.getElem_of_mem hm
  have := hy i (by omega)
  simpa [List.getD, hi] using this

theorem val_small (ys : List Int) (t : Int) (k : Nat) (h : ∀ y ∈ ys, 0 ≤ y ∧ y < 256) (hk : k < 8) : Cd.val ((ys.take k).map (Cd.tn t)) < 72057594037927936 := by
  have hb := (Cd.val_bd ((ys.take k).map (Cd.tn t)) (by
    intro y hy
    obtain ⟨z, hz, rfl⟩ := List.mem_map.1 hy
    exact Cd.tn_byte t z (h z (List.mem_of_mem_take hz)))).2
  have hl : ((ys.take k).map (Cd.tn t)).length ≤ 7 := by
    simp
    omega
  generalize ((ys.take k).map (Cd.tn t)).length = q at hb hl
  rcases (show q = 0 ∨ q = 1 ∨ q = 2 ∨ q = 3 ∨ q = 4 ∨ q = 5 ∨ q = 6 ∨ q = 7 by omega) with rfl | rfl | rfl | rfl | rfl | rfl | rfl | rfl
  all_goals omega

set_option maxHeartbeats 400000 in
/-- codec.number. -/
theorem number_any (b o c len : Nat) (ys : List Int) (t : Int) (w : World) (hl : ys.length = len) (h8 : len ≤ 8) (hc : ∀ i, i < len → w.cell? ⟨b, o + i, none⟩ = some (.int .u8 (ys.getD i 0))) (hy : ∀ i, i < len → 0 ≤ ys.getD i 0 ∧ ys.getD i 0 < 256) (ht : t = 0 ∨ t = 255) :
    Calls Try.prog 93 #[.slice (some ⟨b, o, none⟩) len c, .int .u8 t] w fun e w' => e = .returned (.int .u64 (Cd.val (ys.map (Cd.tn t)))) ∧ w' = w := by
  have HL : Hid (ys.length = len) := hl
  have HC : Hid (∀ i, i < len → w.cell? ⟨b, o + i, none⟩ = some (.int .u8 (ys.getD i 0))) := hc
  have HY : Hid (∀ i, i < len → 0 ≤ ys.getD i 0 ∧ ys.getD i 0 < 256) := hy
  have HM : Hid (∀ y ∈ ys, 0 ≤ y ∧ y < 256) := byte_mem hl hy
  have HT : Hid (t = 0 ∨ t = 255) := ht
  clear hl hc hy ht
  go_enter Try.func93, Try.ntmps93
  go_wp2_with fail
  go_loop [5, 10] (fun m i => ∃ (k : Nat) (x : Int), k ≤ len ∧ i = .int .i64 k ∧ m = .int .u64 x ∧ 0 ≤ x ∧ Hid (x = Cd.val ((ys.take k).map (Cd.tn t)))) (fun _ i => len - (intOf i).toNat)
  case atStart => exact ⟨0, 0, Nat.zero_le _, rfl, rfl, by omega, rfl⟩
  case round =>
    obtain ⟨k, x, hk, rfl, rfl, hx0, hx⟩ := hrel
    by_cases hlt : k < len
    · have hcell := HC.out k hlt
      have hby := HY.out k hlt
      obtain ⟨y, hye⟩ : ∃ y, y = ys.getD k 0 := ⟨_, rfl⟩
      rw [← hye] at hcell hby
      have HYE : Hid (y = ys.getD k 0) := hye
      clear hye
      have hx2 : x < 72057594037927936 := by rw [hx.out]; exact val_small ys t k HM.out (by omega)
      go_wp2
      go_round
      case rel =>
        refine ⟨k + 1, x * 256 + Cd.tn t y, by omega, by go_num, by rw [or_step x t y hx0 hx2 HT.out hby], ?_, ?_⟩
        · have := Cd.tn_byte t y hby
          omega
        · unfold Hid
          rw [val_step ys t k (by rw [HL.out]; exact hlt), ← hx.out, ← HYE.out]
      case measure => simp [intOf]; omega
    · go_wp2
      go_ret
      refine ⟨ret_int ?_, rfl⟩
      rw [hx.out, List.take_of_length_le (by rw [HL.out]; omega)]
end Go.Proofs.Ytlfgclmgpbaenaa
