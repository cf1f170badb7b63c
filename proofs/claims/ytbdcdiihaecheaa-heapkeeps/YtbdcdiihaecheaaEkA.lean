/- Epochs: the small calls. -/
import Derived.Test.YtbdcdiihaecheaaEkSt
namespace Go.Proofs.Ytbdcdiihaecheaa
open Go.RowKit
set_option linter.unusedVariables false
set_option maxRecDepth 100000

theorem made_any {w : World} {B n : Nat} (h0 : w.cell? ⟨B, 0, none⟩ = some (.int .i64 (n : Int))) (hn : 1 ≤ n) : Calls Try.prog 55 #[.pointer (some ⟨B, 0, none⟩)] w fun e w' => e = .returned (.bool true) ∧ w' = w := by
  have hp : (0 : Int) < (n : Int) := by omega
  go_enter Try.func55, Try.ntmps55
  go_wp2
  go_ret
  exact ⟨by simp; omega, rfl⟩

/-- What no call made: nil, or a zero epoch. -/
def Nm (w : World) (p : Option Addr) : Prop := p = none ∨ ∃ B, p = some ⟨B, 0, none⟩ ∧ w.cell? ⟨B, 0, none⟩ = some (.int .i64 0)

theorem Nm.below {w w' : World} {p : Option Addr} (h : Nm w p) (hb : Below w.heap.size w w') : Nm w' p := by
  rcases h with h | ⟨B, hp, hc⟩
  · exact .inl h
  · exact .inr ⟨B, hp, by rw [hb.cell (p := ⟨B, 0, none⟩) (World.block_lt_of_cell? w _ hc)]; exact hc⟩

theorem made_no {w : World} {p : Option Addr} (h : Nm w p) : Calls Try.prog 55 #[.pointer p] w fun e w' => e = .returned (.bool false) ∧ w' = w := by
  rcases h with rfl | ⟨B, rfl, h0⟩
  · go_enter Try.func55, Try.ntmps55
    go_wp2
    go_ret
    exact ⟨rfl, rfl⟩
  · go_enter Try.func55, Try.ntmps55
    go_wp2
    go_ret
    exact ⟨rfl, rfl⟩

theorem now_any {w : World} {B n : Nat} (h0 : w.cell? ⟨B, 0, none⟩ = some (.int .i64 (n : Int))) (hn : 1 ≤ n) : Calls Try.prog 30 #[.pointer (some ⟨B, 0, none⟩)] w fun e w' => e = .returned (.int .i64 (n : Int)) ∧ w' = w := by
  go_enter Try.func30, Try.ntmps30
  go_wp2_with fail
  refine (made_any h0 hn).mono ?_
  rintro e w1 ⟨rfl, rfl⟩
  go_wp2
  go_ret
  exact ⟨rfl, rfl⟩

theorem now_no {w : World} {p : Option Addr} (h : Nm w p) : Calls Try.prog 30 #[.pointer p] w fun e w' => e = .returned (.int .i64 0) ∧ w' = w := by
  go_enter Try.func30, Try.ntmps30
  go_wp2_with fail
  refine (made_no h).mono ?_
  rintro e w1 ⟨rfl, rfl⟩
  go_wp2
  go_ret
  exact ⟨rfl, rfl⟩

theorem list_any (w : World) (B : Nat) (n : Nat) : Calls Try.prog 57 #[.pointer (some ⟨B, 0, none⟩), .int .i64 (n : Int)] w fun e w' => e = .returned (.pointer (some ⟨B, 18 + n % 3, none⟩)) ∧ w' = w := by
  go_enter Try.func57, Try.ntmps57
  go_wp2
  go_ret
  exact ⟨rfl, rfl⟩

theorem aload_any {w : World} {B o : Nat} {x : Int} (hc : w.cell? ⟨B, o, none⟩ = some (.int .i64 x)) :
    Calls Try.prog 74 #[.pointer (some ⟨B, o, none⟩)] w fun e w' => e = .returned (.int .i64 x) ∧ w' = w := by
  have hl := run_call_load (P := Try.prog) Try.func87 (by kernel_rfl) (by kernel_rfl) (by kernel_rfl) .i64 (by kernel_rfl) hc
  go_enter Try.func74, Try.ntmps74
  go_wp2
  go_ret
  exact ⟨rfl, rfl⟩

theorem aswap_any {w : World} {B o : Nat} {x y : Int} (hc : w.cell? ⟨B, o, none⟩ = some (.int .i64 x)) (hf : w.frozen? ⟨B, o, none⟩ = false) :
    Calls Try.prog 117 #[.pointer (some ⟨B, o, none⟩), .int .i64 y] w fun e w' => e = .returned (.int .i64 x) ∧ w' = w.setCell ⟨B, o, none⟩ (.int .i64 y) := by
  have hs := run_call_swap (P := Try.prog) Try.func118 (by kernel_rfl) (by kernel_rfl) (by kernel_rfl) .i64 (by kernel_rfl) (y := y) hc hf
  go_enter Try.func117, Try.ntmps117
  go_wp2
  go_ret
  exact ⟨rfl, rfl⟩

theorem new_any (w : World) : Calls Try.prog 7 #[] w fun e w' => e = .returned (.pointer (some ⟨w.heap.size, 0, none⟩)) ∧ Epn w' w.heap.size [w.heap.size] Ep.fresh ∧ Below w.heap.size w w' ∧ w'.heap.size = w.heap.size + 1 := by
  have HE : Hid (Epn (w.alloc (.cells #[.int .i64 1, .int .i64 0, .int .i64 0, .int .i64 0, .int .i64 0, .int .i64 0, .int .i64 0, .int .i64 0, .int .i64 0, .int .i64 0, .int .i64 0, .int .i64 0, .int .i64 0, .int .i64 0, .int .i64 0, .int .i64 0, .int .i64 0, .int .i64 0, .slice none 0 0, .slice none 0 0, .slice none 0 0] 89)) w.heap.size [w.heap.size] Ep.fresh) := by
    refine ⟨[vNil, vNil, vNil], rfl, ?_⟩
    have hn : ∀ k, k < 3 → ([vNil, vNil, vNil] : List Value).getD k vNil = vNil := by
      intro k hk
      match k, hk with
      | 0, _ => rfl
      | 1, _ => rfl
      | 2, _ => rfl
    exact {
      blk := Bk.new w _ _
      p17 := rfl
      v3 := rfl
      row := fun k hk => by
        rw [hn k hk]
        have : Ep.fresh.lst k = [] := by
          unfold Ep.lst Ep.fresh
          by_cases h1 : k = 1 % 3
          · rw [if_pos h1]
          · rw [if_neg h1]
            by_cases h2 : k = (1 + 2) % 3
            · rw [if_pos h2]
            · rw [if_neg h2]
        rw [this]
        exact Rr.nil _
      ne := fun j k b hj hk h => by rw [hn j hj] at h; cases h
      neB := fun k b hk h => by rw [hn k hk] at h; cases h
      n1 := Nat.le_refl _
      ple := fun p hp => by rw [show p = 0 from List.eq_of_mem_replicate hp]; exact Nat.zero_le _ }
  go_enter Try.func7, Try.ntmps7
  go_wp2
  go_ret
  exact ⟨rfl, HE.out, (Below.refl _ _).alloc (Nat.le_refl _) _, by simp⟩

end Go.Proofs.Ytbdcdiihaecheaa
