/- Arenas of links: the small calls. -/
import Derived.Test.YtbdcdiihaecheaaHpTy
namespace Go.Proofs.Ytbdcdiihaecheaa
open Go.RowKit
set_option linter.unusedVariables false
set_option maxRecDepth 100000
set_option linter.unusedSectionVars false
variable [Inhabited Cl] [Inhabited Ln]

abbrev tAL : TypeId := 134
abbrev tSL : TypeId := 144

theorem madeL {w : World} {B n : Nat} (h0 : w.cell? ⟨B, 0, none⟩ = some (.int .i64 n)) (hn : 0 < n) : Calls Try.prog 69 #[.pointer (some ⟨B, 0, none⟩)] w fun e w' => e = .returned (.bool true) ∧ w' = w := by
  have hp : (0 : Int) < (n : Int) := by omega
  go_enter Try.func69, Try.ntmps69
  go_wp2
  go_ret
  exact ⟨by simp, rfl⟩

theorem madeNilL (w : World) : Calls Try.prog 69 #[.pointer none] w fun e w' => e = .returned (.bool false) ∧ w' = w := by
  go_enter Try.func69, Try.ntmps69
  go_wp2
  go_ret
  exact ⟨rfl, rfl⟩

theorem madeZeroL {w : World} {B : Nat} (h0 : w.cell? ⟨B, 0, none⟩ = some (.int .i64 0)) : Calls Try.prog 69 #[.pointer (some ⟨B, 0, none⟩)] w fun e w' => e = .returned (.bool false) ∧ w' = w := by
  go_enter Try.func69, Try.ntmps69
  go_wp2
  go_ret
  exact ⟨rfl, rfl⟩

set_option maxHeartbeats 1000000 in
theorem liveL {w : World} {B : Nat} {bs : List Nat} {a : Ar Ln} (h : Arn Ln.cells 5 tAL tSL w B bs a) : Calls Try.prog 54 #[.pointer (some ⟨B, 0, none⟩)] w fun e w' => e = .returned (.int .i64 (live a.us)) ∧ Tn [] w w' := by
  obtain ⟨uv, fv, fr, -, h⟩ := h
  obtain ⟨c0, c1, c2, c3⟩ := h.four
  obtain ⟨p, c, rfl⟩ := h.uform
  obtain ⟨q, d, rfl⟩ := h.fform
  have hs1 := h.s1
  have hl := h.frlen
  have hle := h.le
  have hs := h.s2
  have he : (a.us.length : Int) - (fr.length : Int) = (live a.us : Int) := by omega
  generalize live a.us = lv at *
  generalize a.us.length = n at *
  generalize fr.length = m at *
  clear h
  go_enter Try.func54, Try.ntmps54
  go_wp2_with fail
  refine (madeL c0 hs1).mono ?_
  rintro e w1 ⟨rfl, rfl⟩
  go_wp2_with fail
  go_quiet (fail)
  go_wp2
  go_ret
  exact ⟨by simp, Tn.of_below (below_drewN (Below.refl _ _) _) _⟩

theorem newL (w : World) (n : Nat) (h1 : 1 ≤ n) (h2 : n ≤ 65536) : Calls Try.prog 32 #[.int .i64 n] w fun e w' => e = .returned (.tuple #[.pointer (some ⟨w.heap.size, 0, none⟩), .int .i64 0]) ∧ Arn Ln.cells 5 tAL tSL w' w.heap.size [w.heap.size] (Ar.fresh n) ∧ Below w.heap.size w w' ∧ w'.heap.size = w.heap.size + 1 := by
  have g1 : ¬ (n : Int) < 1 := by omega
  have g2 : ¬ (65536 : Int) < (n : Int) := by omega
  have HE : Hid (Arn Ln.cells 5 tAL tSL (w.alloc (.cells #[.int .i64 n, .slice none 0 0, .slice none 0 0, .int .i64 0] 134)) w.heap.size [w.heap.size] (Ar.fresh n)) := by
    refine ⟨.slice none 0 0, .slice none 0 0, [], rfl, ?_⟩
    exact {
      wt := ⟨Bk.new w _ _, World.ownsRow_nil _ _ _ _, (fun k hk => by cases hk), Nat.zero_le _⟩
      row := World.ownsRow_nil _ _ _ _
      ne1 := fun k hk => by cases hk
      ne2 := fun k hk => by cases hk
      hp := fun i h0 hi => by simp at hi
      perm := List.Perm.refl _
      le := Nat.zero_le _
      s1 := h1
      s2 := h2 }
  go_enter Try.func32, Try.ntmps32
  go_wp2
  go_ret2
  exact ⟨rfl, HE.out, (Below.refl _ _).alloc (Nat.le_refl _) _, by simp⟩

theorem slotsL {w : World} {B : Nat} {bs : List Nat} {a : Ar Ln} (h : Arn Ln.cells 5 tAL tSL w B bs a) : Calls Try.prog 61 #[.pointer (some ⟨B, 0, none⟩)] w fun e w' => e = .returned (.int .i64 a.size) ∧ w' = w := by
  obtain ⟨uv, fv, fr, -, h⟩ := h
  obtain ⟨c0, c1, c2, c3⟩ := h.four
  have hs1 := h.s1
  clear h
  go_enter Try.func61, Try.ntmps61
  go_wp2_with fail
  refine (madeL c0 hs1).mono ?_
  rintro e w1 ⟨rfl, rfl⟩
  go_wp2
  go_ret
  exact ⟨rfl, rfl⟩
end Go.Proofs.Ytbdcdiihaecheaa
