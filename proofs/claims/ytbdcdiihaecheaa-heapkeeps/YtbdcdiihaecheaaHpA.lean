/- A heap's block: its arenas, its epoch, what the sessions have reserved. -/
import Derived.Test.YtbdcdiihaecheaaAgA7C
import Derived.Test.YtbdcdiihaecheaaAgA7L
import Derived.Test.YtbdcdiihaecheaaEkD
namespace Go.Proofs.Ytbdcdiihaecheaa
open Go.RowKit
set_option linter.unusedVariables false
set_option maxRecDepth 100000
set_option linter.unusedSectionVars false
variable [Inhabited Cl] [Inhabited Ln]

/-- What a session has reserved and not used. -/
structure Sh where
  has : Bool
  c : Nat
  v : Nat

abbrev Sh.zero : Sh := ⟨false, 0, 0⟩
def Sh.cells (x : Sh) : List Value := [.bool x.has, .int .i64 (x.c : Int), .int .i64 (x.v : Int)]
theorem shK : Knd Sh.cells 3 := ⟨fun _ => rfl, fun x u hu => by simp [Sh.cells] at hu; rcases hu with rfl | rfl | rfl <;> rfl, by decide⟩
def shAt (l : List Sh) (s : Nat) : Sh := l.getD s Sh.zero

theorem shAt_get {l : List Sh} {s : Nat} (h : s < l.length) : l[s]? = some (shAt l s) := by simp [shAt, List.getD, h]

/-- The cells of a heap. -/
def hpCells (cB vB eB : Nat) (sh : List Sh) : Array Value := (Value.pointer (some ⟨cB, 0, none⟩) :: Value.pointer (some ⟨vB, 0, none⟩) :: Value.pointer (some ⟨eB, 0, none⟩) :: flat Sh.cells sh).toArray

theorem hpCells_at (cB vB eB : Nat) (sh : List Sh) (s : Nat) (hs : s < sh.length) (j : Nat) (v : Value) (hv : (Sh.cells (shAt sh s))[j]? = some v) : (hpCells cB vB eB sh)[3 + s * 3 + j]? = some v := by
  have h := flat_at shK sh s _ (shAt_get hs) j v hv
  have e : 3 + s * 3 + j = (s * 3 + j) + 1 + 1 + 1 := by omega
  simp only [hpCells, List.getElem?_toArray, e, List.getElem?_cons_succ]
  exact h

theorem hpCells_set (cB vB eB : Nat) (sh : List Sh) (s : Nat) (hs : s < sh.length) (x : Sh) :
    (((hpCells cB vB eB sh).setIfInBounds (3 + s * 3) (.bool x.has)).setIfInBounds (3 + s * 3 + 1) (.int .i64 (x.c : Int))).setIfInBounds (3 + s * 3 + 2) (.int .i64 (x.v : Int)) = hpCells cB vB eB (sh.set s x) := by
  have e : ∀ j, 3 + s * 3 + j = (s * 3 + j) + 1 + 1 + 1 := by intro j; omega
  have e0 : 3 + s * 3 = s * 3 + 1 + 1 + 1 := by omega
  have hr : s * 3 + 3 ≤ (flat Sh.cells sh).length := by rw [flat_len shK]; omega
  unfold hpCells
  apply Array.ext'
  rw [e 1, e 2, e0]
  simp only [Array.toList_setIfInBounds, List.set_cons_succ]
  congr 3
  rw [flat_set shK _ _ _ hs]
  have := sets_eq (Sh.cells x) (flat Sh.cells sh) (s * 3) (by rw [shK.len]; exact hr)
  rw [shK.len] at this
  exact this

/-- What no call made: nil, or a zero heap. -/
def NmH (w : World) (p : Option Addr) : Prop := p = none ∨ ∃ H, p = some ⟨H, 0, none⟩ ∧ w.cell? ⟨H, 0, none⟩ = some (.pointer none)

theorem NmH.below {w w' : World} {p : Option Addr} (h : NmH w p) (hb : Below w.heap.size w w') : NmH w' p := by
  rcases h with h | ⟨B, hp, hc⟩
  · exact .inl h
  · exact .inr ⟨B, hp, by rw [hb.cell (p := ⟨B, 0, none⟩) (World.block_lt_of_cell? w _ hc)]; exact hc⟩

theorem hmade_ok {w : World} {H : Nat} {q : Addr} (h0 : w.cell? ⟨H, 0, none⟩ = some (.pointer (some q))) : Calls Try.prog 33 #[.pointer (some ⟨H, 0, none⟩)] w fun e w' => e = .returned (.bool true) ∧ w' = w := by
  go_enter Try.func33, Try.ntmps33
  go_wp2
  go_ret
  exact ⟨rfl, rfl⟩

theorem hmade_no {w : World} {p : Option Addr} (h : NmH w p) : Calls Try.prog 33 #[.pointer p] w fun e w' => e = .returned (.bool false) ∧ w' = w := by
  rcases h with rfl | ⟨B, rfl, h0⟩
  · go_enter Try.func33, Try.ntmps33
    go_wp2
    go_ret
    exact ⟨rfl, rfl⟩
  · go_enter Try.func33, Try.ntmps33
    go_wp2
    go_ret
    exact ⟨rfl, rfl⟩

theorem isSession_yes (w : World) (s : Int) (k1 : 0 ≤ s) (k2 : s ≤ 16) : Calls Try.prog 34 #[.int .i64 s] w fun e w' => e = .returned (.bool true) ∧ w' = w := by
  go_enter Try.func34, Try.ntmps34
  go_wp2
  go_ret
  exact ⟨by simp, rfl⟩

theorem isSession_no (w : World) (s : Int) (hs : s < 0 ∨ (16 : Int) < s) : Calls Try.prog 34 #[.int .i64 s] w fun e w' => e = .returned (.bool false) ∧ w' = w := by
  by_cases h1 : s < 0
  · clear hs
    have h2 : ¬ 0 ≤ s := by omega
    go_enter Try.func34, Try.ntmps34
    go_wp2
    go_ret
    exact ⟨by simp, rfl⟩
  · have h2 : (0 : Int) ≤ s := by omega
    have h3 : ¬ s ≤ 16 := by omega
    clear hs
    go_enter Try.func34, Try.ntmps34
    go_wp2
    go_ret
    exact ⟨by simp, rfl⟩

theorem share_no {w : World} {p : Option Addr} (h : NmH w p) (s : Int) : Calls Try.prog 35 #[.pointer p, .int .i64 s] w fun e w' => e = .returned (.tuple #[.pointer none, .int .i64 2]) ∧ w' = w := by
  go_enter Try.func35, Try.ntmps35
  go_wp2_with fail
  refine (hmade_no h).mono ?_
  rintro e w1 ⟨rfl, rfl⟩
  go_wp2
  go_ret2
  exact ⟨rfl, rfl⟩

theorem share_arg {w : World} {H : Nat} {q : Addr} (h0 : w.cell? ⟨H, 0, none⟩ = some (.pointer (some q))) (s : Int) (hs : s < 0 ∨ (16 : Int) < s) : Calls Try.prog 35 #[.pointer (some ⟨H, 0, none⟩), .int .i64 s] w fun e w' => e = .returned (.tuple #[.pointer none, .int .i64 1]) ∧ w' = w := by
  go_enter Try.func35, Try.ntmps35
  go_wp2_with fail
  refine (hmade_ok h0).mono ?_
  rintro e w1 ⟨rfl, rfl⟩
  go_wp2_with fail
  refine (isSession_no _ s hs).mono ?_
  rintro e w1 ⟨rfl, rfl⟩
  go_wp2
  go_ret2
  exact ⟨rfl, rfl⟩

theorem share_none {w : World} {H : Nat} {q : Addr} (h0 : w.cell? ⟨H, 0, none⟩ = some (.pointer (some q))) (s : Nat) (hs : s ≤ 16) (h1 : w.cell? ⟨H, 3 + s * 3, none⟩ = some (.bool false)) : Calls Try.prog 35 #[.pointer (some ⟨H, 0, none⟩), .int .i64 (s : Int)] w fun e w' => e = .returned (.tuple #[.pointer none, .int .i64 161]) ∧ w' = w := by
  go_enter Try.func35, Try.ntmps35
  go_wp2_with fail
  refine (hmade_ok h0).mono ?_
  rintro e w1 ⟨rfl, rfl⟩
  go_wp2_with fail
  refine (isSession_yes _ (s : Int) (by omega) (by omega)).mono ?_
  rintro e w1 ⟨rfl, rfl⟩
  go_wp2
  go_ret2
  exact ⟨rfl, rfl⟩

theorem share_ok {w : World} {H : Nat} {q : Addr} (h0 : w.cell? ⟨H, 0, none⟩ = some (.pointer (some q))) (s : Nat) (hs : s ≤ 16) (h1 : w.cell? ⟨H, 3 + s * 3, none⟩ = some (.bool true)) : Calls Try.prog 35 #[.pointer (some ⟨H, 0, none⟩), .int .i64 (s : Int)] w fun e w' => e = .returned (.tuple #[.pointer (some ⟨H, 3 + s * 3, none⟩), .int .i64 0]) ∧ w' = w := by
  go_enter Try.func35, Try.ntmps35
  go_wp2_with fail
  refine (hmade_ok h0).mono ?_
  rintro e w1 ⟨rfl, rfl⟩
  go_wp2_with fail
  refine (isSession_yes _ (s : Int) (by omega) (by omega)).mono ?_
  rintro e w1 ⟨rfl, rfl⟩
  go_wp2
  go_ret2
  exact ⟨rfl, rfl⟩

end Go.Proofs.Ytbdcdiihaecheaa
