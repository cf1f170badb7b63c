import Derived.Test.YtlfgclmgpbaenaaPut
namespace Go.Proofs.Ytlfgclmgpbaenaa
open Go.RowKit
set_option linter.unusedVariables false
set_option maxRecDepth 100000

/-- The bytes of a row that was just laid, whatever its mark. -/
theorem bys_laid (w : World) (xs : List Int) (mk : Nat × Nat) : Bys (w.alloc (.cells (xs.map (Value.int .u8)).toArray 5 mk)) (some ⟨w.heap.size, 0, none⟩) xs := by
  intro _
  refine ⟨w.heap.size, 0, rfl, fun i hi => ?_⟩
  rw [Nat.zero_add, cell_of_row _ w.heap.size i _ 5 mk (heap_alloc_new w _)]
  simp [List.getD, hi]

theorem bys_alloc {w : World} {p : Option Addr} {xs : List Int} (h : Bys w p xs) (o : Obj) : Bys (w.alloc o) p xs := h.below ((Below.refl _ _).alloc (Nat.le_refl _) o) (Nat.le_refl _)

/-- codec.PutInt, its value under a name. -/
theorem putInt_own (p : Option Addr) (c len : Nat) (xs : List Int) (n : Int) (w : World) (hlen : xs.length = len) (hx : Bys w p xs) (hl : len ≤ 281474976710000) (hp : p = none → len = 0 ∧ c = 0)
    (h0 : -9223372036854775808 ≤ n) (h1 : n ≤ 9223372036854775807) :
    Calls Try.prog 115 #[.slice p len c, .int .i64 n] w fun e w' => ∃ v, e = .returned v ∧ Own w' w.heap.size v (len + Cd.width n) (xs ++ Cd.enc n) ∧ Below w.heap.size w w' :=
  (putInt_any p c len xs n w hlen hx hl hp h0 h1).mono fun _ _ h => ⟨_, h⟩

end Go.Proofs.Ytlfgclmgpbaenaa
