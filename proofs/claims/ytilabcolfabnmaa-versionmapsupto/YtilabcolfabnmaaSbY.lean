/- slices' symMerge, at commits. -/
import Derived.Test.YtilabcolfabnmaaSbY1
import Derived.Test.YtilabcolfabnmaaSbY2
import Derived.Test.YtilabcolfabnmaaSbY3
import Derived.Test.YtilabcolfabnmaaSbY4
namespace Go.Proofs.Ytilabcolfabnmaa
open Go.RowKit Go.Sort
set_option linter.unusedVariables false
set_option maxRecDepth 100000

theorem sym_any (g cap N : Nat) (hl : N ≤ 4398046511104) : ∀ (s : Nat), ∀ (a m b : Nat) (A X Y B : List Cm) (w : World), X.length + Y.length ≤ s → Rcm w g (A ++ (X ++ (Y ++ B))) → g < w.heap.size → (A ++ (X ++ (Y ++ B))).length = N → A.length = a → a + X.length = m → m + Y.length = b → a < m → m < b → Asc Cm.ts X → Asc Cm.ts Y →
    Calls Try.prog 68 #[.slice (some ⟨g, 0, none⟩) N cap, .int .i64 a, .int .i64 m, .int .i64 b, .func (.func 48) #[] #[]] w fun e w' => e = .returned (.tuple #[]) ∧ ∃ Z, Rcm w' g (A ++ (Z ++ B)) ∧ Sam Cm.ts (X ++ Y) Z ∧ Asc Cm.ts Z ∧ Tn [g] w w' := by
  intro s
  induction s with
  | zero => intro a m b A X Y B w hs; intros; omega
  | succ s ih =>
    intro a m b A X Y B w hs hr hg hN ha hm hb ham hmb hX hY
    by_cases h1 : m - a = 1
    · exact sym_part1 g cap N hl s ih a m b A X Y B w hs hr hg hN ha hm hb ham hmb hX hY h1
    · by_cases h2 : b - m = 1
      · exact sym_part2 g cap N hl s ih a m b A X Y B w hs hr hg hN ha hm hb ham hmb hX hY h1 h2
      · by_cases h3 : (a + b) / 2 < m
        · exact sym_part3 g cap N hl s ih a m b A X Y B w hs hr hg hN ha hm hb ham hmb hX hY h1 h2 h3
        · exact sym_part4 g cap N hl s ih a m b A X Y B w hs hr hg hN ha hm hb ham hmb hX hY h1 h2 h3
end Go.Proofs.Ytilabcolfabnmaa
