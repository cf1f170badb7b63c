/- Arenas of numbers: Get, Set, Stale. -/
import Derived.Test.YtpdbmiiglpbmjaaArA2I
namespace Go.Proofs.Ytpdbmiiglpbmjaa
open Go.RowKit
set_option linter.unusedVariables false
set_option maxRecDepth 100000

set_option maxHeartbeats 1000000 in
theorem freeBadI {w : World} {B : Nat} {bs : List Nat} {a : Ar} (h : Arn tAI tSI w B bs a) (s g : Int) (hg : ¬ a.Good s g) (hs0 : 0 ≤ a.stale) (hs9 : a.stale < 9223372036854775807) :
    Calls Try.prog 23 #[.pointer (some ⟨B, 0, none⟩), .agg #[.int .i64 s, .int .i64 g]] w fun e w' => e = .returned (.int .i64 7) ∧ ArT tAI tSI w w' B bs a.bad := by
  have HG : Hid (¬ a.Good s g) := hg
  obtain ⟨uv, fv, fr, rfl, h⟩ := h
  obtain ⟨w1, hw1, hz1, hb1, h', hk, -, -⟩ := h.boxed s g
  have HI : Hid (Arn tAI tSI w1 B (bsOf B uv fv) a) := ⟨_, _, _, rfl, h'⟩
  have HB : Hid (Tn [] w w1) := Tn.of_below hb1 []
  have k0 := hk.cell 0
  have k1 := hk.cell 1
  simp only [List.getElem?_toArray, List.getElem?_cons_zero, List.getElem?_cons_succ] at k0 k1
  clear h h' hk hb1 hg
  go_enter Try.func23, Try.ntmps23
  go_wp2_with fail
  refine (checkBadI HI.out s g HG.out hs0 hs9).mono ?_
  rintro e w2 ⟨rfl, ht2⟩
  have HE : Hid (ArT tAI tSI w w2 B (bsOf B uv fv) a.bad) := ArT.pre HB.out ht2
  clear ht2 HI HB HG k0 k1
  go_wp2
  go_ret
  exact ⟨rfl, HE.out⟩
end Go.Proofs.Ytpdbmiiglpbmjaa
