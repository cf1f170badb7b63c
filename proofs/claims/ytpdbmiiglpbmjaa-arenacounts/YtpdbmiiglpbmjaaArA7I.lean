/- Arenas of numbers beside other memory: each call. -/
import Derived.Test.YtpdbmiiglpbmjaaArA6I
import Derived.Test.YtpdbmiiglpbmjaaArSep
namespace Go.Proofs.Ytpdbmiiglpbmjaa
open Go.RowKit
set_option linter.unusedVariables false

abbrev AsI (m : Nat) (w : World) (B : Nat) (a : Ar) (av : List Nat) : Prop := ArS tAI tSI m w B a av

/-- Behind a call. -/
def AftI (m : Nat) (w w' : World) (B : Nat) (a : Ar) (av : List Nat) : Prop := AsI m w' B a av ∧ Below m w w' ∧ ∀ g ∈ av, w'.heap[g]? = w.heap[g]?

theorem AftI.quiet {m : Nat} {w w' : World} {B : Nat} {a : Ar} {av : List Nat} (h : AsI m w B a av) (k : Tn [] w w') : AftI m w w' B a av := by
  refine ⟨h.quiet k, ?_, fun g hg => ?_⟩
  · exact k.below h.ge (by simp)
  · obtain ⟨bs, _, _, h3⟩ := h
    exact k.block g (h3 g hg).2 (by simp)

theorem putSI {m : Nat} {w : World} {B : Nat} {a : Ar} {av : List Nat} (h : AsI m w B a av) (x : Int) (hf : live a.us < a.size) (hg1 : 1 ≤ a.gen) (hg2 : a.gen ≤ 9223372036854775807) :
    Calls Try.prog 21 #[.pointer (some ⟨B, 0, none⟩), (.int .i64 x)] w fun e w' => e = .returned (.tuple #[.agg #[.int .i64 (low a.us), .int .i64 a.gen], .int .i64 0]) ∧ AftI m w w' B (a.put (.int .i64 x)) av := by
  have hge := h.ge
  obtain ⟨bs, h1, h2, h3⟩ := h
  exact (putOkI h1 x hf hg1 hg2).mono fun e w' ⟨he, ht⟩ => ⟨he, ArS.step ht h2 hge h3⟩

theorem fullSI {m : Nat} {w : World} {B : Nat} {a : Ar} {av : List Nat} (h : AsI m w B a av) (x : Int) (hf : live a.us = a.size) :
    Calls Try.prog 21 #[.pointer (some ⟨B, 0, none⟩), (.int .i64 x)] w fun e w' => e = .returned (.tuple #[.agg #[.int .i64 0, .int .i64 0], .int .i64 5]) ∧ AftI m w w' B a av := by
  have h' := h
  obtain ⟨bs, h1, h2, h3⟩ := h
  exact (putFullI h1 x hf).mono fun e w' ⟨he, hb⟩ => ⟨he, AftI.quiet h' (Tn.of_below hb [])⟩

theorem freeSI {m : Nat} {w : World} {B : Nat} {a : Ar} {av : List Nat} (h : AsI m w B a av) (s g : Int) (hg : a.Good s g) :
    Calls Try.prog 23 #[.pointer (some ⟨B, 0, none⟩), .agg #[.int .i64 s, .int .i64 g]] w fun e w' => e = .returned (.int .i64 0) ∧ AftI m w w' B (a.free s.toNat (.int .i64 0)) av := by
  have hge := h.ge
  obtain ⟨bs, h1, h2, h3⟩ := h
  exact (freeGoodI h1 s g hg).mono fun e w' ⟨he, ht⟩ => ⟨he, ArS.step ht h2 hge h3⟩

theorem freeBadSI {m : Nat} {w : World} {B : Nat} {a : Ar} {av : List Nat} (h : AsI m w B a av) (s g : Int) (hg : ¬ a.Good s g) (hs0 : 0 ≤ a.stale) (hs9 : a.stale < 9223372036854775807) :
    Calls Try.prog 23 #[.pointer (some ⟨B, 0, none⟩), .agg #[.int .i64 s, .int .i64 g]] w fun e w' => e = .returned (.int .i64 7) ∧ AftI m w w' B a.bad av := by
  have hge := h.ge
  obtain ⟨bs, h1, h2, h3⟩ := h
  exact (freeBadI h1 s g hg hs0 hs9).mono fun e w' ⟨he, ht⟩ => ⟨he, ArS.step ht h2 hge h3⟩

theorem liveSI {m : Nat} {w : World} {B : Nat} {a : Ar} {av : List Nat} (h : AsI m w B a av) :
    Calls Try.prog 22 #[.pointer (some ⟨B, 0, none⟩)] w fun e w' => e = .returned (.int .i64 (live a.us)) ∧ Tn [] w w' := by
  obtain ⟨bs, h1, h2, h3⟩ := h
  exact liveI h1

theorem slotsSI {m : Nat} {w : World} {B : Nat} {a : Ar} {av : List Nat} (h : AsI m w B a av) :
    Calls Try.prog 24 #[.pointer (some ⟨B, 0, none⟩)] w fun e w' => e = .returned (.int .i64 a.size) ∧ w' = w := by
  obtain ⟨bs, h1, h2, h3⟩ := h
  exact slotsI h1

theorem newSI (w : World) (n : Nat) (h1 : 1 ≤ n) (h2 : n ≤ 65536) : Calls Try.prog 20 #[.int .i64 n] w fun e w' => e = .returned (.tuple #[.pointer (some ⟨w.heap.size, 0, none⟩), .int .i64 0]) ∧ AsI w.heap.size w' w.heap.size (Ar.fresh n) [] ∧ Below w.heap.size w w' ∧ w'.heap.size = w.heap.size + 1 :=
  (newI w n h1 h2).mono fun e w' ⟨he, ha, hb, hs⟩ => ⟨he, ArS.of ha (by simp), hb, hs⟩

end Go.Proofs.Ytpdbmiiglpbmjaa
