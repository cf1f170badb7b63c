/- Arenas of links beside other memory: each call. -/
import Derived.Test.YtbdcdiihaecheaaAgA6L
import Derived.Test.YtbdcdiihaecheaaAgSep
namespace Go.Proofs.Ytbdcdiihaecheaa
open Go.RowKit
set_option linter.unusedVariables false
set_option linter.unusedSectionVars false
variable [Inhabited Cl] [Inhabited Ln]

abbrev AsL (m : Nat) (w : World) (B : Nat) (a : Ar Ln) (av : List Nat) : Prop := ArS Ln.cells 5 tAL tSL m w B a av

/-- Behind a call. -/
def AftL (m : Nat) (w w' : World) (B : Nat) (a : Ar Ln) (av : List Nat) : Prop := AsL m w' B a av ∧ Below m w w' ∧ ∀ g ∈ av, w'.heap[g]? = w.heap[g]?

theorem AftL.quiet {m : Nat} {w w' : World} {B : Nat} {a : Ar Ln} {av : List Nat} (h : AsL m w B a av) (kt : Tn [] w w') : AftL m w w' B a av := by
  refine ⟨h.quiet kt, ?_, fun g hg => ?_⟩
  · exact kt.below h.ge (by simp)
  · obtain ⟨bs, _, _, h3⟩ := h
    exact kt.block g (h3 g hg).2 (by simp)

theorem putSL {m : Nat} {w : World} {B : Nat} {a : Ar Ln} {av : List Nat} (h : AsL m w B a av) (x : Ln) (hf : live a.us < a.size) (hg1 : 1 ≤ a.gen) (hg2 : a.gen ≤ 9223372036854775807) :
    Calls Try.prog 41 #[.pointer (some ⟨B, 0, none⟩), x.v] w fun e w' => e = .returned (.tuple #[.agg #[.int .i64 (low a.us), .int .i64 a.gen], .int .i64 0]) ∧ AftL m w w' B (a.put x) av := by
  have hge := h.ge
  obtain ⟨bs, h1, h2, h3⟩ := h
  exact (putOkL h1 x hf hg1 hg2).mono fun e w' ⟨he, ht⟩ => ⟨he, ArS.step ht h2 hge h3⟩

theorem fullSL {m : Nat} {w : World} {B : Nat} {a : Ar Ln} {av : List Nat} (h : AsL m w B a av) (x : Ln) (hf : live a.us = a.size) :
    Calls Try.prog 41 #[.pointer (some ⟨B, 0, none⟩), x.v] w fun e w' => e = .returned (.tuple #[.agg #[.int .i64 0, .int .i64 0], .int .i64 5]) ∧ AftL m w w' B a av := by
  have h' := h
  obtain ⟨bs, h1, h2, h3⟩ := h
  exact (putFullL h1 x hf).mono fun e w' ⟨he, hb⟩ => ⟨he, AftL.quiet h' (Tn.of_below hb [])⟩

theorem freeSL {m : Nat} {w : World} {B : Nat} {a : Ar Ln} {av : List Nat} (h : AsL m w B a av) (s g : Int) (hg : a.Good s g) :
    Calls Try.prog 58 #[.pointer (some ⟨B, 0, none⟩), .agg #[.int .i64 s, .int .i64 g]] w fun e w' => e = .returned (.int .i64 0) ∧ AftL m w w' B (a.free s.toNat Ln.zero) av := by
  have hge := h.ge
  obtain ⟨bs, h1, h2, h3⟩ := h
  exact (freeGoodL h1 s g hg).mono fun e w' ⟨he, ht⟩ => ⟨he, ArS.step ht h2 hge h3⟩

theorem freeBadSL {m : Nat} {w : World} {B : Nat} {a : Ar Ln} {av : List Nat} (h : AsL m w B a av) (s g : Int) (hg : ¬ a.Good s g) (hs0 : 0 ≤ a.stale) (hs9 : a.stale < 9223372036854775807) :
    Calls Try.prog 58 #[.pointer (some ⟨B, 0, none⟩), .agg #[.int .i64 s, .int .i64 g]] w fun e w' => e = .returned (.int .i64 7) ∧ AftL m w w' B a.bad av := by
  have hge := h.ge
  obtain ⟨bs, h1, h2, h3⟩ := h
  exact (freeBadL h1 s g hg hs0 hs9).mono fun e w' ⟨he, ht⟩ => ⟨he, ArS.step ht h2 hge h3⟩

theorem liveSL {m : Nat} {w : World} {B : Nat} {a : Ar Ln} {av : List Nat} (h : AsL m w B a av) :
    Calls Try.prog 54 #[.pointer (some ⟨B, 0, none⟩)] w fun e w' => e = .returned (.int .i64 (live a.us)) ∧ Tn [] w w' := by
  obtain ⟨bs, h1, h2, h3⟩ := h
  exact liveL h1

theorem slotsSL {m : Nat} {w : World} {B : Nat} {a : Ar Ln} {av : List Nat} (h : AsL m w B a av) :
    Calls Try.prog 61 #[.pointer (some ⟨B, 0, none⟩)] w fun e w' => e = .returned (.int .i64 a.size) ∧ w' = w := by
  obtain ⟨bs, h1, h2, h3⟩ := h
  exact slotsL h1

theorem newSL (w : World) (n : Nat) (h1 : 1 ≤ n) (h2 : n ≤ 65536) : Calls Try.prog 32 #[.int .i64 n] w fun e w' => e = .returned (.tuple #[.pointer (some ⟨w.heap.size, 0, none⟩), .int .i64 0]) ∧ AsL w.heap.size w' w.heap.size (Ar.fresh n) [] ∧ Below w.heap.size w w' ∧ w'.heap.size = w.heap.size + 1 :=
  (newL w n h1 h2).mono fun e w' ⟨he, ha, hb, hs⟩ => ⟨he, ArS.of ha (by simp), hb, hs⟩

theorem getSL {m : Nat} {w : World} {B : Nat} {a : Ar Ln} {av : List Nat} (h : AsL m w B a av) (s g : Int) (hg : a.Good s g) :
    Calls Try.prog 66 #[.pointer (some ⟨B, 0, none⟩), .agg #[.int .i64 s, .int .i64 g]] w fun e w' => e = .returned (.tuple #[(slAt a.us s.toNat).val.v, .int .i64 0]) ∧ Tn [] w w' := by
  obtain ⟨bs, h1, h2, h3⟩ := h
  exact (getGoodL h1 s g hg).mono fun e w' ⟨he, hb⟩ => ⟨he, Tn.of_below hb []⟩

theorem getBadSL {m : Nat} {w : World} {B : Nat} {a : Ar Ln} {av : List Nat} (h : AsL m w B a av) (s g : Int) (hg : ¬ a.Good s g) (hs0 : 0 ≤ a.stale) (hs9 : a.stale < 9223372036854775807) :
    Calls Try.prog 66 #[.pointer (some ⟨B, 0, none⟩), .agg #[.int .i64 s, .int .i64 g]] w fun e w' => e = .returned (.tuple #[Ln.zero.v, .int .i64 7]) ∧ AftL m w w' B a.bad av := by
  have hge := h.ge
  obtain ⟨bs, h1, h2, h3⟩ := h
  exact (getBadL h1 s g hg hs0 hs9).mono fun e w' ⟨he, ht⟩ => ⟨he, ArS.step ht h2 hge h3⟩

theorem setSL {m : Nat} {w : World} {B : Nat} {a : Ar Ln} {av : List Nat} (h : AsL m w B a av) (s g : Int) (x : Ln) (hg : a.Good s g) :
    Calls Try.prog 73 #[.pointer (some ⟨B, 0, none⟩), .agg #[.int .i64 s, .int .i64 g], x.v] w fun e w' => e = .returned (.int .i64 0) ∧ AftL m w w' B (a.set s.toNat x) av := by
  have hge := h.ge
  obtain ⟨bs, h1, h2, h3⟩ := h
  exact (setGoodL h1 s g x hg).mono fun e w' ⟨he, ht⟩ => ⟨he, ArS.step ht h2 hge h3⟩

theorem setBadSL {m : Nat} {w : World} {B : Nat} {a : Ar Ln} {av : List Nat} (h : AsL m w B a av) (s g : Int) (x : Ln) (hg : ¬ a.Good s g) (hs0 : 0 ≤ a.stale) (hs9 : a.stale < 9223372036854775807) :
    Calls Try.prog 73 #[.pointer (some ⟨B, 0, none⟩), .agg #[.int .i64 s, .int .i64 g], x.v] w fun e w' => e = .returned (.int .i64 7) ∧ AftL m w w' B a.bad av := by
  have hge := h.ge
  obtain ⟨bs, h1, h2, h3⟩ := h
  exact (setBadL h1 s g x hg hs0 hs9).mono fun e w' ⟨he, ht⟩ => ⟨he, ArS.step ht h2 hge h3⟩

theorem staleSL {m : Nat} {w : World} {B : Nat} {a : Ar Ln} {av : List Nat} (h : AsL m w B a av) :
    Calls Try.prog 49 #[.pointer (some ⟨B, 0, none⟩)] w fun e w' => e = .returned (.int .i64 a.stale) ∧ w' = w := by
  obtain ⟨bs, h1, h2, h3⟩ := h
  exact staleL h1

end Go.Proofs.Ytbdcdiihaecheaa
