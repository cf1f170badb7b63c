/- Arenas of cells beside other memory: each call. -/
import Derived.Test.YtbdcdiihaecheaaAgA6C
import Derived.Test.YtbdcdiihaecheaaAgSep
namespace Go.Proofs.Ytbdcdiihaecheaa
open Go.RowKit
set_option linter.unusedVariables false
set_option linter.unusedSectionVars false
variable [Inhabited Cl] [Inhabited Ln]

abbrev AsC (m : Nat) (w : World) (B : Nat) (a : Ar Cl) (av : List Nat) : Prop := ArS Cl.cells 4 tAC tSC m w B a av

/-- Behind a call. -/
def AftC (m : Nat) (w w' : World) (B : Nat) (a : Ar Cl) (av : List Nat) : Prop := AsC m w' B a av ∧ Below m w w' ∧ ∀ g ∈ av, w'.heap[g]? = w.heap[g]?

theorem AftC.quiet {m : Nat} {w w' : World} {B : Nat} {a : Ar Cl} {av : List Nat} (h : AsC m w B a av) (kt : Tn [] w w') : AftC m w w' B a av := by
  refine ⟨h.quiet kt, ?_, fun g hg => ?_⟩
  · exact kt.below h.ge (by simp)
  · obtain ⟨bs, _, _, h3⟩ := h
    exact kt.block g (h3 g hg).2 (by simp)

theorem putSC {m : Nat} {w : World} {B : Nat} {a : Ar Cl} {av : List Nat} (h : AsC m w B a av) (x : Cl) (hf : live a.us < a.size) (hg1 : 1 ≤ a.gen) (hg2 : a.gen ≤ 9223372036854775807) :
    Calls Try.prog 37 #[.pointer (some ⟨B, 0, none⟩), x.v] w fun e w' => e = .returned (.tuple #[.agg #[.int .i64 (low a.us), .int .i64 a.gen], .int .i64 0]) ∧ AftC m w w' B (a.put x) av := by
  have hge := h.ge
  obtain ⟨bs, h1, h2, h3⟩ := h
  exact (putOkC h1 x hf hg1 hg2).mono fun e w' ⟨he, ht⟩ => ⟨he, ArS.step ht h2 hge h3⟩

theorem fullSC {m : Nat} {w : World} {B : Nat} {a : Ar Cl} {av : List Nat} (h : AsC m w B a av) (x : Cl) (hf : live a.us = a.size) :
    Calls Try.prog 37 #[.pointer (some ⟨B, 0, none⟩), x.v] w fun e w' => e = .returned (.tuple #[.agg #[.int .i64 0, .int .i64 0], .int .i64 5]) ∧ AftC m w w' B a av := by
  have h' := h
  obtain ⟨bs, h1, h2, h3⟩ := h
  exact (putFullC h1 x hf).mono fun e w' ⟨he, hb⟩ => ⟨he, AftC.quiet h' (Tn.of_below hb [])⟩

theorem freeSC {m : Nat} {w : World} {B : Nat} {a : Ar Cl} {av : List Nat} (h : AsC m w B a av) (s g : Int) (hg : a.Good s g) :
    Calls Try.prog 59 #[.pointer (some ⟨B, 0, none⟩), .agg #[.int .i64 s, .int .i64 g]] w fun e w' => e = .returned (.int .i64 0) ∧ AftC m w w' B (a.free s.toNat Cl.zero) av := by
  have hge := h.ge
  obtain ⟨bs, h1, h2, h3⟩ := h
  exact (freeGoodC h1 s g hg).mono fun e w' ⟨he, ht⟩ => ⟨he, ArS.step ht h2 hge h3⟩

theorem freeBadSC {m : Nat} {w : World} {B : Nat} {a : Ar Cl} {av : List Nat} (h : AsC m w B a av) (s g : Int) (hg : ¬ a.Good s g) (hs0 : 0 ≤ a.stale) (hs9 : a.stale < 9223372036854775807) :
    Calls Try.prog 59 #[.pointer (some ⟨B, 0, none⟩), .agg #[.int .i64 s, .int .i64 g]] w fun e w' => e = .returned (.int .i64 7) ∧ AftC m w w' B a.bad av := by
  have hge := h.ge
  obtain ⟨bs, h1, h2, h3⟩ := h
  exact (freeBadC h1 s g hg hs0 hs9).mono fun e w' ⟨he, ht⟩ => ⟨he, ArS.step ht h2 hge h3⟩

theorem liveSC {m : Nat} {w : World} {B : Nat} {a : Ar Cl} {av : List Nat} (h : AsC m w B a av) :
    Calls Try.prog 53 #[.pointer (some ⟨B, 0, none⟩)] w fun e w' => e = .returned (.int .i64 (live a.us)) ∧ Tn [] w w' := by
  obtain ⟨bs, h1, h2, h3⟩ := h
  exact liveC h1

theorem slotsSC {m : Nat} {w : World} {B : Nat} {a : Ar Cl} {av : List Nat} (h : AsC m w B a av) :
    Calls Try.prog 60 #[.pointer (some ⟨B, 0, none⟩)] w fun e w' => e = .returned (.int .i64 a.size) ∧ w' = w := by
  obtain ⟨bs, h1, h2, h3⟩ := h
  exact slotsC h1

theorem newSC (w : World) (n : Nat) (h1 : 1 ≤ n) (h2 : n ≤ 65536) : Calls Try.prog 31 #[.int .i64 n] w fun e w' => e = .returned (.tuple #[.pointer (some ⟨w.heap.size, 0, none⟩), .int .i64 0]) ∧ AsC w.heap.size w' w.heap.size (Ar.fresh n) [] ∧ Below w.heap.size w w' ∧ w'.heap.size = w.heap.size + 1 :=
  (newC w n h1 h2).mono fun e w' ⟨he, ha, hb, hs⟩ => ⟨he, ArS.of ha (by simp), hb, hs⟩

theorem getSC {m : Nat} {w : World} {B : Nat} {a : Ar Cl} {av : List Nat} (h : AsC m w B a av) (s g : Int) (hg : a.Good s g) :
    Calls Try.prog 65 #[.pointer (some ⟨B, 0, none⟩), .agg #[.int .i64 s, .int .i64 g]] w fun e w' => e = .returned (.tuple #[(slAt a.us s.toNat).val.v, .int .i64 0]) ∧ Tn [] w w' := by
  obtain ⟨bs, h1, h2, h3⟩ := h
  exact (getGoodC h1 s g hg).mono fun e w' ⟨he, hb⟩ => ⟨he, Tn.of_below hb []⟩

theorem getBadSC {m : Nat} {w : World} {B : Nat} {a : Ar Cl} {av : List Nat} (h : AsC m w B a av) (s g : Int) (hg : ¬ a.Good s g) (hs0 : 0 ≤ a.stale) (hs9 : a.stale < 9223372036854775807) :
    Calls Try.prog 65 #[.pointer (some ⟨B, 0, none⟩), .agg #[.int .i64 s, .int .i64 g]] w fun e w' => e = .returned (.tuple #[Cl.zero.v, .int .i64 7]) ∧ AftC m w w' B a.bad av := by
  have hge := h.ge
  obtain ⟨bs, h1, h2, h3⟩ := h
  exact (getBadC h1 s g hg hs0 hs9).mono fun e w' ⟨he, ht⟩ => ⟨he, ArS.step ht h2 hge h3⟩

theorem setSC {m : Nat} {w : World} {B : Nat} {a : Ar Cl} {av : List Nat} (h : AsC m w B a av) (s g : Int) (x : Cl) (hg : a.Good s g) :
    Calls Try.prog 42 #[.pointer (some ⟨B, 0, none⟩), .agg #[.int .i64 s, .int .i64 g], x.v] w fun e w' => e = .returned (.int .i64 0) ∧ AftC m w w' B (a.set s.toNat x) av := by
  have hge := h.ge
  obtain ⟨bs, h1, h2, h3⟩ := h
  exact (setGoodC h1 s g x hg).mono fun e w' ⟨he, ht⟩ => ⟨he, ArS.step ht h2 hge h3⟩

theorem setBadSC {m : Nat} {w : World} {B : Nat} {a : Ar Cl} {av : List Nat} (h : AsC m w B a av) (s g : Int) (x : Cl) (hg : ¬ a.Good s g) (hs0 : 0 ≤ a.stale) (hs9 : a.stale < 9223372036854775807) :
    Calls Try.prog 42 #[.pointer (some ⟨B, 0, none⟩), .agg #[.int .i64 s, .int .i64 g], x.v] w fun e w' => e = .returned (.int .i64 7) ∧ AftC m w w' B a.bad av := by
  have hge := h.ge
  obtain ⟨bs, h1, h2, h3⟩ := h
  exact (setBadC h1 s g x hg hs0 hs9).mono fun e w' ⟨he, ht⟩ => ⟨he, ArS.step ht h2 hge h3⟩

theorem staleSC {m : Nat} {w : World} {B : Nat} {a : Ar Cl} {av : List Nat} (h : AsC m w B a av) :
    Calls Try.prog 48 #[.pointer (some ⟨B, 0, none⟩)] w fun e w' => e = .returned (.int .i64 a.stale) ∧ w' = w := by
  obtain ⟨bs, h1, h2, h3⟩ := h
  exact staleC h1

end Go.Proofs.Ytbdcdiihaecheaa
