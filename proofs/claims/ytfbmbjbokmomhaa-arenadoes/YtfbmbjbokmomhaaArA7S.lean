/- Arenas of texts beside other memory: each call. -/
import Derived.Test.YtfbmbjbokmomhaaArA6S
import Derived.Test.YtfbmbjbokmomhaaArSep
namespace Go.Proofs.Ytfbmbjbokmomhaa
open Go.RowKit
set_option linter.unusedVariables false

abbrev AsS (m : Nat) (w : World) (B : Nat) (a : Ar) (av : List Nat) : Prop := ArS tAS tSS m w B a av

/-- Behind a call. -/
def AftS (m : Nat) (w w' : World) (B : Nat) (a : Ar) (av : List Nat) : Prop := AsS m w' B a av ∧ Below m w w' ∧ ∀ g ∈ av, w'.heap[g]? = w.heap[g]?

theorem AftS.quiet {m : Nat} {w w' : World} {B : Nat} {a : Ar} {av : List Nat} (h : AsS m w B a av) (k : Tn [] w w') : AftS m w w' B a av := by
  refine ⟨h.quiet k, ?_, fun g hg => ?_⟩
  · exact k.below h.ge (by simp)
  · obtain ⟨bs, _, _, h3⟩ := h
    exact k.block g (h3 g hg).2 (by simp)

theorem putSS {m : Nat} {w : World} {B : Nat} {a : Ar} {av : List Nat} (h : AsS m w B a av) (x : ByteArray) (hf : live a.us < a.size) (hg1 : 1 ≤ a.gen) (hg2 : a.gen ≤ 9223372036854775807) :
    Calls Try.prog 16 #[.pointer (some ⟨B, 0, none⟩), (.string x)] w fun e w' => e = .returned (.tuple #[.agg #[.int .i64 (low a.us), .int .i64 a.gen], .int .i64 0]) ∧ AftS m w w' B (a.put (.string x)) av := by
  have hge := h.ge
  obtain ⟨bs, h1, h2, h3⟩ := h
  exact (putOkS h1 x hf hg1 hg2).mono fun e w' ⟨he, ht⟩ => ⟨he, ArS.step ht h2 hge h3⟩

theorem fullSS {m : Nat} {w : World} {B : Nat} {a : Ar} {av : List Nat} (h : AsS m w B a av) (x : ByteArray) (hf : live a.us = a.size) :
    Calls Try.prog 16 #[.pointer (some ⟨B, 0, none⟩), (.string x)] w fun e w' => e = .returned (.tuple #[.agg #[.int .i64 0, .int .i64 0], .int .i64 5]) ∧ AftS m w w' B a av := by
  have h' := h
  obtain ⟨bs, h1, h2, h3⟩ := h
  exact (putFullS h1 x hf).mono fun e w' ⟨he, hb⟩ => ⟨he, AftS.quiet h' (Tn.of_below hb [])⟩

theorem freeSS {m : Nat} {w : World} {B : Nat} {a : Ar} {av : List Nat} (h : AsS m w B a av) (s g : Int) (hg : a.Good s g) :
    Calls Try.prog 17 #[.pointer (some ⟨B, 0, none⟩), .agg #[.int .i64 s, .int .i64 g]] w fun e w' => e = .returned (.int .i64 0) ∧ AftS m w w' B (a.free s.toNat (.string ⟨#[]⟩)) av := by
  have hge := h.ge
  obtain ⟨bs, h1, h2, h3⟩ := h
  exact (freeGoodS h1 s g hg).mono fun e w' ⟨he, ht⟩ => ⟨he, ArS.step ht h2 hge h3⟩

theorem freeBadSS {m : Nat} {w : World} {B : Nat} {a : Ar} {av : List Nat} (h : AsS m w B a av) (s g : Int) (hg : ¬ a.Good s g) (hs0 : 0 ≤ a.stale) (hs9 : a.stale < 9223372036854775807) :
    Calls Try.prog 17 #[.pointer (some ⟨B, 0, none⟩), .agg #[.int .i64 s, .int .i64 g]] w fun e w' => e = .returned (.int .i64 7) ∧ AftS m w w' B a.bad av := by
  have hge := h.ge
  obtain ⟨bs, h1, h2, h3⟩ := h
  exact (freeBadS h1 s g hg hs0 hs9).mono fun e w' ⟨he, ht⟩ => ⟨he, ArS.step ht h2 hge h3⟩

theorem liveSS {m : Nat} {w : World} {B : Nat} {a : Ar} {av : List Nat} (h : AsS m w B a av) :
    Calls Try.prog 11 #[.pointer (some ⟨B, 0, none⟩)] w fun e w' => e = .returned (.int .i64 (live a.us)) ∧ Tn [] w w' := by
  obtain ⟨bs, h1, h2, h3⟩ := h
  exact liveS h1

theorem slotsSS {m : Nat} {w : World} {B : Nat} {a : Ar} {av : List Nat} (h : AsS m w B a av) :
    Calls Try.prog 25 #[.pointer (some ⟨B, 0, none⟩)] w fun e w' => e = .returned (.int .i64 a.size) ∧ w' = w := by
  obtain ⟨bs, h1, h2, h3⟩ := h
  exact slotsS h1

theorem newSS (w : World) (n : Nat) (h1 : 1 ≤ n) (h2 : n ≤ 65536) : Calls Try.prog 7 #[.int .i64 n] w fun e w' => e = .returned (.tuple #[.pointer (some ⟨w.heap.size, 0, none⟩), .int .i64 0]) ∧ AsS w.heap.size w' w.heap.size (Ar.fresh n) [] ∧ Below w.heap.size w w' ∧ w'.heap.size = w.heap.size + 1 :=
  (newS w n h1 h2).mono fun e w' ⟨he, ha, hb, hs⟩ => ⟨he, ArS.of ha (by simp), hb, hs⟩

theorem getSS {m : Nat} {w : World} {B : Nat} {a : Ar} {av : List Nat} (h : AsS m w B a av) (s g : Int) (hg : a.Good s g) :
    Calls Try.prog 19 #[.pointer (some ⟨B, 0, none⟩), .agg #[.int .i64 s, .int .i64 g]] w fun e w' => e = .returned (.tuple #[(slAt a.us s.toNat).val, .int .i64 0]) ∧ Tn [] w w' := by
  obtain ⟨bs, h1, h2, h3⟩ := h
  exact (getGoodS h1 s g hg).mono fun e w' ⟨he, hb⟩ => ⟨he, Tn.of_below hb []⟩

theorem getBadSS {m : Nat} {w : World} {B : Nat} {a : Ar} {av : List Nat} (h : AsS m w B a av) (s g : Int) (hg : ¬ a.Good s g) (hs0 : 0 ≤ a.stale) (hs9 : a.stale < 9223372036854775807) :
    Calls Try.prog 19 #[.pointer (some ⟨B, 0, none⟩), .agg #[.int .i64 s, .int .i64 g]] w fun e w' => e = .returned (.tuple #[(.string ⟨#[]⟩), .int .i64 7]) ∧ AftS m w w' B a.bad av := by
  have hge := h.ge
  obtain ⟨bs, h1, h2, h3⟩ := h
  exact (getBadS h1 s g hg hs0 hs9).mono fun e w' ⟨he, ht⟩ => ⟨he, ArS.step ht h2 hge h3⟩

theorem setSS {m : Nat} {w : World} {B : Nat} {a : Ar} {av : List Nat} (h : AsS m w B a av) (s g : Int) (x : ByteArray) (hg : a.Good s g) :
    Calls Try.prog 18 #[.pointer (some ⟨B, 0, none⟩), .agg #[.int .i64 s, .int .i64 g], (.string x)] w fun e w' => e = .returned (.int .i64 0) ∧ AftS m w w' B (a.set s.toNat (.string x)) av := by
  have hge := h.ge
  obtain ⟨bs, h1, h2, h3⟩ := h
  exact (setGoodS h1 s g x hg).mono fun e w' ⟨he, ht⟩ => ⟨he, ArS.step ht h2 hge h3⟩

theorem setBadSS {m : Nat} {w : World} {B : Nat} {a : Ar} {av : List Nat} (h : AsS m w B a av) (s g : Int) (x : ByteArray) (hg : ¬ a.Good s g) (hs0 : 0 ≤ a.stale) (hs9 : a.stale < 9223372036854775807) :
    Calls Try.prog 18 #[.pointer (some ⟨B, 0, none⟩), .agg #[.int .i64 s, .int .i64 g], (.string x)] w fun e w' => e = .returned (.int .i64 7) ∧ AftS m w w' B a.bad av := by
  have hge := h.ge
  obtain ⟨bs, h1, h2, h3⟩ := h
  exact (setBadS h1 s g x hg hs0 hs9).mono fun e w' ⟨he, ht⟩ => ⟨he, ArS.step ht h2 hge h3⟩

theorem staleSS {m : Nat} {w : World} {B : Nat} {a : Ar} {av : List Nat} (h : AsS m w B a av) :
    Calls Try.prog 13 #[.pointer (some ⟨B, 0, none⟩)] w fun e w' => e = .returned (.int .i64 a.stale) ∧ w' = w := by
  obtain ⟨bs, h1, h2, h3⟩ := h
  exact staleS h1

end Go.Proofs.Ytfbmbjbokmomhaa
