/- Arenas beside other memory. -/
import Derived.Test.YtbdcdiihaecheaaAgMem
namespace Go.Proofs.Ytbdcdiihaecheaa
open Go.RowKit
set_option linter.unusedVariables false
set_option linter.unusedSectionVars false

variable {α : Type} [Inhabited α] {cells : α → List Value} {k : Nat} {tA tS : TypeId}

/-- An arena whose blocks lie from m on, and are none of some others. -/
def ArS (cells : α → List Value) (k : Nat) (tA tS : TypeId) (m : Nat) (w : World) (B : Nat) (a : Ar α) (av : List Nat) : Prop := ∃ bs, Arn cells k tA tS w B bs a ∧ (∀ b ∈ bs, m ≤ b) ∧ ∀ g ∈ av, g ∉ bs ∧ g < w.heap.size

theorem ArS.step {m : Nat} {w w' : World} {B : Nat} {a : Ar α} {bs av : List Nat} (h : ArT cells k tA tS w w' B bs a) (hm : ∀ b ∈ bs, m ≤ b) (hw : m ≤ w.heap.size) (hav : ∀ g ∈ av, g ∉ bs ∧ g < w.heap.size) :
    ArS cells k tA tS m w' B a av ∧ Below m w w' ∧ ∀ g ∈ av, w'.heap[g]? = w.heap[g]? := by
  obtain ⟨bs', h1, h2, h3⟩ := h
  refine ⟨⟨bs', h1, fun b hb => ?_, fun g hg => ⟨fun hb => ?_, ?_⟩⟩, h2.below hw hm, fun g hg => h2.block g (hav g hg).2 (hav g hg).1⟩
  · rcases h3 b hb with h | h
    · exact hm b h
    · omega
  · rcases h3 g hb with h | h
    · exact (hav g hg).1 h
    · have := (hav g hg).2
      omega
  · have := (hav g hg).2
    have := h2.size
    omega

/-- Nothing old has turned. -/
theorem ArS.quiet {m : Nat} {w w' : World} {B : Nat} {a : Ar α} {av : List Nat} (h : ArS cells k tA tS m w B a av) (kt : Tn [] w w') : ArS cells k tA tS m w' B a av := by
  obtain ⟨bs, h1, h2, h3⟩ := h
  exact ⟨bs, h1.tn kt (by simp), h2, fun g hg => ⟨(h3 g hg).1, Nat.lt_of_lt_of_le (h3 g hg).2 kt.size⟩⟩

theorem ArS.below {m : Nat} {w w' : World} {B : Nat} {a : Ar α} {av : List Nat} (h : ArS cells k tA tS m w B a av) (kt : Below w.heap.size w w') : ArS cells k tA tS m w' B a av := h.quiet (Tn.of_below kt [])

/-- Blocks that are none of its have turned. -/
theorem ArS.other {m : Nat} {w w' : World} {B : Nat} {a : Ar α} {av S : List Nat} (h : ArS cells k tA tS m w B a av) (kt : Tn S w w') (hS : ∀ x ∈ S, x ∈ av) : ArS cells k tA tS m w' B a av := by
  obtain ⟨bs, h1, h2, h3⟩ := h
  exact ⟨bs, h1.tn kt (fun b hb hm => (h3 b (hS b hm)).1 hb), h2, fun g hg => ⟨(h3 g hg).1, Nat.lt_of_lt_of_le (h3 g hg).2 kt.size⟩⟩

/-- A new block is none of its. -/
theorem ArS.add {m : Nat} {w w' : World} {B : Nat} {a : Ar α} {av : List Nat} (h : ArS cells k tA tS m w B a av) (kt : Tn [] w w') {g : Nat} (hg : w.heap.size ≤ g) (hg' : g < w'.heap.size) : ArS cells k tA tS m w' B a (g :: av) := by
  obtain ⟨bs, h1, h2, h3⟩ := h
  refine ⟨bs, h1.tn kt (by simp), h2, fun x hx => ?_⟩
  rcases List.mem_cons.1 hx with rfl | hx
  · exact ⟨fun hb => by have := h1.lt x hb; omega, hg'⟩
  · exact ⟨(h3 x hx).1, Nat.lt_of_lt_of_le (h3 x hx).2 kt.size⟩

theorem ArS.sub {m : Nat} {w : World} {B : Nat} {a : Ar α} {av av' : List Nat} (h : ArS cells k tA tS m w B a av) (hs : ∀ x ∈ av', x ∈ av) : ArS cells k tA tS m w B a av' := by
  obtain ⟨bs, h1, h2, h3⟩ := h
  exact ⟨bs, h1, h2, fun g hg => h3 g (hs g hg)⟩

theorem ArS.of {m : Nat} {w : World} {B : Nat} {a : Ar α} {bs : List Nat} (h : Arn cells k tA tS w B bs a) (hm : ∀ b ∈ bs, m ≤ b) : ArS cells k tA tS m w B a [] := ⟨bs, h, hm, fun g hg => by cases hg⟩

theorem ArS.ge {m : Nat} {w : World} {B : Nat} {a : Ar α} {av : List Nat} (h : ArS cells k tA tS m w B a av) : m ≤ w.heap.size := by
  obtain ⟨bs, h1, h2, h3⟩ := h
  have := h2 B h1.hB
  have := h1.lt B h1.hB
  omega

/-- Elder blocks are none of its. -/
theorem ArS.old {m : Nat} {w : World} {B : Nat} {a : Ar α} {av : List Nat} (h : ArS cells k tA tS m w B a av) {g : Nat} (hg : g < m) : ArS cells k tA tS m w B a (g :: av) := by
  have hge := h.ge
  obtain ⟨bs, h1, h2, h3⟩ := h
  refine ⟨bs, h1, h2, fun x hx => ?_⟩
  rcases List.mem_cons.1 hx with rfl | hx
  · exact ⟨fun hb => by have := h2 x hb; omega, by omega⟩
  · exact h3 x hx

/-- Others have turned, and grown. -/
theorem ArS.grow {m : Nat} {w w' : World} {B : Nat} {a : Ar α} {av av' S : List Nat} (h : ArS cells k tA tS m w B a av) (kt : Tn S w w') (hS : ∀ x ∈ S, x ∈ av ∨ w.heap.size ≤ x) (hav : ∀ x ∈ av', x ∈ av ∨ w.heap.size ≤ x) (hlt : ∀ x ∈ av', x < w'.heap.size) : ArS cells k tA tS m w' B a av' := by
  obtain ⟨bs, h1, h2, h3⟩ := h
  refine ⟨bs, h1.tn kt (fun b hb hm => ?_), h2, fun g hg => ⟨fun hb => ?_, hlt g hg⟩⟩
  · rcases hS b hm with h | h
    · exact (h3 b h).1 hb
    · have := h1.lt b hb
      omega
  · rcases hav g hg with h | h
    · exact (h3 g h).1 hb
    · have := h1.lt g hb
      omega

end Go.Proofs.Ytbdcdiihaecheaa
