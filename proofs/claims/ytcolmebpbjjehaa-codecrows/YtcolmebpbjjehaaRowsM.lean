import Derived.Test.YtcolmebpbjjehaaOpen
import Derived.Test.YtcolmebpbjjehaaCmp
namespace Go.Proofs.Ytcolmebpbjjehaa
open Go.ChangeShapes Go.WideShapes Go.ChangeAt Go.RowKit
set_option linter.unusedVariables false

namespace Cd
/-- The bytes of a row of ints. -/
def encs (l : List Int) : List Int := (l.map enc).flatten

theorem encs_cons (a : Int) (l : List Int) : encs (a :: l) = enc a ++ encs l := by simp [encs]

theorem encs_snoc (a : Int) (l : List Int) : encs (l ++ [a]) = encs l ++ enc a := by simp [encs]

theorem lex_encs (l : List Int) : ∀ m : List Int, l.length = m.length → (∀ y ∈ l, -9223372036854775808 ≤ y ∧ y ≤ 9223372036854775807) → (∀ y ∈ m, -9223372036854775808 ≤ y ∧ y ≤ 9223372036854775807) → lex (encs l) (encs m) = lex l m := by
  induction l with
  | nil => intro m hl _ _; cases m with
    | nil => rfl
    | cons _ _ => simp at hl
  | cons a l ih => intro m hl h1 h2; cases m with
    | nil => simp at hl
    | cons b m =>
      rw [encs_cons, encs_cons]
      by_cases h : a = b
      · subst h
        rw [lex_same, ih m (by simpa using hl) (fun y hy => h1 y (by simp [hy])) (fun y hy => h2 y (by simp [hy]))]
        simp [lex]
      · rw [lex_enc a b _ _ (h1 a (by simp)) (h2 b (by simp)) h, lex_head _ _ h]

theorem lex_snoc (l : List Int) : ∀ (m : List Int) (a b : Int), l.length = m.length → lex (l ++ [a]) (m ++ [b]) = if lex l m = 0 then cmp a b else lex l m := by
  induction l with
  | nil => intro m a b hl; cases m with
    | nil => simp [lex, cmp]
    | cons _ _ => simp at hl
  | cons x l ih => intro m a b hl; cases m with
    | nil => simp at hl
    | cons y m =>
      have := ih m a b (by simpa using hl)
      simp only [List.cons_append, lex]
      by_cases h1 : x < y
      · simp [h1]
      · by_cases h2 : y < x
        · simp [h1, h2]
        · simp only [h1, h2, if_false]
          exact this
end Cd

/-- The ints that a slice leads to. -/
def Its (w : World) (p : Option Addr) (xs : List Int) : Prop :=
  0 < xs.length → ∃ b o, p = some ⟨b, o, none⟩ ∧ ∀ i, i < xs.length → w.cell? ⟨b, o + i, none⟩ = some (.int .i64 (xs.getD i 0))

theorem Its.below {w w' : World} {p : Option Addr} {xs : List Int} (h : Its w p xs) {B : Nat} (hb : Below B w w') (hB : w.heap.size ≤ B) : Its w' p xs := by
  intro hl
  obtain ⟨b, o, hp, hc⟩ := h hl
  refine ⟨b, o, hp, fun i hi => ?_⟩
  have hh := hc i hi
  rw [hb.cell (p := ⟨b, o + i, none⟩) (Nat.lt_of_lt_of_le (World.block_lt_of_cell? w _ hh) hB)]
  exact hh

structure InI (B : Nat) (w : World) (p : Option Addr) (len cap : Nat) (xs : List Int) : Prop where
  lenq : xs.length = len
  its : Its w p xs
  le : len ≤ cap
  room : cap ≤ B
  nil : p = none → len = 0 ∧ cap = 0
  fits : ∀ y ∈ xs, -9223372036854775808 ≤ y ∧ y ≤ 9223372036854775807

theorem bytes_i64 : Try.prog.bytesOf 2 = 8 := by kernel_rfl

theorem in_ints {H : Type} {enc : TypeId × Value → H} {W : World} {a : Option Addr} {len cap : Nat} {d : DataW H} {p : List MemPlace} {B : Nat}
    (h : DataW.Trod enc Try.prog W 0 (fun _ => true) true 47 (.slice a len cap) d p) (hB : ∀ elems spare, d = .slice elems spare → elems.length + spare.length ≤ B) : ∃ xs, InI B W a len cap xs := by
  obtain ⟨fuel, hf⟩ := h
  rcases open_ints Try.underlying47 Try.underlying2 (by kernel_rfl) hf with ⟨hcs, _⟩ | ⟨x, l, c, zs, hcs, _, hl, hm, hz, hx, hcell, hwz⟩
  · simp [Value.cells] at hcs
    obtain ⟨rfl, rfl, rfl⟩ := hcs
    exact ⟨[], rfl, fun h => absurd h (Nat.lt_irrefl 0), Nat.le_refl _, Nat.zero_le _, fun _ => ⟨rfl, rfl⟩, by simp⟩
  · simp [Value.cells] at hcs
    obtain ⟨rfl, rfl, rfl⟩ := hcs
    simp only [Prod.mk.injEq] at hx
    have hb := hB _ _ hx.1
    simp only [lits, List.length_map, List.length_take, List.length_drop] at hb
    simp only [if_true] at hz
    refine ⟨zs.take len, by simp; omega, ?_, hl, by omega, (fun e => by cases e), ?_⟩
    · intro hpos
      simp at hpos
      have h0 := hcell 0 (by omega)
      obtain ⟨b, off, spot⟩ := x
      have hspot : spot = none := by simpa [Addr.add] using World.cell?_spot h0
      subst hspot
      refine ⟨b, off, rfl, fun i hi => ?_⟩
      simp at hi
      have := hcell i (by omega)
      rw [Addr.add_lit] at this
      rw [this]
      simp [List.getD, show i < len by omega]
    · intro y hy
      have := bounds_i64 (hwz y (List.mem_of_mem_take hy))
      omega

theorem InI.below {B : Nat} {w w' : World} {p : Option Addr} {len cap : Nat} {xs : List Int} (h : InI B w p len cap xs) (hb : Below w.heap.size w w') : InI B w' p len cap xs :=
  ⟨h.lenq, h.its.below hb (Nat.le_refl _), h.le, h.room, h.nil, h.fits⟩
end Go.Proofs.Ytcolmebpbjjehaa
