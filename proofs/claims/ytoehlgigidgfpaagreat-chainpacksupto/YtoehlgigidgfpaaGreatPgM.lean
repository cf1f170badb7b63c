/- Entries and pages as plain data; slices of entries; rows of entries of the call's own. -/
import Derived.Test.YtoehlgigidgfpaaGreatKyM
import Derived.WalkLawsBesides
import Derived.Lib.SliceRun
namespace Go.Proofs.YtoehlgigidgfpaaGreat
open Go.RowKit
set_option linter.unusedVariables false
set_option maxRecDepth 100000

/-- An entry. -/
structure En where
  key : ByteArray
  s : Int
  g : Int
  c : Int

def En.cells (e : En) : List Value := [.string e.key, .int .i64 e.s, .int .i64 e.g, .int .i64 e.c]
abbrev En.val (e : En) : Value := .agg #[.string e.key, .int .i64 e.s, .int .i64 e.g, .int .i64 e.c]
abbrev En.zero : En := ⟨⟨#[]⟩, 0, 0, 0⟩

theorem eninfo : (Tryz.prog.info? 33).map (fun i => (i.zero, i.size, i.bytes)) = some (some (.agg #[.string ⟨#[]⟩, .int .i64 0, .int .i64 0, .int .i64 0]), 4, 40) := by kernel_rfl

theorem en_info : ∃ i, Tryz.prog.info? 33 = some i ∧ i.zero = some (.agg #[.string ⟨#[]⟩, .int .i64 0, .int .i64 0, .int .i64 0]) ∧ i.size = 4 ∧ i.bytes = 40 := by
  have := eninfo
  cases h : Tryz.prog.info? 33 with
  | none => rw [h] at this; simp at this
  | some i =>
    rw [h] at this
    simp at this
    exact ⟨i, rfl, this.1, this.2.1, this.2.2⟩

/-- Entries that a slice leads to. -/
def Ens (w : World) (p : Option Addr) (l : List En) : Prop :=
  0 < l.length → ∃ b o, p = some ⟨b, o, none⟩ ∧ ∀ (i : Nat) e, l[i]? = some e → w.cell? ⟨b, o + i * 4, none⟩ = some (.string e.key) ∧ w.cell? ⟨b, o + i * 4 + 1, none⟩ = some (.int .i64 e.s) ∧ w.cell? ⟨b, o + i * 4 + 2, none⟩ = some (.int .i64 e.g) ∧ w.cell? ⟨b, o + i * 4 + 3, none⟩ = some (.int .i64 e.c)

theorem Ens.nil (w : World) (p : Option Addr) : Ens w p [] := fun h => absurd h (Nat.lt_irrefl 0)

theorem Ens.below {w w' : World} {p : Option Addr} {l : List En} (h : Ens w p l) {B : Nat} (hb : Below B w w') (hB : w.heap.size ≤ B) : Ens w' p l := by
  intro hl
  obtain ⟨b, o, rfl, hc⟩ := h hl
  refine ⟨b, o, rfl, fun i g hi => ?_⟩
  obtain ⟨h0, h1, h2, h3⟩ := hc i g hi
  have k : b < B := Nat.lt_of_lt_of_le (World.block_lt_of_cell? w _ h0) hB
  rw [hb.cell (p := ⟨b, o + i * 4, none⟩) k, hb.cell (p := ⟨b, o + i * 4 + 1, none⟩) k, hb.cell (p := ⟨b, o + i * 4 + 2, none⟩) k, hb.cell (p := ⟨b, o + i * 4 + 3, none⟩) k]
  exact ⟨h0, h1, h2, h3⟩

theorem Ens.at {w : World} {p : Option Addr} {l : List En} (h : Ens w p l) {j : Nat} (hj : j < l.length) : ∃ b o e, p = some ⟨b, o, none⟩ ∧ l[j]? = some e ∧ b < w.heap.size ∧ w.cell? ⟨b, o + j * 4, none⟩ = some (.string e.key) ∧ w.cell? ⟨b, o + j * 4 + 1, none⟩ = some (.int .i64 e.s) ∧ w.cell? ⟨b, o + j * 4 + 2, none⟩ = some (.int .i64 e.g) ∧ w.cell? ⟨b, o + j * 4 + 3, none⟩ = some (.int .i64 e.c) := by
  obtain ⟨b, o, rfl, hc⟩ := h (by omega)
  have hg := List.getElem?_eq_getElem hj
  have := hc j _ hg
  exact ⟨b, o, l[j], rfl, hg, World.block_lt_of_cell? w _ this.1, this⟩

/-- The block of a slice that has entries lies in the world. -/
theorem Ens.lt {w : World} {b o : Nat} {l : List En} (h : Ens w (some ⟨b, o, none⟩) l) (hl : 0 < l.length) : b < w.heap.size := by
  obtain ⟨b', o', e, hp, _, hlt, _⟩ := h.at hl
  cases hp
  exact hlt

/-- A part of a slice. -/
theorem Ens.part {w : World} {b o : Nat} {l : List En} (h : Ens w (some ⟨b, o, none⟩) l) (i n : Nat) : Ens w (some ⟨b, o + i * 4, none⟩) ((l.drop i).take n) := by
  intro hl
  have hpos : 0 < l.length := by
    simp only [List.length_take, List.length_drop] at hl
    omega
  obtain ⟨b', o', hp, hc⟩ := h hpos
  cases hp
  refine ⟨b, o + i * 4, rfl, fun j e hj => ?_⟩
  have hj' : l[i + j]? = some e := by
    rw [List.getElem?_take] at hj
    split at hj
    · rwa [List.getElem?_drop] at hj
    · cases hj
  have := hc (i + j) e hj'
  rw [show o + (i + j) * 4 = o + i * 4 + j * 4 by omega] at this
  exact this

theorem Ens.take {w : World} {p : Option Addr} {l : List En} (h : Ens w p l) (n : Nat) : Ens w p (l.take n) := by
  intro hl
  have hpos : 0 < l.length := by
    simp only [List.length_take] at hl
    omega
  obtain ⟨b, o, hp, hc⟩ := h hpos
  refine ⟨b, o, hp, fun j e hj => hc j e ?_⟩
  rw [List.getElem?_take] at hj
  split at hj
  · exact hj
  · cases hj

theorem Ens.drop {w : World} {b o : Nat} {l : List En} (h : Ens w (some ⟨b, o, none⟩) l) (i : Nat) : Ens w (some ⟨b, o + i * 4, none⟩) (l.drop i) := by
  have := h.part i (l.length)
  rwa [List.take_of_length_le (by simp)] at this

/-- The cells of some entries, one behind the other. -/
def flatE (l : List En) : List Value := (l.map En.cells).flatten

theorem flatE_len : ∀ l : List En, (flatE l).length = l.length * 4
  | [] => rfl
  | x :: r => by
    have := flatE_len r
    unfold flatE at this ⊢
    simp only [List.map_cons, List.flatten_cons, List.length_append, List.length_cons, this]
    simp [En.cells]
    omega

theorem flatE_append (a b : List En) : flatE (a ++ b) = flatE a ++ flatE b := by simp [flatE]

theorem flatE_at : ∀ (l : List En) (i : Nat) (e : En), l[i]? = some e → (flatE l)[i * 4]? = some (.string e.key) ∧ (flatE l)[i * 4 + 1]? = some (.int .i64 e.s) ∧ (flatE l)[i * 4 + 2]? = some (.int .i64 e.g) ∧ (flatE l)[i * 4 + 3]? = some (.int .i64 e.c)
  | [], i, g, h => by simp at h
  | x :: r, 0, g, h => by
    simp at h
    subst h
    simp [flatE, En.cells]
  | x :: r, i + 1, g, h => by
    simp only [List.getElem?_cons_succ] at h
    have := flatE_at r i g h
    unfold flatE at this ⊢
    simp only [List.map_cons, List.flatten_cons]
    rw [List.getElem?_append_right (by simp [En.cells]; omega), List.getElem?_append_right (by simp [En.cells]; omega), List.getElem?_append_right (by simp [En.cells]; omega), List.getElem?_append_right (by simp [En.cells]; omega)]
    simp only [En.cells, List.length_cons, List.length_nil]
    rw [show (i + 1) * 4 - (0 + 1 + 1 + 1 + 1) = i * 4 by omega, show (i + 1) * 4 + 1 - (0 + 1 + 1 + 1 + 1) = i * 4 + 1 by omega, show (i + 1) * 4 + 2 - (0 + 1 + 1 + 1 + 1) = i * 4 + 2 by omega, show (i + 1) * 4 + 3 - (0 + 1 + 1 + 1 + 1) = i * 4 + 3 by omega]
    exact this

theorem flatE_one (l : List En) : ∀ u ∈ flatE l, u.oneCell' = true := by
  intro u hu
  obtain ⟨y, hy1, hy2⟩ := List.mem_flatten.1 hu
  obtain ⟨z, _, rfl⟩ := List.mem_map.1 hy1
  simp [En.cells] at hy2
  rcases hy2 with rfl | rfl | rfl | rfl <;> rfl

theorem flatE_inv (l : List En) (j : Nat) (u : Value) (h : (flatE l)[j]? = some u) : ∃ i e, l[i]? = some e ∧ ((j = i * 4 ∧ u = .string e.key) ∨ (j = i * 4 + 1 ∧ u = .int .i64 e.s) ∨ (j = i * 4 + 2 ∧ u = .int .i64 e.g) ∨ (j = i * 4 + 3 ∧ u = .int .i64 e.c)) := by
  have hj : j < l.length * 4 := by
    have := (List.getElem?_eq_some_iff.1 h).1
    rw [flatE_len] at this
    exact this
  have hi : j / 4 < l.length := by omega
  have hg := List.getElem?_eq_getElem hi
  obtain ⟨a0, a1, a2, a3⟩ := flatE_at l (j / 4) _ hg
  refine ⟨j / 4, _, hg, ?_⟩
  have key : j = j / 4 * 4 ∨ j = j / 4 * 4 + 1 ∨ j = j / 4 * 4 + 2 ∨ j = j / 4 * 4 + 3 := by omega
  rcases key with e | e | e | e
  · exact .inl ⟨e, by rw [e, a0] at h; exact (Option.some.inj h).symm⟩
  · exact .inr (.inl ⟨e, by rw [e, a1] at h; exact (Option.some.inj h).symm⟩)
  · exact .inr (.inr (.inl ⟨e, by rw [e, a2] at h; exact (Option.some.inj h).symm⟩))
  · exact .inr (.inr (.inr ⟨e, by rw [e, a3] at h; exact (Option.some.inj h).symm⟩))

theorem Ens.news {w : World} {p : Option Addr} {l : List En} (h : Ens w p l) : ∀ ad, p = some ad → ∀ j u, (flatE l)[j]? = some u → w.cell? (ad.add j) = some u := by
  intro ad had j u hu
  obtain ⟨i, g, hg, hh⟩ := flatE_inv l j u hu
  obtain ⟨b, o, hp, hc⟩ := h (by have := (List.getElem?_eq_some_iff.1 hg).1; omega)
  rw [hp] at had
  obtain rfl := Option.some.inj had
  rw [Addr.add_lit]
  obtain ⟨c0, c1, c2, c3⟩ := hc i g hg
  rcases hh with ⟨rfl, rfl⟩ | ⟨rfl, rfl⟩ | ⟨rfl, rfl⟩ | ⟨rfl, rfl⟩
  · exact c0
  · rw [show o + i * 4 + 1 = o + (i * 4 + 1) by omega] at c1; exact c1
  · rw [show o + i * 4 + 2 = o + (i * 4 + 2) by omega] at c2; exact c2
  · rw [show o + i * 4 + 3 = o + (i * 4 + 3) by omega] at c3; exact c3

/-- A row of entries of the call's own. -/
def OwnE (w : World) (base : Nat) (v : Value) (l : List En) : Prop := w.ownsRow base 33 4 v l.length (flatE l)

theorem OwnE.ens {w : World} {base : Nat} {v : Value} {l : List En} (h : OwnE w base v l) : ∃ p c, v = .slice p l.length c ∧ Ens w p l ∧ (p = none → l = []) := by
  rcases h.2 with ⟨hv, hn⟩ | ⟨g, cap, cur, hv, hb, hg, hle, hcm, hcur, htake⟩
  · refine ⟨none, 0, by rw [hv, hn], fun hl => by omega, fun _ => List.eq_nil_of_length_eq_zero hn⟩
  · refine ⟨some ⟨g, 0, none⟩, cap, hv, fun _ => ⟨g, 0, rfl, fun i x hi => ?_⟩, fun e => by cases e⟩
    obtain ⟨a0, a1, a2, a3⟩ := flatE_at l i x hi
    have h0 := World.ownsRow.cells h (g := g) (by rw [hv]; rfl) (i * 4) _ a0
    have h1 := World.ownsRow.cells h (g := g) (by rw [hv]; rfl) (i * 4 + 1) _ a1
    have h2 := World.ownsRow.cells h (g := g) (by rw [hv]; rfl) (i * 4 + 2) _ a2
    have h3 := World.ownsRow.cells h (g := g) (by rw [hv]; rfl) (i * 4 + 3) _ a3
    rw [Addr.add_lit] at h0 h1 h2 h3
    rw [Nat.zero_add]
    exact ⟨by simpa using h0, by simpa using h1, by simpa using h2, by simpa using h3⟩

theorem OwnE.below {w w' : World} {base : Nat} {v : Value} {l : List En} (h : OwnE w base v l) {B : Nat} (hb : Below B w w') (hB : w.heap.size ≤ B) : OwnE w' base v l := by
  refine ⟨h.1, ?_⟩
  rcases h.2 with hn | ⟨g, cap, cur, hv, hbb, hg, rest⟩
  · exact .inl hn
  · refine .inr ⟨g, cap, cur, hv, hbb, ?_, rest⟩
    rw [hb.block g (Nat.lt_of_lt_of_le (Array.getElem?_eq_some_iff.1 hg).1 hB)]
    exact hg

theorem OwnE.nil (w : World) (base : Nat) : OwnE w base (.slice none 0 0) [] := ⟨rfl, .inl ⟨rfl, rfl⟩⟩

theorem OwnE.mono {w : World} {base base' : Nat} {v : Value} {l : List En} (h : OwnE w base v l) (hb : base' ≤ base) : OwnE w base' v l := by
  refine ⟨h.1, ?_⟩
  rcases h.2 with hn | ⟨g, cap, cur, hv, hbb, rest⟩
  · exact .inl hn
  · exact .inr ⟨g, cap, cur, hv, Nat.le_trans hb hbb, rest⟩

theorem ens_one (w : World) (e : En) : Ens (w.alloc (.cells #[.string e.key, .int .i64 e.s, .int .i64 e.g, .int .i64 e.c] 33)) (some ⟨w.heap.size, 0, none⟩) [e] := by
  intro _
  have hk := Bk.new w 33 #[.string e.key, .int .i64 e.s, .int .i64 e.g, .int .i64 e.c]
  refine ⟨w.heap.size, 0, rfl, fun i g hi => ?_⟩
  match i, hi with
  | 0, hi =>
    simp at hi
    subst hi
    exact ⟨hk.cell 0, hk.cell 1, hk.cell 2, hk.cell 3⟩
  | n + 1, hi => simp at hi

/-- A page's value. -/
abbrev pgv (leaf : Bool) (lo hi : ByteArray) (r : Int) (p : Option Addr) (len cap : Nat) : Value := .agg #[.bool leaf, .string lo, .string hi, .int .i64 r, .slice p len cap]

end Go.Proofs.YtoehlgigidgfpaaGreat
