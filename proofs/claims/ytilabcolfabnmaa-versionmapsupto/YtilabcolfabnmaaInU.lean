/- What came in, of small bulk: rows of elements of any kind. -/
import Derived.Test.YtilabcolfabnmaaBulk
import Derived.Test.YtilabcolfabnmaaInL
import Derived.Test.YtilabcolfabnmaaGnM
namespace Go.Proofs.Ytilabcolfabnmaa
open Go.ChangeShapes Go.WideShapes Go.ChangeAt Go.RowKit
set_option linter.unusedVariables false
set_option maxRecDepth 100000

/-- A row that came in. -/
structure InR {α : Type} (cells : α → List Value) (k : Nat) (ok : α → Prop) (W : World) (a : Option Addr) (len cap : Nat) (l : List α) : Prop where
  lenq : l.length = len
  els : Els cells k W a l
  nil : a = none → len = 0 ∧ cap = 0
  le : len ≤ cap
  room : cap ≤ 1048576
  ok : ∀ g ∈ l, ok g

theorem in_rowU {α : Type} [Inhabited α] {cells : α → List Value} {k : Nat} {ok : α → Prop} {H : Type} {enc : TypeId × Value → H} {W : World} {fuel : Nat} {cs : List Value} {x : DataW H × List MemPlace} {T E : TypeId}
    (hu : Try.prog.underlying T = some (.slice E)) (ek : Try.prog.cellsOf E = k) (hk : ∀ g : α, 0 < (cells g).length)
    (elem : ∀ (fuel : Nat) (cs : List Value) (x : DataW H × List MemPlace), DataW.trod enc Try.prog W 0 (fun _ => true) true fuel E cs = some x → Rows.uptoBulk x.1 ≤ 1048576 → ∃ g : α, cs = cells g ∧ ok g)
    (hf : DataW.trod enc Try.prog W 0 (fun _ => true) true fuel T cs = some x) (hb : Rows.uptoBulk x.1 ≤ 1048576) : ∃ a len cap l, cs = [.slice a len cap] ∧ InR cells k ok W a len cap l := by
  rcases Go.Deep.open_slice hu hf with ⟨hcs, _⟩ | ⟨ad, l, c, m, n, D, Pl, hcs, _, hl, hm, hmm, hx, hall⟩
  · exact ⟨none, 0, 0, [], hcs, rfl, Els.nil _ _, fun _ => ⟨rfl, rfl⟩, Nat.le_refl _, by omega, by simp⟩
  · simp only [if_true] at hmm
    subst hmm
    rw [ek] at hall
    have hx1 : x.1 = .slice ((List.range l).map D) ((List.range (m - l)).map fun j => D (l + j)) := by
      have := congrArg Prod.fst hx
      simpa using this
    rw [hx1] at hb
    simp only [Rows.uptoBulk] at hb
    have hroom : m ≤ 1048576 := by
      have h1 := bulk_length ((List.range l).map D)
      have h2 := bulk_length ((List.range (m - l)).map fun j => D (l + j))
      simp at h1 h2
      omega
    have hbk : ∀ i, i < l → Rows.uptoBulk (D i) ≤ 1048576 := fun i hi => by
      have h3 : D i ∈ (List.range l).map D := List.mem_map.2 ⟨i, List.mem_range.2 hi, rfl⟩
      have h4 := bulk_part h3
      omega
    obtain ⟨F, hF⟩ := Go.Deep.choose_lt (n := l) (α := α) (p := fun i g => W.cells? 0 (ad.add (i * k)) k = some (cells g) ∧ ok g) (fun i hi => by
      obtain ⟨cs, h1, h2⟩ := hall i (by omega)
      obtain ⟨g, rfl, hg⟩ := elem _ _ _ h2 (hbk i hi)
      exact ⟨g, h1, hg⟩)
    refine ⟨some ad, l, m, (List.range l).map F, hcs, by simp, fun hpos => ?_, (fun h => by cases h), hl, hroom, ?_⟩
    · have hpos' : 0 < l := by simpa using hpos
      have h0 := rcells_at (hF 0 hpos').1 0 _ (List.getElem?_eq_getElem (hk _))
      obtain ⟨b, off, spot⟩ := ad
      have hspot : spot = none := by
        have := World.cell?_spot h0
        simpa [Addr.add] using this
      subst hspot
      refine ⟨b, off, rfl, fun i g hi j v hv => ?_⟩
      have hil : i < l := by
        have := (List.getElem?_eq_some_iff.1 hi).1
        simpa using this
      have hg : g = F i := by simpa [hil] using hi.symm
      subst hg
      have := rcells_at (hF i hil).1 j v hv
      rw [Addr.add_lit, Addr.add_lit] at this
      exact this
    · intro g hg
      obtain ⟨i, hi, rfl⟩ := List.mem_map.1 hg
      exact (hF i (List.mem_range.1 hi)).2
end Go.Proofs.Ytilabcolfabnmaa
