/- Rows of ranges of the call's own; slices.Clone of ranges. -/
import Derived.Test.YtgppnbcneknpdaaKyC
import Derived.WalkLawsBesides
import Derived.Lib.SliceRun
namespace Go.Proofs.Ytgppnbcneknpdaa
open Go.RowKit
set_option linter.unusedVariables false
set_option maxRecDepth 100000

theorem rginfo : (Try.prog.info? 24).map (fun i => (i.zero, i.size, i.bytes)) = some (some (.agg #[.string ⟨#[]⟩, .string ⟨#[]⟩]), 2, 32) := by kernel_rfl

theorem rg_info : ∃ i, Try.prog.info? 24 = some i ∧ i.zero = some (.agg #[.string ⟨#[]⟩, .string ⟨#[]⟩]) ∧ i.size = 2 ∧ i.bytes = 32 := by
  have := rginfo
  cases h : Try.prog.info? 24 with
  | none => rw [h] at this; simp at this
  | some i =>
    rw [h] at this
    simp at this
    exact ⟨i, rfl, this.1, this.2.1, this.2.2⟩

/-- The cells of some ranges, one behind the other. -/
def flatR (l : List Rg) : List Value := (l.map Rg.cells).flatten

theorem flatR_len : ∀ l : List Rg, (flatR l).length = l.length * 2
  | [] => rfl
  | x :: r => by
    have := flatR_len r
    unfold flatR at this ⊢
    simp only [List.map_cons, List.flatten_cons, List.length_append, List.length_cons, this]
    simp [Rg.cells]
    omega

theorem flatR_at : ∀ (l : List Rg) (i : Nat) (g : Rg), l[i]? = some g → (flatR l)[i * 2]? = some (.string g.lo) ∧ (flatR l)[i * 2 + 1]? = some (.string g.hi)
  | [], i, g, h => by simp at h
  | x :: r, 0, g, h => by
    simp at h
    subst h
    simp [flatR, Rg.cells]
  | x :: r, i + 1, g, h => by
    simp only [List.getElem?_cons_succ] at h
    have := flatR_at r i g h
    unfold flatR at this ⊢
    simp only [List.map_cons, List.flatten_cons]
    rw [List.getElem?_append_right (by simp [Rg.cells]; omega), List.getElem?_append_right (by simp [Rg.cells]; omega)]
    simp only [Rg.cells, List.length_cons, List.length_nil]
    rw [show (i + 1) * 2 - (0 + 1 + 1) = i * 2 by omega, show (i + 1) * 2 + 1 - (0 + 1 + 1) = i * 2 + 1 by omega]
    exact this

theorem flatR_one (l : List Rg) : ∀ u ∈ flatR l, u.oneCell' = true := by
  intro u hu
  obtain ⟨y, hy1, hy2⟩ := List.mem_flatten.1 hu
  obtain ⟨z, _, rfl⟩ := List.mem_map.1 hy1
  simp [Rg.cells] at hy2
  rcases hy2 with rfl | rfl <;> rfl

theorem flatR_inv (l : List Rg) (j : Nat) (u : Value) (h : (flatR l)[j]? = some u) : ∃ i g, l[i]? = some g ∧ ((j = i * 2 ∧ u = .string g.lo) ∨ (j = i * 2 + 1 ∧ u = .string g.hi)) := by
  have hj : j < l.length * 2 := by
    have := (List.getElem?_eq_some_iff.1 h).1
    rw [flatR_len] at this
    exact this
  have hi : j / 2 < l.length := by omega
  have hg := List.getElem?_eq_getElem hi
  have ha := flatR_at l (j / 2) _ hg
  refine ⟨j / 2, _, hg, ?_⟩
  by_cases e : j = j / 2 * 2
  · left
    refine ⟨e, ?_⟩
    rw [e, ha.1] at h
    exact (Option.some.inj h).symm
  · right
    have e' : j = j / 2 * 2 + 1 := by omega
    refine ⟨e', ?_⟩
    rw [e', ha.2] at h
    exact (Option.some.inj h).symm

theorem Rgs.news {w : World} {p : Option Addr} {l : List Rg} (h : Rgs w p l) : ∀ ad, p = some ad → ∀ j u, (flatR l)[j]? = some u → w.cell? (ad.add j) = some u := by
  intro ad had j u hu
  obtain ⟨i, g, hg, hh⟩ := flatR_inv l j u hu
  obtain ⟨b, o, hp, hc⟩ := h (by have := (List.getElem?_eq_some_iff.1 hg).1; omega)
  rw [hp] at had
  obtain rfl := Option.some.inj had
  rw [Addr.add_lit]
  have := hc i g hg
  rcases hh with ⟨rfl, rfl⟩ | ⟨rfl, rfl⟩
  · exact this.1
  · have h2 := this.2
    rw [show o + i * 2 + 1 = o + (i * 2 + 1) by omega] at h2
    exact h2

/-- A row of ranges of the call's own. -/
def OwnR (w : World) (base : Nat) (v : Value) (l : List Rg) : Prop := w.ownsRow base 24 2 v l.length (flatR l)

theorem OwnR.rgs {w : World} {base : Nat} {v : Value} {l : List Rg} (h : OwnR w base v l) : ∃ p c, v = .slice p l.length c ∧ Rgs w p l ∧ (p = none → l = []) := by
  rcases h.2 with ⟨hv, hn⟩ | ⟨g, cap, cur, hv, hb, hg, hle, hcm, hcur, htake⟩
  · refine ⟨none, 0, by rw [hv, hn], fun hl => by omega, fun _ => List.eq_nil_of_length_eq_zero hn⟩
  · refine ⟨some ⟨g, 0, none⟩, cap, hv, fun _ => ⟨g, 0, rfl, fun i x hi => ?_⟩, fun e => by cases e⟩
    have ha := flatR_at l i x hi
    have h0 := World.ownsRow.cells h (g := g) (by rw [hv]; rfl) (i * 2) _ ha.1
    have h1 := World.ownsRow.cells h (g := g) (by rw [hv]; rfl) (i * 2 + 1) _ ha.2
    rw [Addr.add_lit] at h0 h1
    rw [Nat.zero_add]
    exact ⟨by simpa using h0, by simpa using h1⟩

theorem OwnR.below {w w' : World} {base : Nat} {v : Value} {l : List Rg} (h : OwnR w base v l) {B : Nat} (hb : Below B w w') (hB : w.heap.size ≤ B) : OwnR w' base v l := by
  refine ⟨h.1, ?_⟩
  rcases h.2 with hn | ⟨g, cap, cur, hv, hbb, hg, rest⟩
  · exact .inl hn
  · refine .inr ⟨g, cap, cur, hv, hbb, ?_, rest⟩
    rw [hb.block g (Nat.lt_of_lt_of_le (Array.getElem?_eq_some_iff.1 hg).1 hB)]
    exact hg

set_option maxHeartbeats 1000000 in
/-- slices.Clone. -/
theorem clone_any (p : Option Addr) (len cap : Nat) (l : List Rg) (w : World) (hlen : l.length = len) (hx : Rgs w p l) (hl : len ≤ 4398046511104) (hp : p = none → len = 0) :
    Calls Try.prog 44 #[.slice p len cap] w fun e w' => ∃ v, e = .returned v ∧ OwnR w' w.heap.size v l ∧ Below w.heap.size w w' := by
  have qnil : ∀ (w : World) (a : Option Addr) (n c n' c' : Nat), (binOp .eql 22 (.slice a n c) (.slice none n' c')).run Try.prog w = .ok (.bool a.isNone) w := fun w a n c n' c' => Lib.run_eql_slice_nil w _ _ a n c n' c' Try.underlying22
  obtain ⟨i0, hi, hz0, hz1, hz2⟩ := rg_info
  have HX : Hid (Rgs w p l) := hx
  have HL : Hid (l.length = len) := hlen
  clear hx hlen
  cases p with
  | none =>
    have hl0 := hp rfl
    go_enter Try.func44, Try.ntmps44
    go_wp2
    go_ret
    have e : l = [] := List.eq_nil_of_length_eq_zero (by have := HL.out; omega)
    subst e
    exact ⟨_, rfl, ⟨rfl, .inl ⟨rfl, rfl⟩⟩, Below.refl _ _⟩
  | some ad =>
    clear hp
    go_enter Try.func44, Try.ntmps44
    go_wp2_with (at_builtin; refine wpList_append_own _ rfl _ _ 22 rfl w.heap.size 24 i0 _ 2 32 Try.underlying22 hi hz0 hz1 hz2 rfl (by decide) _ _ _ rfl (World.ownsRow_made w #[] 0 (Nat.le_refl _) (Nat.zero_le _) (by simp)) ad len cap (flatR l) rfl ?qc1 ?qc2 ?qc3 ?qc4 ?qc5 ?qc6 ?_)
    case qc1 => rw [flatR_len, HL.out]
    case qc2 =>
      intro j u hj
      have hb0 : Below w.heap.size w (w.alloc (.cells #[] 24)) := (Below.refl _ _).alloc (Nat.le_refl _) _
      exact (HX.out.below hb0 (Nat.le_refl _)).news ad rfl j u hj
    case qc3 => exact flatR_one l
    case qc4 => unfold maxLen; omega
    case qc5 => omega
    case qc6 => simp
    intro v' w1 hown hgrow hnil
    go_wp2
    go_ret
    refine ⟨v', rfl, ?_, ?_⟩
    · unfold OwnR
      rw [HL.out]
      simpa using hown
    · exact ((Below.refl _ w).alloc (Nat.le_refl _) _).grown hgrow (by simp) (by intro k hk; simp [Value.ownBlock] at hk; omega)

end Go.Proofs.Ytgppnbcneknpdaa
