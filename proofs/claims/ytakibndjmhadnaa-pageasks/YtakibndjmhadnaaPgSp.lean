/- A page's halves (the code's). -/
import Derived.Test.YtakibndjmhadnaaPgB
namespace Go.Proofs.Ytakibndjmhadnaa
open Go.RowKit Go.Sort
set_option linter.unusedVariables false
set_option maxRecDepth 100000

set_option maxHeartbeats 1000000 in
theorem halves_any (p : Option Addr) (len cap : Nat) (l : List En) (w : World) (hlen : l.length = len) (hx : Ens w p l) (hl : len ≤ 3518437208782) (h2 : 2 ≤ len) :
    Calls Try.prog 51 #[.slice p len cap] w fun e w' => ∃ g c, e = .returned (.tuple #[.slice (some ⟨g, 0, none⟩) (len / 2) (len / 2), .slice (some ⟨g, len / 2 * 4, none⟩) (len - len / 2) (c - len / 2)]) ∧ Seg w' w.heap.size (some ⟨g, 0, none⟩) (len / 2) (len / 2) (l.take (len / 2)) ∧ Seg w' w.heap.size (some ⟨g, len / 2 * 4, none⟩) (len - len / 2) (c - len / 2) (l.drop (len / 2)) ∧ Below w.heap.size w w' := by
  have HX : Hid (Ens w p l) := hx
  have HL : Hid (l.length = len) := hlen
  clear hx hlen
  obtain ⟨h, hh⟩ : ∃ h, h = len / 2 := ⟨_, rfl⟩
  have hh1 : 1 ≤ h := by omega
  have hh2 : h + 1 ≤ len := by omega
  rw [← hh]
  go_enter Try.func51, Try.ntmps51
  go_wp2_with fail
  refine (eclone_any p len cap l _ HL.out HX.out hl (fun hp => by subst hp; obtain ⟨_, _, _, he, _⟩ := HX.out.at (j := 0) (by have := HL.out; omega); cases he)).mono ?_
  rintro e w1 ⟨v, rfl, ho, hb⟩
  obtain ⟨q, c, rfl, -, hq⟩ := ho.ens
  rw [HL.out] at ho ⊢
  have hs := ho.seg
  have hle := hs.le
  rcases hs.form with ⟨-, h0, -⟩ | ⟨g, o, cur, rfl, hbg, hgk, hsz, -⟩
  · omega
  have ho0 : o = 0 := by
    rcases ho.2 with ⟨hv, _⟩ | ⟨g', c', cur', hv, _⟩
    · cases hv
    · cases hv; rfl
  subst ho0
  have HS : Hid (Seg w1 w.heap.size (some ⟨g, 0, none⟩) len c l) := hs
  have HB : Hid (Below w.heap.size w w1) := hb
  have hhj : (len : Int) / 2 = (h : Int) := by rw [hh]; omega
  have HH : Hid (h = len / 2) := hh
  clear ho hb hs hq hbg hgk hsz hh
  go_wp2_with fail
  have i1 : (0 : Int) ≤ (h : Int) := by omega
  have i2 : (h : Int) ≤ (c : Int) := by omega
  have i3 : (h : Int) ≤ (len : Int) := by omega
  have i4 : ¬ c = h := by omega
  have i5 : ¬ h = c := by omega
  go_quiet (fail)
  go_wp2
  go_ret2
  have hz := HS.out.take h h (by omega) (Nat.le_refl _) (by omega)
  have hy := HS.out.drop h (by omega)
  rw [Nat.zero_add] at hy
  refine ⟨g, c, rfl, hz.below (below_dn (Below.refl _ _) _) (Nat.le_refl _), hy.below (below_dn (Below.refl _ _) _) (Nat.le_refl _), below_dn HB.out _⟩

set_option maxHeartbeats 1000000 in
theorem parting_any (leaf : Bool) (a b : ByteArray) (w : World) (ha : a.size ≤ 140737488351232) (hb : b.size ≤ 140737488351232) :
    Calls Try.prog 52 #[.bool leaf, .string a, .string b] w fun e w' => e = .returned (if leaf then (if Ky.lt a b then .tuple #[.string (Ky.sep a b), .bool true] else .tuple #[.string ⟨#[]⟩, .bool false]) else .tuple #[.string b, .bool true]) ∧ Below w.heap.size w w' := by
  cases leaf with
  | false =>
    go_enter Try.func52, Try.ntmps52
    go_wp2
    go_ret2
    exact ⟨rfl, Below.refl _ _⟩
  | true =>
    have hs := sep_any a b w ha hb
    cases hq : Ky.lt a b with
    | true =>
      rw [hq] at hs
      go_enter Try.func52, Try.ntmps52
      go_wp2_with fail
      refine hs.mono ?_
      rintro e w1 ⟨rfl, hb1⟩
      have HB : Hid (Below w.heap.size w w1) := hb1
      clear hb1 hs
      simp only [if_true]
      go_wp2
      go_ret2
      exact ⟨rfl, HB.out⟩
    | false =>
      rw [hq] at hs
      go_enter Try.func52, Try.ntmps52
      go_wp2_with fail
      refine hs.mono ?_
      rintro e w1 ⟨rfl, hb1⟩
      have HB : Hid (Below w.heap.size w w1) := hb1
      clear hb1 hs
      rw [if_neg (by decide)]
      go_wp2
      go_ret2
      exact ⟨rfl, HB.out⟩

end Go.Proofs.Ytakibndjmhadnaa
