/- A map's pairs, rising by keys; Map of none. -/
import Derived.Test.YtilabcolfabnmaaPrS
import Derived.Test.YtilabcolfabnmaaPrN
import Derived.Test.YtilabcolfabnmaaPrG
namespace Go.Proofs.Ytilabcolfabnmaa
open Go.RowKit Go.Sort Go.Shelf Go.Lib
set_option linter.unusedVariables false
set_option maxRecDepth 100000

/-- A row of pairs that is answered: a block of its own, or nothing. -/
structure Ans (w w' : World) (v : Value) (m : List Pr) : Prop where
  ex : ∃ p c, v = .slice p m.length c ∧ (0 < m.length → ∃ g, p = some ⟨g, 0, none⟩ ∧ w.heap.size ≤ g ∧ RowP w' g m) ∧ (p = none → m.length = 0 ∧ c = 0)
  below : Below w.heap.size w w'

theorem Ans.prs {w w' : World} {v : Value} {m : List Pr} (h : Ans w w' v m) : ∃ p c, v = .slice p m.length c ∧ Prs w' p m ∧ (p = none → m.length = 0 ∧ c = 0) := by
  obtain ⟨p, c, rfl, h1, h2⟩ := h.ex
  refine ⟨p, c, rfl, fun hl => ?_, h2⟩
  obtain ⟨g, rfl, _, hr⟩ := h1 hl
  exact hr.prs hl

set_option maxHeartbeats 2000000 in
theorem sortedFunc_any (Bm M N : Nat) (F : Fm) (w : World) (hm : Bk w Bm 67 #[.map (some M)]) (hM : Sm w M N F) (hF : F.Ok) (hN : N ≤ 4398046510976) :
    Calls Try.prog 40 #[.func (.func 58) #[] #[.pointer (some ⟨Bm, 0, none⟩)], .func (.func 42) #[] #[]] w fun e w' => ∃ v m, e = .returned v ∧ F.Is m ∧ m.length ≤ N ∧ Ans w w' v m := by
  have hcall := collect_any Bm M N F w hm hM hN
  have HF : Hid F.Ok := hF
  clear hm hM hF
  go_enter Try.func40, Try.ntmps40
  go_wp2_with fail
  refine hcall.mono ?_
  rintro e w1 ⟨v, xs, rfl, hA, hln, ho, hb⟩
  obtain ⟨p, c, rfl, he, hp, hc⟩ := ho.els prknd
  have HA : Hid (F.All xs) := hA
  have HB : Hid (Below w.heap.size w w1) := hb
  have HLN : Hid (xs.length ≤ N) := hln
  cases hx : xs with
  | nil =>
    subst hx
    have HI : Hid (F.Is []) := hA.is HF.out (List.Perm.refl _) List.Pairwise.nil
    have HP : Hid (p = none → (0 : Nat) = 0 ∧ c = 0) := hp
    clear hcall hA hb ho he hp hc hln
    simp only [List.length_nil]
    go_wp2_with fail
    refine (psort_nil p c _ _).mono ?_
    rintro e w2 ⟨rfl, rfl⟩
    go_wp2
    go_ret
    exact ⟨_, [], rfl, HI.out, Nat.zero_le _, ⟨p, c, rfl, fun h => absurd h (Nat.lt_irrefl 0), fun h => ⟨rfl, (HP.out h).2⟩⟩, HB.out⟩
  | cons y r =>
    have hpos : 0 < xs.length := by rw [hx]; simp
    obtain ⟨g, k, hv⟩ := row_some ho hpos
    cases hv
    have hg := ho.blk (b := g) rfl
    have hs := psort_any g c xs w1 (OwnP.rowP ho rfl) hg.2 (by omega)
    have HG : Hid (w.heap.size ≤ g) := hg.1
    rw [← hx]
    obtain ⟨n, hn⟩ : ∃ n, xs.length = n := ⟨_, rfl⟩
    have HN : Hid (xs.length = n) := hn
    rw [hn] at hs ⊢
    clear hcall hA hb ho he hp hc hln hx hpos hg hn
    go_wp2_with fail
    refine hs.mono ?_
    rintro e w2 ⟨rfl, l', h1, h2, h3, h4⟩
    have HI : Hid (F.Is l') := HA.out.is HF.out h1 h2
    have HL : Hid (l'.length = n) := h1.length_eq.trans HN.out
    have HR : Hid (RowP w2 g l') := h3
    have HB2 : Hid (Below w.heap.size w w2) := HB.out.trans (h4.below HB.out.size (by simpa using HG.out))
    clear h1 h2 h3 h4 hs
    go_wp2
    go_ret
    refine ⟨_, l', rfl, HI.out, by rw [HL.out, ← HN.out]; exact HLN.out, ⟨some ⟨g, 0, none⟩, c, by rw [HL.out]; rfl, fun _ => ⟨g, rfl, HG.out, HR.out⟩, fun h => by cases h⟩, HB2.out⟩

set_option maxHeartbeats 2000000 in
theorem pairs_any (M N : Nat) (F : Fm) (w : World) (hM : Sm w M N F) (hF : F.Ok) (hN : N ≤ 4398046510976) :
    Calls Try.prog 27 #[.map (some M)] w fun e w' => ∃ v m, e = .returned v ∧ F.Is m ∧ m.length ≤ N ∧ Ans w w' v m := by
  obtain ⟨w1, hw1⟩ : ∃ w1, w.alloc (.cells #[.map (some M)] 67) = w1 := ⟨_, rfl⟩
  have hb1 : Below w.heap.size w w1 := by rw [← hw1]; exact (Below.refl _ _).alloc (Nat.le_refl _) _
  have hk1 : Bk w1 w.heap.size 67 #[.map (some M)] := by rw [← hw1]; exact Bk.new _ _ _
  have hv : Calls Try.prog 41 #[.map (some M)] w fun e w' => e = .returned (.func (.func 58) #[] #[.pointer (some ⟨w.heap.size, 0, none⟩)]) ∧ w' = w1 := by
    go_enter Try.func41, Try.ntmps41
    go_wp2
    go_ret
    exact ⟨rfl, rfl⟩
  have hs := sortedFunc_any w.heap.size M N F w1 hk1 (hM.below hb1) hF hN
  have HB1 : Hid (Below w.heap.size w w1) := hb1
  have HS : Hid (Calls Try.prog 40 #[.func (.func 58) #[] #[.pointer (some ⟨w.heap.size, 0, none⟩)], .func (.func 42) #[] #[]] w1 fun e w' => ∃ v m, e = .returned v ∧ F.Is m ∧ m.length ≤ N ∧ Ans w1 w' v m) := hs
  clear hM hF hk1 hb1 hw1 hs
  go_enter Try.func27, Try.ntmps27
  go_wp2_with fail
  refine hv.mono ?_
  rintro e w2 ⟨rfl, rfl⟩
  go_wp2_with fail
  refine HS.out.mono ?_
  rintro e w3 ⟨v, m, rfl, h1, h2, h3⟩
  have H1 : Hid (F.Is m) := h1
  have H2 : Hid (m.length ≤ N) := h2
  have H3 : Hid (Ans w w3 v m) := by
    obtain ⟨p, c, rfl, h4, h5⟩ := h3.ex
    refine ⟨⟨p, c, rfl, fun hl => ?_, h5⟩, HB1.out.trans (h3.below.mono HB1.out.size)⟩
    obtain ⟨g, e1, e2, e3⟩ := h4 hl
    exact ⟨g, e1, Nat.le_trans HB1.out.size e2, e3⟩
  clear h1 h2 h3 hv HS
  go_wp2
  go_ret
  exact ⟨_, _, rfl, H1.out, H2.out, H3.out⟩

set_option maxHeartbeats 2000000 in
/-- Map of pairs: a function value over a box with the map's list. -/
theorem map_any (p : Option Addr) (n c : Nat) (l : List Pr) (w : World) (hn : l.length = n) (hx : Prs w p l) (ho : ∀ (i : Nat) x, l[i]? = some x → x.key.size ≤ maxLen) (hl : n ≤ 4398046510976) :
    Calls Try.prog 8 #[.slice p n c] w fun e w' => ∃ B v m w1, e = .returned (.func (.func 28) #[] #[.pointer (some ⟨B, 0, none⟩)]) ∧ (Fm.puts (fun _ => none) l).Is m ∧ m.length ≤ n ∧ Ans w w1 v m ∧ B = w1.heap.size ∧ w' = w1.alloc (.cells #[v] 22) := by
  have hg := gather_any p n c l w hn hx ho hl
  clear hx hn ho
  go_enter Try.func8, Try.ntmps8
  go_wp2_with fail
  refine hg.mono ?_
  rintro e w1 ⟨M, rfl, hM, hS, hb⟩
  have hp := pairs_any M n _ w1 hS (Fm.ok_none.puts l) hl
  have HB : Hid (Below w.heap.size w w1) := hb
  clear hg hS hb hM
  go_wp2_with fail
  refine hp.mono ?_
  rintro e w2 ⟨v, m, rfl, h1, h2, h3⟩
  have H1 : Hid ((Fm.puts (fun _ => none) l).Is m) := h1
  have H2 : Hid (m.length ≤ n) := h2
  have H3 : Hid (Ans w w2 v m) := by
    obtain ⟨p, c, rfl, h4, h5⟩ := h3.ex
    refine ⟨⟨p, c, rfl, fun hl => ?_, h5⟩, HB.out.trans (h3.below.mono HB.out.size)⟩
    obtain ⟨g, e1, e2, e3⟩ := h4 hl
    exact ⟨g, e1, Nat.le_trans HB.out.size e2, e3⟩
  obtain ⟨q, d, rfl, -, -⟩ := h3.ex
  clear h1 h2 h3 hp
  go_wp2
  go_ret
  exact ⟨_, _, m, w2, rfl, H1.out, H2.out, H3.out, rfl, rfl⟩
end Go.Proofs.Ytilabcolfabnmaa
