/- Overlay, Slice; which pairs are the same. -/
import Derived.Test.YtilabcolfabnmaaPrP
import Derived.Test.YtilabcolfabnmaaGnT
import Derived.Test.YtilabcolfabnmaaKyA
import Derived.Laws.StructEq
namespace Go.Proofs.Ytilabcolfabnmaa
open Go.RowKit Go.Sort
set_option linter.unusedVariables false
set_option maxRecDepth 100000

set_option maxHeartbeats 2000000 in
theorem overlay_any (p q : Option Addr) (n m c d : Nat) (l : List Pr) (ws : List Wt) (w : World) (hn : l.length = n) (hm : ws.length = m) (hp : Prs w p l) (hq : Wts w q ws) (hol : ∀ (i : Nat) x, l[i]? = some x → x.key.size ≤ maxLen) (how : ∀ (i : Nat) x, ws[i]? = some x → x.key.size ≤ maxLen) (hqn : q = none → m = 0 ∧ d = 0) (hl : n + m ≤ 4398046510976) :
    Calls Try.prog 12 #[.slice p n c, .slice q m d] w fun e w' => ∃ v k, e = .returned v ∧ ((Fm.puts (fun _ => none) l).writes ws).Is k ∧ k.length ≤ n + m ∧ Ans w w' v k := by
  have hg := gather_any p n c l w hn hp hol (by omega)
  have HQ : Hid (Wts w q ws ∧ ws.length = m) := ⟨hq, hm⟩
  have HOW : Hid (∀ (i : Nat) x, ws[i]? = some x → x.key.size ≤ maxLen) := how
  clear hp hn hol hq hm how
  go_enter Try.func12, Try.ntmps12
  go_wp2_with fail
  refine hg.mono ?_
  rintro e w1 ⟨M, rfl, hM, hS, hb⟩
  have HB : Hid (Below w.heap.size w w1 ∧ w.heap.size ≤ M) := ⟨hb, hM⟩
  have hx1 : Wts w1 q ws := Els.below HQ.out.1 hb (Nat.le_refl _)
  have hne : 0 < m → ∀ b o, q = some ⟨b, o, none⟩ → b ≠ M := fun h0 b o e => by
    have h1 : Wts w (some ⟨b, o, none⟩) ws := by rw [← e]; exact HQ.out.1
    have := Els.lt wtknd h1 (by rw [HQ.out.2]; exact h0)
    omega
  have hwr := write_any M n _ q m d ws w1 hS HQ.out.2 hx1 hne HOW.out (by omega)
  clear hg hb hM hne
  clear hS hx1
  go_wp2_with fail
  refine hwr.mono ?_
  rintro e w2 ⟨rfl, h2, t2⟩
  have hpr := pairs_any M (n + m) _ w2 h2 ((Fm.ok_none.puts l).writes ws) hl
  have HB2 : Hid (Below w.heap.size w w2) := HB.out.1.trans (t2.below HB.out.1.size (by simpa using HB.out.2))
  clear hwr h2 t2
  go_wp2_with fail
  refine hpr.mono ?_
  rintro e w3 ⟨v, k, rfl, h1, h2, h3⟩
  have H1 : Hid (((Fm.puts (fun _ => none) l).writes ws).Is k) := h1
  have H2 : Hid (k.length ≤ n + m) := h2
  have H3 : Hid (Ans w w3 v k) := by
    obtain ⟨p, c, rfl, h4, h5⟩ := h3.ex
    refine ⟨⟨p, c, rfl, fun hl => ?_, h5⟩, HB2.out.trans (h3.below.mono HB2.out.size)⟩
    obtain ⟨g, e1, e2, e3⟩ := h4 hl
    exact ⟨g, e1, Nat.le_trans HB2.out.size e2, e3⟩
  clear h1 h2 h3 hpr
  go_wp2
  go_ret
  exact ⟨_, _, rfl, H1.out, H2.out, H3.out⟩

/-- The pairs in a range. -/
def Pl.slice (r : Rg) (l : List Pr) : List Pr := l.filter fun x => Ky.inn r x.key
theorem Pl.slice_take {r : Rg} {l : List Pr} {k : Nat} {x : Pr} (h : l[k]? = some x) : Pl.slice r (l.take (k + 1)) = if Ky.inn r x.key then Pl.slice r (l.take k) ++ [x] else Pl.slice r (l.take k) := by
  unfold Pl.slice
  rw [List.take_add_one, h, List.filter_append]
  cases he : Ky.inn r x.key <;> simp [he]

set_option maxHeartbeats 2000000 in
theorem slice_any (p : Option Addr) (n c : Nat) (l : List Pr) (r : Rg) (w : World) (hn : l.length = n) (hp : Prs w p l) (hl : n ≤ 4398046510976) :
    Calls Try.prog 16 #[.slice p n c, r.val] w fun e w' => ∃ v, e = .returned v ∧ OwnP w' w.heap.size v (Pl.slice r l) ∧ Below w.heap.size w w' := by
  obtain ⟨lo, hi⟩ := r
  have HX : Hid (Prs w p l) := hp
  have HN : Hid (l.length = n) := hn
  have HTK : Hid (l.take n = l) := List.take_of_length_le (by omega)
  obtain ⟨w1, hw1⟩ : ∃ w1, w.alloc (.cells #[.string lo, .string hi] 26) = w1 := ⟨_, rfl⟩
  have HK1 : Hid (Bk w1 w.heap.size 26 #[.string lo, .string hi]) := by rw [← hw1]; exact Bk.new _ _ _
  have HB1 : Hid (Below w.heap.size w w1) := by rw [← hw1]; exact (Below.refl _ _).alloc (Nat.le_refl _) _
  have HS1 : Hid (w1.heap.size = w.heap.size + 1) := by rw [← hw1]; show _ = _; simp
  clear hn hp
  go_enter Try.func16, Try.ntmps16
  go_wp2_with fail
  go_loopw [5, 10] (fun v i wr => ∃ k : Nat, k ≤ n ∧ i = .int .i64 k ∧ Hid (OwnP wr (w.heap.size + 1) v (Pl.slice ⟨lo, hi⟩ (l.take k))) ∧ Hid (Below (w.heap.size + 1) w1 wr)) (fun _ i _ => n - (intOf i).toNat)
  case atStart => exact ⟨0, Nat.zero_le _, rfl, Own.nil _ _ _, Below.refl _ _⟩
  case round =>
    obtain ⟨k, hk, rfl, HO, HW⟩ := hrel
    have hbw : Below w.heap.size w wr := HB1.out.trans (HW.out.mono (by omega))
    by_cases hlt : k < n
    · have hli : (k : Int) < (n : Int) := by omega
      obtain ⟨b, o, x, rfl, hg, c0, c1⟩ := Prs.cells (Els.below HX.out hbw (Nat.le_refl _)) (j := k) (by have := HN.out; omega)
      have HST : Hid (Pl.slice ⟨lo, hi⟩ (l.take (k + 1)) = if Ky.inn ⟨lo, hi⟩ x.key then Pl.slice ⟨lo, hi⟩ (l.take k) ++ [x] else Pl.slice ⟨lo, hi⟩ (l.take k)) := Pl.slice_take hg
      have HLN : Hid ((Pl.slice ⟨lo, hi⟩ (l.take k)).length < n) := by
        have h1 := List.length_filter_le (fun x : Pr => Ky.inn ⟨lo, hi⟩ x.key) (l.take k)
        have h2 := List.length_take_le k l
        show (Pl.slice ⟨lo, hi⟩ (l.take k)).length < n
        unfold Pl.slice
        omega
      obtain ⟨x1, x2⟩ := x
      have hkr := HK1.out.below HW.out (by omega)
      obtain ⟨w2, hw2⟩ : ∃ w2, wr.alloc (.cells #[.string x1, .string x2] 54) = w2 := ⟨_, rfl⟩
      have hb2 : Below wr.heap.size wr w2 := by rw [← hw2]; exact (Below.refl _ _).alloc (Nat.le_refl _) _
      have k2 : Bk w2 wr.heap.size 54 #[.string x1, .string x2] := by rw [← hw2]; exact Bk.new _ _ _
      have kr2 := hkr.below hb2 hkr.lt
      have d0 : w2.cell? ⟨wr.heap.size, 0, none⟩ = some (.string x1) := k2.cell 0
      have d1 : w2.cell? ⟨wr.heap.size, 1, none⟩ = some (.string x2) := k2.cell 1
      have r0 : w2.cell? ⟨w.heap.size, 0, none⟩ = some (.string lo) := kr2.cell 0
      have r1 : w2.cell? ⟨w.heap.size, 1, none⟩ = some (.string hi) := kr2.cell 1
      have HK2 : Hid (Bk w2 wr.heap.size 54 #[.string x1, .string x2]) := k2
      have HW2 : Hid (Below (w.heap.size + 1) w1 w2) := HW.out.trans (hb2.mono (by have := HW.out.size; have := HS1.out; omega))
      have HO2 : Hid (OwnP w2 (w.heap.size + 1) u5 (Pl.slice ⟨lo, hi⟩ (l.take k))) := Own.below HO.out hb2 (Nat.le_refl _)
      have hin := in_any ⟨lo, hi⟩ x1 w2
      clear hg hkr kr2 k2 hb2 hbw
      cases he : Ky.inn ⟨lo, hi⟩ x1 with
      | true =>
        rw [he] at hin
        go_wp2_with fail
        refine hin.mono ?_
        rintro e w3 ⟨rfl, hb3⟩
        have k3 := HK2.out.below hb3 HK2.out.lt
        have e0 : w3.cell? ⟨wr.heap.size, 0, none⟩ = some (.string x1) := k3.cell 0
        have e1 : w3.cell? ⟨wr.heap.size, 1, none⟩ = some (.string x2) := k3.cell 1
        have HO3 : Hid (OwnP w3 (w.heap.size + 1) u5 (Pl.slice ⟨lo, hi⟩ (l.take k))) := Own.below HO2.out hb3 (Nat.le_refl _)
        have hs2 : w.heap.size + 1 ≤ w2.heap.size := by have := HW2.out.size; have := HS1.out; omega
        have HW3 : Hid (Below (w.heap.size + 1) w1 w3) := HW2.out.trans (hb3.mono hs2)
        have HZ3 : Hid (w.heap.size + 1 ≤ w3.heap.size) := Nat.le_trans hs2 hb3.size
        clear hin hb3 k3 d0 d1 r0 r1 hw2
        go_wp2_with (at_builtin; refine app1L prknd Try.underlying22 prinfo rfl w3 rfl _ _ rfl (w.heap.size + 1) u5 _ rfl ⟨x1, x2⟩ _ rfl rfl _ rfl HO3.out (by have := HLN.out; unfold maxLen; omega) (by have := HLN.out; omega) HZ3.out ?_; intro v4 w4 h1 h2 h3)
        have HO4 : Hid (OwnP w4 (w.heap.size + 1) v4 (Pl.slice ⟨lo, hi⟩ (l.take (k + 1)))) := by unfold Hid; rw [HST.out, he, if_pos rfl]; exact h1
        have HW4 : Hid (Below (w.heap.size + 1) w1 w4) := by
          have h5 : Below (w.heap.size + 1) w3 (w3.alloc (.cells #[.string x1, .string x2] 54)) := (Below.refl _ _).alloc HZ3.out _
          exact (HW3.out.trans h5).grown h2 (by have := HZ3.out; simp; omega) (fun g hg => (Own.blk HO3.out hg).1)
        clear h1 h2 h3
        go_wp2
        go_roundw
        case rel => exact ⟨k + 1, by omega, by go_num, HO4, HW4⟩
        case measure => simp [intOf]; omega
      | false =>
        rw [he] at hin
        go_wp2_with fail
        refine hin.mono ?_
        rintro e w3 ⟨rfl, hb3⟩
        have hs2 : w.heap.size + 1 ≤ w2.heap.size := by have := HW2.out.size; have := HS1.out; omega
        have HO3 : Hid (OwnP w3 (w.heap.size + 1) u5 (Pl.slice ⟨lo, hi⟩ (l.take (k + 1)))) := by
          unfold Hid
          rw [HST.out, he]
          exact Own.below HO2.out hb3 (Nat.le_refl _)
        have HW3 : Hid (Below (w.heap.size + 1) w1 w3) := HW2.out.trans (hb3.mono hs2)
        clear hin hb3 d0 d1 r0 r1 hw2
        go_wp2
        go_roundw
        case rel => exact ⟨k + 1, by omega, by go_num, HO3, HW3⟩
        case measure => simp [intOf]; omega
    · obtain rfl : k = n := by omega
      have HO2 : Hid (OwnP wr w.heap.size u5 (Pl.slice ⟨lo, hi⟩ l)) := by
        have := HO.out
        rw [HTK.out] at this
        exact this.mono (by omega)
      have HBW : Hid (Below w.heap.size w wr) := hbw
      clear hbw
      go_wp2
      go_ret
      exact ⟨_, rfl, HO2.out, HBW.out⟩
end Go.Proofs.Ytilabcolfabnmaa
