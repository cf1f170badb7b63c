/- The map of pairs, of writes upon it, of commits; its pairs in a range: as the document's (for inputs of small bulk). -/
import Derived.Test.YtilabcolfabnmaaPrP
import Derived.Test.YtilabcolfabnmaaGnT
import Derived.Test.YtilabcolfabnmaaKyA
import Derived.Laws.StructEq
import Derived.Test.YtilabcolfabnmaaVsPu
import Derived.Lib.QuietBelow
import Derived.BigQuiet
import Derived.Test.YtilabcolfabnmaaVsFo
import Derived.Test.YtilabcolfabnmaaItG
import Derived.Test.YtilabcolfabnmaaPrX
import Derived.Test.YtilabcolfabnmaaVsIn
import Derived.Test.YtilabcolfabnmaaVsL
import Derived.Deep.RegionHeld3
namespace Go.Proofs.Ytilabcolfabnmaa
open Go.RowKit Go.Sort
set_option linter.unusedVariables false
set_option maxRecDepth 100000

set_option maxHeartbeats 2000000 in
theorem overlay_any (p q : Option Addr) (n m c d : Nat) (l : List Pr) (ws : List Wt) (w : World) (hn : l.length = n) (hm : ws.length = m) (hp : Prs w p l) (hq : Wts w q ws) (hol : ∀ (i : Nat) x, l[i]? = some x → x.key.size ≤ maxLen) (how : ∀ (i : Nat) x, ws[i]? = some x → x.key.size ≤ maxLen) (hqn : q = none → m = 0 ∧ d = 0) (hl : n + m ≤ 4398046510976) :
    Calls Try.prog 12 #[.slice p n c, .slice q m d] w fun e w' => ∃ v k, e = .returned v ∧ ((Fm.puts (fun _ => none) l).writes ws).Is k ∧ k.length ≤ n + m ∧ Ans w w' v k := by
  have hg := gather_any p n c l w hn hp hol (by omega)
  have HQ : Hid (Wts w q ws ∧ ws.length = m) := ⟨hq, hm⟩
  have HOW : Hid (∀ (i : Nat) x, ws[i]? = some x → x.key.size ≤ maxLen) := how
  clear hp hn hol hq hm how
  go_enter Try.func12, Try.ntmps12
  go_wp2_with fail
  refine hg.mono ?_
  rintro e w1 ⟨M, rfl, hM, hS, hb⟩
  have HB : Hid (Below w.heap.size w w1 ∧ w.heap.size ≤ M) := ⟨hb, hM⟩
  have hx1 : Wts w1 q ws := Els.below HQ.out.1 hb (Nat.le_refl _)
  have hne : 0 < m → ∀ b o, q = some ⟨b, o, none⟩ → b ≠ M := fun h0 b o e => by
    have h1 : Wts w (some ⟨b, o, none⟩) ws := by rw [← e]; exact HQ.out.1
    have := Els.lt wtknd h1 (by rw [HQ.out.2]; exact h0)
    omega
  have hwr := write_any M n _ q m d ws w1 hS HQ.out.2 hx1 hne HOW.out (by omega)
  clear hg hb hM hne
  clear hS hx1
  go_wp2_with fail
  refine hwr.mono ?_
  rintro e w2 ⟨rfl, h2, t2⟩
  have hpr := pairs_any M (n + m) _ w2 h2 ((Fm.ok_none.puts l).writes ws) hl
  have HB2 : Hid (Below w.heap.size w w2) := HB.out.1.trans (t2.below HB.out.1.size (by simpa using HB.out.2))
  clear hwr h2 t2
  go_wp2_with fail
  refine hpr.mono ?_
  rintro e w3 ⟨v, k, rfl, h1, h2, h3⟩
  have H1 : Hid (((Fm.puts (fun _ => none) l).writes ws).Is k) := h1
  have H2 : Hid (k.length ≤ n + m) := h2
  have H3 : Hid (Ans w w3 v k) := by
    obtain ⟨p, c, rfl, h4, h5⟩ := h3.ex
    refine ⟨⟨p, c, rfl, fun hl => ?_, h5⟩, HB2.out.trans (h3.below.mono HB2.out.size)⟩
    obtain ⟨g, e1, e2, e3⟩ := h4 hl
    exact ⟨g, e1, Nat.le_trans HB2.out.size e2, e3⟩
  clear h1 h2 h3 hpr
  go_wp2
  go_ret
  exact ⟨_, _, rfl, H1.out, H2.out, H3.out⟩

/-- The pairs in a range. -/
def Pl.slice (r : Rg) (l : List Pr) : List Pr := l.filter fun x => Ky.inn r x.key
theorem Pl.slice_take {r : Rg} {l : List Pr} {k : Nat} {x : Pr} (h : l[k]? = some x) : Pl.slice r (l.take (k + 1)) = if Ky.inn r x.key then Pl.slice r (l.take k) ++ [x] else Pl.slice r (l.take k) := by
  unfold Pl.slice
  rw [List.take_add_one, h, List.filter_append]
  cases he : Ky.inn r x.key <;> simp [he]

set_option maxHeartbeats 2000000 in
theorem slice_any (p : Option Addr) (n c : Nat) (l : List Pr) (r : Rg) (w : World) (hn : l.length = n) (hp : Prs w p l) (hl : n ≤ 4398046510976) :
    Calls Try.prog 16 #[.slice p n c, r.val] w fun e w' => ∃ v, e = .returned v ∧ OwnP w' w.heap.size v (Pl.slice r l) ∧ Below w.heap.size w w' := by
  obtain ⟨lo, hi⟩ := r
  have HX : Hid (Prs w p l) := hp
  have HN : Hid (l.length = n) := hn
  have HTK : Hid (l.take n = l) := List.take_of_length_le (by omega)
  obtain ⟨w1, hw1⟩ : ∃ w1, w.alloc (.cells #[.string lo, .string hi] 26) = w1 := ⟨_, rfl⟩
  have HK1 : Hid (Bk w1 w.heap.size 26 #[.string lo, .string hi]) := by rw [← hw1]; exact Bk.new _ _ _
  have HB1 : Hid (Below w.heap.size w w1) := by rw [← hw1]; exact (Below.refl _ _).alloc (Nat.le_refl _) _
  have HS1 : Hid (w1.heap.size = w.heap.size + 1) := by rw [← hw1]; show _ = _; simp
  clear hn hp
  go_enter Try.func16, Try.ntmps16
  go_wp2_with fail
  go_loopw [5, 10] (fun v i wr => ∃ k : Nat, k ≤ n ∧ i = .int .i64 k ∧ Hid (OwnP wr (w.heap.size + 1) v (Pl.slice ⟨lo, hi⟩ (l.take k))) ∧ Hid (Below (w.heap.size + 1) w1 wr)) (fun _ i _ => n - (intOf i).toNat)
  case atStart => exact ⟨0, Nat.zero_le _, rfl, Own.nil _ _ _, Below.refl _ _⟩
  case round =>
    obtain ⟨k, hk, rfl, HO, HW⟩ := hrel
    have hbw : Below w.heap.size w wr := HB1.out.trans (HW.out.mono (by omega))
    by_cases hlt : k < n
    · have hli : (k : Int) < (n : Int) := by omega
      obtain ⟨b, o, x, rfl, hg, c0, c1⟩ := Prs.cells (Els.below HX.out hbw (Nat.le_refl _)) (j := k) (by have := HN.out; omega)
      have HST : Hid (Pl.slice ⟨lo, hi⟩ (l.take (k + 1)) = if Ky.inn ⟨lo, hi⟩ x.key then Pl.slice ⟨lo, hi⟩ (l.take k) ++ [x] else Pl.slice ⟨lo, hi⟩ (l.take k)) := Pl.slice_take hg
      have HLN : Hid ((Pl.slice ⟨lo, hi⟩ (l.take k)).length < n) := by
        have h1 := List.length_filter_le (fun x : Pr => Ky.inn ⟨lo, hi⟩ x.key) (l.take k)
        have h2 := List.length_take_le k l
        show (Pl.slice ⟨lo, hi⟩ (l.take k)).length < n
        unfold Pl.slice
        omega
      obtain ⟨x1, x2⟩ := x
      have hkr := HK1.out.below HW.out (by omega)
      obtain ⟨w2, hw2⟩ : ∃ w2, wr.alloc (.cells #[.string x1, .string x2] 54) = w2 := ⟨_, rfl⟩
      have hb2 : Below wr.heap.size wr w2 := by rw [← hw2]; exact (Below.refl _ _).alloc (Nat.le_refl _) _
      have k2 : Bk w2 wr.heap.size 54 #[.string x1, .string x2] := by rw [← hw2]; exact Bk.new _ _ _
      have kr2 := hkr.below hb2 hkr.lt
      have d0 : w2.cell? ⟨wr.heap.size, 0, none⟩ = some (.string x1) := k2.cell 0
      have d1 : w2.cell? ⟨wr.heap.size, 1, none⟩ = some (.string x2) := k2.cell 1
      have r0 : w2.cell? ⟨w.heap.size, 0, none⟩ = some (.string lo) := kr2.cell 0
      have r1 : w2.cell? ⟨w.heap.size, 1, none⟩ = some (.string hi) := kr2.cell 1
      have HK2 : Hid (Bk w2 wr.heap.size 54 #[.string x1, .string x2]) := k2
      have HW2 : Hid (Below (w.heap.size + 1) w1 w2) := HW.out.trans (hb2.mono (by have := HW.out.size; have := HS1.out; omega))
      have HO2 : Hid (OwnP w2 (w.heap.size + 1) u5 (Pl.slice ⟨lo, hi⟩ (l.take k))) := Own.below HO.out hb2 (Nat.le_refl _)
      have hin := in_any ⟨lo, hi⟩ x1 w2
      clear hg hkr kr2 k2 hb2 hbw
      cases he : Ky.inn ⟨lo, hi⟩ x1 with
      | true =>
        rw [he] at hin
        go_wp2_with fail
        refine hin.mono ?_
        rintro e w3 ⟨rfl, hb3⟩
        have k3 := HK2.out.below hb3 HK2.out.lt
        have e0 : w3.cell? ⟨wr.heap.size, 0, none⟩ = some (.string x1) := k3.cell 0
        have e1 : w3.cell? ⟨wr.heap.size, 1, none⟩ = some (.string x2) := k3.cell 1
        have HO3 : Hid (OwnP w3 (w.heap.size + 1) u5 (Pl.slice ⟨lo, hi⟩ (l.take k))) := Own.below HO2.out hb3 (Nat.le_refl _)
        have hs2 : w.heap.size + 1 ≤ w2.heap.size := by have := HW2.out.size; have := HS1.out; omega
        have HW3 : Hid (Below (w.heap.size + 1) w1 w3) := HW2.out.trans (hb3.mono hs2)
        have HZ3 : Hid (w.heap.size + 1 ≤ w3.heap.size) := Nat.le_trans hs2 hb3.size
        clear hin hb3 k3 d0 d1 r0 r1 hw2
        go_wp2_with (at_builtin; refine app1L prknd Try.underlying22 prinfo rfl w3 rfl _ _ rfl (w.heap.size + 1) u5 _ rfl ⟨x1, x2⟩ _ rfl rfl _ rfl HO3.out (by have := HLN.out; unfold maxLen; omega) (by have := HLN.out; omega) HZ3.out ?_; intro v4 w4 h1 h2 h3)
        have HO4 : Hid (OwnP w4 (w.heap.size + 1) v4 (Pl.slice ⟨lo, hi⟩ (l.take (k + 1)))) := by unfold Hid; rw [HST.out, he, if_pos rfl]; exact h1
        have HW4 : Hid (Below (w.heap.size + 1) w1 w4) := by
          have h5 : Below (w.heap.size + 1) w3 (w3.alloc (.cells #[.string x1, .string x2] 54)) := (Below.refl _ _).alloc HZ3.out _
          exact (HW3.out.trans h5).grown h2 (by have := HZ3.out; simp; omega) (fun g hg => (Own.blk HO3.out hg).1)
        clear h1 h2 h3
        go_wp2
        go_roundw
        case rel => exact ⟨k + 1, by omega, by go_num, HO4, HW4⟩
        case measure => simp [intOf]; omega
      | false =>
        rw [he] at hin
        go_wp2_with fail
        refine hin.mono ?_
        rintro e w3 ⟨rfl, hb3⟩
        have hs2 : w.heap.size + 1 ≤ w2.heap.size := by have := HW2.out.size; have := HS1.out; omega
        have HO3 : Hid (OwnP w3 (w.heap.size + 1) u5 (Pl.slice ⟨lo, hi⟩ (l.take (k + 1)))) := by
          unfold Hid
          rw [HST.out, he]
          exact Own.below HO2.out hb3 (Nat.le_refl _)
        have HW3 : Hid (Below (w.heap.size + 1) w1 w3) := HW2.out.trans (hb3.mono hs2)
        clear hin hb3 d0 d1 r0 r1 hw2
        go_wp2
        go_roundw
        case rel => exact ⟨k + 1, by omega, by go_num, HO3, HW3⟩
        case measure => simp [intOf]; omega
    · obtain rfl : k = n := by omega
      have HO2 : Hid (OwnP wr w.heap.size u5 (Pl.slice ⟨lo, hi⟩ l)) := by
        have := HO.out
        rw [HTK.out] at this
        exact this.mono (by omega)
      have HBW : Hid (Below w.heap.size w wr) := hbw
      clear hbw
      go_wp2
      go_ret
      exact ⟨_, rfl, HO2.out, HBW.out⟩
end Go.Proofs.Ytilabcolfabnmaa

namespace Go.Proofs.Ytilabcolfabnmaa
open Go.RowKit Go.Sort
set_option linter.unusedVariables false
set_option maxRecDepth 100000

theorem Pl.put_len (m : List Pr) (x : Pr) : (Pl.put m x).length ≤ m.length + 1 := by
  have h1 : Pl.lead x m ≤ m.length := List.findIdx_le_length
  unfold Pl.put
  simp only [List.length_append, List.length_take, List.length_drop, List.length_cons, List.length_nil]
  split <;> omega
theorem Pl.drp_take {m : List Pr} {j : Nat} {y : Pr} {k : ByteArray} (h : m[j]? = some y) : Pl.drp (m.take (j + 1)) k = if (y.key.toList == k.toList) then Pl.drp (m.take j) k else Pl.drp (m.take j) k ++ [y] := by
  unfold Pl.drp
  rw [List.take_add_one, h, List.filter_append]
  cases he : (y.key.toList == k.toList) <;> simp [he]

set_option maxHeartbeats 4000000 in
theorem ddrop_any (q : Option Addr) (n c : Nat) (m : List Pr) (key : ByteArray) (w : World) (hx : Prs w q m) (hn : m.length = n) (hl : n ≤ 4398046510976) :
    Calls Try.prog 31 #[.slice q n c, .string key] w fun e w' => ∃ v, e = .returned v ∧ OwnP w' w.heap.size v (Pl.drp m key) ∧ Below w.heap.size w w' := by
  have HX : Hid (Prs w q m) := hx
  have HN : Hid (m.length = n) := hn
  have HTK : Hid (m.take n = m) := List.take_of_length_le (by omega)
  clear hn hx
  go_enter Try.func31, Try.ntmps31
  go_wp2_with fail
  go_loopw [5, 6] (fun v i wr => ∃ k : Nat, k ≤ n ∧ i = .int .i64 k ∧ Hid (OwnP wr w.heap.size v (Pl.drp (m.take k) key)) ∧ Hid (Below w.heap.size w wr)) (fun _ i _ => n - (intOf i).toNat)
  case atStart => exact ⟨0, Nat.zero_le _, rfl, Own.nil _ _ _, Below.refl _ _⟩
  case round =>
    obtain ⟨k, hk, rfl, HO, HW⟩ := hrel
    by_cases hlt : k < n
    · have hli : (k : Int) < (n : Int) := by omega
      obtain ⟨b, o, y, rfl, hg, c0, c1⟩ := Prs.cells (Els.below HX.out HW.out (Nat.le_refl _)) (j := k) (by have := HN.out; omega)
      have HST : Hid (Pl.drp (m.take (k + 1)) key = if (y.key.toList == key.toList) then Pl.drp (m.take k) key else Pl.drp (m.take k) key ++ [y]) := Pl.drp_take hg
      have HLN : Hid ((Pl.drp (m.take k) key).length < n) := by
        have h1 := List.length_filter_le (fun x : Pr => !(x.key.toList == key.toList)) (m.take k)
        have h2 := List.length_take_le k m
        show (Pl.drp (m.take k) key).length < n
        unfold Pl.drp
        omega
      obtain ⟨x1, x2⟩ := y
      have HZ : Hid (w.heap.size ≤ wr.heap.size) := HW.out.size
      clear hg
      cases he : (x1.toList == key.toList) with
      | true =>
        have HO2 : Hid (OwnP wr w.heap.size u5 (Pl.drp (m.take (k + 1)) key)) := by unfold Hid; rw [HST.out, he]; exact HO.out
        go_wp2
        go_roundw
        case rel => exact ⟨k + 1, by omega, by go_num, HO2, HW⟩
        case measure => simp [intOf]; omega
      | false =>
        go_wp2_with (at_builtin; refine app1L prknd Try.underlying22 prinfo rfl wr rfl _ _ rfl w.heap.size u5 _ rfl ⟨x1, x2⟩ _ rfl rfl _ rfl HO.out (by have := HLN.out; unfold maxLen; omega) (by have := HLN.out; omega) HZ.out ?_; intro v4 w4 h1 h2 h3; refine Hid.out ?_)
        unfold Hid
        have HO4 : Hid (OwnP w4 w.heap.size v4 (Pl.drp (m.take (k + 1)) key)) := by unfold Hid; rw [HST.out, he]; exact h1
        have HW4 : Hid (Below w.heap.size w w4) := by
          have h5 : Below w.heap.size wr (wr.alloc (.cells #[.string x1, .string x2] 54)) := (Below.refl _ _).alloc HZ.out _
          exact (HW.out.trans h5).grown h2 (by have := HZ.out; simp; omega) (fun g hg => (Own.blk HO.out hg).1)
        clear h1 h2 h3
        go_wp2
        go_roundw
        case rel => exact ⟨k + 1, by omega, by go_num, HO4, HW4⟩
        case measure => simp [intOf]; omega
    · obtain rfl : k = n := by omega
      have HO2 : Hid (OwnP wr w.heap.size u5 (Pl.drp m key)) := by
        have := HO.out
        rwa [HTK.out] at this
      go_wp2
      go_ret
      exact ⟨_, rfl, HO2.out, HW.out⟩

set_option maxHeartbeats 4000000 in
theorem dmap_any (p : Option Addr) (n c : Nat) (l : List Pr) (w : World) (hn : l.length = n) (hp : Prs w p l) (hl : n ≤ 4398046510000) :
    Calls Try.prog 7 #[.slice p n c] w fun e w' => ∃ v m, e = .returned v ∧ OwnP w' w.heap.size v m ∧ m.length ≤ n ∧ (Fm.puts (fun _ => none) l).Is m ∧ Below w.heap.size w w' := by
  have HX : Hid (Prs w p l) := hp
  have HN : Hid (l.length = n) := hn
  have HTK : Hid (l.take n = l) := List.take_of_length_le (by omega)
  clear hn hp
  go_enter Try.func7, Try.ntmps7
  go_wp2_with fail
  go_loopw [3, 4] (fun v i wr => ∃ (k : Nat) (m : List Pr) (q : Option Addr) (nm cm : Nat), k ≤ n ∧ i = .int .i64 k ∧ v = .slice q nm cm ∧ nm ≤ k ∧ Hid (OwnP wr w.heap.size (.slice q nm cm) m ∧ m.length = nm ∧ (Fm.puts (fun _ => none) (l.take k)).Is m) ∧ Hid (Below w.heap.size w wr)) (fun _ i _ => n - (intOf i).toNat)
  case atStart => exact ⟨0, [], none, 0, 0, Nat.zero_le _, rfl, rfl, Nat.le_refl _, ⟨Own.nil _ _ _, rfl, Fm.is_none⟩, Below.refl _ _⟩
  case round =>
    obtain ⟨k, m, q, nm, cm, hk, rfl, rfl, hnm, HM, HW⟩ := hrel
    by_cases hlt : k < n
    · have hli : (k : Int) < (n : Int) := by omega
      obtain ⟨b, o, y, rfl, hg, c0, c1⟩ := Prs.cells (Els.below HX.out HW.out (Nat.le_refl _)) (j := k) (by have := HN.out; omega)
      have HPT : Hid (Fm.puts (fun _ => none) (l.take (k + 1)) = (Fm.puts (fun _ => none) (l.take k)).set y.key.data.toList y) := Fm.puts_take hg
      obtain ⟨x1, x2⟩ := y
      have hc := dputp_any q nm cm w.heap.size m ⟨x1, x2⟩ wr HM.out.1 HM.out.2.1 (by omega)
      clear hg
      go_wp2_with fail
      refine hc.mono ?_
      rintro e w2 ⟨v2, rfl, ho2, hb2⟩
      obtain ⟨q2, c2, rfl, -, -, -⟩ := ho2.els prknd
      obtain ⟨n2, hn2⟩ : ∃ n2, (Pl.put m ⟨x1, x2⟩).length = n2 := ⟨_, rfl⟩
      rw [hn2] at ho2 ⊢
      have hln := Pl.put_len m ⟨x1, x2⟩
      have hnl := HM.out.2.1
      have HM2 : Hid (OwnP w2 w.heap.size (.slice q2 n2 c2) (Pl.put m ⟨x1, x2⟩) ∧ (Pl.put m ⟨x1, x2⟩).length = n2 ∧ (Fm.puts (fun _ => none) (l.take (k + 1))).Is (Pl.put m ⟨x1, x2⟩)) := ⟨ho2.mono HW.out.size, hn2, by rw [HPT.out]; exact Pl.put_is (Fm.ok_none.puts _) HM.out.2.2 ⟨x1, x2⟩⟩
      have HW2 : Hid (Below w.heap.size w w2) := HW.out.trans (hb2.mono HW.out.size)
      have hnk : n2 ≤ k + 1 := by omega
      clear hc ho2 hb2 hn2 hln hnl
      go_wp2
      go_roundw
      case rel => exact ⟨k + 1, _, q2, n2, c2, by omega, by go_num, rfl, hnk, HM2, HW2⟩
      case measure => simp [intOf]; omega
    · obtain rfl : k = n := by omega
      have HF : Hid (OwnP wr w.heap.size (.slice q nm cm) m ∧ m.length ≤ k ∧ (Fm.puts (fun _ => none) l).Is m) := by
        have h1 := HM.out
        rw [HTK.out] at h1
        exact ⟨h1.1, by omega, h1.2.2⟩
      go_wp2
      go_ret
      exact ⟨_, m, rfl, HF.out.1, HF.out.2.1, HF.out.2.2, HW.out⟩

set_option maxHeartbeats 4000000 in
theorem doverlay_any (p qw : Option Addr) (n c nw cw : Nat) (l : List Pr) (ws : List Wt) (w : World) (hn : l.length = n) (hp : Prs w p l) (hnw : ws.length = nw) (hw : Wts w qw ws) (hl : n + nw ≤ 4398046510000) :
    Calls Try.prog 13 #[.slice p n c, .slice qw nw cw] w fun e w' => ∃ v m, e = .returned v ∧ OwnP w' w.heap.size v m ∧ m.length ≤ n + nw ∧ ((Fm.puts (fun _ => none) l).writes ws).Is m ∧ Below w.heap.size w w' := by
  have hmp := dmap_any p n c l w hn hp (by omega)
  have HX : Hid (Wts w qw ws) := hw
  have HN : Hid (ws.length = nw) := hnw
  have HTK : Hid (ws.take nw = ws) := List.take_of_length_le (by omega)
  clear hn hp hnw hw
  go_enter Try.func13, Try.ntmps13
  go_wp2_with fail
  refine hmp.mono ?_
  rintro e w1 ⟨v1, m1, rfl, ho1, hm1, his1, hb1⟩
  obtain ⟨q1, c1, rfl, -, -, -⟩ := ho1.els prknd
  obtain ⟨n1, hn1⟩ : ∃ n1, m1.length = n1 := ⟨_, rfl⟩
  rw [hn1] at ho1 hm1 ⊢
  have HM1 : Hid (OwnP w1 w.heap.size (.slice q1 n1 c1) m1 ∧ m1.length = n1 ∧ ((Fm.puts (fun _ => none) l).writes (ws.take 0)).Is m1) := ⟨ho1, hn1, his1⟩
  have HB1 : Hid (Below w.heap.size w w1) := hb1
  clear hmp ho1 his1 hb1 hn1
  go_wp2_with fail
  go_loopw [5, 6] (fun v i wr => ∃ (k : Nat) (m : List Pr) (q : Option Addr) (nm cm : Nat), k ≤ nw ∧ i = .int .i64 k ∧ v = .slice q nm cm ∧ nm ≤ n + k ∧ Hid (OwnP wr w.heap.size (.slice q nm cm) m ∧ m.length = nm ∧ ((Fm.puts (fun _ => none) l).writes (ws.take k)).Is m) ∧ Hid (Below w.heap.size w wr)) (fun _ i _ => nw - (intOf i).toNat)
  case atStart => exact ⟨0, m1, q1, n1, c1, Nat.zero_le _, rfl, rfl, hm1, HM1, HB1⟩
  case round =>
    obtain ⟨k, m, q, nm, cm, hk, rfl, rfl, hnm, HM, HW⟩ := hrel
    by_cases hlt : k < nw
    · have hli : (k : Int) < (nw : Int) := by omega
      obtain ⟨b, o, y, rfl, hg, c0, c1, c2⟩ := Wts.cells (Els.below HX.out HW.out (Nat.le_refl _)) (j := k) (by have := HN.out; omega)
      have HPT : Hid ((Fm.puts (fun _ => none) l).writes (ws.take (k + 1)) = Fm.doW ((Fm.puts (fun _ => none) l).writes (ws.take k)) y) := Fm.writes_take hg
      obtain ⟨x1, x2, x3⟩ := y
      obtain ⟨qq, cq, hqq, helq, -, -⟩ := HM.out.1.els prknd
      simp only [Value.slice.injEq] at hqq
      obtain ⟨rfl, hqn0, rfl⟩ := hqq
      have hqn : Hid (nm = m.length) := hqn0
      clear hqn0
      have hok := (Fm.ok_none.puts l).writes (ws.take k)
      cases x3 with
      | true =>
        have hc := ddrop_any q nm cm m x1 wr helq hqn.out.symm (by omega)
        have HIS : Hid (((Fm.puts (fun _ => none) l).writes (ws.take (k + 1))).Is (Pl.drp m x1)) := by
          unfold Hid
          rw [HPT.out]
          exact Pl.drp_is HM.out.2.2 x1
        have hln : (Pl.drp m x1).length ≤ nm := by rw [hqn.out]; exact List.length_filter_le _ _
        clear hg helq hok
        go_wp2_with fail
        refine hc.mono ?_
        rintro e w2 ⟨v2, rfl, ho2, hb2⟩
        obtain ⟨q2, c2', rfl, -, -, -⟩ := ho2.els prknd
        obtain ⟨n2, hn2⟩ : ∃ n2, (Pl.drp m x1).length = n2 := ⟨_, rfl⟩
        rw [hn2] at ho2 hln ⊢
        have HM2 : Hid (OwnP w2 w.heap.size (.slice q2 n2 c2') (Pl.drp m x1) ∧ (Pl.drp m x1).length = n2 ∧ ((Fm.puts (fun _ => none) l).writes (ws.take (k + 1))).Is (Pl.drp m x1)) := ⟨ho2.mono HW.out.size, hn2, HIS.out⟩
        have HW2 : Hid (Below w.heap.size w w2) := HW.out.trans (hb2.mono HW.out.size)
        clear hc ho2 hb2 hn2 hqn
        go_wp2
        go_roundw
        case rel => exact ⟨k + 1, _, q2, n2, c2', by omega, by go_num, rfl, by omega, HM2, HW2⟩
        case measure => simp [intOf]; omega
      | false =>
        have HC : Hid (∀ W, Below wr.heap.size wr W → Calls Try.prog 25 #[.slice q nm cm, .agg #[.string x1, .string x2]] W fun e w' => ∃ v, e = .returned v ∧ OwnP w' W.heap.size v (Pl.put m ⟨x1, x2⟩) ∧ Below W.heap.size W w') := fun W hW => dputp_any q nm cm w.heap.size m ⟨x1, x2⟩ W (HM.out.1.below hW (Nat.le_refl _)) HM.out.2.1 (by omega)
        have HIS : Hid (((Fm.puts (fun _ => none) l).writes (ws.take (k + 1))).Is (Pl.put m ⟨x1, x2⟩)) := by
          unfold Hid
          rw [HPT.out]
          exact Pl.put_is hok HM.out.2.2 ⟨x1, x2⟩
        have hln := Pl.put_len m ⟨x1, x2⟩
        rw [← hqn.out] at hln
        have HE : Hid (∀ W, Below wr.heap.size wr W → W.cell? ⟨b, o + k * 3, none⟩ = some (.string x1) ∧ W.cell? ⟨b, o + k * 3 + 1, none⟩ = some (.string x2)) := by
          have d0 := c0
          have d1 := c1
          exact fun W hW => ⟨by rw [hW.cell (p := ⟨b, o + k * 3, none⟩) (World.block_lt_of_cell? wr _ d0)]; exact d0, by rw [hW.cell (p := ⟨b, o + k * 3 + 1, none⟩) (World.block_lt_of_cell? wr _ d1)]; exact d1⟩
        clear hg helq hok
        go_wp2_with fail
        go_region_held3 (fun w' => w'.cell? ⟨b, o + k * 3, none⟩ = some (.string x1) ∧ w'.cell? ⟨b, o + k * 3 + 1, none⟩ = some (.string x2)) (go_keep) (first
          | (go_at_call 25; refine (HC.out _ ((Below.refl _ _).drew)).mono ?_; rintro e w2 ⟨v2, rfl, ho2, hb20⟩; have hb2 : Below wr.heap.size wr w2 := ((Below.refl _ _).drew).trans hb20; obtain ⟨e0, e1⟩ := HE.out w2 hb2))
        obtain ⟨q2, c2', rfl, -, -, -⟩ := ho2.els prknd
        obtain ⟨n2, hn2⟩ : ∃ n2, (Pl.put m ⟨x1, x2⟩).length = n2 := ⟨_, rfl⟩
        rw [hn2] at ho2 hln ⊢
        have HM2 : Hid (OwnP w2 w.heap.size (.slice q2 n2 c2') (Pl.put m ⟨x1, x2⟩) ∧ (Pl.put m ⟨x1, x2⟩).length = n2 ∧ ((Fm.puts (fun _ => none) l).writes (ws.take (k + 1))).Is (Pl.put m ⟨x1, x2⟩)) := ⟨ho2.mono HW.out.size, hn2, HIS.out⟩
        have HW2 : Hid (Below w.heap.size w w2) := HW.out.trans (hb2.mono HW.out.size)
        clear ho2 hb2 hb20 hn2 hqn e0 e1
        go_wp2
        go_roundw
        case rel => exact ⟨k + 1, _, q2, n2, c2', by omega, by go_num, rfl, by omega, HM2, HW2⟩
        case measure => simp [intOf]; omega
    · obtain rfl : k = nw := by omega
      have HF : Hid (OwnP wr w.heap.size (.slice q nm cm) m ∧ m.length ≤ n + k ∧ ((Fm.puts (fun _ => none) l).writes ws).Is m) := by
        have h1 := HM.out
        rw [HTK.out] at h1
        exact ⟨h1.1, by omega, h1.2.2⟩
      go_wp2
      go_ret
      exact ⟨_, m, rfl, HF.out.1, HF.out.2.1, HF.out.2.2, HW.out⟩
end Go.Proofs.Ytilabcolfabnmaa

namespace Go.Proofs.Ytilabcolfabnmaa
open Go.RowKit Go.Sort
set_option linter.unusedVariables false
set_option maxRecDepth 100000

theorem dinP_any (r : Rg) (k : ByteArray) (w : World) : Calls Try.prog 34 #[r.val, .string k] w fun e w' => e = .returned (.bool (Ky.inn r k)) ∧ Below w.heap.size w w' := by
  have HI : Hid (Ky.inn r k = (!Op.bytesLess k.toList r.lo.toList && (r.hi.toList.isEmpty || Op.bytesLess k.toList r.hi.toList))) := rfl
  cases h : Op.bytesLess k.toList r.lo.toList with
  | true =>
    rw [h] at HI
    go_enter Try.func34, Try.ntmps34
    go_wp2
    go_ret
    exact ⟨by rw [HI.out]; rfl, (Below.refl _ _).alloc (Nat.le_refl _) _⟩
  | false =>
    rw [h] at HI
    cases h2 : r.hi.toList.isEmpty with
    | true =>
      rw [h2] at HI
      go_enter Try.func34, Try.ntmps34
      go_wp2
      go_ret
      exact ⟨by rw [HI.out]; rfl, (Below.refl _ _).alloc (Nat.le_refl _) _⟩
    | false =>
      rw [h2] at HI
      go_enter Try.func34, Try.ntmps34
      go_wp2
      all_goals go_ret
      all_goals exact ⟨by rw [HI.out]; simp, (Below.refl _ _).alloc (Nat.le_refl _) _⟩

set_option maxHeartbeats 4000000 in
theorem dslice_any (p : Option Addr) (n c : Nat) (l : List Pr) (r : Rg) (w : World) (hn : l.length = n) (hp : Prs w p l) (hl : n ≤ 4398046510976) :
    Calls Try.prog 17 #[.slice p n c, r.val] w fun e w' => ∃ v, e = .returned v ∧ OwnP w' w.heap.size v (Pl.slice r l) ∧ Below w.heap.size w w' := by
  obtain ⟨lo, hi⟩ := r
  have HX : Hid (Prs w p l) := hp
  have HN : Hid (l.length = n) := hn
  have HTK : Hid (l.take n = l) := List.take_of_length_le (by omega)
  obtain ⟨w1, hw1⟩ : ∃ w1, w.alloc (.cells #[.string lo, .string hi] 26) = w1 := ⟨_, rfl⟩
  have HK1 : Hid (Bk w1 w.heap.size 26 #[.string lo, .string hi]) := by rw [← hw1]; exact Bk.new _ _ _
  have HB1 : Hid (Below w.heap.size w w1) := by rw [← hw1]; exact (Below.refl _ _).alloc (Nat.le_refl _) _
  have HS1 : Hid (w1.heap.size = w.heap.size + 1) := by rw [← hw1]; show _ = _; simp
  clear hn hp
  go_enter Try.func17, Try.ntmps17
  go_wp2_with fail
  go_loopw [5, 6] (fun v i wr => ∃ k : Nat, k ≤ n ∧ i = .int .i64 k ∧ Hid (OwnP wr (w.heap.size + 1) v (Pl.slice ⟨lo, hi⟩ (l.take k))) ∧ Hid (Below (w.heap.size + 1) w1 wr)) (fun _ i _ => n - (intOf i).toNat)
  case atStart => exact ⟨0, Nat.zero_le _, rfl, Own.nil _ _ _, Below.refl _ _⟩
  case round =>
    obtain ⟨k, hk, rfl, HO, HW⟩ := hrel
    have hbw : Below w.heap.size w wr := HB1.out.trans (HW.out.mono (by omega))
    by_cases hlt : k < n
    · have hli : (k : Int) < (n : Int) := by omega
      obtain ⟨b, o, x, rfl, hg, c0, c1⟩ := Prs.cells (Els.below HX.out hbw (Nat.le_refl _)) (j := k) (by have := HN.out; omega)
      have HST : Hid (Pl.slice ⟨lo, hi⟩ (l.take (k + 1)) = if Ky.inn ⟨lo, hi⟩ x.key then Pl.slice ⟨lo, hi⟩ (l.take k) ++ [x] else Pl.slice ⟨lo, hi⟩ (l.take k)) := Pl.slice_take hg
      have HLN : Hid ((Pl.slice ⟨lo, hi⟩ (l.take k)).length < n) := by
        have h1 := List.length_filter_le (fun x : Pr => Ky.inn ⟨lo, hi⟩ x.key) (l.take k)
        have h2 := List.length_take_le k l
        show (Pl.slice ⟨lo, hi⟩ (l.take k)).length < n
        unfold Pl.slice
        omega
      obtain ⟨x1, x2⟩ := x
      have hkr := HK1.out.below HW.out (by omega)
      have k0 := cell_regrown (show wr.cell? ⟨b, o + k * 2, none⟩ = some (.string x1) from c0)
      have k1 := cell_regrown (show wr.cell? ⟨w.heap.size, 0, none⟩ = some (.string lo) from hkr.cell 0)
      have k2 := cell_regrown (show wr.cell? ⟨w.heap.size, 1, none⟩ = some (.string hi) from hkr.cell 1)
      have HCL : Hid (∀ W, Below wr.heap.size wr W → W.cell? ⟨b, o + k * 2, none⟩ = some (.string x1) ∧ W.cell? ⟨b, o + k * 2 + 1, none⟩ = some (.string x2)) := by
        have d0 := c0
        have d1 := c1
        exact fun W hW => ⟨by rw [hW.cell (p := ⟨b, o + k * 2, none⟩) (World.block_lt_of_cell? wr _ d0)]; exact d0, by rw [hW.cell (p := ⟨b, o + k * 2 + 1, none⟩) (World.block_lt_of_cell? wr _ d1)]; exact d1⟩
      obtain ⟨ib, hib⟩ : ∃ ib, Ky.inn ⟨lo, hi⟩ x1 = ib := ⟨_, rfl⟩
      have cI : ∀ d os, Calls Try.prog 34 #[.agg #[.string lo, .string hi], .string x1] (grow (redrawn wr d) os) fun e w'' => e = .returned (.bool ib) ∧ ∃ p : Regrown, w'' = grow (redrawn wr p.d) p.os := fun d os => Calls.regrown_of (by have := dinP_any ⟨lo, hi⟩ x1 (grow (redrawn wr d) os); rw [hib] at this; exact this)
      have HIB : Hid (Ky.inn ⟨lo, hi⟩ x1 = ib) := hib
      clear hg hkr hbw c0 c1 hib
      go_wp2_with fail
      refine wp_region_quiet_below (by kernel_rfl) (by kernel_rfl) ?_
      repeat (go_big_quiet_step (first | (go_at_call 34; exact cI _ _)))
      refine wpQuiet_nil ?_
      intro _ hw'
      obtain ⟨⟨dq, osq⟩, hw''⟩ := hw'
      subst hw''
      have hb3 := below_regrown wr dq osq
      generalize grow (redrawn wr dq) osq = w3 at hb3 ⊢
      have HW3 : Hid (Below (w.heap.size + 1) w1 w3) := HW.out.trans (hb3.mono (by have := HW.out.size; have := HS1.out; omega))
      have HO3 : Hid (OwnP w3 (w.heap.size + 1) u5 (Pl.slice ⟨lo, hi⟩ (l.take k))) := HO.out.below hb3 (Nat.le_refl _)
      have HZ3 : Hid (w.heap.size + 1 ≤ w3.heap.size) := by have := HW3.out.size; have := HS1.out; unfold Hid; omega
      obtain ⟨e0, e1⟩ := HCL.out w3 hb3
      clear k0 k1 k2 cI hb3
      cases ib with
      | true =>
        go_wp2_with (at_builtin; refine app1L prknd Try.underlying22 prinfo rfl w3 rfl _ _ rfl (w.heap.size + 1) u5 _ rfl ⟨x1, x2⟩ _ rfl rfl _ rfl HO3.out (by have := HLN.out; unfold maxLen; omega) (by have := HLN.out; omega) HZ3.out ?_; intro v4 w4 h1 h2 h3; refine Hid.out ?_)
        unfold Hid
        have HO4 : Hid (OwnP w4 (w.heap.size + 1) v4 (Pl.slice ⟨lo, hi⟩ (l.take (k + 1)))) := by unfold Hid; rw [HST.out, HIB.out, if_pos rfl]; exact h1
        have HW4 : Hid (Below (w.heap.size + 1) w1 w4) := by
          have h5 : Below (w.heap.size + 1) w3 (w3.alloc (.cells #[.string x1, .string x2] 54)) := (Below.refl _ _).alloc HZ3.out _
          exact (HW3.out.trans h5).grown h2 (by have := HZ3.out; simp; omega) (fun g hg => (Own.blk HO3.out hg).1)
        clear h1 h2 h3
        go_wp2
        go_roundw
        case rel => exact ⟨k + 1, by omega, by go_num, HO4, HW4⟩
        case measure => simp [intOf]; omega
      | false =>
        have HO4 : Hid (OwnP w3 (w.heap.size + 1) u5 (Pl.slice ⟨lo, hi⟩ (l.take (k + 1)))) := by
          unfold Hid
          rw [HST.out, HIB.out]
          exact HO3.out
        go_wp2
        go_roundw
        case rel => exact ⟨k + 1, by omega, by go_num, HO4, HW3⟩
        case measure => simp [intOf]; omega
    · obtain rfl : k = n := by omega
      have HO2 : Hid (OwnP wr w.heap.size u5 (Pl.slice ⟨lo, hi⟩ l)) := by
        have := HO.out
        rw [HTK.out] at this
        exact this.mono (by omega)
      have HBW : Hid (Below w.heap.size w wr) := hbw
      clear hbw
      go_wp2
      go_ret
      exact ⟨_, rfl, HO2.out, HBW.out⟩
end Go.Proofs.Ytilabcolfabnmaa

namespace Go.Proofs.Ytilabcolfabnmaa
open Go.RowKit Go.Sort
set_option linter.unusedVariables false
set_option maxRecDepth 100000

abbrev OwnC (w : World) (base : Nat) (v : Value) (l : List Cm) : Prop := Own Cm.cells 2 42 w base v l

theorem clead_step {x y : Cm} {m : List Cm} {k : Nat} (hk : k ≤ Cl.lead x m) (hy : m[k]? = some y) (h : y.ts ≤ x.ts) : k + 1 ≤ Cl.lead x m := by
  rcases Nat.eq_or_lt_of_le hk with e | e
  · have h1 := List.getElem?_eq_some_iff.1 hy
    have hlt : m.findIdx (fun y : Cm => !decide (y.ts ≤ x.ts)) < m.length := by show Cl.lead x m < m.length; have := h1.1; omega
    have h3 := List.findIdx_getElem (p := fun y : Cm => !decide (y.ts ≤ x.ts)) (xs := m) (w := hlt)
    have h4 : m[m.findIdx (fun y : Cm => !decide (y.ts ≤ x.ts))]'hlt = y := by
      have h2 : m[m.findIdx (fun y : Cm => !decide (y.ts ≤ x.ts))]? = some y := by
        show m[Cl.lead x m]? = some y
        rw [← e]
        exact hy
      rw [List.getElem?_eq_getElem hlt] at h2
      exact Option.some.inj h2
    rw [h4] at h3
    simp [h] at h3
  · exact e
theorem clead_stop {x y : Cm} {m : List Cm} {k : Nat} (hk : k ≤ Cl.lead x m) (hy : m[k]? = some y) (h : ¬ y.ts ≤ x.ts) : Cl.lead x m = k := by
  have h1 := List.getElem?_eq_some_iff.1 hy
  refine (List.findIdx_eq h1.1).2 ⟨by rw [h1.2]; simp [h], fun i hi => ?_⟩
  have := List.not_of_lt_findIdx (p := fun y : Cm => !decide (y.ts ≤ x.ts)) (xs := m) (i := i) (Nat.lt_of_lt_of_le hi hk)
  simpa using this
theorem clead_end {x : Cm} {m : List Cm} (hk : m.length ≤ Cl.lead x m) : Cl.lead x m = m.length := Nat.le_antisymm List.findIdx_le_length hk

set_option maxHeartbeats 16000000 in
theorem dfold_any (p : Option Addr) (len cap : Nat) (l : List Cm) (W : Cm → List Wt) (ts : Int) (w : World) (hn : l.length = len) (hx : Els Cm.cells 2 w p l) (hW : ∀ x ∈ l, ∀ u, Below w.heap.size w u → CwOk W u x) (hK : ∀ x ∈ l, x.n ≤ 1048576) (hl : len ≤ 1048576) :
    Calls Try.prog 15 #[.slice p len cap, .int .i64 ts] w fun e w' => ∃ v k Z, e = .returned v ∧ Sam Cm.ts (keepC ts l) Z ∧ Asc Cm.ts Z ∧ (Fm.commits W (fun _ => none) Z).Is k ∧ OwnP w' w.heap.size v k ∧ k.length ≤ 1099511627776 ∧ Below w.heap.size w w' := by
  have HX : Hid (Els Cm.cells 2 w p l) := hx
  have HL : Hid (l.length = len) := hn
  have HW0 : Hid (∀ x ∈ l, ∀ u, Below w.heap.size w u → CwOk W u x) := hW
  have HK0 : Hid (∀ x ∈ l, x.n ≤ 1048576) := hK
  have HTK : Hid (l.take len = l) := List.take_of_length_le (by omega)
  clear hx hn hW hK
  go_enter Try.func15, Try.ntmps15
  go_wp2_with fail
  go_loopw [5, 6] (fun v i wr => ∃ (j : Nat) (m : List Cm) (q : Option Addr) (n c : Nat), j ≤ len ∧ i = .int .i64 j ∧ v = .slice q n c ∧ n ≤ j ∧ Hid (OwnC wr w.heap.size (.slice q n c) m ∧ m.length = n ∧ Sam Cm.ts (keepC ts (l.take j)) m ∧ Asc Cm.ts m) ∧ Hid (Below w.heap.size w wr)) (fun _ i _ => len - (intOf i).toNat)
  case atStart => exact ⟨0, [], none, 0, 0, Nat.zero_le _, rfl, rfl, Nat.le_refl _, ⟨Own.nil _ _ _, rfl, by simp [keepC, Sam.refl], Asc.nil⟩, Below.refl _ _⟩
  case round =>
    obtain ⟨j, m, q, n, c, hj, rfl, rfl, hnj, HM, HW⟩ := hrel
    by_cases hlt : j < len
    · have hli : (j : Int) < (len : Int) := by omega
      have hj0 : (0 : Int) ≤ (j : Int) := by omega
      obtain ⟨b, o, x, rfl, hg, hcs⟩ := Els.at (HX.out.below HW.out (Nat.le_refl _)) (j := j) (by have := HL.out; omega)
      have c0 := hcs 0 _ rfl
      have c1 := hcs 1 _ rfl
      rw [Nat.add_zero] at c0
      have HKA : Hid (keepC ts (l.take (j + 1)) = if ts < x.ts then keepC ts (l.take j) else keepC ts (l.take j) ++ [x]) := keepC_at hg
      obtain ⟨x1, x2, x3, x4⟩ := x
      have HC : Hid (∀ u, Below wr.heap.size wr u → u.cell? ⟨b, o + j * 2, none⟩ = some (.int .i64 x1) ∧ u.cell? ⟨b, o + j * 2 + 1, none⟩ = some (.slice x2 x3 x4)) := by
        have d0 := c0
        have d1 := c1
        exact fun u hu => ⟨by rw [hu.cell (p := ⟨b, o + j * 2, none⟩) (World.block_lt_of_cell? wr _ d0)]; exact d0, by rw [hu.cell (p := ⟨b, o + j * 2 + 1, none⟩) (World.block_lt_of_cell? wr _ d1)]; exact d1⟩
      clear hg hcs
      by_cases hgt : ts < x1
      · have HM2 : Hid (OwnC wr w.heap.size (.slice q n c) m ∧ m.length = n ∧ Sam Cm.ts (keepC ts (l.take (j + 1))) m ∧ Asc Cm.ts m) := by
          unfold Hid
          rw [HKA.out, if_pos hgt]
          exact HM.out
        go_wp2
        go_roundw
        case rel => exact ⟨j + 1, m, q, n, c, by omega, by go_num, rfl, by omega, HM2, HW⟩
        case measure => simp [intOf]; omega
      · have HK1 : Hid (keepC ts (l.take (j + 1)) = keepC ts (l.take j) ++ [⟨x1, x2, x3, x4⟩]) := by rw [HKA.out, if_neg hgt]; rfl
        have HN : Hid (m.length = n) := HM.out.2.1
        obtain ⟨q', c', hv, hels, hnil, hle⟩ := HM.out.1.els cmknd
        simp only [Value.slice.injEq] at hv
        obtain ⟨rfl, hmn, rfl⟩ := hv
        have HNC : Hid (n ≤ c) := by unfold Hid; omega
        have HNIL : Hid (q = none → n = 0 ∧ c = 0) := fun h => by have := hnil h; omega
        have HAT : Hid (∀ ad, q = some ad → ∃ g, ad = ⟨g, 0, none⟩) := fun ad had => by
          rcases HM.out.1.2 with ⟨hv2, -⟩ | ⟨g, cap, cur, hv2, -⟩
          · rw [had] at hv2; cases hv2
          · rw [had] at hv2
            cases hv2
            exact ⟨g, rfl⟩
        have HMX : Hid (∀ u, Below wr.heap.size wr u → Els Cm.cells 2 u q m) := fun u hu => Els.below hels hu (Nat.le_refl _)
        have HSA : Hid (Sam Cm.ts (keepC ts (l.take j)) m ∧ Asc Cm.ts m) := HM.out.2.2
        obtain ⟨w2, hw2⟩ : ∃ w2, w2 = wr := ⟨_, rfl⟩
        rw [← hw2] at HC HMX HW
        have HW2 : Hid (Below w2.heap.size w2 wr) := by rw [hw2]; exact Below.refl _ _
        clear hels hnil hmn hle HM HKA
        go_wp2_with fail
        clear c0 c1
        go_loopw [7] (fun iv wr => ∃ k : Nat, k ≤ n ∧ iv = .int .i64 k ∧ Hid (k ≤ Cl.lead ⟨x1, x2, x3, x4⟩ m) ∧ Hid (Below w2.heap.size w2 wr)) (fun iv _ => n - (intOf iv).toNat)
        case atStart => exact ⟨0, Nat.zero_le _, rfl, Nat.zero_le _, HW2⟩
        case round =>
          obtain ⟨k, hk, rfl, HK, HB⟩ := hrel
          obtain ⟨x0, x9⟩ := HC.out wr HB.out
          by_cases hkn : k < n
          · have hli2 : (k : Int) < (n : Int) := by omega
            have hli3 : decide (k < n) = true := by simp [hkn]
            have hk0 : (0 : Int) ≤ (k : Int) := by omega
            obtain ⟨g, o2, y, rfl, hgy, hcy⟩ := Els.at (HMX.out wr HB.out) (j := k) (by have := HN.out; omega)
            obtain ⟨g', hg'⟩ := HAT.out _ rfl
            cases hg'
            have y0 := hcy 0 _ rfl
            simp only [Nat.add_zero, Nat.zero_add] at y0
            have HY : Hid (m[k]? = some y) := hgy
            obtain ⟨y1, y2, y3, y4⟩ := y
            clear hgy hcy
            by_cases hq : y1 ≤ x1
            · have HK2 : Hid (k + 1 ≤ Cl.lead ⟨x1, x2, x3, x4⟩ m) := clead_step HK.out HY.out hq
              have hqd : decide (y1 ≤ x1) = true := decide_eq_true hq
              go_wp2_with fail
              go_quiet (fail)
              have HF3 : Hid (Below w2.heap.size w2 (wr.drewN nq)) := below_drewN HB.out nq
              go_wp2
              go_roundw
              case rel => exact ⟨k + 1, by omega, by go_num, HK2, HF3⟩
              case measure => simp [intOf]; omega
            · have HKL : Hid (Cl.lead ⟨x1, x2, x3, x4⟩ m = k) := clead_stop HK.out HY.out hq
              have hqd : decide (y1 ≤ x1) = false := decide_eq_false hq
              go_wp2_with fail
              go_quiet (fail)
              have HWq : Hid (Below w2.heap.size w2 (wr.drewN nq)) := below_drewN HB.out nq
              generalize wr.drewN nq = wq at HWq ⊢
              clear x0 x9 y0 HB HK hq hqd
              obtain ⟨a7, ha7⟩ : ∃ a7 : Addr, (if c = k then (some ⟨g, 0, none⟩ : Option Addr) else some ⟨g, k * 2, none⟩) = some a7 := by split <;> exact ⟨_, rfl⟩
              have HREST : Hid (∀ W, Below wq.heap.size wq W → Els Cm.cells 2 W (some a7) (m.drop k)) := fun W hW => by
                have h1 := HN.out
                have h2 := HNC.out
                by_cases hlast : n = k
                · rw [List.drop_of_length_le (by omega)]
                  exact Els.nil _ _
                · rw [if_neg (by omega)] at ha7
                  obtain rfl := Option.some.inj ha7
                  have := Els.drop (HMX.out W (HWq.out.trans (hW.mono HWq.out.size))) k
                  simpa using this
              have E7 : Hid ((if c = k then (some ⟨g, 0, none⟩ : Option Addr) else some ⟨g, k * 2, none⟩) = some a7) := ha7
              have hnc := HNC.out
              have e1 : (k : Int) ≤ (n : Int) := by omega
              have e2 : (k : Int) ≤ (c : Int) := by omega
              have e5 : (0 : Int) ≤ (k : Int) := by omega
              clear ha7
              go_wp2_with fail
              have HS : Hid (∀ w', Below wq.heap.size wq w' → w'.cell? ⟨b, o + j * 2, none⟩ = some (.int .i64 x1) ∧ w'.cell? ⟨b, o + j * 2 + 1, none⟩ = some (.slice x2 x3 x4)) := fun w' hW => HC.out w' (HWq.out.trans (hW.mono HWq.out.size))
              have HA1 : Hid _ := app_oneL cmknd Try.underlying24 cminfo rfl (w0 := wq) (l := []) (l2 := m.take k) (p := (some ⟨g, 0, none⟩)) (m := k) (c := c) (by rw [List.length_take]; have := HN.out; omega) (fun W' hW' => (HMX.out W' (HWq.out.trans (hW'.mono HWq.out.size))).take k) (fun h => by cases h) (by unfold maxLen; first | (simp; done) | (simp; omega)) (by first | (simp; done) | (simp; omega))
              have HA2 : Hid _ := app_entryL cmknd Try.underlying24 cminfo rfl (w0 := wq) (l := [] ++ m.take k) (y := (⟨x1, x2, x3, x4⟩ : Cm)) (by unfold maxLen; have := HN.out; first | (simp; done) | (simp; omega)) (by have := HN.out; first | (simp; done) | (simp; omega))
              have HA3 : Hid _ := app_oneL cmknd Try.underlying24 cminfo rfl (w0 := wq) (l := [] ++ m.take k ++ [(⟨x1, x2, x3, x4⟩ : Cm)]) (l2 := m.drop k) (p := (some a7)) (m := (n - k)) (c := (c - k)) (by rw [List.length_drop, HN.out] <;> omega) (fun W' hW' => HREST.out W' hW') (fun h => by cases h) (by unfold maxLen; have := HN.out; first | (simp; done) | (simp; omega)) (by have := HN.out; first | (simp; done) | (simp; omega))
              have hS := HS.out wq.drew (Below.refl _ _).drew
              have hbD : Below wq.heap.size wq wq.drew := (Below.refl _ _).drew
              refine wp_region_mid (S := (fun w' => w'.cell? ⟨b, o + j * 2, none⟩ = some (.int .i64 x1) ∧ w'.cell? ⟨b, o + j * 2 + 1, none⟩ = some (.slice x2 x3 x4))) 15 (by kernel_rfl) ?_
              refine wpAnyM_take (i := 0) [] (oi := { dst := some 43, op := Op.move (Operand.tmp 8), type := 24, pos := _, after := #[], guard := none }) (v := .slice none 0 0) rfl (by kernel_rfl) (by kernel_rfl) (by kernel_rfl) (by kernel_rfl) (fun _ _ _ h => h) (Or.inl ⟨by rfl, ?_⟩) hS ?_
              · (intro w' hSw; obtain ⟨m0, m1⟩ := hSw; go_simp; try with_reducible rfl)
              try simp only [Act.put, List.setIfInBounds_toArray, List.set_cons_zero, List.set_cons_succ]
              refine wpAnyM_take (i := 1) [] (oi := { dst := some 44, op := Op.move (Operand.tmp 5), type := 24, pos := _, after := #[], guard := none }) (v := .slice (some ⟨g, 0, none⟩) n c) rfl (by kernel_rfl) (by kernel_rfl) (by kernel_rfl) (by kernel_rfl) (fun _ _ _ h => h) (Or.inl ⟨by rfl, ?_⟩) hS ?_
              · (intro w' hSw; obtain ⟨m0, m1⟩ := hSw; go_simp; try with_reducible rfl)
              try simp only [Act.put, List.setIfInBounds_toArray, List.set_cons_zero, List.set_cons_succ]
              refine wpAnyM_take (i := 2) [] (oi := { dst := some 45, op := Op.move (Operand.tmp 7), type := 3, pos := _, after := #[], guard := none }) (v := .int .i64 (k : Int)) rfl (by kernel_rfl) (by kernel_rfl) (by kernel_rfl) (by kernel_rfl) (fun _ _ _ h => h) (Or.inl ⟨by rfl, ?_⟩) hS ?_
              · (intro w' hSw; obtain ⟨m0, m1⟩ := hSw; go_simp; try with_reducible rfl)
              try simp only [Act.put, List.setIfInBounds_toArray, List.set_cons_zero, List.set_cons_succ]
              refine wpAnyM_take (i := 3) [] (oi := { dst := some 46, op := Op.slice 24 (Operand.tmp 44) none (some (Operand.tmp 45)) none, type := 24, pos := _, after := #[{ on := 1, ground := Ground.data }, { on := 2, ground := Ground.data }], guard := none }) (v := .slice (some ⟨g, 0, none⟩) k c) rfl (by kernel_rfl) (by kernel_rfl) (by kernel_rfl) (by kernel_rfl) (fun _ _ _ h => h) (Or.inl ⟨by rfl, ?_⟩) hS ?_
              · (intro w' hSw; obtain ⟨m0, m1⟩ := hSw; go_simp; try with_reducible rfl)
              try simp only [Act.put, List.setIfInBounds_toArray, List.set_cons_zero, List.set_cons_succ]
              refine wpAnyM_take (i := 5) [] (oi := { dst := some 48, op := Op.move (Operand.tmp 0), type := 24, pos := _, after := #[], guard := none }) (v := .slice (some ⟨b, o, none⟩) len cap) rfl (by kernel_rfl) (by kernel_rfl) (by kernel_rfl) (by kernel_rfl) (fun _ _ _ h => h) (Or.inl ⟨by rfl, ?_⟩) hS ?_
              · (intro w' hSw; obtain ⟨m0, m1⟩ := hSw; go_simp; try with_reducible rfl)
              try simp only [Act.put, List.setIfInBounds_toArray, List.set_cons_zero, List.set_cons_succ]
              refine wpAnyM_take (i := 6) [] (oi := { dst := some 49, op := Op.move (Operand.tmp 6), type := 3, pos := _, after := #[], guard := none }) (v := .int .i64 (j : Int)) rfl (by kernel_rfl) (by kernel_rfl) (by kernel_rfl) (by kernel_rfl) (fun _ _ _ h => h) (Or.inl ⟨by rfl, ?_⟩) hS ?_
              · (intro w' hSw; obtain ⟨m0, m1⟩ := hSw; go_simp; try with_reducible rfl)
              try simp only [Act.put, List.setIfInBounds_toArray, List.set_cons_zero, List.set_cons_succ]
              refine wpAnyM_take (i := 7) [] (oi := { dst := some 50, op := Op.indexAddr 24 (Operand.tmp 48) (Operand.tmp 49), type := 0, pos := _, after := #[{ on := 5, ground := Ground.data }, { on := 6, ground := Ground.data }], guard := none }) (v := .pointer (some ⟨b, o + j * 2, none⟩)) rfl (by kernel_rfl) (by kernel_rfl) (by kernel_rfl) (by kernel_rfl) (fun _ _ _ h => h) (Or.inl ⟨by rfl, ?_⟩) hS ?_
              · (intro w' hSw; obtain ⟨m0, m1⟩ := hSw; go_simp; try with_reducible rfl)
              try simp only [Act.put, List.setIfInBounds_toArray, List.set_cons_zero, List.set_cons_succ]
              refine wpAnyM_take (i := 8) [] (oi := { dst := some 51, op := Op.load 42 (Operand.tmp 50), type := 42, pos := _, after := #[{ on := 7, ground := Ground.data }], guard := none }) (v := .agg #[.int .i64 x1, .slice x2 x3 x4]) rfl (by kernel_rfl) (by kernel_rfl) (by kernel_rfl) (by kernel_rfl) (fun _ _ _ h => h) (Or.inl ⟨by rfl, ?_⟩) hS ?_
              · (intro w' hSw; obtain ⟨m0, m1⟩ := hSw; go_simp; try with_reducible rfl)
              try simp only [Act.put, List.setIfInBounds_toArray, List.set_cons_zero, List.set_cons_succ]
              refine wpAnyM_take (i := 11) [] (oi := { dst := some 54, op := Op.move (Operand.tmp 5), type := 24, pos := _, after := #[], guard := none }) (v := .slice (some ⟨g, 0, none⟩) n c) rfl (by kernel_rfl) (by kernel_rfl) (by kernel_rfl) (by kernel_rfl) (fun _ _ _ h => h) (Or.inl ⟨by rfl, ?_⟩) hS ?_
              · (intro w' hSw; obtain ⟨m0, m1⟩ := hSw; go_simp; try with_reducible rfl)
              try simp only [Act.put, List.setIfInBounds_toArray, List.set_cons_zero, List.set_cons_succ]
              refine wpAnyM_take (i := 12) [] (oi := { dst := some 55, op := Op.move (Operand.tmp 7), type := 3, pos := _, after := #[], guard := none }) (v := .int .i64 (k : Int)) rfl (by kernel_rfl) (by kernel_rfl) (by kernel_rfl) (by kernel_rfl) (fun _ _ _ h => h) (Or.inl ⟨by rfl, ?_⟩) hS ?_
              · (intro w' hSw; obtain ⟨m0, m1⟩ := hSw; go_simp; try with_reducible rfl)
              try simp only [Act.put, List.setIfInBounds_toArray, List.set_cons_zero, List.set_cons_succ]
              refine wpAnyM_take (i := 13) [] (oi := { dst := some 56, op := Op.slice 24 (Operand.tmp 54) (some (Operand.tmp 55)) none none, type := 24, pos := _, after := #[{ on := 11, ground := Ground.data }, { on := 12, ground := Ground.data }], guard := none }) (v := .slice (some a7) (n - k) (c - k)) rfl (by kernel_rfl) (by kernel_rfl) (by kernel_rfl) (by kernel_rfl) (fun _ _ _ h => h) (Or.inl ⟨by rfl, ?_⟩) hS ?_
              · (intro w' hSw; obtain ⟨m0, m1⟩ := hSw; go_simp; exact E7.out)
              try simp only [Act.put, List.setIfInBounds_toArray, List.set_cons_zero, List.set_cons_succ]
              refine wpAnyM_ready (rs := [4, 9]) (by kernel_rfl) (by simp) ?_
              refine AllReadyM.cons (o := { dst := some 47, op := Op.call { callee := Callee.builtin Builtin.append, args := #[Operand.tmp 43, Operand.tmp 46], argTypes := #[24, 24] }, type := 24, pos := _, after := #[{ on := 0, ground := Ground.data }, { on := 3, ground := Ground.data }], guard := none }) rfl (fun K hK => ?_) (AllReadyM.cons (o := { dst := some 52, op := Op.buildSlice 24 1 #[(0, Operand.tmp 51)], type := 24, pos := _, after := #[{ on := 8, ground := Ground.data }], guard := none }) rfl (fun K hK => ?_) AllReadyM.nil)
              · have HK9' : Hid (∀ a w, _ → K a w) := hK
                clear hK
                obtain ⟨v1, w6, hr1, ho1, hb6, -⟩ := HA1.out _ (.slice none 0 0) hbD (Own.nil _ _ _)
                refine step_appL rfl _ _ _ rfl _ _ rfl rfl hr1 ?_
                refine HK9'.out _ _ ⟨fun _ => HS.out _ hb6, ?_⟩
                clear HK9' K
                try simp only [Act.put, List.setIfInBounds_toArray, List.set_cons_zero, List.set_cons_succ]
                refine wpAnyM_ready (rs := [9]) (by kernel_rfl) (by simp) ?_
                refine AllReadyM.cons (o := { dst := some 52, op := Op.buildSlice 24 1 #[(0, Operand.tmp 51)], type := 24, pos := _, after := #[{ on := 8, ground := Ground.data }], guard := none }) rfl (fun K hK => ?_) AllReadyM.nil
                have HK9 : Hid (∀ a w, _ → K a w) := hK
                clear hK
                go_simp
                have hb6' : Below wq.heap.size wq (w6.alloc (.cells #[.int .i64 x1, .slice x2 x3 x4] 42)) := hb6.alloc hb6.size _
                refine HK9.out _ _ ⟨fun _ => HS.out _ hb6', ?_⟩
                clear HK9 K
                try simp only [Act.put, List.setIfInBounds_toArray, List.set_cons_zero, List.set_cons_succ]
                have ho1' := ho1.below ((Below.refl _ w6).alloc (Nat.le_refl _) (.cells #[.int .i64 x1, .slice x2 x3 x4] 42)) (Nat.le_refl _)
                refine wpAnyM_ready (rs := [10]) (by kernel_rfl) (by simp) ?_
                refine AllReadyM.cons (o := { dst := some 53, op := Op.call { callee := Callee.builtin Builtin.append, args := #[Operand.tmp 47, Operand.tmp 52], argTypes := #[24, 24] }, type := 24, pos := _, after := #[{ on := 4, ground := Ground.data }, { on := 9, ground := Ground.data }, { on := 4, ground := Ground.chain }], guard := none }) rfl (fun K hK => ?_) AllReadyM.nil
                have HK9 : Hid (∀ a w, _ → K a w) := hK
                clear hK
                obtain ⟨v2, w7, hr2, ho2, hb7⟩ := HA2.out _ v1 w6.heap.size hb6' ho1' (els_one cmknd w6 _ ⟨x1, x2, x3, x4⟩)
                refine step_appL rfl _ _ _ rfl _ _ rfl (by go_simp) hr2 ?_
                refine HK9.out _ _ ⟨fun _ => HS.out _ hb7, ?_⟩
                clear HK9 K
                try simp only [Act.put, List.setIfInBounds_toArray, List.set_cons_zero, List.set_cons_succ]
                refine wpAnyM_ready (rs := [14]) (by kernel_rfl) (by simp) ?_
                refine AllReadyM.cons (o := { dst := some 57, op := Op.call { callee := Callee.builtin Builtin.append, args := #[Operand.tmp 53, Operand.tmp 56], argTypes := #[24, 24] }, type := 24, pos := _, after := #[{ on := 10, ground := Ground.data }, { on := 13, ground := Ground.data }, { on := 10, ground := Ground.chain }], guard := none }) rfl (fun K hK => ?_) AllReadyM.nil
                have HK9 : Hid (∀ a w, _ → K a w) := hK
                clear hK
                obtain ⟨v3, w8, hr3, ho3, hb8, -⟩ := HA3.out _ v2 hb7 ho2
                refine step_appL rfl _ _ _ rfl _ _ rfl rfl hr3 ?_
                refine HK9.out _ _ ⟨fun _ => HS.out _ hb8, ?_⟩
                clear HK9 K
                try simp only [Act.put, List.setIfInBounds_toArray, List.set_cons_zero, List.set_cons_succ]
                refine wpAnyM_ready (rs := [15]) (by kernel_rfl) (by simp) ?_
                refine AllReadyM.cons (o := { dst := some 5, op := Op.assign (Operand.tmp 57), type := 24, pos := _, after := #[{ on := 14, ground := Ground.data }, { on := 14, ground := Ground.chain }, { on := 0, ground := Ground.phase }, { on := 1, ground := Ground.phase }, { on := 2, ground := Ground.phase }, { on := 3, ground := Ground.phase }, { on := 4, ground := Ground.phase }, { on := 5, ground := Ground.phase }, { on := 6, ground := Ground.phase }, { on := 7, ground := Ground.phase }, { on := 8, ground := Ground.phase }, { on := 9, ground := Ground.phase }, { on := 10, ground := Ground.phase }, { on := 11, ground := Ground.phase }, { on := 12, ground := Ground.phase }, { on := 13, ground := Ground.phase }, { on := 14, ground := Ground.phase }], guard := none }) rfl (fun K hK => ?_) AllReadyM.nil
                have HK9 : Hid (∀ a w, _ → K a w) := hK
                clear hK
                go_simp
                refine HK9.out _ _ ⟨fun h => absurd h (by omega), ?_⟩
                clear HK9 K
                try simp only [Act.put, List.setIfInBounds_toArray, List.set_cons_zero, List.set_cons_succ]
                refine wpAnyM_done (by kernel_rfl) ?_ _
                have e9 : [] ++ m.take k ++ [(⟨x1, x2, x3, x4⟩ : Cm)] ++ m.drop k = Cl.ins m ⟨x1, x2, x3, x4⟩ := by
                  unfold Cl.ins
                  rw [HKL.out]
                  simp
                rw [e9] at ho3
                obtain ⟨q9, c9, hv9, -, -, -⟩ := ho3.els cmknd
                have hins := Cl.ins_is HSA.out.1 HSA.out.2 ⟨x1, x2, x3, x4⟩
                rw [← HK1.out] at hins
                have hlen := congrArg List.length e9
                obtain ⟨n9, hn9⟩ : ∃ n9, (Cl.ins m ⟨x1, x2, x3, x4⟩).length = n9 := ⟨_, rfl⟩
                rw [hn9] at hv9 hlen
                have HNB : Hid (n9 ≤ j + 1) := by
                  have h1 := HN.out
                  unfold Hid
                  simp only [List.length_append, List.length_take, List.length_drop, List.length_cons, List.length_nil] at hlen
                  omega
                subst hv9
                have HM10 : Hid (OwnC w8 w.heap.size (.slice q9 n9 c9) (Cl.ins m ⟨x1, x2, x3, x4⟩) ∧ (Cl.ins m ⟨x1, x2, x3, x4⟩).length = n9 ∧ Sam Cm.ts (keepC ts (l.take (j + 1))) (Cl.ins m ⟨x1, x2, x3, x4⟩) ∧ Asc Cm.ts (Cl.ins m ⟨x1, x2, x3, x4⟩)) := ⟨ho3.mono (Nat.le_trans HW.out.size HWq.out.size), hn9, hins.1, hins.2⟩
                have HW10 : Hid (Below w.heap.size w w8) := HW.out.trans ((HWq.out.trans (hb8.mono HWq.out.size)).mono HW.out.size)
                clear ho3 hb8 hS hins hlen hn9 e9
                go_wp2
                go_roundw
                case rel => exact ⟨j + 1, _, q9, n9, c9, by omega, by go_num, rfl, HNB.out, HM10, HW10⟩
                case measure => simp [intOf]; omega
              · have HK9' : Hid (∀ a w, _ → K a w) := hK
                clear hK
                go_simp
                have hbE : Below wq.heap.size wq (wq.drew.alloc (.cells #[.int .i64 x1, .slice x2 x3 x4] 42)) := hbD.alloc (Nat.le_refl _) _
                refine HK9'.out _ _ ⟨fun _ => HS.out _ hbE, ?_⟩
                clear HK9' K
                try simp only [Act.put, List.setIfInBounds_toArray, List.set_cons_zero, List.set_cons_succ]
                refine wpAnyM_ready (rs := [4]) (by kernel_rfl) (by simp) ?_
                refine AllReadyM.cons (o := { dst := some 47, op := Op.call { callee := Callee.builtin Builtin.append, args := #[Operand.tmp 43, Operand.tmp 46], argTypes := #[24, 24] }, type := 24, pos := _, after := #[{ on := 0, ground := Ground.data }, { on := 3, ground := Ground.data }], guard := none }) rfl (fun K hK => ?_) AllReadyM.nil
                have HK9 : Hid (∀ a w, _ → K a w) := hK
                clear hK
                obtain ⟨v1, w6, hr1, ho1, hb6, hb6E⟩ := HA1.out _ (.slice none 0 0) hbE (Own.nil _ _ _)
                refine step_appL rfl _ _ _ rfl _ _ rfl rfl hr1 ?_
                refine HK9.out _ _ ⟨fun _ => HS.out _ hb6, ?_⟩
                clear HK9 K
                try simp only [Act.put, List.setIfInBounds_toArray, List.set_cons_zero, List.set_cons_succ]
                have hent : Els Cm.cells 2 w6 (some ⟨wq.heap.size, 0, none⟩) [⟨x1, x2, x3, x4⟩] := Els.below (els_one cmknd wq.drew _ ⟨x1, x2, x3, x4⟩) (hb6E rfl) (Nat.le_refl _)
                refine wpAnyM_ready (rs := [10]) (by kernel_rfl) (by simp) ?_
                refine AllReadyM.cons (o := { dst := some 53, op := Op.call { callee := Callee.builtin Builtin.append, args := #[Operand.tmp 47, Operand.tmp 52], argTypes := #[24, 24] }, type := 24, pos := _, after := #[{ on := 4, ground := Ground.data }, { on := 9, ground := Ground.data }, { on := 4, ground := Ground.chain }], guard := none }) rfl (fun K hK => ?_) AllReadyM.nil
                have HK9 : Hid (∀ a w, _ → K a w) := hK
                clear hK
                obtain ⟨v2, w7, hr2, ho2, hb7⟩ := HA2.out _ v1 wq.heap.size hb6 ho1 hent
                refine step_appL rfl _ _ _ rfl _ _ rfl (by go_simp) hr2 ?_
                refine HK9.out _ _ ⟨fun _ => HS.out _ hb7, ?_⟩
                clear HK9 K
                try simp only [Act.put, List.setIfInBounds_toArray, List.set_cons_zero, List.set_cons_succ]
                refine wpAnyM_ready (rs := [14]) (by kernel_rfl) (by simp) ?_
                refine AllReadyM.cons (o := { dst := some 57, op := Op.call { callee := Callee.builtin Builtin.append, args := #[Operand.tmp 53, Operand.tmp 56], argTypes := #[24, 24] }, type := 24, pos := _, after := #[{ on := 10, ground := Ground.data }, { on := 13, ground := Ground.data }, { on := 10, ground := Ground.chain }], guard := none }) rfl (fun K hK => ?_) AllReadyM.nil
                have HK9 : Hid (∀ a w, _ → K a w) := hK
                clear hK
                obtain ⟨v3, w8, hr3, ho3, hb8, -⟩ := HA3.out _ v2 hb7 ho2
                refine step_appL rfl _ _ _ rfl _ _ rfl rfl hr3 ?_
                refine HK9.out _ _ ⟨fun _ => HS.out _ hb8, ?_⟩
                clear HK9 K
                try simp only [Act.put, List.setIfInBounds_toArray, List.set_cons_zero, List.set_cons_succ]
                refine wpAnyM_ready (rs := [15]) (by kernel_rfl) (by simp) ?_
                refine AllReadyM.cons (o := { dst := some 5, op := Op.assign (Operand.tmp 57), type := 24, pos := _, after := #[{ on := 14, ground := Ground.data }, { on := 14, ground := Ground.chain }, { on := 0, ground := Ground.phase }, { on := 1, ground := Ground.phase }, { on := 2, ground := Ground.phase }, { on := 3, ground := Ground.phase }, { on := 4, ground := Ground.phase }, { on := 5, ground := Ground.phase }, { on := 6, ground := Ground.phase }, { on := 7, ground := Ground.phase }, { on := 8, ground := Ground.phase }, { on := 9, ground := Ground.phase }, { on := 10, ground := Ground.phase }, { on := 11, ground := Ground.phase }, { on := 12, ground := Ground.phase }, { on := 13, ground := Ground.phase }, { on := 14, ground := Ground.phase }], guard := none }) rfl (fun K hK => ?_) AllReadyM.nil
                have HK9 : Hid (∀ a w, _ → K a w) := hK
                clear hK
                go_simp
                refine HK9.out _ _ ⟨fun h => absurd h (by omega), ?_⟩
                clear HK9 K
                try simp only [Act.put, List.setIfInBounds_toArray, List.set_cons_zero, List.set_cons_succ]
                refine wpAnyM_done (by kernel_rfl) ?_ _
                have e9 : [] ++ m.take k ++ [(⟨x1, x2, x3, x4⟩ : Cm)] ++ m.drop k = Cl.ins m ⟨x1, x2, x3, x4⟩ := by
                  unfold Cl.ins
                  rw [HKL.out]
                  simp
                rw [e9] at ho3
                obtain ⟨q9, c9, hv9, -, -, -⟩ := ho3.els cmknd
                have hins := Cl.ins_is HSA.out.1 HSA.out.2 ⟨x1, x2, x3, x4⟩
                rw [← HK1.out] at hins
                have hlen := congrArg List.length e9
                obtain ⟨n9, hn9⟩ : ∃ n9, (Cl.ins m ⟨x1, x2, x3, x4⟩).length = n9 := ⟨_, rfl⟩
                rw [hn9] at hv9 hlen
                have HNB : Hid (n9 ≤ j + 1) := by
                  have h1 := HN.out
                  unfold Hid
                  simp only [List.length_append, List.length_take, List.length_drop, List.length_cons, List.length_nil] at hlen
                  omega
                subst hv9
                have HM10 : Hid (OwnC w8 w.heap.size (.slice q9 n9 c9) (Cl.ins m ⟨x1, x2, x3, x4⟩) ∧ (Cl.ins m ⟨x1, x2, x3, x4⟩).length = n9 ∧ Sam Cm.ts (keepC ts (l.take (j + 1))) (Cl.ins m ⟨x1, x2, x3, x4⟩) ∧ Asc Cm.ts (Cl.ins m ⟨x1, x2, x3, x4⟩)) := ⟨ho3.mono (Nat.le_trans HW.out.size HWq.out.size), hn9, hins.1, hins.2⟩
                have HW10 : Hid (Below w.heap.size w w8) := HW.out.trans ((HWq.out.trans (hb8.mono HWq.out.size)).mono HW.out.size)
                clear ho3 hb8 hS hins hlen hn9 e9
                go_wp2
                go_roundw
                case rel => exact ⟨j + 1, _, q9, n9, c9, by omega, by go_num, rfl, HNB.out, HM10, HW10⟩
                case measure => simp [intOf]; omega
          · have hli2 : ¬ (k : Int) < (n : Int) := by omega
            have hli3 : decide (k < n) = false := by simp [hkn]
            obtain rfl : k = n := by omega
            have HKL : Hid (Cl.lead ⟨x1, x2, x3, x4⟩ m = k) := by
              have h1 := HK.out
              have h2 := HN.out
              unfold Hid
              rw [← h2]
              exact clead_end (by omega)
            go_wp2_with fail
            go_quiet (fail)
            have HWq : Hid (Below w2.heap.size w2 (wr.drewN nq)) := below_drewN HB.out nq
            generalize wr.drewN nq = wq at HWq ⊢
            clear x0 x9 HB HK
            cases q with
            | none =>
              obtain ⟨rfl, rfl⟩ := HNIL.out rfl
              have HREST : Hid (∀ W, Below wq.heap.size wq W → Els Cm.cells 2 W none (m.drop 0)) := fun W hW => HMX.out W (HWq.out.trans (hW.mono HWq.out.size))
              go_wp2_with fail
              have HS : Hid (∀ w', Below wq.heap.size wq w' → w'.cell? ⟨b, o + j * 2, none⟩ = some (.int .i64 x1) ∧ w'.cell? ⟨b, o + j * 2 + 1, none⟩ = some (.slice x2 x3 x4)) := fun w' hW => HC.out w' (HWq.out.trans (hW.mono HWq.out.size))
              have HA1 : Hid _ := app_oneL cmknd Try.underlying24 cminfo rfl (w0 := wq) (l := []) (l2 := m.take 0) (p := none) (m := 0) (c := 0) (by rw [List.length_take]; have := HN.out; omega) (fun W' hW' => (HMX.out W' (HWq.out.trans (hW'.mono HWq.out.size))).take 0) (fun h => ⟨rfl, rfl⟩) (by unfold maxLen; first | (simp; done) | (simp; omega)) (by first | (simp; done) | (simp; omega))
              have HA2 : Hid _ := app_entryL cmknd Try.underlying24 cminfo rfl (w0 := wq) (l := [] ++ m.take 0) (y := (⟨x1, x2, x3, x4⟩ : Cm)) (by unfold maxLen; have := HN.out; first | (simp; done) | (simp; omega)) (by have := HN.out; first | (simp; done) | (simp; omega))
              have HA3 : Hid _ := app_oneL cmknd Try.underlying24 cminfo rfl (w0 := wq) (l := [] ++ m.take 0 ++ [(⟨x1, x2, x3, x4⟩ : Cm)]) (l2 := m.drop 0) (p := none) (m := 0) (c := 0) (by rw [List.length_drop, HN.out] <;> omega) (fun W' hW' => HREST.out W' hW') (fun h => ⟨rfl, rfl⟩) (by unfold maxLen; have := HN.out; first | (simp; done) | (simp; omega)) (by have := HN.out; first | (simp; done) | (simp; omega))
              have hS := HS.out wq.drew (Below.refl _ _).drew
              have hbD : Below wq.heap.size wq wq.drew := (Below.refl _ _).drew
              refine wp_region_mid (S := (fun w' => w'.cell? ⟨b, o + j * 2, none⟩ = some (.int .i64 x1) ∧ w'.cell? ⟨b, o + j * 2 + 1, none⟩ = some (.slice x2 x3 x4))) 15 (by kernel_rfl) ?_
              refine wpAnyM_take (i := 0) [] (oi := { dst := some 43, op := Op.move (Operand.tmp 8), type := 24, pos := _, after := #[], guard := none }) (v := .slice none 0 0) rfl (by kernel_rfl) (by kernel_rfl) (by kernel_rfl) (by kernel_rfl) (fun _ _ _ h => h) (Or.inl ⟨by rfl, ?_⟩) hS ?_
              · (intro w' hSw; obtain ⟨m0, m1⟩ := hSw; go_simp; try with_reducible rfl)
              try simp only [Act.put, List.setIfInBounds_toArray, List.set_cons_zero, List.set_cons_succ]
              refine wpAnyM_take (i := 1) [] (oi := { dst := some 44, op := Op.move (Operand.tmp 5), type := 24, pos := _, after := #[], guard := none }) (v := .slice none 0 0) rfl (by kernel_rfl) (by kernel_rfl) (by kernel_rfl) (by kernel_rfl) (fun _ _ _ h => h) (Or.inl ⟨by rfl, ?_⟩) hS ?_
              · (intro w' hSw; obtain ⟨m0, m1⟩ := hSw; go_simp; try with_reducible rfl)
              try simp only [Act.put, List.setIfInBounds_toArray, List.set_cons_zero, List.set_cons_succ]
              refine wpAnyM_take (i := 2) [] (oi := { dst := some 45, op := Op.move (Operand.tmp 7), type := 3, pos := _, after := #[], guard := none }) (v := .int .i64 (0 : Int)) rfl (by kernel_rfl) (by kernel_rfl) (by kernel_rfl) (by kernel_rfl) (fun _ _ _ h => h) (Or.inl ⟨by rfl, ?_⟩) hS ?_
              · (intro w' hSw; obtain ⟨m0, m1⟩ := hSw; go_simp; try with_reducible rfl)
              try simp only [Act.put, List.setIfInBounds_toArray, List.set_cons_zero, List.set_cons_succ]
              refine wpAnyM_take (i := 3) [] (oi := { dst := some 46, op := Op.slice 24 (Operand.tmp 44) none (some (Operand.tmp 45)) none, type := 24, pos := _, after := #[{ on := 1, ground := Ground.data }, { on := 2, ground := Ground.data }], guard := none }) (v := .slice none 0 0) rfl (by kernel_rfl) (by kernel_rfl) (by kernel_rfl) (by kernel_rfl) (fun _ _ _ h => h) (Or.inl ⟨by rfl, ?_⟩) hS ?_
              · (intro w' hSw; obtain ⟨m0, m1⟩ := hSw; go_simp; try with_reducible rfl)
              try simp only [Act.put, List.setIfInBounds_toArray, List.set_cons_zero, List.set_cons_succ]
              refine wpAnyM_take (i := 5) [] (oi := { dst := some 48, op := Op.move (Operand.tmp 0), type := 24, pos := _, after := #[], guard := none }) (v := .slice (some ⟨b, o, none⟩) len cap) rfl (by kernel_rfl) (by kernel_rfl) (by kernel_rfl) (by kernel_rfl) (fun _ _ _ h => h) (Or.inl ⟨by rfl, ?_⟩) hS ?_
              · (intro w' hSw; obtain ⟨m0, m1⟩ := hSw; go_simp; try with_reducible rfl)
              try simp only [Act.put, List.setIfInBounds_toArray, List.set_cons_zero, List.set_cons_succ]
              refine wpAnyM_take (i := 6) [] (oi := { dst := some 49, op := Op.move (Operand.tmp 6), type := 3, pos := _, after := #[], guard := none }) (v := .int .i64 (j : Int)) rfl (by kernel_rfl) (by kernel_rfl) (by kernel_rfl) (by kernel_rfl) (fun _ _ _ h => h) (Or.inl ⟨by rfl, ?_⟩) hS ?_
              · (intro w' hSw; obtain ⟨m0, m1⟩ := hSw; go_simp; try with_reducible rfl)
              try simp only [Act.put, List.setIfInBounds_toArray, List.set_cons_zero, List.set_cons_succ]
              refine wpAnyM_take (i := 7) [] (oi := { dst := some 50, op := Op.indexAddr 24 (Operand.tmp 48) (Operand.tmp 49), type := 0, pos := _, after := #[{ on := 5, ground := Ground.data }, { on := 6, ground := Ground.data }], guard := none }) (v := .pointer (some ⟨b, o + j * 2, none⟩)) rfl (by kernel_rfl) (by kernel_rfl) (by kernel_rfl) (by kernel_rfl) (fun _ _ _ h => h) (Or.inl ⟨by rfl, ?_⟩) hS ?_
              · (intro w' hSw; obtain ⟨m0, m1⟩ := hSw; go_simp; try with_reducible rfl)
              try simp only [Act.put, List.setIfInBounds_toArray, List.set_cons_zero, List.set_cons_succ]
              refine wpAnyM_take (i := 8) [] (oi := { dst := some 51, op := Op.load 42 (Operand.tmp 50), type := 42, pos := _, after := #[{ on := 7, ground := Ground.data }], guard := none }) (v := .agg #[.int .i64 x1, .slice x2 x3 x4]) rfl (by kernel_rfl) (by kernel_rfl) (by kernel_rfl) (by kernel_rfl) (fun _ _ _ h => h) (Or.inl ⟨by rfl, ?_⟩) hS ?_
              · (intro w' hSw; obtain ⟨m0, m1⟩ := hSw; go_simp; try with_reducible rfl)
              try simp only [Act.put, List.setIfInBounds_toArray, List.set_cons_zero, List.set_cons_succ]
              refine wpAnyM_take (i := 11) [] (oi := { dst := some 54, op := Op.move (Operand.tmp 5), type := 24, pos := _, after := #[], guard := none }) (v := .slice none 0 0) rfl (by kernel_rfl) (by kernel_rfl) (by kernel_rfl) (by kernel_rfl) (fun _ _ _ h => h) (Or.inl ⟨by rfl, ?_⟩) hS ?_
              · (intro w' hSw; obtain ⟨m0, m1⟩ := hSw; go_simp; try with_reducible rfl)
              try simp only [Act.put, List.setIfInBounds_toArray, List.set_cons_zero, List.set_cons_succ]
              refine wpAnyM_take (i := 12) [] (oi := { dst := some 55, op := Op.move (Operand.tmp 7), type := 3, pos := _, after := #[], guard := none }) (v := .int .i64 (0 : Int)) rfl (by kernel_rfl) (by kernel_rfl) (by kernel_rfl) (by kernel_rfl) (fun _ _ _ h => h) (Or.inl ⟨by rfl, ?_⟩) hS ?_
              · (intro w' hSw; obtain ⟨m0, m1⟩ := hSw; go_simp; try with_reducible rfl)
              try simp only [Act.put, List.setIfInBounds_toArray, List.set_cons_zero, List.set_cons_succ]
              refine wpAnyM_take (i := 13) [] (oi := { dst := some 56, op := Op.slice 24 (Operand.tmp 54) (some (Operand.tmp 55)) none none, type := 24, pos := _, after := #[{ on := 11, ground := Ground.data }, { on := 12, ground := Ground.data }], guard := none }) (v := .slice none 0 0) rfl (by kernel_rfl) (by kernel_rfl) (by kernel_rfl) (by kernel_rfl) (fun _ _ _ h => h) (Or.inl ⟨by rfl, ?_⟩) hS ?_
              · (intro w' hSw; obtain ⟨m0, m1⟩ := hSw; go_simp; try with_reducible rfl)
              try simp only [Act.put, List.setIfInBounds_toArray, List.set_cons_zero, List.set_cons_succ]
              refine wpAnyM_ready (rs := [4, 9]) (by kernel_rfl) (by simp) ?_
              refine AllReadyM.cons (o := { dst := some 47, op := Op.call { callee := Callee.builtin Builtin.append, args := #[Operand.tmp 43, Operand.tmp 46], argTypes := #[24, 24] }, type := 24, pos := _, after := #[{ on := 0, ground := Ground.data }, { on := 3, ground := Ground.data }], guard := none }) rfl (fun K hK => ?_) (AllReadyM.cons (o := { dst := some 52, op := Op.buildSlice 24 1 #[(0, Operand.tmp 51)], type := 24, pos := _, after := #[{ on := 8, ground := Ground.data }], guard := none }) rfl (fun K hK => ?_) AllReadyM.nil)
              · have HK9' : Hid (∀ a w, _ → K a w) := hK
                clear hK
                obtain ⟨v1, w6, hr1, ho1, hb6, -⟩ := HA1.out _ (.slice none 0 0) hbD (Own.nil _ _ _)
                refine step_appL rfl _ _ _ rfl _ _ rfl rfl hr1 ?_
                refine HK9'.out _ _ ⟨fun _ => HS.out _ hb6, ?_⟩
                clear HK9' K
                try simp only [Act.put, List.setIfInBounds_toArray, List.set_cons_zero, List.set_cons_succ]
                refine wpAnyM_ready (rs := [9]) (by kernel_rfl) (by simp) ?_
                refine AllReadyM.cons (o := { dst := some 52, op := Op.buildSlice 24 1 #[(0, Operand.tmp 51)], type := 24, pos := _, after := #[{ on := 8, ground := Ground.data }], guard := none }) rfl (fun K hK => ?_) AllReadyM.nil
                have HK9 : Hid (∀ a w, _ → K a w) := hK
                clear hK
                go_simp
                have hb6' : Below wq.heap.size wq (w6.alloc (.cells #[.int .i64 x1, .slice x2 x3 x4] 42)) := hb6.alloc hb6.size _
                refine HK9.out _ _ ⟨fun _ => HS.out _ hb6', ?_⟩
                clear HK9 K
                try simp only [Act.put, List.setIfInBounds_toArray, List.set_cons_zero, List.set_cons_succ]
                have ho1' := ho1.below ((Below.refl _ w6).alloc (Nat.le_refl _) (.cells #[.int .i64 x1, .slice x2 x3 x4] 42)) (Nat.le_refl _)
                refine wpAnyM_ready (rs := [10]) (by kernel_rfl) (by simp) ?_
                refine AllReadyM.cons (o := { dst := some 53, op := Op.call { callee := Callee.builtin Builtin.append, args := #[Operand.tmp 47, Operand.tmp 52], argTypes := #[24, 24] }, type := 24, pos := _, after := #[{ on := 4, ground := Ground.data }, { on := 9, ground := Ground.data }, { on := 4, ground := Ground.chain }], guard := none }) rfl (fun K hK => ?_) AllReadyM.nil
                have HK9 : Hid (∀ a w, _ → K a w) := hK
                clear hK
                obtain ⟨v2, w7, hr2, ho2, hb7⟩ := HA2.out _ v1 w6.heap.size hb6' ho1' (els_one cmknd w6 _ ⟨x1, x2, x3, x4⟩)
                refine step_appL rfl _ _ _ rfl _ _ rfl (by go_simp) hr2 ?_
                refine HK9.out _ _ ⟨fun _ => HS.out _ hb7, ?_⟩
                clear HK9 K
                try simp only [Act.put, List.setIfInBounds_toArray, List.set_cons_zero, List.set_cons_succ]
                refine wpAnyM_ready (rs := [14]) (by kernel_rfl) (by simp) ?_
                refine AllReadyM.cons (o := { dst := some 57, op := Op.call { callee := Callee.builtin Builtin.append, args := #[Operand.tmp 53, Operand.tmp 56], argTypes := #[24, 24] }, type := 24, pos := _, after := #[{ on := 10, ground := Ground.data }, { on := 13, ground := Ground.data }, { on := 10, ground := Ground.chain }], guard := none }) rfl (fun K hK => ?_) AllReadyM.nil
                have HK9 : Hid (∀ a w, _ → K a w) := hK
                clear hK
                obtain ⟨v3, w8, hr3, ho3, hb8, -⟩ := HA3.out _ v2 hb7 ho2
                refine step_appL rfl _ _ _ rfl _ _ rfl rfl hr3 ?_
                refine HK9.out _ _ ⟨fun _ => HS.out _ hb8, ?_⟩
                clear HK9 K
                try simp only [Act.put, List.setIfInBounds_toArray, List.set_cons_zero, List.set_cons_succ]
                refine wpAnyM_ready (rs := [15]) (by kernel_rfl) (by simp) ?_
                refine AllReadyM.cons (o := { dst := some 5, op := Op.assign (Operand.tmp 57), type := 24, pos := _, after := #[{ on := 14, ground := Ground.data }, { on := 14, ground := Ground.chain }, { on := 0, ground := Ground.phase }, { on := 1, ground := Ground.phase }, { on := 2, ground := Ground.phase }, { on := 3, ground := Ground.phase }, { on := 4, ground := Ground.phase }, { on := 5, ground := Ground.phase }, { on := 6, ground := Ground.phase }, { on := 7, ground := Ground.phase }, { on := 8, ground := Ground.phase }, { on := 9, ground := Ground.phase }, { on := 10, ground := Ground.phase }, { on := 11, ground := Ground.phase }, { on := 12, ground := Ground.phase }, { on := 13, ground := Ground.phase }, { on := 14, ground := Ground.phase }], guard := none }) rfl (fun K hK => ?_) AllReadyM.nil
                have HK9 : Hid (∀ a w, _ → K a w) := hK
                clear hK
                go_simp
                refine HK9.out _ _ ⟨fun h => absurd h (by omega), ?_⟩
                clear HK9 K
                try simp only [Act.put, List.setIfInBounds_toArray, List.set_cons_zero, List.set_cons_succ]
                refine wpAnyM_done (by kernel_rfl) ?_ _
                have e9 : [] ++ m.take 0 ++ [(⟨x1, x2, x3, x4⟩ : Cm)] ++ m.drop 0 = Cl.ins m ⟨x1, x2, x3, x4⟩ := by
                  unfold Cl.ins
                  rw [HKL.out]
                  simp
                rw [e9] at ho3
                obtain ⟨q9, c9, hv9, -, -, -⟩ := ho3.els cmknd
                have hins := Cl.ins_is HSA.out.1 HSA.out.2 ⟨x1, x2, x3, x4⟩
                rw [← HK1.out] at hins
                have hlen := congrArg List.length e9
                obtain ⟨n9, hn9⟩ : ∃ n9, (Cl.ins m ⟨x1, x2, x3, x4⟩).length = n9 := ⟨_, rfl⟩
                rw [hn9] at hv9 hlen
                have HNB : Hid (n9 ≤ j + 1) := by
                  have h1 := HN.out
                  unfold Hid
                  simp only [List.length_append, List.length_take, List.length_drop, List.length_cons, List.length_nil] at hlen
                  omega
                subst hv9
                have HM10 : Hid (OwnC w8 w.heap.size (.slice q9 n9 c9) (Cl.ins m ⟨x1, x2, x3, x4⟩) ∧ (Cl.ins m ⟨x1, x2, x3, x4⟩).length = n9 ∧ Sam Cm.ts (keepC ts (l.take (j + 1))) (Cl.ins m ⟨x1, x2, x3, x4⟩) ∧ Asc Cm.ts (Cl.ins m ⟨x1, x2, x3, x4⟩)) := ⟨ho3.mono (Nat.le_trans HW.out.size HWq.out.size), hn9, hins.1, hins.2⟩
                have HW10 : Hid (Below w.heap.size w w8) := HW.out.trans ((HWq.out.trans (hb8.mono HWq.out.size)).mono HW.out.size)
                clear ho3 hb8 hS hins hlen hn9 e9
                go_wp2
                go_roundw
                case rel => exact ⟨j + 1, _, q9, n9, c9, by omega, by go_num, rfl, HNB.out, HM10, HW10⟩
                case measure => simp [intOf]; omega
              · have HK9' : Hid (∀ a w, _ → K a w) := hK
                clear hK
                go_simp
                have hbE : Below wq.heap.size wq (wq.drew.alloc (.cells #[.int .i64 x1, .slice x2 x3 x4] 42)) := hbD.alloc (Nat.le_refl _) _
                refine HK9'.out _ _ ⟨fun _ => HS.out _ hbE, ?_⟩
                clear HK9' K
                try simp only [Act.put, List.setIfInBounds_toArray, List.set_cons_zero, List.set_cons_succ]
                refine wpAnyM_ready (rs := [4]) (by kernel_rfl) (by simp) ?_
                refine AllReadyM.cons (o := { dst := some 47, op := Op.call { callee := Callee.builtin Builtin.append, args := #[Operand.tmp 43, Operand.tmp 46], argTypes := #[24, 24] }, type := 24, pos := _, after := #[{ on := 0, ground := Ground.data }, { on := 3, ground := Ground.data }], guard := none }) rfl (fun K hK => ?_) AllReadyM.nil
                have HK9 : Hid (∀ a w, _ → K a w) := hK
                clear hK
                obtain ⟨v1, w6, hr1, ho1, hb6, hb6E⟩ := HA1.out _ (.slice none 0 0) hbE (Own.nil _ _ _)
                refine step_appL rfl _ _ _ rfl _ _ rfl rfl hr1 ?_
                refine HK9.out _ _ ⟨fun _ => HS.out _ hb6, ?_⟩
                clear HK9 K
                try simp only [Act.put, List.setIfInBounds_toArray, List.set_cons_zero, List.set_cons_succ]
                have hent : Els Cm.cells 2 w6 (some ⟨wq.heap.size, 0, none⟩) [⟨x1, x2, x3, x4⟩] := Els.below (els_one cmknd wq.drew _ ⟨x1, x2, x3, x4⟩) (hb6E rfl) (Nat.le_refl _)
                refine wpAnyM_ready (rs := [10]) (by kernel_rfl) (by simp) ?_
                refine AllReadyM.cons (o := { dst := some 53, op := Op.call { callee := Callee.builtin Builtin.append, args := #[Operand.tmp 47, Operand.tmp 52], argTypes := #[24, 24] }, type := 24, pos := _, after := #[{ on := 4, ground := Ground.data }, { on := 9, ground := Ground.data }, { on := 4, ground := Ground.chain }], guard := none }) rfl (fun K hK => ?_) AllReadyM.nil
                have HK9 : Hid (∀ a w, _ → K a w) := hK
                clear hK
                obtain ⟨v2, w7, hr2, ho2, hb7⟩ := HA2.out _ v1 wq.heap.size hb6 ho1 hent
                refine step_appL rfl _ _ _ rfl _ _ rfl (by go_simp) hr2 ?_
                refine HK9.out _ _ ⟨fun _ => HS.out _ hb7, ?_⟩
                clear HK9 K
                try simp only [Act.put, List.setIfInBounds_toArray, List.set_cons_zero, List.set_cons_succ]
                refine wpAnyM_ready (rs := [14]) (by kernel_rfl) (by simp) ?_
                refine AllReadyM.cons (o := { dst := some 57, op := Op.call { callee := Callee.builtin Builtin.append, args := #[Operand.tmp 53, Operand.tmp 56], argTypes := #[24, 24] }, type := 24, pos := _, after := #[{ on := 10, ground := Ground.data }, { on := 13, ground := Ground.data }, { on := 10, ground := Ground.chain }], guard := none }) rfl (fun K hK => ?_) AllReadyM.nil
                have HK9 : Hid (∀ a w, _ → K a w) := hK
                clear hK
                obtain ⟨v3, w8, hr3, ho3, hb8, -⟩ := HA3.out _ v2 hb7 ho2
                refine step_appL rfl _ _ _ rfl _ _ rfl rfl hr3 ?_
                refine HK9.out _ _ ⟨fun _ => HS.out _ hb8, ?_⟩
                clear HK9 K
                try simp only [Act.put, List.setIfInBounds_toArray, List.set_cons_zero, List.set_cons_succ]
                refine wpAnyM_ready (rs := [15]) (by kernel_rfl) (by simp) ?_
                refine AllReadyM.cons (o := { dst := some 5, op := Op.assign (Operand.tmp 57), type := 24, pos := _, after := #[{ on := 14, ground := Ground.data }, { on := 14, ground := Ground.chain }, { on := 0, ground := Ground.phase }, { on := 1, ground := Ground.phase }, { on := 2, ground := Ground.phase }, { on := 3, ground := Ground.phase }, { on := 4, ground := Ground.phase }, { on := 5, ground := Ground.phase }, { on := 6, ground := Ground.phase }, { on := 7, ground := Ground.phase }, { on := 8, ground := Ground.phase }, { on := 9, ground := Ground.phase }, { on := 10, ground := Ground.phase }, { on := 11, ground := Ground.phase }, { on := 12, ground := Ground.phase }, { on := 13, ground := Ground.phase }, { on := 14, ground := Ground.phase }], guard := none }) rfl (fun K hK => ?_) AllReadyM.nil
                have HK9 : Hid (∀ a w, _ → K a w) := hK
                clear hK
                go_simp
                refine HK9.out _ _ ⟨fun h => absurd h (by omega), ?_⟩
                clear HK9 K
                try simp only [Act.put, List.setIfInBounds_toArray, List.set_cons_zero, List.set_cons_succ]
                refine wpAnyM_done (by kernel_rfl) ?_ _
                have e9 : [] ++ m.take 0 ++ [(⟨x1, x2, x3, x4⟩ : Cm)] ++ m.drop 0 = Cl.ins m ⟨x1, x2, x3, x4⟩ := by
                  unfold Cl.ins
                  rw [HKL.out]
                  simp
                rw [e9] at ho3
                obtain ⟨q9, c9, hv9, -, -, -⟩ := ho3.els cmknd
                have hins := Cl.ins_is HSA.out.1 HSA.out.2 ⟨x1, x2, x3, x4⟩
                rw [← HK1.out] at hins
                have hlen := congrArg List.length e9
                obtain ⟨n9, hn9⟩ : ∃ n9, (Cl.ins m ⟨x1, x2, x3, x4⟩).length = n9 := ⟨_, rfl⟩
                rw [hn9] at hv9 hlen
                have HNB : Hid (n9 ≤ j + 1) := by
                  have h1 := HN.out
                  unfold Hid
                  simp only [List.length_append, List.length_take, List.length_drop, List.length_cons, List.length_nil] at hlen
                  omega
                subst hv9
                have HM10 : Hid (OwnC w8 w.heap.size (.slice q9 n9 c9) (Cl.ins m ⟨x1, x2, x3, x4⟩) ∧ (Cl.ins m ⟨x1, x2, x3, x4⟩).length = n9 ∧ Sam Cm.ts (keepC ts (l.take (j + 1))) (Cl.ins m ⟨x1, x2, x3, x4⟩) ∧ Asc Cm.ts (Cl.ins m ⟨x1, x2, x3, x4⟩)) := ⟨ho3.mono (Nat.le_trans HW.out.size HWq.out.size), hn9, hins.1, hins.2⟩
                have HW10 : Hid (Below w.heap.size w w8) := HW.out.trans ((HWq.out.trans (hb8.mono HWq.out.size)).mono HW.out.size)
                clear ho3 hb8 hS hins hlen hn9 e9
                go_wp2
                go_roundw
                case rel => exact ⟨j + 1, _, q9, n9, c9, by omega, by go_num, rfl, HNB.out, HM10, HW10⟩
                case measure => simp [intOf]; omega
            | some ad =>
              obtain ⟨g, rfl⟩ := HAT.out _ rfl
              obtain ⟨a7, ha7⟩ : ∃ a7 : Addr, (if c = k then (some ⟨g, 0, none⟩ : Option Addr) else some ⟨g, k * 2, none⟩) = some a7 := by split <;> exact ⟨_, rfl⟩
              have HREST : Hid (∀ W, Below wq.heap.size wq W → Els Cm.cells 2 W (some a7) (m.drop k)) := fun W hW => by
                have h1 := HN.out
                have h2 := HNC.out
                by_cases hlast : k = k
                · rw [List.drop_of_length_le (by omega)]
                  exact Els.nil _ _
                · rw [if_neg (by omega)] at ha7
                  obtain rfl := Option.some.inj ha7
                  have := Els.drop (HMX.out W (HWq.out.trans (hW.mono HWq.out.size))) k
                  simpa using this
              have E7 : Hid ((if c = k then (some ⟨g, 0, none⟩ : Option Addr) else some ⟨g, k * 2, none⟩) = some a7) := ha7
              have hnc := HNC.out
              have e1 : (k : Int) ≤ (k : Int) := by omega
              have e2 : (k : Int) ≤ (c : Int) := by omega
              have e5 : (0 : Int) ≤ (k : Int) := by omega
              clear ha7
              go_wp2_with fail
              have HS : Hid (∀ w', Below wq.heap.size wq w' → w'.cell? ⟨b, o + j * 2, none⟩ = some (.int .i64 x1) ∧ w'.cell? ⟨b, o + j * 2 + 1, none⟩ = some (.slice x2 x3 x4)) := fun w' hW => HC.out w' (HWq.out.trans (hW.mono HWq.out.size))
              have HA1 : Hid _ := app_oneL cmknd Try.underlying24 cminfo rfl (w0 := wq) (l := []) (l2 := m.take k) (p := (some ⟨g, 0, none⟩)) (m := k) (c := c) (by rw [List.length_take]; have := HN.out; omega) (fun W' hW' => (HMX.out W' (HWq.out.trans (hW'.mono HWq.out.size))).take k) (fun h => by cases h) (by unfold maxLen; first | (simp; done) | (simp; omega)) (by first | (simp; done) | (simp; omega))
              have HA2 : Hid _ := app_entryL cmknd Try.underlying24 cminfo rfl (w0 := wq) (l := [] ++ m.take k) (y := (⟨x1, x2, x3, x4⟩ : Cm)) (by unfold maxLen; have := HN.out; first | (simp; done) | (simp; omega)) (by have := HN.out; first | (simp; done) | (simp; omega))
              have HA3 : Hid _ := app_oneL cmknd Try.underlying24 cminfo rfl (w0 := wq) (l := [] ++ m.take k ++ [(⟨x1, x2, x3, x4⟩ : Cm)]) (l2 := m.drop k) (p := (some a7)) (m := 0) (c := (c - k)) (by rw [List.length_drop, HN.out] <;> omega) (fun W' hW' => HREST.out W' hW') (fun h => by cases h) (by unfold maxLen; have := HN.out; first | (simp; done) | (simp; omega)) (by have := HN.out; first | (simp; done) | (simp; omega))
              have hS := HS.out wq.drew (Below.refl _ _).drew
              have hbD : Below wq.heap.size wq wq.drew := (Below.refl _ _).drew
              refine wp_region_mid (S := (fun w' => w'.cell? ⟨b, o + j * 2, none⟩ = some (.int .i64 x1) ∧ w'.cell? ⟨b, o + j * 2 + 1, none⟩ = some (.slice x2 x3 x4))) 15 (by kernel_rfl) ?_
              refine wpAnyM_take (i := 0) [] (oi := { dst := some 43, op := Op.move (Operand.tmp 8), type := 24, pos := _, after := #[], guard := none }) (v := .slice none 0 0) rfl (by kernel_rfl) (by kernel_rfl) (by kernel_rfl) (by kernel_rfl) (fun _ _ _ h => h) (Or.inl ⟨by rfl, ?_⟩) hS ?_
              · (intro w' hSw; obtain ⟨m0, m1⟩ := hSw; go_simp; try with_reducible rfl)
              try simp only [Act.put, List.setIfInBounds_toArray, List.set_cons_zero, List.set_cons_succ]
              refine wpAnyM_take (i := 1) [] (oi := { dst := some 44, op := Op.move (Operand.tmp 5), type := 24, pos := _, after := #[], guard := none }) (v := .slice (some ⟨g, 0, none⟩) k c) rfl (by kernel_rfl) (by kernel_rfl) (by kernel_rfl) (by kernel_rfl) (fun _ _ _ h => h) (Or.inl ⟨by rfl, ?_⟩) hS ?_
              · (intro w' hSw; obtain ⟨m0, m1⟩ := hSw; go_simp; try with_reducible rfl)
              try simp only [Act.put, List.setIfInBounds_toArray, List.set_cons_zero, List.set_cons_succ]
              refine wpAnyM_take (i := 2) [] (oi := { dst := some 45, op := Op.move (Operand.tmp 7), type := 3, pos := _, after := #[], guard := none }) (v := .int .i64 (k : Int)) rfl (by kernel_rfl) (by kernel_rfl) (by kernel_rfl) (by kernel_rfl) (fun _ _ _ h => h) (Or.inl ⟨by rfl, ?_⟩) hS ?_
              · (intro w' hSw; obtain ⟨m0, m1⟩ := hSw; go_simp; try with_reducible rfl)
              try simp only [Act.put, List.setIfInBounds_toArray, List.set_cons_zero, List.set_cons_succ]
              refine wpAnyM_take (i := 3) [] (oi := { dst := some 46, op := Op.slice 24 (Operand.tmp 44) none (some (Operand.tmp 45)) none, type := 24, pos := _, after := #[{ on := 1, ground := Ground.data }, { on := 2, ground := Ground.data }], guard := none }) (v := .slice (some ⟨g, 0, none⟩) k c) rfl (by kernel_rfl) (by kernel_rfl) (by kernel_rfl) (by kernel_rfl) (fun _ _ _ h => h) (Or.inl ⟨by rfl, ?_⟩) hS ?_
              · (intro w' hSw; obtain ⟨m0, m1⟩ := hSw; go_simp; try with_reducible rfl)
              try simp only [Act.put, List.setIfInBounds_toArray, List.set_cons_zero, List.set_cons_succ]
              refine wpAnyM_take (i := 5) [] (oi := { dst := some 48, op := Op.move (Operand.tmp 0), type := 24, pos := _, after := #[], guard := none }) (v := .slice (some ⟨b, o, none⟩) len cap) rfl (by kernel_rfl) (by kernel_rfl) (by kernel_rfl) (by kernel_rfl) (fun _ _ _ h => h) (Or.inl ⟨by rfl, ?_⟩) hS ?_
              · (intro w' hSw; obtain ⟨m0, m1⟩ := hSw; go_simp; try with_reducible rfl)
              try simp only [Act.put, List.setIfInBounds_toArray, List.set_cons_zero, List.set_cons_succ]
              refine wpAnyM_take (i := 6) [] (oi := { dst := some 49, op := Op.move (Operand.tmp 6), type := 3, pos := _, after := #[], guard := none }) (v := .int .i64 (j : Int)) rfl (by kernel_rfl) (by kernel_rfl) (by kernel_rfl) (by kernel_rfl) (fun _ _ _ h => h) (Or.inl ⟨by rfl, ?_⟩) hS ?_
              · (intro w' hSw; obtain ⟨m0, m1⟩ := hSw; go_simp; try with_reducible rfl)
              try simp only [Act.put, List.setIfInBounds_toArray, List.set_cons_zero, List.set_cons_succ]
              refine wpAnyM_take (i := 7) [] (oi := { dst := some 50, op := Op.indexAddr 24 (Operand.tmp 48) (Operand.tmp 49), type := 0, pos := _, after := #[{ on := 5, ground := Ground.data }, { on := 6, ground := Ground.data }], guard := none }) (v := .pointer (some ⟨b, o + j * 2, none⟩)) rfl (by kernel_rfl) (by kernel_rfl) (by kernel_rfl) (by kernel_rfl) (fun _ _ _ h => h) (Or.inl ⟨by rfl, ?_⟩) hS ?_
              · (intro w' hSw; obtain ⟨m0, m1⟩ := hSw; go_simp; try with_reducible rfl)
              try simp only [Act.put, List.setIfInBounds_toArray, List.set_cons_zero, List.set_cons_succ]
              refine wpAnyM_take (i := 8) [] (oi := { dst := some 51, op := Op.load 42 (Operand.tmp 50), type := 42, pos := _, after := #[{ on := 7, ground := Ground.data }], guard := none }) (v := .agg #[.int .i64 x1, .slice x2 x3 x4]) rfl (by kernel_rfl) (by kernel_rfl) (by kernel_rfl) (by kernel_rfl) (fun _ _ _ h => h) (Or.inl ⟨by rfl, ?_⟩) hS ?_
              · (intro w' hSw; obtain ⟨m0, m1⟩ := hSw; go_simp; try with_reducible rfl)
              try simp only [Act.put, List.setIfInBounds_toArray, List.set_cons_zero, List.set_cons_succ]
              refine wpAnyM_take (i := 11) [] (oi := { dst := some 54, op := Op.move (Operand.tmp 5), type := 24, pos := _, after := #[], guard := none }) (v := .slice (some ⟨g, 0, none⟩) k c) rfl (by kernel_rfl) (by kernel_rfl) (by kernel_rfl) (by kernel_rfl) (fun _ _ _ h => h) (Or.inl ⟨by rfl, ?_⟩) hS ?_
              · (intro w' hSw; obtain ⟨m0, m1⟩ := hSw; go_simp; try with_reducible rfl)
              try simp only [Act.put, List.setIfInBounds_toArray, List.set_cons_zero, List.set_cons_succ]
              refine wpAnyM_take (i := 12) [] (oi := { dst := some 55, op := Op.move (Operand.tmp 7), type := 3, pos := _, after := #[], guard := none }) (v := .int .i64 (k : Int)) rfl (by kernel_rfl) (by kernel_rfl) (by kernel_rfl) (by kernel_rfl) (fun _ _ _ h => h) (Or.inl ⟨by rfl, ?_⟩) hS ?_
              · (intro w' hSw; obtain ⟨m0, m1⟩ := hSw; go_simp; try with_reducible rfl)
              try simp only [Act.put, List.setIfInBounds_toArray, List.set_cons_zero, List.set_cons_succ]
              refine wpAnyM_take (i := 13) [] (oi := { dst := some 56, op := Op.slice 24 (Operand.tmp 54) (some (Operand.tmp 55)) none none, type := 24, pos := _, after := #[{ on := 11, ground := Ground.data }, { on := 12, ground := Ground.data }], guard := none }) (v := .slice (some a7) 0 (c - k)) rfl (by kernel_rfl) (by kernel_rfl) (by kernel_rfl) (by kernel_rfl) (fun _ _ _ h => h) (Or.inl ⟨by rfl, ?_⟩) hS ?_
              · (intro w' hSw; obtain ⟨m0, m1⟩ := hSw; go_simp; exact E7.out)
              try simp only [Act.put, List.setIfInBounds_toArray, List.set_cons_zero, List.set_cons_succ]
              refine wpAnyM_ready (rs := [4, 9]) (by kernel_rfl) (by simp) ?_
              refine AllReadyM.cons (o := { dst := some 47, op := Op.call { callee := Callee.builtin Builtin.append, args := #[Operand.tmp 43, Operand.tmp 46], argTypes := #[24, 24] }, type := 24, pos := _, after := #[{ on := 0, ground := Ground.data }, { on := 3, ground := Ground.data }], guard := none }) rfl (fun K hK => ?_) (AllReadyM.cons (o := { dst := some 52, op := Op.buildSlice 24 1 #[(0, Operand.tmp 51)], type := 24, pos := _, after := #[{ on := 8, ground := Ground.data }], guard := none }) rfl (fun K hK => ?_) AllReadyM.nil)
              · have HK9' : Hid (∀ a w, _ → K a w) := hK
                clear hK
                obtain ⟨v1, w6, hr1, ho1, hb6, -⟩ := HA1.out _ (.slice none 0 0) hbD (Own.nil _ _ _)
                refine step_appL rfl _ _ _ rfl _ _ rfl rfl hr1 ?_
                refine HK9'.out _ _ ⟨fun _ => HS.out _ hb6, ?_⟩
                clear HK9' K
                try simp only [Act.put, List.setIfInBounds_toArray, List.set_cons_zero, List.set_cons_succ]
                refine wpAnyM_ready (rs := [9]) (by kernel_rfl) (by simp) ?_
                refine AllReadyM.cons (o := { dst := some 52, op := Op.buildSlice 24 1 #[(0, Operand.tmp 51)], type := 24, pos := _, after := #[{ on := 8, ground := Ground.data }], guard := none }) rfl (fun K hK => ?_) AllReadyM.nil
                have HK9 : Hid (∀ a w, _ → K a w) := hK
                clear hK
                go_simp
                have hb6' : Below wq.heap.size wq (w6.alloc (.cells #[.int .i64 x1, .slice x2 x3 x4] 42)) := hb6.alloc hb6.size _
                refine HK9.out _ _ ⟨fun _ => HS.out _ hb6', ?_⟩
                clear HK9 K
                try simp only [Act.put, List.setIfInBounds_toArray, List.set_cons_zero, List.set_cons_succ]
                have ho1' := ho1.below ((Below.refl _ w6).alloc (Nat.le_refl _) (.cells #[.int .i64 x1, .slice x2 x3 x4] 42)) (Nat.le_refl _)
                refine wpAnyM_ready (rs := [10]) (by kernel_rfl) (by simp) ?_
                refine AllReadyM.cons (o := { dst := some 53, op := Op.call { callee := Callee.builtin Builtin.append, args := #[Operand.tmp 47, Operand.tmp 52], argTypes := #[24, 24] }, type := 24, pos := _, after := #[{ on := 4, ground := Ground.data }, { on := 9, ground := Ground.data }, { on := 4, ground := Ground.chain }], guard := none }) rfl (fun K hK => ?_) AllReadyM.nil
                have HK9 : Hid (∀ a w, _ → K a w) := hK
                clear hK
                obtain ⟨v2, w7, hr2, ho2, hb7⟩ := HA2.out _ v1 w6.heap.size hb6' ho1' (els_one cmknd w6 _ ⟨x1, x2, x3, x4⟩)
                refine step_appL rfl _ _ _ rfl _ _ rfl (by go_simp) hr2 ?_
                refine HK9.out _ _ ⟨fun _ => HS.out _ hb7, ?_⟩
                clear HK9 K
                try simp only [Act.put, List.setIfInBounds_toArray, List.set_cons_zero, List.set_cons_succ]
                refine wpAnyM_ready (rs := [14]) (by kernel_rfl) (by simp) ?_
                refine AllReadyM.cons (o := { dst := some 57, op := Op.call { callee := Callee.builtin Builtin.append, args := #[Operand.tmp 53, Operand.tmp 56], argTypes := #[24, 24] }, type := 24, pos := _, after := #[{ on := 10, ground := Ground.data }, { on := 13, ground := Ground.data }, { on := 10, ground := Ground.chain }], guard := none }) rfl (fun K hK => ?_) AllReadyM.nil
                have HK9 : Hid (∀ a w, _ → K a w) := hK
                clear hK
                obtain ⟨v3, w8, hr3, ho3, hb8, -⟩ := HA3.out _ v2 hb7 ho2
                refine step_appL rfl _ _ _ rfl _ _ rfl rfl hr3 ?_
                refine HK9.out _ _ ⟨fun _ => HS.out _ hb8, ?_⟩
                clear HK9 K
                try simp only [Act.put, List.setIfInBounds_toArray, List.set_cons_zero, List.set_cons_succ]
                refine wpAnyM_ready (rs := [15]) (by kernel_rfl) (by simp) ?_
                refine AllReadyM.cons (o := { dst := some 5, op := Op.assign (Operand.tmp 57), type := 24, pos := _, after := #[{ on := 14, ground := Ground.data }, { on := 14, ground := Ground.chain }, { on := 0, ground := Ground.phase }, { on := 1, ground := Ground.phase }, { on := 2, ground := Ground.phase }, { on := 3, ground := Ground.phase }, { on := 4, ground := Ground.phase }, { on := 5, ground := Ground.phase }, { on := 6, ground := Ground.phase }, { on := 7, ground := Ground.phase }, { on := 8, ground := Ground.phase }, { on := 9, ground := Ground.phase }, { on := 10, ground := Ground.phase }, { on := 11, ground := Ground.phase }, { on := 12, ground := Ground.phase }, { on := 13, ground := Ground.phase }, { on := 14, ground := Ground.phase }], guard := none }) rfl (fun K hK => ?_) AllReadyM.nil
                have HK9 : Hid (∀ a w, _ → K a w) := hK
                clear hK
                go_simp
                refine HK9.out _ _ ⟨fun h => absurd h (by omega), ?_⟩
                clear HK9 K
                try simp only [Act.put, List.setIfInBounds_toArray, List.set_cons_zero, List.set_cons_succ]
                refine wpAnyM_done (by kernel_rfl) ?_ _
                have e9 : [] ++ m.take k ++ [(⟨x1, x2, x3, x4⟩ : Cm)] ++ m.drop k = Cl.ins m ⟨x1, x2, x3, x4⟩ := by
                  unfold Cl.ins
                  rw [HKL.out]
                  simp
                rw [e9] at ho3
                obtain ⟨q9, c9, hv9, -, -, -⟩ := ho3.els cmknd
                have hins := Cl.ins_is HSA.out.1 HSA.out.2 ⟨x1, x2, x3, x4⟩
                rw [← HK1.out] at hins
                have hlen := congrArg List.length e9
                obtain ⟨n9, hn9⟩ : ∃ n9, (Cl.ins m ⟨x1, x2, x3, x4⟩).length = n9 := ⟨_, rfl⟩
                rw [hn9] at hv9 hlen
                have HNB : Hid (n9 ≤ j + 1) := by
                  have h1 := HN.out
                  unfold Hid
                  simp only [List.length_append, List.length_take, List.length_drop, List.length_cons, List.length_nil] at hlen
                  omega
                subst hv9
                have HM10 : Hid (OwnC w8 w.heap.size (.slice q9 n9 c9) (Cl.ins m ⟨x1, x2, x3, x4⟩) ∧ (Cl.ins m ⟨x1, x2, x3, x4⟩).length = n9 ∧ Sam Cm.ts (keepC ts (l.take (j + 1))) (Cl.ins m ⟨x1, x2, x3, x4⟩) ∧ Asc Cm.ts (Cl.ins m ⟨x1, x2, x3, x4⟩)) := ⟨ho3.mono (Nat.le_trans HW.out.size HWq.out.size), hn9, hins.1, hins.2⟩
                have HW10 : Hid (Below w.heap.size w w8) := HW.out.trans ((HWq.out.trans (hb8.mono HWq.out.size)).mono HW.out.size)
                clear ho3 hb8 hS hins hlen hn9 e9
                go_wp2
                go_roundw
                case rel => exact ⟨j + 1, _, q9, n9, c9, by omega, by go_num, rfl, HNB.out, HM10, HW10⟩
                case measure => simp [intOf]; omega
              · have HK9' : Hid (∀ a w, _ → K a w) := hK
                clear hK
                go_simp
                have hbE : Below wq.heap.size wq (wq.drew.alloc (.cells #[.int .i64 x1, .slice x2 x3 x4] 42)) := hbD.alloc (Nat.le_refl _) _
                refine HK9'.out _ _ ⟨fun _ => HS.out _ hbE, ?_⟩
                clear HK9' K
                try simp only [Act.put, List.setIfInBounds_toArray, List.set_cons_zero, List.set_cons_succ]
                refine wpAnyM_ready (rs := [4]) (by kernel_rfl) (by simp) ?_
                refine AllReadyM.cons (o := { dst := some 47, op := Op.call { callee := Callee.builtin Builtin.append, args := #[Operand.tmp 43, Operand.tmp 46], argTypes := #[24, 24] }, type := 24, pos := _, after := #[{ on := 0, ground := Ground.data }, { on := 3, ground := Ground.data }], guard := none }) rfl (fun K hK => ?_) AllReadyM.nil
                have HK9 : Hid (∀ a w, _ → K a w) := hK
                clear hK
                obtain ⟨v1, w6, hr1, ho1, hb6, hb6E⟩ := HA1.out _ (.slice none 0 0) hbE (Own.nil _ _ _)
                refine step_appL rfl _ _ _ rfl _ _ rfl rfl hr1 ?_
                refine HK9.out _ _ ⟨fun _ => HS.out _ hb6, ?_⟩
                clear HK9 K
                try simp only [Act.put, List.setIfInBounds_toArray, List.set_cons_zero, List.set_cons_succ]
                have hent : Els Cm.cells 2 w6 (some ⟨wq.heap.size, 0, none⟩) [⟨x1, x2, x3, x4⟩] := Els.below (els_one cmknd wq.drew _ ⟨x1, x2, x3, x4⟩) (hb6E rfl) (Nat.le_refl _)
                refine wpAnyM_ready (rs := [10]) (by kernel_rfl) (by simp) ?_
                refine AllReadyM.cons (o := { dst := some 53, op := Op.call { callee := Callee.builtin Builtin.append, args := #[Operand.tmp 47, Operand.tmp 52], argTypes := #[24, 24] }, type := 24, pos := _, after := #[{ on := 4, ground := Ground.data }, { on := 9, ground := Ground.data }, { on := 4, ground := Ground.chain }], guard := none }) rfl (fun K hK => ?_) AllReadyM.nil
                have HK9 : Hid (∀ a w, _ → K a w) := hK
                clear hK
                obtain ⟨v2, w7, hr2, ho2, hb7⟩ := HA2.out _ v1 wq.heap.size hb6 ho1 hent
                refine step_appL rfl _ _ _ rfl _ _ rfl (by go_simp) hr2 ?_
                refine HK9.out _ _ ⟨fun _ => HS.out _ hb7, ?_⟩
                clear HK9 K
                try simp only [Act.put, List.setIfInBounds_toArray, List.set_cons_zero, List.set_cons_succ]
                refine wpAnyM_ready (rs := [14]) (by kernel_rfl) (by simp) ?_
                refine AllReadyM.cons (o := { dst := some 57, op := Op.call { callee := Callee.builtin Builtin.append, args := #[Operand.tmp 53, Operand.tmp 56], argTypes := #[24, 24] }, type := 24, pos := _, after := #[{ on := 10, ground := Ground.data }, { on := 13, ground := Ground.data }, { on := 10, ground := Ground.chain }], guard := none }) rfl (fun K hK => ?_) AllReadyM.nil
                have HK9 : Hid (∀ a w, _ → K a w) := hK
                clear hK
                obtain ⟨v3, w8, hr3, ho3, hb8, -⟩ := HA3.out _ v2 hb7 ho2
                refine step_appL rfl _ _ _ rfl _ _ rfl rfl hr3 ?_
                refine HK9.out _ _ ⟨fun _ => HS.out _ hb8, ?_⟩
                clear HK9 K
                try simp only [Act.put, List.setIfInBounds_toArray, List.set_cons_zero, List.set_cons_succ]
                refine wpAnyM_ready (rs := [15]) (by kernel_rfl) (by simp) ?_
                refine AllReadyM.cons (o := { dst := some 5, op := Op.assign (Operand.tmp 57), type := 24, pos := _, after := #[{ on := 14, ground := Ground.data }, { on := 14, ground := Ground.chain }, { on := 0, ground := Ground.phase }, { on := 1, ground := Ground.phase }, { on := 2, ground := Ground.phase }, { on := 3, ground := Ground.phase }, { on := 4, ground := Ground.phase }, { on := 5, ground := Ground.phase }, { on := 6, ground := Ground.phase }, { on := 7, ground := Ground.phase }, { on := 8, ground := Ground.phase }, { on := 9, ground := Ground.phase }, { on := 10, ground := Ground.phase }, { on := 11, ground := Ground.phase }, { on := 12, ground := Ground.phase }, { on := 13, ground := Ground.phase }, { on := 14, ground := Ground.phase }], guard := none }) rfl (fun K hK => ?_) AllReadyM.nil
                have HK9 : Hid (∀ a w, _ → K a w) := hK
                clear hK
                go_simp
                refine HK9.out _ _ ⟨fun h => absurd h (by omega), ?_⟩
                clear HK9 K
                try simp only [Act.put, List.setIfInBounds_toArray, List.set_cons_zero, List.set_cons_succ]
                refine wpAnyM_done (by kernel_rfl) ?_ _
                have e9 : [] ++ m.take k ++ [(⟨x1, x2, x3, x4⟩ : Cm)] ++ m.drop k = Cl.ins m ⟨x1, x2, x3, x4⟩ := by
                  unfold Cl.ins
                  rw [HKL.out]
                  simp
                rw [e9] at ho3
                obtain ⟨q9, c9, hv9, -, -, -⟩ := ho3.els cmknd
                have hins := Cl.ins_is HSA.out.1 HSA.out.2 ⟨x1, x2, x3, x4⟩
                rw [← HK1.out] at hins
                have hlen := congrArg List.length e9
                obtain ⟨n9, hn9⟩ : ∃ n9, (Cl.ins m ⟨x1, x2, x3, x4⟩).length = n9 := ⟨_, rfl⟩
                rw [hn9] at hv9 hlen
                have HNB : Hid (n9 ≤ j + 1) := by
                  have h1 := HN.out
                  unfold Hid
                  simp only [List.length_append, List.length_take, List.length_drop, List.length_cons, List.length_nil] at hlen
                  omega
                subst hv9
                have HM10 : Hid (OwnC w8 w.heap.size (.slice q9 n9 c9) (Cl.ins m ⟨x1, x2, x3, x4⟩) ∧ (Cl.ins m ⟨x1, x2, x3, x4⟩).length = n9 ∧ Sam Cm.ts (keepC ts (l.take (j + 1))) (Cl.ins m ⟨x1, x2, x3, x4⟩) ∧ Asc Cm.ts (Cl.ins m ⟨x1, x2, x3, x4⟩)) := ⟨ho3.mono (Nat.le_trans HW.out.size HWq.out.size), hn9, hins.1, hins.2⟩
                have HW10 : Hid (Below w.heap.size w w8) := HW.out.trans ((HWq.out.trans (hb8.mono HWq.out.size)).mono HW.out.size)
                clear ho3 hb8 hS hins hlen hn9 e9
                go_wp2
                go_roundw
                case rel => exact ⟨j + 1, _, q9, n9, c9, by omega, by go_num, rfl, HNB.out, HM10, HW10⟩
                case measure => simp [intOf]; omega
    · obtain rfl : j = len := by omega
      have hli : ¬ ((j : Int) < (j : Int)) := by omega
      have HS : Hid (Sam Cm.ts (keepC ts l) m ∧ Asc Cm.ts m) := by
        have h1 := HM.out
        rw [HTK.out] at h1
        exact ⟨h1.2.2.1, h1.2.2.2⟩
      obtain ⟨q', c', hv, hels, -, -⟩ := HM.out.1.els cmknd
      simp only [Value.slice.injEq] at hv
      obtain ⟨rfl, -, rfl⟩ := hv
      have HMX : Hid (∀ u, Below wr.heap.size wr u → Els Cm.cells 2 u q m) := fun u hu => Els.below hels hu (Nat.le_refl _)
      have HN : Hid (m.length = n) := HM.out.2.1
      have HZL : Hid (∀ x ∈ m, x ∈ l) := fun x hx => keepC_mem (HS.out.1.symm.mem hx)
      obtain ⟨w2, hw2⟩ : ∃ w2, w2 = wr := ⟨_, rfl⟩
      rw [← hw2] at HMX HW
      have HW2 : Hid (Below w2.heap.size w2 wr) := by rw [hw2]; exact Below.refl _ _
      clear hels HM
      go_wp2_with fail
      go_loopw [9, 10] (fun v i wr => ∃ (k : Nat) (r : List Pr) (q : Option Addr) (nm cm : Nat), k ≤ n ∧ i = .int .i64 k ∧ v = .slice q nm cm ∧ nm ≤ k * 1048576 ∧ Hid (OwnP wr w2.heap.size (.slice q nm cm) r ∧ r.length = nm ∧ (Fm.commits W (fun _ => none) (m.take k)).Is r) ∧ Hid (Below w2.heap.size w2 wr)) (fun _ i _ => n - (intOf i).toNat)
      case atStart => exact ⟨0, [], none, 0, 0, Nat.zero_le _, rfl, rfl, Nat.zero_le _, ⟨Own.nil _ _ _, rfl, Fm.is_none⟩, HW2⟩
      case round =>
        obtain ⟨k, r, qr, nm, cm, hk, rfl, rfl, hnm, HM, HB⟩ := hrel
        by_cases hlt2 : k < n
        · have hli2 : (k : Int) < (n : Int) := by omega
          obtain ⟨g, o2, y, rfl, hgy, hcy⟩ := Els.at (HMX.out wr HB.out) (j := k) (by have := HN.out; omega)
          have y1 := hcy 1 _ rfl
          have hyl := HZL.out y (List.mem_of_getElem? hgy)
          have HCT : Hid (Fm.commits W (fun _ => none) (m.take (k + 1)) = (Fm.commits W (fun _ => none) (m.take k)).writes (W y)) := Fm.commits_take hgy
          have hbw : Below w.heap.size w wr := HW.out.trans (HB.out.mono HW.out.size)
          have hcw := HW0.out y hyl wr hbw
          have hyn0 := HK0.out y hyl
          obtain ⟨z1, z2, z3, z4⟩ := y
          have hyn : z3 ≤ 1048576 := hyn0
          obtain ⟨qq, cq, hqq, helr, -, -⟩ := HM.out.1.els prknd
          simp only [Value.slice.injEq] at hqq
          obtain ⟨rfl, hqn0, rfl⟩ := hqq
          have hov := doverlay_any qr z2 nm cm z3 z4 r (W ⟨z1, z2, z3, z4⟩) wr hqn0.symm helr hcw.len hcw.ws (by omega)
          rw [puts_is (Fm.ok_none.commits _) HM.out.2.2, ← HCT.out] at hov
          clear hgy hcy hyl hbw hcw hyn0 helr hqn0
          go_wp2_with fail
          refine hov.mono ?_
          rintro e w4 ⟨v4, m4, rfl, ho4, hl4, his4, hb4⟩
          obtain ⟨q4, c4, rfl, -, -, -⟩ := ho4.els prknd
          obtain ⟨n4, hn4⟩ : ∃ n4, m4.length = n4 := ⟨_, rfl⟩
          rw [hn4] at ho4 hl4 ⊢
          have HM4 : Hid (OwnP w4 w2.heap.size (.slice q4 n4 c4) m4 ∧ m4.length = n4 ∧ (Fm.commits W (fun _ => none) (m.take (k + 1))).Is m4) := ⟨ho4.mono HB.out.size, hn4, his4⟩
          have HB4 : Hid (Below w2.heap.size w2 w4) := HB.out.trans (hb4.mono HB.out.size)
          clear hov ho4 his4 hb4 hn4
          go_wp2
          go_roundw
          case rel => exact ⟨k + 1, m4, q4, n4, c4, by omega, by go_num, rfl, by omega, HM4, HB4⟩
          case measure => simp [intOf]; omega
        · obtain rfl : k = n := by omega
          have hli2 : ¬ ((k : Int) < (k : Int)) := by omega
          have HF : Hid (OwnP wr w.heap.size (.slice qr nm cm) r ∧ r.length ≤ 1099511627776 ∧ (Fm.commits W (fun _ => none) m).Is r) := by
            have h1 := HM.out
            rw [List.take_of_length_le (by have := HN.out; omega)] at h1
            exact ⟨h1.1.mono HW.out.size, by omega, h1.2.2⟩
          have HBF : Hid (Below w.heap.size w wr) := HW.out.trans (HB.out.mono HW.out.size)
          go_wp2
          go_ret
          exact ⟨_, rfl, r, m, HS.out.1, HS.out.2, HF.out.2.2, HF.out.1, HF.out.2.1, HBF.out⟩
end Go.Proofs.Ytilabcolfabnmaa

namespace Go.Proofs.Ytilabcolfabnmaa
open Go.RowKit Go.Shelf Go.Sort
attribute [local go_sem] Oper.semAt_some
set_option linter.unusedVariables false
set_option maxRecDepth 100000

theorem Els.kp {α : Type} {cells : α → List Value} {k : Nat} {S : List Nat} {W W' : World} {p : Option Addr} {l : List α} (h : Els cells k W p l) (hk : KpP S W W') (hp : ∀ b o, p = some ⟨b, o, none⟩ → b ∈ S) : Els cells k W' p l := by
  intro hl
  obtain ⟨b, o, rfl, hc⟩ := h hl
  refine ⟨b, o, rfl, fun i x hi j v hv => ?_⟩
  have h0 := hc i x hi j v hv
  simp only [World.cell?, hk b (hp b o rfl)] at h0 ⊢
  exact h0

/-- A function value that goes through pairs: its box, and the blocks that it reads. -/
structure Mi (W : World) (b : Nat) (S : List Nat) (L : List Pr) : Prop where
  ex : ∃ p c, Bk W b 22 #[.slice p L.length c] ∧ Prs W p L ∧ (0 < L.length → ∀ g o, p = some ⟨g, o, none⟩ → g ∈ S)
  h1 : b ∈ S
  lt : ∀ b ∈ S, b < W.heap.size
  reach : L.length ≤ 4398046511104

theorem Mi.kp {W W' : World} {b : Nat} {S : List Nat} {L : List Pr} (h : Mi W b S L) (hk : KpP S W W') : Mi W' b S L := by
  obtain ⟨p, c, k1, r1, s1⟩ := h.ex
  refine ⟨⟨p, c, hk.bk k1 h.h1, ?_, s1⟩, h.h1, hk.lt h.lt, h.reach⟩
  intro hl
  exact Els.kp r1 hk (s1 hl) hl

abbrev encKv (x : Pr) : Array Value := #[.string x.key, .string x.val]

set_option maxHeartbeats 2000000 in
theorem map1_in (n : Nat) (hn : 1 ≤ n) (l b : Nat) (S : List Nat) (L : List Pr) (J Jx : List Pr → World → Prop)
    (hY : ∀ pre x W, J pre W → pre.length < L.length → YieldAt Fence.wide (n - 1) Try.prog l (encKv x) W fun r W' =>
      (r = .returned (.bool true) ∧ J (pre ++ [x]) W' ∧ KpP S W W') ∨ (r = .returned (.bool false) ∧ Jx (pre ++ [x]) W'))
    (W : World) (hJ : ∀ pre A o, J pre A → J pre (A.alloc o)) (hL : Mi W b S L) (h0 : J [] W) :
    CallsIn Fence.wide n Try.prog 28 #[.func (.yield l) #[] #[], .pointer (some ⟨b, 0, none⟩)] W fun r W' => (∃ v, r = .returned v) ∧
      ((∃ ys, ys = L ∧ J ys W') ∨ (∃ pre, pre <+: L ∧ Jx pre W')) := by
  refine callsIn_of_wp Try.func28 rfl trivial ?_ rfl
  simp only [Try.ntmps28, List.size_toArray, List.length_cons, List.length_nil, Nat.reduceAdd, Nat.reduceSub, Array.replicate_succ, Array.replicate_zero, List.push_toArray, List.append_toArray, List.nil_append, List.cons_append]
  obtain ⟨p, c, k1, r1, s1⟩ := hL.ex
  obtain ⟨len, hlen⟩ : ∃ len, L.length = len := ⟨_, rfl⟩
  have hreach := hL.reach
  have HR : Hid (∀ W', KpP S W W' → ∀ (j : Nat) (x : Pr), L[j]? = some x → ∃ g o, p = some ⟨g, o, none⟩ ∧ W'.cell? ⟨g, o + j * 2, none⟩ = some (.string x.key) ∧ W'.cell? ⟨g, o + j * 2 + 1, none⟩ = some (.string x.val)) := fun W' hk j x hx => by
    have hj : j < L.length := (List.getElem?_eq_some_iff.1 hx).1
    obtain ⟨g, o, e, rfl, he, h2, h3⟩ := Prs.cells (Els.kp r1 hk (s1 (by omega))) hj
    rw [hx] at he
    cases he
    exact ⟨g, o, rfl, h2, h3⟩
  have HLT : Hid (∀ x ∈ S, x < W.heap.size) := hL.lt
  have HJ : Hid (∀ pre A o, J pre A → J pre (A.alloc o)) := hJ
  rw [hlen] at hY hreach k1
  have HL : Hid (L.length = len) := hlen
  have HY : Hid _ := hY
  have hbx : W.cell? ⟨b, 0, none⟩ = some (.slice p len c) := k1.cell 0
  clear hlen hY hL k1 r1 s1 hJ
  gi_wp2
  gi_loopw [7] (fun i wr => ∃ k : Nat, k ≤ len ∧ i = .int .i64 k ∧ J (L.take k) wr ∧ KpP S W wr) (fun i _ => len - (intOf i).toNat)
  case atStart => exact ⟨0, Nat.zero_le _, rfl, h0, KpP.refl _ _⟩
  case round =>
    obtain ⟨k, hk, rfl, hJs, hK⟩ := hrel
    by_cases hlt : k < len
    · have hkL : k < L.length := by rw [HL.out]; exact hlt
      obtain ⟨x, hx⟩ : ∃ x, L[k]? = some x := ⟨_, List.getElem?_eq_getElem hkL⟩
      have hli : (k : Int) < (len : Int) := by omega
      have hk0 : (0 : Int) ≤ (k : Int) := by omega
      obtain ⟨g, o, rfl, z0, z1⟩ := HR.out wr hK k x hx
      have HT : Hid (L.take (k + 1) = L.take k ++ [x]) := take_snoc hx
      obtain ⟨W3, hW3⟩ : ∃ W3, wr.alloc (.cells #[.string x.key, .string x.val] 54) = W3 := ⟨_, rfl⟩
      have hK3 : KpP S W W3 := by rw [← hW3]; exact hK.alloc (hK.lt HLT.out) _
      obtain ⟨fn, tmps, assign, body, hy, hR⟩ := HY.out (L.take k) x W3 (by rw [← hW3]; exact HJ.out _ _ _ hJs) (by rw [List.length_take]; omega)
      simp only [encKv] at hy
      have kb : Bk W3 wr.heap.size 54 #[.string x.key, .string x.val] := by rw [← hW3]; exact Bk.new _ _ _
      have d0 : W3.cell? ⟨wr.heap.size, 0, none⟩ = some (.string x.key) := kb.cell 0
      have d1 : W3.cell? ⟨wr.heap.size, 1, none⟩ = some (.string x.val) := kb.cell 1
      clear hx kb
      gi_wp2
      refine hR.mono ?_
      rintro e W4 (⟨rfl, hJ4, hk4⟩ | ⟨rfl, hJx4⟩)
      · gi_wp2
        go_roundw
        case rel => exact ⟨k + 1, by omega, by go_num, by rw [HT.out]; exact hJ4, hK3.t hk4⟩
        case measure => simp [intOf]; omega
      · gi_wp2
        refine bodyPost_ret (results_none rfl _ _ _) rfl ?_
        exact ⟨⟨_, rfl⟩, .inr ⟨_, by rw [← HT.out]; exact List.take_prefix _ _, hJx4⟩⟩
    · obtain rfl : k = len := by omega
      gi_wp2
      go_end0
      refine ⟨⟨_, rfl⟩, .inl ⟨_, rfl, ?_⟩⟩
      rw [List.take_of_length_le (by rw [HL.out]; exact Nat.le_refl _)] at hJs
      exact hJs

theorem map1_stops (n : Nat) (hn : 1 ≤ n) {w : World} {b : Nat} {S : List Nat} {L : List Pr} (hL : Mi w b S L) :
    SeqStopsK Fence.wide n Try.prog 28 #[.pointer (some ⟨b, 0, none⟩)] encKv (KpP S) (fun ys => ys = L) (fun pre => pre <+: L) L.length w := fun l J Jx W hW hJ _ hY h0 =>
  map1_in n hn l b S L J Jx hY W (fun pre A o h => hJ pre A _ none h (World.grownBy_alloc A o none) (fun r e => by cases e)) (hL.kp (KpP.of_below hW hL.lt)) h0

theorem eqb_iff {x y : Pr} : Pr.eqb x y = true ↔ x = y := by
  obtain ⟨a, b⟩ := x
  obtain ⟨d, e⟩ := y
  unfold Pr.eqb
  simp only [Bool.and_eq_true, beq_iff_eq, Pr.mk.injEq]
  exact ⟨fun h => ⟨Ky.toList_inj h.1, Ky.toList_inj h.2⟩, fun h => by rw [h.1, h.2]; exact ⟨rfl, rfl⟩⟩

theorem pfx_snocP {L pre : List Pr} (h : pre <+: L) (hN : pre.length < L.length) (x y : Pr) (hy : L[pre.length]? = some y) : pre ++ [x] <+: L ↔ x = y := by
  obtain ⟨t, rfl⟩ := h
  cases t with
  | nil => simp at hN
  | cons z t =>
    have e : z = y := by simpa using hy
    subst e
    rw [List.prefix_append_right_inj, List.cons_prefix_cons]
    simp

/-- Between the rounds. -/
structure TlP (w W : World) (q : Option Addr) (m c : Nat) (stop : Int) (L pre : List Pr) : Prop where
  b0 : Boxed W w.heap.size 22 (.slice q m c)
  b1 : Boxed W (w.heap.size + 1) 3 (.int .i64 stop)
  b2 : Boxed W (w.heap.size + 1 + 1) 4 (.bool false)
  b3 : Boxed W (w.heap.size + 1 + 1 + 1) 3 (.int .i64 (pre.length : Int))
  below : Below w.heap.size w W
  pf : pre <+: L

section
variable {w W W' : World} {q : Option Addr} {m c : Nat} {stop : Int} {L pre : List Pr}

theorem TlP.abides {row : Option Nat} {k : Nat} (h : TlP w W q m c stop L pre) (hm : w.heap.size ≤ k) (hg : W.grownBy W' row) (hr : ∀ r, row = some r → k ≤ r ∧ ∃ o : Obj, W.heap[r]? = some o ∧ o.isCells = false) : TlP w W' q m c stop L pre where
  b0 := boxed_from h.b0 hg hr
  b1 := boxed_from h.b1 hg hr
  b2 := boxed_from h.b2 hg hr
  b3 := boxed_from h.b3 hg hr
  below := h.below.grown hg h.below.size (fun k hk => by have := (hr k hk).1; omega)
  pf := h.pf

theorem TlP.fin {S : List Nat} (h : TlP w W q m c stop L pre) (hS : ∀ b ∈ S, b < w.heap.size) (ht : Tn [w.heap.size + 1 + 1, w.heap.size + 1 + 1 + 1] W W') : KeepsOthers W W' ∧ KpP S W W' ∧ Below w.heap.size w W' := by
  have hs := h.below.size
  refine ⟨keeps_tn ht (fun y hy => ?_), KpP.of_tn ht (fun y hy => ?_), h.below.trans (ht.below hs (fun y hy => ?_))⟩
  · simp only [List.mem_cons, List.not_mem_nil, or_false] at hy
    rcases hy with rfl | rfl
    · exact ⟨_, h.b2, rfl⟩
    · exact ⟨_, h.b3, rfl⟩
  · have := hS y hy
    simp only [List.mem_cons, List.not_mem_nil, or_false]
    omega
  · simp only [List.mem_cons, List.not_mem_nil, or_false] at hy
    omega

theorem TlP.num {N : Nat} (h : TlP w W q m c stop L pre) (hN : pre.length = N) (x : Pr) (hp : pre ++ [x] <+: L) : TlP w (W.setCell ⟨w.heap.size + 1 + 1 + 1, 0, none⟩ (.int .i64 ((N : Int) + 1))) q m c stop L (pre ++ [x]) where
  b0 := h.b0.other (by omega) _
  b1 := h.b1.other (by omega) _
  b2 := h.b2.other (by omega) _
  b3 := by
    rw [List.length_append, hN, show ((N + [x].length : Nat) : Int) = (N : Int) + 1 by simp]
    exact h.b3.set _
  below := h.below.setCell (p := ⟨w.heap.size + 1 + 1 + 1, 0, none⟩) (by simp; omega) _
  pf := hp
end

theorem tlp_start (w : World) (q : Option Addr) (m c : Nat) (stop : Int) (L : List Pr) : ∃ W, W = (((w.alloc (.cells #[.slice q m c] 22)).alloc (.cells #[.int .i64 stop] 3)).alloc (.cells #[.bool false] 4)).alloc (.cells #[.int .i64 0] 3) ∧ W.heap.size = w.heap.size + 4 ∧ TlP w W q m c stop L [] := by
  refine ⟨_, rfl, by simp, ?_⟩
  have c0 := Bk.new w 22 #[.slice q m c]
  have c1 := Bk.new (w.alloc (.cells #[.slice q m c] 22)) 3 #[.int .i64 stop]
  have c2 := Bk.new ((w.alloc (.cells #[.slice q m c] 22)).alloc (.cells #[.int .i64 stop] 3)) 4 #[.bool false]
  have c3 := Bk.new (((w.alloc (.cells #[.slice q m c] 22)).alloc (.cells #[.int .i64 stop] 3)).alloc (.cells #[.bool false] 4)) 3 #[.int .i64 0]
  simp only [World.size_alloc] at c1 c2 c3
  exact ⟨((c0.alloc _).alloc _).alloc _, (c1.alloc _).alloc _, c2.alloc _, c3, ((((Below.refl _ w).alloc (Nat.le_refl _) _).alloc (by simp) _).alloc (by simp; omega) _).alloc (by simp; omega) _, List.nil_prefix⟩

/-- How a round that returns leaves it. -/
def TlStop (w W : World) (L pre : List Pr) : Prop := ∃ b, Boxed W (w.heap.size + 1 + 1) 4 (.bool b) ∧ (b = true ∨ ¬ pre <+: L)

set_option maxHeartbeats 8000000 in
theorem tellsP_any {w : World} {b : Nat} {S : List Nat} {L : List Pr} (hF : Mi w b S L) {q : Option Addr} {m c : Nat} (hm : L.length = m) (hx : Prs w q L) (stop : Int) :
    Calls Try.prog 10 #[.func (.func 28) #[] #[.pointer (some ⟨b, 0, none⟩)], .slice q m c, .int .i64 stop] w fun r w' => r = .returned (.bool true) ∧ Below w.heap.size w w' := by
  refine (callsIn_wide (n := 9)).1 ?_
  refine callsIn_of_wp_marks Try.func10 rfl trivial ?_ rfl
  simp only [Try.ntmps10, List.size_toArray, List.length_cons, List.length_nil, Nat.reduceAdd, Nat.reduceSub, Array.replicate_succ, Array.replicate_zero, List.push_toArray, List.append_toArray, List.nil_append, List.cons_append]
  have HE : Hid (∀ W, Below w.heap.size w W → Prs W q L) := fun W hb => Els.below hx hb (Nat.le_refl _)
  have HFM : Hid (Mi w b S L) := hF
  have HLR : Hid (L.length ≤ 4398046511104) := hF.reach
  have HSL : Hid (∀ b ∈ S, b < w.heap.size) := hF.lt
  have HM : Hid (L.length = m) := hm
  clear hF hx hm
  gi_wp2_with fail
  obtain ⟨W4, hW4, hs4, hk4⟩ := tlp_start w q m c stop L
  rw [← hW4]
  have hB4 := hk4.below
  clear hW4
  have hF4 : Mi W4 b S L := HFM.out.kp (KpP.of_below hB4 HSL.out)
  refine wpIn_rangeFunc_ownF (a₁ := ?A) rfl (by omega) (gf := 28) (lb := #[.pointer (some ⟨b, 0, none⟩)]) rfl trivial (enters_of Try.func28 (by kernel_rfl) rfl)
    (map1_stops 8 (by omega) hF4) KpP.t (fun W l o o' hl _ _ _ k hk => World.putObj_heap_other (fun e => by
      subst e
      have := HSL.out _ hk
      omega)) (Below.refl _ _) (fun _ => rfl)
    (fun pre W => TlP w W q m c stop L pre)
    (fun cc pre W => (cc = .ret ∧ TlStop w W L pre) ∧ Below w.heap.size w W)
    (fun s A B' row hs hg hr => hs.abides (k := W4.heap.size) (by omega) hg hr)
    (fun cc s A B row hs hg hr => by
      obtain ⟨⟨h1, b, h2, h3⟩, h4⟩ := hs
      exact ⟨⟨h1, b, boxed_from h2 hg hr, h3⟩, h4.grown hg h4.size (fun k hk => by have := (hr k hk).1; omega)⟩)
    hk4 ?assign ?body ?done ?stop
  case assign =>
    intro l x W K hK
    gi_wp2
    exact hK
  case stop =>
    rintro D cc pre W hD hpre ⟨⟨rfl, b, hbx, hn⟩, hB⟩ hK
    obtain rfl : b = true := hn.elim id (fun h => absurd hpre h)
    have cr := hbx.cell
    gi_wp2
    refine ⟨by simp, .inl ⟨_, _, rfl, run_takeDeferred hK, ?_⟩⟩
    have hc5 := cell_kept cr (grownBy_putObj' _ D (.deferred none)) (fun r e => by cases e; exact ⟨_, hK, rfl⟩)
    refine ⟨.bool true, ?_, rfl, ?_⟩
    · simp [results, Try.f10, go_sem, hc5]
    · exact hB.trans ⟨rfl, rfl, rfl, by simp, fun k hk => World.putObj_heap_other (by omega)⟩
  case body =>
    rintro l pre x W hT hpre
    have HT : Hid (TlP w W q m c stop L pre) := hT
    have c0 := hT.b0.cell
    have c1 := hT.b1.cell
    have c2 := hT.b2.cell
    have c3 := hT.b3.cell
    have f2 := hT.b2.frozen
    have f3 := hT.b3.frozen
    obtain ⟨g, o, y, rfl, hy, a0, a1⟩ := Prs.cells (HE.out W hT.below) hpre
    have HPF := pfx_snocP hT.pf hpre x y hy
    have HLR2 := HLR.out
    clear hT hy
    obtain ⟨N, hN⟩ : ∃ N, pre.length = N := ⟨_, rfl⟩
    have HN : Hid (pre.length = N) := hN
    rw [hN] at c3 a0 a1 hpre
    rw [HM.out] at hpre HLR2
    clear hN
    have hlt : (N : Int) < (m : Int) := by omega
    have h0N : (0 : Int) ≤ (N : Int) := by omega
    have hmNi : ¬ (m : Int) ≤ (N : Int) := by omega
    have HNM : Hid (N < m) := hpre
    clear hpre
    obtain ⟨xk, xv⟩ := x
    obtain ⟨yk, yv⟩ := y
    have HPF : Hid _ := HPF
    have hneq := fun w => run_neq_p xk xv yk yv w
    cases hv : Pr.eqb ⟨xk, xv⟩ ⟨yk, yv⟩ with
    | true =>
      rw [hv] at hneq
      have HP : Hid (pre ++ [(⟨xk, xv⟩ : Pr)] <+: L) := HPF.out.2 (eqb_iff.1 hv)
      clear HPF hv
      by_cases hst : stop = (N : Int) + 1
      · subst hst
        gi_wp2
        obtain ⟨k1, k2, k3⟩ := HT.out.fin HSL.out ((((Tn.refl [w.heap.size + 1 + 1, w.heap.size + 1 + 1 + 1] W).setCell (.inl (by simp)) (.int .i64 ((N : Int) + 1))).setCell (.inl (by simp)) (.bool true)) : Tn _ W (World.setCell (World.setCell _ ⟨w.heap.size + 1 + 1 + 1, 0, none⟩ _) ⟨w.heap.size + 1 + 1, 0, none⟩ _))
        exact ⟨k1, ⟨rfl, true, (HT.out.num HN.out _ HP.out).b2.set _, .inl rfl⟩, k3⟩
      · have hb : ((N : Int) + 1 == stop) = false := by simp; omega
        have hb2 : ¬ (N : Int) + 1 = stop := by omega
        clear hst
        gi_wp2
        obtain ⟨k1, k2, k3⟩ := HT.out.fin HSL.out (((Tn.refl [w.heap.size + 1 + 1, w.heap.size + 1 + 1 + 1] W).setCell (.inl (by simp)) (.int .i64 ((N : Int) + 1))) : Tn _ W (World.setCell _ ⟨w.heap.size + 1 + 1 + 1, 0, none⟩ _))
        exact ⟨k1, k2, HT.out.num HN.out _ HP.out⟩
    | false =>
      rw [hv] at hneq
      have HP : Hid (¬ (pre ++ [(⟨xk, xv⟩ : Pr)] <+: L)) := fun h => by
        have := eqb_iff.2 (HPF.out.1 h)
        rw [hv] at this
        cases this
      clear HPF hv
      gi_wp2
      obtain ⟨k1, k2, k3⟩ := HT.out.fin HSL.out (((Tn.refl [w.heap.size + 1 + 1, w.heap.size + 1 + 1 + 1] W).setCell (.inl (by simp)) (.bool false)) : Tn _ W (World.setCell _ ⟨w.heap.size + 1 + 1, 0, none⟩ _))
      exact ⟨k1, ⟨rfl, false, HT.out.b2.set _, .inr HP.out⟩, k3⟩
  case done =>
    rintro D zs W hD rfl hT hK
    have HT : Hid (TlP w W q m c stop zs zs) := hT
    have c0 := hT.b0.cell
    have c1 := hT.b1.cell
    have c2 := hT.b2.cell
    have c3 := hT.b3.cell
    have f2 := hT.b2.frozen
    have hDn : D ≠ w.heap.size + 1 + 1 := by omega
    have hD2 : w.heap.size ≤ D := by omega
    rw [HM.out] at c3
    clear hT
    gi_wp2
    refine ⟨by simp, .inl ⟨_, _, rfl, run_takeDeferred ((Below.heap_setCell _ _ _ _ (by simpa using hDn)).trans hK), ?_⟩⟩
    refine ⟨.bool true, ?_, rfl, ?_⟩
    · have c4 := res_true (W' := W.setCell ⟨w.heap.size + 1 + 1, 0, none⟩ (.bool true)) HT.out.b2 rfl hDn
      simp [results, Try.f10, go_sem, c4]
    · exact res_below (b := w.heap.size + 1 + 1) HT.out.below (by omega) hD2 rfl rfl rfl rfl
end Go.Proofs.Ytilabcolfabnmaa

namespace Go.Proofs.Ytilabcolfabnmaa
open Go.ChangeShapes Go.WideShapes Go.ChangeAt Go.RowKit Go.Sort
open Go.ChangeMaps (open_string shut_string)
set_option linter.unusedVariables false
set_option maxRecDepth 100000

theorem mi_of {w w1 : World} {v : Value} {m : List Pr} (h : Ans w w1 v m) (hl : m.length ≤ 4398046511104) : ∃ S, Mi (w1.alloc (.cells #[v] 22)) w1.heap.size S m := by
  obtain ⟨p, c, rfl, h1, h2⟩ := h.ex
  have hb : Below w1.heap.size w1 (w1.alloc (.cells #[.slice p m.length c] 22)) := (Below.refl _ _).alloc (Nat.le_refl _) _
  have hk := Bk.new w1 22 #[.slice p m.length c]
  by_cases hm : 0 < m.length
  · obtain ⟨g, rfl, hg, hr⟩ := h1 hm
    have hgl : g < w1.heap.size := World.block_lt_of_cell? w1 _ (hr 0 _ (List.getElem?_eq_getElem hm)).1.1
    exact ⟨[w1.heap.size, g], ⟨_, _, hk, Els.below hr.prs hb (Nat.le_refl _), fun _ g' o e => by cases e; simp⟩, by simp, fun b hb => by simp at hb; rcases hb with rfl | rfl <;> simp <;> omega, hl⟩
  · have : m = [] := List.eq_nil_of_length_eq_zero (by omega)
    subst this
    exact ⟨[w1.heap.size], ⟨_, _, hk, Els.nil _ _, fun h => absurd h (Nat.lt_irrefl 0)⟩, by simp, fun b hb => by simp at hb; subst hb; simp, hl⟩

set_option maxHeartbeats 8000000 in
theorem walk_versionMaps (q : Mq) (ps : List Pr) (ws : List Wt) (cl : List Cm) (w : World) (hq : MqIn w q ps ws cl) :
    Calls Try.prog 3 #[q.v] w fun e w' => e = .returned (.bool true) ∧ Below w.heap.size w w' := by
  obtain ⟨pp, pn, pc, wp, wn, wc, cp, cn, cc, lo, hi, qts, qst⟩ := q
  obtain ⟨f, hf⟩ := wsOf_ex hq.c.ok
  obtain ⟨w0, hw0⟩ : ∃ w0, w.alloc (.cells #[.slice pp pn pc, .slice wp wn wc, .slice cp cn cc, .string lo, .string hi, .int .i64 qts, .int .i64 qst] 28) = w0 := ⟨_, rfl⟩
  have hb0 : Below w.heap.size w w0 := by rw [← hw0]; exact (Below.refl _ _).alloc (Nat.le_refl _) _
  have k0 : Bk w0 w.heap.size 28 #[.slice pp pn pc, .slice wp wn wc, .slice cp cn cc, .string lo, .string hi, .int .i64 qts, .int .i64 qst] := by rw [← hw0]; exact Bk.new _ _ _
  have HC : Hid (∀ W, Below w0.heap.size w0 W → W.cell? ⟨w.heap.size, 0, none⟩ = some (.slice pp pn pc) ∧ W.cell? ⟨w.heap.size, 1, none⟩ = some (.slice wp wn wc) ∧ W.cell? ⟨w.heap.size, 2, none⟩ = some (.slice cp cn cc) ∧ W.cell? ⟨w.heap.size, 3, none⟩ = some (.string lo) ∧ W.cell? ⟨w.heap.size, 4, none⟩ = some (.string hi) ∧ W.cell? ⟨w.heap.size, 5, none⟩ = some (.int .i64 qts) ∧ W.cell? ⟨w.heap.size, 6, none⟩ = some (.int .i64 qst)) := fun W hW => by
    have k := k0.below hW k0.lt
    exact ⟨k.cell 0, k.cell 1, k.cell 2, k.cell 3, k.cell 4, k.cell 5, k.cell 6⟩
  have HQ : Hid (∀ W, Below w0.heap.size w0 W → Prs W pp ps ∧ Wts W wp ws ∧ Els Cm.cells 2 W cp cl ∧ Below w.heap.size w W) := fun W hW => by
    have hb := hb0.trans (hW.mono hb0.size)
    exact ⟨Els.below hq.p.els hb (Nat.le_refl _), Els.below hq.w.els hb (Nat.le_refl _), Els.below hq.c.els hb (Nat.le_refl _), hb⟩
  have HCW : Hid (∀ x ∈ cl, ∀ W, Below w.heap.size w W → CwOk f W x) := fun x hx W hW => (CwOk.of (hf x hx)).below hW
  have HCN : Hid (∀ x ∈ cl, x.n ≤ 1048576) := fun x hx => Nat.le_trans (hf x hx).le (hf x hx).room
  have HN : Hid (ps.length = pn ∧ ws.length = wn ∧ cl.length = cn) := ⟨hq.p.lenq, hq.w.lenq, hq.c.lenq⟩
  have HNIL : Hid ((wp = none → wn = 0 ∧ wc = 0) ∧ (cp = none → cn = 0 ∧ cc = 0)) := ⟨hq.w.nil, hq.c.nil⟩
  have HK : Hid ((∀ (i : Nat) y, ps[i]? = some y → y.key.size ≤ maxLen) ∧ (∀ (i : Nat) y, ws[i]? = some y → y.key.size ≤ maxLen)) := ⟨fun i y hy => by have := (hq.p.ok y (List.mem_of_getElem? hy)).1; unfold maxLen; omega, fun i y hy => by have := (hq.w.ok y (List.mem_of_getElem? hy)).1; unfold maxLen; omega⟩
  have hpb : pn ≤ 1048576 := Nat.le_trans hq.p.le hq.p.room
  have hwb : wn ≤ 1048576 := Nat.le_trans hq.w.le hq.w.room
  have hcb : cn ≤ 1048576 := Nat.le_trans hq.c.le hq.c.room
  obtain ⟨z0, -⟩ := HC.out w0 (Below.refl _ _)
  clear hq hf hb0 k0
  go_enter Try.func3, Try.ntmps3
  go_wp2_with fail
  refine (dmap_any pp pn pc ps w0 HN.out.1 (HQ.out w0 (Below.refl _ _)).1 (by omega)).mono ?_
  rintro e w1 ⟨v1, m1, rfl, ho1, hl1, his1, hb1⟩
  obtain ⟨p1, c1, rfl, hp1, -, -⟩ := ho1.els prknd
  obtain ⟨n1, hn1⟩ : ∃ n1, m1.length = n1 := ⟨_, rfl⟩
  rw [hn1] at hl1 ⊢
  have HB1 : Hid (Below w0.heap.size w0 w1) := hb1
  have HM1 : Hid (m1.length = n1 ∧ (Fm.puts (fun _ => none) ps).Is m1 ∧ ∀ W, Below w1.heap.size w1 W → Prs W p1 m1) := ⟨hn1, his1, fun W hW => Els.below hp1 hW (Nat.le_refl _)⟩
  obtain ⟨z1, -⟩ := HC.out w1 hb1
  clear ho1 his1 hb1 hp1 hn1 z0
  go_wp2_with fail
  refine (map_any pp pn pc ps w1 HN.out.1 (HQ.out w1 HB1.out).1 HK.out.1 (by omega)).mono ?_
  rintro e w3 ⟨B, v2, m2, w2, rfl, his2, hl2, ha2, hB, hw3⟩
  obtain rfl : m2 = m1 := his2.one HM1.out.2.1
  have hmi := mi_of ha2 (by omega)
  rw [← hw3, ← hB] at hmi
  have hb3 : Below w1.heap.size w1 w3 := by rw [hw3]; exact ha2.below.alloc ha2.below.size _
  obtain ⟨S, hmi⟩ := hmi
  have HB3 : Hid (Below w0.heap.size w0 w3) := HB1.out.trans (hb3.mono HB1.out.size)
  have HP3 : Hid (∀ W, Below w3.heap.size w3 W → Prs W p1 m2 ∧ Mi W B S m2) := fun W hW => ⟨HM1.out.2.2 W (hb3.trans (hW.mono hb3.size)), hmi.kp (KpP.of_below hW hmi.lt)⟩
  clear his2 hl2 ha2 hB hw3 hmi hb3 z1
  go_wp2_with fail
  refine (live_any _).mono ?_
  rintro e w4 ⟨rfl, b4⟩
  have HB4 : Hid (Below w0.heap.size w0 w4) := HB3.out.trans (b4.mono HB3.out.size)
  have HP4 : Hid (∀ W, Below w4.heap.size w4 W → Prs W p1 m2 ∧ Mi W B S m2) := fun W hW => HP3.out W (b4.trans (hW.mono b4.size))
  obtain ⟨-, -, -, -, -, -, z4⟩ := HC.out w4 HB4.out
  clear b4
  go_wp2_with fail
  refine (tellsP_any (HP4.out w4 (Below.refl _ _)).2 HM1.out.1 (HP4.out w4 (Below.refl _ _)).1 qst).mono ?_
  rintro e w5 ⟨rfl, b5⟩
  have HB5 : Hid (Below w0.heap.size w0 w5) := HB4.out.trans (b5.mono HB4.out.size)
  have HP5 : Hid (Prs w5 p1 m2 ∧ Mi w5 B S m2) := HP4.out w5 b5
  clear b5 z4
  go_wp2_with fail
  refine (tellsP_any HP5.out.2 HM1.out.1 HP5.out.1 0).mono ?_
  rintro e w6 ⟨rfl, b60⟩
  have HB6 : Hid (Below w0.heap.size w0 w6) := HB5.out.trans (b60.mono HB5.out.size)
  clear b60
  have HS : Hid (∀ W, Below w0.heap.size w0 W → W.cell? ⟨w.heap.size, 0, none⟩ = some (.slice pp pn pc) ∧ W.cell? ⟨w.heap.size, 1, none⟩ = some (.slice wp wn wc) ∧ W.cell? ⟨w.heap.size, 2, none⟩ = some (.slice cp cn cc) ∧ W.cell? ⟨w.heap.size, 3, none⟩ = some (.string lo) ∧ W.cell? ⟨w.heap.size, 4, none⟩ = some (.string hi) ∧ W.cell? ⟨w.heap.size, 5, none⟩ = some (.int .i64 qts)) := fun W hW => by
    obtain ⟨h0, h1, h2, h3, h4, h5, -⟩ := HC.out W hW
    exact ⟨h0, h1, h2, h3, h4, h5⟩
  have b6 : Below w0.heap.size w0 w6.drew := HB6.out.trans ((Below.refl _ _).drew.mono HB6.out.size)
  go_wp2_with fail
  refine wp_region_mid (S := (fun w' => w'.cell? ⟨w.heap.size, 0, none⟩ = some (.slice pp pn pc) ∧ w'.cell? ⟨w.heap.size, 1, none⟩ = some (.slice wp wn wc) ∧ w'.cell? ⟨w.heap.size, 2, none⟩ = some (.slice cp cn cc) ∧ w'.cell? ⟨w.heap.size, 3, none⟩ = some (.string lo) ∧ w'.cell? ⟨w.heap.size, 4, none⟩ = some (.string hi) ∧ w'.cell? ⟨w.heap.size, 5, none⟩ = some (.int .i64 qts))) 38 (by kernel_rfl) ?_
  refine wpAnyM_take (i := 0) [] (oi := { dst := some 27, op := Op.fieldAddr 28 (Operand.tmp 1) 0, type := 0, pos := _, after := #[], guard := none }) (v := .pointer (some ⟨w.heap.size, 0, none⟩)) rfl (by kernel_rfl) (by kernel_rfl) (by kernel_rfl) (by kernel_rfl) (fun _ _ _ h => h) (Or.inl ⟨by rfl, ?_⟩) (HS.out _ b6) ?_
  · (intro w' hSw; obtain ⟨m0, m1, m2, m3, m4, m5⟩ := hSw; go_simp; try with_reducible rfl)
  try simp only [Act.put, List.setIfInBounds_toArray, List.set_cons_zero, List.set_cons_succ]
  refine wpAnyM_take (i := 1) [] (oi := { dst := some 28, op := Op.load 22 (Operand.tmp 27), type := 22, pos := _, after := #[{ on := 0, ground := Ground.data }], guard := none }) (v := .slice pp pn pc) rfl (by kernel_rfl) (by kernel_rfl) (by kernel_rfl) (by kernel_rfl) (fun _ _ _ h => h) (Or.inl ⟨by rfl, ?_⟩) (HS.out _ b6) ?_
  · (intro w' hSw; obtain ⟨m0, m1, m2, m3, m4, m5⟩ := hSw; go_simp; try with_reducible rfl)
  try simp only [Act.put, List.setIfInBounds_toArray, List.set_cons_zero, List.set_cons_succ]
  refine wpAnyM_take (i := 2) [] (oi := { dst := some 29, op := Op.fieldAddr 28 (Operand.tmp 1) 1, type := 0, pos := _, after := #[], guard := none }) (v := .pointer (some ⟨w.heap.size, 1, none⟩)) rfl (by kernel_rfl) (by kernel_rfl) (by kernel_rfl) (by kernel_rfl) (fun _ _ _ h => h) (Or.inl ⟨by rfl, ?_⟩) (HS.out _ b6) ?_
  · (intro w' hSw; obtain ⟨m0, m1, m2, m3, m4, m5⟩ := hSw; go_simp; try with_reducible rfl)
  try simp only [Act.put, List.setIfInBounds_toArray, List.set_cons_zero, List.set_cons_succ]
  refine wpAnyM_take (i := 3) [] (oi := { dst := some 30, op := Op.load 23 (Operand.tmp 29), type := 23, pos := _, after := #[{ on := 2, ground := Ground.data }], guard := none }) (v := .slice wp wn wc) rfl (by kernel_rfl) (by kernel_rfl) (by kernel_rfl) (by kernel_rfl) (fun _ _ _ h => h) (Or.inl ⟨by rfl, ?_⟩) (HS.out _ b6) ?_
  · (intro w' hSw; obtain ⟨m0, m1, m2, m3, m4, m5⟩ := hSw; go_simp; try with_reducible rfl)
  try simp only [Act.put, List.setIfInBounds_toArray, List.set_cons_zero, List.set_cons_succ]
  refine wpAnyM_take (i := 5) [] (oi := { dst := some 32, op := Op.fieldAddr 28 (Operand.tmp 1) 0, type := 0, pos := _, after := #[], guard := none }) (v := .pointer (some ⟨w.heap.size, 0, none⟩)) rfl (by kernel_rfl) (by kernel_rfl) (by kernel_rfl) (by kernel_rfl) (fun _ _ _ h => h) (Or.inl ⟨by rfl, ?_⟩) (HS.out _ b6) ?_
  · (intro w' hSw; obtain ⟨m0, m1, m2, m3, m4, m5⟩ := hSw; go_simp; try with_reducible rfl)
  try simp only [Act.put, List.setIfInBounds_toArray, List.set_cons_zero, List.set_cons_succ]
  refine wpAnyM_take (i := 6) [] (oi := { dst := some 33, op := Op.load 22 (Operand.tmp 32), type := 22, pos := _, after := #[{ on := 5, ground := Ground.data }], guard := none }) (v := .slice pp pn pc) rfl (by kernel_rfl) (by kernel_rfl) (by kernel_rfl) (by kernel_rfl) (fun _ _ _ h => h) (Or.inl ⟨by rfl, ?_⟩) (HS.out _ b6) ?_
  · (intro w' hSw; obtain ⟨m0, m1, m2, m3, m4, m5⟩ := hSw; go_simp; try with_reducible rfl)
  try simp only [Act.put, List.setIfInBounds_toArray, List.set_cons_zero, List.set_cons_succ]
  refine wpAnyM_take (i := 7) [] (oi := { dst := some 34, op := Op.fieldAddr 28 (Operand.tmp 1) 1, type := 0, pos := _, after := #[], guard := none }) (v := .pointer (some ⟨w.heap.size, 1, none⟩)) rfl (by kernel_rfl) (by kernel_rfl) (by kernel_rfl) (by kernel_rfl) (fun _ _ _ h => h) (Or.inl ⟨by rfl, ?_⟩) (HS.out _ b6) ?_
  · (intro w' hSw; obtain ⟨m0, m1, m2, m3, m4, m5⟩ := hSw; go_simp; try with_reducible rfl)
  try simp only [Act.put, List.setIfInBounds_toArray, List.set_cons_zero, List.set_cons_succ]
  refine wpAnyM_take (i := 8) [] (oi := { dst := some 35, op := Op.load 23 (Operand.tmp 34), type := 23, pos := _, after := #[{ on := 7, ground := Ground.data }], guard := none }) (v := .slice wp wn wc) rfl (by kernel_rfl) (by kernel_rfl) (by kernel_rfl) (by kernel_rfl) (fun _ _ _ h => h) (Or.inl ⟨by rfl, ?_⟩) (HS.out _ b6) ?_
  · (intro w' hSw; obtain ⟨m0, m1, m2, m3, m4, m5⟩ := hSw; go_simp; try with_reducible rfl)
  try simp only [Act.put, List.setIfInBounds_toArray, List.set_cons_zero, List.set_cons_succ]
  refine wpAnyM_ready (rs := [4]) (by kernel_rfl) (by simp) ?_
  refine AllReadyM.cons (o := { dst := some 31, op := Op.call { callee := Callee.value (Operand.func 12), args := #[Operand.tmp 28, Operand.tmp 30], argTypes := #[22, 23] }, type := 22, pos := _, after := #[{ on := 1, ground := Ground.data }, { on := 3, ground := Ground.data }], guard := none }) rfl (fun K hK => ?_) AllReadyM.nil
  have HK9 : Hid (∀ a w, _ → K a w) := hK
  clear hK
  go_simp
  refine (overlay_any pp wp pn wn pc wc ps ws _ HN.out.1 HN.out.2.1 (HQ.out _ b6).1 (HQ.out _ b6).2.1 HK.out.1 HK.out.2 HNIL.out.1 (by omega)).mono ?_
  rintro e wA ⟨vA, mA, rfl, isA, lA, anA⟩
  have hb := anA.below
  obtain ⟨pA, cA, rfl, prA, -⟩ := anA.prs
  obtain ⟨nA, hnA⟩ : ∃ nA, mA.length = nA := ⟨_, rfl⟩
  rw [hnA] at lA ⊢
  clear anA
  have bA : Below w0.heap.size w0 wA := b6.trans (hb.mono b6.size)
  clear hb
  refine HK9.out _ _ ⟨fun _ => (HS.out _ bA), ?_⟩
  clear HK9 K
  try simp only [Act.put, List.setIfInBounds_toArray, List.set_cons_zero, List.set_cons_succ]
  refine wpAnyM_ready (rs := [9]) (by kernel_rfl) (by simp) ?_
  refine AllReadyM.cons (o := { dst := some 36, op := Op.call { callee := Callee.value (Operand.func 13), args := #[Operand.tmp 33, Operand.tmp 35], argTypes := #[22, 23] }, type := 22, pos := _, after := #[{ on := 6, ground := Ground.data }, { on := 8, ground := Ground.data }, { on := 4, ground := Ground.chain }], guard := none }) rfl (fun K hK => ?_) AllReadyM.nil
  have HK9 : Hid (∀ a w, _ → K a w) := hK
  clear hK
  go_simp
  refine (doverlay_any pp wp pn pc wn wc ps ws _ HN.out.1 (HQ.out _ bA).1 HN.out.2.1 (HQ.out _ bA).2.1 (by omega)).mono ?_
  rintro e wB ⟨vB, mB, rfl, oB, lB, isB, hb⟩
  have bB := bA.trans (hb.mono bA.size)
  obtain rfl : mB = mA := isB.one isA
  obtain ⟨pB, cB, rfl, prB, -, -⟩ := oB.els prknd
  rw [hnA]
  have prA2 := Els.below prA hb (Nat.le_refl _)
  clear oB
  clear hb
  refine HK9.out _ _ ⟨fun _ => (HS.out _ bB), ?_⟩
  clear HK9 K
  try simp only [Act.put, List.setIfInBounds_toArray, List.set_cons_zero, List.set_cons_succ]
  refine wpAnyM_ready (rs := [10]) (by kernel_rfl) (by simp) ?_
  refine AllReadyM.cons (o := { dst := some 37, op := Op.call { callee := Callee.value (Operand.func 11), args := #[Operand.tmp 31, Operand.tmp 36], argTypes := #[22, 22] }, type := 4, pos := _, after := #[{ on := 4, ground := Ground.data }, { on := 9, ground := Ground.data }, { on := 9, ground := Ground.chain }], guard := none }) rfl (fun K hK => ?_) AllReadyM.nil
  have HK9 : Hid (∀ a w, _ → K a w) := hK
  clear hK
  go_simp
  refine (samePairs_any pA pB nA nA cA cB mB mB _ hnA hnA prA2 prB (by omega) (by omega)).mono ?_
  rw [Pl.same_refl]
  rintro e wC ⟨rfl, hb⟩
  have bC := bB.trans (hb.mono bB.size)
  clear prA prA2 prB isA isB
  clear hb
  refine HK9.out _ _ ⟨fun _ => (HS.out _ bC), ?_⟩
  clear HK9 K
  try simp only [Act.put, List.setIfInBounds_toArray, List.set_cons_zero, List.set_cons_succ]
  refine wpAnyM_take (i := 11) [] (oi := { dst := some 38, op := Op.move (Operand.tmp 37), type := 4, pos := _, after := #[{ on := 10, ground := Ground.data }, { on := 10, ground := Ground.chain }], guard := none }) (v := .bool true) rfl (by kernel_rfl) (by kernel_rfl) (by kernel_rfl) (by kernel_rfl) (fun _ _ _ h => h) (Or.inl ⟨by rfl, ?_⟩) (HS.out _ bC) ?_
  · (intro w' hSw; obtain ⟨m0, m1, m2, m3, m4, m5⟩ := hSw; go_simp; try with_reducible rfl)
  try simp only [Act.put, List.setIfInBounds_toArray, List.set_cons_zero, List.set_cons_succ]
  refine wpAnyM_take (i := 12) [] (oi := { dst := some 39, op := Op.fieldAddr 28 (Operand.tmp 1) 2, type := 0, pos := _, after := #[{ on := 11, ground := Ground.guard }], guard := some (11, true) }) (v := .pointer (some ⟨w.heap.size, 2, none⟩)) rfl (by kernel_rfl) (by kernel_rfl) (by kernel_rfl) (by kernel_rfl) (fun _ _ _ h => h) (Or.inl ⟨by rfl, ?_⟩) (HS.out _ bC) ?_
  · (intro w' hSw; obtain ⟨m0, m1, m2, m3, m4, m5⟩ := hSw; go_simp; try with_reducible rfl)
  try simp only [Act.put, List.setIfInBounds_toArray, List.set_cons_zero, List.set_cons_succ]
  refine wpAnyM_take (i := 13) [] (oi := { dst := some 40, op := Op.load 24 (Operand.tmp 39), type := 24, pos := _, after := #[{ on := 12, ground := Ground.data }, { on := 11, ground := Ground.guard }], guard := some (11, true) }) (v := .slice cp cn cc) rfl (by kernel_rfl) (by kernel_rfl) (by kernel_rfl) (by kernel_rfl) (fun _ _ _ h => h) (Or.inl ⟨by rfl, ?_⟩) (HS.out _ bC) ?_
  · (intro w' hSw; obtain ⟨m0, m1, m2, m3, m4, m5⟩ := hSw; go_simp; try with_reducible rfl)
  try simp only [Act.put, List.setIfInBounds_toArray, List.set_cons_zero, List.set_cons_succ]
  refine wpAnyM_take (i := 14) [] (oi := { dst := some 41, op := Op.fieldAddr 28 (Operand.tmp 1) 4, type := 0, pos := _, after := #[{ on := 11, ground := Ground.guard }], guard := some (11, true) }) (v := .pointer (some ⟨w.heap.size, 5, none⟩)) rfl (by kernel_rfl) (by kernel_rfl) (by kernel_rfl) (by kernel_rfl) (fun _ _ _ h => h) (Or.inl ⟨by rfl, ?_⟩) (HS.out _ bC) ?_
  · (intro w' hSw; obtain ⟨m0, m1, m2, m3, m4, m5⟩ := hSw; go_simp; try with_reducible rfl)
  try simp only [Act.put, List.setIfInBounds_toArray, List.set_cons_zero, List.set_cons_succ]
  refine wpAnyM_take (i := 15) [] (oi := { dst := some 42, op := Op.load 2 (Operand.tmp 41), type := 2, pos := _, after := #[{ on := 14, ground := Ground.data }, { on := 11, ground := Ground.guard }], guard := some (11, true) }) (v := .int .i64 qts) rfl (by kernel_rfl) (by kernel_rfl) (by kernel_rfl) (by kernel_rfl) (fun _ _ _ h => h) (Or.inl ⟨by rfl, ?_⟩) (HS.out _ bC) ?_
  · (intro w' hSw; obtain ⟨m0, m1, m2, m3, m4, m5⟩ := hSw; go_simp; try with_reducible rfl)
  try simp only [Act.put, List.setIfInBounds_toArray, List.set_cons_zero, List.set_cons_succ]
  refine wpAnyM_take (i := 17) [] (oi := { dst := some 44, op := Op.fieldAddr 28 (Operand.tmp 1) 2, type := 0, pos := _, after := #[{ on := 11, ground := Ground.guard }], guard := some (11, true) }) (v := .pointer (some ⟨w.heap.size, 2, none⟩)) rfl (by kernel_rfl) (by kernel_rfl) (by kernel_rfl) (by kernel_rfl) (fun _ _ _ h => h) (Or.inl ⟨by rfl, ?_⟩) (HS.out _ bC) ?_
  · (intro w' hSw; obtain ⟨m0, m1, m2, m3, m4, m5⟩ := hSw; go_simp; try with_reducible rfl)
  try simp only [Act.put, List.setIfInBounds_toArray, List.set_cons_zero, List.set_cons_succ]
  refine wpAnyM_take (i := 18) [] (oi := { dst := some 45, op := Op.load 24 (Operand.tmp 44), type := 24, pos := _, after := #[{ on := 17, ground := Ground.data }, { on := 11, ground := Ground.guard }], guard := some (11, true) }) (v := .slice cp cn cc) rfl (by kernel_rfl) (by kernel_rfl) (by kernel_rfl) (by kernel_rfl) (fun _ _ _ h => h) (Or.inl ⟨by rfl, ?_⟩) (HS.out _ bC) ?_
  · (intro w' hSw; obtain ⟨m0, m1, m2, m3, m4, m5⟩ := hSw; go_simp; try with_reducible rfl)
  try simp only [Act.put, List.setIfInBounds_toArray, List.set_cons_zero, List.set_cons_succ]
  refine wpAnyM_take (i := 19) [] (oi := { dst := some 46, op := Op.fieldAddr 28 (Operand.tmp 1) 4, type := 0, pos := _, after := #[{ on := 11, ground := Ground.guard }], guard := some (11, true) }) (v := .pointer (some ⟨w.heap.size, 5, none⟩)) rfl (by kernel_rfl) (by kernel_rfl) (by kernel_rfl) (by kernel_rfl) (fun _ _ _ h => h) (Or.inl ⟨by rfl, ?_⟩) (HS.out _ bC) ?_
  · (intro w' hSw; obtain ⟨m0, m1, m2, m3, m4, m5⟩ := hSw; go_simp; try with_reducible rfl)
  try simp only [Act.put, List.setIfInBounds_toArray, List.set_cons_zero, List.set_cons_succ]
  refine wpAnyM_take (i := 20) [] (oi := { dst := some 47, op := Op.load 2 (Operand.tmp 46), type := 2, pos := _, after := #[{ on := 19, ground := Ground.data }, { on := 11, ground := Ground.guard }], guard := some (11, true) }) (v := .int .i64 qts) rfl (by kernel_rfl) (by kernel_rfl) (by kernel_rfl) (by kernel_rfl) (fun _ _ _ h => h) (Or.inl ⟨by rfl, ?_⟩) (HS.out _ bC) ?_
  · (intro w' hSw; obtain ⟨m0, m1, m2, m3, m4, m5⟩ := hSw; go_simp; try with_reducible rfl)
  try simp only [Act.put, List.setIfInBounds_toArray, List.set_cons_zero, List.set_cons_succ]
  refine wpAnyM_ready (rs := [16]) (by kernel_rfl) (by simp) ?_
  refine AllReadyM.cons (o := { dst := some 43, op := Op.call { callee := Callee.value (Operand.func 14), args := #[Operand.tmp 40, Operand.tmp 42], argTypes := #[24, 2] }, type := 22, pos := _, after := #[{ on := 13, ground := Ground.data }, { on := 15, ground := Ground.data }, { on := 11, ground := Ground.chain }, { on := 11, ground := Ground.guard }], guard := some (11, true) }) rfl (fun K hK => ?_) AllReadyM.nil
  have HK9 : Hid (∀ a w, _ → K a w) := hK
  clear hK
  go_simp
  refine (foldc_any cp cn cc cl f 1048576 qts _ HN.out.2.2 (HQ.out _ bC).2.2.1 HNIL.out.2 (fun x hx => HCW.out x hx _ (HQ.out _ bC).2.2.2) HCN.out (by omega) (by omega)).mono ?_
  rintro e wD ⟨vD, mD, zD, rfl, samD, ascD, isD, anD⟩
  have hb := anD.below
  obtain ⟨pD, cD, rfl, prD, -⟩ := anD.prs
  obtain ⟨nD, hnD⟩ : ∃ nD, mD.length = nD := ⟨_, rfl⟩
  rw [hnD]
  clear anD
  have bD := bC.trans (hb.mono bC.size)
  clear hb
  refine HK9.out _ _ ⟨fun _ => (HS.out _ bD), ?_⟩
  clear HK9 K
  try simp only [Act.put, List.setIfInBounds_toArray, List.set_cons_zero, List.set_cons_succ]
  refine wpAnyM_ready (rs := [21]) (by kernel_rfl) (by simp) ?_
  refine AllReadyM.cons (o := { dst := some 48, op := Op.call { callee := Callee.value (Operand.func 15), args := #[Operand.tmp 45, Operand.tmp 47], argTypes := #[24, 2] }, type := 22, pos := _, after := #[{ on := 18, ground := Ground.data }, { on := 20, ground := Ground.data }, { on := 16, ground := Ground.chain }, { on := 11, ground := Ground.guard }], guard := some (11, true) }) rfl (fun K hK => ?_) AllReadyM.nil
  have HK9 : Hid (∀ a w, _ → K a w) := hK
  clear hK
  go_simp
  refine (dfold_any cp cn cc cl f qts _ HN.out.2.2 (HQ.out _ bD).2.2.1 (fun x hx u hu => HCW.out x hx u ((HQ.out _ bD).2.2.2.trans (hu.mono (HQ.out _ bD).2.2.2.size))) HCN.out (by omega)).mono ?_
  rintro e wE ⟨vE, mE, zE, rfl, samE, ascE, isE, oE, lE, hb⟩
  have bE := bD.trans (hb.mono bD.size)
  obtain rfl : zE = zD := (samE.symm.trans samD).one ascE ascD
  obtain rfl : mE = mD := isE.one isD
  obtain ⟨pE, cE, rfl, prE, -, -⟩ := oE.els prknd
  rw [hnD] at lE ⊢
  have prD2 := Els.below prD hb (Nat.le_refl _)
  clear oE samE samD ascE ascD isE isD
  clear hb
  refine HK9.out _ _ ⟨fun _ => (HS.out _ bE), ?_⟩
  clear HK9 K
  try simp only [Act.put, List.setIfInBounds_toArray, List.set_cons_zero, List.set_cons_succ]
  refine wpAnyM_ready (rs := [22]) (by kernel_rfl) (by simp) ?_
  refine AllReadyM.cons (o := { dst := some 49, op := Op.call { callee := Callee.value (Operand.func 11), args := #[Operand.tmp 43, Operand.tmp 48], argTypes := #[22, 22] }, type := 4, pos := _, after := #[{ on := 16, ground := Ground.data }, { on := 21, ground := Ground.data }, { on := 21, ground := Ground.chain }, { on := 11, ground := Ground.guard }], guard := some (11, true) }) rfl (fun K hK => ?_) AllReadyM.nil
  have HK9 : Hid (∀ a w, _ → K a w) := hK
  clear hK
  go_simp
  refine (samePairs_any pD pE nD nD cD cE mE mE _ hnD hnD prD2 prE (by omega) (by omega)).mono ?_
  rw [Pl.same_refl]
  rintro e wF ⟨rfl, hb⟩
  have bF := bE.trans (hb.mono bE.size)
  clear prD prD2 prE
  clear hb
  refine HK9.out _ _ ⟨fun _ => (HS.out _ bF), ?_⟩
  clear HK9 K
  try simp only [Act.put, List.setIfInBounds_toArray, List.set_cons_zero, List.set_cons_succ]
  refine wpAnyM_take (i := 23) [] (oi := { dst := some 50, op := Op.pick (Operand.tmp 38) (Operand.tmp 49) (Operand.const (Value.bool false)), type := 4, pos := _, after := #[{ on := 11, ground := Ground.data }, { on := 22, ground := Ground.data }], guard := none }) (v := .bool true) rfl (by kernel_rfl) (by kernel_rfl) (by kernel_rfl) (by kernel_rfl) (fun _ _ _ h => h) (Or.inl ⟨by rfl, ?_⟩) (HS.out _ bF) ?_
  · (intro w' hSw; obtain ⟨m0, m1, m2, m3, m4, m5⟩ := hSw; go_simp; try with_reducible rfl)
  try simp only [Act.put, List.setIfInBounds_toArray, List.set_cons_zero, List.set_cons_succ]
  refine wpAnyM_take (i := 24) [] (oi := { dst := some 51, op := Op.move (Operand.tmp 50), type := 4, pos := _, after := #[{ on := 23, ground := Ground.data }, { on := 22, ground := Ground.chain }], guard := none }) (v := .bool true) rfl (by kernel_rfl) (by kernel_rfl) (by kernel_rfl) (by kernel_rfl) (fun _ _ _ h => h) (Or.inl ⟨by rfl, ?_⟩) (HS.out _ bF) ?_
  · (intro w' hSw; obtain ⟨m0, m1, m2, m3, m4, m5⟩ := hSw; go_simp; try with_reducible rfl)
  try simp only [Act.put, List.setIfInBounds_toArray, List.set_cons_zero, List.set_cons_succ]
  refine wpAnyM_take (i := 25) [] (oi := { dst := some 52, op := Op.fieldAddr 28 (Operand.tmp 1) 0, type := 0, pos := _, after := #[{ on := 24, ground := Ground.guard }], guard := some (24, true) }) (v := .pointer (some ⟨w.heap.size, 0, none⟩)) rfl (by kernel_rfl) (by kernel_rfl) (by kernel_rfl) (by kernel_rfl) (fun _ _ _ h => h) (Or.inl ⟨by rfl, ?_⟩) (HS.out _ bF) ?_
  · (intro w' hSw; obtain ⟨m0, m1, m2, m3, m4, m5⟩ := hSw; go_simp; try with_reducible rfl)
  try simp only [Act.put, List.setIfInBounds_toArray, List.set_cons_zero, List.set_cons_succ]
  refine wpAnyM_take (i := 26) [] (oi := { dst := some 53, op := Op.load 22 (Operand.tmp 52), type := 22, pos := _, after := #[{ on := 25, ground := Ground.data }, { on := 24, ground := Ground.guard }], guard := some (24, true) }) (v := .slice pp pn pc) rfl (by kernel_rfl) (by kernel_rfl) (by kernel_rfl) (by kernel_rfl) (fun _ _ _ h => h) (Or.inl ⟨by rfl, ?_⟩) (HS.out _ bF) ?_
  · (intro w' hSw; obtain ⟨m0, m1, m2, m3, m4, m5⟩ := hSw; go_simp; try with_reducible rfl)
  try simp only [Act.put, List.setIfInBounds_toArray, List.set_cons_zero, List.set_cons_succ]
  refine wpAnyM_take (i := 27) [] (oi := { dst := some 54, op := Op.fieldAddr 28 (Operand.tmp 1) 3, type := 0, pos := _, after := #[{ on := 24, ground := Ground.guard }], guard := some (24, true) }) (v := .pointer (some ⟨w.heap.size, 3, none⟩)) rfl (by kernel_rfl) (by kernel_rfl) (by kernel_rfl) (by kernel_rfl) (fun _ _ _ h => h) (Or.inl ⟨by rfl, ?_⟩) (HS.out _ bF) ?_
  · (intro w' hSw; obtain ⟨m0, m1, m2, m3, m4, m5⟩ := hSw; go_simp; try with_reducible rfl)
  try simp only [Act.put, List.setIfInBounds_toArray, List.set_cons_zero, List.set_cons_succ]
  refine wpAnyM_take (i := 28) [] (oi := { dst := some 55, op := Op.load 26 (Operand.tmp 54), type := 26, pos := _, after := #[{ on := 27, ground := Ground.data }, { on := 24, ground := Ground.guard }], guard := some (24, true) }) (v := .agg #[.string lo, .string hi]) rfl (by kernel_rfl) (by kernel_rfl) (by kernel_rfl) (by kernel_rfl) (fun _ _ _ h => h) (Or.inl ⟨by rfl, ?_⟩) (HS.out _ bF) ?_
  · (intro w' hSw; obtain ⟨m0, m1, m2, m3, m4, m5⟩ := hSw; go_simp; try with_reducible rfl)
  try simp only [Act.put, List.setIfInBounds_toArray, List.set_cons_zero, List.set_cons_succ]
  refine wpAnyM_take (i := 30) [] (oi := { dst := some 57, op := Op.fieldAddr 28 (Operand.tmp 1) 0, type := 0, pos := _, after := #[{ on := 24, ground := Ground.guard }], guard := some (24, true) }) (v := .pointer (some ⟨w.heap.size, 0, none⟩)) rfl (by kernel_rfl) (by kernel_rfl) (by kernel_rfl) (by kernel_rfl) (fun _ _ _ h => h) (Or.inl ⟨by rfl, ?_⟩) (HS.out _ bF) ?_
  · (intro w' hSw; obtain ⟨m0, m1, m2, m3, m4, m5⟩ := hSw; go_simp; try with_reducible rfl)
  try simp only [Act.put, List.setIfInBounds_toArray, List.set_cons_zero, List.set_cons_succ]
  refine wpAnyM_take (i := 31) [] (oi := { dst := some 58, op := Op.load 22 (Operand.tmp 57), type := 22, pos := _, after := #[{ on := 30, ground := Ground.data }, { on := 24, ground := Ground.guard }], guard := some (24, true) }) (v := .slice pp pn pc) rfl (by kernel_rfl) (by kernel_rfl) (by kernel_rfl) (by kernel_rfl) (fun _ _ _ h => h) (Or.inl ⟨by rfl, ?_⟩) (HS.out _ bF) ?_
  · (intro w' hSw; obtain ⟨m0, m1, m2, m3, m4, m5⟩ := hSw; go_simp; try with_reducible rfl)
  try simp only [Act.put, List.setIfInBounds_toArray, List.set_cons_zero, List.set_cons_succ]
  refine wpAnyM_take (i := 32) [] (oi := { dst := some 59, op := Op.fieldAddr 28 (Operand.tmp 1) 3, type := 0, pos := _, after := #[{ on := 24, ground := Ground.guard }], guard := some (24, true) }) (v := .pointer (some ⟨w.heap.size, 3, none⟩)) rfl (by kernel_rfl) (by kernel_rfl) (by kernel_rfl) (by kernel_rfl) (fun _ _ _ h => h) (Or.inl ⟨by rfl, ?_⟩) (HS.out _ bF) ?_
  · (intro w' hSw; obtain ⟨m0, m1, m2, m3, m4, m5⟩ := hSw; go_simp; try with_reducible rfl)
  try simp only [Act.put, List.setIfInBounds_toArray, List.set_cons_zero, List.set_cons_succ]
  refine wpAnyM_take (i := 33) [] (oi := { dst := some 60, op := Op.load 26 (Operand.tmp 59), type := 26, pos := _, after := #[{ on := 32, ground := Ground.data }, { on := 24, ground := Ground.guard }], guard := some (24, true) }) (v := .agg #[.string lo, .string hi]) rfl (by kernel_rfl) (by kernel_rfl) (by kernel_rfl) (by kernel_rfl) (fun _ _ _ h => h) (Or.inl ⟨by rfl, ?_⟩) (HS.out _ bF) ?_
  · (intro w' hSw; obtain ⟨m0, m1, m2, m3, m4, m5⟩ := hSw; go_simp; try with_reducible rfl)
  try simp only [Act.put, List.setIfInBounds_toArray, List.set_cons_zero, List.set_cons_succ]
  refine wpAnyM_ready (rs := [29]) (by kernel_rfl) (by simp) ?_
  refine AllReadyM.cons (o := { dst := some 56, op := Op.call { callee := Callee.value (Operand.func 16), args := #[Operand.tmp 53, Operand.tmp 55], argTypes := #[22, 26] }, type := 22, pos := _, after := #[{ on := 26, ground := Ground.data }, { on := 28, ground := Ground.data }, { on := 24, ground := Ground.chain }, { on := 24, ground := Ground.guard }], guard := some (24, true) }) rfl (fun K hK => ?_) AllReadyM.nil
  have HK9 : Hid (∀ a w, _ → K a w) := hK
  clear hK
  go_simp
  refine (slice_any pp pn pc ps ⟨lo, hi⟩ _ HN.out.1 (HQ.out _ bF).1 (by omega)).mono ?_
  rintro e wG ⟨vG, rfl, oG, hb⟩
  have bG := bF.trans (hb.mono bF.size)
  obtain ⟨pG, cG, rfl, prG, -, -⟩ := oG.els prknd
  obtain ⟨nG, hnG⟩ : ∃ nG, (Pl.slice ⟨lo, hi⟩ ps).length = nG := ⟨_, rfl⟩
  have lG : nG ≤ pn := (by rw [← hnG, ← HN.out.1]; exact List.length_filter_le _ _)
  rw [hnG]
  clear oG
  clear hb
  refine HK9.out _ _ ⟨fun _ => (HS.out _ bG), ?_⟩
  clear HK9 K
  try simp only [Act.put, List.setIfInBounds_toArray, List.set_cons_zero, List.set_cons_succ]
  refine wpAnyM_ready (rs := [34]) (by kernel_rfl) (by simp) ?_
  refine AllReadyM.cons (o := { dst := some 61, op := Op.call { callee := Callee.value (Operand.func 17), args := #[Operand.tmp 58, Operand.tmp 60], argTypes := #[22, 26] }, type := 22, pos := _, after := #[{ on := 31, ground := Ground.data }, { on := 33, ground := Ground.data }, { on := 29, ground := Ground.chain }, { on := 24, ground := Ground.guard }], guard := some (24, true) }) rfl (fun K hK => ?_) AllReadyM.nil
  have HK9 : Hid (∀ a w, _ → K a w) := hK
  clear hK
  go_simp
  refine (dslice_any pp pn pc ps ⟨lo, hi⟩ _ HN.out.1 (HQ.out _ bG).1 (by omega)).mono ?_
  rintro e wH ⟨vH, rfl, oH, hb⟩
  have bH := bG.trans (hb.mono bG.size)
  obtain ⟨pH, cH, rfl, prH, -, -⟩ := oH.els prknd
  rw [hnG]
  have prG2 := Els.below prG hb (Nat.le_refl _)
  clear oH
  clear hb
  refine HK9.out _ _ ⟨fun _ => (HS.out _ bH), ?_⟩
  clear HK9 K
  try simp only [Act.put, List.setIfInBounds_toArray, List.set_cons_zero, List.set_cons_succ]
  refine wpAnyM_ready (rs := [35]) (by kernel_rfl) (by simp) ?_
  refine AllReadyM.cons (o := { dst := some 62, op := Op.call { callee := Callee.value (Operand.func 11), args := #[Operand.tmp 56, Operand.tmp 61], argTypes := #[22, 22] }, type := 4, pos := _, after := #[{ on := 29, ground := Ground.data }, { on := 34, ground := Ground.data }, { on := 34, ground := Ground.chain }, { on := 24, ground := Ground.guard }], guard := some (24, true) }) rfl (fun K hK => ?_) AllReadyM.nil
  have HK9 : Hid (∀ a w, _ → K a w) := hK
  clear hK
  go_simp
  refine (samePairs_any pG pH nG nG cG cH _ _ _ hnG hnG prG2 prH (by omega) (by omega)).mono ?_
  rw [Pl.same_refl]
  rintro e wI ⟨rfl, hb⟩
  have bI := bH.trans (hb.mono bH.size)
  clear hb
  refine HK9.out _ _ ⟨fun _ => (HS.out _ bI), ?_⟩
  clear HK9 K
  try simp only [Act.put, List.setIfInBounds_toArray, List.set_cons_zero, List.set_cons_succ]
  refine wpAnyM_take (i := 36) [] (oi := { dst := some 63, op := Op.pick (Operand.tmp 51) (Operand.tmp 62) (Operand.const (Value.bool false)), type := 4, pos := _, after := #[{ on := 24, ground := Ground.data }, { on := 35, ground := Ground.data }], guard := none }) (v := .bool true) rfl (by kernel_rfl) (by kernel_rfl) (by kernel_rfl) (by kernel_rfl) (fun _ _ _ h => h) (Or.inl ⟨by rfl, ?_⟩) (HS.out _ bI) ?_
  · (intro w' hSw; obtain ⟨m0, m1, m2, m3, m4, m5⟩ := hSw; go_simp; try with_reducible rfl)
  try simp only [Act.put, List.setIfInBounds_toArray, List.set_cons_zero, List.set_cons_succ]
  refine wpAnyM_ready (rs := [37]) (by kernel_rfl) (by simp) ?_
  refine AllReadyM.cons (o := { dst := some 2, op := Op.assign (Operand.tmp 63), type := 4, pos := _, after := #[{ on := 36, ground := Ground.data }, { on := 35, ground := Ground.chain }, { on := 0, ground := Ground.phase }, { on := 1, ground := Ground.phase }, { on := 2, ground := Ground.phase }, { on := 3, ground := Ground.phase }, { on := 4, ground := Ground.phase }, { on := 5, ground := Ground.phase }, { on := 6, ground := Ground.phase }, { on := 7, ground := Ground.phase }, { on := 8, ground := Ground.phase }, { on := 9, ground := Ground.phase }, { on := 10, ground := Ground.phase }, { on := 11, ground := Ground.phase }, { on := 12, ground := Ground.phase }, { on := 13, ground := Ground.phase }, { on := 14, ground := Ground.phase }, { on := 15, ground := Ground.phase }, { on := 16, ground := Ground.phase }, { on := 17, ground := Ground.phase }, { on := 18, ground := Ground.phase }, { on := 19, ground := Ground.phase }, { on := 20, ground := Ground.phase }, { on := 21, ground := Ground.phase }, { on := 22, ground := Ground.phase }, { on := 23, ground := Ground.phase }, { on := 24, ground := Ground.phase }, { on := 25, ground := Ground.phase }, { on := 26, ground := Ground.phase }, { on := 27, ground := Ground.phase }, { on := 28, ground := Ground.phase }, { on := 29, ground := Ground.phase }, { on := 30, ground := Ground.phase }, { on := 31, ground := Ground.phase }, { on := 32, ground := Ground.phase }, { on := 33, ground := Ground.phase }, { on := 34, ground := Ground.phase }, { on := 35, ground := Ground.phase }, { on := 36, ground := Ground.phase }], guard := none }) rfl (fun K hK => ?_) AllReadyM.nil
  have HK9 : Hid (∀ a w, _ → K a w) := hK
  clear hK
  go_simp
  refine HK9.out _ _ ⟨fun _ => (HS.out _ bI), ?_⟩
  clear HK9 K
  try simp only [Act.put, List.setIfInBounds_toArray, List.set_cons_zero, List.set_cons_succ]
  refine wpAnyM_done (by kernel_rfl) ?_ _
  go_wp2
  go_ret
  exact ⟨rfl, (HQ.out _ bI).2.2.2⟩

theorem contract_versionMaps (H : Type) (enc : TypeId × Value → H) (W : World) (base : Nat) (args : Array Value) (ds gs : List (DataW H)) (before : List MemPlace)
    (hval0 : ∀ (j : Nat) t v, Try.f3.params[j]? = some t → args[j]? = some v → Value.okWide Try.prog W .any base t v)
    (hW : DataW.Whole enc Try.prog Try.f3.params.toList Rows.versionMapsSpec.vars false W args.toList ds gs before) (hk : Rows.uptoSmall H (ds ++ gs) = true) :
    Calls Try.prog 3 args W fun e W' => ∃ v, e = .returned v ∧ Rows.versionMapsSpec.post enc Try.prog Try.f3 false true false false W args v W' := by
  have hval : ∀ (j : Nat) t v, Try.f3.params[j]? = some t → args[j]? = some v → Value.okWide Try.prog W .any base t v := hval0
  have hW' := hW
  obtain ⟨p, q, hA0, hV, rfl, hfz, hnd⟩ := hW
  have hA : DataW.TrodAll enc Try.prog W 0 (fun _ => true) true Try.f3.params.toList args.toList ds p := hA0
  rw [Try.params3] at hA hval
  obtain ⟨v0, vs0, d0, ds0, p0, q0, hargs, rfl, rfl, h0, r0⟩ := trodAll_cons hA
  obtain ⟨rfl, rfl, rfl⟩ := trodAll_nil r0
  obtain rfl : args = #[v0] := by cases args; simp_all
  obtain ⟨rfl, rfl⟩ := trodVars_none hV
  simp only [List.append_nil] at hk
  have k0 := h0
  have lt0 : ∀ x ∈ p0, x.block < W.heap.size := by obtain ⟨m, hm⟩ := k0; exact DataW.trod_lt m _ _ _ hm
  obtain ⟨q0', ps0, ws0', cl0, e0, w0⟩ : ∃ q ps ws cl, v0 = Mq.v q ∧ MqIn W q ps ws cl := by
    obtain ⟨cs, hcs, _⟩ := okWide_struct Try.underlying28 (hval 0 28 v0 rfl rfl)
    obtain ⟨fuel, hf⟩ := h0
    obtain ⟨q, ps, ws, cl, hg, ho⟩ := in_maps hf (Nat.le_trans (bulk_part (by simp)) (bulk_bound hk))
    refine ⟨q, ps, ws, cl, ?_, ho⟩
    rw [hcs] at hg ⊢
    congr 1
    apply Array.ext'
    simpa [Value.cells, Mq.cells] using hg
  subst e0
  clear hA0 hval0
  simp only [List.append_nil] at hW'
  refine (walk_versionMaps q0' ps0 ws0' cl0 W w0).mono fun e W' ⟨he, bel⟩ => ?_
  subst he
  exact ⟨_, rfl, _, _, _, [], _, [], hW', trodAll_mk1 (shut_bool Try.underlying4 _), (trodAll_cons_mk (Below.trod laidOut (by kernel_rfl) (of_decide_eq_true (by kernel_rfl)) k0 bel lt0) trodAll_mk0), rfl, bel.frame _, fun h => by cases h⟩

set_option maxRecDepth 100000 in
set_option maxHeartbeats 2000000 in
theorem lifted_versionMaps (os : Os) (started : os.Started) (H : Type) (enc : TypeId × Value → H) (F : Stop.Interp) :
    ReturnsInHanded {} Try.checked os 3 .any ((Rows.OpenSpec.upto Rows.versionMapsSpec).pre6 enc Try.prog Try.f3 Rows.versionMapsUptoRow.domain false) (((Rows.OpenSpec.upto Rows.versionMapsSpec).at F).post enc Try.prog Try.f3 false true false false) := by
  refine returnsInHanded_of_cond (C := Try.checked) (s := Rows.OpenSpec.upto Rows.versionMapsSpec) (k := Rows.uptoSmall) rfl own started (by kernel_rfl) Try.func3
    (OpenSpec.witness (enc := enc) (C := Try.checked) (s := Rows.OpenSpec.upto Rows.versionMapsSpec) (k := Rows.uptoSmall) rfl false ⟨#[], #[.agg #[.slice none 0 0, .slice none 0 0, .slice none 0 0, .string .empty, .string .empty, .int .i64 0, .int .i64 0]], []⟩ 8 (by kernel_rfl) (by kernel_rfl) (by kernel_rfl)
      (x := ([.agg [.nil, .nil, .nil, .agg [.lit (.string []), .lit (.string [])], .lit (.int .i64 0), .lit (.int .i64 0)]], [], [])) (by kernel_rfl) rfl (by kernel_rfl)) ?_
  intro W base args ds gs before hval hW _ hk _
  exact contract_versionMaps H enc W base args ds gs before hval hW hk

/-- The statement. -/
theorem versionMaps_holds : Rows.VersionMapsUptoSaid :=
  OpenClaim.holds_of_cond 3 Try.f3 rfl rfl rfl rfl rfl rfl rfl ⟨rfl, rfl, rfl, rfl, rfl⟩ rfl rfl rfl rfl rfl (by kernel_rfl) Try.func3 (by kernel_rfl)
    (of_decide_eq_true (by kernel_rfl)) (by unfold Func.isWrapper; first | (rw [if_pos (by decide +kernel)]; kernel_rfl) | (rw [if_neg (by decide +kernel)]; exact ⟨rfl, rfl⟩))
    (fun os started H enc _ F => lifted_versionMaps os started H enc F)
#print axioms versionMaps_holds
end Go.Proofs.Ytilabcolfabnmaa
