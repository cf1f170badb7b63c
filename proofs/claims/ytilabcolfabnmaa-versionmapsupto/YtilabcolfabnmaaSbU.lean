/- The commits up to a timestamp, in order: upTo. -/
import Derived.Test.YtilabcolfabnmaaSbD
namespace Go.Proofs.Ytilabcolfabnmaa
open Go.RowKit Go.Sort
set_option linter.unusedVariables false
set_option maxRecDepth 100000

theorem isort_none (f : Value) (w : World) : Calls Try.prog 67 #[.slice none 0 0, .int .i64 0, .int .i64 0, f] w fun e w' => e = .returned (.tuple #[]) ∧ w' = w := by
  go_enter Try.func67, Try.ntmps67
  go_wp2_with fail
  refine wp_loop_rounds 1 ?_
  rw [rounds_succ]
  go_wp2
  go_end0
  exact ⟨rfl, rfl⟩

theorem stable_none (f : Value) (w : World) : Calls Try.prog 61 #[.slice none 0 0, .int .i64 0, f] w fun e w' => e = .returned (.tuple #[]) ∧ w' = w := by
  go_enter Try.func61, Try.ntmps61
  go_wp2_with fail
  refine wp_loop_rounds 1 ?_
  rw [rounds_succ]
  go_wp2_with (go_at_call 67; refine (isort_none _ _).mono ?_; rintro e w1 ⟨rfl, rfl⟩)
  refine wp_loop_rounds 1 ?_
  rw [rounds_succ]
  go_wp2
  go_end0
  exact ⟨rfl, rfl⟩

theorem sstable_none (f : Value) (w : World) : Calls Try.prog 47 #[.slice none 0 0, f] w fun e w' => e = .returned (.tuple #[]) ∧ w' = w := by
  go_enter Try.func47, Try.ntmps47
  go_wp2_with fail
  refine (stable_none _ _).mono ?_
  rintro e w1 ⟨rfl, rfl⟩
  go_wp2
  go_end0
  exact ⟨rfl, rfl⟩

theorem sstable_any (g cap n : Nat) (L : List Cm) (w : World) (hr : Rcm w g L) (hg : g < w.heap.size) (hn : L.length = n) (hl : n ≤ 4398046511104) :
    Calls Try.prog 47 #[.slice (some ⟨g, 0, none⟩) n cap, .func (.func 48) #[] #[]] w fun e w' => e = .returned (.tuple #[]) ∧ ∃ Z, Rcm w' g Z ∧ Sam Cm.ts L Z ∧ Asc Cm.ts Z ∧ Tn [g] w w' := by
  have hc := stable_any g cap n L w hr hg hn hl
  clear hr hg hn
  go_enter Try.func47, Try.ntmps47
  go_wp2_with fail
  refine hc.mono ?_
  rintro e w1 ⟨rfl, hz⟩
  have HZ : Hid (∃ Z, Rcm w1 g Z ∧ Sam Cm.ts L Z ∧ Asc Cm.ts Z ∧ Tn [g] w w1) := hz
  clear hz hc
  go_wp2
  go_end0
  exact ⟨rfl, HZ.out⟩

theorem delc_none (ts : Int) (B : Nat) (w : World) (hc : w.cell? ⟨B, 0, none⟩ = some (.int .i64 ts)) :
    Calls Try.prog 44 #[.slice none 0 0, .func (.func 46) #[] #[.pointer (some ⟨B, 0, none⟩)]] w fun e w' => e = .returned (.slice none 0 0) ∧ Below w.heap.size w w' := by
  have hidx := firstC_any ts B none 0 0 [] w hc rfl (Els.nil _ _) (by decide)
  clear hc
  go_enter Try.func44, Try.ntmps44
  go_wp2_with fail
  refine hidx.mono ?_
  rintro e w1 ⟨h1 | h1, hb1⟩
  · obtain ⟨rfl, -⟩ := h1
    have HB : Hid (Below w.heap.size w w1) := hb1
    clear hidx hb1
    go_wp2
    go_ret
    exact ⟨rfl, HB.out⟩
  · obtain ⟨k, -, hk, -⟩ := h1
    omega

set_option maxHeartbeats 2000000 in
theorem upTo_any (p : Option Addr) (n c : Nat) (l : List Cm) (ts : Int) (w : World) (hn : l.length = n) (hx : Els Cm.cells 2 w p l) (hp : p = none → n = 0 ∧ c = 0) (hl : n ≤ 4398046510976) :
    Calls Try.prog 32 #[.slice p n c, .int .i64 ts] w fun e w' => ∃ q m c' Z, e = .returned (.slice q m c') ∧ Z.length = m ∧ m ≤ n ∧ Els Cm.cells 2 w' q Z ∧ Sam Cm.ts (keepC ts l) Z ∧ Asc Cm.ts Z ∧ (∀ b o, q = some ⟨b, o, none⟩ → w.heap.size ≤ b) ∧ Below w.heap.size w w' := by
  obtain ⟨w0, hw0⟩ : ∃ w0, w.alloc (.cells #[.int .i64 ts] 2) = w0 := ⟨_, rfl⟩
  have hb0 : Below w.heap.size w w0 := by rw [← hw0]; exact (Below.refl _ _).alloc (Nat.le_refl _) _
  have hk0 : Bk w0 w.heap.size 2 #[.int .i64 ts] := by rw [← hw0]; exact Bk.new _ _ _
  have hs0 : w0.heap.size = w.heap.size + 1 := by rw [← hw0]; show _ = _; simp
  have hcl := cloneC_any p n c l w0 hn (hx.below hb0 (Nat.le_refl _)) hl hp
  have HB0 : Hid (Below w.heap.size w w0) := hb0
  have HK0 : Hid (Bk w0 w.heap.size 2 #[.int .i64 ts]) := hk0
  have HS0 : Hid (w0.heap.size = w.heap.size + 1) := hs0
  have HN : Hid (l.length = n) := hn
  have HKL : Hid ((keepC ts l).length ≤ n) := by have := keepC_len ts l; unfold Hid; omega
  clear hb0 hk0 hs0 hn hx hp
  go_enter Try.func32, Try.ntmps32
  go_wp2_with fail
  refine hcl.mono ?_
  rintro e w1 ⟨v, rfl, ho, hb1⟩
  have HB1 : Hid (Below w.heap.size w w1) := HB0.out.trans (hb1.mono HB0.out.size)
  have hc1 : w1.cell? ⟨w.heap.size, 0, none⟩ = some (.int .i64 ts) := (HK0.out.below hb1 HK0.out.lt).cell 0
  rcases ho.2 with ⟨hv, hln⟩ | ⟨g, cap, cur, hv, hbb, hg, hle, hcm, hcur, htake⟩
  · subst hv
    have HL0 : Hid (l = []) := List.eq_nil_of_length_eq_zero hln
    have hd := delc_none ts w.heap.size w1 hc1
    clear ho hb1 hcl hc1 hln hw0
    go_wp2_with fail
    refine hd.mono ?_
    rintro e w2 ⟨rfl, hb2⟩
    have HB2 : Hid (Below w.heap.size w w2) := HB1.out.trans (hb2.mono HB1.out.size)
    clear hd hb2
    go_wp2_with (go_at_call 47; refine (sstable_none _ _).mono ?_; rintro e w3 ⟨rfl, rfl⟩)
    go_ret
    refine ⟨_, _, _, [], rfl, rfl, Nat.zero_le _, Els.nil _ _, ?_, Asc.nil, fun b o h => (by cases h), HB2.out⟩
    rw [HL0.out]
    exact Sam.refl _
  · subst hv
    have hgl : g < w1.heap.size := (Array.getElem?_eq_some_iff.1 hg).1
    have hrc := Own.rcm ho rfl
    have hd := delc_any ts w.heap.size g l.length cap l w1 hrc rfl hgl hc1 (by have := HS0.out; omega) (by unfold maxLen at hcm; omega) hle (by have := HN.out; omega)
    have HG : Hid (w.heap.size ≤ g ∧ g < w1.heap.size) := ⟨by have := HS0.out; omega, hgl⟩
    clear ho hb1 hcl hc1 hw0 hrc hbb hg hle hcm hcur htake hgl
    go_wp2_with fail
    refine hd.mono ?_
    rintro e w2 ⟨rfl, hr2, ht2⟩
    have hss := sstable_any g cap (keepC ts l).length (keepC ts l) w2 hr2 (Nat.lt_of_lt_of_le HG.out.2 ht2.size) rfl (by have := HKL.out; omega)
    have HB2 : Hid (Below w.heap.size w w2) := HB1.out.trans (ht2.below HB1.out.size (by simpa using HG.out.1))
    clear hd hr2 ht2
    go_wp2_with fail
    refine hss.mono ?_
    rintro e w3 ⟨rfl, Z, h1, h2, h3, h4⟩
    have HB3 : Hid (Below w.heap.size w w3) := HB2.out.trans (h4.below HB2.out.size (by simpa using HG.out.1))
    have HZ : Hid (Els Cm.cells 2 w3 (some ⟨g, 0, none⟩) Z ∧ Sam Cm.ts (keepC ts l) Z ∧ Asc Cm.ts Z) := ⟨h1.els, h2, h3⟩
    clear hss h1 h2 h3 h4
    go_wp2
    go_ret
    exact ⟨_, _, _, Z, rfl, HZ.out.2.1.len.symm, HKL.out, HZ.out.1, HZ.out.2.1, HZ.out.2.2, fun b o h => (by cases h; exact HG.out.1), HB3.out⟩
end Go.Proofs.Ytilabcolfabnmaa
