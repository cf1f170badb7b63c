/- Arenas of links: which handles are good. -/
import Derived.Test.YtbdcdiihaecheaaAgA1L
namespace Go.Proofs.Ytbdcdiihaecheaa
open Go.RowKit
set_option linter.unusedVariables false
set_option maxRecDepth 100000
set_option linter.unusedSectionVars false
variable [Inhabited Cl] [Inhabited Ln]

set_option maxHeartbeats 1000000 in
theorem checkGoodL {w : World} {B : Nat} {bs : List Nat} {a : Ar Ln} (h : Arn Ln.cells 5 tAL tSL w B bs a) (s g : Int) (hg : a.Good s g) :
    Calls Try.prog 76 #[.pointer (some ⟨B, 0, none⟩), .agg #[.int .i64 s, .int .i64 g]] w fun e w' => e = .returned (.int .i64 0) ∧ Below w.heap.size w w' := by
  obtain ⟨uv, fv, fr, -, h⟩ := h
  obtain ⟨h0, h1, hgv, rfl⟩ := hg
  obtain ⟨i, rfl⟩ : ∃ i : Nat, s = (i : Int) := ⟨s.toNat, by omega⟩
  have hi : i < a.us.length := by omega
  rw [Int.toNat_natCast] at hgv ⊢
  obtain ⟨gb, c, rfl⟩ := row_some h.row (by omega)
  obtain ⟨w1, hw1, -, hb1, h', hk, k0, k1⟩ := h.boxed (i : Int) (slAt a.us i).gen
  have HB : Hid (Below w.heap.size w w1) := hb1
  obtain ⟨r0, r1, r2, r3, r4, r5, r6⟩ := sl7 rfl h'.row i hi
  obtain ⟨c0, c1, c2, c3⟩ := h'.four
  have hs1 := h.s1
  have hlen : a.us.length ≤ 65536 := Nat.le_trans h.le h.s2
  rw [hgv] at r1
  clear h h' hk hb1
  generalize (slAt a.us i).gen = g at *
  generalize a.us.length = n at *
  have g1 : ¬ (i : Int) < 0 := by omega
  have g2 : ¬ (n : Int) ≤ (i : Int) := by omega
  go_enter Try.func76, Try.ntmps76
  go_wp2_with fail
  refine (madeL c0 hs1).mono ?_
  rintro e w2 ⟨rfl, rfl⟩
  go_wp2_with fail
  go_quiet (fail)
  go_wp2
  go_ret
  exact ⟨rfl, below_drewN HB.out _⟩

theorem bad_endL {w w1 w3 : World} {B : Nat} {uv fv : Value} {fr : List Nat} {a : Ar Ln} (hb : Below w.heap.size w w1) (h : IsAr Ln.cells 5 tAL tSL w1 B uv fv fr a) (nq : Nat) (hw : w3 = (w1.drewN nq).setCell ⟨B, 3, none⟩ (.int .i64 (a.stale + 1))) : ArT Ln.cells 5 tAL tSL w w3 B (bsOf B uv fv) a.bad := by
  have hd : Tn [] w1 (w1.drewN nq) := Tn.of_below (below_drewN (Below.refl _ _) _) _
  exact ArT.pre ((Tn.of_below hb []).trans hd (by simp)) ((h.tn hd (by simp)).badT hw)

set_option maxHeartbeats 1000000 in
theorem checkLowL {w w1 : World} {B n c : Nat} {p : Option Addr} {sz : Nat} {st s g : Int} {R : World → Prop} (hw1 : w.alloc (.cells #[.int .i64 s, .int .i64 g] 36) = w1) (k0 : w1.cell? ⟨w.heap.size, 0, none⟩ = some (.int .i64 s)) (k1 : w1.cell? ⟨w.heap.size, 1, none⟩ = some (.int .i64 g))
    (c0 : w1.cell? ⟨B, 0, none⟩ = some (.int .i64 sz)) (c1 : w1.cell? ⟨B, 1, none⟩ = some (.slice p n c)) (c3 : w1.cell? ⟨B, 3, none⟩ = some (.int .i64 st)) (f3 : w1.frozen? ⟨B, 3, none⟩ = false) (hs1 : 1 ≤ sz) (hn : n ≤ 65536) (hs0 : 0 ≤ st) (hs9 : st < 9223372036854775807)
    (hR : ∀ nq w3, w3 = (w1.drewN nq).setCell ⟨B, 3, none⟩ (.int .i64 (st + 1)) → R w3)
    (g1 : s < 0) :
    Calls Try.prog 76 #[.pointer (some ⟨B, 0, none⟩), .agg #[.int .i64 s, .int .i64 g]] w fun e w' => e = .returned (.int .i64 7) ∧ R w' := by
  have HE : Hid (∀ nq w3, w3 = (w1.drewN nq).setCell ⟨B, 3, none⟩ (.int .i64 (st + 1)) → R w3) := hR
  have HF : Hid (∀ nq, (w1.drewN nq).cell? ⟨B, 3, none⟩ = some (.int .i64 st) ∧ (w1.drewN nq).frozen? ⟨B, 3, none⟩ = false) := fun nq => ⟨c3, f3⟩
  clear hR f3
  go_enter Try.func76, Try.ntmps76
  go_wp2_with fail
  refine (madeL c0 hs1).mono ?_
  rintro e w2 ⟨rfl, rfl⟩
  go_wp2_with fail
  go_quiet (fail)
  go_wp2_with fail
  refine (count_any (HF.out nq).1 (HF.out nq).2 hs0 hs9).mono ?_
  rintro e w3 ⟨rfl, hw3⟩
  have HT : Hid _ := HE.out nq w3 hw3
  clear hw3 HE HF
  go_wp2
  go_ret
  exact ⟨rfl, HT.out⟩

set_option maxHeartbeats 1000000 in
theorem checkHighL {w w1 : World} {B n c : Nat} {p : Option Addr} {sz : Nat} {st s g : Int} {R : World → Prop} (hw1 : w.alloc (.cells #[.int .i64 s, .int .i64 g] 36) = w1) (k0 : w1.cell? ⟨w.heap.size, 0, none⟩ = some (.int .i64 s)) (k1 : w1.cell? ⟨w.heap.size, 1, none⟩ = some (.int .i64 g))
    (c0 : w1.cell? ⟨B, 0, none⟩ = some (.int .i64 sz)) (c1 : w1.cell? ⟨B, 1, none⟩ = some (.slice p n c)) (c3 : w1.cell? ⟨B, 3, none⟩ = some (.int .i64 st)) (f3 : w1.frozen? ⟨B, 3, none⟩ = false) (hs1 : 1 ≤ sz) (hn : n ≤ 65536) (hs0 : 0 ≤ st) (hs9 : st < 9223372036854775807)
    (hR : ∀ nq w3, w3 = (w1.drewN nq).setCell ⟨B, 3, none⟩ (.int .i64 (st + 1)) → R w3)
    (g1 : ¬ s < 0) (g2 : (n : Int) ≤ s) :
    Calls Try.prog 76 #[.pointer (some ⟨B, 0, none⟩), .agg #[.int .i64 s, .int .i64 g]] w fun e w' => e = .returned (.int .i64 7) ∧ R w' := by
  have HE : Hid (∀ nq w3, w3 = (w1.drewN nq).setCell ⟨B, 3, none⟩ (.int .i64 (st + 1)) → R w3) := hR
  have HF : Hid (∀ nq, (w1.drewN nq).cell? ⟨B, 3, none⟩ = some (.int .i64 st) ∧ (w1.drewN nq).frozen? ⟨B, 3, none⟩ = false) := fun nq => ⟨c3, f3⟩
  clear hR f3
  have d1 : decide (s < 0) = false := by simp; omega
  have d2 : decide ((n : Int) ≤ s) = true := by simp; omega
  go_enter Try.func76, Try.ntmps76
  go_wp2_with fail
  refine (madeL c0 hs1).mono ?_
  rintro e w2 ⟨rfl, rfl⟩
  go_wp2_with fail
  go_quiet (fail)
  go_wp2_with fail
  refine (count_any (HF.out nq).1 (HF.out nq).2 hs0 hs9).mono ?_
  rintro e w3 ⟨rfl, hw3⟩
  have HT : Hid _ := HE.out nq w3 hw3
  clear hw3 HE HF
  go_wp2
  go_ret
  exact ⟨rfl, HT.out⟩

set_option maxHeartbeats 1000000 in
theorem checkTakenL {w w1 : World} {B n c : Nat} {gb : Nat} {g0 : Int} {i : Nat} {sz : Nat} {st g : Int} {R : World → Prop} (hw1 : w.alloc (.cells #[.int .i64 (i : Int), .int .i64 g] 36) = w1) (k0 : w1.cell? ⟨w.heap.size, 0, none⟩ = some (.int .i64 (i : Int))) (k1 : w1.cell? ⟨w.heap.size, 1, none⟩ = some (.int .i64 g))
    (c0 : w1.cell? ⟨B, 0, none⟩ = some (.int .i64 sz)) (c1 : w1.cell? ⟨B, 1, none⟩ = some (.slice (some ⟨gb, 0, none⟩) n c)) (c3 : w1.cell? ⟨B, 3, none⟩ = some (.int .i64 st)) (f3 : w1.frozen? ⟨B, 3, none⟩ = false) (hs1 : 1 ≤ sz) (hn : n ≤ 65536) (hs0 : 0 ≤ st) (hs9 : st < 9223372036854775807)
    (hR : ∀ nq w3, w3 = (w1.drewN nq).setCell ⟨B, 3, none⟩ (.int .i64 (st + 1)) → R w3)
    (hi : i < n) (r1 : w1.cell? ⟨gb, i * 7 + 1, none⟩ = some (.bool false)) :
    Calls Try.prog 76 #[.pointer (some ⟨B, 0, none⟩), .agg #[.int .i64 (i : Int), .int .i64 g]] w fun e w' => e = .returned (.int .i64 7) ∧ R w' := by
  have HE : Hid (∀ nq w3, w3 = (w1.drewN nq).setCell ⟨B, 3, none⟩ (.int .i64 (st + 1)) → R w3) := hR
  have HF : Hid (∀ nq, (w1.drewN nq).cell? ⟨B, 3, none⟩ = some (.int .i64 st) ∧ (w1.drewN nq).frozen? ⟨B, 3, none⟩ = false) := fun nq => ⟨c3, f3⟩
  clear hR f3
  have d1 : decide ((i : Int) < 0) = false := by simp
  have d2 : decide (n ≤ i) = false := by simp; omega
  go_enter Try.func76, Try.ntmps76
  go_wp2_with fail
  refine (madeL c0 hs1).mono ?_
  rintro e w2 ⟨rfl, rfl⟩
  go_wp2_with fail
  go_quiet (fail)
  go_wp2_with fail
  refine (count_any (HF.out nq).1 (HF.out nq).2 hs0 hs9).mono ?_
  rintro e w3 ⟨rfl, hw3⟩
  have HT : Hid _ := HE.out nq w3 hw3
  clear hw3 HE HF
  go_wp2
  go_ret
  exact ⟨rfl, HT.out⟩

set_option maxHeartbeats 1000000 in
theorem checkOtherL {w w1 : World} {B n c : Nat} {gb : Nat} {g0 : Int} {i : Nat} {sz : Nat} {st g : Int} {R : World → Prop} (hw1 : w.alloc (.cells #[.int .i64 (i : Int), .int .i64 g] 36) = w1) (k0 : w1.cell? ⟨w.heap.size, 0, none⟩ = some (.int .i64 (i : Int))) (k1 : w1.cell? ⟨w.heap.size, 1, none⟩ = some (.int .i64 g))
    (c0 : w1.cell? ⟨B, 0, none⟩ = some (.int .i64 sz)) (c1 : w1.cell? ⟨B, 1, none⟩ = some (.slice (some ⟨gb, 0, none⟩) n c)) (c3 : w1.cell? ⟨B, 3, none⟩ = some (.int .i64 st)) (f3 : w1.frozen? ⟨B, 3, none⟩ = false) (hs1 : 1 ≤ sz) (hn : n ≤ 65536) (hs0 : 0 ≤ st) (hs9 : st < 9223372036854775807)
    (hR : ∀ nq w3, w3 = (w1.drewN nq).setCell ⟨B, 3, none⟩ (.int .i64 (st + 1)) → R w3)
    (hi : i < n) (r1 : w1.cell? ⟨gb, i * 7 + 1, none⟩ = some (.bool true)) (r0 : w1.cell? ⟨gb, i * 7, none⟩ = some (.int .i64 g0)) (hne : (g0 != g) = true) :
    Calls Try.prog 76 #[.pointer (some ⟨B, 0, none⟩), .agg #[.int .i64 (i : Int), .int .i64 g]] w fun e w' => e = .returned (.int .i64 7) ∧ R w' := by
  have HE : Hid (∀ nq w3, w3 = (w1.drewN nq).setCell ⟨B, 3, none⟩ (.int .i64 (st + 1)) → R w3) := hR
  have HF : Hid (∀ nq, (w1.drewN nq).cell? ⟨B, 3, none⟩ = some (.int .i64 st) ∧ (w1.drewN nq).frozen? ⟨B, 3, none⟩ = false) := fun nq => ⟨c3, f3⟩
  clear hR f3
  have d1 : decide ((i : Int) < 0) = false := by simp
  have d2 : decide (n ≤ i) = false := by simp; omega
  go_enter Try.func76, Try.ntmps76
  go_wp2_with fail
  refine (madeL c0 hs1).mono ?_
  rintro e w2 ⟨rfl, rfl⟩
  go_wp2_with fail
  go_quiet (fail)
  go_wp2_with fail
  refine (count_any (HF.out nq).1 (HF.out nq).2 hs0 hs9).mono ?_
  rintro e w3 ⟨rfl, hw3⟩
  have HT : Hid _ := HE.out nq w3 hw3
  clear hw3 HE HF
  go_wp2
  go_ret
  exact ⟨rfl, HT.out⟩

theorem checkBadL {w : World} {B : Nat} {bs : List Nat} {a : Ar Ln} (h : Arn Ln.cells 5 tAL tSL w B bs a) (s g : Int) (hg : ¬ a.Good s g) (hs0 : 0 ≤ a.stale) (hs9 : a.stale < 9223372036854775807) :
    Calls Try.prog 76 #[.pointer (some ⟨B, 0, none⟩), .agg #[.int .i64 s, .int .i64 g]] w fun e w' => e = .returned (.int .i64 7) ∧ ArT Ln.cells 5 tAL tSL w w' B bs a.bad := by
  obtain ⟨uv, fv, fr, rfl, h⟩ := h
  obtain ⟨w1, hw1, -, hb1, h', hk, k0, k1⟩ := h.boxed s g
  have hR : ∀ nq w3, w3 = (w1.drewN nq).setCell ⟨B, 3, none⟩ (.int .i64 (a.stale + 1)) → ArT Ln.cells 5 tAL tSL w w3 B (bsOf B uv fv) a.bad := fun nq w3 hw => bad_endL hb1 h' nq hw
  obtain ⟨c0, c1, c2, c3⟩ := h'.four
  have f3 := h'.wt.blk.frozen 3
  have hlen : a.us.length ≤ 65536 := Nat.le_trans h.le h.s2
  by_cases g1 : s < 0
  · obtain ⟨p, c, rfl⟩ := h.uform
    exact checkLowL hw1 k0 k1 c0 c1 c3 f3 h.s1 hlen hs0 hs9 hR g1
  · by_cases g2 : (a.us.length : Int) ≤ s
    · obtain ⟨p, c, rfl⟩ := h.uform
      exact checkHighL hw1 k0 k1 c0 c1 c3 f3 h.s1 hlen hs0 hs9 hR g1 g2
    · obtain ⟨i, rfl⟩ : ∃ i : Nat, s = (i : Int) := ⟨s.toNat, by omega⟩
      have hi : i < a.us.length := by omega
      obtain ⟨gb, c, rfl⟩ := row_some h.row (by omega)
      obtain ⟨r0, r1, r2, r3, r4, r5, r6⟩ := sl7 rfl h'.row i hi
      cases hgv : (slAt a.us i).given with
      | false =>
        rw [hgv] at r1
        exact checkTakenL (g0 := 0) hw1 k0 k1 c0 c1 c3 f3 h.s1 hlen hs0 hs9 hR hi r1
      | true =>
        have hne : ((slAt a.us i).gen != g) = true := by
          simp only [bne_iff_ne, ne_eq]
          intro e
          exact hg ⟨by omega, by omega, by rw [Int.toNat_natCast]; exact hgv, by rw [Int.toNat_natCast]; exact e⟩
        rw [hgv] at r1
        exact checkOtherL hw1 k0 k1 c0 c1 c3 f3 h.s1 hlen hs0 hs9 hR hi r1 r0 hne
end Go.Proofs.Ytbdcdiihaecheaa
