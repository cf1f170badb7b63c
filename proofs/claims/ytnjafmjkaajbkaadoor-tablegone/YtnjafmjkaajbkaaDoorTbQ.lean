/- A step of a script, with both; all but a clone. -/
import Derived.Test.YtnjafmjkaajbkaaDoorTbP
import Derived.Test.YtnjafmjkaajbkaaDoorTbOpen
namespace Go.Proofs.YtnjafmjkaajbkaaDoor
open Go.RowKit
set_option linter.unusedVariables false
set_option maxRecDepth 100000

section
variable {w w' : World} {B : Nat} {bs : List Nat} {t : Tb} {R g1 g2 n : Nat} {r : Rt}

/-- The operation's box beside both. -/
theorem Pr.box (h : Pr w B bs t R g1 g2 n r) (dd page wa wb ia ib : Int) : ∃ w0, w.alloc (.cells #[.int .i64 dd, .int .i64 page, .int .i64 wa, .int .i64 wb, .int .i64 ia, .int .i64 ib] 34) = w0 ∧ Pr w0 B bs t R g1 g2 n r ∧ Below w.heap.size w w0 ∧ Bk w0 w.heap.size 34 #[.int .i64 dd, .int .i64 page, .int .i64 wa, .int .i64 wb, .int .i64 ia, .int .i64 ib] := by
  have hb : Below w.heap.size w (w.alloc (.cells #[.int .i64 dd, .int .i64 page, .int .i64 wa, .int .i64 wb, .int .i64 ia, .int .i64 ib] 34)) := (Below.refl _ w).alloc (Nat.le_refl _) _
  exact ⟨_, rfl, h.below hb, hb, Bk.new _ _ _⟩

theorem rLoad_at (h : IsR w R g1 g2 n r) (i : Nat) (hi : i < n) (hp : r.s (i : Int) = 1) {x : Int × Int} (hx : r.h (i : Int) = x) : Calls Tryd.prog 29 #[.pointer (some ⟨R, 0, none⟩), .int .i64 (i : Int)] w fun e w' => e = .returned (.tuple #[hv x, .int .i64 0]) ∧ Below w.heap.size w w' := by
  subst hx
  exact rLoad_live h i hi hp

theorem Prt.pre {w0 : World} {B' : Nat} (hb : Below w.heap.size w w0) (h : Prt w0 w' B' bs R g1 g2 n) : Prt w w' B' bs R g1 g2 n := by
  obtain ⟨bs', t', r', h1, h2, h3⟩ := h
  refine ⟨bs', t', r', h1, (Tn.of_below hb _).trans h2 (fun x hx => .inl hx), fun b hb' => ?_⟩
  rcases h3 b hb' with h | h
  · exact .inl h
  · exact .inr (Nat.le_trans hb.size h)
theorem Prt.post {w1 : World} {B' : Nat} (h : Prt w w1 B' bs R g1 g2 n) (hb : Below w1.heap.size w1 w') : Prt w w' B' bs R g1 g2 n := by
  obtain ⟨bs', t', r', h1, h2, h3⟩ := h
  exact ⟨bs', t', r', h1.below hb, h2.trans (Tn.of_below hb []) (by simp), h3⟩

set_option maxHeartbeats 2000000 in
theorem step_alloc_arg (h : Pr w B bs t R g1 g2 n r) (page wa wb : Int) : Calls Tryd.prog 10 #[.pointer (some ⟨B, 0, none⟩), .pointer (some ⟨R, 0, none⟩), .agg #[.int .i64 0, .int .i64 page, .int .i64 wa, .int .i64 wb, .int .i64 0, .int .i64 0]] w fun e w' => e = .returned (.tuple #[.pointer (some ⟨B, 0, none⟩), .bool true]) ∧ Prt w w' B bs R g1 g2 n := by
  obtain ⟨w0, hw0, h0, hb0, hk0⟩ := h.box 0 page wa wb 0 0
  have H0 : Hid (Pr w0 B bs t R g1 g2 n r) := h0
  have HB0 : Hid _ := hb0
  have HK0 : Hid (Bk w0 w.heap.size 34 #[.int .i64 0, .int .i64 page, .int .i64 wa, .int .i64 wb, .int .i64 0, .int .i64 0]) := hk0
  have HD : Hid (w.heap.size ∉ bs) := fun hm => by have := h.tb.lt _ hm; omega
  have c0 : w0.cell? ⟨w.heap.size, 0, none⟩ = some (.int .i64 0) := hk0.cell 0
  have c1 : w0.cell? ⟨w.heap.size, 1, none⟩ = some (.int .i64 page) := hk0.cell 1
  have c2 : w0.cell? ⟨w.heap.size, 2, none⟩ = some (.int .i64 wa) := hk0.cell 2
  have c3 : w0.cell? ⟨w.heap.size, 3, none⟩ = some (.int .i64 wb) := hk0.cell 3
  have c4 : w0.cell? ⟨w.heap.size, 4, none⟩ = some (.int .i64 0) := hk0.cell 4
  have c5 : w0.cell? ⟨w.heap.size, 5, none⟩ = some (.int .i64 0) := hk0.cell 5
  clear h h0 hb0 hk0
  go_enter Tryd.func10, Tryd.ntmps10
  go_wp2_with fail
  refine (tAlloc_arg H0.out.tb).mono ?_
  rintro e w1 ⟨rfl, b1⟩
  have H1 : Hid (Pr w1 B bs t R g1 g2 n r ∧ Below w.heap.size w w1) := ⟨H0.out.below b1, HB0.out.trans (b1.mono HB0.out.size)⟩
  have kb := HK0.out.below b1 HK0.out.lt
  have c1 : w1.cell? ⟨w.heap.size, 1, none⟩ = some (.int .i64 page) := kb.cell 1
  have c2 : w1.cell? ⟨w.heap.size, 2, none⟩ = some (.int .i64 wa) := kb.cell 2
  have c3 : w1.cell? ⟨w.heap.size, 3, none⟩ = some (.int .i64 wb) := kb.cell 3
  have c4 : w1.cell? ⟨w.heap.size, 4, none⟩ = some (.int .i64 0) := kb.cell 4
  have c5 : w1.cell? ⟨w.heap.size, 5, none⟩ = some (.int .i64 0) := kb.cell 5
  clear kb
  clear b1
  go_wp2_with fail
  refine (rAlloc_arg w1 R).mono ?_
  rintro e w2 ⟨rfl, b2⟩
  have HE : Hid (Prt w w2 B bs R g1 g2 n) := Prt.pre H1.out.2 (Prt.same H1.out.1 b2)
  clear b2
  go_wp2
  go_ret2
  exact ⟨rfl, HE.out⟩

set_option maxHeartbeats 2000000 in
theorem step_alloc_full (h : Pr w B bs t R g1 g2 n r) (page wa wb ia ib : Int) (hb : ¬ ((ia, ib) : Int × Int) = (0, 0)) (hf : ∀ i : Nat, i < n → r.s (i : Int) ≠ 0) : Calls Tryd.prog 10 #[.pointer (some ⟨B, 0, none⟩), .pointer (some ⟨R, 0, none⟩), .agg #[.int .i64 0, .int .i64 page, .int .i64 wa, .int .i64 wb, .int .i64 ia, .int .i64 ib]] w fun e w' => e = .returned (.tuple #[.pointer (some ⟨B, 0, none⟩), .bool true]) ∧ Prt w w' B bs R g1 g2 n := by
  obtain ⟨w0, hw0, h0, hb0, hk0⟩ := h.box 0 page wa wb ia ib
  have H0 : Hid (Pr w0 B bs t R g1 g2 n r) := h0
  have HB0 : Hid _ := hb0
  have HK0 : Hid (Bk w0 w.heap.size 34 #[.int .i64 0, .int .i64 page, .int .i64 wa, .int .i64 wb, .int .i64 ia, .int .i64 ib]) := hk0
  have HD : Hid (w.heap.size ∉ bs) := fun hm => by have := h.tb.lt _ hm; omega
  have c0 : w0.cell? ⟨w.heap.size, 0, none⟩ = some (.int .i64 0) := hk0.cell 0
  have c1 : w0.cell? ⟨w.heap.size, 1, none⟩ = some (.int .i64 page) := hk0.cell 1
  have c2 : w0.cell? ⟨w.heap.size, 2, none⟩ = some (.int .i64 wa) := hk0.cell 2
  have c3 : w0.cell? ⟨w.heap.size, 3, none⟩ = some (.int .i64 wb) := hk0.cell 3
  have c4 : w0.cell? ⟨w.heap.size, 4, none⟩ = some (.int .i64 ia) := hk0.cell 4
  have c5 : w0.cell? ⟨w.heap.size, 5, none⟩ = some (.int .i64 ib) := hk0.cell 5
  clear h h0 hb0 hk0
  have HF : Hid (¬ ((ia, ib) : Int × Int) = (0, 0) ∧ ∀ i : Nat, i < n → r.s (i : Int) ≠ 0) := ⟨hb, hf⟩
  clear hb hf
  go_enter Tryd.func10, Tryd.ntmps10
  go_wp2_with fail
  refine (tAlloc_full H0.out.tb (ia, ib) HF.out.1 (fun q hq hh => HF.out.2 q (by rw [← H0.out.rel.size]; exact hq) (by rw [H0.out.rel.st, hh]; rfl))).mono ?_
  rintro e w1 ⟨rfl, b1⟩
  have H1 : Hid (Pr w1 B bs t R g1 g2 n r ∧ Below w.heap.size w w1) := ⟨H0.out.below b1, HB0.out.trans (b1.mono HB0.out.size)⟩
  have kb := HK0.out.below b1 HK0.out.lt
  have c1 : w1.cell? ⟨w.heap.size, 1, none⟩ = some (.int .i64 page) := kb.cell 1
  have c2 : w1.cell? ⟨w.heap.size, 2, none⟩ = some (.int .i64 wa) := kb.cell 2
  have c3 : w1.cell? ⟨w.heap.size, 3, none⟩ = some (.int .i64 wb) := kb.cell 3
  have c4 : w1.cell? ⟨w.heap.size, 4, none⟩ = some (.int .i64 ia) := kb.cell 4
  have c5 : w1.cell? ⟨w.heap.size, 5, none⟩ = some (.int .i64 ib) := kb.cell 5
  clear kb
  clear b1
  go_wp2_with fail
  refine (rAlloc_full H1.out.1.rf ia ib HF.out.1 HF.out.2).mono ?_
  rintro e w2 ⟨rfl, b2⟩
  have HE : Hid (Prt w w2 B bs R g1 g2 n) := Prt.pre H1.out.2 (Prt.same H1.out.1 b2)
  clear b2
  go_wp2
  go_ret2
  exact ⟨rfl, HE.out⟩

set_option maxHeartbeats 2000000 in
theorem step_alloc_ok (h : Pr w B bs t R g1 g2 n r) (page wa wb ia ib : Int) (hb : ¬ ((ia, ib) : Int × Int) = (0, 0)) {p : Nat} (hp : p < n) (hf : r.s (p : Int) = 0) (hlow : ∀ i : Nat, i < p → r.s (i : Int) ≠ 0) : Calls Tryd.prog 10 #[.pointer (some ⟨B, 0, none⟩), .pointer (some ⟨R, 0, none⟩), .agg #[.int .i64 0, .int .i64 page, .int .i64 wa, .int .i64 wb, .int .i64 ia, .int .i64 ib]] w fun e w' => e = .returned (.tuple #[.pointer (some ⟨B, 0, none⟩), .bool true]) ∧ Prt w w' B bs R g1 g2 n := by
  obtain ⟨w0, hw0, h0, hb0, hk0⟩ := h.box 0 page wa wb ia ib
  have H0 : Hid (Pr w0 B bs t R g1 g2 n r) := h0
  have HB0 : Hid _ := hb0
  have HK0 : Hid (Bk w0 w.heap.size 34 #[.int .i64 0, .int .i64 page, .int .i64 wa, .int .i64 wb, .int .i64 ia, .int .i64 ib]) := hk0
  have HD : Hid (w.heap.size ∉ bs) := fun hm => by have := h.tb.lt _ hm; omega
  have c0 : w0.cell? ⟨w.heap.size, 0, none⟩ = some (.int .i64 0) := hk0.cell 0
  have c1 : w0.cell? ⟨w.heap.size, 1, none⟩ = some (.int .i64 page) := hk0.cell 1
  have c2 : w0.cell? ⟨w.heap.size, 2, none⟩ = some (.int .i64 wa) := hk0.cell 2
  have c3 : w0.cell? ⟨w.heap.size, 3, none⟩ = some (.int .i64 wb) := hk0.cell 3
  have c4 : w0.cell? ⟨w.heap.size, 4, none⟩ = some (.int .i64 ia) := hk0.cell 4
  have c5 : w0.cell? ⟨w.heap.size, 5, none⟩ = some (.int .i64 ib) := hk0.cell 5
  clear h h0 hb0 hk0
  have HF : Hid (¬ ((ia, ib) : Int × Int) = (0, 0) ∧ p < n ∧ r.s (p : Int) = 0 ∧ ∀ i : Nat, i < p → r.s (i : Int) ≠ 0) := ⟨hb, hp, hf, hlow⟩
  clear hb hf hp hlow
  go_enter Tryd.func10, Tryd.ntmps10
  go_wp2_with fail
  refine (tAlloc_ok H0.out.tb H0.out.tab (ia, ib) HF.out.1 (p := p) (by rw [H0.out.rel.size]; exact HF.out.2.1) (by have := HF.out.2.2.1; rw [H0.out.rel.st] at this; exact Pa.st0.1 this) (fun q hq hh => HF.out.2.2.2 q hq (by rw [H0.out.rel.st, hh]; rfl))).mono ?_
  rintro e w1 ⟨rfl, t1, c, U, T⟩
  have HT : Hid (TbT w0 w1 B bs t1) := T
  have HR : Hid (IsR w1 R g1 g2 n r) := T.ref H0.out.tb H0.out.rf
  have kb := HK0.out.tn (show Tn bs w0 w1 from T.choose_spec.2.1) HD.out
  have c1 : w1.cell? ⟨w.heap.size, 1, none⟩ = some (.int .i64 page) := kb.cell 1
  have c2 : w1.cell? ⟨w.heap.size, 2, none⟩ = some (.int .i64 wa) := kb.cell 2
  have c3 : w1.cell? ⟨w.heap.size, 3, none⟩ = some (.int .i64 wb) := kb.cell 3
  have c4 : w1.cell? ⟨w.heap.size, 4, none⟩ = some (.int .i64 ia) := kb.cell 4
  have c5 : w1.cell? ⟨w.heap.size, 5, none⟩ = some (.int .i64 ib) := kb.cell 5
  clear kb
  clear T
  go_wp2_with fail
  refine (rAlloc_ok HR.out ia ib HF.out.1 HF.out.2.1 HF.out.2.2.1 HF.out.2.2.2).mono ?_
  rintro e w2 ⟨rfl, k2, t2⟩
  have HE : Hid (Prt w w2 B bs R g1 g2 n) := Prt.pre HB0.out (Prt.both H0.out HT.out k2 t2 (H0.out.rel.upd H0.out.rf.ls H0.out.rf.lh HF.out.2.1 U (fun c y m e => by cases e; rfl) (fun hh => absurd rfl (hh _ _ _))))
  clear k2 t2
  go_wp2
  go_ret2
  exact ⟨rfl, HE.out⟩

set_option maxHeartbeats 2000000 in
theorem step_swap_none (h : Pr w B bs t R g1 g2 n r) (page wa wb ia ib : Int) (hp : r.s page ≠ 1) : Calls Tryd.prog 10 #[.pointer (some ⟨B, 0, none⟩), .pointer (some ⟨R, 0, none⟩), .agg #[.int .i64 2, .int .i64 page, .int .i64 wa, .int .i64 wb, .int .i64 ia, .int .i64 ib]] w fun e w' => e = .returned (.tuple #[.pointer (some ⟨B, 0, none⟩), .bool true]) ∧ Prt w w' B bs R g1 g2 n := by
  obtain ⟨w0, hw0, h0, hb0, hk0⟩ := h.box 2 page wa wb ia ib
  have H0 : Hid (Pr w0 B bs t R g1 g2 n r) := h0
  have HB0 : Hid _ := hb0
  have HK0 : Hid (Bk w0 w.heap.size 34 #[.int .i64 2, .int .i64 page, .int .i64 wa, .int .i64 wb, .int .i64 ia, .int .i64 ib]) := hk0
  have HD : Hid (w.heap.size ∉ bs) := fun hm => by have := h.tb.lt _ hm; omega
  have c0 : w0.cell? ⟨w.heap.size, 0, none⟩ = some (.int .i64 2) := hk0.cell 0
  have c1 : w0.cell? ⟨w.heap.size, 1, none⟩ = some (.int .i64 page) := hk0.cell 1
  have c2 : w0.cell? ⟨w.heap.size, 2, none⟩ = some (.int .i64 wa) := hk0.cell 2
  have c3 : w0.cell? ⟨w.heap.size, 3, none⟩ = some (.int .i64 wb) := hk0.cell 3
  have c4 : w0.cell? ⟨w.heap.size, 4, none⟩ = some (.int .i64 ia) := hk0.cell 4
  have c5 : w0.cell? ⟨w.heap.size, 5, none⟩ = some (.int .i64 ib) := hk0.cell 5
  clear h h0 hb0 hk0
  have HF : Hid (r.s page ≠ 1) := hp
  clear hp
  go_enter Tryd.func10, Tryd.ntmps10
  go_wp2_with fail
  refine (tSwap_none H0.out.tb (p := page) (by rw [← H0.out.rel.st]; exact HF.out) (wa, wb) (ia, ib)).mono ?_
  rintro e w1 ⟨rfl, b1⟩
  have H1 : Hid (Pr w1 B bs t R g1 g2 n r ∧ Below w.heap.size w w1) := ⟨H0.out.below b1, HB0.out.trans (b1.mono HB0.out.size)⟩
  have kb := HK0.out.below b1 HK0.out.lt
  have c1 : w1.cell? ⟨w.heap.size, 1, none⟩ = some (.int .i64 page) := kb.cell 1
  have c2 : w1.cell? ⟨w.heap.size, 2, none⟩ = some (.int .i64 wa) := kb.cell 2
  have c3 : w1.cell? ⟨w.heap.size, 3, none⟩ = some (.int .i64 wb) := kb.cell 3
  have c4 : w1.cell? ⟨w.heap.size, 4, none⟩ = some (.int .i64 ia) := kb.cell 4
  have c5 : w1.cell? ⟨w.heap.size, 5, none⟩ = some (.int .i64 ib) := kb.cell 5
  clear kb
  clear b1
  go_wp2_with fail
  refine (rSwap_none H1.out.1.rf page HF.out wa wb ia ib).mono ?_
  rintro e w2 ⟨rfl, b2⟩
  have HE : Hid (Prt w w2 B bs R g1 g2 n) := Prt.pre H1.out.2 (Prt.same H1.out.1 b2)
  clear b2
  go_wp2
  go_ret2
  exact ⟨rfl, HE.out⟩

set_option maxHeartbeats 2000000 in
theorem step_swap_arg (h : Pr w B bs t R g1 g2 n r) (page wa wb : Int) (hp : r.s page = 1) : Calls Tryd.prog 10 #[.pointer (some ⟨B, 0, none⟩), .pointer (some ⟨R, 0, none⟩), .agg #[.int .i64 2, .int .i64 page, .int .i64 wa, .int .i64 wb, .int .i64 0, .int .i64 0]] w fun e w' => e = .returned (.tuple #[.pointer (some ⟨B, 0, none⟩), .bool true]) ∧ Prt w w' B bs R g1 g2 n := by
  obtain ⟨w0, hw0, h0, hb0, hk0⟩ := h.box 2 page wa wb 0 0
  have H0 : Hid (Pr w0 B bs t R g1 g2 n r) := h0
  have HB0 : Hid _ := hb0
  have HK0 : Hid (Bk w0 w.heap.size 34 #[.int .i64 2, .int .i64 page, .int .i64 wa, .int .i64 wb, .int .i64 0, .int .i64 0]) := hk0
  have HD : Hid (w.heap.size ∉ bs) := fun hm => by have := h.tb.lt _ hm; omega
  have c0 : w0.cell? ⟨w.heap.size, 0, none⟩ = some (.int .i64 2) := hk0.cell 0
  have c1 : w0.cell? ⟨w.heap.size, 1, none⟩ = some (.int .i64 page) := hk0.cell 1
  have c2 : w0.cell? ⟨w.heap.size, 2, none⟩ = some (.int .i64 wa) := hk0.cell 2
  have c3 : w0.cell? ⟨w.heap.size, 3, none⟩ = some (.int .i64 wb) := hk0.cell 3
  have c4 : w0.cell? ⟨w.heap.size, 4, none⟩ = some (.int .i64 0) := hk0.cell 4
  have c5 : w0.cell? ⟨w.heap.size, 5, none⟩ = some (.int .i64 0) := hk0.cell 5
  clear h h0 hb0 hk0
  have HF : Hid (r.s page = 1) := hp
  clear hp
  go_enter Tryd.func10, Tryd.ntmps10
  go_wp2_with fail
  refine (tSwap_arg H0.out.tb (p := page) (by rw [← H0.out.rel.st]; exact HF.out) (wa, wb)).mono ?_
  rintro e w1 ⟨rfl, b1⟩
  have H1 : Hid (Pr w1 B bs t R g1 g2 n r ∧ Below w.heap.size w w1) := ⟨H0.out.below b1, HB0.out.trans (b1.mono HB0.out.size)⟩
  have kb := HK0.out.below b1 HK0.out.lt
  have c1 : w1.cell? ⟨w.heap.size, 1, none⟩ = some (.int .i64 page) := kb.cell 1
  have c2 : w1.cell? ⟨w.heap.size, 2, none⟩ = some (.int .i64 wa) := kb.cell 2
  have c3 : w1.cell? ⟨w.heap.size, 3, none⟩ = some (.int .i64 wb) := kb.cell 3
  have c4 : w1.cell? ⟨w.heap.size, 4, none⟩ = some (.int .i64 0) := kb.cell 4
  have c5 : w1.cell? ⟨w.heap.size, 5, none⟩ = some (.int .i64 0) := kb.cell 5
  clear kb
  clear b1
  go_wp2_with fail
  refine (rSwap_arg H1.out.1.rf page HF.out wa wb).mono ?_
  rintro e w2 ⟨rfl, b2⟩
  have HE : Hid (Prt w w2 B bs R g1 g2 n) := Prt.pre H1.out.2 (Prt.same H1.out.1 b2)
  clear b2
  go_wp2
  go_ret2
  exact ⟨rfl, HE.out⟩

set_option maxHeartbeats 2000000 in
theorem step_swap_hit (h : Pr w B bs t R g1 g2 n r) (page wa wb ia ib : Int) (hb : ¬ ((ia, ib) : Int × Int) = (0, 0)) (hp : r.s page = 1) (ha : r.h page = (wa, wb)) : Calls Tryd.prog 10 #[.pointer (some ⟨B, 0, none⟩), .pointer (some ⟨R, 0, none⟩), .agg #[.int .i64 2, .int .i64 page, .int .i64 wa, .int .i64 wb, .int .i64 ia, .int .i64 ib]] w fun e w' => e = .returned (.tuple #[.pointer (some ⟨B, 0, none⟩), .bool true]) ∧ Prt w w' B bs R g1 g2 n := by
  obtain ⟨w0, hw0, h0, hb0, hk0⟩ := h.box 2 page wa wb ia ib
  have H0 : Hid (Pr w0 B bs t R g1 g2 n r) := h0
  have HB0 : Hid _ := hb0
  have HK0 : Hid (Bk w0 w.heap.size 34 #[.int .i64 2, .int .i64 page, .int .i64 wa, .int .i64 wb, .int .i64 ia, .int .i64 ib]) := hk0
  have HD : Hid (w.heap.size ∉ bs) := fun hm => by have := h.tb.lt _ hm; omega
  have c0 : w0.cell? ⟨w.heap.size, 0, none⟩ = some (.int .i64 2) := hk0.cell 0
  have c1 : w0.cell? ⟨w.heap.size, 1, none⟩ = some (.int .i64 page) := hk0.cell 1
  have c2 : w0.cell? ⟨w.heap.size, 2, none⟩ = some (.int .i64 wa) := hk0.cell 2
  have c3 : w0.cell? ⟨w.heap.size, 3, none⟩ = some (.int .i64 wb) := hk0.cell 3
  have c4 : w0.cell? ⟨w.heap.size, 4, none⟩ = some (.int .i64 ia) := hk0.cell 4
  have c5 : w0.cell? ⟨w.heap.size, 5, none⟩ = some (.int .i64 ib) := hk0.cell 5
  clear h h0 hb0 hk0
  have hne : r.s page ≠ 0 := by omega
  obtain ⟨i, rfl, hi⟩ := H0.out.rel.idx H0.out.rf.ls hne
  obtain ⟨c, x, m, hpg, hx⟩ := H0.out.rel.live hp
  have HF : Hid (¬ ((ia, ib) : Int × Int) = (0, 0) ∧ i < n ∧ r.s (i : Int) = 1 ∧ r.h (i : Int) = (wa, wb) ∧ t.pg (i : Int) = Pa.live c x m ∧ x = (wa, wb)) := ⟨hb, hi, hp, ha, hpg, by rw [← hx]; exact ha⟩
  clear hb hp ha hi hpg hx hne
  go_enter Tryd.func10, Tryd.ntmps10
  go_wp2_with fail
  refine (tSwap_hit H0.out.tb HF.out.2.2.2.2.1 (wa, wb) (ia, ib) HF.out.1 HF.out.2.2.2.2.2).mono ?_
  rintro e w1 ⟨rfl, t1, n', U, T⟩
  have HT : Hid (TbT w0 w1 B bs t1) := T
  have HR : Hid (IsR w1 R g1 g2 n r) := T.ref H0.out.tb H0.out.rf
  have kb := HK0.out.tn (show Tn bs w0 w1 from T.choose_spec.2.1) HD.out
  have c1 : w1.cell? ⟨w.heap.size, 1, none⟩ = some (.int .i64 (i : Int)) := kb.cell 1
  have c2 : w1.cell? ⟨w.heap.size, 2, none⟩ = some (.int .i64 wa) := kb.cell 2
  have c3 : w1.cell? ⟨w.heap.size, 3, none⟩ = some (.int .i64 wb) := kb.cell 3
  have c4 : w1.cell? ⟨w.heap.size, 4, none⟩ = some (.int .i64 ia) := kb.cell 4
  have c5 : w1.cell? ⟨w.heap.size, 5, none⟩ = some (.int .i64 ib) := kb.cell 5
  clear kb
  clear T
  go_wp2_with fail
  refine (rSwap_hit HR.out i HF.out.2.1 HF.out.2.2.1 wa wb ia ib HF.out.1 HF.out.2.2.2.1).mono ?_
  rintro e w2 ⟨rfl, k2, t2⟩
  have HE : Hid (Prt w w2 B bs R g1 g2 n) := Prt.pre HB0.out (Prt.both H0.out HT.out k2 t2 (by
      have hr := H0.out.rel.upd H0.out.rf.ls H0.out.rf.lh HF.out.2.1 U (hd' := r.hd.set i (ia, ib)) (fun c y m e => by cases e; rfl) (fun hh => absurd rfl (hh _ _ _))
      have e : r.st.set i (Pa.live c (ia, ib) n').st = r.st := by
        have hil : i < r.st.length := by rw [H0.out.rf.ls]; exact HF.out.2.1
        have h1 := HF.out.2.2.1
        rw [Rt.s_nat] at h1
        have : r.st[i] = 1 := by simpa [List.getD, hil] using h1
        rw [show (Pa.live c (ia, ib) n').st = r.st[i] by rw [this]; rfl]
        exact List.set_getElem_self hil
      rw [e] at hr
      exact hr))
  clear k2 t2
  go_wp2
  go_ret2
  exact ⟨rfl, HE.out⟩

set_option maxHeartbeats 2000000 in
theorem step_swap_miss (h : Pr w B bs t R g1 g2 n r) (page wa wb ia ib : Int) (hb : ¬ ((ia, ib) : Int × Int) = (0, 0)) (hp : r.s page = 1) (ha : ¬ r.h page = (wa, wb)) : Calls Tryd.prog 10 #[.pointer (some ⟨B, 0, none⟩), .pointer (some ⟨R, 0, none⟩), .agg #[.int .i64 2, .int .i64 page, .int .i64 wa, .int .i64 wb, .int .i64 ia, .int .i64 ib]] w fun e w' => e = .returned (.tuple #[.pointer (some ⟨B, 0, none⟩), .bool true]) ∧ Prt w w' B bs R g1 g2 n := by
  obtain ⟨w0, hw0, h0, hb0, hk0⟩ := h.box 2 page wa wb ia ib
  have H0 : Hid (Pr w0 B bs t R g1 g2 n r) := h0
  have HB0 : Hid _ := hb0
  have HK0 : Hid (Bk w0 w.heap.size 34 #[.int .i64 2, .int .i64 page, .int .i64 wa, .int .i64 wb, .int .i64 ia, .int .i64 ib]) := hk0
  have HD : Hid (w.heap.size ∉ bs) := fun hm => by have := h.tb.lt _ hm; omega
  have c0 : w0.cell? ⟨w.heap.size, 0, none⟩ = some (.int .i64 2) := hk0.cell 0
  have c1 : w0.cell? ⟨w.heap.size, 1, none⟩ = some (.int .i64 page) := hk0.cell 1
  have c2 : w0.cell? ⟨w.heap.size, 2, none⟩ = some (.int .i64 wa) := hk0.cell 2
  have c3 : w0.cell? ⟨w.heap.size, 3, none⟩ = some (.int .i64 wb) := hk0.cell 3
  have c4 : w0.cell? ⟨w.heap.size, 4, none⟩ = some (.int .i64 ia) := hk0.cell 4
  have c5 : w0.cell? ⟨w.heap.size, 5, none⟩ = some (.int .i64 ib) := hk0.cell 5
  clear h h0 hb0 hk0
  have hne : r.s page ≠ 0 := by omega
  obtain ⟨i, rfl, hi⟩ := H0.out.rel.idx H0.out.rf.ls hne
  obtain ⟨c, x, m, hpg, hx⟩ := H0.out.rel.live hp
  have HF : Hid (¬ ((ia, ib) : Int × Int) = (0, 0) ∧ i < n ∧ r.s (i : Int) = 1 ∧ ¬ r.h (i : Int) = (wa, wb) ∧ t.pg (i : Int) = Pa.live c x m ∧ ¬ x = (wa, wb)) := ⟨hb, hi, hp, ha, hpg, by rw [← hx]; exact ha⟩
  clear hb hp ha hi hpg hx hne
  go_enter Tryd.func10, Tryd.ntmps10
  go_wp2_with fail
  refine (tSwap_miss H0.out.tb HF.out.2.2.2.2.1 (wa, wb) (ia, ib) HF.out.1 HF.out.2.2.2.2.2).mono ?_
  rintro e w1 ⟨rfl, T⟩
  have HT : Hid (TbT w0 w1 B bs { t with missed := wrap64 (t.missed + 1) }) := T
  have HR : Hid (IsR w1 R g1 g2 n r) := T.ref H0.out.tb H0.out.rf
  have kb := HK0.out.tn (show Tn bs w0 w1 from T.choose_spec.2.1) HD.out
  have c1 : w1.cell? ⟨w.heap.size, 1, none⟩ = some (.int .i64 (i : Int)) := kb.cell 1
  have c2 : w1.cell? ⟨w.heap.size, 2, none⟩ = some (.int .i64 wa) := kb.cell 2
  have c3 : w1.cell? ⟨w.heap.size, 3, none⟩ = some (.int .i64 wb) := kb.cell 3
  have c4 : w1.cell? ⟨w.heap.size, 4, none⟩ = some (.int .i64 ia) := kb.cell 4
  have c5 : w1.cell? ⟨w.heap.size, 5, none⟩ = some (.int .i64 ib) := kb.cell 5
  clear kb
  clear T
  go_wp2_with fail
  refine (rSwap_miss HR.out i HF.out.2.1 HF.out.2.2.1 wa wb ia ib HF.out.1 HF.out.2.2.2.1).mono ?_
  rintro e w2 ⟨rfl, k2, t2⟩
  have HE : Hid (Prt w w2 B bs R g1 g2 n) := Prt.pre HB0.out (Prt.both H0.out HT.out k2 t2 ⟨H0.out.rel.size, by show wrap64 (r.missed + 1) = wrap64 (t.missed + 1); rw [H0.out.rel.miss], H0.out.rel.st, H0.out.rel.hd⟩)
  clear k2 t2
  go_wp2
  go_ret2
  exact ⟨rfl, HE.out⟩

set_option maxHeartbeats 2000000 in
theorem step_retire_none (h : Pr w B bs t R g1 g2 n r) (page wa wb ia ib : Int) (hp : r.s page ≠ 1) : Calls Tryd.prog 10 #[.pointer (some ⟨B, 0, none⟩), .pointer (some ⟨R, 0, none⟩), .agg #[.int .i64 3, .int .i64 page, .int .i64 wa, .int .i64 wb, .int .i64 ia, .int .i64 ib]] w fun e w' => e = .returned (.tuple #[.pointer (some ⟨B, 0, none⟩), .bool true]) ∧ Prt w w' B bs R g1 g2 n := by
  obtain ⟨w0, hw0, h0, hb0, hk0⟩ := h.box 3 page wa wb ia ib
  have H0 : Hid (Pr w0 B bs t R g1 g2 n r) := h0
  have HB0 : Hid _ := hb0
  have HK0 : Hid (Bk w0 w.heap.size 34 #[.int .i64 3, .int .i64 page, .int .i64 wa, .int .i64 wb, .int .i64 ia, .int .i64 ib]) := hk0
  have HD : Hid (w.heap.size ∉ bs) := fun hm => by have := h.tb.lt _ hm; omega
  have c0 : w0.cell? ⟨w.heap.size, 0, none⟩ = some (.int .i64 3) := hk0.cell 0
  have c1 : w0.cell? ⟨w.heap.size, 1, none⟩ = some (.int .i64 page) := hk0.cell 1
  have c2 : w0.cell? ⟨w.heap.size, 2, none⟩ = some (.int .i64 wa) := hk0.cell 2
  have c3 : w0.cell? ⟨w.heap.size, 3, none⟩ = some (.int .i64 wb) := hk0.cell 3
  have c4 : w0.cell? ⟨w.heap.size, 4, none⟩ = some (.int .i64 ia) := hk0.cell 4
  have c5 : w0.cell? ⟨w.heap.size, 5, none⟩ = some (.int .i64 ib) := hk0.cell 5
  clear h h0 hb0 hk0
  have HT : Hid (∀ k, Calls Tryd.prog 16 #[.pointer (some ⟨B, 0, none⟩), .int .i64 page] (w0.drewN k) fun e w' => e = .returned (.int .i64 4) ∧ w' = w0.drewN k) := fun k => tRetire_none (H0.out.tb.below (below_drewN (Below.refl _ _) k)) (by rw [← H0.out.rel.st]; exact hp)
  have HR : Hid (∀ k, Calls Tryd.prog 27 #[.pointer (some ⟨R, 0, none⟩), .int .i64 page] (w0.drewN k) fun e w' => e = .returned (.int .i64 4) ∧ w' = w0.drewN k) := fun k => rRetire_none (H0.out.rf.below (below_drewN (Below.refl _ _) k)) page hp
  clear hp
  go_enter Tryd.func10, Tryd.ntmps10
  go_wp2_with fail
  go_quiet (first
    | (go_at_call 16; refine Calls.quiet_of_same (HT.out _))
    | (go_at_call 27; refine Calls.quiet_of_same (HR.out _)))
  go_wp2
  go_ret2
  exact ⟨rfl, Prt.pre HB0.out (Prt.same H0.out (below_drewN (Below.refl _ _) _))⟩

set_option maxHeartbeats 2000000 in
theorem step_release_none (h : Pr w B bs t R g1 g2 n r) (page wa wb ia ib : Int) (hp : r.s page ≠ 2) : Calls Tryd.prog 10 #[.pointer (some ⟨B, 0, none⟩), .pointer (some ⟨R, 0, none⟩), .agg #[.int .i64 4, .int .i64 page, .int .i64 wa, .int .i64 wb, .int .i64 ia, .int .i64 ib]] w fun e w' => e = .returned (.tuple #[.pointer (some ⟨B, 0, none⟩), .bool true]) ∧ Prt w w' B bs R g1 g2 n := by
  obtain ⟨w0, hw0, h0, hb0, hk0⟩ := h.box 4 page wa wb ia ib
  have H0 : Hid (Pr w0 B bs t R g1 g2 n r) := h0
  have HB0 : Hid _ := hb0
  have HK0 : Hid (Bk w0 w.heap.size 34 #[.int .i64 4, .int .i64 page, .int .i64 wa, .int .i64 wb, .int .i64 ia, .int .i64 ib]) := hk0
  have HD : Hid (w.heap.size ∉ bs) := fun hm => by have := h.tb.lt _ hm; omega
  have c0 : w0.cell? ⟨w.heap.size, 0, none⟩ = some (.int .i64 4) := hk0.cell 0
  have c1 : w0.cell? ⟨w.heap.size, 1, none⟩ = some (.int .i64 page) := hk0.cell 1
  have c2 : w0.cell? ⟨w.heap.size, 2, none⟩ = some (.int .i64 wa) := hk0.cell 2
  have c3 : w0.cell? ⟨w.heap.size, 3, none⟩ = some (.int .i64 wb) := hk0.cell 3
  have c4 : w0.cell? ⟨w.heap.size, 4, none⟩ = some (.int .i64 ia) := hk0.cell 4
  have c5 : w0.cell? ⟨w.heap.size, 5, none⟩ = some (.int .i64 ib) := hk0.cell 5
  clear h h0 hb0 hk0
  have HT : Hid (∀ k, Calls Tryd.prog 17 #[.pointer (some ⟨B, 0, none⟩), .int .i64 page] (w0.drewN k) fun e w' => e = .returned (.int .i64 4) ∧ w' = w0.drewN k) := fun k => tRelease_none (H0.out.tb.below (below_drewN (Below.refl _ _) k)) (by rw [← H0.out.rel.st]; exact hp)
  have HR : Hid (∀ k, Calls Tryd.prog 28 #[.pointer (some ⟨R, 0, none⟩), .int .i64 page] (w0.drewN k) fun e w' => e = .returned (.int .i64 4) ∧ w' = w0.drewN k) := fun k => rRelease_none (H0.out.rf.below (below_drewN (Below.refl _ _) k)) page hp
  clear hp
  go_enter Tryd.func10, Tryd.ntmps10
  go_wp2_with fail
  go_quiet (first
    | (go_at_call 17; refine Calls.quiet_of_same (HT.out _))
    | (go_at_call 28; refine Calls.quiet_of_same (HR.out _)))
  go_wp2
  go_ret2
  exact ⟨rfl, Prt.pre HB0.out (Prt.same H0.out (below_drewN (Below.refl _ _) _))⟩

set_option maxHeartbeats 2000000 in
theorem step_retire_ok (h : Pr w B bs t R g1 g2 n r) (page wa wb ia ib : Int) (hp : r.s page = 1) : Calls Tryd.prog 10 #[.pointer (some ⟨B, 0, none⟩), .pointer (some ⟨R, 0, none⟩), .agg #[.int .i64 3, .int .i64 page, .int .i64 wa, .int .i64 wb, .int .i64 ia, .int .i64 ib]] w fun e w' => e = .returned (.tuple #[.pointer (some ⟨B, 0, none⟩), .bool true]) ∧ Prt w w' B bs R g1 g2 n := by
  obtain ⟨w0, hw0, h0, hb0, hk0⟩ := h.box 3 page wa wb ia ib
  have H0 : Hid (Pr w0 B bs t R g1 g2 n r) := h0
  have HB0 : Hid _ := hb0
  have HK0 : Hid (Bk w0 w.heap.size 34 #[.int .i64 3, .int .i64 page, .int .i64 wa, .int .i64 wb, .int .i64 ia, .int .i64 ib]) := hk0
  have HD : Hid (w.heap.size ∉ bs) := fun hm => by have := h.tb.lt _ hm; omega
  have c0 : w0.cell? ⟨w.heap.size, 0, none⟩ = some (.int .i64 3) := hk0.cell 0
  have c1 : w0.cell? ⟨w.heap.size, 1, none⟩ = some (.int .i64 page) := hk0.cell 1
  have c2 : w0.cell? ⟨w.heap.size, 2, none⟩ = some (.int .i64 wa) := hk0.cell 2
  have c3 : w0.cell? ⟨w.heap.size, 3, none⟩ = some (.int .i64 wb) := hk0.cell 3
  have c4 : w0.cell? ⟨w.heap.size, 4, none⟩ = some (.int .i64 ia) := hk0.cell 4
  have c5 : w0.cell? ⟨w.heap.size, 5, none⟩ = some (.int .i64 ib) := hk0.cell 5
  clear h h0 hb0 hk0
  have hne : r.s page ≠ 0 := by omega
  obtain ⟨i, rfl, hi⟩ := H0.out.rel.idx H0.out.rf.ls hne
  obtain ⟨c, x, m, hpg, -⟩ := H0.out.rel.live hp
  have HPG : Hid (t.pg (i : Int) = Pa.live c x m) := hpg
  clear hpg
  have hil : i < r.st.length := by rw [H0.out.rf.ls]; exact hi
  have HU : Hid (∀ t', Tb.Upd t t' (i : Int) Pa.gone → Rel t' { r with st := r.st.set i 2 } n) := fun t' u => H0.out.rel.upd H0.out.rf.ls H0.out.rf.lh hi u (fun c y m e => by cases e) (fun _ => rfl)
  have HT : Hid (∀ v, Tbn v B bs t → Calls Tryd.prog 16 #[.pointer (some ⟨B, 0, none⟩), .int .i64 (i : Int)] v fun e w' => e = .returned (.int .i64 0) ∧ ∃ t', Tb.Upd t t' (i : Int) Pa.gone ∧ TbT v w' B bs t') := fun v hv => tRetire_live hv HPG.out
  have HR : Hid (∀ v, IsR v R g1 g2 n r → Calls Tryd.prog 27 #[.pointer (some ⟨R, 0, none⟩), .int .i64 (i : Int)] v fun e w' => e = .returned (.int .i64 0) ∧ IsR w' R g1 g2 n { r with st := r.st.set i 2 } ∧ Tn [R, g1, g2] v w') := fun v hv => rRetire_live hv i hi hp
  have P0 : Hid (Pr w0.drew B bs t R g1 g2 n r) := H0.out.below (Below.refl _ _).drew
  have HC : Hid (∀ v S, Tn S w0.drew v → (∀ b ∈ S, b ∈ bs ∨ b ∈ [R, g1, g2]) → v.cell? ⟨w.heap.size, 1, none⟩ = some (.int .i64 (i : Int))) := fun v S hv hS => by
    refine (HK0.out.drew.tn hv (fun hm => ?_)).cell 1
    rcases hS _ hm with hb | hb
    · exact HD.out hb
    · simp at hb
      have k := HK0.out
      rcases hb with hb | hb | hb
      · exact (ne_type k H0.out.rf.blk (by decide)) hb
      · exact (ne_type k H0.out.rf.st (by decide)) hb
      · exact (ne_type k H0.out.rf.hd (by decide)) hb
  clear hp hi hne hil
  go_enter Tryd.func10, Tryd.ntmps10
  go_wp2_with fail
  go_region_held3 (fun v => v.cell? ⟨w.heap.size, 1, none⟩ = some (.int .i64 (i : Int))) (go_keep) (first
    | (go_at_call 16; refine (HT.out _ (by first | exact P0.out.tb | exact PR.out.2.1)).mono ?_; rintro e v ⟨rfl, t1, U, T⟩; first
        | (have PE : Hid (Prt w0.drew v B bs R g1 g2 n) := Prt.rev P0.out PR.out.1 PR.out.2.2 T (HU.out t1 U); have c1 := HC.out v _ ((PR.out.2.2.mono (T := bs ++ [R, g1, g2]) (by intro x hx; exact List.mem_append.2 (.inr hx))).trans T.choose_spec.2.1 (by intro x hx; exact .inl (List.mem_append.2 (.inl hx)))) (by intro x hx; exact List.mem_append.1 hx))
        | (have PT : Hid (Tb.Upd t t1 (i : Int) Pa.gone ∧ TbT w0.drew v B bs t1 ∧ IsR v R g1 g2 n r) := ⟨U, T, T.ref P0.out.tb P0.out.rf⟩; have c1 := HC.out v _ T.choose_spec.2.1 (by intro x hx; exact .inl hx)))
    | (go_at_call 27; refine (HR.out _ (by first | exact PT.out.2.2 | exact P0.out.rf)).mono ?_; rintro e v ⟨rfl, k2, t2⟩; first
        | (have PE : Hid (Prt w0.drew v B bs R g1 g2 n) := Prt.both P0.out PT.out.2.1 k2 t2 (HU.out _ PT.out.1); have c1 := HC.out v _ ((PT.out.2.1.choose_spec.2.1.mono (T := bs ++ [R, g1, g2]) (by intro x hx; exact List.mem_append.2 (.inl hx))).trans t2 (by intro x hx; exact .inl (List.mem_append.2 (.inr hx)))) (by intro x hx; exact List.mem_append.1 hx))
        | (have PR : Hid (IsR v R g1 g2 n { r with st := r.st.set i 2 } ∧ Tbn v B bs t ∧ Tn [R, g1, g2] w0.drew v) := ⟨k2, P0.out.tb.tn t2 (apart' P0.out.tb P0.out.rf), t2⟩; have c1 := HC.out v _ t2 (by intro x hx; exact .inr hx))))
  all_goals go_wp2
  all_goals go_ret2
  all_goals exact ⟨rfl, Prt.pre (HB0.out.trans ((Below.refl _ _).drew.mono HB0.out.size)) PE.out⟩

set_option maxHeartbeats 2000000 in
theorem step_release_ok (h : Pr w B bs t R g1 g2 n r) (page wa wb ia ib : Int) (hp : r.s page = 2) : Calls Tryd.prog 10 #[.pointer (some ⟨B, 0, none⟩), .pointer (some ⟨R, 0, none⟩), .agg #[.int .i64 4, .int .i64 page, .int .i64 wa, .int .i64 wb, .int .i64 ia, .int .i64 ib]] w fun e w' => e = .returned (.tuple #[.pointer (some ⟨B, 0, none⟩), .bool true]) ∧ Prt w w' B bs R g1 g2 n := by
  obtain ⟨w0, hw0, h0, hb0, hk0⟩ := h.box 4 page wa wb ia ib
  have H0 : Hid (Pr w0 B bs t R g1 g2 n r) := h0
  have HB0 : Hid _ := hb0
  have HK0 : Hid (Bk w0 w.heap.size 34 #[.int .i64 4, .int .i64 page, .int .i64 wa, .int .i64 wb, .int .i64 ia, .int .i64 ib]) := hk0
  have HD : Hid (w.heap.size ∉ bs) := fun hm => by have := h.tb.lt _ hm; omega
  have c0 : w0.cell? ⟨w.heap.size, 0, none⟩ = some (.int .i64 4) := hk0.cell 0
  have c1 : w0.cell? ⟨w.heap.size, 1, none⟩ = some (.int .i64 page) := hk0.cell 1
  have c2 : w0.cell? ⟨w.heap.size, 2, none⟩ = some (.int .i64 wa) := hk0.cell 2
  have c3 : w0.cell? ⟨w.heap.size, 3, none⟩ = some (.int .i64 wb) := hk0.cell 3
  have c4 : w0.cell? ⟨w.heap.size, 4, none⟩ = some (.int .i64 ia) := hk0.cell 4
  have c5 : w0.cell? ⟨w.heap.size, 5, none⟩ = some (.int .i64 ib) := hk0.cell 5
  clear h h0 hb0 hk0
  have hne : r.s page ≠ 0 := by omega
  obtain ⟨i, rfl, hi⟩ := H0.out.rel.idx H0.out.rf.ls hne
  have HPG : Hid (t.pg (i : Int) = Pa.gone) := by
    have := hp
    rw [H0.out.rel.st] at this
    exact Pa.st2.1 this
  have hil : i < r.st.length := by rw [H0.out.rf.ls]; exact hi
  have HU : Hid (∀ t', Tb.Upd t t' (i : Int) Pa.free → Rel t' { r with st := r.st.set i 0 } n) := fun t' u => H0.out.rel.upd H0.out.rf.ls H0.out.rf.lh hi u (fun c y m e => by cases e) (fun _ => rfl)
  have HT : Hid (∀ v, Tbn v B bs t → Calls Tryd.prog 17 #[.pointer (some ⟨B, 0, none⟩), .int .i64 (i : Int)] v fun e w' => e = .returned (.int .i64 0) ∧ ∃ t', Tb.Upd t t' (i : Int) Pa.free ∧ TbT v w' B bs t') := fun v hv => tRelease_gone hv HPG.out
  have HR : Hid (∀ v, IsR v R g1 g2 n r → Calls Tryd.prog 28 #[.pointer (some ⟨R, 0, none⟩), .int .i64 (i : Int)] v fun e w' => e = .returned (.int .i64 0) ∧ IsR w' R g1 g2 n { r with st := r.st.set i 0 } ∧ Tn [R, g1, g2] v w') := fun v hv => rRelease_gone hv i hi hp
  have P0 : Hid (Pr w0.drew B bs t R g1 g2 n r) := H0.out.below (Below.refl _ _).drew
  have HC : Hid (∀ v S, Tn S w0.drew v → (∀ b ∈ S, b ∈ bs ∨ b ∈ [R, g1, g2]) → v.cell? ⟨w.heap.size, 1, none⟩ = some (.int .i64 (i : Int))) := fun v S hv hS => by
    refine (HK0.out.drew.tn hv (fun hm => ?_)).cell 1
    rcases hS _ hm with hb | hb
    · exact HD.out hb
    · simp at hb
      have k := HK0.out
      rcases hb with hb | hb | hb
      · exact (ne_type k H0.out.rf.blk (by decide)) hb
      · exact (ne_type k H0.out.rf.st (by decide)) hb
      · exact (ne_type k H0.out.rf.hd (by decide)) hb
  clear hp hi hne hil
  go_enter Tryd.func10, Tryd.ntmps10
  go_wp2_with fail
  go_region_held3 (fun v => v.cell? ⟨w.heap.size, 1, none⟩ = some (.int .i64 (i : Int))) (go_keep) (first
    | (go_at_call 17; refine (HT.out _ (by first | exact P0.out.tb | exact PR.out.2.1)).mono ?_; rintro e v ⟨rfl, t1, U, T⟩; first
        | (have PE : Hid (Prt w0.drew v B bs R g1 g2 n) := Prt.rev P0.out PR.out.1 PR.out.2.2 T (HU.out t1 U); have c1 := HC.out v _ ((PR.out.2.2.mono (T := bs ++ [R, g1, g2]) (by intro x hx; exact List.mem_append.2 (.inr hx))).trans T.choose_spec.2.1 (by intro x hx; exact .inl (List.mem_append.2 (.inl hx)))) (by intro x hx; exact List.mem_append.1 hx))
        | (have PT : Hid (Tb.Upd t t1 (i : Int) Pa.free ∧ TbT w0.drew v B bs t1 ∧ IsR v R g1 g2 n r) := ⟨U, T, T.ref P0.out.tb P0.out.rf⟩; have c1 := HC.out v _ T.choose_spec.2.1 (by intro x hx; exact .inl hx)))
    | (go_at_call 28; refine (HR.out _ (by first | exact PT.out.2.2 | exact P0.out.rf)).mono ?_; rintro e v ⟨rfl, k2, t2⟩; first
        | (have PE : Hid (Prt w0.drew v B bs R g1 g2 n) := Prt.both P0.out PT.out.2.1 k2 t2 (HU.out _ PT.out.1); have c1 := HC.out v _ ((PT.out.2.1.choose_spec.2.1.mono (T := bs ++ [R, g1, g2]) (by intro x hx; exact List.mem_append.2 (.inl hx))).trans t2 (by intro x hx; exact .inl (List.mem_append.2 (.inr hx)))) (by intro x hx; exact List.mem_append.1 hx))
        | (have PR : Hid (IsR v R g1 g2 n { r with st := r.st.set i 0 } ∧ Tbn v B bs t ∧ Tn [R, g1, g2] w0.drew v) := ⟨k2, P0.out.tb.tn t2 (apart' P0.out.tb P0.out.rf), t2⟩; have c1 := HC.out v _ t2 (by intro x hx; exact .inr hx))))
  all_goals go_wp2
  all_goals go_ret2
  all_goals exact ⟨rfl, Prt.pre (HB0.out.trans ((Below.refl _ _).drew.mono HB0.out.size)) PE.out⟩

set_option maxHeartbeats 2000000 in
theorem step_load_live (h : Pr w B bs t R g1 g2 n r) (dd page wa wb ia ib : Int) (d0 : ¬ dd = 0) (d2 : ¬ dd = 2) (d3 : ¬ dd = 3) (d4 : ¬ dd = 4) (d5 : ¬ dd = 5) (hp : r.s page = 1) : Calls Tryd.prog 10 #[.pointer (some ⟨B, 0, none⟩), .pointer (some ⟨R, 0, none⟩), .agg #[.int .i64 dd, .int .i64 page, .int .i64 wa, .int .i64 wb, .int .i64 ia, .int .i64 ib]] w fun e w' => e = .returned (.tuple #[.pointer (some ⟨B, 0, none⟩), .bool true]) ∧ Prt w w' B bs R g1 g2 n := by
  obtain ⟨w0, hw0, h0, hb0, hk0⟩ := h.box dd page wa wb ia ib
  have H0 : Hid (Pr w0 B bs t R g1 g2 n r) := h0
  have HB0 : Hid _ := hb0
  have HK0 : Hid (Bk w0 w.heap.size 34 #[.int .i64 dd, .int .i64 page, .int .i64 wa, .int .i64 wb, .int .i64 ia, .int .i64 ib]) := hk0
  have HD : Hid (w.heap.size ∉ bs) := fun hm => by have := h.tb.lt _ hm; omega
  have c0 : w0.cell? ⟨w.heap.size, 0, none⟩ = some (.int .i64 dd) := hk0.cell 0
  have c1 : w0.cell? ⟨w.heap.size, 1, none⟩ = some (.int .i64 page) := hk0.cell 1
  have c2 : w0.cell? ⟨w.heap.size, 2, none⟩ = some (.int .i64 wa) := hk0.cell 2
  have c3 : w0.cell? ⟨w.heap.size, 3, none⟩ = some (.int .i64 wb) := hk0.cell 3
  have c4 : w0.cell? ⟨w.heap.size, 4, none⟩ = some (.int .i64 ia) := hk0.cell 4
  have c5 : w0.cell? ⟨w.heap.size, 5, none⟩ = some (.int .i64 ib) := hk0.cell 5
  clear h h0 hb0 hk0
  have hne : r.s page ≠ 0 := by omega
  obtain ⟨i, rfl, hi⟩ := H0.out.rel.idx H0.out.rf.ls hne
  obtain ⟨c, x, m, hpg, hx⟩ := H0.out.rel.live hp
  have HF : Hid (i < n ∧ r.s (i : Int) = 1 ∧ t.pg (i : Int) = Pa.live c x m ∧ r.h (i : Int) = x) := ⟨hi, hp, hpg, hx⟩
  clear hp hi hpg hx hne
  go_enter Tryd.func10, Tryd.ntmps10
  go_wp2_with fail
  refine (tLoad_live H0.out.tb HF.out.2.2.1).mono ?_
  rintro e w1 ⟨rfl, b1⟩
  obtain ⟨w2, hw2⟩ : ∃ w2, w1.alloc (.cells #[.int .i64 (x).1, .int .i64 (x).2] 32) = w2 := ⟨_, rfl⟩
  have b2 : Below w0.heap.size w0 w2 := by rw [← hw2]; exact b1.alloc b1.size _
  have kh : Bk w2 w1.heap.size 32 #[.int .i64 (x).1, .int .i64 (x).2] := by rw [← hw2]; exact Bk.new _ _ _
  have H2 : Hid (Pr w2 B bs t R g1 g2 n r ∧ Below w.heap.size w w2 ∧ Bk w2 w1.heap.size 32 #[.int .i64 (x).1, .int .i64 (x).2]) := ⟨H0.out.below b2, HB0.out.trans (b2.mono HB0.out.size), kh⟩
  have kb := HK0.out.below b2 HK0.out.lt
  have c1 : w2.cell? ⟨w.heap.size, 1, none⟩ = some (.int .i64 (i : Int)) := kb.cell 1
  have c2 : w2.cell? ⟨w.heap.size, 2, none⟩ = some (.int .i64 wa) := kb.cell 2
  have c3 : w2.cell? ⟨w.heap.size, 3, none⟩ = some (.int .i64 wb) := kb.cell 3
  have c4 : w2.cell? ⟨w.heap.size, 4, none⟩ = some (.int .i64 ia) := kb.cell 4
  have c5 : w2.cell? ⟨w.heap.size, 5, none⟩ = some (.int .i64 ib) := kb.cell 5
  clear kb
  clear b1 b2 kh
  go_wp2_with fail
  refine (rLoad_at H2.out.1.rf i HF.out.1 HF.out.2.1 HF.out.2.2.2).mono ?_
  rintro e w3 ⟨rfl, b3⟩
  obtain ⟨w4, hw4⟩ : ∃ w4, w3.alloc (.cells #[.int .i64 (x).1, .int .i64 (x).2] 32) = w4 := ⟨_, rfl⟩
  have b4 : Below w2.heap.size w2 w4 := by rw [← hw4]; exact b3.alloc b3.size _
  have kh4 : Bk w4 w3.heap.size 32 #[.int .i64 (x).1, .int .i64 (x).2] := by rw [← hw4]; exact Bk.new _ _ _
  have kg4 := H2.out.2.2.below b4 H2.out.2.2.lt
  have q0 : w4.cell? ⟨w3.heap.size, 0, none⟩ = some (.int .i64 (x).1) := kh4.cell 0
  have q1 : w4.cell? ⟨w3.heap.size, 1, none⟩ = some (.int .i64 (x).2) := kh4.cell 1
  have p0 : w4.cell? ⟨w1.heap.size, 0, none⟩ = some (.int .i64 (x).1) := kg4.cell 0
  have p1 : w4.cell? ⟨w1.heap.size, 1, none⟩ = some (.int .i64 (x).2) := kg4.cell 1
  have HE : Hid (Prt w w4 B bs R g1 g2 n) := Prt.pre H2.out.2.1 (Prt.same H2.out.1 b4)
  clear b3 b4 kh4 kg4
  go_wp2
  go_ret2
  exact ⟨rfl, HE.out⟩

set_option maxHeartbeats 2000000 in
theorem step_load_none (h : Pr w B bs t R g1 g2 n r) (dd page wa wb ia ib : Int) (d0 : ¬ dd = 0) (d2 : ¬ dd = 2) (d3 : ¬ dd = 3) (d4 : ¬ dd = 4) (d5 : ¬ dd = 5) (hp : r.s page ≠ 1) : Calls Tryd.prog 10 #[.pointer (some ⟨B, 0, none⟩), .pointer (some ⟨R, 0, none⟩), .agg #[.int .i64 dd, .int .i64 page, .int .i64 wa, .int .i64 wb, .int .i64 ia, .int .i64 ib]] w fun e w' => e = .returned (.tuple #[.pointer (some ⟨B, 0, none⟩), .bool true]) ∧ Prt w w' B bs R g1 g2 n := by
  obtain ⟨w0, hw0, h0, hb0, hk0⟩ := h.box dd page wa wb ia ib
  have H0 : Hid (Pr w0 B bs t R g1 g2 n r) := h0
  have HB0 : Hid _ := hb0
  have HK0 : Hid (Bk w0 w.heap.size 34 #[.int .i64 dd, .int .i64 page, .int .i64 wa, .int .i64 wb, .int .i64 ia, .int .i64 ib]) := hk0
  have HD : Hid (w.heap.size ∉ bs) := fun hm => by have := h.tb.lt _ hm; omega
  have c0 : w0.cell? ⟨w.heap.size, 0, none⟩ = some (.int .i64 dd) := hk0.cell 0
  have c1 : w0.cell? ⟨w.heap.size, 1, none⟩ = some (.int .i64 page) := hk0.cell 1
  have c2 : w0.cell? ⟨w.heap.size, 2, none⟩ = some (.int .i64 wa) := hk0.cell 2
  have c3 : w0.cell? ⟨w.heap.size, 3, none⟩ = some (.int .i64 wb) := hk0.cell 3
  have c4 : w0.cell? ⟨w.heap.size, 4, none⟩ = some (.int .i64 ia) := hk0.cell 4
  have c5 : w0.cell? ⟨w.heap.size, 5, none⟩ = some (.int .i64 ib) := hk0.cell 5
  clear h h0 hb0 hk0
  have HF : Hid (r.s page ≠ 1) := hp
  clear hp
  go_enter Tryd.func10, Tryd.ntmps10
  go_wp2_with fail
  refine (tLoad_none H0.out.tb (p := page) (by rw [← H0.out.rel.st]; exact HF.out)).mono ?_
  rintro e w1 ⟨rfl, b1⟩
  have b2 : Below w0.heap.size w0 (w1.alloc (.cells #[.int .i64 0, .int .i64 0] 32)) := b1.alloc b1.size _
  have kh : Bk (w1.alloc (.cells #[.int .i64 0, .int .i64 0] 32)) w1.heap.size 32 #[.int .i64 0, .int .i64 0] := Bk.new _ _ _
  have H2 : Hid (Pr (w1.alloc (.cells #[.int .i64 0, .int .i64 0] 32)) B bs t R g1 g2 n r ∧ Below w.heap.size w (w1.alloc (.cells #[.int .i64 0, .int .i64 0] 32)) ∧ Bk (w1.alloc (.cells #[.int .i64 0, .int .i64 0] 32)) w1.heap.size 32 #[.int .i64 0, .int .i64 0]) := ⟨H0.out.below b2, HB0.out.trans (b2.mono HB0.out.size), kh⟩
  have kb := HK0.out.below b2 HK0.out.lt
  have c1 : (w1.alloc (.cells #[.int .i64 0, .int .i64 0] 32)).cell? ⟨w.heap.size, 1, none⟩ = some (.int .i64 page) := kb.cell 1
  have c2 : (w1.alloc (.cells #[.int .i64 0, .int .i64 0] 32)).cell? ⟨w.heap.size, 2, none⟩ = some (.int .i64 wa) := kb.cell 2
  have c3 : (w1.alloc (.cells #[.int .i64 0, .int .i64 0] 32)).cell? ⟨w.heap.size, 3, none⟩ = some (.int .i64 wb) := kb.cell 3
  have c4 : (w1.alloc (.cells #[.int .i64 0, .int .i64 0] 32)).cell? ⟨w.heap.size, 4, none⟩ = some (.int .i64 ia) := kb.cell 4
  have c5 : (w1.alloc (.cells #[.int .i64 0, .int .i64 0] 32)).cell? ⟨w.heap.size, 5, none⟩ = some (.int .i64 ib) := kb.cell 5
  clear kb
  clear b1 b2 kh
  go_wp2_with fail
  refine (rLoad_none H2.out.1.rf page HF.out).mono ?_
  rintro e w3 ⟨rfl, b3⟩
  have b4 : Below (w1.alloc (.cells #[.int .i64 0, .int .i64 0] 32)).heap.size (w1.alloc (.cells #[.int .i64 0, .int .i64 0] 32)) (w3.alloc (.cells #[.int .i64 0, .int .i64 0] 32)) := b3.alloc b3.size _
  have kh4 : Bk (w3.alloc (.cells #[.int .i64 0, .int .i64 0] 32)) w3.heap.size 32 #[.int .i64 0, .int .i64 0] := Bk.new _ _ _
  have kg4 := H2.out.2.2.below b4 H2.out.2.2.lt
  have q0 : (w3.alloc (.cells #[.int .i64 0, .int .i64 0] 32)).cell? ⟨w3.heap.size, 0, none⟩ = some (.int .i64 0) := kh4.cell 0
  have q1 : (w3.alloc (.cells #[.int .i64 0, .int .i64 0] 32)).cell? ⟨w3.heap.size, 1, none⟩ = some (.int .i64 0) := kh4.cell 1
  have p0 : (w3.alloc (.cells #[.int .i64 0, .int .i64 0] 32)).cell? ⟨w1.heap.size, 0, none⟩ = some (.int .i64 0) := kg4.cell 0
  have p1 : (w3.alloc (.cells #[.int .i64 0, .int .i64 0] 32)).cell? ⟨w1.heap.size, 1, none⟩ = some (.int .i64 0) := kg4.cell 1
  have HE : Hid (Prt w (w3.alloc (.cells #[.int .i64 0, .int .i64 0] 32)) B bs R g1 g2 n) := Prt.pre H2.out.2.1 (Prt.same H2.out.1 b4)
  clear b3 b4 kh4 kg4
  go_wp2
  go_ret2
  exact ⟨rfl, HE.out⟩

end
end Go.Proofs.YtnjafmjkaajbkaaDoor
