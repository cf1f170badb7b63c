/- The document's table: swaps, pages given, counts; a new one. -/
import Derived.Test.YtnjafmjkaajbkaaDoorTbRf
namespace Go.Proofs.YtnjafmjkaajbkaaDoor
open Go.RowKit
set_option linter.unusedVariables false
set_option maxRecDepth 100000

section
variable {w w' : World} {R g1 g2 n : Nat} {r : Rt}

/-- Two handles' boxes beside it. -/
theorem IsR.boxes (h : IsR w R g1 g2 n r) (a1 a2 b1 b2 : Int) :
    ∃ w0, (w.alloc (.cells #[.int .i64 a1, .int .i64 a2] 32)).alloc (.cells #[.int .i64 b1, .int .i64 b2] 32) = w0 ∧ IsR w0 R g1 g2 n r ∧ Below w.heap.size w w0 ∧ w0.heap.size = w.heap.size + 2 ∧ Bk w0 w.heap.size 32 #[.int .i64 a1, .int .i64 a2] ∧ Bk w0 (w.heap.size + 1) 32 #[.int .i64 b1, .int .i64 b2] := by
  have k := Bk.new (w.alloc (.cells #[.int .i64 a1, .int .i64 a2] 32)) 32 #[.int .i64 b1, .int .i64 b2]
  simp only [World.size_alloc] at k
  have hb : Below w.heap.size w ((w.alloc (.cells #[.int .i64 a1, .int .i64 a2] 32)).alloc (.cells #[.int .i64 b1, .int .i64 b2] 32)) := ((Below.refl _ w).alloc (Nat.le_refl _) _).alloc (by simp) _
  exact ⟨_, rfl, h.below hb, hb, by simp, (Bk.new w _ _).alloc _, k⟩

theorem rSwap_none (h : IsR w R g1 g2 n r) (p : Int) (hp : r.s p ≠ 1) (a1 a2 b1 b2 : Int) : Calls Tryd.prog 26 #[.pointer (some ⟨R, 0, none⟩), .int .i64 p, .agg #[.int .i64 a1, .int .i64 a2], .agg #[.int .i64 b1, .int .i64 b2]] w fun e w' => e = .returned (.tuple #[.bool false, .int .i64 4]) ∧ Below w.heap.size w w' := by
  obtain ⟨w0, hw0, h0, hb0, -, -, -⟩ := h.boxes a1 a2 b1 b2
  have H : Hid _ := h0
  have HB : Hid _ := hb0
  clear h h0 hb0
  go_enter Tryd.func26, Tryd.ntmps26
  go_wp2_with fail
  refine (rState H.out p).mono ?_
  rintro e w1 ⟨rfl, rfl⟩
  generalize r.s p = x at *
  have hb : ¬ x = 1 := hp
  go_wp2
  go_ret2
  exact ⟨rfl, HB.out⟩

theorem rSwap_arg (h : IsR w R g1 g2 n r) (p : Int) (hp : r.s p = 1) (a1 a2 : Int) : Calls Tryd.prog 26 #[.pointer (some ⟨R, 0, none⟩), .int .i64 p, .agg #[.int .i64 a1, .int .i64 a2], .agg #[.int .i64 0, .int .i64 0]] w fun e w' => e = .returned (.tuple #[.bool false, .int .i64 1]) ∧ Below w.heap.size w w' := by
  obtain ⟨w0, hw0, h0, hb0, -, -, hk⟩ := h.boxes a1 a2 0 0
  have H : Hid _ := h0
  have HB : Hid _ := hb0
  have HP : Hid (r.s p = 1) := hp
  have k0 : w0.cell? ⟨w.heap.size + 1, 0, none⟩ = some (.int .i64 0) := hk.cell 0
  have k1 : w0.cell? ⟨w.heap.size + 1, 1, none⟩ = some (.int .i64 0) := hk.cell 1
  clear h h0 hb0 hk hp
  go_enter Tryd.func26, Tryd.ntmps26
  go_wp2_with fail
  refine (rState H.out p).mono ?_
  rintro e w1 ⟨rfl, rfl⟩
  rw [HP.out]
  go_wp2
  go_ret2
  exact ⟨rfl, HB.out⟩

set_option maxHeartbeats 1000000 in
theorem rSwap_hit (h : IsR w R g1 g2 n r) (i : Nat) (hi : i < n) (hp : r.s (i : Int) = 1) (a1 a2 b1 b2 : Int) (hb : ¬ ((b1, b2) : Int × Int) = (0, 0)) (ha : r.h (i : Int) = (a1, a2)) : Calls Tryd.prog 26 #[.pointer (some ⟨R, 0, none⟩), .int .i64 (i : Int), .agg #[.int .i64 a1, .int .i64 a2], .agg #[.int .i64 b1, .int .i64 b2]] w fun e w' => e = .returned (.tuple #[.bool true, .int .i64 0]) ∧ IsR w' R g1 g2 n { r with hd := r.hd.set i (b1, b2) } ∧ Tn [R, g1, g2] w w' := by
  obtain ⟨w0, hw0, h0, hb0, hs0, hka, hkb⟩ := h.boxes a1 a2 b1 b2
  have H : Hid _ := h0
  have HP : Hid (r.s (i : Int) = 1) := hp
  have c1 : w0.cell? ⟨R, 1, none⟩ = some (.slice (some ⟨g2, 0, none⟩) n n) := h0.blk.cell 1
  obtain ⟨d0, d1⟩ := h0.ch i hi
  rw [← r.h_nat, ha] at d0 d1
  have f0 := h0.hd.frozen (i * 2)
  have f1 := h0.hd.frozen (i * 2 + 1)
  have q0 : w0.cell? ⟨w.heap.size, 0, none⟩ = some (.int .i64 a1) := hka.cell 0
  have q1 : w0.cell? ⟨w.heap.size, 1, none⟩ = some (.int .i64 a2) := hka.cell 1
  have k0 : w0.cell? ⟨w.heap.size + 1, 0, none⟩ = some (.int .i64 b1) := hkb.cell 0
  have k1 : w0.cell? ⟨w.heap.size + 1, 1, none⟩ = some (.int .i64 b2) := hkb.cell 1
  have hE0 := heql_ne hb
  dsimp only at d0 d1
  have HE : Hid (∀ k, IsR (((w0.drewN k).setCell ⟨g2, i * 2, none⟩ (.int .i64 b1)).setCell ⟨g2, i * 2 + 1, none⟩ (.int .i64 b2)) R g1 g2 n { r with hd := r.hd.set i (b1, b2) } ∧ Tn [R, g1, g2] w (((w0.drewN k).setCell ⟨g2, i * 2, none⟩ (.int .i64 b1)).setCell ⟨g2, i * 2 + 1, none⟩ (.int .i64 b2))) := fun k => by
    have hbk : Below w0.heap.size w0 (w0.drewN k) := below_drewN (Below.refl _ _) k
    obtain ⟨h1, t1⟩ := (h0.below hbk).setH i hi (b1, b2)
    exact ⟨h1, ((Tn.of_below hb0 [R, g1, g2]).trans (Tn.of_below hbk []) (by simp)).trans (t1.mono (T := [R, g1, g2]) (by simp)) (fun x hx => .inl hx)⟩
  have h2 : (i : Int) < (n : Int) := by omega
  have h3 : (0 : Int) ≤ (i : Int) := by omega
  clear h h0 hb0 hka hkb hb ha hp
  go_enter Tryd.func26, Tryd.ntmps26
  go_wp2_with fail
  refine (rState H.out _).mono ?_
  rintro e w2 ⟨rfl, rfl⟩
  rw [HP.out]
  go_wp2_with fail
  go_quiet (fail)
  go_wp2_with fail
  go_region
  all_goals go_wp2
  all_goals go_ret2
  all_goals exact ⟨rfl, HE.out (nq + 1)⟩

set_option maxHeartbeats 1000000 in
theorem rSwap_miss (h : IsR w R g1 g2 n r) (i : Nat) (hi : i < n) (hp : r.s (i : Int) = 1) (a1 a2 b1 b2 : Int) (hb : ¬ ((b1, b2) : Int × Int) = (0, 0)) (ha : ¬ r.h (i : Int) = (a1, a2)) : Calls Tryd.prog 26 #[.pointer (some ⟨R, 0, none⟩), .int .i64 (i : Int), .agg #[.int .i64 a1, .int .i64 a2], .agg #[.int .i64 b1, .int .i64 b2]] w fun e w' => e = .returned (.tuple #[.bool false, .int .i64 0]) ∧ IsR w' R g1 g2 n { r with missed := wrap64 (r.missed + 1) } ∧ Tn [R, g1, g2] w w' := by
  obtain ⟨w0, hw0, h0, hb0, hs0, hka, hkb⟩ := h.boxes a1 a2 b1 b2
  have H : Hid _ := h0
  have HP : Hid (r.s (i : Int) = 1) := hp
  have c1 : w0.cell? ⟨R, 1, none⟩ = some (.slice (some ⟨g2, 0, none⟩) n n) := h0.blk.cell 1
  have c2 : w0.cell? ⟨R, 2, none⟩ = some (.int .i64 r.missed) := h0.blk.cell 2
  have f2 := h0.blk.frozen 2
  obtain ⟨d0, d1⟩ := h0.ch i hi
  rw [← r.h_nat] at d0 d1
  obtain ⟨⟨x1, x2⟩, hx⟩ : ∃ x, r.h (i : Int) = x := ⟨_, rfl⟩
  rw [hx] at d0 d1 ha
  dsimp only at d0 d1
  have q0 : w0.cell? ⟨w.heap.size, 0, none⟩ = some (.int .i64 a1) := hka.cell 0
  have q1 : w0.cell? ⟨w.heap.size, 1, none⟩ = some (.int .i64 a2) := hka.cell 1
  have k0 : w0.cell? ⟨w.heap.size + 1, 0, none⟩ = some (.int .i64 b1) := hkb.cell 0
  have k1 : w0.cell? ⟨w.heap.size + 1, 1, none⟩ = some (.int .i64 b2) := hkb.cell 1
  have hE0 := heql_ne hb
  have hE1 := hneq_ne ha
  have HE : Hid (∀ k, IsR ((w0.drewN k).setCell ⟨R, 2, none⟩ (.int .i64 (wrap64 (r.missed + 1)))) R g1 g2 n { r with missed := wrap64 (r.missed + 1) } ∧ Tn [R, g1, g2] w ((w0.drewN k).setCell ⟨R, 2, none⟩ (.int .i64 (wrap64 (r.missed + 1))))) := fun k => by
    have hbk : Below w0.heap.size w0 (w0.drewN k) := below_drewN (Below.refl _ _) k
    obtain ⟨h1, t1⟩ := (h0.below hbk).setM (wrap64 (r.missed + 1))
    exact ⟨h1, ((Tn.of_below hb0 [R, g1, g2]).trans (Tn.of_below hbk []) (by simp)).trans (t1.mono (T := [R, g1, g2]) (by simp)) (fun x hx => .inl hx)⟩
  have h2 : (i : Int) < (n : Int) := by omega
  have h3 : (0 : Int) ≤ (i : Int) := by omega
  clear h h0 hb0 hka hkb hb ha hp hx
  go_enter Tryd.func26, Tryd.ntmps26
  go_wp2_with fail
  refine (rState H.out _).mono ?_
  rintro e w2 ⟨rfl, rfl⟩
  rw [HP.out]
  go_wp2_with fail
  go_quiet (fail)
  go_wp2
  go_ret2
  exact ⟨rfl, HE.out _⟩

theorem rAlloc_arg (w : World) (R : Nat) : Calls Tryd.prog 25 #[.pointer (some ⟨R, 0, none⟩), .agg #[.int .i64 0, .int .i64 0]] w fun e w' => e = .returned (.tuple #[.int .i64 0, .int .i64 1]) ∧ Below w.heap.size w w' := by
  go_enter Tryd.func25, Tryd.ntmps25
  go_wp2
  go_ret2
  exact ⟨rfl, (Below.refl _ w).alloc (Nat.le_refl _) _⟩

set_option maxHeartbeats 2000000 in
theorem rAlloc_full (h : IsR w R g1 g2 n r) (b1 b2 : Int) (hb : ¬ ((b1, b2) : Int × Int) = (0, 0)) (hf : ∀ i : Nat, i < n → r.s (i : Int) ≠ 0) : Calls Tryd.prog 25 #[.pointer (some ⟨R, 0, none⟩), .agg #[.int .i64 b1, .int .i64 b2]] w fun e w' => e = .returned (.tuple #[.int .i64 0, .int .i64 5]) ∧ Below w.heap.size w w' := by
  obtain ⟨w0, hw0⟩ : ∃ w0, w.alloc (.cells #[.int .i64 b1, .int .i64 b2] 32) = w0 := ⟨_, rfl⟩
  have hb0 : Below w.heap.size w w0 := by rw [← hw0]; exact (Below.refl _ w).alloc (Nat.le_refl _) _
  have hk0 : Bk w0 w.heap.size 32 #[.int .i64 b1, .int .i64 b2] := by rw [← hw0]; exact Bk.new _ _ _
  have h0 := h.below hb0
  have c0 : w0.cell? ⟨R, 0, none⟩ = some (.slice (some ⟨g1, 0, none⟩) n n) := h0.blk.cell 0
  have q0 : w0.cell? ⟨w.heap.size, 0, none⟩ = some (.int .i64 b1) := hk0.cell 0
  have q1 : w0.cell? ⟨w.heap.size, 1, none⟩ = some (.int .i64 b2) := hk0.cell 1
  have HC : Hid (∀ i, i < n → w0.cell? ⟨g1, i, none⟩ = some (.int .i64 (r.st.getD i 0)) ∧ ¬ r.st.getD i 0 = 0) := fun i hi => ⟨h0.cs i hi, by rw [← r.s_nat]; exact hf i hi⟩
  have HB : Hid _ := hb0
  have hE0 := heql_ne hb
  have hnb : n ≤ 65536 := h.n2
  clear h h0 hb0 hk0 hb hf
  go_enter Tryd.func25, Tryd.ntmps25
  go_wp2_with fail
  go_loopw [6] (fun iv wr => ∃ j : Nat, j ≤ n ∧ iv = .int .i64 j ∧ wr = w0) (fun iv _ => n - (intOf iv).toNat)
  case atStart => exact ⟨0, by omega, rfl, rfl⟩
  case round =>
    obtain ⟨j, hj, rfl, rfl⟩ := hrel
    by_cases hlt : j < n
    · have hli : (j : Int) < (n : Int) := by omega
      have h0 : (0 : Int) ≤ (j : Int) := by omega
      obtain ⟨cj, hj0⟩ := HC.out j hlt
      generalize r.st.getD j 0 = x at *
      go_wp2
      go_roundw
      case rel => exact ⟨j + 1, by omega, by go_num, trivial⟩
      case measure => simp [intOf]; omega
    · have hli : ¬ (j : Int) < (n : Int) := by omega
      go_wp2
      go_ret2
      exact ⟨rfl, HB.out⟩

set_option maxHeartbeats 4000000 in
theorem rAlloc_ok (h : IsR w R g1 g2 n r) (b1 b2 : Int) (hb : ¬ ((b1, b2) : Int × Int) = (0, 0)) {p : Nat} (hp : p < n) (hf : r.s (p : Int) = 0) (hlow : ∀ i : Nat, i < p → r.s (i : Int) ≠ 0) : Calls Tryd.prog 25 #[.pointer (some ⟨R, 0, none⟩), .agg #[.int .i64 b1, .int .i64 b2]] w fun e w' => e = .returned (.tuple #[.int .i64 (p : Int), .int .i64 0]) ∧ IsR w' R g1 g2 n { r with st := r.st.set p 1, hd := r.hd.set p (b1, b2) } ∧ Tn [R, g1, g2] w w' := by
  obtain ⟨w0, hw0⟩ : ∃ w0, w.alloc (.cells #[.int .i64 b1, .int .i64 b2] 32) = w0 := ⟨_, rfl⟩
  have hb0 : Below w.heap.size w w0 := by rw [← hw0]; exact (Below.refl _ w).alloc (Nat.le_refl _) _
  have hk0 : Bk w0 w.heap.size 32 #[.int .i64 b1, .int .i64 b2] := by rw [← hw0]; exact Bk.new _ _ _
  have h0 := h.below hb0
  have c0 : w0.cell? ⟨R, 0, none⟩ = some (.slice (some ⟨g1, 0, none⟩) n n) := h0.blk.cell 0
  have q0 : w0.cell? ⟨w.heap.size, 0, none⟩ = some (.int .i64 b1) := hk0.cell 0
  have q1 : w0.cell? ⟨w.heap.size, 1, none⟩ = some (.int .i64 b2) := hk0.cell 1
  have HC : Hid (∀ i, i < p → w0.cell? ⟨g1, i, none⟩ = some (.int .i64 (r.st.getD i 0)) ∧ ¬ r.st.getD i 0 = 0) := fun i hi => ⟨h0.cs i (by omega), by rw [← r.s_nat]; exact hlow i hi⟩
  have cp : w0.cell? ⟨g1, p, none⟩ = some (.int .i64 0) := by have := h0.cs p hp; rwa [← r.s_nat, hf] at this
  have fp := h0.st.frozen p
  obtain ⟨h1, t1⟩ := h0.setS p 1
  obtain ⟨w1, hw1⟩ : ∃ w1, w0.setCell ⟨g1, p, none⟩ (.int .i64 1) = w1 := ⟨_, rfl⟩
  rw [hw1] at h1 t1
  have hgl : g1 ≠ w.heap.size := by have := h.st.lt; omega
  have hk1 := hk0.tn t1 (by simpa using hgl.symm)
  have e1 : w1.cell? ⟨R, 1, none⟩ = some (.slice (some ⟨g2, 0, none⟩) n n) := h1.blk.cell 1
  have p0 : w1.cell? ⟨w.heap.size, 0, none⟩ = some (.int .i64 b1) := hk1.cell 0
  have p1 : w1.cell? ⟨w.heap.size, 1, none⟩ = some (.int .i64 b2) := hk1.cell 1
  obtain ⟨d0, d1⟩ := h1.ch p hp
  have f0 := h1.hd.frozen (p * 2)
  have f1 := h1.hd.frozen (p * 2 + 1)
  obtain ⟨h2, t2⟩ := h1.setH p hp (b1, b2)
  dsimp only at h2 t2 d0 d1
  obtain ⟨w2, hw2⟩ : ∃ w2, (w1.setCell ⟨g2, p * 2, none⟩ (.int .i64 b1)).setCell ⟨g2, p * 2 + 1, none⟩ (.int .i64 b2) = w2 := ⟨_, rfl⟩
  rw [hw2] at h2 t2
  have HE : Hid (∀ k, IsR (w2.drewN k) R g1 g2 n { r with st := r.st.set p 1, hd := r.hd.set p (b1, b2) } ∧ Tn [R, g1, g2] w (w2.drewN k)) := fun k => by
    have hbk : Below w2.heap.size w2 (w2.drewN k) := below_drewN (Below.refl _ _) k
    exact ⟨h2.below hbk, (((Tn.of_below hb0 [R, g1, g2]).trans (t1.mono (T := [R, g1, g2]) (by simp)) (fun x hx => .inl hx)).trans (t2.mono (T := [R, g1, g2]) (by simp)) (fun x hx => .inl hx)).trans (Tn.of_below hbk []) (by simp)⟩
  have hE0 := heql_ne hb
  have hnb : n ≤ 65536 := h.n2
  clear h h0 hb0 hk0 hb hf h1 t1 h2 t2 hk1 hlow hgl
  generalize (r.hd.getD p (0, 0)).1 = y1 at *
  generalize (r.hd.getD p (0, 0)).2 = y2 at *
  go_enter Tryd.func25, Tryd.ntmps25
  go_wp2_with fail
  go_loopw [6] (fun iv wr => ∃ j : Nat, j ≤ p ∧ iv = .int .i64 j ∧ wr = w0) (fun iv _ => n - (intOf iv).toNat)
  case atStart => exact ⟨0, by omega, rfl, rfl⟩
  case round =>
    obtain ⟨j, hj, rfl, rfl⟩ := hrel
    have hli : (j : Int) < (n : Int) := by omega
    have h0 : (0 : Int) ≤ (j : Int) := by omega
    by_cases hlt : j < p
    · obtain ⟨cj, hj0⟩ := HC.out j hlt
      generalize r.st.getD j 0 = x at *
      clear cp fp hw1 hw2 d0 d1 f0 f1 e1 p0 p1
      go_wp2
      go_roundw
      case rel => exact ⟨j + 1, by omega, by go_num, trivial⟩
      case measure => simp [intOf]; omega
    · obtain rfl : j = p := by omega
      go_wp2_with fail
      go_region
      all_goals go_wp2
      all_goals go_ret2
      all_goals exact ⟨rfl, HE.out 1⟩

set_option maxHeartbeats 2000000 in
theorem rMany (h : IsR w R g1 g2 n r) (s : Int) : Calls Tryd.prog 36 #[.pointer (some ⟨R, 0, none⟩), .int .i64 s] w fun e w' => e = .returned (.int .i64 ((r.st.countP (fun x => decide (x = s)) : Nat) : Int)) ∧ w' = w := by
  have c0 : w.cell? ⟨R, 0, none⟩ = some (.slice (some ⟨g1, 0, none⟩) n n) := h.blk.cell 0
  have HC : Hid (∀ i, i < n → w.cell? ⟨g1, i, none⟩ = some (.int .i64 (r.st.getD i 0)) ∧ (r.st.take (i + 1)).countP (fun x => decide (x = s)) = (r.st.take i).countP (fun x => decide (x = s)) + if r.st.getD i 0 = s then 1 else 0) := fun i hi => by
    have hil : i < r.st.length := by rw [h.ls]; exact hi
    refine ⟨h.cs i hi, ?_⟩
    rw [List.take_add_one, List.getElem?_eq_getElem hil, List.countP_append, show r.st.getD i 0 = r.st[i] by simp [List.getD, hil]]
    simp only [Option.toList_some, List.countP_singleton, decide_eq_true_eq]
  have HL : Hid (r.st.take n = r.st) := by show _ = _; rw [← h.ls]; exact List.take_length
  have hnb : n ≤ 65536 := h.n2
  clear h
  go_enter Tryd.func36, Tryd.ntmps36
  go_wp2_with fail
  go_loopw [5, 6] (fun cv iv wr => ∃ j c : Nat, j ≤ n ∧ c ≤ j ∧ iv = .int .i64 j ∧ cv = .int .i64 c ∧ Hid (c = (r.st.take j).countP (fun x => decide (x = s))) ∧ wr = w) (fun _ iv _ => n - (intOf iv).toNat)
  case atStart => exact ⟨0, 0, by omega, by omega, rfl, rfl, by simp [Hid], rfl⟩
  case round =>
    obtain ⟨j, c, hj, hcj, rfl, rfl, HQ, rfl⟩ := hrel
    by_cases hlt : j < n
    · have hli : (j : Int) < (n : Int) := by omega
      have h0 : (0 : Int) ≤ (j : Int) := by omega
      obtain ⟨cj, hj0⟩ := HC.out j hlt
      by_cases hx : r.st.getD j 0 = s
      · rw [hx] at cj
        rw [if_pos hx] at hj0
        have HN : Hid (c + 1 = (r.st.take (j + 1)).countP (fun x => decide (x = s))) := by show _ = _; rw [hj0, ← HQ.out]
        clear hx hj0
        go_wp2
        go_roundw
        case rel => exact ⟨j + 1, c + 1, by omega, by omega, by go_num, by go_num, HN, trivial⟩
        case measure => simp [intOf]; omega
      · rw [if_neg hx] at hj0
        have HN : Hid (c = (r.st.take (j + 1)).countP (fun x => decide (x = s))) := by show _ = _; rw [hj0, ← HQ.out]; rfl
        clear hj0
        generalize r.st.getD j 0 = x at *
        go_wp2
        go_roundw
        case rel => exact ⟨j + 1, c, by omega, by omega, by go_num, rfl, HN, trivial⟩
        case measure => simp [intOf]; omega
    · have hli : ¬ (j : Int) < (n : Int) := by omega
      obtain rfl : j = n := by omega
      go_wp2
      go_ret
      refine ⟨ret_int ?_, rfl⟩
      have := HQ.out
      rw [HL.out] at this
      omega
end

theorem iinfo : (Tryd.prog.info? 3).map (fun i => (i.zero, i.size, i.bytes)) = some (some (.int .i64 0), 1, 8) := by kernel_rfl
theorem hinfo : (Tryd.prog.info? 32).map (fun i => (i.zero, i.size, i.bytes)) = some (some (.agg #[.int .i64 0, .int .i64 0]), 2, 16) := by kernel_rfl

theorem made_ints (n : Nat) : madeCells (Value.int .i64 0).cells (n * 1) = ((List.replicate n (0 : Int)).map (Value.int .i64)).toArray := by
  apply Array.ext'
  rw [show (Value.int .i64 0).cells = #[.int .i64 0] from rfl, toList_madeCells_one]
  simp
theorem made_hnds (n : Nat) : madeCells (Value.agg #[.int .i64 0, .int .i64 0]).cells (n * 2) = (hCells (List.replicate n ((0 : Int), (0 : Int)))).toArray := by
  apply Array.ext'
  apply List.ext_getElem?
  intro j
  have e : hCells (List.replicate n ((0 : Int), (0 : Int))) = List.replicate (n * 2) (.int .i64 0) := by
    induction n with
    | zero => rfl
    | succ n ih =>
      rw [List.replicate_succ, hCells, List.map_cons, List.flatten_cons, ← hCells, ih, show (n + 1) * 2 = n * 2 + 1 + 1 by omega, List.replicate_succ, List.replicate_succ]
      rfl
  rw [e]
  have hz : (Value.agg #[.int .i64 0, .int .i64 0]).cells = #[.int .i64 0, .int .i64 0] := rfl
  by_cases hj : j < n * 2
  · simp only [madeCells, hz, Array.toList_map, Array.toList_range, List.getElem?_map, List.getElem?_range hj, List.getElem?_replicate, if_pos hj, Option.map_some]
    have h2 : j % 2 = 0 ∨ j % 2 = 1 := by omega
    rcases h2 with h2 | h2 <;> simp [h2]
  · rw [List.getElem?_eq_none (by simp [madeCells]; omega), List.getElem?_eq_none (by simp; omega)]

theorem three_new (w : World) (A B C : Array Value) (t1 t2 t3 : TypeId) : Bk (((w.alloc (.cells A t1)).alloc (.cells B t2)).alloc (.cells C t3)).drew w.heap.size t1 A ∧ Bk (((w.alloc (.cells A t1)).alloc (.cells B t2)).alloc (.cells C t3)).drew (w.heap.size + 1) t2 B ∧ Bk (((w.alloc (.cells A t1)).alloc (.cells B t2)).alloc (.cells C t3)).drew (w.heap.size + 1 + 1) t3 C ∧ Below w.heap.size w (((w.alloc (.cells A t1)).alloc (.cells B t2)).alloc (.cells C t3)).drew := by
  have b1 := Bk.new (w.alloc (.cells A t1)) t2 B
  have b2 := Bk.new ((w.alloc (.cells A t1)).alloc (.cells B t2)) t3 C
  simp only [World.size_alloc] at b1 b2
  exact ⟨(((Bk.new w t1 A).alloc _).alloc _).drew, (b1.alloc _).drew, b2.drew, ((((Below.refl _ w).alloc (Nat.le_refl _) _).alloc (by simp) _).alloc (by simp; omega) _).drew⟩

set_option maxHeartbeats 1000000 in
theorem rNew (n : Nat) (h1 : 1 ≤ n) (h2 : n ≤ 65536) (w : World) : Calls Tryd.prog 8 #[.int .i64 (n : Int)] w fun e w' => ∃ R g1 g2, e = .returned (.tuple #[.pointer (some ⟨R, 0, none⟩), .int .i64 0]) ∧ IsR w' R g1 g2 n ⟨List.replicate n 0, List.replicate n (0, 0), 0⟩ ∧ w.heap.size ≤ R ∧ w.heap.size ≤ g1 ∧ w.heap.size ≤ g2 ∧ Below w.heap.size w w' := by
  obtain ⟨i1, hi1, hz1, hs1, hb1⟩ := info_parts iinfo
  obtain ⟨i2, hi2, hz2, hs2, hb2⟩ := info_parts hinfo
  have m1 : ∀ w : World, (Instr.makeSlice 70 (.int .i64 (n : Int)) (.int .i64 (n : Int))).run Tryd.prog w = .ok (.slice (some ⟨w.heap.size, 0, none⟩) n n) (w.alloc (.cells ((List.replicate n (0 : Int)).map (Value.int .i64)).toArray 3)) := fun w => by
    have := run_make (P := Tryd.prog) w 70 3 i1 (.int .i64 0) Tryd.underlying70 hi1 hz1 .i64 .i64 n n (by omega) (Int.le_refl _) (by rw [hb1]; omega) (by omega)
    simp only [Int.toNat_natCast, hs1] at this
    rw [this, made_ints]
  have m2 : ∀ w : World, (Instr.makeSlice 52 (.int .i64 (n : Int)) (.int .i64 (n : Int))).run Tryd.prog w = .ok (.slice (some ⟨w.heap.size, 0, none⟩) n n) (w.alloc (.cells (hCells (List.replicate n ((0 : Int), (0 : Int)))).toArray 32)) := fun w => by
    have := run_make (P := Tryd.prog) w 52 32 i2 (.agg #[.int .i64 0, .int .i64 0]) Tryd.underlying52 hi2 hz2 .i64 .i64 n n (by omega) (Int.le_refl _) (by rw [hb2]; omega) (by omega)
    simp only [Int.toNat_natCast, hs2] at this
    rw [this, made_hnds]
  obtain ⟨C1, hC1⟩ : ∃ C1, ((List.replicate n (0 : Int)).map (Value.int .i64)).toArray = C1 := ⟨_, rfl⟩
  obtain ⟨C2, hC2⟩ : ∃ C2, (hCells (List.replicate n ((0 : Int), (0 : Int)))).toArray = C2 := ⟨_, rfl⟩
  rw [hC1] at m1
  rw [hC2] at m2
  have HK : Hid (∀ R g1 g2 w', Bk w' g1 3 C1 → Bk w' g2 32 C2 → Bk w' R 72 #[.slice (some ⟨g1, 0, none⟩) n n, .slice (some ⟨g2, 0, none⟩) n n, .int .i64 0] → IsR w' R g1 g2 n ⟨List.replicate n 0, List.replicate n (0, 0), 0⟩) := fun R g1 g2 w' k1 k2 k3 => ⟨k3, by rw [hC1]; exact k1, by rw [hC2]; exact k2, by simp, by simp, h1, h2⟩
  have g1 : ¬ (n : Int) < 1 := by omega
  have g2 : ¬ (65536 : Int) < (n : Int) := by omega
  clear hC1 hC2 hi1 hz1 hs1 hb1 hi2 hz2 hs2 hb2 h1 h2
  go_enter Tryd.func8, Tryd.ntmps8
  go_wp2_with fail
  go_region
  all_goals go_wp2
  all_goals go_ret2
  · obtain ⟨k1, k2, k3, k4⟩ := three_new w C1 C2 #[.slice (some ⟨w.heap.size, 0, none⟩) n n, .slice (some ⟨w.heap.size + 1, 0, none⟩) n n, .int .i64 0] 3 32 72
    exact ⟨_, _, _, rfl, HK.out _ _ _ _ k1 k2 k3, by omega, by omega, by omega, k4⟩
  · obtain ⟨k1, k2, k3, k4⟩ := three_new w C2 C1 #[.slice (some ⟨w.heap.size + 1, 0, none⟩) n n, .slice (some ⟨w.heap.size, 0, none⟩) n n, .int .i64 0] 32 3 72
    exact ⟨_, _, _, rfl, HK.out _ _ _ _ k2 k1 k3, by omega, by omega, by omega, k4⟩

theorem rNew_bad (n : Int) (h : n < 1 ∨ 65536 < n) (w : World) : Calls Tryd.prog 8 #[.int .i64 n] w fun e w' => e = .returned (.tuple #[.pointer none, .int .i64 1]) ∧ w' = w := by
  by_cases g1 : n < 1
  · clear h
    go_enter Tryd.func8, Tryd.ntmps8
    go_wp2
    go_ret2
    exact ⟨rfl, rfl⟩
  · have g2 : (65536 : Int) < n := by omega
    clear h
    go_enter Tryd.func8, Tryd.ntmps8
    go_wp2
    go_ret2
    exact ⟨rfl, rfl⟩
end Go.Proofs.YtnjafmjkaajbkaaDoor
