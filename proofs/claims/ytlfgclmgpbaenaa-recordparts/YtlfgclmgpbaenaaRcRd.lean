/- Records are read field by field. -/
import Derived.Test.YtlfgclmgpbaenaaRcRs
namespace Go.Proofs.Ytlfgclmgpbaenaa
open Go.RowKit
set_option linter.unusedVariables false
set_option maxRecDepth 100000

/-- What is loaded of a block of cells. -/
theorem run_loadVar_cells {w : World} {b : Nat} {T T' : TypeId} {cs : List Value} {n : Nat} (ha : ∀ w, (isAgg T).run Try.prog w = .ok true w) (hs : ∀ w, (sizeOf T).run Try.prog w = .ok n w) (hn : cs.length = n) (h : Bk w b T' cs.toArray) :
    (loadVar T ⟨b, 0, none⟩).run Try.prog w = .ok (.agg cs.toArray) w := by
  have hl := run_loadCells_list (P := Try.prog) w ⟨b, 0, none⟩ cs (fun j v hv => by
    rw [Addr.add_lit, Nat.zero_add, h.cell j]
    simpa using hv)
  rw [hn] at hl
  unfold loadVar
  simp only [Sem.run_bind, Result.andThen_ok, ha, hs, hl, if_true]
  rfl

theorem results_one {fn : Func} {t : Tmp} {T T' : TypeId} (h : fn.results = #[.cell t T]) {tmps : Array Value} {w : World} {b : Nat} (ht : tmps.getD t undef = .pointer (some ⟨b, 0, none⟩)) {cs : List Value} {n : Nat}
    (ha : ∀ w, (isAgg T).run Try.prog w = .ok true w) (hs : ∀ w, (sizeOf T).run Try.prog w = .ok n w) (hn : cs.length = n) (hk : Bk w b T' cs.toArray) : (results fn tmps).run Try.prog w = .ok (.agg cs.toArray) w := by
  have ht' : tmps[t]?.getD undef = .pointer (some ⟨b, 0, none⟩) := by simpa using ht
  simp [results, h, ht', asAddr, run_loadVar_cells ha hs hn hk]

theorem results_two {fn : Func} {t u : Tmp} {T T' : TypeId} (h : fn.results = #[.cell t T, .tmp u]) {tmps : Array Value} {w : World} {b : Nat} (ht : tmps.getD t undef = .pointer (some ⟨b, 0, none⟩)) {cs : List Value} {n : Nat}
    (ha : ∀ w, (isAgg T).run Try.prog w = .ok true w) (hs : ∀ w, (sizeOf T).run Try.prog w = .ok n w) (hn : cs.length = n) (hk : Bk w b T' cs.toArray) : (results fn tmps).run Try.prog w = .ok (.tuple #[.agg cs.toArray, tmps.getD u undef]) w := by
  have ht' : tmps[t]?.getD undef = .pointer (some ⟨b, 0, none⟩) := by simpa using ht
  simp [results, h, ht', asAddr, run_loadVar_cells ha hs hn hk]

theorem results_three {fn : Func} {t u v : Tmp} {T T' : TypeId} (h : fn.results = #[.cell t T, .tmp u, .tmp v]) {tmps : Array Value} {w : World} {b : Nat} (ht : tmps.getD t undef = .pointer (some ⟨b, 0, none⟩)) {cs : List Value} {n : Nat}
    (ha : ∀ w, (isAgg T).run Try.prog w = .ok true w) (hs : ∀ w, (sizeOf T).run Try.prog w = .ok n w) (hn : cs.length = n) (hk : Bk w b T' cs.toArray) : (results fn tmps).run Try.prog w = .ok (.tuple #[.agg cs.toArray, tmps.getD u undef, tmps.getD v undef]) w := by
  have ht' : tmps[t]?.getD undef = .pointer (some ⟨b, 0, none⟩) := by simpa using ht
  simp [results, h, ht', asAddr, run_loadVar_cells ha hs hn hk]

theorem wr_agg (w : World) : (isAgg 33).run Try.prog w = .ok true w := by kernel_rfl
theorem wr_size (w : World) : (sizeOf 33).run Try.prog w = .ok 3 w := by kernel_rfl
theorem st_agg (w : World) : (isAgg 70).run Try.prog w = .ok true w := by kernel_rfl
theorem st_size (w : World) : (sizeOf 70).run Try.prog w = .ok 3 w := by kernel_rfl
theorem cm_agg (w : World) : (isAgg 24).run Try.prog w = .ok true w := by kernel_rfl
theorem cm_size (w : World) : (sizeOf 24).run Try.prog w = .ok 2 w := by kernel_rfl
theorem ch_agg (w : World) : (isAgg 27).run Try.prog w = .ok true w := by kernel_rfl
theorem ch_size (w : World) : (sizeOf 27).run Try.prog w = .ok 3 w := by kernel_rfl
theorem ms_agg (w : World) : (isAgg 31).run Try.prog w = .ok true w := by kernel_rfl
theorem ms_size (w : World) : (sizeOf 31).run Try.prog w = .ok 8 w := by kernel_rfl

/-- A reader beside two blocks of the call's own, from A on. -/
structure RdB (w0 w : World) (R lo : Nat) (s : Rs) (A : Nat) (T : TypeId) (ca cb : Array Value) : Prop where
  rd : Rd w R lo s
  a : Bk w A T ca
  b : Bk w (A + 1) T cb
  tn : Tn [R] w0 w
  lo : lo ≤ A
  new : w0.heap.size ≤ A

section
variable {w0 w : World} {R lo : Nat} {s : Rs} {A : Nat} {T : TypeId} {ca cb : Array Value}

theorem RdB.begin (h : Rd w R lo s) (T : TypeId) (ca cb : Array Value) : RdB w ((w.alloc (.cells ca T)).alloc (.cells cb T)) R lo s w.heap.size T ca cb := by
  have b2 := Bk.new (w.alloc (.cells ca T)) T cb
  rw [show (w.alloc (.cells ca T)).heap.size = w.heap.size + 1 by simp] at b2
  refine ⟨h.below (((Below.refl _ _).alloc h.le _).alloc (by have := h.le; simp; omega) _), (Bk.new _ _ _).alloc _, b2, ((Tn.refl _ _).alloc _).alloc _, h.le, Nat.le_refl _⟩

theorem RdB.set (h : RdB w0 w R lo s A T ca cb) (i : Nat) (u : Value) : RdB w0 (w.setCell ⟨A + 1, i, none⟩ u) R lo s A T ca (cb.setIfInBounds i u) := by
  have h1 := h.lo
  have h2 := h.new
  exact ⟨h.rd.below ((Below.refl _ _).setCell (by show lo ≤ A + 1; omega) _), h.a.other (by show A ≠ A + 1; omega) _, h.b.set i u, h.tn.setCell (.inr (by show w0.heap.size ≤ A + 1; omega)) _, h.lo, h.new⟩

theorem RdB.setA (h : RdB w0 w R lo s A T ca cb) (i : Nat) (u : Value) : RdB w0 (w.setCell ⟨A, i, none⟩ u) R lo s A T (ca.setIfInBounds i u) cb := by
  have h1 := h.lo
  have h2 := h.new
  exact ⟨h.rd.below ((Below.refl _ _).setCell (by show lo ≤ A; omega) _), h.a.set i u, h.b.other (by show A + 1 ≠ A; omega) _, h.tn.setCell (.inr (by show w0.heap.size ≤ A; omega)) _, h.lo, h.new⟩

theorem RdB.step {w' : World} {s' : Rs} (h : RdB w0 w R lo s A T ca cb) (hr : Rd w' R lo s') (ht : Tn [R] w w') : RdB w0 w' R lo s' A T ca cb := by
  have h1 := h.lo
  have h2 := h.rd.lt
  exact ⟨hr, h.a.tn ht (by simp; omega), h.b.tn ht (by simp; omega), h.tn.trans ht (fun x hx => .inl hx), h.lo, h.new⟩

theorem numB (h : RdB w0 w R lo s A T ca cb) : Calls Try.prog 71 #[.pointer (some ⟨R, 0, none⟩)] w fun x w' => x = .returned (.int .i64 s.num.1) ∧ RdB w0 w' R lo s.num.2 A T ca cb :=
  (num_rd h.rd).mono fun x w' ⟨a, b, c⟩ => ⟨a, h.step b c⟩
theorem textB (h : RdB w0 w R lo s A T ca cb) : Calls Try.prog 81 #[.pointer (some ⟨R, 0, none⟩)] w fun x w' => x = .returned (.string s.text.1) ∧ RdB w0 w' R lo s.text.2 A T ca cb :=
  (text_rd h.rd).mono fun x w' ⟨a, b, c⟩ => ⟨a, h.step b c⟩
theorem flagB (h : RdB w0 w R lo s A T ca cb) : Calls Try.prog 76 #[.pointer (some ⟨R, 0, none⟩)] w fun x w' => x = .returned (.bool s.flag.1) ∧ RdB w0 w' R lo s.flag.2 A T ca cb :=
  (flag_rd h.rd).mono fun x w' ⟨a, b, c⟩ => ⟨a, h.step b c⟩
theorem noteB (h : RdB w0 w R lo s A T ca cb) (e : Int) : Calls Try.prog 73 #[.pointer (some ⟨R, 0, none⟩), .int .i64 e] w fun x w' => x = .returned (.tuple #[]) ∧ RdB w0 w' R lo (s.note e) A T ca cb :=
  (note_any h.rd e).mono fun x w' ⟨a, b, c⟩ => ⟨a, h.step b c⟩
theorem RdB.below {w' : World} (h : RdB w0 w R lo s A T ca cb) (hb : Below w.heap.size w w') : RdB w0 w' R lo s A T ca cb := by
  have h1 := h.rd.le
  exact ⟨h.rd.below (hb.mono h1), h.a.below hb h.a.lt, h.b.below hb h.b.lt, h.tn.trans (Tn.of_below hb []) (by simp), h.lo, h.new⟩
end

set_option maxHeartbeats 1000000 in
theorem write_rd {w : World} {R lo : Nat} {s : Rs} (h : Rd w R lo s) :
    Calls Try.prog 66 #[.pointer (some ⟨R, 0, none⟩)] w fun x w' => x = .returned (.agg s.write.1.cells.toArray) ∧ Rd w' R lo s.write.2 ∧ Tn [R] w w' := by
  have H0 : Hid (RdB w ((w.alloc (.cells #[.string .empty, .string .empty, .bool false] 33)).alloc (.cells #[.string .empty, .string .empty, .bool false] 33)) R lo s w.heap.size 33 #[.string .empty, .string .empty, .bool false] #[.string .empty, .string .empty, .bool false]) := RdB.begin h _ _ _
  have hlo := h.le
  clear h
  go_enter Try.func66, Try.ntmps66
  go_wp2_with fail
  refine (textB H0.out).mono ?_
  rintro e w1 ⟨rfl, h1⟩
  have H1 : Hid (RdB w w1 R lo s.text.2 w.heap.size 33 #[.string .empty, .string .empty, .bool false] #[.string .empty, .string .empty, .bool false]) := h1
  have c1 : w1.cell? ⟨w.heap.size + 1, 0, none⟩ = some (.string .empty) := h1.b.cell 0
  have f1 : w1.frozen? ⟨w.heap.size + 1, 0, none⟩ = false := h1.b.frozen 0
  clear h1 H0
  go_wp2_with fail
  refine (flagB (H1.out.set 0 _)).mono ?_
  rintro e w2 ⟨rfl, h2⟩
  have H2 : Hid (RdB w w2 R lo s.text.2.flag.2 w.heap.size 33 #[.string .empty, .string .empty, .bool false] #[.string s.text.1, .string .empty, .bool false]) := h2
  have c2 : w2.cell? ⟨w.heap.size + 1, 2, none⟩ = some (.bool false) := h2.b.cell 2
  have f2 : w2.frozen? ⟨w.heap.size + 1, 2, none⟩ = false := h2.b.frozen 2
  clear h2 H1 c1 f1
  go_wp2_with fail
  refine (textB (H2.out.set 2 _)).mono ?_
  rintro e w3 ⟨rfl, h3⟩
  have H3 : Hid (RdB w w3 R lo s.text.2.flag.2.text.2 w.heap.size 33 #[.string .empty, .string .empty, .bool false] #[.string s.text.1, .string .empty, .bool s.text.2.flag.1]) := h3
  have c3 : w3.cell? ⟨w.heap.size + 1, 1, none⟩ = some (.string .empty) := h3.b.cell 1
  have f3 : w3.frozen? ⟨w.heap.size + 1, 1, none⟩ = false := h3.b.frozen 1
  have d30 : w3.cell? ⟨w.heap.size + 1, 0, none⟩ = some (.string s.text.1) := h3.b.cell 0
  have d32 : w3.cell? ⟨w.heap.size + 1, 2, none⟩ = some (.bool s.text.2.flag.1) := h3.b.cell 2
  clear h3 H2 c2 f2
  go_wp2_with fail
  refine (checkWrite_any s.write.1 _).mono ?_
  rintro e w4 ⟨rfl, hb4⟩
  have H4 : Hid (RdB w w4 R lo s.text.2.flag.2.text.2 w.heap.size 33 #[.string .empty, .string .empty, .bool false] s.write.1.cells.toArray) := (H3.out.set 1 (.string s.text.2.flag.2.text.1)).below hb4
  clear H3 hb4 c3 f3 d30 d32
  go_wp2_with fail
  refine (noteB H4.out _).mono ?_
  rintro e w5 ⟨rfl, h5⟩
  have H5 : Hid (RdB w w5 R lo s.write.2 w.heap.size 33 #[.string .empty, .string .empty, .bool false] s.write.1.cells.toArray) := h5
  have d0 : w5.cell? ⟨w.heap.size + 1, 0, none⟩ = some (.string s.write.1.key) := h5.b.cell 0
  have d1 : w5.cell? ⟨w.heap.size + 1, 1, none⟩ = some (.string s.write.1.val) := h5.b.cell 1
  have d2 : w5.cell? ⟨w.heap.size + 1, 2, none⟩ = some (.bool s.write.1.del) := h5.b.cell 2
  have a0 : w5.cell? ⟨w.heap.size, 0, none⟩ = some (.string .empty) := h5.a.cell 0
  have a1 : w5.cell? ⟨w.heap.size, 1, none⟩ = some (.string .empty) := h5.a.cell 1
  have a2 : w5.cell? ⟨w.heap.size, 2, none⟩ = some (.bool false) := h5.a.cell 2
  have g0 : w5.frozen? ⟨w.heap.size, 0, none⟩ = false := h5.a.frozen 0
  have g1 : w5.frozen? ⟨w.heap.size, 1, none⟩ = false := h5.a.frozen 1
  have g2 : w5.frozen? ⟨w.heap.size, 2, none⟩ = false := h5.a.frozen 2
  clear h5 H4
  go_wp2
  have h := ((H5.out.setA 0 (.string s.write.1.key)).setA 1 (.string s.write.1.val)).setA 2 (.bool s.write.1.del)
  refine bodyPost_ret (results_one (cs := s.write.1.cells) rfl rfl wr_agg wr_size rfl h.a) rfl ?_
  exact ⟨rfl, h.rd, h.tn⟩

set_option maxHeartbeats 1000000 in
theorem stamped_rd {w : World} {R lo : Nat} {s : Rs} (h : Rd w R lo s) :
    Calls Try.prog 77 #[.pointer (some ⟨R, 0, none⟩)] w fun x w' => x = .returned (.agg s.stamped.1.cells.toArray) ∧ Rd w' R lo s.stamped.2 ∧ Tn [R] w w' := by
  have H0 : Hid (RdB w ((w.alloc (.cells #[.string .empty, .string .empty, .int .i64 0] 70)).alloc (.cells #[.string .empty, .string .empty, .int .i64 0] 70)) R lo s w.heap.size 70 #[.string .empty, .string .empty, .int .i64 0] #[.string .empty, .string .empty, .int .i64 0]) := RdB.begin h _ _ _
  have hlo := h.le
  clear h
  go_enter Try.func77, Try.ntmps77
  go_wp2_with fail
  refine (textB H0.out).mono ?_
  rintro e w1 ⟨rfl, h1⟩
  have H1 : Hid (RdB w w1 R lo s.text.2 w.heap.size 70 #[.string .empty, .string .empty, .int .i64 0] #[.string .empty, .string .empty, .int .i64 0]) := h1
  have c1 : w1.cell? ⟨w.heap.size + 1, 0, none⟩ = some (.string .empty) := h1.b.cell 0
  have f1 : w1.frozen? ⟨w.heap.size + 1, 0, none⟩ = false := h1.b.frozen 0
  clear h1 H0
  go_wp2_with fail
  refine (textB (H1.out.set 0 _)).mono ?_
  rintro e w2 ⟨rfl, h2⟩
  have H2 : Hid (RdB w w2 R lo s.text.2.text.2 w.heap.size 70 #[.string .empty, .string .empty, .int .i64 0] #[.string s.text.1, .string .empty, .int .i64 0]) := h2
  have c2 : w2.cell? ⟨w.heap.size + 1, 1, none⟩ = some (.string .empty) := h2.b.cell 1
  have f2 : w2.frozen? ⟨w.heap.size + 1, 1, none⟩ = false := h2.b.frozen 1
  clear h2 H1 c1 f1
  go_wp2_with fail
  refine (numB (H2.out.set 1 _)).mono ?_
  rintro e w3 ⟨rfl, h3⟩
  have H3 : Hid (RdB w w3 R lo s.stamped.2 w.heap.size 70 #[.string .empty, .string .empty, .int .i64 0] #[.string s.text.1, .string s.text.2.text.1, .int .i64 0]) := h3
  have c3 : w3.cell? ⟨w.heap.size + 1, 2, none⟩ = some (.int .i64 0) := h3.b.cell 2
  have f3 : w3.frozen? ⟨w.heap.size + 1, 2, none⟩ = false := h3.b.frozen 2
  have d0 : w3.cell? ⟨w.heap.size + 1, 0, none⟩ = some (.string s.text.1) := h3.b.cell 0
  have d1 : w3.cell? ⟨w.heap.size + 1, 1, none⟩ = some (.string s.text.2.text.1) := h3.b.cell 1
  have a0 : w3.cell? ⟨w.heap.size, 0, none⟩ = some (.string .empty) := h3.a.cell 0
  have a1 : w3.cell? ⟨w.heap.size, 1, none⟩ = some (.string .empty) := h3.a.cell 1
  have a2 : w3.cell? ⟨w.heap.size, 2, none⟩ = some (.int .i64 0) := h3.a.cell 2
  have g0 : w3.frozen? ⟨w.heap.size, 0, none⟩ = false := h3.a.frozen 0
  have g1 : w3.frozen? ⟨w.heap.size, 1, none⟩ = false := h3.a.frozen 1
  have g2 : w3.frozen? ⟨w.heap.size, 2, none⟩ = false := h3.a.frozen 2
  clear h3 H2 c2 f2
  go_wp2
  have h := (((H3.out.set 2 (.int .i64 s.text.2.text.2.num.1)).setA 0 (.string s.stamped.1.key)).setA 1 (.string s.stamped.1.val)).setA 2 (.int .i64 s.stamped.1.ts)
  refine bodyPost_ret (results_one (cs := s.stamped.1.cells) rfl rfl st_agg st_size rfl h.a) rfl ?_
  exact ⟨rfl, h.rd, h.tn⟩

set_option maxHeartbeats 1000000 in
theorem count_rd {w : World} {R lo : Nat} {s : Rs} (h : Rd w R lo s) (most : Int) :
    Calls Try.prog 72 #[.pointer (some ⟨R, 0, none⟩), .int .i64 most] w fun x w' => x = .returned (.int .i64 (s.count most).1) ∧ Rd w' R lo (s.count most).2 ∧ Tn [R] w w' := by
  have H0 : Hid (Rd w R lo s) := h
  clear h
  go_enter Try.func72, Try.ntmps72
  go_wp2_with fail
  refine (num_rd H0.out).mono ?_
  rintro e w1 ⟨rfl, h1, t1⟩
  have H1 : Hid (Rd w1 R lo s.num.2) := h1
  have T1 : Hid (Tn [R] w w1) := t1
  clear h1 t1
  go_wp2_with fail
  refine (within_any s.num.1 0 most _).mono ?_
  rintro e w2 ⟨rfl, hw2⟩
  subst hw2
  cases hq : Rc.inn 0 s.num.1 most
  · have HC : Hid (s.count most = (0, s.num.2.note 32)) := by unfold Hid Rs.count; rw [hq]; rfl
    go_wp2_with fail
    refine (note_any H1.out 32).mono ?_
    rintro e w3 ⟨rfl, h3, t3⟩
    have H3 : Hid (Rd w3 R lo (s.num.2.note 32)) := h3
    have T3 : Hid (Tn [R] w w3) := T1.out.trans t3 (fun x hx => .inl hx)
    clear h3 t3
    go_wp2
    go_ret
    rw [HC.out]
    exact ⟨rfl, H3.out, T3.out⟩
  · have HC : Hid (s.count most = s.num) := by unfold Hid Rs.count; rw [hq]; rfl
    go_wp2
    go_ret
    rw [HC.out]
    exact ⟨rfl, H1.out, T1.out⟩

end Go.Proofs.Ytlfgclmgpbaenaa
