/- What any bytes are as a commit, a chunk, a master, or what is wrong with them, is the document's. -/
import Derived.Test.YtlfgclmgpbaenaaRcLive
import Derived.Test.YtlfgclmgpbaenaaRcOne
import Derived.Test.YtlfgclmgpbaenaaRcArgs
import Derived.Test.YtlfgclmgpbaenaaRcTkM
import Derived.Test.YtlfgclmgpbaenaaRcEqR
namespace Go.Proofs.Ytlfgclmgpbaenaa
open Go.ChangeShapes Go.WideShapes Go.ChangeAt Go.RowKit
set_option linter.unusedVariables false
set_option maxRecDepth 100000

theorem InB.wide {B B' : Nat} {w : World} {p : Option Addr} {len cap : Nat} {xs : List Int} (h : InB B w p len cap xs) (hB : B ≤ B') : InB B' w p len cap xs := ⟨h.lenq, h.bys, h.le, Nat.le_trans h.room hB, h.nil, h.byte⟩

set_option maxHeartbeats 8000000 in
theorem walk_recordReads (p : Option Addr) (len cap : Nat) (xs : List Int) (w : World) (hin : InB 140737488351232 w p len cap xs) :
    Calls Try.prog 5 #[.slice p len cap] w fun e w' => e = .returned (.bool true) ∧ Below w.heap.size w w' := by
  have HI : Hid (∀ w', Below w.heap.size w w' → InB 9223372036854775807 w' p len cap xs) := fun w' hb => (hin.below hb).wide (by omega)
  have HL : Hid (xs.length = len) := hin.lenq
  have HBY : Hid (∀ y ∈ xs, 0 ≤ y ∧ y < 256) := hin.byte
  have HB0 : Hid (Below w.heap.size w w) := Below.refl _ _
  have HLL : Hid (xs.length ≤ 140737488355328) := by have := hin.lenq; have := hin.le; have := hin.room; unfold Hid; omega
  have t2 : ∀ g ∈ (Rc.takeCh xs).2.2.1, -9223372036854775808 ≤ g.ts ∧ g.ts ≤ 9223372036854775807 := by
    unfold Rc.takeCh
    simp only
    split
    · exact Rs.chunk_fits xs hin.byte
    · simp
  clear hin
  obtain ⟨C1, q1⟩ : ∃ C, Rc.takeCom xs = C := ⟨_, rfl⟩
  obtain ⟨C2, q2⟩ : ∃ C, Rc.takeCh xs = C := ⟨_, rfl⟩
  obtain ⟨C3, q3⟩ : ∃ C, Rc.takeMs xs = C := ⟨_, rfl⟩
  rw [q2] at t2
  have Q1 : Hid (Rc.takeCom xs = C1) := q1
  have Q2 : Hid (Rc.takeCh xs = C2) := q2
  have Q3 : Hid (Rc.takeMs xs = C3) := q3
  clear q1 q2 q3
  obtain ⟨ts, l, e1⟩ := C1
  obtain ⟨n, d, ll, e2⟩ := C2
  obtain ⟨m, e3⟩ := C3
  simp only at t2
  have T2 : Hid (∀ g ∈ ll, -9223372036854775808 ≤ g.ts ∧ g.ts ≤ 9223372036854775807) := t2
  clear t2
  go_enter Try.func5, Try.ntmps5
  go_wp2_with fail
  refine (takeCommit_any p len cap xs _ (HI.out _ HB0.out)).mono ?_
  rintro e w0 ⟨v, rfl, ho, hb⟩
  rw [Q1.out] at ho ⊢
  simp only at ho ⊢
  obtain ⟨p0, c0, rfl⟩ := own_form ho
  have hbx : Below w0.heap.size w0 (w0.alloc (.cells #[.int .i64 ts, .slice p0 l.length c0] 24)) := (Below.refl _ _).alloc (Nat.le_refl _) _
  have X0_0 : Hid (Bk (w0.alloc (.cells #[.int .i64 ts, .slice p0 l.length c0] 24)) w0.heap.size 24 #[.int .i64 ts, .slice p0 l.length c0]) := Bk.new _ _ _
  have I0_0 : Hid (InW (w0.alloc (.cells #[.int .i64 ts, .slice p0 l.length c0] 24)) p0 l.length c0 l) := ho.inw.up hbx
  have H0 : Hid (Below w.heap.size w (w0.alloc (.cells #[.int .i64 ts, .slice p0 l.length c0] 24))) := (HB0.out.trans (hb.mono HB0.out.size)).trans (hbx.mono (HB0.out.trans (hb.mono HB0.out.size)).size)
  clear hb hbx ho
  generalize hx0 : w0.heap.size = x0 at X0_0 ⊢
  go_wp2_with fail
  refine (rtakeCommit_any p len cap xs _ (HI.out _ H0.out) HLL.out).mono ?_
  rintro e w1 ⟨v, rfl, ho, hb⟩
  rw [Q1.out] at ho ⊢
  simp only at ho ⊢
  obtain ⟨p1, c1, rfl⟩ := own_form ho
  have hbx : Below w1.heap.size w1 (w1.alloc (.cells #[.int .i64 ts, .slice p1 l.length c1] 24)) := (Below.refl _ _).alloc (Nat.le_refl _) _
  have X0_1 : Hid (Bk (w1.alloc (.cells #[.int .i64 ts, .slice p1 l.length c1] 24)) x0 24 #[.int .i64 ts, .slice p0 l.length c0]) := (Bk.below (X0_0.out) hb (Bk.lt X0_0.out)).alloc _
  have I0_1 : Hid (InW (w1.alloc (.cells #[.int .i64 ts, .slice p1 l.length c1] 24)) p0 l.length c0 l) := (I0_0.out.up hb).up hbx
  have X1_1 : Hid (Bk (w1.alloc (.cells #[.int .i64 ts, .slice p1 l.length c1] 24)) w1.heap.size 24 #[.int .i64 ts, .slice p1 l.length c1]) := Bk.new _ _ _
  have I1_1 : Hid (InW (w1.alloc (.cells #[.int .i64 ts, .slice p1 l.length c1] 24)) p1 l.length c1 l) := ho.inw.up hbx
  have H1 : Hid (Below w.heap.size w (w1.alloc (.cells #[.int .i64 ts, .slice p1 l.length c1] 24))) := (H0.out.trans (hb.mono H0.out.size)).trans (hbx.mono (H0.out.trans (hb.mono H0.out.size)).size)
  clear hb hbx ho X0_0 I0_0
  generalize hx1 : w1.heap.size = x1 at X1_1 ⊢
  go_wp2_with fail
  refine (takeChunk_any p len cap xs _ (HI.out _ H1.out)).mono ?_
  rintro e w2 ⟨v, rfl, ho, hb⟩
  rw [Q2.out] at ho ⊢
  simp only at ho ⊢
  obtain ⟨p2, c2, rfl⟩ := own_form ho
  have hbx : Below w2.heap.size w2 (w2.alloc (.cells #[.int .i64 n, .slice p2 ll.length c2, .bool d] 27)) := (Below.refl _ _).alloc (Nat.le_refl _) _
  have X0_2 : Hid (Bk (w2.alloc (.cells #[.int .i64 n, .slice p2 ll.length c2, .bool d] 27)) x0 24 #[.int .i64 ts, .slice p0 l.length c0]) := (Bk.below (X0_1.out) hb (Bk.lt X0_1.out)).alloc _
  have I0_2 : Hid (InW (w2.alloc (.cells #[.int .i64 n, .slice p2 ll.length c2, .bool d] 27)) p0 l.length c0 l) := (I0_1.out.up hb).up hbx
  have X1_2 : Hid (Bk (w2.alloc (.cells #[.int .i64 n, .slice p2 ll.length c2, .bool d] 27)) x1 24 #[.int .i64 ts, .slice p1 l.length c1]) := (Bk.below (X1_1.out) hb (Bk.lt X1_1.out)).alloc _
  have I1_2 : Hid (InW (w2.alloc (.cells #[.int .i64 n, .slice p2 ll.length c2, .bool d] 27)) p1 l.length c1 l) := (I1_1.out.up hb).up hbx
  have X2_2 : Hid (Bk (w2.alloc (.cells #[.int .i64 n, .slice p2 ll.length c2, .bool d] 27)) w2.heap.size 27 #[.int .i64 n, .slice p2 ll.length c2, .bool d]) := Bk.new _ _ _
  have I2_2 : Hid (InS (w2.alloc (.cells #[.int .i64 n, .slice p2 ll.length c2, .bool d] 27)) p2 ll.length c2 ll) := (ho.ins T2.out).up hbx
  have H2 : Hid (Below w.heap.size w (w2.alloc (.cells #[.int .i64 n, .slice p2 ll.length c2, .bool d] 27))) := (H1.out.trans (hb.mono H1.out.size)).trans (hbx.mono (H1.out.trans (hb.mono H1.out.size)).size)
  clear hb hbx ho X0_1 I0_1 X1_1 I1_1
  generalize hx2 : w2.heap.size = x2 at X2_2 ⊢
  go_wp2_with fail
  refine (rtakeChunk_any p len cap xs _ (HI.out _ H2.out) HLL.out).mono ?_
  rintro e w3 ⟨v, rfl, ho, hb⟩
  rw [Q2.out] at ho ⊢
  simp only at ho ⊢
  obtain ⟨p3, c3, rfl⟩ := own_form ho
  have hbx : Below w3.heap.size w3 (w3.alloc (.cells #[.int .i64 n, .slice p3 ll.length c3, .bool d] 27)) := (Below.refl _ _).alloc (Nat.le_refl _) _
  have X0_3 : Hid (Bk (w3.alloc (.cells #[.int .i64 n, .slice p3 ll.length c3, .bool d] 27)) x0 24 #[.int .i64 ts, .slice p0 l.length c0]) := (Bk.below (X0_2.out) hb (Bk.lt X0_2.out)).alloc _
  have I0_3 : Hid (InW (w3.alloc (.cells #[.int .i64 n, .slice p3 ll.length c3, .bool d] 27)) p0 l.length c0 l) := (I0_2.out.up hb).up hbx
  have X1_3 : Hid (Bk (w3.alloc (.cells #[.int .i64 n, .slice p3 ll.length c3, .bool d] 27)) x1 24 #[.int .i64 ts, .slice p1 l.length c1]) := (Bk.below (X1_2.out) hb (Bk.lt X1_2.out)).alloc _
  have I1_3 : Hid (InW (w3.alloc (.cells #[.int .i64 n, .slice p3 ll.length c3, .bool d] 27)) p1 l.length c1 l) := (I1_2.out.up hb).up hbx
  have X2_3 : Hid (Bk (w3.alloc (.cells #[.int .i64 n, .slice p3 ll.length c3, .bool d] 27)) x2 27 #[.int .i64 n, .slice p2 ll.length c2, .bool d]) := (Bk.below (X2_2.out) hb (Bk.lt X2_2.out)).alloc _
  have I2_3 : Hid (InS (w3.alloc (.cells #[.int .i64 n, .slice p3 ll.length c3, .bool d] 27)) p2 ll.length c2 ll) := (I2_2.out.up hb).up hbx
  have X3_3 : Hid (Bk (w3.alloc (.cells #[.int .i64 n, .slice p3 ll.length c3, .bool d] 27)) w3.heap.size 27 #[.int .i64 n, .slice p3 ll.length c3, .bool d]) := Bk.new _ _ _
  have I3_3 : Hid (InS (w3.alloc (.cells #[.int .i64 n, .slice p3 ll.length c3, .bool d] 27)) p3 ll.length c3 ll) := (ho.ins T2.out).up hbx
  have H3 : Hid (Below w.heap.size w (w3.alloc (.cells #[.int .i64 n, .slice p3 ll.length c3, .bool d] 27))) := (H2.out.trans (hb.mono H2.out.size)).trans (hbx.mono (H2.out.trans (hb.mono H2.out.size)).size)
  clear hb hbx ho X0_2 I0_2 X1_2 I1_2 X2_2 I2_2
  generalize hx3 : w3.heap.size = x3 at X3_3 ⊢
  go_wp2_with fail
  refine (takeMaster_any p len cap xs _ (HI.out _ H3.out)).mono ?_
  rintro e w4 ⟨rfl, hb⟩
  rw [Q3.out]
  simp only
  rw [show m.cells.toArray = #[.int .i64 m.seq, .int .i64 m.area, .int .i64 m.chunks, .int .i64 m.ts, .int .i64 m.sector, .int .i64 m.offset, .int .i64 m.number, .int .i64 m.run] from rfl]
  have hbx : Below w4.heap.size w4 (w4.alloc (.cells #[.int .i64 m.seq, .int .i64 m.area, .int .i64 m.chunks, .int .i64 m.ts, .int .i64 m.sector, .int .i64 m.offset, .int .i64 m.number, .int .i64 m.run] 31)) := (Below.refl _ _).alloc (Nat.le_refl _) _
  have X0_4 : Hid (Bk (w4.alloc (.cells #[.int .i64 m.seq, .int .i64 m.area, .int .i64 m.chunks, .int .i64 m.ts, .int .i64 m.sector, .int .i64 m.offset, .int .i64 m.number, .int .i64 m.run] 31)) x0 24 #[.int .i64 ts, .slice p0 l.length c0]) := (Bk.below (X0_3.out) hb (Bk.lt X0_3.out)).alloc _
  have I0_4 : Hid (InW (w4.alloc (.cells #[.int .i64 m.seq, .int .i64 m.area, .int .i64 m.chunks, .int .i64 m.ts, .int .i64 m.sector, .int .i64 m.offset, .int .i64 m.number, .int .i64 m.run] 31)) p0 l.length c0 l) := (I0_3.out.up hb).up hbx
  have X1_4 : Hid (Bk (w4.alloc (.cells #[.int .i64 m.seq, .int .i64 m.area, .int .i64 m.chunks, .int .i64 m.ts, .int .i64 m.sector, .int .i64 m.offset, .int .i64 m.number, .int .i64 m.run] 31)) x1 24 #[.int .i64 ts, .slice p1 l.length c1]) := (Bk.below (X1_3.out) hb (Bk.lt X1_3.out)).alloc _
  have I1_4 : Hid (InW (w4.alloc (.cells #[.int .i64 m.seq, .int .i64 m.area, .int .i64 m.chunks, .int .i64 m.ts, .int .i64 m.sector, .int .i64 m.offset, .int .i64 m.number, .int .i64 m.run] 31)) p1 l.length c1 l) := (I1_3.out.up hb).up hbx
  have X2_4 : Hid (Bk (w4.alloc (.cells #[.int .i64 m.seq, .int .i64 m.area, .int .i64 m.chunks, .int .i64 m.ts, .int .i64 m.sector, .int .i64 m.offset, .int .i64 m.number, .int .i64 m.run] 31)) x2 27 #[.int .i64 n, .slice p2 ll.length c2, .bool d]) := (Bk.below (X2_3.out) hb (Bk.lt X2_3.out)).alloc _
  have I2_4 : Hid (InS (w4.alloc (.cells #[.int .i64 m.seq, .int .i64 m.area, .int .i64 m.chunks, .int .i64 m.ts, .int .i64 m.sector, .int .i64 m.offset, .int .i64 m.number, .int .i64 m.run] 31)) p2 ll.length c2 ll) := (I2_3.out.up hb).up hbx
  have X3_4 : Hid (Bk (w4.alloc (.cells #[.int .i64 m.seq, .int .i64 m.area, .int .i64 m.chunks, .int .i64 m.ts, .int .i64 m.sector, .int .i64 m.offset, .int .i64 m.number, .int .i64 m.run] 31)) x3 27 #[.int .i64 n, .slice p3 ll.length c3, .bool d]) := (Bk.below (X3_3.out) hb (Bk.lt X3_3.out)).alloc _
  have I3_4 : Hid (InS (w4.alloc (.cells #[.int .i64 m.seq, .int .i64 m.area, .int .i64 m.chunks, .int .i64 m.ts, .int .i64 m.sector, .int .i64 m.offset, .int .i64 m.number, .int .i64 m.run] 31)) p3 ll.length c3 ll) := (I3_3.out.up hb).up hbx
  have X4_4 : Hid (Bk (w4.alloc (.cells #[.int .i64 m.seq, .int .i64 m.area, .int .i64 m.chunks, .int .i64 m.ts, .int .i64 m.sector, .int .i64 m.offset, .int .i64 m.number, .int .i64 m.run] 31)) w4.heap.size 31 #[.int .i64 m.seq, .int .i64 m.area, .int .i64 m.chunks, .int .i64 m.ts, .int .i64 m.sector, .int .i64 m.offset, .int .i64 m.number, .int .i64 m.run]) := Bk.new _ _ _
  have H4 : Hid (Below w.heap.size w (w4.alloc (.cells #[.int .i64 m.seq, .int .i64 m.area, .int .i64 m.chunks, .int .i64 m.ts, .int .i64 m.sector, .int .i64 m.offset, .int .i64 m.number, .int .i64 m.run] 31))) := (H3.out.trans (hb.mono H3.out.size)).trans (hbx.mono (H3.out.trans (hb.mono H3.out.size)).size)
  clear hb hbx X0_3 I0_3 X1_3 I1_3 X2_3 I2_3 X3_3 I3_3
  generalize hx4 : w4.heap.size = x4 at X4_4 ⊢
  go_wp2_with fail
  refine (rtakeMaster_any p len cap xs _ (HI.out _ H4.out) HLL.out).mono ?_
  rintro e w5 ⟨rfl, hb⟩
  rw [Q3.out]
  simp only
  rw [show m.cells.toArray = #[.int .i64 m.seq, .int .i64 m.area, .int .i64 m.chunks, .int .i64 m.ts, .int .i64 m.sector, .int .i64 m.offset, .int .i64 m.number, .int .i64 m.run] from rfl]
  have hbx : Below w5.heap.size w5 (w5.alloc (.cells #[.int .i64 m.seq, .int .i64 m.area, .int .i64 m.chunks, .int .i64 m.ts, .int .i64 m.sector, .int .i64 m.offset, .int .i64 m.number, .int .i64 m.run] 31)) := (Below.refl _ _).alloc (Nat.le_refl _) _
  have X0_5 : Hid (Bk (w5.alloc (.cells #[.int .i64 m.seq, .int .i64 m.area, .int .i64 m.chunks, .int .i64 m.ts, .int .i64 m.sector, .int .i64 m.offset, .int .i64 m.number, .int .i64 m.run] 31)) x0 24 #[.int .i64 ts, .slice p0 l.length c0]) := (Bk.below (X0_4.out) hb (Bk.lt X0_4.out)).alloc _
  have I0_5 : Hid (InW (w5.alloc (.cells #[.int .i64 m.seq, .int .i64 m.area, .int .i64 m.chunks, .int .i64 m.ts, .int .i64 m.sector, .int .i64 m.offset, .int .i64 m.number, .int .i64 m.run] 31)) p0 l.length c0 l) := (I0_4.out.up hb).up hbx
  have X1_5 : Hid (Bk (w5.alloc (.cells #[.int .i64 m.seq, .int .i64 m.area, .int .i64 m.chunks, .int .i64 m.ts, .int .i64 m.sector, .int .i64 m.offset, .int .i64 m.number, .int .i64 m.run] 31)) x1 24 #[.int .i64 ts, .slice p1 l.length c1]) := (Bk.below (X1_4.out) hb (Bk.lt X1_4.out)).alloc _
  have I1_5 : Hid (InW (w5.alloc (.cells #[.int .i64 m.seq, .int .i64 m.area, .int .i64 m.chunks, .int .i64 m.ts, .int .i64 m.sector, .int .i64 m.offset, .int .i64 m.number, .int .i64 m.run] 31)) p1 l.length c1 l) := (I1_4.out.up hb).up hbx
  have X2_5 : Hid (Bk (w5.alloc (.cells #[.int .i64 m.seq, .int .i64 m.area, .int .i64 m.chunks, .int .i64 m.ts, .int .i64 m.sector, .int .i64 m.offset, .int .i64 m.number, .int .i64 m.run] 31)) x2 27 #[.int .i64 n, .slice p2 ll.length c2, .bool d]) := (Bk.below (X2_4.out) hb (Bk.lt X2_4.out)).alloc _
  have I2_5 : Hid (InS (w5.alloc (.cells #[.int .i64 m.seq, .int .i64 m.area, .int .i64 m.chunks, .int .i64 m.ts, .int .i64 m.sector, .int .i64 m.offset, .int .i64 m.number, .int .i64 m.run] 31)) p2 ll.length c2 ll) := (I2_4.out.up hb).up hbx
  have X3_5 : Hid (Bk (w5.alloc (.cells #[.int .i64 m.seq, .int .i64 m.area, .int .i64 m.chunks, .int .i64 m.ts, .int .i64 m.sector, .int .i64 m.offset, .int .i64 m.number, .int .i64 m.run] 31)) x3 27 #[.int .i64 n, .slice p3 ll.length c3, .bool d]) := (Bk.below (X3_4.out) hb (Bk.lt X3_4.out)).alloc _
  have I3_5 : Hid (InS (w5.alloc (.cells #[.int .i64 m.seq, .int .i64 m.area, .int .i64 m.chunks, .int .i64 m.ts, .int .i64 m.sector, .int .i64 m.offset, .int .i64 m.number, .int .i64 m.run] 31)) p3 ll.length c3 ll) := (I3_4.out.up hb).up hbx
  have X4_5 : Hid (Bk (w5.alloc (.cells #[.int .i64 m.seq, .int .i64 m.area, .int .i64 m.chunks, .int .i64 m.ts, .int .i64 m.sector, .int .i64 m.offset, .int .i64 m.number, .int .i64 m.run] 31)) x4 31 #[.int .i64 m.seq, .int .i64 m.area, .int .i64 m.chunks, .int .i64 m.ts, .int .i64 m.sector, .int .i64 m.offset, .int .i64 m.number, .int .i64 m.run]) := (Bk.below (X4_4.out) hb (Bk.lt X4_4.out)).alloc _
  have X5_5 : Hid (Bk (w5.alloc (.cells #[.int .i64 m.seq, .int .i64 m.area, .int .i64 m.chunks, .int .i64 m.ts, .int .i64 m.sector, .int .i64 m.offset, .int .i64 m.number, .int .i64 m.run] 31)) w5.heap.size 31 #[.int .i64 m.seq, .int .i64 m.area, .int .i64 m.chunks, .int .i64 m.ts, .int .i64 m.sector, .int .i64 m.offset, .int .i64 m.number, .int .i64 m.run]) := Bk.new _ _ _
  have H5 : Hid (Below w.heap.size w (w5.alloc (.cells #[.int .i64 m.seq, .int .i64 m.area, .int .i64 m.chunks, .int .i64 m.ts, .int .i64 m.sector, .int .i64 m.offset, .int .i64 m.number, .int .i64 m.run] 31))) := (H4.out.trans (hb.mono H4.out.size)).trans (hbx.mono (H4.out.trans (hb.mono H4.out.size)).size)
  clear hb hbx X0_4 I0_4 X1_4 I1_4 X2_4 I2_4 X3_4 I3_4 X4_4
  generalize hx5 : w5.heap.size = x5 at X5_5 ⊢
  go_wp2_with fail
  refine (live_any _).mono ?_
  rintro e w6 ⟨rfl, hb⟩
  have H6 : Hid (Below w.heap.size w w6) := H5.out.trans (hb.mono H5.out.size)
  have x6_0 := Bk.below (X0_5.out) hb (Bk.lt X0_5.out)
  have X0_6 : Hid (Bk w6 x0 24 #[.int .i64 ts, .slice p0 l.length c0]) := x6_0
  have I0_6 : Hid (InW w6 p0 l.length c0 l) := I0_5.out.up hb
  have x6_1 := Bk.below (X1_5.out) hb (Bk.lt X1_5.out)
  have X1_6 : Hid (Bk w6 x1 24 #[.int .i64 ts, .slice p1 l.length c1]) := x6_1
  have I1_6 : Hid (InW w6 p1 l.length c1 l) := I1_5.out.up hb
  have x6_2 := Bk.below (X2_5.out) hb (Bk.lt X2_5.out)
  have X2_6 : Hid (Bk w6 x2 27 #[.int .i64 n, .slice p2 ll.length c2, .bool d]) := x6_2
  have I2_6 : Hid (InS w6 p2 ll.length c2 ll) := I2_5.out.up hb
  have x6_3 := Bk.below (X3_5.out) hb (Bk.lt X3_5.out)
  have X3_6 : Hid (Bk w6 x3 27 #[.int .i64 n, .slice p3 ll.length c3, .bool d]) := x6_3
  have I3_6 : Hid (InS w6 p3 ll.length c3 ll) := I3_5.out.up hb
  have x6_4 := Bk.below (X4_5.out) hb (Bk.lt X4_5.out)
  have X4_6 : Hid (Bk w6 x4 31 #[.int .i64 m.seq, .int .i64 m.area, .int .i64 m.chunks, .int .i64 m.ts, .int .i64 m.sector, .int .i64 m.offset, .int .i64 m.number, .int .i64 m.run]) := x6_4
  have x6_5 := Bk.below (X5_5.out) hb (Bk.lt X5_5.out)
  have X5_6 : Hid (Bk w6 x5 31 #[.int .i64 m.seq, .int .i64 m.area, .int .i64 m.chunks, .int .i64 m.ts, .int .i64 m.sector, .int .i64 m.offset, .int .i64 m.number, .int .i64 m.run]) := x6_5
  have k0_0 : w6.cell? ⟨x0, 0, none⟩ = some (.int .i64 ts) := X0_6.out.cell 0
  have k0_1 : w6.cell? ⟨x0, 1, none⟩ = some (.slice p0 l.length c0) := X0_6.out.cell 1
  have k1_0 : w6.cell? ⟨x1, 0, none⟩ = some (.int .i64 ts) := X1_6.out.cell 0
  have k1_1 : w6.cell? ⟨x1, 1, none⟩ = some (.slice p1 l.length c1) := X1_6.out.cell 1
  clear hb x6_0 X0_5 x6_1 X1_5 x6_2 X2_5 x6_3 X3_5 x6_4 X4_5 x6_5 X5_5 I0_5 I1_5 I2_5 I3_5
  go_wp2_with fail
  refine (rsameCommit_any ts ts p0 p1 l.length l.length c0 c1 l l _ I0_6.out I1_6.out).mono ?_
  rintro e w7 ⟨b, rfl, hq, hb⟩
  obtain rfl : b = true := hq.2 ⟨rfl, rfl⟩
  have H7 : Hid (Below w.heap.size w w7) := H6.out.trans (hb.mono H6.out.size)
  have X2_7 : Hid (Bk w7 x2 27 #[.int .i64 n, .slice p2 ll.length c2, .bool d]) := Bk.below (X2_6.out) hb (Bk.lt X2_6.out)
  have I2_7 : Hid (InS w7 p2 ll.length c2 ll) := I2_6.out.up hb
  have X3_7 : Hid (Bk w7 x3 27 #[.int .i64 n, .slice p3 ll.length c3, .bool d]) := Bk.below (X3_6.out) hb (Bk.lt X3_6.out)
  have I3_7 : Hid (InS w7 p3 ll.length c3 ll) := I3_6.out.up hb
  have X4_7 : Hid (Bk w7 x4 31 #[.int .i64 m.seq, .int .i64 m.area, .int .i64 m.chunks, .int .i64 m.ts, .int .i64 m.sector, .int .i64 m.offset, .int .i64 m.number, .int .i64 m.run]) := Bk.below (X4_6.out) hb (Bk.lt X4_6.out)
  have X5_7 : Hid (Bk w7 x5 31 #[.int .i64 m.seq, .int .i64 m.area, .int .i64 m.chunks, .int .i64 m.ts, .int .i64 m.sector, .int .i64 m.offset, .int .i64 m.number, .int .i64 m.run]) := Bk.below (X5_6.out) hb (Bk.lt X5_6.out)
  clear hq hb k0_0 k0_1 k1_0 k1_1
  have k2_0 : w7.cell? ⟨x2, 0, none⟩ = some (.int .i64 n) := X2_7.out.cell 0
  have k2_1 : w7.cell? ⟨x2, 1, none⟩ = some (.slice p2 ll.length c2) := X2_7.out.cell 1
  have k2_2 : w7.cell? ⟨x2, 2, none⟩ = some (.bool d) := X2_7.out.cell 2
  have k3_0 : w7.cell? ⟨x3, 0, none⟩ = some (.int .i64 n) := X3_7.out.cell 0
  have k3_1 : w7.cell? ⟨x3, 1, none⟩ = some (.slice p3 ll.length c3) := X3_7.out.cell 1
  have k3_2 : w7.cell? ⟨x3, 2, none⟩ = some (.bool d) := X3_7.out.cell 2
  go_wp2_with fail
  refine (rsameChunk_any n n d d p2 p3 ll.length ll.length c2 c3 ll ll _ I2_7.out I3_7.out).mono ?_
  rintro e w8 ⟨b, rfl, hq, hb⟩
  obtain rfl : b = true := hq.2 ⟨rfl, rfl, rfl⟩
  have H8 : Hid (Below w.heap.size w w8) := H7.out.trans (hb.mono H7.out.size)
  have X4_8 : Hid (Bk w8 x4 31 #[.int .i64 m.seq, .int .i64 m.area, .int .i64 m.chunks, .int .i64 m.ts, .int .i64 m.sector, .int .i64 m.offset, .int .i64 m.number, .int .i64 m.run]) := Bk.below (X4_7.out) hb (Bk.lt X4_7.out)
  have X5_8 : Hid (Bk w8 x5 31 #[.int .i64 m.seq, .int .i64 m.area, .int .i64 m.chunks, .int .i64 m.ts, .int .i64 m.sector, .int .i64 m.offset, .int .i64 m.number, .int .i64 m.run]) := Bk.below (X5_7.out) hb (Bk.lt X5_7.out)
  clear hq hb k2_0 k2_1 k2_2 k3_0 k3_1 k3_2
  have k4_0 : w8.cell? ⟨x4, 0, none⟩ = some (.int .i64 m.seq) := X4_8.out.cell 0
  have k4_1 : w8.cell? ⟨x4, 1, none⟩ = some (.int .i64 m.area) := X4_8.out.cell 1
  have k4_2 : w8.cell? ⟨x4, 2, none⟩ = some (.int .i64 m.chunks) := X4_8.out.cell 2
  have k4_3 : w8.cell? ⟨x4, 3, none⟩ = some (.int .i64 m.ts) := X4_8.out.cell 3
  have k4_4 : w8.cell? ⟨x4, 4, none⟩ = some (.int .i64 m.sector) := X4_8.out.cell 4
  have k4_5 : w8.cell? ⟨x4, 5, none⟩ = some (.int .i64 m.offset) := X4_8.out.cell 5
  have k4_6 : w8.cell? ⟨x4, 6, none⟩ = some (.int .i64 m.number) := X4_8.out.cell 6
  have k4_7 : w8.cell? ⟨x4, 7, none⟩ = some (.int .i64 m.run) := X4_8.out.cell 7
  have k5_0 : w8.cell? ⟨x5, 0, none⟩ = some (.int .i64 m.seq) := X5_8.out.cell 0
  have k5_1 : w8.cell? ⟨x5, 1, none⟩ = some (.int .i64 m.area) := X5_8.out.cell 1
  have k5_2 : w8.cell? ⟨x5, 2, none⟩ = some (.int .i64 m.chunks) := X5_8.out.cell 2
  have k5_3 : w8.cell? ⟨x5, 3, none⟩ = some (.int .i64 m.ts) := X5_8.out.cell 3
  have k5_4 : w8.cell? ⟨x5, 4, none⟩ = some (.int .i64 m.sector) := X5_8.out.cell 4
  have k5_5 : w8.cell? ⟨x5, 5, none⟩ = some (.int .i64 m.offset) := X5_8.out.cell 5
  have k5_6 : w8.cell? ⟨x5, 6, none⟩ = some (.int .i64 m.number) := X5_8.out.cell 6
  have k5_7 : w8.cell? ⟨x5, 7, none⟩ = some (.int .i64 m.run) := X5_8.out.cell 7
  go_wp2
  go_ret
  exact ⟨by simp, H8.out⟩

set_option maxRecDepth 100000 in
set_option maxHeartbeats 2000000 in
theorem lifted_recordReads (os : Os) (started : os.Started) (H : Type) (enc : TypeId × Value → H) :
    ReturnsInHanded {} Try.checked os 5 .any (Rows.recordReadsSpec.pre6 enc Try.prog Try.f5 Rows.recordReadsRow.domain false) (Rows.recordReadsSpec.post enc Try.prog Try.f5 false true false false) := by
  refine returnsInHanded_of_change_sized (C := Try.checked) own started (by kernel_rfl) Try.func5
    (ChangeSpec.witness6 (enc := enc) (C := Try.checked) false ⟨#[], #[.slice none 0 0], []⟩ 8 (by kernel_rfl) (by kernel_rfl) (by kernel_rfl) (by kernel_rfl)) ?_
  intro W base args ds gs before hval0 hW _ hsz0 _
  have hsz : (DataW.weightsEach Try.prog (Try.f5.params.toList ++ Rows.recordReadsSpec.plain.varTypes Try.prog) (ds ++ gs)).all (· ≤ reachBytes) = true := hsz0
  clear hsz0
  have hval : ∀ (j : Nat) t v, Try.f5.params[j]? = some t → args[j]? = some v → Value.okWide Try.prog W .any base t v := hval0
  have hW' := hW
  obtain ⟨p, q, hA0, hV, rfl, hfz, hnd⟩ := hW
  have hA : DataW.TrodAll enc Try.prog W 0 (fun _ => true) true Try.f5.params.toList args.toList ds p := hA0
  rw [Try.params5] at hA hval hsz
  obtain ⟨v0, vs0, d0, ds0, p0, q0, hargs, rfl, rfl, h0, r0⟩ := trodAll_cons hA
  obtain ⟨rfl, rfl, rfl⟩ := trodAll_nil r0
  obtain rfl : args = #[v0] := by cases args; simp_all
  obtain ⟨rfl, rfl⟩ := trodVars_none hV
  obtain ⟨a0, len0, cap0, rfl⟩ := okWide_slice Try.underlying42 (hval 0 42 v0 rfl rfl)
  have k0 := h0
  have lt0 : ∀ x ∈ p0, x.block < W.heap.size := by obtain ⟨m, hm⟩ := k0; exact DataW.trod_lt m _ _ _ hm
  obtain ⟨z0, w0⟩ : ∃ zs, InB 140737488351232 W a0 len0 cap0 zs := by
    refine in_bytes h0 ?_
    intro elems spare hd
    have := sized_slice hsz (j := 0) (t := 42) (e := 5) rfl (by rw [hd]; rfl) Try.underlying42
    rw [bytes_u8] at this
    simp only [reachBytes] at this
    omega
  clear hA0 hval0
  refine (walk_recordReads a0 len0 cap0 z0 W w0).mono fun e W' ⟨he, bel⟩ => ?_
  subst he
  exact ⟨_, rfl, _, _, _, [], _, [], hW', trodAll_mk1 (shut_bool Try.underlying4 _), (trodAll_cons_mk (Below.trod laidOut (by kernel_rfl) (of_decide_eq_true (by kernel_rfl)) k0 bel lt0) trodAll_mk0), rfl, bel.frame _, fun h => by cases h⟩

/-- The statement. -/
theorem recordReads_holds : Rows.RecordReadsSaid :=
  OpenClaim.holds_of_wide 5 Try.f5 rfl rfl rfl rfl rfl rfl rfl ⟨rfl, rfl, rfl, rfl, rfl⟩ rfl rfl rfl rfl rfl (by kernel_rfl) Try.func5 (by kernel_rfl)
    (of_decide_eq_true (by kernel_rfl)) (by unfold Func.isWrapper; first | (rw [if_pos (by decide +kernel)]; kernel_rfl) | (rw [if_neg (by decide +kernel)]; exact ⟨rfl, rfl⟩))
    (fun os started H enc _ => lifted_recordReads os started H enc)
#print axioms recordReads_holds
end Go.Proofs.Ytlfgclmgpbaenaa
