/- Arenas of links: Set and Free of a good handle. -/
import Derived.Test.YtbdcdiihaecheaaAgA3L
import Derived.Test.YtbdcdiihaecheaaAgChg
import Derived.Deep.RegionHeld3
namespace Go.Proofs.Ytbdcdiihaecheaa
open Go.RowKit
set_option linter.unusedVariables false
set_option maxRecDepth 100000
set_option linter.unusedSectionVars false
variable [Inhabited Cl] [Inhabited Ln]

set_option maxHeartbeats 1000000 in
theorem setGoodL {w : World} {B : Nat} {bs : List Nat} {a : Ar Ln} (h : Arn Ln.cells 5 tAL tSL w B bs a) (s g : Int) (x : Ln) (hg : a.Good s g) :
    Calls Try.prog 73 #[.pointer (some ⟨B, 0, none⟩), .agg #[.int .i64 s, .int .i64 g], x.v] w fun e w' => e = .returned (.int .i64 0) ∧ ArT Ln.cells 5 tAL tSL w w' B bs (a.set s.toNat x) := by
  obtain ⟨uv, fv, fr, rfl, h⟩ := h
  have HG : Hid (a.Good s g) := hg
  obtain ⟨h0, h1, hgv, -⟩ := hg
  obtain ⟨i, rfl⟩ : ∃ i : Nat, s = (i : Int) := ⟨s.toNat, by omega⟩
  have hi : i < a.us.length := by omega
  rw [Int.toNat_natCast]
  obtain ⟨gb, c, rfl⟩ := row_some h.row (by omega)
  obtain ⟨w1, hw1, hz1, hb1, h', hk, -, -⟩ := h.boxed (i : Int) g
  obtain ⟨w1b, hw1b, hz1b, hb1b, hkx⟩ : ∃ w2, w1.alloc (.cells #[.int .i64 x.ts, .string x.val, .bool x.del, .int .i64 x.s, .int .i64 x.g] 97) = w2 ∧ w2.heap.size = w.heap.size + 2 ∧ Below w1.heap.size w1 w2 ∧ Bk w2 (w.heap.size + 1) 97 #[.int .i64 x.ts, .string x.val, .bool x.del, .int .i64 x.s, .int .i64 x.g] := ⟨_, rfl, by simp [hz1], (Below.refl _ w1).alloc (Nat.le_refl _) _, by rw [← hz1]; exact Bk.new _ _ _⟩
  have ht12 : Tn [] w1 w1b := Tn.of_below hb1b []
  have HI : Hid (IsAr Ln.cells 5 tAL tSL w1b B (.slice (some ⟨gb, 0, none⟩) a.us.length c) fv fr a) := h'.tn ht12 (by simp)
  have HK : Hid (Bk w1b w.heap.size 36 #[.int .i64 (i : Int), .int .i64 g]) := hk.tn ht12 (by simp)
  have HX : Hid (Bk w1b (w.heap.size + 1) 97 #[.int .i64 x.ts, .string x.val, .bool x.del, .int .i64 x.s, .int .i64 x.g]) := hkx
  have HB : Hid (Below w.heap.size w w1b) := hb1.trans (hb1b.mono hb1.size)
  have k0 := HK.out.cell 0
  have k1 := HK.out.cell 1
  simp only [List.getElem?_toArray, List.getElem?_cons_zero, List.getElem?_cons_succ] at k0 k1
  have hlen : a.us.length ≤ 65536 := Nat.le_trans h.le h.s2
  clear h h' hk hb1 hgv hkx hb1b ht12
  go_enter Try.func73, Try.ntmps73
  go_wp2_with fail
  refine (checkGoodL ⟨_, _, _, rfl, HI.out⟩ (i : Int) g HG.out).mono ?_
  rintro e w2 ⟨rfl, hb2⟩
  have ht2 : Tn [] w1b w2 := Tn.of_below hb2 []
  have HI2 : Hid _ := HI.out.tn ht2 (by simp)
  obtain ⟨r0, r1, r2, r3, r4, r5, r6⟩ := sl7 rfl HI2.out.row i hi
  have f2 := row_frozen rfl HI2.out.row (i * 7 + 2)
  have f3 := row_frozen rfl HI2.out.row (i * 7 + 3)
  have f4 := row_frozen rfl HI2.out.row (i * 7 + 4)
  have f5 := row_frozen rfl HI2.out.row (i * 7 + 5)
  have f6 := row_frozen rfl HI2.out.row (i * 7 + 6)
  obtain ⟨c0, c1, c2, c3⟩ := HI2.out.four
  have HK2 := HK.out.tn ht2 (by simp)
  have k2 : w2.cell? ⟨w.heap.size, 0, none⟩ = some (.int .i64 (i : Int)) := HK2.cell 0
  have HX2 := HX.out.tn ht2 (by simp)
  have x0 : w2.cell? ⟨w.heap.size + 1, 0, none⟩ = some (.int .i64 x.ts) := HX2.cell 0
  have x1 : w2.cell? ⟨w.heap.size + 1, 1, none⟩ = some (.string x.val) := HX2.cell 1
  have x2 : w2.cell? ⟨w.heap.size + 1, 2, none⟩ = some (.bool x.del) := HX2.cell 2
  have x3 : w2.cell? ⟨w.heap.size + 1, 3, none⟩ = some (.int .i64 x.s) := HX2.cell 3
  have x4 : w2.cell? ⟨w.heap.size + 1, 4, none⟩ = some (.int .i64 x.g) := HX2.cell 4
  have HT : Hid (ArT Ln.cells 5 tAL tSL w (setCells w2 gb (i * 7 + 2) (Ln.cells x)).drew B (bsOf B (.slice (some ⟨gb, 0, none⟩) a.us.length c) fv) (a.set i x)) :=
    ArT.pre ((Tn.of_below HB.out []).trans ht2 (by simp)) (HI2.out.setv lnK rfl i hi x).drew
  clear ht2 HI2 HK2 hb2 HI HK HB HG HX2 HX
  generalize (slAt a.us i).val = vv at *
  generalize a.us.length = n at *
  go_wp2_with fail
  go_region
  go_wp2
  go_ret
  exact ⟨rfl, HT.out⟩

theorem free_chainL (w2 : World) (gb i : Nat) (g : Int) : (((((((w2.setCell ⟨gb, i * 7, none⟩ (.int .i64 g)).setCell ⟨gb, i * 7 + 1, none⟩ (.bool false)).setCell ⟨gb, i * 7 + 2, none⟩ (.int .i64 0)).setCell ⟨gb, i * 7 + 3, none⟩ (.string ⟨#[]⟩)).setCell ⟨gb, i * 7 + 4, none⟩ (.bool false)).setCell ⟨gb, i * 7 + 5, none⟩ (.int .i64 0)).setCell ⟨gb, i * 7 + 6, none⟩ (.int .i64 0)) = setCells w2 gb (i * (5 + 2)) (slc Ln.cells ⟨g, false, Ln.zero⟩) := rfl

set_option maxHeartbeats 2000000 in
theorem freeGoodL {w : World} {B : Nat} {bs : List Nat} {a : Ar Ln} (h : Arn Ln.cells 5 tAL tSL w B bs a) (s g : Int) (hg : a.Good s g) :
    Calls Try.prog 58 #[.pointer (some ⟨B, 0, none⟩), .agg #[.int .i64 s, .int .i64 g]] w fun e w' => e = .returned (.int .i64 0) ∧ ArT Ln.cells 5 tAL tSL w w' B bs (a.free s.toNat Ln.zero) := by
  obtain ⟨uv, fv, fr, rfl, h⟩ := h
  have HG : Hid (a.Good s g) := hg
  obtain ⟨h0, h1, hgv, hge⟩ := hg
  obtain ⟨i, rfl⟩ : ∃ i : Nat, s = (i : Int) := ⟨s.toNat, by omega⟩
  have hi : i < a.us.length := by omega
  rw [Int.toNat_natCast] at hgv hge ⊢
  obtain ⟨gb, c, rfl⟩ := row_some h.row (by omega)
  obtain ⟨w1, hw1, hz1, hb1, h', hk, -, -⟩ := h.boxed (i : Int) g
  have HI : Hid (IsAr Ln.cells 5 tAL tSL w1 B (.slice (some ⟨gb, 0, none⟩) a.us.length c) fv fr a) := h'
  have HK : Hid (Bk w1 w.heap.size 36 #[.int .i64 (i : Int), .int .i64 g]) := hk
  have HB : Hid (Below w.heap.size w w1) := hb1
  have k0 := hk.cell 0
  have k1 := hk.cell 1
  simp only [List.getElem?_toArray, List.getElem?_cons_zero, List.getElem?_cons_succ] at k0 k1
  have hlen : a.us.length ≤ 65536 := Nat.le_trans h.le h.s2
  have HGB : Hid (gb < w.heap.size) := row_block h.row gb rfl
  have HLT : Hid (w.heap.size ≠ B ∧ fv.ownBlock ≠ some w.heap.size) := ⟨fun e => by have := h.wt.blk.lt; omega, fun e => by have := row_block h.wt.row _ e; omega⟩
  have HFL : Hid (fr.length < 65536) := by
    have h1 := h.frlen
    have h2 : 0 < live a.us := by
      unfold live
      rw [List.countP_pos_iff]
      refine ⟨slAt a.us i, ?_, hgv⟩
      simp [slAt, List.getD, hi]
    unfold Hid
    omega
  clear h h' hk hb1
  have HGV : Hid ((slAt a.us i).given = true) := hgv
  have HGE : Hid ((slAt a.us i).gen = g) := hge
  clear hgv hge
  go_enter Try.func58, Try.ntmps58
  go_wp2_with fail
  refine (checkGoodL ⟨_, _, _, rfl, HI.out⟩ (i : Int) g HG.out).mono ?_
  rintro e w2 ⟨rfl, hb2⟩
  have ht2 : Tn [] w1 w2 := Tn.of_below hb2 []
  have HI2 : Hid (IsAr Ln.cells 5 tAL tSL w2 B (.slice (some ⟨gb, 0, none⟩) a.us.length c) fv fr a) := HI.out.tn ht2 (by simp)
  have HT2 : Hid (Tn [] w w2) := (Tn.of_below HB.out []).trans ht2 (by simp)
  obtain ⟨r0, r1, r2, r3, r4, r5, r6⟩ := sl7 rfl HI2.out.row i hi
  have f0 := row_frozen rfl HI2.out.row (i * 7)
  have f1 := row_frozen rfl HI2.out.row (i * 7 + 1)
  have f2 := row_frozen rfl HI2.out.row (i * 7 + 2)
  have f3 := row_frozen rfl HI2.out.row (i * 7 + 3)
  have f4 := row_frozen rfl HI2.out.row (i * 7 + 4)
  have f5 := row_frozen rfl HI2.out.row (i * 7 + 5)
  have f6 := row_frozen rfl HI2.out.row (i * 7 + 6)
  obtain ⟨c0, c1, c2, c3⟩ := HI2.out.four
  have HK2 : Hid (Bk w2 w.heap.size 36 #[.int .i64 (i : Int), .int .i64 g]) := HK.out.tn ht2 (by simp)
  have k2 : w2.cell? ⟨w.heap.size, 0, none⟩ = some (.int .i64 (i : Int)) := HK2.out.cell 0
  have k3 : w2.cell? ⟨w.heap.size, 1, none⟩ = some (.int .i64 g) := HK2.out.cell 1
  clear ht2 hb2 HI HK HB HG
  generalize (slAt a.us i).val = vv at *
  generalize (slAt a.us i).given = bb at r1
  generalize (slAt a.us i).gen = g0 at r0
  generalize hnn : a.us.length = n at *
  go_wp2_with fail
  go_region
  obtain ⟨wc, hwc⟩ : ∃ wc, wc = (((((((w2.setCell ⟨gb, i * 7, none⟩ (.int .i64 g)).setCell ⟨gb, i * 7 + 1, none⟩ (.bool false)).setCell ⟨gb, i * 7 + 2, none⟩ (.int .i64 0)).setCell ⟨gb, i * 7 + 3, none⟩ (.string ⟨#[]⟩)).setCell ⟨gb, i * 7 + 4, none⟩ (.bool false)).setCell ⟨gb, i * 7 + 5, none⟩ (.int .i64 0)).setCell ⟨gb, i * 7 + 6, none⟩ (.int .i64 0)) := ⟨_, rfl⟩
  rw [← hwc]
  obtain ⟨hr3, hwt3, ht3⟩ := HI2.out.clear lnK hnn i hi g Ln.zero (hwc.trans (free_chainL w2 gb i g))
  obtain ⟨w3, hw3⟩ : ∃ w3, w3 = wc.drew := ⟨_, rfl⟩
  rw [← hw3]
  have HW3 : Hid (Wt w3.drew B tAL (.int .i64 a.size) (.slice (some ⟨gb, 0, none⟩) n c) (.int .i64 a.stale) fv fr) := by rw [hw3]; exact ⟨hwt3.blk, hwt3.row, hwt3.ne, hwt3.len⟩
  have HR3 : Hid (w3.drew.ownsRow 0 tSL 7 (.slice (some ⟨gb, 0, none⟩) n c) (a.us.set i ⟨(slAt a.us i).gen, false, Ln.zero⟩).length (flat (slc Ln.cells) (a.us.set i ⟨(slAt a.us i).gen, false, Ln.zero⟩))) := by rw [hw3, HGE.out]; exact hr3
  have HT3 : Hid (Tn [gb] w2 w3.drew) := by rw [hw3]; exact ht3.drew.drew
  have HK3 : Hid (Bk w3.drew w.heap.size 36 #[.int .i64 (i : Int), .int .i64 g]) := HK2.out.tn HT3.out (by have := HGB.out; simp; omega)
  have k4 : w3.cell? ⟨w.heap.size, 0, none⟩ = some (.int .i64 (i : Int)) := HK3.out.cell 0
  clear hr3 hwt3 ht3 hw3 hwc r0 r1 r2 f2 r3 f3 r4 f4 r5 f5 r6 f6 f0 f1 c0 c1 c2 c3 k0 k1 k2 k3 hw1
  go_wp2_with fail
  go_region_held3 (fun w' => w'.cell? ⟨w.heap.size, 0, none⟩ = some (.int .i64 (i : Int))) (go_keep) (first | (go_at_call 77; refine (add_any HW3.out HI2.out.hp i HFL.out).mono ?_; rintro e w4 ⟨rfl, hw4⟩; have k5 : w4.cell? ⟨w.heap.size, 0, none⟩ = some (.int .i64 (i : Int)) := (wait_box hw4 HK3.out HLT.out.1 HLT.out.2).cell 0))
  have HE : Hid (ArT Ln.cells 5 tAL tSL w w4 B (bsOf B (.slice (some ⟨gb, 0, none⟩) n c) fv) (a.free i Ln.zero)) := free_end hnn HI2.out hi HGV.out HT2.out HR3.out HT3.out hw4
  rw [← hnn] at HE
  clear HI2 HW3 HR3 HT3 HK2 HK3 hw4 k4 k5
  go_wp2
  go_ret
  exact ⟨rfl, HE.out⟩
end Go.Proofs.Ytbdcdiihaecheaa
