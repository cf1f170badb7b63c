/- Arenas of texts: Get, Set, Stale. -/
import Derived.Test.YtfbmbjbokmomhaaArA2S
namespace Go.Proofs.Ytfbmbjbokmomhaa
open Go.RowKit
set_option linter.unusedVariables false
set_option maxRecDepth 100000

theorem staleS {w : World} {B : Nat} {bs : List Nat} {a : Ar} (h : Arn tAS tSS w B bs a) : Calls Try.prog 13 #[.pointer (some ⟨B, 0, none⟩)] w fun e w' => e = .returned (.int .i64 a.stale) ∧ w' = w := by
  obtain ⟨uv, fv, fr, -, h⟩ := h
  obtain ⟨c0, c1, c2, c3⟩ := h.cells
  have hs1 := h.s1
  clear h
  go_enter Try.func13, Try.ntmps13
  go_wp2_with fail
  refine (madeS c0 hs1).mono ?_
  rintro e w1 ⟨rfl, rfl⟩
  go_wp2_with fail
  refine (load_any c3).mono ?_
  rintro e w2 ⟨rfl, rfl⟩
  go_wp2
  go_ret
  exact ⟨rfl, rfl⟩

set_option maxHeartbeats 1000000 in
theorem getGoodS {w : World} {B : Nat} {bs : List Nat} {a : Ar} (h : Arn tAS tSS w B bs a) (s g : Int) (hg : a.Good s g) :
    Calls Try.prog 19 #[.pointer (some ⟨B, 0, none⟩), .agg #[.int .i64 s, .int .i64 g]] w fun e w' => e = .returned (.tuple #[(slAt a.us s.toNat).val, .int .i64 0]) ∧ Below w.heap.size w w' := by
  obtain ⟨uv, fv, fr, -, h⟩ := h
  have HG : Hid (a.Good s g) := hg
  obtain ⟨h0, h1, hgv, -⟩ := hg
  obtain ⟨i, rfl⟩ : ∃ i : Nat, s = (i : Int) := ⟨s.toNat, by omega⟩
  have hi : i < a.us.length := by omega
  rw [Int.toNat_natCast]
  obtain ⟨gb, c, rfl⟩ := row_some h.row (by omega)
  obtain ⟨w1, hw1, hz1, hb1, h', hk, -, -⟩ := h.boxed (i : Int) g
  have HI : Hid (IsAr tAS tSS w1 B (.slice (some ⟨gb, 0, none⟩) a.us.length c) fv fr a) := h'
  have HK : Hid (Bk w1 w.heap.size 36 #[.int .i64 (i : Int), .int .i64 g]) := hk
  have HB : Hid (Below w.heap.size w w1) := hb1
  have k0 := hk.cell 0
  have k1 := hk.cell 1
  simp only [List.getElem?_toArray, List.getElem?_cons_zero, List.getElem?_cons_succ] at k0 k1
  have hlen : a.us.length ≤ 65536 := Nat.le_trans h.le h.s2
  clear h h' hk hb1 hgv
  go_enter Try.func19, Try.ntmps19
  go_wp2_with fail
  refine (checkGoodS ⟨_, _, _, rfl, HI.out⟩ (i : Int) g HG.out).mono ?_
  rintro e w2 ⟨rfl, hb2⟩
  have ht2 : Tn [] w1 w2 := Tn.of_below hb2 []
  have HI2 : Hid _ := HI.out.tn ht2 (by simp)
  obtain ⟨r0, r1, r2⟩ := row_cells rfl HI2.out.row i hi
  obtain ⟨c0, c1, c2, c3⟩ := HI2.out.cells
  have HK2 := HK.out.tn ht2 (by simp)
  have k2 : w2.cell? ⟨w.heap.size, 0, none⟩ = some (.int .i64 (i : Int)) := HK2.cell 0
  have HB2 : Hid (Below w.heap.size w w2) := HB.out.trans (hb2.mono HB.out.size)
  clear ht2 HI2 HK2 hb2 HI HK HB HG
  generalize hvv : (slAt a.us i).val = vv at *
  generalize a.us.length = n at *
  go_wp2_with fail
  go_quiet (fail)
  go_wp2
  go_ret2
  exact ⟨by rw [hvv]; rfl, below_drewN HB2.out _⟩

set_option maxHeartbeats 1000000 in
theorem getBadS {w : World} {B : Nat} {bs : List Nat} {a : Ar} (h : Arn tAS tSS w B bs a) (s g : Int) (hg : ¬ a.Good s g) (hs0 : 0 ≤ a.stale) (hs9 : a.stale < 9223372036854775807) :
    Calls Try.prog 19 #[.pointer (some ⟨B, 0, none⟩), .agg #[.int .i64 s, .int .i64 g]] w fun e w' => e = .returned (.tuple #[(.string ⟨#[]⟩), .int .i64 7]) ∧ ArT tAS tSS w w' B bs a.bad := by
  have HG : Hid (¬ a.Good s g) := hg
  obtain ⟨uv, fv, fr, rfl, h⟩ := h
  obtain ⟨w1, hw1, hz1, hb1, h', hk, -, -⟩ := h.boxed s g
  have HI : Hid (Arn tAS tSS w1 B (bsOf B uv fv) a) := ⟨_, _, _, rfl, h'⟩
  have HB : Hid (Tn [] w w1) := Tn.of_below hb1 []
  have k0 := hk.cell 0
  have k1 := hk.cell 1
  simp only [List.getElem?_toArray, List.getElem?_cons_zero, List.getElem?_cons_succ] at k0 k1
  clear h h' hk hb1 hg
  go_enter Try.func19, Try.ntmps19
  go_wp2_with fail
  refine (checkBadS HI.out s g HG.out hs0 hs9).mono ?_
  rintro e w2 ⟨rfl, ht2⟩
  have HE : Hid (ArT tAS tSS w w2 B (bsOf B uv fv) a.bad) := ArT.pre HB.out ht2
  clear ht2 HI HB HG k0 k1
  go_wp2
  go_ret2
  exact ⟨rfl, HE.out⟩

set_option maxHeartbeats 1000000 in
theorem setBadS {w : World} {B : Nat} {bs : List Nat} {a : Ar} (h : Arn tAS tSS w B bs a) (s g : Int) (x : ByteArray) (hg : ¬ a.Good s g) (hs0 : 0 ≤ a.stale) (hs9 : a.stale < 9223372036854775807) :
    Calls Try.prog 18 #[.pointer (some ⟨B, 0, none⟩), .agg #[.int .i64 s, .int .i64 g], (.string x)] w fun e w' => e = .returned (.int .i64 7) ∧ ArT tAS tSS w w' B bs a.bad := by
  have HG : Hid (¬ a.Good s g) := hg
  obtain ⟨uv, fv, fr, rfl, h⟩ := h
  obtain ⟨w1, hw1, hz1, hb1, h', hk, -, -⟩ := h.boxed s g
  have HI : Hid (Arn tAS tSS w1 B (bsOf B uv fv) a) := ⟨_, _, _, rfl, h'⟩
  have HB : Hid (Tn [] w w1) := Tn.of_below hb1 []
  have k0 := hk.cell 0
  have k1 := hk.cell 1
  simp only [List.getElem?_toArray, List.getElem?_cons_zero, List.getElem?_cons_succ] at k0 k1
  clear h h' hk hb1 hg
  go_enter Try.func18, Try.ntmps18
  go_wp2_with fail
  refine (checkBadS HI.out s g HG.out hs0 hs9).mono ?_
  rintro e w2 ⟨rfl, ht2⟩
  have HE : Hid (ArT tAS tSS w w2 B (bsOf B uv fv) a.bad) := ArT.pre HB.out ht2
  clear ht2 HI HB HG k0 k1
  go_wp2
  go_ret
  exact ⟨rfl, HE.out⟩

set_option maxHeartbeats 1000000 in
theorem freeBadS {w : World} {B : Nat} {bs : List Nat} {a : Ar} (h : Arn tAS tSS w B bs a) (s g : Int) (hg : ¬ a.Good s g) (hs0 : 0 ≤ a.stale) (hs9 : a.stale < 9223372036854775807) :
    Calls Try.prog 17 #[.pointer (some ⟨B, 0, none⟩), .agg #[.int .i64 s, .int .i64 g]] w fun e w' => e = .returned (.int .i64 7) ∧ ArT tAS tSS w w' B bs a.bad := by
  have HG : Hid (¬ a.Good s g) := hg
  obtain ⟨uv, fv, fr, rfl, h⟩ := h
  obtain ⟨w1, hw1, hz1, hb1, h', hk, -, -⟩ := h.boxed s g
  have HI : Hid (Arn tAS tSS w1 B (bsOf B uv fv) a) := ⟨_, _, _, rfl, h'⟩
  have HB : Hid (Tn [] w w1) := Tn.of_below hb1 []
  have k0 := hk.cell 0
  have k1 := hk.cell 1
  simp only [List.getElem?_toArray, List.getElem?_cons_zero, List.getElem?_cons_succ] at k0 k1
  clear h h' hk hb1 hg
  go_enter Try.func17, Try.ntmps17
  go_wp2_with fail
  refine (checkBadS HI.out s g HG.out hs0 hs9).mono ?_
  rintro e w2 ⟨rfl, ht2⟩
  have HE : Hid (ArT tAS tSS w w2 B (bsOf B uv fv) a.bad) := ArT.pre HB.out ht2
  clear ht2 HI HB HG k0 k1
  go_wp2
  go_ret
  exact ⟨rfl, HE.out⟩
end Go.Proofs.Ytfbmbjbokmomhaa
