/- A disk that no call made: the walk. -/
import Derived.Test.YtahcfpfjijkchabDkNoneS
import Derived.Test.YtahcfpfjijkchabDkTold
import Derived.Test.YtahcfpfjijkchabDkArg1
import Derived.Deep.RegionHeld3
namespace Go.Proofs.Ytahcfpfjijkchab
open Go.RowKit Go.Shelf Go.Maps
set_option linter.unusedVariables false

theorem told_none {w : World} {Bs : Nat} (hbx : Bk w Bs 64 #[.slice none 0 0]) : Calls Try.prog 17 #[.func (.func 42) #[] #[.pointer (some ⟨Bs, 0, none⟩)], .slice none 0 0] w fun e w' => e = .returned (.bool true) ∧ Below w.heap.size w w' :=
  told_any (m0 := Bs) (L := []) ⟨⟨none, 0, hbx, fun h => absurd h (Nat.lt_irrefl 0)⟩, Nat.le_refl _, Nat.zero_le _⟩ none 0 0 [] rfl (Its.nil _ _) (Nat.zero_le _)

/-- The operation's cells. -/
def OpC (b : Nat) (g : GOp) (w : World) : Prop := w.cell? ⟨b, 1, none⟩ = some (.int .i64 g.pl) ∧ w.cell? ⟨b, 2, none⟩ = some (.int .u8 g.a) ∧ w.cell? ⟨b, 3, none⟩ = some (.int .u8 g.b) ∧ w.cell? ⟨b, 4, none⟩ = some (.int .i64 g.n) ∧ w.cell? ⟨b, 5, none⟩ = some (.slice g.kp g.ks.length g.kc)

theorem OpC.of {b : Nat} {g : GOp} {w : World} (h : Bk w b 25 g.cells.toArray) : OpC b g w := by
  refine ⟨?_, ?_, ?_, ?_, ?_⟩ <;> (rw [h.cell]; rfl)

theorem dirty_not7 {w : World} {v : Value} (h : NM w v) : Calls Try.prog 18 #[v] w fun e w' => e = .returned (.func (.func 42) #[] #[.pointer (some ⟨w.heap.size, 0, none⟩)]) ∧ Bk w' w.heap.size 64 #[.slice none 0 0] ∧ Below w.heap.size w w' :=
  (dirty_not h).mono fun e w' ⟨he, hw⟩ => ⟨he, by subst hw; exact Bk.new _ _ _, by subst hw; exact (Below.refl _ _).alloc (Nat.le_refl _) _⟩

theorem none_start (w : World) : ∃ W, W = (w.alloc (Obj.cells #[Value.slice none 0 0, Value.map none, Value.int IntKind.i64 0, Value.bool false, Value.int IntKind.i64 0, Value.slice none 0 0] 33)).alloc (Obj.cells #[Value.pointer none, Value.pointer (some ⟨w.heap.size, 0, none⟩)] 27) ∧
    Below w.heap.size w W ∧ Bk W (w.heap.size + 1) 27 #[Value.pointer none, Value.pointer (some ⟨w.heap.size, 0, none⟩)] ∧ W.cell? ⟨w.heap.size, 0, none⟩ = some (.slice none 0 0) := by
  refine ⟨_, rfl, (((Below.refl _ w).alloc (Nat.le_refl _) _).alloc (by simp) _), ?_, ?_⟩
  · have c1 := Bk.new (w.alloc (Obj.cells #[Value.slice none 0 0, Value.map none, Value.int IntKind.i64 0, Value.bool false, Value.int IntKind.i64 0, Value.slice none 0 0] 33)) 27 #[Value.pointer none, Value.pointer (some ⟨w.heap.size, 0, none⟩)]
    simp only [World.size_alloc] at c1
    exact c1
  · have c0 := (Bk.new w 33 #[Value.slice none 0 0, Value.map none, Value.int IntKind.i64 0, Value.bool false, Value.int IntKind.i64 0, Value.slice none 0 0]).alloc (Obj.cells #[Value.pointer none, Value.pointer (some ⟨w.heap.size, 0, none⟩)] 27)
    rw [c0.cell]
    rfl

/-- What a round takes. -/
theorem none_at {W wr : World} {S Z : Nat} (hS : Bk W S 27 #[Value.pointer none, Value.pointer (some ⟨Z, 0, none⟩)]) (hZ : W.cell? ⟨Z, 0, none⟩ = some (.slice none 0 0)) (k : Below W.heap.size W wr) {j : Nat} (hj : j < 2) : ∃ v, wr.cell? ⟨S, j, none⟩ = some v ∧ NM wr v := by
  have hS' := hS.below k hS.lt
  by_cases h0 : j = 0
  · subst h0
    exact ⟨_, by rw [hS'.cell]; rfl, .inl rfl⟩
  · obtain rfl : j = 1 := by omega
    exact ⟨_, by rw [hS'.cell]; rfl, .inr ⟨Z, rfl, by rw [k.cell (p := ⟨Z, 0, none⟩) (World.block_lt_of_cell? W _ hZ)]; exact hZ⟩⟩

set_option maxRecDepth 100000 in
set_option maxHeartbeats 8000000 in
theorem walk_diskNone (g : GOp) (w : World) (hin : OpIn w g) :
    Calls Try.prog 3 #[.agg #[.int .i64 g.dd, .int .i64 g.pl, .int .u8 g.a, .int .u8 g.b, .int .i64 g.n, .slice g.kp g.ks.length g.kc, .slice g.op g.os.length g.oc]] w fun e w' => e = .returned (.bool true) ∧ Below w.heap.size w w' := by
  clear hin
  go_enter Try.func3, Try.ntmps3
  go_wp2_with fail
  have HK1 : Hid (Bk (w.alloc (.cells g.cells.toArray 25)) w.heap.size 25 g.cells.toArray) := Bk.new _ _ _
  have HB1 : Hid (Below w.heap.size w (w.alloc (.cells g.cells.toArray 25))) := (Below.refl _ _).alloc (Nat.le_refl _) _
  refine (begun_any _).mono ?_
  rintro e w2 ⟨rfl, hb2⟩
  have HB2 : Hid (Below w.heap.size w w2) := HB1.out.trans (hb2.mono HB1.out.size)
  have HK2 : Hid (Bk w2 w.heap.size 25 g.cells.toArray) := HK1.out.below hb2 HK1.out.lt
  clear hb2 HB1 HK1
  go_wp2_with fail
  obtain ⟨W3, hW3, hb3, hS3, hZ3⟩ := none_start w2
  rw [← hW3]
  clear hW3
  have HB3 : Hid (Below w.heap.size w W3) := HB2.out.trans (hb3.mono HB2.out.size)
  have HK3 : Hid (Bk W3 w.heap.size 25 g.cells.toArray) := HK2.out.below hb3 HK2.out.lt
  have HS3 : Hid (Bk W3 (w2.heap.size + 1) 27 #[Value.pointer none, Value.pointer (some ⟨w2.heap.size, 0, none⟩)]) := hS3
  have HZ3 : Hid (W3.cell? ⟨w2.heap.size, 0, none⟩ = some (.slice none 0 0)) := hZ3
  clear hb3 hS3 hZ3 HB2 HK2
  generalize w2.heap.size = Z at *
  generalize Z + 1 = S at *
  go_loopw [13] (fun iv wr => ∃ j : Nat, j ≤ 2 ∧ iv = .int .i64 j ∧ Hid (Below W3.heap.size W3 wr)) (fun iv _ => 2 - (intOf iv).toNat)
  case atStart => exact ⟨0, by omega, rfl, Below.refl _ _⟩
  case round =>
    obtain ⟨j, hj, rfl, HB⟩ := hrel
    by_cases hq : j < 2
    · have hqi : (j : Int) < 2 := by omega
      obtain ⟨v, cv, hnm⟩ := none_at HS3.out HZ3.out HB.out hq
      have HN : Hid (NM wr v) := hnm
      have HNd : Hid (NM wr.drew v) := hnm.drew
      have HKr : Hid (Bk wr w.heap.size 25 g.cells.toArray) := HK3.out.below HB.out HK3.out.lt
      have HC : Hid (∀ w', Below wr.heap.size wr w' → w'.cell? ⟨w.heap.size, 1, none⟩ = some (.int .i64 g.pl) ∧ w'.cell? ⟨w.heap.size, 2, none⟩ = some (.int .u8 g.a) ∧ w'.cell? ⟨w.heap.size, 3, none⟩ = some (.int .u8 g.b) ∧ w'.cell? ⟨w.heap.size, 4, none⟩ = some (.int .i64 g.n) ∧ w'.cell? ⟨w.heap.size, 5, none⟩ = some (.slice g.kp g.ks.length g.kc)) := fun w' hb' => OpC.of (HKr.out.below hb' HKr.out.lt)
      have hbd : Below wr.heap.size wr wr.drew := (Below.refl _ _).drew
      obtain ⟨cc1, cc2, cc3, cc4, cc5⟩ := OpC.of HKr.out
      clear hnm
      go_wp2_with fail
      refine (read_not HN.out _).mono ?_
      rintro e w1 ⟨rfl, rfl⟩
      go_wp2_with fail
      simp only [List.append_eq, List.cons_append, List.nil_append]
      go_region_held3 (fun w' => w'.cell? ⟨w.heap.size, 1, none⟩ = some (.int .i64 g.pl) ∧ w'.cell? ⟨w.heap.size, 2, none⟩ = some (.int .u8 g.a) ∧ w'.cell? ⟨w.heap.size, 3, none⟩ = some (.int .u8 g.b) ∧ w'.cell? ⟨w.heap.size, 4, none⟩ = some (.int .i64 g.n) ∧ w'.cell? ⟨w.heap.size, 5, none⟩ = some (.slice g.kp g.ks.length g.kc)) (go_keep) (first
      | (go_at_call 7; refine (sector_any g.a g.b _).mono ?_; rintro e w6 ⟨g6, rfl, hg6, hr6, hb6⟩; have hn6 := HNd.out.below hb6; have hq6 := hbd.trans (hb6.mono hbd.size); have hk6 := HC.out w6 hq6)
      | (go_at_call 6; refine (write_not hn6 _ _).mono ?_; rintro e w1 ⟨rfl, rfl⟩)
      | (go_at_call 8; refine (barrier_not hn6).mono ?_; rintro e w1 ⟨rfl, rfl⟩)
      | (go_at_call 9; refine (crash_not hn6 _).mono ?_; rintro e w1 ⟨rfl, rfl⟩)
      | (go_at_call 10; refine (setFuse_not hn6 _ _).mono ?_; rintro e w1 ⟨rfl, rfl⟩)
      | (go_at_call 11; refine (restart_not hn6).mono ?_; rintro e w1 ⟨rfl, rfl⟩)
      | (go_at_call 12; refine (sectors_not hn6).mono ?_; rintro e w1 ⟨rfl, rfl⟩)
      | (go_at_call 13; refine (down_not hn6).mono ?_; rintro e w1 ⟨rfl, rfl⟩)
      | (go_at_call 14; refine (calls_not hn6).mono ?_; rintro e w1 ⟨rfl, rfl⟩)
      | (go_at_call 15; refine (clone_not hn6).mono ?_; rintro e w1 ⟨rfl, rfl⟩)
      | (go_at_call 16; refine (same_not hn6 _).mono ?_; rintro e w7 ⟨rfl, hb7⟩; have hn7 := hn6.below hb7; have hq7 := hq6.trans (hb7.mono hq6.size); have hk7 := HC.out w7 hq7)
      | (go_at_call 18; refine (dirty_not7 hn7).mono ?_; rintro e w8 ⟨rfl, hx8, hb8⟩; have hq8 := hq7.trans (hb8.mono hq7.size); have hk8 := HC.out w8 hq8)
      | (go_at_call 17; refine (told_none hx8).mono ?_; rintro e w9 ⟨rfl, hb9⟩; have hq9 := hq8.trans (hb9.mono hq8.size); have hk9 := HC.out w9 hq9))
      have HB9 : Hid (Below W3.heap.size W3 w9) := HB.out.trans (hq9.mono HB.out.size)
      clear hg6 hr6 hb6 hn6 hq6 hk6 hb7 hn7 hq7 hk7 hx8 hb8 hq8 hk8 hb9 hq9 hk9 HN HNd HKr HC hbd cc1 cc2 cc3 cc4 cc5 cv
      go_wp2
      go_roundw
      case rel => exact ⟨j + 1, by omega, by go_num, HB9⟩
      case measure => simp [intOf]; omega
    · have HB9 : Hid (Below w.heap.size w wr) := HB3.out.trans (HB.out.mono HB3.out.size)
      go_wp2
      go_ret
      exact ⟨rfl, HB9.out⟩

end Go.Proofs.Ytahcfpfjijkchab
