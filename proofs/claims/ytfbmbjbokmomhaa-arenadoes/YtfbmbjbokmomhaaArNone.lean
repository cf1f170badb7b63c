/- Arenas that no call made. -/
import Derived.Test.YtfbmbjbokmomhaaArIt0
import Derived.Test.YtfbmbjbokmomhaaArRow
namespace Go.Proofs.Ytfbmbjbokmomhaa
open Go.RowKit
set_option linter.unusedVariables false
set_option maxRecDepth 100000

/-- No call made it. -/
def Nm (w : World) (p : Option Addr) : Prop := p = none ∨ ∃ B, p = some ⟨B, 0, none⟩ ∧ w.cell? ⟨B, 0, none⟩ = some (.int .i64 0)

theorem Nm.below {w w' : World} {p : Option Addr} (h : Nm w p) (hb : Below w.heap.size w w') : Nm w' p := by
  rcases h with h | ⟨B, h, hc⟩
  · exact .inl h
  · exact .inr ⟨B, h, by rw [hb.cell (p := ⟨B, 0, none⟩) (World.block_lt_of_cell? w _ hc)]; exact hc⟩

theorem Nm.tn {w w' : World} {p : Option Addr} (h : Nm w p) (hb : Tn [] w w') : Nm w' p := h.below (hb.below (Nat.le_refl _) (by simp))

theorem madeN {w : World} {p : Option Addr} (h : Nm w p) : Calls Try.prog 33 #[.pointer p] w fun e w' => e = .returned (.bool false) ∧ w' = w := by
  rcases h with rfl | ⟨B, rfl, hc⟩
  · exact madeNilS w
  · exact madeZeroS hc

theorem putN {w : World} {p : Option Addr} (h : Nm w p) (x : ByteArray) : Calls Try.prog 16 #[.pointer p, .string x] w fun e w' => e = .returned (.tuple #[.agg #[.int .i64 0, .int .i64 0], .int .i64 2]) ∧ Below w.heap.size w w' := by
  obtain ⟨w1, hw1, ht1, hk1, hz1⟩ := hbox w 0 0
  have HN : Hid (Nm w1 p) := h.tn ht1
  have HK : Hid (Bk w1 w.heap.size 36 #[.int .i64 0, .int .i64 0]) := hk1
  have HB : Hid (Below w.heap.size w w1) := ht1.below (Nat.le_refl _) (by simp)
  obtain ⟨k0, k1⟩ := hcells hk1
  have f0 := hk1.frozen 0
  have f1 := hk1.frozen 1
  clear h ht1 hk1
  go_enter Try.func16, Try.ntmps16
  go_wp2_with fail
  refine (madeN HN.out).mono ?_
  rintro e w2 ⟨rfl, rfl⟩
  go_wp2
  refine bodyPost_ret (results_hndS rfl rfl ((HK.out.set 0 _).set 1 _)) rfl ?_
  exact ⟨rfl, (HB.out.setCell (Nat.le_refl _) _).setCell (Nat.le_refl _) _⟩

theorem checkN {w : World} {p : Option Addr} (h : Nm w p) (s g : Int) : Calls Try.prog 39 #[.pointer p, .agg #[.int .i64 s, .int .i64 g]] w fun e w' => e = .returned (.int .i64 2) ∧ Below w.heap.size w w' := by
  obtain ⟨w1, hw1, ht1, hk1, hz1⟩ := hbox w s g
  have HN : Hid (Nm w1 p) := h.tn ht1
  have HB : Hid (Below w.heap.size w w1) := ht1.below (Nat.le_refl _) (by simp)
  clear h ht1 hk1
  go_enter Try.func39, Try.ntmps39
  go_wp2_with fail
  refine (madeN HN.out).mono ?_
  rintro e w2 ⟨rfl, rfl⟩
  go_wp2
  go_ret
  exact ⟨rfl, HB.out⟩

theorem getN {w : World} {p : Option Addr} (h : Nm w p) (s g : Int) : Calls Try.prog 19 #[.pointer p, .agg #[.int .i64 s, .int .i64 g]] w fun e w' => e = .returned (.tuple #[.string ⟨#[]⟩, .int .i64 2]) ∧ Below w.heap.size w w' := by
  obtain ⟨w1, hw1, ht1, hk1, hz1⟩ := hbox w s g
  have HN : Hid (Nm w1 p) := h.tn ht1
  have HB : Hid (Below w.heap.size w w1) := ht1.below (Nat.le_refl _) (by simp)
  obtain ⟨k0, k1⟩ := hcells hk1
  clear h ht1 hk1
  go_enter Try.func19, Try.ntmps19
  go_wp2_with fail
  refine (checkN HN.out s g).mono ?_
  rintro e w2 ⟨rfl, hb2⟩
  have HB2 : Hid (Below w.heap.size w w2) := HB.out.trans (hb2.mono HB.out.size)
  clear k0 k1 hb2
  go_wp2
  go_ret2
  exact ⟨rfl, HB2.out⟩

theorem setN {w : World} {p : Option Addr} (h : Nm w p) (s g : Int) (x : ByteArray) : Calls Try.prog 18 #[.pointer p, .agg #[.int .i64 s, .int .i64 g], .string x] w fun e w' => e = .returned (.int .i64 2) ∧ Below w.heap.size w w' := by
  obtain ⟨w1, hw1, ht1, hk1, hz1⟩ := hbox w s g
  have HN : Hid (Nm w1 p) := h.tn ht1
  have HB : Hid (Below w.heap.size w w1) := ht1.below (Nat.le_refl _) (by simp)
  obtain ⟨k0, k1⟩ := hcells hk1
  clear h ht1 hk1
  go_enter Try.func18, Try.ntmps18
  go_wp2_with fail
  refine (checkN HN.out s g).mono ?_
  rintro e w2 ⟨rfl, hb2⟩
  have HB2 : Hid (Below w.heap.size w w2) := HB.out.trans (hb2.mono HB.out.size)
  clear k0 k1 hb2
  go_wp2
  go_ret
  exact ⟨rfl, HB2.out⟩

theorem freeN {w : World} {p : Option Addr} (h : Nm w p) (s g : Int) : Calls Try.prog 17 #[.pointer p, .agg #[.int .i64 s, .int .i64 g]] w fun e w' => e = .returned (.int .i64 2) ∧ Below w.heap.size w w' := by
  obtain ⟨w1, hw1, ht1, hk1, hz1⟩ := hbox w s g
  have HN : Hid (Nm w1 p) := h.tn ht1
  have HB : Hid (Below w.heap.size w w1) := ht1.below (Nat.le_refl _) (by simp)
  obtain ⟨k0, k1⟩ := hcells hk1
  clear h ht1 hk1
  go_enter Try.func17, Try.ntmps17
  go_wp2_with fail
  refine (checkN HN.out s g).mono ?_
  rintro e w2 ⟨rfl, hb2⟩
  have HB2 : Hid (Below w.heap.size w w2) := HB.out.trans (hb2.mono HB.out.size)
  clear k0 k1 hb2
  go_wp2
  go_ret
  exact ⟨rfl, HB2.out⟩

theorem slotsN {w : World} {p : Option Addr} (h : Nm w p) : Calls Try.prog 25 #[.pointer p] w fun e w' => e = .returned (.int .i64 0) ∧ w' = w := by
  have HN : Hid (Nm w p) := h
  clear h
  go_enter Try.func25, Try.ntmps25
  go_wp2_with fail
  refine (madeN HN.out).mono ?_
  rintro e w2 ⟨rfl, rfl⟩
  go_wp2
  go_ret
  exact ⟨rfl, rfl⟩

theorem liveN {w : World} {p : Option Addr} (h : Nm w p) : Calls Try.prog 11 #[.pointer p] w fun e w' => e = .returned (.int .i64 0) ∧ w' = w := by
  have HN : Hid (Nm w p) := h
  clear h
  go_enter Try.func11, Try.ntmps11
  go_wp2_with fail
  refine (madeN HN.out).mono ?_
  rintro e w2 ⟨rfl, rfl⟩
  go_wp2
  go_ret
  exact ⟨rfl, rfl⟩

theorem staleN {w : World} {p : Option Addr} (h : Nm w p) : Calls Try.prog 13 #[.pointer p] w fun e w' => e = .returned (.int .i64 0) ∧ w' = w := by
  have HN : Hid (Nm w p) := h
  clear h
  go_enter Try.func13, Try.ntmps13
  go_wp2_with fail
  refine (madeN HN.out).mono ?_
  rintro e w2 ⟨rfl, rfl⟩
  go_wp2
  go_ret
  exact ⟨rfl, rfl⟩

theorem cloneN {w : World} {p : Option Addr} (h : Nm w p) : Calls Try.prog 26 #[.pointer p] w fun e w' => e = .returned (.pointer none) ∧ w' = w := by
  have HN : Hid (Nm w p) := h
  clear h
  go_enter Try.func26, Try.ntmps26
  go_wp2_with fail
  refine (madeN HN.out).mono ?_
  rintro e w2 ⟨rfl, rfl⟩
  go_wp2
  go_ret
  exact ⟨rfl, rfl⟩

/-- good. -/
theorem good_any (w : World) (p : Option Addr) : Calls Try.prog 49 #[.pointer p] w fun e w' => e = .returned (.func (.func 58) #[] #[.pointer (some ⟨w.heap.size, 0, none⟩)]) ∧ w' = w.alloc (.cells #[.pointer p] 23) := by
  go_enter Try.func49, Try.ntmps49
  go_wp2
  go_ret
  exact ⟨rfl, rfl⟩

theorem good1N {W : World} {p : Option Addr} {b l : Nat} (hb : W.cell? ⟨b, 0, none⟩ = some (.pointer p)) (h : Nm W p) : Calls Try.prog 58 #[.func (.yield l) #[] #[], .pointer (some ⟨b, 0, none⟩)] W fun e w' => e = .returned (.tuple #[]) ∧ w' = W := by
  have HN : Hid (Nm W p) := h
  clear h
  go_enter Try.func58, Try.ntmps58
  go_wp2_with fail
  refine (madeN HN.out).mono ?_
  rintro e w2 ⟨rfl, rfl⟩
  go_wp2
  refine bodyPost_ret (results_none rfl _ _ _) rfl ?_
  exact ⟨rfl, rfl⟩

/-- What All hands on, where it gathered nothing. -/
theorem all1N {W : World} {b c l : Nat} {q : Option Addr} {cap : Nat} (hb : W.cell? ⟨b, 0, none⟩ = some (.slice q 0 cap)) : Calls Try.prog 50 #[.func (.yield l) #[] #[], .pointer (some ⟨b, 0, none⟩), .pointer (some ⟨c, 0, none⟩)] W fun e w' => e = .returned (.tuple #[]) ∧ w' = W := by
  go_enter Try.func50, Try.ntmps50
  go_wp2
  go_rounds 1
  go_end0
  exact ⟨rfl, rfl⟩
end Go.Proofs.Ytfbmbjbokmomhaa
