/- An epoch that no call made tells nothing. -/
import Derived.Test.YtndmcjkbbedoeaaEpIt0
import Derived.Laws.MakeOwn
import Derived.OwnWalkIn
import Derived.TacticsInMore
import Derived.Shelf.RegionOpen
namespace Go.Proofs.Ytndmcjkbbedoeaa
open Go.RowKit Go.Shelf
attribute [local go_sem] Oper.semAt_some
set_option linter.unusedVariables false
set_option maxRecDepth 100000

theorem waits_any (w : World) (p : Option Addr) : Calls Try.prog 37 #[.pointer p] w fun e w' => e = .returned (.func (.func 45) #[] #[.pointer (some ⟨w.heap.size, 0, none⟩)]) ∧ w' = w.alloc (.cells #[.pointer p] 23) := by
  go_enter Try.func37, Try.ntmps37
  go_wp2
  go_ret
  exact ⟨rfl, rfl⟩

theorem waits1_no {W : World} {p : Option Addr} {b l : Nat} (hb : W.cell? ⟨b, 0, none⟩ = some (.pointer p)) (h : Nm W p) : Calls Try.prog 45 #[.func (.yield l) #[] #[], .pointer (some ⟨b, 0, none⟩)] W fun e w' => e = .returned (.tuple #[]) ∧ w' = W := by
  have HN : Hid (Nm W p) := h
  clear h
  go_enter Try.func45, Try.ntmps45
  go_wp2_with fail
  refine (made_no HN.out).mono ?_
  rintro e w2 ⟨rfl, rfl⟩
  go_wp2
  refine bodyPost_ret (results_none rfl _ _ _) rfl ?_
  exact ⟨rfl, rfl⟩

theorem limbo1_nil {W : World} {p : Option Addr} {c b b2 l : Nat} (hb : W.cell? ⟨b, 0, none⟩ = some (.slice p 0 c)) : Calls Try.prog 38 #[.func (.yield l) #[] #[], .pointer (some ⟨b, 0, none⟩), .pointer (some ⟨b2, 0, none⟩)] W fun e w' => e = .returned (.tuple #[]) ∧ w' = W := by
  go_enter Try.func38, Try.ntmps38
  go_wp2_with fail
  go_loopw [8] (fun iv wr => iv = .int .i64 0 ∧ wr = W) (fun _ _ => 0)
  case atStart => exact ⟨rfl, rfl⟩
  case round =>
    obtain ⟨rfl, rfl⟩ := hrel
    go_wp2
    go_end0
    exact ⟨rfl, rfl⟩

theorem i64info : (Try.prog.info? 2).map (fun i => (i.zero, i.size, i.bytes)) = some (some (.int .i64 0), 1, 8) := by kernel_rfl

theorem made0 (c : Array Value) : madeCells c 0 = #[] := by simp [madeCells, Array.range_zero']

/-- make([]int64, 0, n), make([]api.Retired, 0, n). -/
theorem run_mk1 (n : Nat) (hn : n ≤ 5000000000000) (w : World) : (Instr.makeSlice 79 (.int .i64 0) (.int .i64 (n : Int))).run Try.prog w = .ok (.slice (some ⟨w.heap.size, 0, none⟩) 0 n) (w.alloc (.cells (madeCells #[.int .i64 0] n) 2)) := by
  obtain ⟨i0, hi, hz0, hz1, hz2⟩ := info_parts i64info
  have := run_make (P := Try.prog) w 79 2 i0 (.int .i64 0) Try.underlying79 hi hz0 .i64 .i64 0 (n : Int) (Int.le_refl _) (by omega) (by rw [hz2]; omega) (by omega)
  rw [hz1] at this
  simpa [Value.cells] using this

theorem run_mk3 (n : Nat) (hn : n ≤ 5000000000000) (w : World) : (Instr.makeSlice 50 (.int .i64 0) (.int .i64 (n : Int))).run Try.prog w = .ok (.slice (some ⟨w.heap.size, 0, none⟩) 0 n) (w.alloc (.cells (madeCells #[.int .i64 0, .int .i64 0, .int .i64 0] (n * 3)) 31)) := by
  obtain ⟨i0, hi, hz0, hz1, hz2⟩ := info_parts rtinfo
  have := run_make (P := Try.prog) w 50 31 i0 (.agg #[.int .i64 0, .int .i64 0, .int .i64 0]) Try.underlying50 hi hz0 .i64 .i64 0 (n : Int) (Int.le_refl _) (by omega) (by rw [hz2]; omega) (by omega)
  rw [hz1] at this
  simpa [Value.cells] using this

/-- What lies ahead of Limbo's loop. -/
theorem limbo_start (w : World) (n : Nat) (p : Option Addr) (o1 o2 : Array Value) (h1 : o1 = madeCells #[.int .i64 0] n) (h2 : o2 = madeCells #[.int .i64 0, .int .i64 0, .int .i64 0] (n * 3)) (hn : n ≤ maxLen) : ∃ w1, ((((w.alloc (.cells o1 2)).alloc (.cells #[.slice (some ⟨w.heap.size, 0, none⟩) 0 n] 79)).alloc (.cells o2 31)).alloc (.cells #[.slice (some ⟨w.heap.size + 1 + 1, 0, none⟩) 0 n] 50)).alloc (.cells #[.pointer p] 23) = w1 ∧
    Below w.heap.size w w1 ∧ w1.heap.size = w.heap.size + 5 ∧ Bk w1 (w.heap.size + 1) 79 #[.slice (some ⟨w.heap.size, 0, none⟩) 0 n] ∧ Bk w1 (w.heap.size + 3) 50 #[.slice (some ⟨w.heap.size + 1 + 1, 0, none⟩) 0 n] ∧ Bk w1 (w.heap.size + 4) 23 #[.pointer p] ∧
    w1.ownsRow 0 2 1 (.slice (some ⟨w.heap.size, 0, none⟩) 0 n) 0 [] ∧ w1.ownsRow 0 31 3 (.slice (some ⟨w.heap.size + 1 + 1, 0, none⟩) 0 n) 0 [] := by
  obtain ⟨wa, ha⟩ : ∃ wa, w.alloc (.cells o1 2) = wa := ⟨_, rfl⟩
  have sa : wa.heap.size = w.heap.size + 1 := by rw [← ha]; simp
  obtain ⟨wb, hb⟩ : ∃ wb, wa.alloc (.cells #[.slice (some ⟨w.heap.size, 0, none⟩) 0 n] 79) = wb := ⟨_, rfl⟩
  have sb : wb.heap.size = w.heap.size + 2 := by rw [← hb]; simp [sa]
  obtain ⟨wc, hc⟩ : ∃ wc, wb.alloc (.cells o2 31) = wc := ⟨_, rfl⟩
  have sc : wc.heap.size = w.heap.size + 3 := by rw [← hc]; simp [sb]
  obtain ⟨wd, hd⟩ : ∃ wd, wc.alloc (.cells #[.slice (some ⟨w.heap.size + 1 + 1, 0, none⟩) 0 n] 50) = wd := ⟨_, rfl⟩
  have sd : wd.heap.size = w.heap.size + 4 := by rw [← hd]; simp [sc]
  rw [ha, hb, hc, hd]
  have B : Below w.heap.size w (wd.alloc (.cells #[.pointer p] 23)) := by
    rw [← hd, ← hc, ← hb, ← ha]
    exact (((((Below.refl _ w).alloc (Nat.le_refl _) _).alloc (by simp) _).alloc (by simp; omega) _).alloc (by simp; omega) _).alloc (by simp; omega) _
  have r1 : wa.ownsRow 0 2 1 (.slice (some ⟨w.heap.size, 0, none⟩) 0 n) 0 [] := by
    rw [← ha, h1]
    exact World.ownsRow_made w _ n (Nat.zero_le _) hn (by rw [size_madeCells]; omega)
  have r2 : wc.ownsRow 0 31 3 (.slice (some ⟨w.heap.size + 1 + 1, 0, none⟩) 0 n) 0 [] := by
    rw [← hc, h2, show w.heap.size + 1 + 1 = wb.heap.size by omega]
    exact World.ownsRow_made wb _ n (Nat.zero_le _) hn (by rw [size_madeCells])
  have k1 : Bk wb (w.heap.size + 1) 79 #[.slice (some ⟨w.heap.size, 0, none⟩) 0 n] := by
    rw [← hb, ← sa]
    exact Bk.new _ _ _
  have k2 : Bk wd (w.heap.size + 3) 50 #[.slice (some ⟨w.heap.size + 1 + 1, 0, none⟩) 0 n] := by
    rw [← hd, ← sc]
    exact Bk.new _ _ _
  have tb : Tn [] wa (wd.alloc (.cells #[.pointer p] 23)) := by
    rw [← hd, ← hc, ← hb]
    exact ((((Tn.refl _ _).alloc _).alloc _).alloc _).alloc _
  have tc : Tn [] wb (wd.alloc (.cells #[.pointer p] 23)) := by
    rw [← hd, ← hc]
    exact (((Tn.refl _ _).alloc _).alloc _).alloc _
  have td : Tn [] wc (wd.alloc (.cells #[.pointer p] 23)) := by
    rw [← hd]
    exact ((Tn.refl _ _).alloc _).alloc _
  refine ⟨_, rfl, B, by simp [sd], k1.tn tc (by simp), k2.alloc _, ?_, owns_tn r1 tb (by simp), owns_tn r2 td (by simp)⟩
  rw [← sd]
  exact Bk.new _ _ _

set_option maxHeartbeats 2000000 in
theorem limbo_no {w : World} {p : Option Addr} (h : Nm w p) : Calls Try.prog 21 #[.pointer p] w fun e w' => ∃ b b2 c, e = .returned (.func (.func 38) #[] #[.pointer (some ⟨b, 0, none⟩), .pointer (some ⟨b2, 0, none⟩)]) ∧ Below w.heap.size w w' ∧ ∃ q, w'.cell? ⟨b, 0, none⟩ = some (.slice q 0 c) := by
  refine (callsIn_wide (n := 9)).1 ?_
  refine callsIn_of_wp_marks Try.func21 rfl trivial ?_ rfl
  simp only [Try.ntmps21, List.size_toArray, List.length_cons, List.length_nil, Nat.reduceAdd, Nat.reduceSub, Array.replicate_succ, Array.replicate_zero, List.push_toArray, List.append_toArray, List.nil_append, List.cons_append]
  have HN : Hid (Nm w p) := h
  clear h
  gi_wp2_with fail
  refine ⟨trivial, ?_⟩
  refine (callsIn_wide.2 (waiting_no HN.out)).mono ?_
  rintro e w1 ⟨rfl, rfl⟩
  have mk1 : ∀ w : World, (Instr.makeSlice 79 (.int .i64 0) (.int .i64 0)).run Try.prog w = .ok (.slice (some ⟨w.heap.size, 0, none⟩) 0 0) (w.alloc (.cells #[] 2)) := fun w => (run_mk1 0 (by omega) w).trans (by rw [made0])
  have mk3 : ∀ w : World, (Instr.makeSlice 50 (.int .i64 0) (.int .i64 0)).run Try.prog w = .ok (.slice (some ⟨w.heap.size, 0, none⟩) 0 0) (w.alloc (.cells #[] 31)) := fun w => (run_mk3 0 (by omega) w).trans (by rw [Nat.zero_mul, made0])
  gi_wp2_with fail
  refine ⟨trivial, ?_⟩
  refine (callsIn_wide.2 (waiting_no (HN.out.below (((Below.refl _ _).alloc (Nat.le_refl _) _).alloc (by simp) _)))).mono ?_
  rintro e w2 ⟨rfl, rfl⟩
  gi_wp2_with fail
  refine ⟨trivial, ?_⟩
  refine (callsIn_wide.2 (waits_any _ _)).mono ?_
  rintro e w2 ⟨rfl, hw2⟩
  obtain ⟨wx, hwx, hbx, hsx, k0, k1, k2, -, -⟩ := limbo_start w1 0 p #[] #[] (made0 _).symm (by rw [Nat.zero_mul, made0]) (Nat.zero_le _)
  rw [hwx] at hw2
  subst hw2
  simp only [World.size_alloc]
  have HN1 : Hid (Nm w2 p) := HN.out.below hbx
  clear HN hwx mk1 mk3
  gi_wp2_with fail
  refine wpIn_range_none rfl (by omega) (gf := 45) (lb := #[.pointer (some ⟨w1.heap.size + 4, 0, none⟩)]) rfl trivial (enters_of Try.func45 (by kernel_rfl) rfl) ?_ ?_
  · intro l W hW
    refine (callsIn_wide.2 (waits1_no (b := w1.heap.size + 4) (p := p) ?_ (HN1.out.below hW))).mono fun e W' ⟨he, hw⟩ => ⟨⟨_, he⟩, hw⟩
    rw [hW.cell (p := ⟨w1.heap.size + 4, 0, none⟩) (by show w1.heap.size + 4 < _; omega)]
    exact k2.cell 0
  · intro D W hW hD hK
    gi_wp2
    refine ⟨by simp, .inl ⟨_, _, rfl, run_takeDeferred hK, ?_⟩⟩
    refine ⟨_, results_tmp rfl _ _ _, _, _, 0, rfl, ?_, ?_⟩
    · refine (hbx.trans (hW.mono (by omega))).trans ?_
      exact ⟨rfl, rfl, rfl, by simp, fun k hk => World.putObj_heap_other (by omega)⟩
    · have e : (W.putObj D (.deferred none)).heap[w1.heap.size + 1]? = w2.heap[w1.heap.size + 1]? := (World.putObj_heap_other (by omega)).trans (hW.block _ (by omega))
      exact ⟨_, (Bk.cell (show Bk (W.putObj D (.deferred none)) (w1.heap.size + 1) 79 _ from e.trans k0) 0)⟩

/-- What lies ahead of young's loop. -/
theorem young_start (w : World) (p : Option Addr) : ∃ w1, ((w.alloc (.cells #[.pointer p] 23)).alloc (.cells #[.bool false] 4)).alloc (.cells #[.int .i64 0] 3) = w1 ∧ Below w.heap.size w w1 ∧ w1.heap.size = w.heap.size + 3 ∧ Bk w1 w.heap.size 23 #[.pointer p] ∧ Bk w1 (w.heap.size + 1) 4 #[.bool false] ∧ Bk w1 (w.heap.size + 2) 3 #[.int .i64 0] := by
  have b0 := Bk.new w 23 #[.pointer p]
  have b1 := Bk.new (w.alloc (.cells #[.pointer p] 23)) 4 #[.bool false]
  have b2 := Bk.new ((w.alloc (.cells #[.pointer p] 23)).alloc (.cells #[.bool false] 4)) 3 #[.int .i64 0]
  simp only [World.size_alloc] at b1 b2
  exact ⟨_, rfl, (((Below.refl _ w).alloc (Nat.le_refl _) _).alloc (by simp) _).alloc (by simp; omega) _, by simp, (b0.alloc _).alloc _, b1.alloc _, b2⟩

set_option maxHeartbeats 2000000 in
theorem young_no {w : World} {p : Option Addr} (h : Nm w p) : Calls Try.prog 19 #[.pointer p] w fun e w' => e = .returned (.bool true) ∧ Below w.heap.size w w' := by
  refine (callsIn_wide (n := 9)).1 ?_
  refine callsIn_of_wp_marks Try.func19 rfl trivial ?_ rfl
  simp only [Try.ntmps19, List.size_toArray, List.length_cons, List.length_nil, Nat.reduceAdd, Nat.reduceSub, Array.replicate_succ, Array.replicate_zero, List.push_toArray, List.append_toArray, List.nil_append, List.cons_append]
  have HN : Hid (Nm w p) := h
  clear h
  gi_wp2_with fail
  refine ⟨trivial, ?_⟩
  obtain ⟨w1, hw1, hb1, hs1, k0, k1, k2⟩ := young_start w p
  rw [hw1]
  refine (callsIn_wide.2 (limbo_no (HN.out.below hb1))).mono ?_
  rintro e w2 ⟨bb, bb2, c, rfl, hb2, q, c2⟩
  have HN2 : Hid (∀ W, Below w2.heap.size w2 W → Nm W p) := fun W hW => ((HN.out.below hb1).below hb2).below hW
  have k0 := k0.below hb2 k0.lt
  have k1 := k1.below hb2 k1.lt
  have k2 := k2.below hb2 k2.lt
  have hB2 : Below w.heap.size w w2 := hb1.trans (hb2.mono (by omega))
  have hs2 := hb2.size
  clear HN hw1 hb2 hb1
  gi_wp2_with fail
  refine wpIn_range_none rfl (by omega) (gf := 38) (lb := #[.pointer (some ⟨bb, 0, none⟩), .pointer (some ⟨bb2, 0, none⟩)]) rfl trivial (enters_of Try.func38 (by kernel_rfl) rfl) ?_ ?_
  · intro l W hW
    refine (callsIn_wide.2 (limbo1_nil (b := bb) (b2 := bb2) (p := q) (c := c) ?_)).mono fun e W' ⟨he, hw⟩ => ⟨⟨_, he⟩, hw⟩
    rw [hW.cell (p := ⟨bb, 0, none⟩) (World.block_lt_of_cell? w2 _ c2)]
    exact c2
  · intro D W hW hD hK
    have h0 := k0.below hW k0.lt
    have h1 := k1.below hW k1.lt
    have h2 := k2.below hW k2.lt
    have d0 : W.cell? ⟨w.heap.size, 0, none⟩ = some (.pointer p) := h0.cell 0
    have d1 : W.cell? ⟨w.heap.size + 1, 0, none⟩ = some (.bool false) := h1.cell 0
    have d2 : W.cell? ⟨w.heap.size + 2, 0, none⟩ = some (.int .i64 0) := h2.cell 0
    have f1 := h1.frozen 0
    have hDn : D ≠ w.heap.size + 1 := by omega
    have HNW : Hid (Nm W.drew p) := by
      have := HN2.out W hW
      exact this.below ((Below.refl _ _).drew)
    have hmix : Try.prog.follows .mixedOrders = true := by kernel_rfl
    clear k0 k1 k2 c2 h0 h2
    gi_wp2_with fail
    first | gi_region_with_o (refine ⟨trivial, ?_⟩; refine (callsIn_wide.2 (waiting_no HNW.out)).mono ?_; rintro e w5 ⟨rfl, rfl⟩) | fail
    all_goals gi_wp2
    all_goals
      have hk2 : Bk (W.setCell ⟨w.heap.size + 1, 0, none⟩ (.bool true)).drew (w.heap.size + 1) 4 #[.bool true] := h1.set 0 (.bool true)
      have hK2 : (W.setCell ⟨w.heap.size + 1, 0, none⟩ (.bool true)).drew.heap[D]? = some (.deferred (some [])) := (Below.heap_setCell _ _ _ _ (by simpa using hDn)).trans hK
      refine ⟨by simp, .inl ⟨_, _, rfl, run_takeDeferred hK2, ?_⟩⟩
      have hk3 : Bk ((W.setCell ⟨w.heap.size + 1, 0, none⟩ (.bool true)).drew.putObj D (.deferred none)) (w.heap.size + 1) 4 #[.bool true] := (World.putObj_heap_other (fun e => hDn e.symm)).trans hk2
      have c3 : ((W.setCell ⟨w.heap.size + 1, 0, none⟩ (.bool true)).drew.putObj D (.deferred none)).cell? ⟨w.heap.size + 1, 0, none⟩ = some (.bool true) := hk3.cell 0
      refine ⟨.bool true, ?_, rfl, ?_⟩
      · simp [results, Try.f19, go_sem, c3]
      · have e2 : Below w.heap.size W (W.setCell ⟨w.heap.size + 1, 0, none⟩ (.bool true)).drew := ((Below.refl _ _).setCell (p := ⟨w.heap.size + 1, 0, none⟩) (by simp) _).drew
        have hsz := hB2.size
        refine ((hB2.trans (hW.mono hB2.size)).trans e2).trans ?_
        exact ⟨rfl, rfl, rfl, by simp, fun k hk => World.putObj_heap_other (by omega)⟩
end Go.Proofs.Ytndmcjkbbedoeaa
