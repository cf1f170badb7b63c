/- A table that no call made tells nothing. -/
import Derived.Test.YtnjafmjkaajbkaaDoorTbNo
namespace Go.Proofs.YtnjafmjkaajbkaaDoor
open Go.RowKit Go.Shelf
attribute [local go_sem] Oper.semAt_some
set_option linter.unusedVariables false
set_option maxRecDepth 100000

/-- Two variables and a box. -/
theorem all_start (w : World) (p : Option Addr) : ∃ w1, ((w.alloc (.cells #[.slice none 0 0] 70)).alloc (.cells #[.slice none 0 0] 52)).alloc (.cells #[.pointer p] 23) = w1 ∧ Below w.heap.size w w1 ∧ w1.heap.size = w.heap.size + 3 ∧ Bk w1 w.heap.size 70 #[.slice none 0 0] ∧ Bk w1 (w.heap.size + 1) 52 #[.slice none 0 0] ∧ Bk w1 (w.heap.size + 2) 23 #[.pointer p] := by
  have b0 := Bk.new w 70 #[.slice none 0 0]
  have b1 := Bk.new (w.alloc (.cells #[.slice none 0 0] 70)) 52 #[.slice none 0 0]
  have b2 := Bk.new ((w.alloc (.cells #[.slice none 0 0] 70)).alloc (.cells #[.slice none 0 0] 52)) 23 #[.pointer p]
  simp only [World.size_alloc] at b1 b2
  exact ⟨_, rfl, (((Below.refl _ w).alloc (Nat.le_refl _) _).alloc (by simp) _).alloc (by simp; omega) _, by simp, (b0.alloc _).alloc _, b1.alloc _, b2⟩

set_option maxHeartbeats 2000000 in
theorem allN {w : World} {p : Option Addr} (h : Nm w p) : Calls Tryd.prog 32 #[.pointer p] w fun e w' => e = .returned (.func (.func 50) #[] #[.pointer (some ⟨w.heap.size, 0, none⟩), .pointer (some ⟨w.heap.size + 1, 0, none⟩)]) ∧ Below w.heap.size w w' ∧ w'.cell? ⟨w.heap.size, 0, none⟩ = some (.slice none 0 0) := by
  refine (callsIn_wide (n := 9)).1 ?_
  refine callsIn_of_wp_marks Tryd.func32 rfl trivial ?_ rfl
  simp only [Tryd.ntmps32, List.size_toArray, List.length_cons, List.length_nil, Nat.reduceAdd, Nat.reduceSub, Array.replicate_succ, Array.replicate_zero, List.push_toArray, List.append_toArray, List.nil_append, List.cons_append]
  have HN : Hid (Nm w p) := h
  clear h
  gi_wp2_with fail
  refine ⟨trivial, ?_⟩
  refine (callsIn_wide.2 (live0_any _ _)).mono ?_
  rintro e w1 ⟨rfl, hw1⟩
  obtain ⟨wx, hwx, hbx, hsx, k0, k1, k2⟩ := all_start w p
  rw [hwx] at hw1
  subst hw1
  simp only [World.size_alloc]
  have HN1 : Hid (Nm w1 p) := HN.out.below hbx
  clear HN hwx
  gi_wp2_with fail
  refine wpIn_range_none rfl (by omega) (gf := 58) (lb := #[.pointer (some ⟨w.heap.size + 1 + 1, 0, none⟩)]) rfl trivial (enters_of Tryd.func58 (by kernel_rfl) rfl) ?_ ?_
  · intro l W hW
    refine (callsIn_wide.2 (live1N (b := w.heap.size + 1 + 1) (p := p) ?_ (HN1.out.below hW))).mono fun e W' ⟨he, hw⟩ => ⟨⟨_, he⟩, hw⟩
    rw [hW.cell (p := ⟨w.heap.size + 1 + 1, 0, none⟩) (by show w.heap.size + 1 + 1 < _; omega)]
    exact k2.cell 0
  · intro D W hW hD hK
    gi_wp2
    refine ⟨by simp, .inl ⟨_, _, rfl, run_takeDeferred hK, ?_⟩⟩
    refine ⟨_, results_tmp rfl _ _ _, rfl, ?_, ?_⟩
    · refine (hbx.trans (hW.mono (by omega))).trans ?_
      exact ⟨rfl, rfl, rfl, by simp, fun k hk => World.putObj_heap_other (by omega)⟩
    · have e : (W.putObj D (.deferred none)).heap[w.heap.size]? = w1.heap[w.heap.size]? := (World.putObj_heap_other (by omega)).trans (hW.block _ (by omega))
      exact (Bk.cell (show Bk (W.putObj D (.deferred none)) w.heap.size 70 #[.slice none 0 0] from e.trans k0) 0)

set_option maxHeartbeats 2000000 in
theorem silentN {w : World} {p : Option Addr} (h : Nm w p) : Calls Tryd.prog 24 #[.pointer p] w fun e w' => e = .returned (.bool true) ∧ Below w.heap.size w w' := by
  refine (callsIn_wide (n := 9)).1 ?_
  refine callsIn_of_wp_marks Tryd.func24 rfl trivial ?_ rfl
  simp only [Tryd.ntmps24, List.size_toArray, List.length_cons, List.length_nil, Nat.reduceAdd, Nat.reduceSub, Array.replicate_succ, Array.replicate_zero, List.push_toArray, List.append_toArray, List.nil_append, List.cons_append]
  obtain ⟨w0, hw0⟩ : ∃ w0, w.alloc (.cells #[.bool false] 4) = w0 := ⟨_, rfl⟩
  have hb0 : Below w.heap.size w w0 := by rw [← hw0]; exact (Below.refl _ w).alloc (Nat.le_refl _) _
  have hz0 : w0.heap.size = w.heap.size + 1 := by rw [← hw0]; simp
  have hk0 : Bk w0 w.heap.size 4 #[.bool false] := by rw [← hw0]; exact Bk.new _ _ _
  have HN : Hid (Nm w0 p) := h.below hb0
  clear h
  gi_wp2_with fail
  refine ⟨trivial, ?_⟩
  refine (callsIn_wide.2 (allN HN.out)).mono ?_
  rintro e w1 ⟨rfl, hb1, c1⟩
  simp only []
  have hk1 : Bk w1 w.heap.size 4 #[.bool false] := hk0.below hb1 (by omega)
  have hB1 : Below w.heap.size w w1 := hb0.trans (hb1.mono (by omega))
  clear hk0 HN hw0
  gi_wp2_with fail
  refine wpIn_range_none rfl (by omega) (gf := 50) (lb := #[.pointer (some ⟨w0.heap.size, 0, none⟩), .pointer (some ⟨w0.heap.size + 1, 0, none⟩)]) rfl trivial (enters_of Tryd.func50 (by kernel_rfl) rfl) ?_ ?_
  · intro l W hW
    refine (callsIn_wide.2 (all1N (b := w0.heap.size) (c := w0.heap.size + 1) (q := none) (cap := 0) ?_)).mono fun e W' ⟨he, hw⟩ => ⟨⟨_, he⟩, hw⟩
    rw [hW.cell (p := ⟨w0.heap.size, 0, none⟩) (World.block_lt_of_cell? w1 _ c1)]
    exact c1
  · intro D W hW hD hK
    have hkW : Bk W w.heap.size 4 #[.bool false] := hk1.below hW hk1.lt
    have d0 : W.cell? ⟨w.heap.size, 0, none⟩ = some (.bool false) := hkW.cell 0
    have f0 := hkW.frozen 0
    have hDn : D ≠ w.heap.size := by have := hk1.lt; omega
    gi_wp2
    have hk2 := hkW.set 0 (.bool true)
    have hK2 : (W.setCell ⟨w.heap.size, 0, none⟩ (.bool true)).heap[D]? = some (.deferred (some [])) := (Below.heap_setCell _ _ _ _ (by simpa using hDn)).trans hK
    refine ⟨by simp, .inl ⟨_, _, rfl, run_takeDeferred hK2, ?_⟩⟩
    have hk3 : Bk ((W.setCell ⟨w.heap.size, 0, none⟩ (.bool true)).putObj D (.deferred none)) w.heap.size 4 #[.bool true] := (World.putObj_heap_other (fun e => hDn e.symm)).trans hk2
    have c3 : ((W.setCell ⟨w.heap.size, 0, none⟩ (.bool true)).putObj D (.deferred none)).cell? ⟨w.heap.size, 0, none⟩ = some (.bool true) := hk3.cell 0
    refine ⟨.bool true, ?_, rfl, ?_⟩
    · simp [results, Tryd.f24, go_sem, c3]
    · have e2 : Below w.heap.size W (W.setCell ⟨w.heap.size, 0, none⟩ (.bool true)) := (Below.refl _ _).setCell (p := ⟨w.heap.size, 0, none⟩) (Nat.le_refl _) _
      have hsz := hB1.size
      refine ((hB1.trans (hW.mono hB1.size)).trans e2).trans ?_
      exact ⟨rfl, rfl, rfl, by simp, fun k hk => World.putObj_heap_other (by omega)⟩
end Go.Proofs.YtnjafmjkaajbkaaDoor
