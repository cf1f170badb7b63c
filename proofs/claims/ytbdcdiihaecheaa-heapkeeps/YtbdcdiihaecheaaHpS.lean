/- A heap that no call made tells nothing. -/
import Derived.Test.YtbdcdiihaecheaaHpN3
import Derived.Test.YtbdcdiihaecheaaAgIt0
namespace Go.Proofs.Ytbdcdiihaecheaa
open Go.RowKit Go.Shelf
attribute [local go_sem] Oper.semAt_some
set_option linter.unusedVariables false
set_option maxRecDepth 100000
set_option linter.unusedSectionVars false
variable [Inhabited Cl] [Inhabited Ln]

theorem hall_no {w : World} {p : Option Addr} (h : NmH w p) : Calls Try.prog 62 #[.pointer p] w fun e w' => e = .returned (.func (.func 78) #[] #[]) ∧ w' = w := by
  go_enter Try.func62, Try.ntmps62
  go_wp2_with fail
  refine (hmade_no h).mono ?_
  rintro e w1 ⟨rfl, rfl⟩
  go_wp2
  go_ret
  exact ⟨rfl, rfl⟩

theorem hall1_any (w : World) (y : Value) : Calls Try.prog 78 #[y] w fun e w' => (∃ v, e = .returned v) ∧ w' = w := by
  go_enter Try.func78, Try.ntmps78
  go_wp2
  go_end0
  exact ⟨⟨_, rfl⟩, rfl⟩

set_option maxHeartbeats 2000000 in
theorem silentN {w : World} {p : Option Addr} (h : NmH w p) : Calls Try.prog 29 #[.pointer p] w fun e w' => e = .returned (.bool true) ∧ Below w.heap.size w w' := by
  refine (callsIn_wide (n := 9)).1 ?_
  refine callsIn_of_wp_marks Try.func29 rfl trivial ?_ rfl
  simp only [Try.ntmps29, List.size_toArray, List.length_cons, List.length_nil, Nat.reduceAdd, Nat.reduceSub, Array.replicate_succ, Array.replicate_zero, List.push_toArray, List.append_toArray, List.nil_append, List.cons_append]
  obtain ⟨w0, hw0⟩ : ∃ w0, w.alloc (.cells #[.bool false] 4) = w0 := ⟨_, rfl⟩
  have hb0 : Below w.heap.size w w0 := by rw [← hw0]; exact (Below.refl _ w).alloc (Nat.le_refl _) _
  have hz0 : w0.heap.size = w.heap.size + 1 := by rw [← hw0]; simp
  have hk0 : Bk w0 w.heap.size 4 #[.bool false] := by rw [← hw0]; exact Bk.new _ _ _
  have HN : Hid (NmH w0 p) := h.below hb0
  clear h
  gi_wp2_with fail
  refine ⟨trivial, ?_⟩
  refine (callsIn_wide.2 (hall_no HN.out)).mono ?_
  rintro e w1 ⟨rfl, hw1⟩
  subst hw1
  simp only []
  clear HN hw0
  gi_wp2_with fail
  refine wpIn_range_none rfl (by omega) (gf := 78) (lb := #[]) rfl trivial (enters_of Try.func78 (by kernel_rfl) rfl) ?_ ?_
  · intro l W hW
    exact callsIn_wide.2 (hall1_any W _)
  · intro D W hW hD hK
    have hkW : Bk W w.heap.size 4 #[.bool false] := hk0.below hW hk0.lt
    have d0 : W.cell? ⟨w.heap.size, 0, none⟩ = some (.bool false) := hkW.cell 0
    have f0 := hkW.frozen 0
    have hDn : D ≠ w.heap.size := by have := hk0.lt; omega
    gi_wp2
    have hk2 := hkW.set 0 (.bool true)
    have hK2 : (W.setCell ⟨w.heap.size, 0, none⟩ (.bool true)).heap[D]? = some (.deferred (some [])) := (Below.heap_setCell _ _ _ _ (by simpa using hDn)).trans hK
    refine ⟨by simp, .inl ⟨_, _, rfl, run_takeDeferred hK2, ?_⟩⟩
    have hk3 : Bk ((W.setCell ⟨w.heap.size, 0, none⟩ (.bool true)).putObj D (.deferred none)) w.heap.size 4 #[.bool true] := (World.putObj_heap_other (fun e => hDn e.symm)).trans hk2
    have c3 : ((W.setCell ⟨w.heap.size, 0, none⟩ (.bool true)).putObj D (.deferred none)).cell? ⟨w.heap.size, 0, none⟩ = some (.bool true) := hk3.cell 0
    refine ⟨.bool true, ?_, rfl, ?_⟩
    · simp [results, Try.f29, go_sem, c3]
    · have e2 : Below w.heap.size W (W.setCell ⟨w.heap.size, 0, none⟩ (.bool true)) := (Below.refl _ _).setCell (p := ⟨w.heap.size, 0, none⟩) (Nat.le_refl _) _
      have hsz := hb0.size
      refine ((hb0.trans (hW.mono hb0.size)).trans e2).trans ?_
      exact ⟨rfl, rfl, rfl, by simp, fun k hk => World.putObj_heap_other (by omega)⟩
end Go.Proofs.Ytbdcdiihaecheaa
