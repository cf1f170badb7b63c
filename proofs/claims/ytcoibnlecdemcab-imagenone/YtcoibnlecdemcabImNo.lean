/- An image that no call made: all its answers, and what the law hears of it. -/
import Derived.Test.YtcoibnlecdemcabImA
import Derived.Test.YtcoibnlecdemcabItN
namespace Go.Proofs.Ytcoibnlecdemcab
open Go.RowKit Go.Shelf
attribute [local go_sem] Oper.semAt_some
set_option linter.unusedVariables false
set_option maxRecDepth 100000

/-- No call made it. -/
def NmI (w : World) (p : Option Addr) : Prop := p = none ∨ ∃ B, p = some ⟨B, 0, none⟩ ∧ Bk w B 29 #[.bool false, .int .i64 0, .string ⟨#[]⟩, .slice none 0 0]
theorem NmI.below {w w' : World} {p : Option Addr} (h : NmI w p) (hb : Below w.heap.size w w') : NmI w' p := by
  rcases h with rfl | ⟨B, rfl, hk⟩
  · exact .inl rfl
  · exact .inr ⟨B, rfl, hk.below hb hk.lt⟩

section
variable {w : World} {p : Option Addr}
theorem made_no (h : NmI w p) : Calls Try.prog 12 #[.pointer p] w fun e w' => e = .returned (.bool false) ∧ w' = w := by
  rcases h with rfl | ⟨B, rfl, hk⟩
  · go_enter Try.func12, Try.ntmps12
    go_wp2
    go_ret
    exact ⟨rfl, rfl⟩
  · have c0 : w.cell? ⟨B, 0, none⟩ = some (.bool false) := hk.cell 0
    clear hk
    go_enter Try.func12, Try.ntmps12
    go_wp2
    go_ret
    exact ⟨rfl, rfl⟩

theorem add_no (h : NmI w p) (k : ByteArray) (q : Option Addr) (n c : Nat) : Calls Try.prog 5 #[.pointer p, .string k, .slice q n c] w fun e w' => e = .returned (.int .i64 2) ∧ w' = w := by
  go_enter Try.func5, Try.ntmps5
  go_wp2_with fail
  refine (made_no h).mono ?_
  rintro e w1 ⟨rfl, rfl⟩
  go_wp2
  go_ret
  exact ⟨rfl, rfl⟩
theorem ts_no (h : NmI w p) : Calls Try.prog 6 #[.pointer p] w fun e w' => e = .returned (.int .i64 0) ∧ w' = w := by
  go_enter Try.func6, Try.ntmps6
  go_wp2_with fail
  refine (made_no h).mono ?_
  rintro e w1 ⟨rfl, rfl⟩
  go_wp2
  go_ret
  exact ⟨rfl, rfl⟩
theorem imlen_no (h : NmI w p) : Calls Try.prog 11 #[.pointer p] w fun e w' => e = .returned (.int .i64 0) ∧ w' = w := by
  go_enter Try.func11, Try.ntmps11
  go_wp2_with fail
  refine (made_no h).mono ?_
  rintro e w1 ⟨rfl, rfl⟩
  go_wp2
  go_ret
  exact ⟨rfl, rfl⟩
theorem imfrom_no (h : NmI w p) : Calls Try.prog 7 #[.pointer p] w fun e w' => e = .returned (.string ⟨#[]⟩) ∧ w' = w := by
  go_enter Try.func7, Try.ntmps7
  go_wp2_with fail
  refine (made_no h).mono ?_
  rintro e w1 ⟨rfl, rfl⟩
  go_wp2
  go_ret
  exact ⟨rfl, rfl⟩
theorem pairs_no (h : NmI w p) : Calls Try.prog 16 #[.pointer p] w fun e w' => e = .returned (.func (.func 23) #[] #[]) ∧ w' = w := by
  go_enter Try.func16, Try.ntmps16
  go_wp2_with fail
  refine (made_no h).mono ?_
  rintro e w1 ⟨rfl, rfl⟩
  go_wp2
  go_ret
  exact ⟨rfl, rfl⟩
theorem chunks_no (h : NmI w p) : Calls Try.prog 18 #[.pointer p] w fun e w' => e = .returned (.func (.func 25) #[] #[]) ∧ w' = w := by
  go_enter Try.func18, Try.ntmps18
  go_wp2_with fail
  refine (made_no h).mono ?_
  rintro e w1 ⟨rfl, rfl⟩
  go_wp2
  go_ret
  exact ⟨rfl, rfl⟩
end

theorem pairs1_none (w : World) (y : Value) : Calls Try.prog 23 #[y] w fun e w' => (∃ v, e = .returned v) ∧ w' = w := by
  go_enter Try.func23, Try.ntmps23
  go_wp2
  go_end0
  exact ⟨⟨_, rfl⟩, rfl⟩
theorem chunks1_none (w : World) (y : Value) : Calls Try.prog 25 #[y] w fun e w' => (∃ v, e = .returned v) ∧ w' = w := by
  go_enter Try.func25, Try.ntmps25
  go_wp2
  go_end0
  exact ⟨⟨_, rfl⟩, rfl⟩

set_option maxHeartbeats 2000000 in
theorem lpairs_none (w : World) : Calls Try.prog 17 #[.func (.func 23) #[] #[], .slice none 0 0, .int .i64 0] w fun e w' => e = .returned (.bool true) ∧ Below w.heap.size w w' := by
  refine (callsIn_wide (n := 9)).1 ?_
  refine callsIn_of_wp_marks Try.func17 rfl trivial ?_ rfl
  simp only [Try.ntmps17, List.size_toArray, List.length_cons, List.length_nil, Nat.reduceAdd, Nat.reduceSub, Array.replicate_succ, Array.replicate_zero, List.push_toArray, List.append_toArray, List.nil_append, List.cons_append]
  obtain ⟨w0, hw0⟩ : ∃ w0, ((w.alloc (.cells #[.slice none 0 0] 27)).alloc (.cells #[.int .i64 0] 3)).alloc (.cells #[.bool false] 4) = w0 := ⟨_, rfl⟩
  have hb0 : Below w.heap.size w w0 := by rw [← hw0]; exact (((Below.refl _ w).alloc (Nat.le_refl _) _).alloc (by simp) _).alloc (by simp; omega) _
  have hz0 : w0.heap.size = w.heap.size + 3 := by rw [← hw0]; simp
  have ka : Bk w0 w.heap.size 27 #[.slice none 0 0] := by rw [← hw0]; exact ((Bk.new _ _ _).alloc _).alloc _
  have kc : Bk w0 (w.heap.size + 1 + 1) 4 #[.bool false] := by rw [← hw0]; have := Bk.new ((w.alloc (.cells #[.slice none 0 0] 27)).alloc (.cells #[.int .i64 0] 3)) 4 #[.bool false]; simpa using this
  have kd : Bk (w0.alloc (.cells #[.int .i64 0] 3)) w0.heap.size 3 #[.int .i64 0] := Bk.new _ _ _
  have hb1 : Below w0.heap.size w0 (w0.alloc (.cells #[.int .i64 0] 3)) := (Below.refl _ _).alloc (Nat.le_refl _) _
  have hz1 : (w0.alloc (.cells #[.int .i64 0] 3)).heap.size = w0.heap.size + 1 := by simp
  gi_wp2_with fail
  refine wpIn_range_none rfl (by omega) (gf := 23) (lb := #[]) rfl trivial (enters_of Try.func23 (by kernel_rfl) rfl) ?_ ?_
  · intro l W hW
    exact callsIn_wide.2 (pairs1_none W _)
  · intro D W hW hD hK
    have hkc : Bk W (w.heap.size + 1 + 1) 4 #[.bool false] := (kc.below hb1 kc.lt).below hW (by omega)
    have hka : Bk W w.heap.size 27 #[.slice none 0 0] := (ka.below hb1 ka.lt).below hW (by omega)
    have hkd : Bk W w0.heap.size 3 #[.int .i64 0] := kd.below hW kd.lt
    have d0 : W.cell? ⟨w.heap.size, 0, none⟩ = some (.slice none 0 0) := hka.cell 0
    rw [hz0] at hkd
    have d1 : W.cell? ⟨w.heap.size + 3, 0, none⟩ = some (.int .i64 0) := hkd.cell 0
    have d2 : W.cell? ⟨w.heap.size + 1 + 1, 0, none⟩ = some (.bool false) := hkc.cell 0
    have f2 := hkc.frozen 0
    have hDn : D ≠ w.heap.size + 1 + 1 := by omega
    gi_wp2
    have hk2 := hkc.set 0 (.bool true)
    have hK2 : (W.setCell ⟨w.heap.size + 1 + 1, 0, none⟩ (.bool true)).heap[D]? = some (.deferred (some [])) := (Below.heap_setCell _ _ _ _ (by simpa using hDn)).trans hK
    refine ⟨by simp, .inl ⟨_, _, rfl, run_takeDeferred hK2, ?_⟩⟩
    have hk3 : Bk ((W.setCell ⟨w.heap.size + 1 + 1, 0, none⟩ (.bool true)).putObj D (.deferred none)) (w.heap.size + 1 + 1) 4 #[.bool true] := (World.putObj_heap_other (fun e => hDn e.symm)).trans hk2
    have c3 : ((W.setCell ⟨w.heap.size + 1 + 1, 0, none⟩ (.bool true)).putObj D (.deferred none)).cell? ⟨w.heap.size + 1 + 1, 0, none⟩ = some (.bool true) := hk3.cell 0
    refine ⟨.bool true, ?_, rfl, ?_⟩
    · simp [results, Try.f17, go_sem, c3]
    · have e2 : Below w.heap.size W (W.setCell ⟨w.heap.size + 1 + 1, 0, none⟩ (.bool true)) := (Below.refl _ _).setCell (p := ⟨w.heap.size + 1 + 1, 0, none⟩) (by show w.heap.size ≤ w.heap.size + 1 + 1; omega) _
      have hsz := hb0.size
      have hb2 := hb0.trans (hb1.mono hb0.size)
      refine ((hb2.trans (hW.mono hb2.size)).trans e2).trans ?_
      exact ⟨rfl, rfl, rfl, by simp, fun k hk => World.putObj_heap_other (by omega)⟩

set_option maxHeartbeats 2000000 in
theorem lchunks_none {w : World} {p : Option Addr} (h : NmI w p) : Calls Try.prog 9 #[.pointer p, .slice none 0 0] w fun e w' => e = .returned (.bool true) ∧ Below w.heap.size w w' := by
  refine (callsIn_wide (n := 9)).1 ?_
  refine callsIn_of_wp_marks Try.func9 rfl trivial ?_ rfl
  simp only [Try.ntmps9, List.size_toArray, List.length_cons, List.length_nil, Nat.reduceAdd, Nat.reduceSub, Array.replicate_succ, Array.replicate_zero, List.push_toArray, List.append_toArray, List.nil_append, List.cons_append]
  obtain ⟨w0, hw0⟩ : ∃ w0, (w.alloc (.cells #[.slice none 0 0] 53)).alloc (.cells #[.bool false] 4) = w0 := ⟨_, rfl⟩
  have hb0 : Below w.heap.size w w0 := by rw [← hw0]; exact ((Below.refl _ w).alloc (Nat.le_refl _) _).alloc (by simp) _
  have hz0 : w0.heap.size = w.heap.size + 2 := by rw [← hw0]; simp
  have ka : Bk w0 w.heap.size 53 #[.slice none 0 0] := by rw [← hw0]; exact (Bk.new _ _ _).alloc _
  have kc : Bk w0 (w.heap.size + 1) 4 #[.bool false] := by rw [← hw0]; have := Bk.new (w.alloc (.cells #[.slice none 0 0] 53)) 4 #[.bool false]; simpa using this
  have kd : Bk (w0.alloc (.cells #[.int .i64 0] 3)) w0.heap.size 3 #[.int .i64 0] := Bk.new _ _ _
  have hb1 : Below w0.heap.size w0 (w0.alloc (.cells #[.int .i64 0] 3)) := (Below.refl _ _).alloc (Nat.le_refl _) _
  have hz1 : (w0.alloc (.cells #[.int .i64 0] 3)).heap.size = w0.heap.size + 1 := by simp
  have HN : Hid (NmI (w0.alloc (.cells #[.int .i64 0] 3)) p) := (h.below hb0).below hb1
  clear h
  gi_wp2_with fail
  refine ⟨trivial, ?_⟩
  refine (callsIn_wide.2 (chunks_no HN.out)).mono ?_
  rintro e w1 ⟨rfl, hw1⟩
  subst hw1
  simp only []
  clear HN
  gi_wp2_with fail
  refine wpIn_range_none rfl (by omega) (gf := 25) (lb := #[]) rfl trivial (enters_of Try.func25 (by kernel_rfl) rfl) ?_ ?_
  · intro l W hW
    exact callsIn_wide.2 (chunks1_none W _)
  · intro D W hW hD hK
    have hkc : Bk W (w.heap.size + 1) 4 #[.bool false] := (kc.below hb1 kc.lt).below hW (by omega)
    have hka : Bk W w.heap.size 53 #[.slice none 0 0] := (ka.below hb1 ka.lt).below hW (by omega)
    have hkd : Bk W w0.heap.size 3 #[.int .i64 0] := kd.below hW kd.lt
    have d0 : W.cell? ⟨w.heap.size, 0, none⟩ = some (.slice none 0 0) := hka.cell 0
    rw [hz0] at hkd
    have d1 : W.cell? ⟨w.heap.size + 2, 0, none⟩ = some (.int .i64 0) := hkd.cell 0
    have d2 : W.cell? ⟨w.heap.size + 1, 0, none⟩ = some (.bool false) := hkc.cell 0
    have f2 := hkc.frozen 0
    have hDn : D ≠ w.heap.size + 1 := by omega
    gi_wp2
    have hk2 := hkc.set 0 (.bool true)
    have hK2 : (W.setCell ⟨w.heap.size + 1, 0, none⟩ (.bool true)).heap[D]? = some (.deferred (some [])) := (Below.heap_setCell _ _ _ _ (by simpa using hDn)).trans hK
    refine ⟨by simp, .inl ⟨_, _, rfl, run_takeDeferred hK2, ?_⟩⟩
    have hk3 : Bk ((W.setCell ⟨w.heap.size + 1, 0, none⟩ (.bool true)).putObj D (.deferred none)) (w.heap.size + 1) 4 #[.bool true] := (World.putObj_heap_other (fun e => hDn e.symm)).trans hk2
    have c3 : ((W.setCell ⟨w.heap.size + 1, 0, none⟩ (.bool true)).putObj D (.deferred none)).cell? ⟨w.heap.size + 1, 0, none⟩ = some (.bool true) := hk3.cell 0
    refine ⟨.bool true, ?_, rfl, ?_⟩
    · simp [results, Try.f9, go_sem, c3]
    · have e2 : Below w.heap.size W (W.setCell ⟨w.heap.size + 1, 0, none⟩ (.bool true)) := (Below.refl _ _).setCell (p := ⟨w.heap.size + 1, 0, none⟩) (by show w.heap.size ≤ w.heap.size + 1; omega) _
      have hsz := hb0.size
      have hb2 := hb0.trans (hb1.mono hb0.size)
      refine ((hb2.trans (hW.mono hb2.size)).trans e2).trans ?_
      exact ⟨rfl, rfl, rfl, by simp, fun k hk => World.putObj_heap_other (by omega)⟩

theorem told_none {w : World} {p : Option Addr} (h : NmI w p) : Calls Try.prog 8 #[.pointer p, .slice none 0 0, .int .i64 0] w fun e w' => e = .returned (.bool true) ∧ Below w.heap.size w w' := by
  have HN : Hid (NmI w p) := h
  have hp := pairs_no h
  clear h
  go_enter Try.func8, Try.ntmps8
  go_wp2_with fail
  refine hp.mono ?_
  rintro e w1 ⟨rfl, rfl⟩
  go_wp2_with fail
  refine (lpairs_none _).mono ?_
  rintro e w2 ⟨rfl, b2⟩
  go_wp2_with fail
  refine (lpairs_none _).mono ?_
  rintro e w3 ⟨rfl, b3⟩
  have HB : Hid (Below w1.heap.size w1 w3) := b2.trans (b3.mono b2.size)
  have h3 := HN.out.below HB.out
  clear b2 b3 hp
  go_wp2_with fail
  refine (imlen_no h3).mono ?_
  rintro e w4 ⟨rfl, rfl⟩
  go_wp2
  go_ret
  exact ⟨rfl, HB.out⟩
end Go.Proofs.Ytcoibnlecdemcab
