/- What may be refused is done, and the error by which it was is answered (caught). -/
import Derived.Test.YtoehlgigidgfpaaGreatDlP
namespace Go.Proofs.YtoehlgigidgfpaaGreat
open Go.RowKit Go.Sort
set_option linter.unusedVariables false
set_option maxRecDepth 100000

theorem caughtP_idle (B : Nat) (w : World) :
    CallsD Tryz.prog 117 #[.pointer (some ⟨B, 0, none⟩)] .returning w fun e u' w' => e = .returned (.tuple #[]) ∧ u' = .returning ∧ w' = w := by
  refine callsD_of_wpS Tryz.func117 rfl fun c₀ cs hu => ?_
  apply wpS_seq
  apply wpS_region
  simp [wpOpsS, go_sem, recoverD, hu, Tryz.ntmps117, Exit.thenS]
  refine wpS_of_wp ?_
  simp only [Array.replicate_succ, Array.replicate_zero, List.push_toArray, List.append_toArray, List.setIfInBounds_toArray, List.set_cons_zero, List.set_cons_succ, List.nil_append, List.cons_append]
  go_wp2
  cases c₀
  simp_all [bodyPostS, results, Tryz.results117]

theorem caughtP_no (B : Nat) (k x : Int) (w : World) (hc : w.cell? ⟨B, 0, none⟩ = some (.int .i64 x)) (hz : w.frozen? ⟨B, 0, none⟩ = false) :
    CallsD Tryz.prog 117 #[.pointer (some ⟨B, 0, none⟩)] (.panicking [{ v := .iface 24 (.int .i64 k), recovered := false }]) w fun e u' w' => e = .returned (.tuple #[]) ∧ u' = .panicking [{ v := .iface 24 (.int .i64 k), recovered := true }] ∧ w' = w.setCell ⟨B, 0, none⟩ (.int .i64 k) := by
  refine callsD_of_wpS Tryz.func117 rfl fun c₀ cs hu => ?_
  apply wpS_seq
  apply wpS_region
  simp [wpOpsS, go_sem, recoverD, hu, Tryz.ntmps117, Exit.thenS]
  refine wpS_of_wp ?_
  simp only [Array.replicate_succ, Array.replicate_zero, List.push_toArray, List.append_toArray, List.setIfInBounds_toArray, List.set_cons_zero, List.set_cons_succ, List.nil_append, List.cons_append]
  go_wp2_with fail
  refine (refusal_any k _).mono ?_
  rintro e w1 ⟨rfl, rfl⟩
  go_wp2
  simp [bodyPostS, results, Tryz.results117]

theorem results_pe {fn : Func} {t u : Tmp} {T1 T2 : TypeId} (h : fn.results = #[.cell t 29, .cell u 24]) {tmps : Array Value} {w : World} {b c : Nat} (ht : tmps.getD t undef = .pointer (some ⟨b, 0, none⟩)) (hu : tmps.getD u undef = .pointer (some ⟨c, 0, none⟩)) {cs : List Value} {i : Int} (hn : cs.length = 5) (hk : Bk w b T1 cs.toArray) (hk2 : Bk w c T2 #[.int .i64 i]) :
    (results fn tmps).run Tryz.prog w = .ok (.tuple #[.agg cs.toArray, .int .i64 i]) w := by
  have c1 : w.cell? ⟨c, 0, none⟩ = some (.int .i64 i) := hk2.cell 0
  have hy : ∀ w : World, (loadVar 24 ⟨c, 0, none⟩).run Tryz.prog w = (load ⟨c, 0, none⟩).run Tryz.prog w := fun w => by kernel_rfl
  have ht' : tmps[t]?.getD undef = .pointer (some ⟨b, 0, none⟩) := by simpa using ht
  have hu' : tmps[u]?.getD undef = .pointer (some ⟨c, 0, none⟩) := by simpa using hu
  simp [results, h, ht', hu', asAddr, run_loadVar_cells pg_agg pg_size hn hk, hy, c1]

theorem PgAt.tn {w w' : World} {base : Nat} {v : Value} {g : Pp} {S : List Nat} (h : PgAt w base v g) (ht : Tn S w w') (hS : ∀ x ∈ S, x < base) : PgAt w' base v g := by
  obtain ⟨p, c, hv, hs⟩ := h
  exact ⟨p, c, hv, hs.tn ht hS⟩

set_option maxHeartbeats 1000000 in
theorem caughtP_ok (g : Nat) (lb : Array Value) (eg : ∀ args w, (callFunc g args).run Tryz.prog w = .ok (.enter g args) w) (G : Pp) (w : World)
    (h : Calls Tryz.prog g lb ((w.alloc (.cells zc 29)).alloc (.cells #[.int .i64 0] 24)) fun e w' => ∃ v, e = .returned v ∧ PgAt w' (w.heap.size + 1 + 1) v G ∧ Below (w.heap.size + 1 + 1) ((w.alloc (.cells zc 29)).alloc (.cells #[.int .i64 0] 24)) w') :
    Calls Tryz.prog 99 #[.func (.func g) #[] lb] w fun e w' => ∃ v, e = .returned (.tuple #[v, .int .i64 0]) ∧ PgAt w' w.heap.size v G ∧ Below w.heap.size w w' := by
  have hmf : ∀ (fn : Fn) (first cap : Array Value) (w : World), (Instr.makeFunc fn first cap).run Tryz.prog w = .ok (.func fn first cap) w := fun _ _ _ _ => rfl
  have H : Hid _ := h
  have HB0 : Hid (Below w.heap.size w ((w.alloc (.cells zc 29)).alloc (.cells #[.int .i64 0] 24))) := ((Below.refl _ _).alloc (Nat.le_refl _) _).alloc (by simp) _
  have HK0 : Hid (Bk ((w.alloc (.cells zc 29)).alloc (.cells #[.int .i64 0] 24)) w.heap.size 29 zc) := (Bk.new _ _ _).alloc _
  have HE0 : Hid (Bk ((w.alloc (.cells zc 29)).alloc (.cells #[.int .i64 0] 24)) (w.heap.size + 1) 24 #[.int .i64 0]) := Bk.new1 _ _ _ _
  clear h
  go_enter_defers Tryz.func99, Tryz.ntmps99
  go_wp2_with fail
  refine Calls.mono H.out ?_
  rintro e w2 ⟨v, rfl, hg, hb⟩
  have HG : Hid (PgAt w2 (w.heap.size + 1 + 1) v G) := hg
  have HK2 : Hid (Bk w2 w.heap.size 29 zc) := HK0.out.below hb (by omega)
  have HE2 : Hid (Bk w2 (w.heap.size + 1) 24 #[.int .i64 0]) := HE0.out.below hb (by omega)
  have HB2 : Hid (Below w.heap.size w w2) := HB0.out.trans (hb.mono (by omega))
  obtain ⟨p, c, rfl, -⟩ := hg
  generalize G.l.length = n at *
  clear hb H
  have b0 : w2.cell? ⟨w.heap.size, 0, none⟩ = some (.bool false) := HK2.out.cell 0
  have f0 : w2.frozen? ⟨w.heap.size, 0, none⟩ = false := HK2.out.frozen 0
  have b1 : w2.cell? ⟨w.heap.size, 1, none⟩ = some (.string ⟨#[]⟩) := HK2.out.cell 1
  have f1 : w2.frozen? ⟨w.heap.size, 1, none⟩ = false := HK2.out.frozen 1
  have b2 : w2.cell? ⟨w.heap.size, 2, none⟩ = some (.string ⟨#[]⟩) := HK2.out.cell 2
  have f2 : w2.frozen? ⟨w.heap.size, 2, none⟩ = false := HK2.out.frozen 2
  have b3 : w2.cell? ⟨w.heap.size, 3, none⟩ = some (.int .i64 0) := HK2.out.cell 3
  have f3 : w2.frozen? ⟨w.heap.size, 3, none⟩ = false := HK2.out.frozen 3
  have b4 : w2.cell? ⟨w.heap.size, 4, none⟩ = some (.slice none 0 0) := HK2.out.cell 4
  have f4 : w2.frozen? ⟨w.heap.size, 4, none⟩ = false := HK2.out.frozen 4
  have d0 : w2.cell? ⟨w.heap.size + 1, 0, none⟩ = some (.int .i64 0) := HE2.out.cell 0
  have g0 : w2.frozen? ⟨w.heap.size + 1, 0, none⟩ = false := HE2.out.frozen 0
  go_wp2
  refine leaves_cons (f := 117) (args := #[.pointer (some ⟨w.heap.size + 1, 0, none⟩)]) (by simp) (by simp [go_sem]) ?_
  refine (caughtP_idle (w.heap.size + 1) _).mono ?_
  rintro e u' w'' ⟨rfl, rfl, rfl⟩
  clear b0 f0 b1 f1 b2 f2 b3 f3 b4 f4 d0 g0
  have k1 := (HK2.out.five (.bool G.leaf) (.string G.lo) (.string G.hi) (.int .i64 G.r) (.slice p n c)).other (p := ⟨w.heap.size + 1, 0, none⟩) (by simp) (.int .i64 0)
  have k2 := (HE2.out.fiveO (R := w.heap.size) (by omega) (.bool G.leaf) (.string G.lo) (.string G.hi) (.int .i64 G.r) (.slice p n c)).set 0 (.int .i64 0)
  have ht : Tn [w.heap.size, w.heap.size + 1] w2 _ := ((Tn.refl _ w2).five (R := w.heap.size) (.inl (by simp)) (.bool G.leaf) (.string G.lo) (.string G.hi) (.int .i64 G.r) (.slice p n c)).setCell (p := ⟨w.heap.size + 1, 0, none⟩) (.inl (by simp)) (.int .i64 0)
  refine ⟨_, results_pe (cs := [.bool G.leaf, .string G.lo, .string G.hi, .int .i64 G.r, .slice p n c]) rfl rfl rfl rfl k1 k2, ?_⟩
  refine ⟨_, rfl, (HG.out.tn ht (by simp; omega)).mono (by omega), HB2.out.trans (ht.below HB2.out.size (by simp))⟩

set_option maxHeartbeats 1000000 in
theorem caughtP_err (g : Nat) (lb : Array Value) (eg : ∀ args w, (callFunc g args).run Tryz.prog w = .ok (.enter g args) w) (k : Int) (w : World)
    (h : Calls Tryz.prog g lb ((w.alloc (.cells zc 29)).alloc (.cells #[.int .i64 0] 24)) fun e w' => e = pan k ∧ Below (w.heap.size + 1 + 1) ((w.alloc (.cells zc 29)).alloc (.cells #[.int .i64 0] 24)) w') :
    Calls Tryz.prog 99 #[.func (.func g) #[] lb] w fun e w' => e = .returned (.tuple #[pgv false ⟨#[]⟩ ⟨#[]⟩ 0 none 0 0, .int .i64 k]) ∧ Below w.heap.size w w' := by
  have hmf : ∀ (fn : Fn) (first cap : Array Value) (w : World), (Instr.makeFunc fn first cap).run Tryz.prog w = .ok (.func fn first cap) w := fun _ _ _ _ => rfl
  have H : Hid _ := h
  have HB0 : Hid (Below w.heap.size w ((w.alloc (.cells zc 29)).alloc (.cells #[.int .i64 0] 24))) := ((Below.refl _ _).alloc (Nat.le_refl _) _).alloc (by simp) _
  have HK0 : Hid (Bk ((w.alloc (.cells zc 29)).alloc (.cells #[.int .i64 0] 24)) w.heap.size 29 zc) := (Bk.new _ _ _).alloc _
  have HE0 : Hid (Bk ((w.alloc (.cells zc 29)).alloc (.cells #[.int .i64 0] 24)) (w.heap.size + 1) 24 #[.int .i64 0]) := Bk.new1 _ _ _ _
  clear h
  go_enter_defers Tryz.func99, Tryz.ntmps99
  go_wp2_with fail
  refine Calls.mono H.out ?_
  rintro e w2 ⟨rfl, hb⟩
  have HK2 : Hid (Bk w2 w.heap.size 29 zc) := HK0.out.below hb (by omega)
  have HE2 : Hid (Bk w2 (w.heap.size + 1) 24 #[.int .i64 0]) := HE0.out.below hb (by omega)
  have HB2 : Hid (Below w.heap.size w w2) := HB0.out.trans (hb.mono (by omega))
  clear hb H
  refine leaves_cons (f := 117) (args := #[.pointer (some ⟨w.heap.size + 1, 0, none⟩)]) (by simp) (by simp [go_sem]) ?_
  refine (caughtP_no (w.heap.size + 1) k 0 _ (HE2.out.cell 0) (HE2.out.frozen 0)).mono ?_
  rintro e u' w'' ⟨rfl, rfl, rfl⟩
  have k1 := HK2.out.other (p := ⟨w.heap.size + 1, 0, none⟩) (by simp) (.int .i64 k)
  have k2 := HE2.out.set 0 (.int .i64 k)
  have ht : Tn [w.heap.size + 1] w2 _ := (Tn.refl _ w2).setCell (p := ⟨w.heap.size + 1, 0, none⟩) (.inl (by simp)) (.int .i64 k)
  refine ⟨_, results_pe (cs := [.bool false, .string ⟨#[]⟩, .string ⟨#[]⟩, .int .i64 0, .slice none 0 0]) rfl rfl rfl rfl k1 k2, ?_⟩
  exact ⟨rfl, HB2.out.trans (ht.below HB2.out.size (by simp))⟩

end Go.Proofs.YtoehlgigidgfpaaGreat
