/- The document's arena: what it tells; New. -/
import Derived.Test.YtfbmbjbokmomhaaArRb
namespace Go.Proofs.Ytfbmbjbokmomhaa
open Go.RowKit
set_option linter.unusedVariables false
set_option maxRecDepth 100000

/-- How many of the first slots are given. -/
def liveTo (us : List Sl) (j : Nat) : Nat := (List.range j).countP fun i => (slAt us i).given
theorem liveTo_zero (us : List Sl) : liveTo us 0 = 0 := rfl
theorem liveTo_succ (us : List Sl) (j : Nat) : liveTo us (j + 1) = liveTo us j + if (slAt us j).given = true then 1 else 0 := by
  unfold liveTo
  rw [List.range_succ, List.countP_append]
  cases h : (slAt us j).given <;> simp [h]
theorem liveTo_len (us : List Sl) : liveTo us us.length = live us := by
  unfold liveTo live
  have e : us = (List.range us.length).map (slAt us) := by
    apply List.ext_getElem
    · simp
    · intro i h1 h2
      simp [slAt, List.getD, h1]
  conv => rhs; rw [e]
  rw [List.countP_map]
  rfl
theorem liveTo_all {us : List Sl} {n : Nat} (h : us.length ≤ n) : liveTo us n = live us := by
  induction n with
  | zero =>
    have : us.length = 0 := by omega
    rw [← liveTo_len, this]
  | succ n ih =>
    rcases Nat.lt_or_ge us.length (n + 1) with h1 | h1
    · rw [liveTo_succ, ih (by omega), (slAt_out (by omega)).1]
      simp
    · have e : n + 1 = us.length := by omega
      rw [e]
      exact liveTo_len us
theorem liveTo_le (us : List Sl) (j : Nat) : liveTo us j ≤ j := by
  unfold liveTo
  refine Nat.le_trans List.countP_le_length ?_
  simp

section
variable {w w' : World} {R G N H : Nat} {a : Ar} {hs : List ByteArray}

theorem rslots_any {n : Nat} {q : Addr} (c0 : w.cell? ⟨R, 0, none⟩ = some (.slice (some q) n n)) : Calls Try.prog 37 #[.pointer (some ⟨R, 0, none⟩)] w fun e w' => e = .returned (.int .i64 (n : Int)) ∧ w' = w := by
  go_enter Try.func37, Try.ntmps37
  go_wp2
  go_ret
  exact ⟨rfl, rfl⟩
theorem rstale_any {x : Int} (c3 : w.cell? ⟨R, 3, none⟩ = some (.int .i64 x)) : Calls Try.prog 14 #[.pointer (some ⟨R, 0, none⟩)] w fun e w' => e = .returned (.int .i64 x) ∧ w' = w := by
  go_enter Try.func14, Try.ntmps14
  go_wp2
  go_ret
  exact ⟨rfl, rfl⟩

set_option maxHeartbeats 2000000 in
theorem rlive_any (h : IsRa w R G N H a hs) : Calls Try.prog 12 #[.pointer (some ⟨R, 0, none⟩)] w fun e w' => e = .returned (.int .i64 (live a.us : Int)) ∧ w' = w := by
  have HH : Hid (IsRa w R G N H a hs) := h
  have c0 := h.c0
  obtain ⟨n, hn⟩ : ∃ n, a.size = n := ⟨_, rfl⟩
  have HN : Hid (a.size = n) := hn
  rw [hn] at c0
  have hn6 : n ≤ 65536 := by rw [← hn]; exact h.s2
  clear h hn
  go_enter Try.func12, Try.ntmps12
  go_wp2_with fail
  go_loopw [3, 4] (fun m i wr => ∃ j k : Nat, j ≤ n ∧ k ≤ j ∧ i = .int .i64 (j : Int) ∧ m = .int .i64 (k : Int) ∧ wr = w ∧ Hid (liveTo a.us j = k)) (fun m i _ => n - (intOf i).toNat)
  case atStart => exact ⟨0, 0, by omega, by omega, rfl, rfl, rfl, rfl⟩
  case round =>
    obtain ⟨j, k, hj, hkj, rfl, rfl, rfl, HK⟩ := hrel
    by_cases hlt : j < n
    · have hli : (j : Int) < (n : Int) := by omega
      have hj0 : (0 : Int) ≤ (j : Int) := by omega
      have cg := HH.out.cg (i := j) (by rw [HN.out]; exact hlt)
      have hs := liveTo_succ a.us j
      rw [HK.out] at hs
      cases hgv : (slAt a.us j).given with
      | true =>
        rw [hgv] at cg hs
        have HS : Hid (liveTo a.us (j + 1) = k + 1) := hs
        clear hs hgv
        go_wp2
        go_roundw
        case rel => exact ⟨j + 1, k + 1, by omega, by omega, by go_num, by go_num, trivial, HS⟩
        case measure => simp [intOf]; omega
      | false =>
        rw [hgv] at cg hs
        have HS : Hid (liveTo a.us (j + 1) = k) := by
          show _ = _
          simpa using hs
        clear hs hgv
        go_wp2
        go_roundw
        case rel => exact ⟨j + 1, k, by omega, by omega, by go_num, rfl, trivial, HS⟩
        case measure => simp [intOf]; omega
    · have hli : ¬ (j : Int) < (n : Int) := by omega
      have HE : Hid (live a.us = k) := by
        obtain rfl : j = n := by omega
        rw [← HK.out, liveTo_all (by have := HH.out.le; rw [HN.out] at this; exact this)]
        rfl
      go_wp2
      go_ret
      exact ⟨by rw [HE.out]; rfl, rfl⟩

/-- What a slot has. -/
theorem results_at {fn : Func} {t u v : Tmp} (h : fn.results = #[.cell t 36, .tmp u, .tmp v]) {tmps : Array Value} {w : World} {b : Nat} (ht : tmps.getD t undef = .pointer (some ⟨b, 0, none⟩)) {s g : Int} (hk : Bk w b 36 #[.int .i64 s, .int .i64 g]) :
    (results fn tmps).run Try.prog w = .ok (.tuple #[.agg #[.int .i64 s, .int .i64 g], tmps.getD u undef, tmps.getD v undef]) w := by
  have c0 : w.cell? ⟨b, 0, none⟩ = some (.int .i64 s) := hk.cell 0
  have c1 : w.cell? ⟨b, 1, none⟩ = some (.int .i64 g) := hk.cell 1
  have hz : ∀ w : World, (loadVar 36 ⟨b, 0, none⟩).run Try.prog w = (do let x ← load ⟨b, 0, none⟩; let y ← load ⟨b, 1, none⟩; pure (.agg #[x, y]) : Sem Value).run Try.prog w := fun w => by kernel_rfl
  have hl : (loadVar 36 ⟨b, 0, none⟩).run Try.prog w = .ok (.agg #[.int .i64 s, .int .i64 g]) w := by
    rw [hz]
    simp [c0, c1]
  have ht' : tmps[t]?.getD undef = .pointer (some ⟨b, 0, none⟩) := by simpa using ht
  simp [results, h, ht', asAddr, hl]

set_option maxHeartbeats 4000000 in
theorem rat_any (h : IsRa w R G N H a hs) (i : Nat) (hi : i < a.size) : Calls Try.prog 52 #[.pointer (some ⟨R, 0, none⟩), .int .i64 (i : Int)] w fun e w' => e = .returned (.tuple #[.agg #[.int .i64 (i : Int), .int .i64 (slAt a.us i).gen], .string (tAt hs i), .bool (slAt a.us i).given]) ∧ Tn [] w w' := by
  obtain ⟨w0, hw0⟩ : ∃ w0, w.alloc (.cells #[.int .i64 0, .int .i64 0] 36) = w0 := ⟨_, rfl⟩
  have t0 : Tn [] w w0 := by rw [← hw0]; exact (Tn.refl _ _).alloc _
  have k0 : Bk w0 w.heap.size 36 #[.int .i64 0, .int .i64 0] := by rw [← hw0]; exact Bk.new _ _ _
  have h1 : IsRa w0 R G N H a hs := h.quiet t0
  have c0 := h1.c0
  have c1 := h1.c1
  have c2 := h1.c2
  have cg := h1.cg hi
  have cn := h1.cn hi
  have ch := h1.ch hi
  obtain ⟨n, hn⟩ : ∃ n, a.size = n := ⟨_, rfl⟩
  rw [hn] at c0 c1 c2 hi
  obtain ⟨B, hB⟩ : ∃ B, w.heap.size = B := ⟨_, rfl⟩
  rw [hB] at k0
  have p0 : w0.cell? ⟨B, 0, none⟩ = some (.int .i64 0) := k0.cell 0
  have p1 : w0.cell? ⟨B, 1, none⟩ = some (.int .i64 0) := k0.cell 1
  have z0 : w0.frozen? ⟨B, 0, none⟩ = false := k0.frozen 0
  have z1 : w0.frozen? ⟨B, 1, none⟩ = false := k0.frozen 1
  have hi0 : (0 : Int) ≤ (i : Int) := by omega
  have hii : (i : Int) < (n : Int) := by omega
  have hn6 : n ≤ 65536 := by rw [← hn]; exact h.s2
  have hL := h.lt
  have nR : R ≠ B := by have := hL R (by simp [ras]); omega
  have nG : G ≠ B := by have := hL G (by simp [ras]); omega
  have nN : N ≠ B := by have := hL N (by simp [ras]); omega
  have nH : H ≠ B := by have := hL H (by simp [ras]); omega
  have nR' := nR.symm
  have nG' := nG.symm
  have nN' := nN.symm
  have nH' := nH.symm
  clear hL
  obtain ⟨gg, hgg⟩ : ∃ gg, (slAt a.us i).gen = gg := ⟨_, rfl⟩
  obtain ⟨bb, hbb⟩ : ∃ bb, (slAt a.us i).given = bb := ⟨_, rfl⟩
  obtain ⟨tx, htx⟩ : ∃ tx, tAt hs i = tx := ⟨_, rfl⟩
  have HX : Hid ((slAt a.us i).gen = gg ∧ (slAt a.us i).given = bb ∧ tAt hs i = tx) := ⟨hgg, hbb, htx⟩
  rw [hgg] at cn
  rw [hbb] at cg
  rw [htx] at ch
  obtain ⟨w4, hw4⟩ : ∃ w4, w4 = ((w0.setCell ⟨B, 0, none⟩ (.int .i64 (i : Int))).setCell ⟨B, 1, none⟩ (.int .i64 gg)).drew := ⟨_, rfl⟩
  have HE : Hid (Bk w4 B 36 #[.int .i64 (i : Int), .int .i64 gg] ∧ Tn [] w w4) := by
    rw [hw4]
    exact ⟨((k0.set 0 (.int .i64 (i : Int))).set 1 (.int .i64 gg)).drew, ((t0.setCell (.inr (by show w.heap.size ≤ B; omega)) _).setCell (.inr (by show w.heap.size ≤ B; omega)) _).drew⟩
  clear h h1 t0 k0 hn hgg hbb htx
  go_enter Try.func52, Try.ntmps52
  go_wp2_with fail
  clear hB
  go_region
  go_wp2
  rw [← hw4]
  refine bodyPost_ret (results_at rfl rfl HE.out.1) rfl ?_
  obtain ⟨q1, q2, q3⟩ := HX.out
  exact ⟨by rw [q1, q2, q3]; rfl, HE.out.2⟩

theorem rnew_bad (w : World) (n : Int) (h : n < 1 ∨ 65536 < n) : Calls Try.prog 8 #[.int .i64 n] w fun e w' => e = .returned (.tuple #[.pointer none, .int .i64 1]) ∧ w' = w := by
  by_cases h1 : n < 1
  · clear h
    go_enter Try.func8, Try.ntmps8
    go_wp2
    go_ret2
    exact ⟨rfl, rfl⟩
  · have h2 := h.resolve_left h1
    clear h
    go_enter Try.func8, Try.ntmps8
    go_wp2
    go_ret2
    exact ⟨rfl, rfl⟩

theorem boolinfo : (Try.prog.info? 4).map (fun i => (i.zero, i.size, i.bytes)) = some (some (.bool false), 1, 1) := by kernel_rfl
theorem i64info : (Try.prog.info? 2).map (fun i => (i.zero, i.size, i.bytes)) = some (some (.int .i64 0), 1, 8) := by kernel_rfl

theorem made_one (v : Value) (n : Nat) : madeCells #[v] n = (List.replicate n v).toArray := by
  apply Array.ext'
  apply List.ext_getElem?
  intro k
  simp only [madeCells]
  by_cases hk : k < n
  · simp [hk, Nat.mod_one]
  · simp [hk]

theorem run_mkB (n : Nat) (hn : n ≤ 65536) (w : World) : (Instr.makeSlice 71 (.int .i64 (n : Int)) (.int .i64 (n : Int))).run Try.prog w = .ok (.slice (some ⟨w.heap.size, 0, none⟩) n n) (w.alloc (.cells (List.replicate n (.bool false)).toArray 4)) := by
  obtain ⟨i0, hi, hz0, hz1, hz2⟩ := info_parts boolinfo
  have := run_make (P := Try.prog) w 71 4 i0 (.bool false) Try.underlying71 hi hz0 .i64 .i64 (n : Int) (n : Int) (by omega) (by omega) (by rw [hz2]; omega) (by omega)
  rw [hz1] at this
  rw [← made_one]
  simpa [Value.cells] using this
theorem run_mkN (n : Nat) (hn : n ≤ 65536) (w : World) : (Instr.makeSlice 72 (.int .i64 (n : Int)) (.int .i64 (n : Int))).run Try.prog w = .ok (.slice (some ⟨w.heap.size, 0, none⟩) n n) (w.alloc (.cells (List.replicate n (.int .i64 0)).toArray 2)) := by
  obtain ⟨i0, hi, hz0, hz1, hz2⟩ := info_parts i64info
  have := run_make (P := Try.prog) w 72 2 i0 (.int .i64 0) Try.underlying72 hi hz0 .i64 .i64 (n : Int) (n : Int) (by omega) (by omega) (by rw [hz2]; omega) (by omega)
  rw [hz1] at this
  rw [← made_one]
  simpa [Value.cells] using this
theorem run_mkS (n : Nat) (hn : n ≤ 65536) (w : World) : (Instr.makeSlice 44 (.int .i64 (n : Int)) (.int .i64 (n : Int))).run Try.prog w = .ok (.slice (some ⟨w.heap.size, 0, none⟩) n n) (w.alloc (.cells (List.replicate n (.string ⟨#[]⟩)).toArray 9)) := by
  obtain ⟨i0, hi, hz0, hz1, hz2⟩ := info_parts strinfo
  have := run_make (P := Try.prog) w 44 9 i0 (.string ⟨#[]⟩) Try.underlying44 hi hz0 .i64 .i64 (n : Int) (n : Int) (by omega) (by omega) (by rw [hz2]; omega) (by omega)
  rw [hz1] at this
  rw [← made_one]
  simpa [Value.cells] using this

theorem gcs_fresh (n : Nat) : gcs (Ar.fresh n) = (List.replicate n (.bool false)).toArray := by
  simp only [gcs, Ar.fresh]
  congr 1
  apply List.ext_getElem?
  intro k
  by_cases hk : k < n <;> simp [hk, slAt]
theorem ncs_fresh (n : Nat) : ncs (Ar.fresh n) = (List.replicate n (.int .i64 0)).toArray := by
  simp only [ncs, Ar.fresh]
  congr 1
  apply List.ext_getElem?
  intro k
  by_cases hk : k < n <;> simp [hk, slAt]

theorem four (w : World) (o1 o2 o3 c4 : Array Value) (t1 t2 t3 t4 : TypeId) {W : World} (hW : W = (((w.alloc (.cells o1 t1)).alloc (.cells o2 t2)).alloc (.cells o3 t3)).alloc (.cells c4 t4)) :
    Bk W w.heap.size t1 o1 ∧ Bk W (w.heap.size + 1) t2 o2 ∧ Bk W (w.heap.size + 1 + 1) t3 o3 ∧ Bk W (w.heap.size + 1 + 1 + 1) t4 c4 ∧ Below w.heap.size w W := by
  subst hW
  have e1 : (w.alloc (.cells o1 t1)).heap.size = w.heap.size + 1 := by simp
  have e2 : ((w.alloc (.cells o1 t1)).alloc (.cells o2 t2)).heap.size = w.heap.size + 1 + 1 := by simp
  have e3 : (((w.alloc (.cells o1 t1)).alloc (.cells o2 t2)).alloc (.cells o3 t3)).heap.size = w.heap.size + 1 + 1 + 1 := by simp
  refine ⟨(((Bk.new w t1 o1).alloc _).alloc _).alloc _, ?_, ?_, ?_, (((((Below.refl _ w).alloc (Nat.le_refl _) _).alloc (by simp) _).alloc (by simp; omega) _).alloc (by simp; omega) _)⟩
  · rw [← e1]; exact ((Bk.new _ t2 o2).alloc _).alloc _
  · rw [← e2]; exact (Bk.new _ t3 o3).alloc _
  · rw [← e3]; exact Bk.new _ t4 c4

set_option maxHeartbeats 4000000 in
theorem rnew_any (w : World) (n : Nat) (h1 : 1 ≤ n) (h2 : n ≤ 65536) : Calls Try.prog 8 #[.int .i64 (n : Int)] w fun e w' => ∃ R G N H, e = .returned (.tuple #[.pointer (some ⟨R, 0, none⟩), .int .i64 0]) ∧ IsRa w' R G N H (Ar.fresh n) (List.replicate n ⟨#[]⟩) ∧ Below w.heap.size w w' ∧ ∀ x ∈ ras R G N H, w.heap.size ≤ x := by
  have mb := run_mkB n h2
  have mn := run_mkN n h2
  have ms := run_mkS n h2
  have g1 : ¬ (n : Int) < 1 := by omega
  have g2 : ¬ (65536 : Int) < (n : Int) := by omega
  have HE : Hid (∀ W R G N H, Bk W R 74 #[.slice (some ⟨G, 0, none⟩) n n, .slice (some ⟨N, 0, none⟩) n n, .slice (some ⟨H, 0, none⟩) n n, .int .i64 0] → Bk W G 4 (List.replicate n (.bool false)).toArray → Bk W N 2 (List.replicate n (.int .i64 0)).toArray → Bk W H 9 (List.replicate n (.string ⟨#[]⟩)).toArray → IsRa W R G N H (Ar.fresh n) (List.replicate n ⟨#[]⟩)) := by
    intro W R G N H k1 k2 k3 k4
    refine ⟨k1, by rw [gcs_fresh]; exact k2, by rw [ncs_fresh]; exact k3, ?_, by simp [Ar.fresh], by simp [Ar.fresh], h2, fun i hi => ?_⟩
    · have : hcs (List.replicate n ⟨#[]⟩) = (List.replicate n (.string ⟨#[]⟩)).toArray := by simp [hcs]
      rw [this]
      exact k4
    · simp [Ar.fresh, slAt] at hi
  clear h1 h2
  generalize (List.replicate n (Value.bool false)).toArray = ob at *
  generalize (List.replicate n (Value.int .i64 0)).toArray = on at *
  generalize (List.replicate n (Value.string ⟨#[]⟩)).toArray = os at *
  go_enter Try.func8, Try.ntmps8
  go_wp2_with fail
  go_region
  all_goals
    go_wp2
    go_ret2
    refine ⟨w.heap.size + 1 + 1 + 1, _, _, _, rfl, HE.out _ _ _ _ _ (four w.drew _ _ _ _ _ _ _ _ rfl).2.2.2.1 ?_ ?_ ?_, (Below.refl _ w).drew.trans (four w.drew _ _ _ _ _ _ _ _ rfl).2.2.2.2, ?_⟩
    all_goals first
      | exact (four w.drew _ _ _ _ _ _ _ _ rfl).1
      | exact (four w.drew _ _ _ _ _ _ _ _ rfl).2.1
      | exact (four w.drew _ _ _ _ _ _ _ _ rfl).2.2.1
      | (intro x hx; simp [ras] at hx; omega)
end
end Go.Proofs.Ytfbmbjbokmomhaa
