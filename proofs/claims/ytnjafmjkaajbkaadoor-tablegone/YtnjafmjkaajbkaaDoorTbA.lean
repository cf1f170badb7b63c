/- Tables: what they are asked. -/
import Derived.Test.YtnjafmjkaajbkaaDoorTbM
namespace Go.Proofs.YtnjafmjkaajbkaaDoor
open Go.RowKit
set_option linter.unusedVariables false
set_option maxRecDepth 100000

/-- The page of a number: free, if it was never given or is none. -/
def pgAt (us : List Pa) (p : Int) : Pa := if p < 0 then .free else us.getD p.toNat .free
theorem pgAt_nat (us : List Pa) (i : Nat) : pgAt us (i : Int) = us.getD i .free := by simp [pgAt]; omega
theorem pgAt_some {us : List Pa} {i : Nat} {x : Pa} (h : us[i]? = some x) : pgAt us (i : Int) = x := by rw [pgAt_nat]; simp [List.getD, h]
theorem pgAt_neg {us : List Pa} {p : Int} (h : p < 0) : pgAt us p = .free := by simp [pgAt, h]
theorem pgAt_far {us : List Pa} {p : Int} (h : (us.length : Int) ≤ p) : pgAt us p = .free := by
  unfold pgAt
  split
  · rfl
  · rw [List.getD_eq_getElem?_getD, List.getElem?_eq_none (by omega)]
    rfl
/-- A page that is not free was given. -/
theorem pgAt_in {us : List Pa} {p : Int} (h : pgAt us p ≠ .free) : ∃ i : Nat, p = (i : Int) ∧ us[i]? = some (pgAt us p) := by
  by_cases h0 : p < 0
  · exact absurd (pgAt_neg h0) h
  by_cases h1 : (us.length : Int) ≤ p
  · exact absurd (pgAt_far h1) h
  · obtain ⟨i, rfl⟩ : ∃ i : Nat, p = (i : Int) := ⟨p.toNat, by omega⟩
    have hl : i < us.length := by omega
    refine ⟨i, rfl, ?_⟩
    rw [pgAt_nat]
    simp [List.getD, hl]

section
variable {w : World} {B : Nat} {uv wv : Value} {size : Int} {us : List Pa} {ws : List Nat} {many gone missed : Int}

theorem tmade_any (c0 : w.cell? ⟨B, 0, none⟩ = some (.int .i64 size)) (hs : 0 < size) : Calls Tryd.prog 30 #[.pointer (some ⟨B, 0, none⟩)] w fun e w' => e = .returned (.bool true) ∧ w' = w := by
  go_enter Tryd.func30, Tryd.ntmps30
  go_wp2
  go_ret
  exact ⟨rfl, rfl⟩

theorem state_any (h : Rw w B uv wv size us ws many gone missed) (hs : 0 < size) (p : Int) : Calls Tryd.prog 21 #[.pointer (some ⟨B, 0, none⟩), .int .i64 p] w fun e w' => e = .returned (.int .i64 (pgAt us p).st) ∧ w' = w := by
  obtain ⟨c0, c1, -⟩ := h.cells
  by_cases h0 : p < 0
  · rw [pgAt_neg h0]
    clear h c1
    go_enter Tryd.func21, Tryd.ntmps21
    go_wp2_with fail
    refine (tmade_any c0 hs).mono ?_
    rintro e w1 ⟨rfl, rfl⟩
    go_wp2
    go_ret
    exact ⟨rfl, rfl⟩
  by_cases h1 : (us.length : Int) ≤ p
  · rw [pgAt_far h1]
    obtain ⟨q, c, rfl, -⟩ := row_form h.row
    clear h
    generalize us.length = n at *
    have h2 : (n : Int) ≤ p := h1
    go_enter Tryd.func21, Tryd.ntmps21
    go_wp2_with fail
    refine (tmade_any c0 hs).mono ?_
    rintro e w1 ⟨rfl, rfl⟩
    go_wp2
    go_ret
    exact ⟨rfl, rfl⟩
  · obtain ⟨i, rfl⟩ : ∃ i : Nat, p = (i : Int) := ⟨p.toNat, by omega⟩
    have hl : i < us.length := by omega
    have hi : us[i]? = some us[i] := List.getElem?_eq_getElem hl
    rw [pgAt_some hi]
    obtain ⟨g, c, rfl, hcap, e0, -⟩ := h.entry hi
    clear h hi
    generalize us[i].st = x at *
    generalize us.length = n at *
    have h2 : (i : Int) < (n : Int) := by omega
    have h3 : (0 : Int) ≤ (i : Int) := by omega
    clear h1 hcap
    go_enter Tryd.func21, Tryd.ntmps21
    go_wp2_with fail
    refine (tmade_any c0 hs).mono ?_
    rintro e w1 ⟨rfl, rfl⟩
    go_wp2
    go_ret
    exact ⟨rfl, rfl⟩

theorem check_ok (h : Rw w B uv wv size us ws many gone missed) (hs : 0 < size) (p s : Int) (hp : (pgAt us p).st = s) : Calls Tryd.prog 39 #[.pointer (some ⟨B, 0, none⟩), .int .i64 p, .int .i64 s] w fun e w' => e = .returned (.int .i64 0) ∧ w' = w := by
  subst hp
  have c0 := h.cells.1
  have H : Hid _ := h
  clear h
  go_enter Tryd.func39, Tryd.ntmps39
  go_wp2_with fail
  refine (tmade_any c0 hs).mono ?_
  rintro e w1 ⟨rfl, rfl⟩
  go_wp2_with fail
  refine (state_any H.out hs p).mono ?_
  rintro e w1 ⟨rfl, rfl⟩
  go_wp2
  go_ret
  exact ⟨rfl, rfl⟩

theorem check_none (h : Rw w B uv wv size us ws many gone missed) (hs : 0 < size) (p s : Int) (hp : (pgAt us p).st ≠ s) : Calls Tryd.prog 39 #[.pointer (some ⟨B, 0, none⟩), .int .i64 p, .int .i64 s] w fun e w' => e = .returned (.int .i64 4) ∧ w' = w := by
  have c0 := h.cells.1
  have H : Hid _ := h
  clear h
  go_enter Tryd.func39, Tryd.ntmps39
  go_wp2_with fail
  refine (tmade_any c0 hs).mono ?_
  rintro e w1 ⟨rfl, rfl⟩
  go_wp2_with fail
  refine (state_any H.out hs p).mono ?_
  rintro e w1 ⟨rfl, rfl⟩
  generalize (pgAt us p).st = x at *
  have hb : ¬ x = s := hp
  go_wp2
  go_ret
  exact ⟨rfl, rfl⟩

theorem live_any (h : Rw w B uv wv size us ws many gone missed) (hs : 0 < size) (hn : us.length ≤ 65536) (hm : 0 ≤ many ∧ many ≤ 65536) (hg : 0 ≤ gone ∧ gone ≤ 65536) : Calls Tryd.prog 19 #[.pointer (some ⟨B, 0, none⟩)] w fun e w' => e = .returned (.int .i64 ((us.length : Int) - many - gone)) ∧ ∃ k, w' = w.drewN k := by
  obtain ⟨c0, c1, c2, c3, c4, c5⟩ := h.cells
  obtain ⟨q, c, rfl, -⟩ := row_form h.row
  clear h
  obtain ⟨m1, m2⟩ := hm
  obtain ⟨g1, g2⟩ := hg
  generalize us.length = n at *
  have n2 : (n : Int) ≤ 65536 := by omega
  have n1 : (0 : Int) ≤ (n : Int) := by omega
  go_enter Tryd.func19, Tryd.ntmps19
  go_wp2_with fail
  refine (tmade_any c0 hs).mono ?_
  rintro e w1 ⟨rfl, rfl⟩
  go_wp2_with fail
  go_quiet (fail)
  go_wp2
  go_ret
  exact ⟨rfl, _, rfl⟩

theorem gone_any (c0 : w.cell? ⟨B, 0, none⟩ = some (.int .i64 size)) (c4 : w.cell? ⟨B, 4, none⟩ = some (.int .i64 gone)) (hs : 0 < size) : Calls Tryd.prog 20 #[.pointer (some ⟨B, 0, none⟩)] w fun e w' => e = .returned (.int .i64 gone) ∧ w' = w := by
  go_enter Tryd.func20, Tryd.ntmps20
  go_wp2_with fail
  refine (tmade_any c0 hs).mono ?_
  rintro e w1 ⟨rfl, rfl⟩
  go_wp2
  go_ret
  exact ⟨rfl, rfl⟩

theorem pages_any (c0 : w.cell? ⟨B, 0, none⟩ = some (.int .i64 size)) (hs : 0 < size) : Calls Tryd.prog 22 #[.pointer (some ⟨B, 0, none⟩)] w fun e w' => e = .returned (.int .i64 size) ∧ w' = w := by
  go_enter Tryd.func22, Tryd.ntmps22
  go_wp2_with fail
  refine (tmade_any c0 hs).mono ?_
  rintro e w1 ⟨rfl, rfl⟩
  go_wp2
  go_ret
  exact ⟨rfl, rfl⟩

theorem aload_any {o : Nat} {x : Int} (hc : w.cell? ⟨B, o, none⟩ = some (.int .i64 x)) :
    Calls Tryd.prog 31 #[.pointer (some ⟨B, o, none⟩)] w fun e w' => e = .returned (.int .i64 x) ∧ w' = w := by
  have hl := run_call_load (P := Tryd.prog) Tryd.func48 (by kernel_rfl) (by kernel_rfl) (by kernel_rfl) .i64 (by kernel_rfl) hc
  go_enter Tryd.func31, Tryd.ntmps31
  go_wp2
  go_ret
  exact ⟨rfl, rfl⟩

theorem astore_any {o : Nat} {x y : Int} (hc : w.cell? ⟨B, o, none⟩ = some (.int .i64 x)) (hf : w.frozen? ⟨B, o, none⟩ = false) :
    Calls Tryd.prog 47 #[.pointer (some ⟨B, o, none⟩), .int .i64 y] w fun e w' => e = .returned (.tuple #[]) ∧ w' = w.setCell ⟨B, o, none⟩ (.int .i64 y) := by
  have hs := run_call_store (P := Tryd.prog) Tryd.func57 (by kernel_rfl) (by kernel_rfl) (by kernel_rfl) (by kernel_rfl) (k := .i64) (y := y) hc hf
  go_enter Tryd.func47, Tryd.ntmps47
  go_wp2
  go_end0
  exact ⟨rfl, rfl⟩

theorem aadd_any {o : Nat} {x : Int} (hc : w.cell? ⟨B, o, none⟩ = some (.int .i64 x)) (hf : w.frozen? ⟨B, o, none⟩ = false) :
    Calls Tryd.prog 41 #[.pointer (some ⟨B, o, none⟩), .int .i64 1] w fun e w' => e = .returned (.int .i64 (wrap64 (x + 1))) ∧ w' = w.setCell ⟨B, o, none⟩ (.int .i64 (wrap64 (x + 1))) := by
  have hadd := run_call_add (P := Tryd.prog) Tryd.func55 (by kernel_rfl) (by kernel_rfl) (by kernel_rfl) .i64 (by kernel_rfl) (y := 1) (s := wrap64 (x + 1)) hc hf (by simp [go_sem]; rw [IntKind.wrap_i64]; unfold wrap64; omega)
  go_enter Tryd.func41, Tryd.ntmps41
  go_wp2
  go_ret
  exact ⟨rfl, rfl⟩

theorem missed_any (c0 : w.cell? ⟨B, 0, none⟩ = some (.int .i64 size)) (c5 : w.cell? ⟨B, 5, none⟩ = some (.int .i64 missed)) (hs : 0 < size) : Calls Tryd.prog 11 #[.pointer (some ⟨B, 0, none⟩)] w fun e w' => e = .returned (.int .i64 missed) ∧ w' = w := by
  go_enter Tryd.func11, Tryd.ntmps11
  go_wp2_with fail
  refine (tmade_any c0 hs).mono ?_
  rintro e w1 ⟨rfl, rfl⟩
  go_wp2_with fail
  refine (aload_any c5).mono ?_
  rintro e w1 ⟨rfl, rfl⟩
  go_wp2
  go_ret
  exact ⟨rfl, rfl⟩

theorem load_none (h : Rw w B uv wv size us ws many gone missed) (hs : 0 < size) (p : Int) (hp : (pgAt us p).st ≠ 1) : Calls Tryd.prog 18 #[.pointer (some ⟨B, 0, none⟩), .int .i64 p] w fun e w' => e = .returned (.tuple #[hv (0, 0), .int .i64 4]) ∧ Below w.heap.size w w' := by
  have H : Hid _ := h.below ((Below.refl _ w).alloc (Nat.le_refl _) (.cells #[.int .i64 0, .int .i64 0] 32))
  clear h
  go_enter Tryd.func18, Tryd.ntmps18
  go_wp2_with fail
  refine (check_none H.out hs p 1 hp).mono ?_
  rintro e w1 ⟨rfl, rfl⟩
  go_wp2
  try simp only [Exit.inBlock, Exit.then]
  refine bodyPost_ret (results_hnd rfl rfl (by exact Bk.new w _ _)) rfl ?_
  exact ⟨rfl, (Below.refl _ w).alloc (Nat.le_refl _) _⟩

theorem load_live (h : Rw w B uv wv size us ws many gone missed) (hs : 0 < size) {i c : Nat} {x : Int × Int} {n : Int} (hi : us[i]? = some (Pa.live c x n)) : Calls Tryd.prog 18 #[.pointer (some ⟨B, 0, none⟩), .int .i64 (i : Int)] w fun e w' => e = .returned (.tuple #[hv x, .int .i64 0]) ∧ Below w.heap.size w w' := by
  obtain ⟨w0, hw0⟩ : ∃ w0, w.alloc (.cells #[.int .i64 0, .int .i64 0] 32) = w0 := ⟨_, rfl⟩
  have hb0 : Below w.heap.size w w0 := by rw [← hw0]; exact (Below.refl _ w).alloc (Nat.le_refl _) _
  have hk0 : Bk w0 w.heap.size 32 #[.int .i64 0, .int .i64 0] := by rw [← hw0]; exact Bk.new _ _ _
  have h0 := h.below hb0
  have HH : Hid _ := h0
  obtain ⟨c0, c1, -⟩ := h0.cells
  have hlt : i < us.length := (List.getElem?_eq_some_iff.1 hi).1
  obtain ⟨g, cap, rfl, -, -, e1, -⟩ := h0.entry hi
  have HI : Hid ((pgAt us (i : Int)).st = 1) := by show _ = _; rw [pgAt_some hi]; rfl
  have HC : Hid (Ce w0 c x n) := h0.cel i c x n hi
  have HB : Hid (Below w.heap.size w w0 ∧ Bk w0 w.heap.size 32 #[.int .i64 0, .int .i64 0]) := ⟨hb0, hk0⟩
  have e1' : w0.cell? ⟨g, i * 2 + 1, none⟩ = some (.pointer (some ⟨c, 0, none⟩)) := e1
  clear h h0 hb0 hk0 e1 hi
  obtain ⟨ul, hul⟩ : ∃ ul, us.length = ul := ⟨_, rfl⟩
  rw [hul] at c1 hlt HH
  have h2 : (i : Int) < (ul : Int) := by omega
  have h3 : (0 : Int) ≤ (i : Int) := by omega
  clear hul
  go_enter Tryd.func18, Tryd.ntmps18
  go_wp2_with fail
  refine (check_ok HH.out hs _ 1 HI.out).mono ?_
  rintro e w1 ⟨rfl, rfl⟩
  go_wp2_with fail
  refine (cload_any HC.out).mono ?_
  rintro e w2 ⟨rfl, hb2⟩
  obtain ⟨w3, hw3⟩ : ∃ w3, w2.alloc (.cells #[.int .i64 x.1, .int .i64 x.2] 32) = w3 := ⟨_, rfl⟩
  have hk3 : Bk w3 w2.heap.size 32 #[.int .i64 x.1, .int .i64 x.2] := by rw [← hw3]; exact Bk.new _ _ _
  have hr3 : Bk w3 w.heap.size 32 #[.int .i64 0, .int .i64 0] := by rw [← hw3]; exact (HB.out.2.below hb2 HB.out.2.lt).alloc _
  have hB3 : Below w.heap.size w w3 := by rw [← hw3]; exact (HB.out.1.trans (hb2.mono HB.out.1.size)).alloc (by have := HB.out.1.size; have := hb2.size; omega) _
  have k0 : w3.cell? ⟨w2.heap.size, 0, none⟩ = some (.int .i64 x.1) := hk3.cell 0
  have k1 : w3.cell? ⟨w2.heap.size, 1, none⟩ = some (.int .i64 x.2) := hk3.cell 1
  have r0 : w3.cell? ⟨w.heap.size, 0, none⟩ = some (.int .i64 0) := hr3.cell 0
  have r1 : w3.cell? ⟨w.heap.size, 1, none⟩ = some (.int .i64 0) := hr3.cell 1
  have f0 := hr3.frozen 0
  have f1 := hr3.frozen 1
  have HR : Hid (Bk w3 w.heap.size 32 #[.int .i64 0, .int .i64 0] ∧ Below w.heap.size w w3) := ⟨hr3, hB3⟩
  clear hk3 hr3 hB3 hb2 HB HC
  go_wp2
  try simp only [Exit.inBlock, Exit.then]
  refine bodyPost_ret (results_hnd rfl rfl (by exact (HR.out.1.set 0 (.int .i64 x.1)).set 1 (.int .i64 x.2))) rfl ?_
  exact ⟨rfl, (HR.out.2.setCell (Nat.le_refl _) _).setCell (Nat.le_refl _) _⟩
end
end Go.Proofs.YtnjafmjkaajbkaaDoor
