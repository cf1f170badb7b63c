/- An operation with both: those that have finished, drops. -/
import Derived.Test.YtnjokhdedgdjjaaSdD2
namespace Go.Proofs.Ytnjokhdedgdjjaa
open Go.RowKit Go.Maps
set_option linter.unusedVariables false
set_option maxRecDepth 100000

section
variable {w0 w w' : World} {N C : Nat} {g g' : Ge} {r r' : Gr} {s s' t t' : Sc}

set_option maxHeartbeats 1000000 in
theorem step4 (h : Dq w0 w N C g r s) (hd : s.done.length ≤ 9000000000000) (hN : 10000000000000 < N) (n : Int) (hn : (Lit.int .i64 n).wf = true) : Calls Try.prog 10 #[.pointer (some ⟨g.S, 0, none⟩), .pointer (some ⟨r.R, 0, none⟩), .agg #[.int .i64 4, .int .i64 n], .pointer (some ⟨C, 0, none⟩)] w (To w0 w N C g r s) := by
  have HH : Hid (Dq w0 w N C g r s) := h
  have HB : Hid (Dq w0 (w.alloc (.cells #[.int .i64 4, .int .i64 n] 32)) N C g r s) := h.box _
  have k1 : (w.alloc (.cells #[.int .i64 4, .int .i64 n] 32)).cell? ⟨w.heap.size, 1, none⟩ = some (.int .i64 n) := (Bk.new _ _ _).cell 1
  have HL : Hid (s.fl.length ≤ 4096 ∧ s.box.length ≤ 4096 ∧ s.done.length ≤ 4611686018427387904 ∧ s.done.length ≤ 9000000000000 ∧ 10000000000000 < N) := ⟨h.fll.1, h.fll.2, by omega, hd, hN⟩
  have HW : Hid ((Lit.int .i64 n).wf = true ∧ -9223372036854775808 ≤ n ∧ n ≤ 9223372036854775807) := ⟨hn, bounds_i64 hn⟩
  have HG : Hid s.Good := h.good
  clear h hd hN hn
  cases hb : s.box with
  | nil =>
    have HF : Hid (s.box = []) := hb
    clear hb
    go_enter Try.func10, Try.ntmps10
    go_wp2_with fail
    refine (finished_none HB.out.dh.sd HF.out).mono ?_
    rintro e w1 ⟨rfl, rfl⟩
    go_wp2_with fail
    refine (rfinished_none HB.out.dh.rs HF.out).mono ?_
    rintro e w2 ⟨rfl, rfl⟩
    go_wp2
    go_ret
    exact ⟨rfl, g, r, s, HB.out, rfl, rfl, by omega, Kp2.alloc _ _ _ _ _⟩
  | cons m l =>
    have HC : Hid _ := finished_any HB.out.dh.sd hb
    have HF : Hid (s.box = m :: l) := hb
    clear hb
    go_enter Try.func10, Try.ntmps10
    go_wp2_with fail
    refine Calls.mono HC.out ?_
    rintro e w1 ⟨rfl, g1, h1, t1⟩
    have k2 : w1.cell? ⟨w.heap.size, 1, none⟩ = some (.int .i64 n) := HH.out.opc t1 1
    have HD : Hid (Dh w0 w1 N g1 r { s with box := l } s) := HB.out.dh.code h1 t1
    have HA : Hid (g1.ca = g.ca ∧ g1.S = g.S ∧ ∀ {w2 r2}, RT w1 w2 r r2 → Kp2 w w2 g r s) := ⟨t1.same.2.2.2.2, t1.same.1, fun h => Kp2.both t1.tn h.tn⟩
    have HR : Hid (Calls Try.prog 31 #[.pointer (some ⟨r.R, 0, none⟩)] w1 fun e w' => e = .returned (.tuple #[.int .i64 (m : Int), .bool true]) ∧ ∃ r', Rs w' r' { s with box := l } ∧ RT w1 w' r r') := rfinished_any HD.out.rs HF.out
    clear h1 t1 k1 HC
    go_wp2_with fail
    refine Calls.mono HR.out ?_
    rintro e w2 ⟨rfl, r2, h2, t2⟩
    have HE : Hid (To w0 w N C g r s (.returned (.bool true)) w2) := ⟨rfl, g1, r2, { s with box := l }, ⟨HD.out.ref h2 t2, HG.out.rest, HG.out.small, HA.out.1.trans HH.out.ca, HH.out.one⟩, HA.out.2.1, t2.same, by show s.done.length ≤ _; omega, HA.out.2.2 t2⟩
    clear h2 t2 HR HD HA
    go_wp2
    go_ret
    exact HE.out

set_option maxHeartbeats 1000000 in
theorem step5 (h : Dq w0 w N C g r s) (hd : s.done.length ≤ 9000000000000) (hN : 10000000000000 < N) (n : Int) (hn : (Lit.int .i64 n).wf = true) : Calls Try.prog 10 #[.pointer (some ⟨g.S, 0, none⟩), .pointer (some ⟨r.R, 0, none⟩), .agg #[.int .i64 5, .int .i64 n], .pointer (some ⟨C, 0, none⟩)] w (To w0 w N C g r s) := by
  have HH : Hid (Dq w0 w N C g r s) := h
  have HB : Hid (Dq w0 (w.alloc (.cells #[.int .i64 5, .int .i64 n] 32)) N C g r s) := h.box _
  have k1 : (w.alloc (.cells #[.int .i64 5, .int .i64 n] 32)).cell? ⟨w.heap.size, 1, none⟩ = some (.int .i64 n) := (Bk.new _ _ _).cell 1
  have HL : Hid (s.fl.length ≤ 4096 ∧ s.box.length ≤ 4096 ∧ s.done.length ≤ 4611686018427387904 ∧ s.done.length ≤ 9000000000000 ∧ 10000000000000 < N) := ⟨h.fll.1, h.fll.2, by omega, hd, hN⟩
  have HW : Hid ((Lit.int .i64 n).wf = true ∧ -9223372036854775808 ≤ n ∧ n ≤ 9223372036854775807) := ⟨hn, bounds_i64 hn⟩
  have HG : Hid s.Good := h.good
  clear h hd hN hn
  have HS1 : Hid (∀ {w2 : World} {g' : Ge} {s' : Sc}, Aft (w.alloc (.cells #[.int .i64 5, .int .i64 n] 32)) w2 g g' s s' → w2.cell? ⟨w.heap.size, 1, none⟩ = some (.int .i64 n)) := fun ha => HH.out.opc ha 1
  have HB' : Hid (Dq w0 ((w.alloc (.cells #[.int .i64 5, .int .i64 n] 32)).drewN 1) N C g r s) := HB.out.drew 1
  cases hf : fat s.fl n with
  | none =>
    have HF : Hid (fat s.fl n = none) := hf
    clear hf
    go_enter Try.func10, Try.ntmps10
    go_wp2_with fail
    go_region_held3 (fun w' => w'.cell? ⟨w.heap.size, 1, none⟩ = some (.int .i64 n)) (go_keep) (first
      | (go_at_call 21; refine (drop_no HB'.out.dh.sd n HW.out.1 HF.out).mono ?_; rintro e w1 ⟨rfl, rfl⟩)
      | (go_at_call 32; refine (rdrop_no HB'.out.dh.rs HF.out HL.out.1).mono ?_; rintro e w1 ⟨rfl, rfl⟩))
    go_wp2
    go_ret
    exact ⟨rfl, g, r, s, HB'.out, rfl, rfl, by omega, Kp2.alloc w g r s (.cells #[.int .i64 5, .int .i64 n] 32)⟩
  | some f =>
    obtain ⟨hfm, hfn⟩ := fat_mem hf
    have HF : Hid (f ∈ s.fl ∧ (f.num : Int) = n) := ⟨hfm, hfn⟩
    clear hf hfm hfn
    have HC : Hid (Calls Try.prog 21 #[.pointer (some ⟨g.S, 0, none⟩), .int .i64 n] ((w.alloc (.cells #[.int .i64 5, .int .i64 n] 32)).drewN 1) fun e w' => e = .returned (.int .i64 0) ∧ ∃ g', Dh w0 w' N g' r (s.dropped f.num) s ∧ g'.ca = g.ca ∧ g'.S = g.S ∧ w'.cell? ⟨w.heap.size, 1, none⟩ = some (.int .i64 n) ∧ Tn (ft g s) (w.alloc (.cells #[.int .i64 5, .int .i64 n] 32)) w') := by
      have := drop_any HB'.out.dh.sd HG.out.rest HF.out.1 (n := f.num) rfl
      rw [HF.out.2] at this
      refine this.mono ?_
      rintro e w1 ⟨rfl, g1, h1, t1⟩
      refine ⟨rfl, g1, HB'.out.dh.code h1 t1, t1.same.2.2.2.2, t1.same.1, ?_, ⟨t1.tn.os, t1.tn.tape, t1.tn.output, t1.tn.size, t1.tn.block⟩⟩
      exact ((show Bk ((w.alloc (.cells #[.int .i64 5, .int .i64 n] 32)).drewN 1) w.heap.size 32 #[.int .i64 5, .int .i64 n] from Bk.new w 32 #[.int .i64 5, .int .i64 n]).tn t1.tn (fun hm => by have := HH.out.dh.sd.lts.1 _ hm; omega)).cell 1
    have HR : Hid (∀ w1 g1, Dh w0 w1 N g1 r (s.dropped f.num) s → w1.cell? ⟨w.heap.size, 1, none⟩ = some (.int .i64 n) → g1.ca = g.ca → g1.S = g.S → Tn (ft g s) (w.alloc (.cells #[.int .i64 5, .int .i64 n] 32)) w1 → Calls Try.prog 32 #[.pointer (some ⟨r.R, 0, none⟩), .int .i64 n] w1 fun e w' => e = .returned (.int .i64 0) ∧ To w0 w N C g r s (.returned (.bool true)) w' ∧ w'.cell? ⟨w.heap.size, 1, none⟩ = some (.int .i64 n)) := by
      intro w1 g1 hD hc hca hS hT1
      have := rdrop_any hD.rs HG.out.rs HF.out.1 HL.out.1 (n := f.num) rfl
      rw [HF.out.2] at this
      refine this.mono ?_
      rintro e w2 ⟨rfl, r2, h2, t2⟩
      refine ⟨rfl, ⟨rfl, g1, r2, s.dropped f.num, ⟨hD.ref h2 t2, rfl, fun x hx => HG.out.small x (List.mem_filter.1 hx).1, hca.trans HH.out.ca, fun x hx => HH.out.one.1 x (List.mem_filter.1 hx).1, HH.out.one.2⟩, hS, t2.same, by show s.done.length ≤ _; omega, Kp2.both hT1 t2.tn⟩, ?_⟩
      have hlt : w.heap.size < w1.heap.size := by
        have h1 := hc
        simp only [World.cell?] at h1
        cases h2 : w1.heap[w.heap.size]? with
        | none => rw [h2] at h1; cases h1
        | some o => exact (Array.getElem?_eq_some_iff.1 h2).1
      have hne : w.heap.size ∉ rt r := fun hm => by have := HH.out.dh.rs.lt _ hm; omega
      exact (World.cell?_of_block (a := ⟨w.heap.size, 1, none⟩) (t2.tn.block _ hlt hne)).trans hc
    go_enter Try.func10, Try.ntmps10
    go_wp2_with fail
    go_region_held3 (fun w' => w'.cell? ⟨w.heap.size, 1, none⟩ = some (.int .i64 n)) (go_keep) (first
      | (go_at_call 21; refine Calls.mono HC.out ?_; rintro e w1 ⟨rfl, g1, hD, hca, hS, s1, hT1⟩)
      | (go_at_call 32; refine Calls.mono (HR.out _ _ hD s1 hca hS hT1) ?_; rintro e w2 ⟨rfl, hTo, s1⟩))
    have HE : Hid (To w0 w N C g r s (.returned (.bool true)) w2) := hTo
    clear hTo hD hT1
    go_wp2
    go_ret
    exact HE.out


end
end Go.Proofs.Ytnjokhdedgdjjaa
