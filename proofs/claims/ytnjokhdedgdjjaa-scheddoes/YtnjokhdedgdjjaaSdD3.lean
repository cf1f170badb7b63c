/- An operation with both: runs. -/
import Derived.Test.YtnjokhdedgdjjaaSdD2
namespace Go.Proofs.Ytnjokhdedgdjjaa
open Go.RowKit Go.Maps
set_option linter.unusedVariables false
set_option maxRecDepth 100000

section
variable {w0 w w' : World} {N C : Nat} {g g' : Ge} {r r' : Gr} {s s' t t' : Sc}

set_option maxHeartbeats 1000000 in
theorem step3 (h : Dq w0 w N C g r s) (hd : s.done.length ≤ 9000000000000) (hN : 10000000000000 < N) (n : Int) (hn : (Lit.int .i64 n).wf = true) : Calls Try.prog 10 #[.pointer (some ⟨g.S, 0, none⟩), .pointer (some ⟨r.R, 0, none⟩), .agg #[.int .i64 3, .int .i64 n], .pointer (some ⟨C, 0, none⟩)] w (To w0 w N C g r s) := by
  have HH : Hid (Dq w0 w N C g r s) := h
  have HB : Hid (Dq w0 (w.alloc (.cells #[.int .i64 3, .int .i64 n] 32)) N C g r s) := h.box _
  have k1 : (w.alloc (.cells #[.int .i64 3, .int .i64 n] 32)).cell? ⟨w.heap.size, 1, none⟩ = some (.int .i64 n) := (Bk.new _ _ _).cell 1
  have HL : Hid (s.fl.length ≤ 4096 ∧ s.box.length ≤ 4096 ∧ s.done.length ≤ 4611686018427387904 ∧ s.done.length ≤ 9000000000000 ∧ 10000000000000 < N) := ⟨h.fll.1, h.fll.2, by omega, hd, hN⟩
  have HW : Hid ((Lit.int .i64 n).wf = true ∧ -9223372036854775808 ≤ n ∧ n ≤ 9223372036854775807) := ⟨hn, bounds_i64 hn⟩
  have HG : Hid s.Good := h.good
  clear h hd hN hn
  obtain ⟨m, hmm⟩ : ∃ m : Int, min n 200 = m := ⟨_, rfl⟩
  have HM : Hid (-9223372036854775808 ≤ m ∧ m ≤ 4611686018427387904) := by
    have := HW.out.2
    exact ⟨by omega, by omega⟩
  obtain ⟨d, s', hR⟩ := runs_total m.toNat s HG.out.rest
  have HR0 : Hid (Runs m.toNat s d s') := hR
  have HP : Hid (s'.rest ∧ s'.small ∧ s'.one ⟨C, 0, none⟩ ∧ s'.done.length = s.done.length) := runs_keep (P := fun x => x.rest ∧ x.small ∧ x.one ⟨C, 0, none⟩ ∧ x.done.length = s.done.length) (fun x k hx => ⟨round_rest _ _, round_small hx.2.1 _, one_round hx.2.2.1 k, (round_len _ _).trans hx.2.2.2⟩) hR ⟨HG.out.rest, HG.out.small, HH.out.one, rfl⟩
  obtain ⟨ob, hob⟩ : ∃ ob, ob = decide (s'.fl.length = 0) := ⟨_, rfl⟩
  have HOB : Hid (ob = decide (s'.fl.length = 0)) := hob
  clear hR hob
  have HC : Hid (Calls Try.prog 19 #[.pointer (some ⟨g.S, 0, none⟩), .int .i64 m] (w.alloc (.cells #[.int .i64 3, .int .i64 n] 32)) fun e w' => e = .returned (.tuple #[.int .i64 (d : Int), .bool ob]) ∧ ∃ g', Sd w' N g' s' ∧ Aft (w.alloc (.cells #[.int .i64 3, .int .i64 n] 32)) w' g g' s s') := run_any HB.out.dh.sd HG.out.rest HG.out.small HL.out.2.2.1 HM.out HR0.out HOB.out
  go_enter Try.func10, Try.ntmps10
  go_wp2_with fail
  refine Calls.mono HC.out ?_
  rintro e w1 ⟨rfl, g1, h1, t1⟩
  have k2 : w1.cell? ⟨w.heap.size, 1, none⟩ = some (.int .i64 n) := HH.out.opc t1 1
  have HD : Hid (Dh w0 w1 N g1 r s' s) := HB.out.dh.code h1 t1
  have HA : Hid (g1.ca = g.ca ∧ g1.S = g.S ∧ ∀ {w2 r2}, RT w1 w2 r r2 → Kp2 w w2 g r s) := ⟨t1.same.2.2.2.2, t1.same.1, fun h => Kp2.both t1.tn h.tn⟩
  have HR : Hid (Calls Try.prog 30 #[.pointer (some ⟨r.R, 0, none⟩), .int .i64 m] w1 fun e w' => e = .returned (.tuple #[.int .i64 (d : Int), .bool ob]) ∧ ∃ r', Rs w' r' s' ∧ RT w1 w' r r') := rrun_any HD.out.rs HG.out HL.out.2.2.1 HM.out HR0.out HOB.out
  clear h1 t1 k1 HC
  go_wp2_with fail
  refine Calls.mono HR.out ?_
  rintro e w2 ⟨rfl, r2, h2, t2⟩
  have HE : Hid (To w0 w N C g r s (.returned (.bool true)) w2) := ⟨rfl, g1, r2, s', ⟨HD.out.ref h2 t2, HP.out.1, HP.out.2.1, HA.out.1.trans HH.out.ca, HP.out.2.2.1⟩, HA.out.2.1, t2.same, by rw [HP.out.2.2.2]; omega, HA.out.2.2 t2⟩
  clear h2 t2 HR HD HA
  go_wp2
  go_ret
  exact HE.out

end
end Go.Proofs.Ytnjokhdedgdjjaa
