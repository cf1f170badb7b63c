/- Schedulers: a fiber's step, and what is done if it panics. -/
import Derived.Test.YtnjokhdedgdjjaaSdA
namespace Go.Proofs.Ytnjokhdedgdjjaa
open Go.RowKit Go.Maps
set_option linter.unusedVariables false
set_option maxRecDepth 100000

theorem meth_step (b : Nat) (w : World) : (method 217 46 (.pointer (some ⟨b, 0, none⟩)) "Step").run Try.prog w = .ok (77, .pointer (some ⟨b, 0, none⟩)) w := by kernel_rfl

/-- A fiber's step. -/
theorem fstep_any {ov : Bool} {lf : Int} {w : World} {b cb i : Nat} {left x : Int} {cs : Array Value} (hb : Bk w b 48 #[.int .i64 left, .pointer (some ⟨cb, i, none⟩)]) (hc : Bk w cb 2 cs) (hi : cs[i]? = some (.int .i64 x)) (hl : left ≤ 9223372036854775807) (hov : ov = decide (left ≤ 1)) (hlf : lf = if 1 < left then left - 1 else left) :
    Calls Try.prog 77 #[.pointer (some ⟨b, 0, none⟩)] w fun e w' => e = .returned (.bool ov) ∧ Bk w' b 48 #[.int .i64 lf, .pointer (some ⟨cb, i, none⟩)] ∧ Bk w' cb 2 (cs.setIfInBounds i (.int .i64 (wrap64 (x + 1)))) ∧ Tn [b, cb] w w' := by
  have b0 : w.cell? ⟨b, 0, none⟩ = some (.int .i64 left) := hb.cell 0
  have b1 : w.cell? ⟨b, 1, none⟩ = some (.pointer (some ⟨cb, i, none⟩)) := hb.cell 1
  have ci : w.cell? ⟨cb, i, none⟩ = some (.int .i64 x) := (hc.cell i).trans hi
  have fi := hc.frozen i
  have hne : b ≠ cb := fun e => by
    have := hb.ty (e ▸ hc)
    simp at this
  obtain ⟨w1, hw1⟩ : ∃ w1, w.setCell ⟨cb, i, none⟩ (.int .i64 (wrap64 (x + 1))) = w1 := ⟨_, rfl⟩
  have k1 : Bk w1 b 48 #[.int .i64 left, .pointer (some ⟨cb, i, none⟩)] := hw1 ▸ hb.other hne _
  have k2 : Bk w1 cb 2 (cs.setIfInBounds i (.int .i64 (wrap64 (x + 1)))) := hw1 ▸ hc.set i _
  have t1 : Tn [b, cb] w w1 := hw1 ▸ (Tn.refl [b, cb] w).setCell (.inl (by simp)) _
  have e0 : w1.cell? ⟨b, 0, none⟩ = some (.int .i64 left) := k1.cell 0
  have f0 := k1.frozen 0
  by_cases hlt : 1 < left
  · have hw : wrap64 (left - 1) = left - 1 := by unfold wrap64; omega
    have HE : Hid (Bk (w1.setCell ⟨b, 0, none⟩ (.int .i64 (left - 1))) b 48 #[.int .i64 (left - 1), .pointer (some ⟨cb, i, none⟩)] ∧ Bk (w1.setCell ⟨b, 0, none⟩ (.int .i64 (left - 1))) cb 2 (cs.setIfInBounds i (.int .i64 (wrap64 (x + 1)))) ∧ Tn [b, cb] w (w1.setCell ⟨b, 0, none⟩ (.int .i64 (left - 1)))) :=
      ⟨k1.set 0 _, k2.other (fun e => hne e.symm) _, t1.setCell (.inl (by simp)) _⟩
    obtain rfl : ov = false := by rw [hov]; simp; omega
    obtain rfl : lf = left - 1 := by rw [hlf, if_pos hlt]
    clear hov hlf
    clear k1 k2 t1 hb hc hi
    go_enter Try.func77, Try.ntmps77
    go_wp2
    go_ret
    exact ⟨rfl, HE.out⟩
  · have HE : Hid (Bk w1 b 48 #[.int .i64 left, .pointer (some ⟨cb, i, none⟩)] ∧ Bk w1 cb 2 (cs.setIfInBounds i (.int .i64 (wrap64 (x + 1)))) ∧ Tn [b, cb] w w1) := ⟨k1, k2, t1⟩
    obtain rfl : ov = true := by rw [hov]; simp; omega
    obtain rfl : left = lf := by rw [hlf, if_neg hlt]
    clear hov hlf
    clear k1 k2 t1 hb hc hi
    go_enter Try.func77, Try.ntmps77
    go_wp2
    go_ret
    exact ⟨rfl, HE.out⟩

theorem once_idle (p : Addr) (w : World) :
    CallsD Try.prog 58 #[.pointer (some p)] .returning w fun e u' w' => e = .returned (.tuple #[]) ∧ u' = .returning ∧ w' = w := by
  refine callsD_of_wpS Try.func58 rfl fun c₀ cs hu => ?_
  apply wpS_seq
  apply wpS_region
  simp [wpOpsS, go_sem, recoverD, hu, Try.ntmps58, Exit.thenS]
  refine wpS_cond (t := false) (by simp [Act.eval, Array.replicate]) ?_
  simp only [Bool.false_eq_true, if_false]
  refine wpS_of_wp (wp_skip ?_)
  cases c₀
  simp_all [bodyPostS, results, Try.results58]

theorem once_any {ov : Bool} {lf : Int} {w : World} {b cb i : Nat} {left x : Int} {cs : Array Value} (hb : Bk w b 48 #[.int .i64 left, .pointer (some ⟨cb, i, none⟩)]) (hc : Bk w cb 2 cs) (hi : cs[i]? = some (.int .i64 x)) (hl : left ≤ 9223372036854775807) (hov : ov = decide (left ≤ 1)) (hlf : lf = if 1 < left then left - 1 else left) :
    Calls Try.prog 52 #[fv b] w fun e w' => e = .returned (.bool ov) ∧ Bk w' b 48 #[.int .i64 lf, .pointer (some ⟨cb, i, none⟩)] ∧ Bk w' cb 2 (cs.setIfInBounds i (.int .i64 (wrap64 (x + 1)))) ∧ Tn [b, cb] w w' := by
  have hmf : ∀ (fn : Fn) (first cap : Array Value) (w : World), (Instr.makeFunc fn first cap).run Try.prog w = .ok (.func fn first cap) w := fun _ _ _ _ => rfl
  obtain ⟨w0, hw0⟩ : ∃ w0, w.alloc (.cells #[.bool false] 4) = w0 := ⟨_, rfl⟩
  have hS : w0.heap.size = w.heap.size + 1 := by rw [← hw0]; simp
  have hb0 : Bk w0 b 48 #[.int .i64 left, .pointer (some ⟨cb, i, none⟩)] := hw0 ▸ hb.alloc _
  have hc0 : Bk w0 cb 2 cs := hw0 ▸ hc.alloc _
  have ho0 : Bk w0 w.heap.size 4 #[.bool false] := hw0 ▸ Bk.new w _ _
  have t0 : Tn [b, cb] w w0 := hw0 ▸ (Tn.refl [b, cb] w).alloc _
  have HI : Hid (b < w.heap.size ∧ cb < w.heap.size) := ⟨hb.lt, hc.lt⟩
  have H0 : Hid (Bk w0 b 48 #[.int .i64 left, .pointer (some ⟨cb, i, none⟩)] ∧ Bk w0 cb 2 cs ∧ Bk w0 w.heap.size 4 #[.bool false] ∧ Tn [b, cb] w w0) := ⟨hb0, hc0, ho0, t0⟩
  have ml := meth_step b w0
  have HV : Hid (ov = decide (left ≤ 1) ∧ lf = if 1 < left then left - 1 else left) := ⟨hov, hlf⟩
  clear hov hlf
  clear hb hc hb0 hc0 ho0 t0 hS
  go_enter_defers Try.func52, Try.ntmps52
  go_wp2_with fail
  refine (fstep_any H0.out.1 H0.out.2.1 hi hl HV.out.1 HV.out.2).mono ?_
  rintro e w1 ⟨rfl, k1, k2, t1⟩
  have ho1 : Bk w1 w.heap.size 4 #[.bool false] := H0.out.2.2.1.tn t1 (by have := HI.out; simp; omega)
  have fo := ho1.frozen 0
  have o0 : w1.cell? ⟨w.heap.size, 0, none⟩ = some (.bool false) := ho1.cell 0
  have HE : Hid (Bk w1 b 48 #[.int .i64 lf, .pointer (some ⟨cb, i, none⟩)] ∧ Bk w1 cb 2 (cs.setIfInBounds i (.int .i64 (wrap64 (x + 1)))) ∧ Tn [b, cb] w w1 ∧ Bk w1 w.heap.size 4 #[.bool false]) := ⟨k1, k2, H0.out.2.2.2.trans t1 (by simp), ho1⟩
  clear k1 k2 t1 ho1
  go_wp2
  refine leaves_cons (f := 58) (args := #[.pointer (some ⟨w.heap.size, 0, none⟩)]) (by simp) (by simp [go_sem]) ?_
  refine (once_idle ⟨w.heap.size, 0, none⟩ _).mono ?_
  rintro e u' w'' ⟨rfl, rfl, rfl⟩
  obtain ⟨w2, hw2⟩ : ∃ w2, w1.setCell ⟨w.heap.size, 0, none⟩ (.bool ov) = w2 := ⟨_, rfl⟩
  have HF : Hid (Bk w2 b 48 #[.int .i64 lf, .pointer (some ⟨cb, i, none⟩)] ∧ Bk w2 cb 2 (cs.setIfInBounds i (.int .i64 (wrap64 (x + 1)))) ∧ Tn [b, cb] w w2) := by
    have hi := HI.out
    refine ⟨hw2 ▸ HE.out.1.other (by simp; omega) _, hw2 ▸ HE.out.2.1.other (by simp; omega) _, hw2 ▸ HE.out.2.2.1.setCell (.inr (by simp)) _⟩
  have o2 : w2.cell? ⟨w.heap.size, 0, none⟩ = some (.bool ov) := by
    rw [← hw2]
    exact (HE.out.2.2.2.set 0 _).cell 0
  rw [hw2]
  simp [Leaves, settle, results, Try.results52, go_sem, o2]
  exact HF.out
end Go.Proofs.Ytnjokhdedgdjjaa
