/- An operation with both. -/
import Derived.Test.YtnjokhdedgdjjaaSdD1
namespace Go.Proofs.Ytnjokhdedgdjjaa
open Go.RowKit Go.Maps
set_option linter.unusedVariables false
set_option maxRecDepth 100000

/-- What lies beside both stays. -/
def Kp2 (w w' : World) (g : Ge) (r : Gr) (s : Sc) : Prop := w.heap.size ≤ w'.heap.size ∧ ∀ k, k < w.heap.size → k ∉ ft g s → k ∉ rt r → w'.heap[k]? = w.heap[k]?
theorem Kp2.alloc (w : World) (g : Ge) (r : Gr) (s : Sc) (o : Obj) : Kp2 w (w.alloc o) g r s := ⟨by simp, fun k hk _ _ => Below.heap_alloc w o k hk⟩
theorem Kp2.both {w w1 w2 : World} {g : Ge} {r : Gr} {s : Sc} {o : Obj} (h1 : Tn (ft g s) (w.alloc o) w1) (h2 : Tn (rt r) w1 w2) : Kp2 w w2 g r s := by
  have e1 := h1.size
  have e2 := h2.size
  simp at e1
  refine ⟨by omega, fun k hk n1 n2 => ?_⟩
  rw [h2.block k (by omega) n2, h1.block k (by simp; omega) n1]
  exact Below.heap_alloc w o k hk

/-- What an operation makes of both. -/
def To (w0 w : World) (N C : Nat) (g : Ge) (r : Gr) (s : Sc) (e : Ending) (w' : World) : Prop :=
  e = .returned (.bool true) ∧ ∃ g' r' s', Dq w0 w' N C g' r' s' ∧ g'.S = g.S ∧ r'.R = r.R ∧ s'.done.length ≤ s.done.length + 1 ∧ Kp2 w w' g r s

section
variable {w0 w w' : World} {N C : Nat} {g g' : Ge} {r r' : Gr} {s s' t t' : Sc}

theorem Dq.box (h : Dq w0 w N C g r s) (o : Obj) : Dq w0 (w.alloc o) N C g r s := h.still ((Below.refl _ w).alloc (Nat.le_refl _) o)
theorem Dq.drew (h : Dq w0 w N C g r s) (q : Nat) : Dq w0 (w.drewN q) N C g r s := h.still ⟨rfl, rfl, rfl, Nat.le_refl _, fun _ _ => rfl⟩

theorem Sc.one.step {f : Fb} {a : Addr} (h : s.one a) (hf : f ∈ s.fl) : (s.step f).one a := one_adv h hf
theorem step_rest (s : Sc) (f : Fb) : (s.step f).rest := rfl
theorem step_small {f : Fb} (h : s.small) : (s.step f).small := adv_small h f
theorem step_len (s : Sc) (f : Fb) : (s.step f).done.length = s.done.length := adv_len s f

theorem Dq.opc (h : Dq w0 w N C g r s) {cs : Array Value} {ty : TypeId} {w2 : World} {g' : Ge} {s' : Sc} (ha : Aft (w.alloc (.cells cs ty)) w2 g g' s s') (i : Nat) : w2.cell? ⟨w.heap.size, i, none⟩ = cs[i]? :=
  ((Bk.new w ty cs).tn ha.tn (fun hm => by have := h.dh.sd.lts.1 _ hm; omega)).cell i

set_option maxHeartbeats 1000000 in
theorem step1 (h : Dq w0 w N C g r s) (hd : s.done.length ≤ 9000000000000) (hN : 10000000000000 < N) (n : Int) (hn : (Lit.int .i64 n).wf = true) : Calls Try.prog 10 #[.pointer (some ⟨g.S, 0, none⟩), .pointer (some ⟨r.R, 0, none⟩), .agg #[.int .i64 1, .int .i64 n], .pointer (some ⟨C, 0, none⟩)] w (To w0 w N C g r s) := by
  have HH : Hid (Dq w0 w N C g r s) := h
  have HB : Hid (Dq w0 (w.alloc (.cells #[.int .i64 1, .int .i64 n] 32)) N C g r s) := h.box _
  have k1 : (w.alloc (.cells #[.int .i64 1, .int .i64 n] 32)).cell? ⟨w.heap.size, 1, none⟩ = some (.int .i64 n) := (Bk.new _ _ _).cell 1
  have HL : Hid (s.fl.length ≤ 4096 ∧ s.box.length ≤ 4096 ∧ s.done.length ≤ 4611686018427387904 ∧ s.done.length ≤ 9000000000000 ∧ 10000000000000 < N) := ⟨h.fll.1, h.fll.2, by omega, hd, hN⟩
  have HW : Hid ((Lit.int .i64 n).wf = true ∧ -9223372036854775808 ≤ n ∧ n ≤ 9223372036854775807) := ⟨hn, bounds_i64 hn⟩
  have HG : Hid s.Good := h.good
  clear h hd hN hn
  cases hf : fat s.fl n with
  | none =>
    have HF : Hid (fat s.fl n = none) := hf
    clear hf
    go_enter Try.func10, Try.ntmps10
    go_wp2_with fail
    refine (step_no HB.out.dh.sd n HW.out.1 HF.out).mono ?_
    rintro e w1 ⟨rfl, rfl⟩
    go_wp2_with fail
    refine (rstep_no HB.out.dh.rs HF.out HL.out.1).mono ?_
    rintro e w2 ⟨rfl, rfl⟩
    go_wp2
    go_ret
    exact ⟨rfl, g, r, s, HB.out, rfl, rfl, by omega, Kp2.alloc _ _ _ _ _⟩
  | some f =>
    obtain ⟨hfm, hfn⟩ := fat_mem hf
    have HF : Hid (f ∈ s.fl ∧ (f.num : Int) = n) := ⟨hfm, hfn⟩
    clear hf hfm hfn
    obtain ⟨ov, hov⟩ : ∃ ov, ov = decide (f.left ≤ 1) := ⟨_, rfl⟩
    have HO : Hid (ov = decide (f.left ≤ 1)) := hov
    clear hov
    have HC : Hid (Calls Try.prog 23 #[.pointer (some ⟨g.S, 0, none⟩), .int .i64 n] (w.alloc (.cells #[.int .i64 1, .int .i64 n] 32)) fun e w' => e = .returned (.tuple #[.bool ov, .int .i64 0]) ∧ ∃ g', Sd w' N g' (s.step f) ∧ Aft (w.alloc (.cells #[.int .i64 1, .int .i64 n] 32)) w' g g' s (s.step f)) := by
      have := step_any HB.out.dh.sd HG.out.rest HF.out.1 (HG.out.small f HF.out.1) HL.out.2.2.1 HO.out (n := f.num) rfl
      rw [HF.out.2] at this
      exact this
    go_enter Try.func10, Try.ntmps10
    go_wp2_with fail
    refine Calls.mono HC.out ?_
    rintro e w1 ⟨rfl, g1, h1, t1⟩
    have k2 : w1.cell? ⟨w.heap.size, 1, none⟩ = some (.int .i64 n) := HH.out.opc t1 1
    have HD : Hid (Dh w0 w1 N g1 r (s.step f) s) := HB.out.dh.code h1 t1
    have HA : Hid (g1.ca = g.ca ∧ g1.S = g.S ∧ ∀ {w2 r2}, RT w1 w2 r r2 → Kp2 w w2 g r s) := ⟨t1.same.2.2.2.2, t1.same.1, fun h => Kp2.both t1.tn h.tn⟩
    have HR : Hid (Calls Try.prog 28 #[.pointer (some ⟨r.R, 0, none⟩), .int .i64 n] w1 fun e w' => e = .returned (.tuple #[.bool ov, .int .i64 0]) ∧ ∃ r', Rs w' r' (s.step f) ∧ RT w1 w' r r') := by
      have := rstep_any HD.out.rs HG.out.rs HG.out.ups HG.out.small HF.out.1 HL.out.1 HL.out.2.1 HL.out.2.2.1 HO.out (n := f.num) rfl
      rw [HF.out.2] at this
      exact this
    clear h1 t1 k1 HC
    go_wp2_with fail
    refine Calls.mono HR.out ?_
    rintro e w2 ⟨rfl, r2, h2, t2⟩
    have HE : Hid (To w0 w N C g r s (.returned (.bool true)) w2) := ⟨rfl, g1, r2, (s.step f), ⟨HD.out.ref h2 t2, rfl, step_small HG.out.small, HA.out.1.trans HH.out.ca, HH.out.one.step HF.out.1⟩, HA.out.2.1, t2.same, by rw [step_len]; omega, HA.out.2.2 t2⟩
    clear h2 t2 HR HD HA
    go_wp2
    go_ret
    exact HE.out

set_option maxHeartbeats 1000000 in
theorem step2 (h : Dq w0 w N C g r s) (hd : s.done.length ≤ 9000000000000) (hN : 10000000000000 < N) (n : Int) (hn : (Lit.int .i64 n).wf = true) : Calls Try.prog 10 #[.pointer (some ⟨g.S, 0, none⟩), .pointer (some ⟨r.R, 0, none⟩), .agg #[.int .i64 2, .int .i64 n], .pointer (some ⟨C, 0, none⟩)] w (To w0 w N C g r s) := by
  have HH : Hid (Dq w0 w N C g r s) := h
  have HB : Hid (Dq w0 (w.alloc (.cells #[.int .i64 2, .int .i64 n] 32)) N C g r s) := h.box _
  have k1 : (w.alloc (.cells #[.int .i64 2, .int .i64 n] 32)).cell? ⟨w.heap.size, 1, none⟩ = some (.int .i64 n) := (Bk.new _ _ _).cell 1
  have HL : Hid (s.fl.length ≤ 4096 ∧ s.box.length ≤ 4096 ∧ s.done.length ≤ 4611686018427387904 ∧ s.done.length ≤ 9000000000000 ∧ 10000000000000 < N) := ⟨h.fll.1, h.fll.2, by omega, hd, hN⟩
  have HW : Hid ((Lit.int .i64 n).wf = true ∧ -9223372036854775808 ≤ n ∧ n ≤ 9223372036854775807) := ⟨hn, bounds_i64 hn⟩
  have HG : Hid s.Good := h.good
  clear h hd hN hn
  by_cases hf : s.fl = []
  · have HF : Hid (s.fl = []) := hf
    clear hf
    go_enter Try.func10, Try.ntmps10
    go_wp2_with fail
    refine (pick_none HB.out.dh.sd n HF.out).mono ?_
    rintro e w1 ⟨rfl, rfl⟩
    go_wp2_with fail
    refine (rpick_none HB.out.dh.rs n HF.out).mono ?_
    rintro e w2 ⟨rfl, rfl⟩
    go_wp2
    go_ret
    exact ⟨rfl, g, r, s, HB.out, rfl, rfl, by omega, Kp2.alloc _ _ _ _ _⟩
  · obtain ⟨i, f, hi, hki⟩ : ∃ (i : Nat) (f : Fb), s.fl[i]? = some f ∧ n % (s.fl.length : Int) = (i : Int) := by
      have hl : 0 < s.fl.length := List.length_pos_iff.2 hf
      have h1 := Int.emod_nonneg n (b := (s.fl.length : Int)) (by omega)
      have h2 := Int.emod_lt_of_pos n (b := (s.fl.length : Int)) (by omega)
      exact ⟨(n % (s.fl.length : Int)).toNat, _, List.getElem?_eq_getElem (by omega), by omega⟩
    have HF : Hid (s.fl[i]? = some f ∧ n % (s.fl.length : Int) = (i : Int) ∧ f ∈ s.fl) := ⟨hi, hki, List.mem_of_getElem? hi⟩
    clear hf hi hki
    obtain ⟨ov, hov⟩ : ∃ ov, ov = decide (f.left ≤ 1) := ⟨_, rfl⟩
    have HO : Hid (ov = decide (f.left ≤ 1)) := hov
    clear hov
    obtain ⟨y, hy⟩ : ∃ y : Int, (f.num : Int) = y := ⟨_, rfl⟩
    have HY : Hid ((f.num : Int) = y) := hy
    clear hy
    have HC : Hid (Calls Try.prog 22 #[.pointer (some ⟨g.S, 0, none⟩), .int .i64 n] (w.alloc (.cells #[.int .i64 2, .int .i64 n] 32)) fun e w' => e = .returned (.tuple #[.int .i64 y, .bool ov, .int .i64 0]) ∧ ∃ g', Sd w' N g' (s.step f) ∧ Aft (w.alloc (.cells #[.int .i64 2, .int .i64 n] 32)) w' g g' s (s.step f)) := by
      have := pick_any HB.out.dh.sd HG.out.rest n HW.out.2 HF.out.1 HF.out.2.1 (HG.out.small f HF.out.2.2) HL.out.2.2.1 HO.out
      rw [HY.out] at this
      exact this
    go_enter Try.func10, Try.ntmps10
    go_wp2_with fail
    refine Calls.mono HC.out ?_
    rintro e w1 ⟨rfl, g1, h1, t1⟩
    have k2 : w1.cell? ⟨w.heap.size, 1, none⟩ = some (.int .i64 n) := HH.out.opc t1 1
    have HD : Hid (Dh w0 w1 N g1 r (s.step f) s) := HB.out.dh.code h1 t1
    have HA : Hid (g1.ca = g.ca ∧ g1.S = g.S ∧ ∀ {w2 r2}, RT w1 w2 r r2 → Kp2 w w2 g r s) := ⟨t1.same.2.2.2.2, t1.same.1, fun h => Kp2.both t1.tn h.tn⟩
    have HR : Hid (Calls Try.prog 29 #[.pointer (some ⟨r.R, 0, none⟩), .int .i64 n] w1 fun e w' => e = .returned (.tuple #[.int .i64 y, .bool ov, .int .i64 0]) ∧ ∃ r', Rs w' r' (s.step f) ∧ RT w1 w' r r') := by
      have := rpick_any HD.out.rs HG.out.rs HG.out.ups HG.out.small n HW.out.2 HF.out.1 HF.out.2.1 HL.out.1 HL.out.2.1 HL.out.2.2.1 HO.out
      rw [HY.out] at this
      exact this
    clear h1 t1 k1 HC
    go_wp2_with fail
    refine Calls.mono HR.out ?_
    rintro e w2 ⟨rfl, r2, h2, t2⟩
    have HE : Hid (To w0 w N C g r s (.returned (.bool true)) w2) := ⟨rfl, g1, r2, (s.step f), ⟨HD.out.ref h2 t2, rfl, step_small HG.out.small, HA.out.1.trans HH.out.ca, HH.out.one.step HF.out.2.2⟩, HA.out.2.1, t2.same, by rw [step_len]; omega, HA.out.2.2 t2⟩
    clear h2 t2 HR HD HA
    go_wp2
    go_ret
    exact HE.out


end
end Go.Proofs.Ytnjokhdedgdjjaa
