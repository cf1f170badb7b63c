/- Cells of handles. -/
import Derived.Test.YtnjafmjkaajbkaaDoorMem
import Derived.Handy
import Derived.BigQuiet
import Derived.Tactics2
import Derived.WalkSmall
import Derived.WalkLawsBesides
import Derived.Defers
import Derived.Recover
import Derived.Laws.Pointers
import Derived.Deep.RegionHeld3
namespace Go.Proofs.YtnjafmjkaajbkaaDoor
open Go.RowKit
set_option linter.unusedVariables false
set_option maxRecDepth 100000

/-- A handle's value. -/
abbrev hv (x : Int × Int) : Value := .agg #[.int .i64 x.1, .int .i64 x.2]

theorem results_hnd {fn : Func} {t u : Tmp} (h : fn.results = #[.cell t 32, .tmp u]) {tmps : Array Value} {w : World} {b : Nat} (ht : tmps.getD t undef = .pointer (some ⟨b, 0, none⟩)) {s g : Int} (hk : Bk w b 32 #[.int .i64 s, .int .i64 g]) :
    (results fn tmps).run Tryd.prog w = .ok (.tuple #[.agg #[.int .i64 s, .int .i64 g], tmps.getD u undef]) w := by
  have c0 : w.cell? ⟨b, 0, none⟩ = some (.int .i64 s) := hk.cell 0
  have c1 : w.cell? ⟨b, 1, none⟩ = some (.int .i64 g) := hk.cell 1
  have hz : ∀ w : World, (loadVar 32 ⟨b, 0, none⟩).run Tryd.prog w = (do let x ← load ⟨b, 0, none⟩; let y ← load ⟨b, 1, none⟩; pure (.agg #[x, y]) : Sem Value).run Tryd.prog w := fun w => by kernel_rfl
  have hl : (loadVar 32 ⟨b, 0, none⟩).run Tryd.prog w = .ok (.agg #[.int .i64 s, .int .i64 g]) w := by
    rw [hz]
    simp [c0, c1]
  have ht' : tmps[t]?.getD undef = .pointer (some ⟨b, 0, none⟩) := by simpa using ht
  simp [results, h, ht', asAddr, hl]

theorem cmade_any {w : World} {B : Nat} (h0 : w.cell? ⟨B, 0, none⟩ = some (.bool true)) : Calls Tryd.prog 52 #[.pointer (some ⟨B, 0, none⟩)] w fun e w' => e = .returned (.bool true) ∧ w' = w := by
  go_enter Tryd.func52, Tryd.ntmps52
  go_wp2
  go_ret
  exact ⟨rfl, rfl⟩

theorem cmade_nil (w : World) : Calls Tryd.prog 52 #[.pointer none] w fun e w' => e = .returned (.bool false) ∧ w' = w := by
  go_enter Tryd.func52, Tryd.ntmps52
  go_wp2
  go_ret
  exact ⟨rfl, rfl⟩

theorem catch_idle (p : Addr) (w : World) :
    CallsD Tryd.prog 62 #[.pointer (some p)] .returning w fun e u' w' => e = .returned (.tuple #[]) ∧ u' = .returning ∧ w' = w := by
  refine callsD_of_wpS Tryd.func62 rfl fun c₀ cs hu => ?_
  apply wpS_seq
  apply wpS_region
  simp [wpOpsS, go_sem, recoverD, hu, Tryd.ntmps62, Exit.thenS]
  refine wpS_cond (t := false) (by simp [Act.eval, Array.replicate]) ?_
  simp only [Bool.false_eq_true, if_false]
  refine wpS_of_wp (wp_skip ?_)
  cases c₀
  simp_all [bodyPostS, results, Tryd.results62]

/-- A cell: its value, how often it was changed. -/
abbrev Ce (w : World) (B : Nat) (x : Int × Int) (n : Int) : Prop := Bk w B 96 #[.bool true, .int .i64 x.1, .int .i64 x.2, .int .i64 n]

theorem newCell_any (x : Int × Int) (w : World) : Calls Tryd.prog 38 #[hv x] w fun e w' => e = .returned (.pointer (some ⟨w.heap.size + 1, 0, none⟩)) ∧ w' = (w.alloc (.cells #[.int .i64 x.1, .int .i64 x.2] 32)).alloc (.cells #[.bool true, .int .i64 x.1, .int .i64 x.2, .int .i64 0] 96) := by
  go_enter Tryd.func38, Tryd.ntmps38
  go_wp2
  go_ret
  exact ⟨rfl, rfl⟩

theorem csame_any (a b : Int × Int) (w : World) :
    Calls Tryd.prog 53 #[hv a, hv b] w fun e w' => e = .returned (.bool (decide (a = b))) ∧ Below w.heap.size w w' := by
  have hmf : ∀ (fn : Fn) (first cap : Array Value) (w : World), (Instr.makeFunc fn first cap).run Tryd.prog w = .ok (.func fn first cap) w := fun _ _ _ _ => rfl
  obtain ⟨a1, a2⟩ := a
  obtain ⟨b1, b2⟩ := b
  go_enter_defers Tryd.func53, Tryd.ntmps53
  go_wp2
  all_goals
    refine leaves_cons (f := 62) (args := #[.pointer (some ⟨w.heap.size + 2, 0, none⟩)]) (by simp) (by simp [go_sem]) ?_
    refine (catch_idle ⟨w.heap.size + 2, 0, none⟩ _).mono ?_
    rintro e u' w'' ⟨rfl, rfl, rfl⟩
    simp [Leaves, settle, results, Tryd.results53, go_sem]
    refine ⟨by simp_all, ?_⟩
    exact (((Below.refl _ w).alloc (Nat.le_refl _) _).alloc (by simp) _).alloc (by simp; omega) _

theorem cload_any {w : World} {B : Nat} {x : Int × Int} {n : Int} (h : Ce w B x n) : Calls Tryd.prog 43 #[.pointer (some ⟨B, 0, none⟩)] w fun e w' => e = .returned (.tuple #[hv x, .int .i64 n]) ∧ Below w.heap.size w w' := by
  have h' := h.alloc (.cells #[.int .i64 0, .int .i64 0] 32)
  have h'' := h.alloc (.cells #[.int .i64 x.1, .int .i64 x.2] 32)
  have c0 : (w.alloc (.cells #[.int .i64 0, .int .i64 0] 32)).cell? ⟨B, 0, none⟩ = some (.bool true) := h'.cell 0
  have c1 : (w.alloc (.cells #[.int .i64 0, .int .i64 0] 32)).cell? ⟨B, 1, none⟩ = some (.int .i64 x.1) := h'.cell 1
  have c2 : (w.alloc (.cells #[.int .i64 0, .int .i64 0] 32)).cell? ⟨B, 2, none⟩ = some (.int .i64 x.2) := h'.cell 2
  have c3 : (w.alloc (.cells #[.int .i64 0, .int .i64 0] 32)).cell? ⟨B, 3, none⟩ = some (.int .i64 n) := h'.cell 3
  have c4 : (w.alloc (.cells #[.int .i64 x.1, .int .i64 x.2] 32)).cell? ⟨B, 3, none⟩ = some (.int .i64 n) := h''.cell 3
  clear h h' h''
  go_enter Tryd.func43, Tryd.ntmps43
  go_wp2_with fail
  refine (cmade_any c0).mono ?_
  rintro e w1 ⟨rfl, rfl⟩
  go_wp2_with fail
  go_region
  all_goals go_wp2
  all_goals try simp only [Exit.inBlock, Exit.then]
  all_goals refine bodyPost_ret (results_hnd rfl rfl (by exact Bk.new w _ _)) rfl ?_
  all_goals exact ⟨rfl, by first | exact (Below.refl _ w).alloc (Nat.le_refl _) _ | exact ((Below.refl _ w).alloc (Nat.le_refl _) _).drew⟩

theorem cload_nil (w : World) : Calls Tryd.prog 43 #[.pointer none] w fun e w' => e = .returned (.tuple #[hv (0, 0), .int .i64 0]) ∧ Below w.heap.size w w' := by
  go_enter Tryd.func43, Tryd.ntmps43
  go_wp2_with fail
  refine (cmade_nil _).mono ?_
  rintro e w1 ⟨rfl, rfl⟩
  go_wp2
  try simp only [Exit.inBlock, Exit.then]
  refine bodyPost_ret (results_hnd rfl rfl (by exact Bk.new w _ _)) rfl ?_
  exact ⟨rfl, by exact (Below.refl _ w).alloc (Nat.le_refl _) _⟩

theorem cclone_any {w : World} {B : Nat} {x : Int × Int} {n : Int} (h : Ce w B x n) : Calls Tryd.prog 46 #[.pointer (some ⟨B, 0, none⟩)] w fun e w' => e = .returned (.pointer (some ⟨w.heap.size, 0, none⟩)) ∧ w' = w.alloc (.cells #[.bool true, .int .i64 x.1, .int .i64 x.2, .int .i64 n] 96) := by
  have c0 : w.cell? ⟨B, 0, none⟩ = some (.bool true) := h.cell 0
  have c1 : w.cell? ⟨B, 1, none⟩ = some (.int .i64 x.1) := h.cell 1
  have c2 : w.cell? ⟨B, 2, none⟩ = some (.int .i64 x.2) := h.cell 2
  have c3 : w.cell? ⟨B, 3, none⟩ = some (.int .i64 n) := h.cell 3
  clear h
  go_enter Tryd.func46, Tryd.ntmps46
  go_wp2_with fail
  refine (cmade_any c0).mono ?_
  rintro e w1 ⟨rfl, rfl⟩
  go_wp2
  go_ret
  exact ⟨rfl, rfl⟩

theorem cclone_nil (w : World) : Calls Tryd.prog 46 #[.pointer none] w fun e w' => e = .returned (.pointer none) ∧ w' = w := by
  go_enter Tryd.func46, Tryd.ntmps46
  go_wp2_with fail
  refine (cmade_nil _).mono ?_
  rintro e w1 ⟨rfl, rfl⟩
  go_wp2
  go_ret
  exact ⟨rfl, rfl⟩

theorem cset_any {w : World} {B : Nat} {x : Int × Int} {n : Int} (h : Ce w B x n) (y : Int × Int) : Calls Tryd.prog 54 #[.pointer (some ⟨B, 0, none⟩), hv y] w fun e w' => e = .returned (.int .i64 (wrap64 (n + 1))) ∧ Ce w' B y (wrap64 (n + 1)) ∧ Tn [B] w w' := by
  obtain ⟨w0, hw0⟩ : ∃ w0, w.alloc (.cells #[.int .i64 y.1, .int .i64 y.2] 32) = w0 := ⟨_, rfl⟩
  have t0 : Tn [B] w w0 := by rw [← hw0]; exact (Tn.refl _ _).alloc _
  have d0 : Bk w0 w.heap.size 32 #[.int .i64 y.1, .int .i64 y.2] := by rw [← hw0]; exact Bk.new _ _ _
  have hB : Ce w0 B x n := by rw [← hw0]; exact h.alloc _
  have e0 : w0.cell? ⟨w.heap.size, 0, none⟩ = some (.int .i64 y.1) := d0.cell 0
  have e1 : w0.cell? ⟨w.heap.size, 1, none⟩ = some (.int .i64 y.2) := d0.cell 1
  have c0 : w0.cell? ⟨B, 0, none⟩ = some (.bool true) := hB.cell 0
  have c1 : w0.cell? ⟨B, 1, none⟩ = some (.int .i64 x.1) := hB.cell 1
  have c2 : w0.cell? ⟨B, 2, none⟩ = some (.int .i64 x.2) := hB.cell 2
  have f1 := hB.frozen 1
  have f2 := hB.frozen 2
  obtain ⟨w1, hw1⟩ : ∃ w1, (w0.setCell ⟨B, 1, none⟩ (.int .i64 y.1)).setCell ⟨B, 2, none⟩ (.int .i64 y.2) = w1 := ⟨_, rfl⟩
  have h1 : Ce w1 B y n := by rw [← hw1]; exact (hB.set 1 _).set 2 _
  have t1 : Tn [B] w w1 := by rw [← hw1]; exact (t0.setCell (.inl (by simp)) _).setCell (.inl (by simp)) _
  have c3 : w1.cell? ⟨B, 3, none⟩ = some (.int .i64 n) := h1.cell 3
  have f3 := h1.frozen 3
  obtain ⟨w2, hw2⟩ : ∃ w2, w1.setCell ⟨B, 3, none⟩ (.int .i64 (wrap64 (n + 1))) = w2 := ⟨_, rfl⟩
  have h2 : Ce w2 B y (wrap64 (n + 1)) := by rw [← hw2]; exact h1.set 3 _
  have t2 : Tn [B] w w2 := by rw [← hw2]; exact t1.setCell (.inl (by simp)) _
  have c4 : w2.cell? ⟨B, 3, none⟩ = some (.int .i64 (wrap64 (n + 1))) := h2.cell 3
  have HK : Hid (Ce w2 B y (wrap64 (n + 1)) ∧ Tn [B] w w2) := ⟨h2, t2⟩
  clear h h1 h2 t0 t1 t2 d0 hB
  go_enter Tryd.func54, Tryd.ntmps54
  go_wp2_with fail
  refine (cmade_any c0).mono ?_
  rintro e w9 ⟨rfl, rfl⟩
  go_wp2
  go_ret
  exact ⟨rfl, HK.out⟩

/-- What Swap lays first: its two arguments' boxes. -/
theorem swap_boxes {w : World} {B : Nat} {x : Int × Int} {n : Int} (h : Ce w B x n) (a b : Int × Int) :
    ∃ w0, (w.alloc (.cells #[.int .i64 a.1, .int .i64 a.2] 32)).alloc (.cells #[.int .i64 b.1, .int .i64 b.2] 32) = w0 ∧ Ce w0 B x n ∧ Below w.heap.size w w0 ∧ w0.heap.size = w.heap.size + 2 ∧ Bk w0 w.heap.size 32 #[.int .i64 a.1, .int .i64 a.2] ∧ Bk w0 (w.heap.size + 1) 32 #[.int .i64 b.1, .int .i64 b.2] := by
  have k := Bk.new (w.alloc (.cells #[.int .i64 a.1, .int .i64 a.2] 32)) 32 #[.int .i64 b.1, .int .i64 b.2]
  simp only [World.size_alloc] at k
  exact ⟨_, rfl, (h.alloc _).alloc _, ((Below.refl _ w).alloc (Nat.le_refl _) _).alloc (by simp) _, by simp, (Bk.new w _ _).alloc _, k⟩

set_option maxHeartbeats 1000000 in
theorem cswap_hit {w : World} {B : Nat} {x : Int × Int} {n : Int} (h : Ce w B x n) (a b : Int × Int) (hx : x = a) : Calls Tryd.prog 40 #[.pointer (some ⟨B, 0, none⟩), hv a, hv b] w fun e w' => e = .returned (.bool true) ∧ Ce w' B b (wrap64 (n + 1)) ∧ Tn [B] w w' := by
  obtain ⟨w0, hw0, hB, hb0, hs0, ha, hbb⟩ := swap_boxes h a b
  have e0 : w0.cell? ⟨w.heap.size, 0, none⟩ = some (.int .i64 a.1) := ha.cell 0
  have e1 : w0.cell? ⟨w.heap.size, 1, none⟩ = some (.int .i64 a.2) := ha.cell 1
  have c0 : w0.cell? ⟨B, 0, none⟩ = some (.bool true) := hB.cell 0
  have c1 : w0.cell? ⟨B, 1, none⟩ = some (.int .i64 x.1) := hB.cell 1
  have c2 : w0.cell? ⟨B, 2, none⟩ = some (.int .i64 x.2) := hB.cell 2
  have HC : Hid (∀ v, Below w0.drew.heap.size w0.drew v → (v.cell? ⟨B, 1, none⟩ = some (.int .i64 x.1) ∧ v.cell? ⟨B, 2, none⟩ = some (.int .i64 x.2) ∧ v.cell? ⟨w.heap.size, 0, none⟩ = some (.int .i64 a.1) ∧ v.cell? ⟨w.heap.size, 1, none⟩ = some (.int .i64 a.2)) ∧ v.cell? ⟨w.heap.size + 1, 0, none⟩ = some (.int .i64 b.1) ∧ v.cell? ⟨w.heap.size + 1, 1, none⟩ = some (.int .i64 b.2) ∧ Ce v B x n ∧ Below w.heap.size w v) := fun v hv0 => by
    have hv : Below w0.heap.size w0 v := ⟨hv0.os, hv0.tape, hv0.output, hv0.size, hv0.block⟩
    exact ⟨⟨(hB.below hv hB.lt).cell 1, (hB.below hv hB.lt).cell 2, (ha.below hv ha.lt).cell 0, (ha.below hv ha.lt).cell 1⟩, (hbb.below hv hbb.lt).cell 0, (hbb.below hv hbb.lt).cell 1, hB.below hv hB.lt, hb0.trans (hv.mono (by omega))⟩
  have HD : Hid (decide (x = a) = true) := by simp [Hid, hx]
  have HX : Hid _ := hx
  clear h hB hb0 ha hbb hx
  go_enter Tryd.func40, Tryd.ntmps40
  go_wp2_with fail
  go_region_held3 (fun w' => w'.cell? ⟨B, 1, none⟩ = some (.int .i64 x.1) ∧ w'.cell? ⟨B, 2, none⟩ = some (.int .i64 x.2) ∧ w'.cell? ⟨w.heap.size, 0, none⟩ = some (.int .i64 a.1) ∧ w'.cell? ⟨w.heap.size, 1, none⟩ = some (.int .i64 a.2)) (go_keep) (first
    | (go_at_call 52; refine (cmade_any (by exact c0)).mono ?_; rintro e w1 ⟨rfl, rfl⟩)
    | (go_at_call 53; refine (csame_any x a _).mono ?_; rintro e w2 ⟨rfl, hb2⟩; rw [HD.out]; have hq := HC.out w2 hb2; have c1 := hq.1.1; have c2 := hq.1.2.1; have e0 := hq.1.2.2.1; have e1 := hq.1.2.2.2; have e2 := hq.2.1; have e3 := hq.2.2.1; have HF : Hid (Ce w2 B x n ∧ Below w.heap.size w w2) := hq.2.2.2; clear hq hb2))
  go_wp2_with fail
  refine (cset_any (by exact HF.out.1) b).mono ?_
  rintro e w3 ⟨rfl, k3, t3⟩
  have HE : Hid (Ce w3 B b (wrap64 (n + 1)) ∧ Tn [B] w w3) := ⟨k3, (Tn.of_below HF.out.2 [B]).trans t3 (by simp)⟩
  clear k3 t3
  go_wp2
  go_ret
  exact ⟨rfl, HE.out⟩

set_option maxHeartbeats 1000000 in
theorem cswap_miss {w : World} {B : Nat} {x : Int × Int} {n : Int} (h : Ce w B x n) (a b : Int × Int) (hx : ¬ x = a) : Calls Tryd.prog 40 #[.pointer (some ⟨B, 0, none⟩), hv a, hv b] w fun e w' => e = .returned (.bool false) ∧ Below w.heap.size w w' := by
  obtain ⟨w0, hw0, hB, hb0, hs0, ha, hbb⟩ := swap_boxes h a b
  have e0 : w0.cell? ⟨w.heap.size, 0, none⟩ = some (.int .i64 a.1) := ha.cell 0
  have e1 : w0.cell? ⟨w.heap.size, 1, none⟩ = some (.int .i64 a.2) := ha.cell 1
  have c0 : w0.cell? ⟨B, 0, none⟩ = some (.bool true) := hB.cell 0
  have c1 : w0.cell? ⟨B, 1, none⟩ = some (.int .i64 x.1) := hB.cell 1
  have c2 : w0.cell? ⟨B, 2, none⟩ = some (.int .i64 x.2) := hB.cell 2
  have HC : Hid (∀ v, Below w0.drew.heap.size w0.drew v → (v.cell? ⟨B, 1, none⟩ = some (.int .i64 x.1) ∧ v.cell? ⟨B, 2, none⟩ = some (.int .i64 x.2) ∧ v.cell? ⟨w.heap.size, 0, none⟩ = some (.int .i64 a.1) ∧ v.cell? ⟨w.heap.size, 1, none⟩ = some (.int .i64 a.2)) ∧ v.cell? ⟨w.heap.size + 1, 0, none⟩ = some (.int .i64 b.1) ∧ v.cell? ⟨w.heap.size + 1, 1, none⟩ = some (.int .i64 b.2) ∧ Ce v B x n ∧ Below w.heap.size w v) := fun v hv0 => by
    have hv : Below w0.heap.size w0 v := ⟨hv0.os, hv0.tape, hv0.output, hv0.size, hv0.block⟩
    exact ⟨⟨(hB.below hv hB.lt).cell 1, (hB.below hv hB.lt).cell 2, (ha.below hv ha.lt).cell 0, (ha.below hv ha.lt).cell 1⟩, (hbb.below hv hbb.lt).cell 0, (hbb.below hv hbb.lt).cell 1, hB.below hv hB.lt, hb0.trans (hv.mono (by omega))⟩
  have HD : Hid (decide (x = a) = false) := by simp [Hid, hx]
  have HX : Hid _ := hx
  clear h hB hb0 ha hbb hx
  go_enter Tryd.func40, Tryd.ntmps40
  go_wp2_with fail
  go_region_held3 (fun w' => w'.cell? ⟨B, 1, none⟩ = some (.int .i64 x.1) ∧ w'.cell? ⟨B, 2, none⟩ = some (.int .i64 x.2) ∧ w'.cell? ⟨w.heap.size, 0, none⟩ = some (.int .i64 a.1) ∧ w'.cell? ⟨w.heap.size, 1, none⟩ = some (.int .i64 a.2)) (go_keep) (first
    | (go_at_call 52; refine (cmade_any (by exact c0)).mono ?_; rintro e w1 ⟨rfl, rfl⟩)
    | (go_at_call 53; refine (csame_any x a _).mono ?_; rintro e w2 ⟨rfl, hb2⟩; rw [HD.out]; have hq := HC.out w2 hb2; have c1 := hq.1.1; have c2 := hq.1.2.1; have e0 := hq.1.2.2.1; have e1 := hq.1.2.2.2; have e2 := hq.2.1; have e3 := hq.2.2.1; have HF : Hid (Ce w2 B x n ∧ Below w.heap.size w w2) := hq.2.2.2; clear hq hb2))
  go_wp2
  go_ret
  exact ⟨rfl, HF.out.2⟩
end Go.Proofs.YtnjafmjkaajbkaaDoor
