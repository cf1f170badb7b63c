/- Cells of int. -/
import Derived.Test.YtjfmilfplidepaaCeM
import Derived.Handy
import Derived.BigQuiet
import Derived.Tactics2
import Derived.WalkSmall
import Derived.WalkLawsBesides
import Derived.Defers
import Derived.Recover
import Derived.Laws.Pointers
namespace Go.Proofs.Ytjfmilfplidepaa
open Go.RowKit
set_option linter.unusedVariables false
set_option maxRecDepth 100000

theorem cmade_anyI {w : World} {B : Nat} (h0 : w.cell? ⟨B, 0, none⟩ = some (.bool true)) : Calls Try.prog 34 #[.pointer (some ⟨B, 0, none⟩)] w fun e w' => e = .returned (.bool true) ∧ w' = w := by
  go_enter Try.func34, Try.ntmps34
  go_wp2
  go_ret
  exact ⟨rfl, rfl⟩

theorem catch_idleI (p : Addr) (w : World) :
    CallsD Try.prog 45 #[.pointer (some p)] .returning w fun e u' w' => e = .returned (.tuple #[]) ∧ u' = .returning ∧ w' = w := by
  refine callsD_of_wpS Try.func45 rfl fun c₀ cs hu => ?_
  apply wpS_seq
  apply wpS_region
  simp [wpOpsS, go_sem, recoverD, hu, Try.ntmps45, Exit.thenS]
  refine wpS_cond (t := false) (by simp [Act.eval, Array.replicate]) ?_
  simp only [Bool.false_eq_true, if_false]
  refine wpS_of_wp (wp_skip ?_)
  cases c₀
  simp_all [bodyPostS, results, Try.results45]

theorem csame_anyI (a b : Int) (w : World) :
    Calls Try.prog 35 #[(.int .i64 a), (.int .i64 b)] w fun e w' => e = .returned (.bool (decide (a = b))) ∧ Below w.heap.size w w' := by
  have hmf : ∀ (fn : Fn) (first cap : Array Value) (w : World), (Instr.makeFunc fn first cap).run Try.prog w = .ok (.func fn first cap) w := fun _ _ _ _ => rfl
  have hB : ∀ v, Below w.heap.size w ((w.alloc (.cells #[.bool false] 4)).setCell ⟨w.heap.size, 0, none⟩ v) := fun v => ((Below.refl _ w).alloc (Nat.le_refl _) _).setCell (by simp) _
  have HB : Hid _ := hB
  clear hB
  go_enter_defers Try.func35, Try.ntmps35
  go_wp2
  refine leaves_cons (f := 45) (args := #[.pointer (some ⟨w.heap.size, 0, none⟩)]) (by simp) (by simp [go_sem]) ?_
  refine (catch_idleI ⟨w.heap.size, 0, none⟩ _).mono ?_
  rintro e u' w'' ⟨rfl, rfl, rfl⟩
  simp [Leaves, settle, results, Try.results35, go_sem]
  exact ⟨by by_cases h : a = b <;> simp [h], (Below.refl _ w).alloc (Nat.le_refl _) _⟩

/-- A cell: its value, how often it was changed. -/
abbrev CeI (w : World) (B : Nat) (x : Int) (n : Int) : Prop := Bk w B 69 #[.bool true, (.int .i64 x), .int .i64 n]

theorem newCell_anyI (x : Int) (w : World) : Calls Try.prog 8 #[(.int .i64 x)] w fun e w' => e = .returned (.pointer (some ⟨w.heap.size, 0, none⟩)) ∧ w' = w.alloc (.cells #[.bool true, (.int .i64 x), .int .i64 0] 69) := by
  go_enter Try.func8, Try.ntmps8
  go_wp2
  go_ret
  exact ⟨rfl, rfl⟩

theorem cload_anyI {w : World} {B : Nat} {x : Int} {n : Int} (h : CeI w B x n) : Calls Try.prog 15 #[.pointer (some ⟨B, 0, none⟩)] w fun e w' => e = .returned (.tuple #[(.int .i64 x), .int .i64 n]) ∧ ∃ k, w' = w.drewN k := by
  have c0 : w.cell? ⟨B, 0, none⟩ = some (.bool true) := h.cell 0
  have c1 : w.cell? ⟨B, 1, none⟩ = some (.int .i64 x) := h.cell 1
  have c2 : w.cell? ⟨B, 2, none⟩ = some (.int .i64 n) := h.cell 2
  clear h
  go_enter Try.func15, Try.ntmps15
  go_wp2_with fail
  refine (cmade_anyI c0).mono ?_
  rintro e w1 ⟨rfl, rfl⟩
  go_wp2_with fail
  go_quiet (fail)
  go_wp2
  go_ret2
  exact ⟨rfl, _, rfl⟩

theorem cset_anyI {w : World} {B : Nat} {x : Int} {n : Int} (h : CeI w B x n) (y : Int) : Calls Try.prog 12 #[.pointer (some ⟨B, 0, none⟩), (.int .i64 y)] w fun e w' => e = .returned (.int .i64 (wrap64 (n + 1))) ∧ CeI w' B y (wrap64 (n + 1)) ∧ Tn [B] w w' := by
  have c0 : w.cell? ⟨B, 0, none⟩ = some (.bool true) := h.cell 0
  have c1 : w.cell? ⟨B, 1, none⟩ = some (.int .i64 x) := h.cell 1
  have f1 := h.frozen 1
  have h1 := h.set 1 (.int .i64 y)
  have c2 : (w.setCell ⟨B, 1, none⟩ (.int .i64 y)).cell? ⟨B, 2, none⟩ = some (.int .i64 n) := h1.cell 2
  have f2 := h1.frozen 2
  have h2 := h1.set 2 (.int .i64 (wrap64 (n + 1)))
  have c3 : ((w.setCell ⟨B, 1, none⟩ (.int .i64 y)).setCell ⟨B, 2, none⟩ (.int .i64 (wrap64 (n + 1)))).cell? ⟨B, 2, none⟩ = some (.int .i64 (wrap64 (n + 1))) := h2.cell 2
  have HK : Hid (CeI ((w.setCell ⟨B, 1, none⟩ (.int .i64 y)).setCell ⟨B, 2, none⟩ (.int .i64 (wrap64 (n + 1)))) B y (wrap64 (n + 1)) ∧ Tn [B] w ((w.setCell ⟨B, 1, none⟩ (.int .i64 y)).setCell ⟨B, 2, none⟩ (.int .i64 (wrap64 (n + 1))))) := ⟨h2, ((Tn.refl [B] w).setCell (.inl (by simp)) _).setCell (.inl (by simp)) _⟩
  clear h h1 h2
  go_enter Try.func12, Try.ntmps12
  go_wp2_with fail
  refine (cmade_anyI c0).mono ?_
  rintro e w1 ⟨rfl, rfl⟩
  go_wp2
  go_ret
  exact ⟨rfl, HK.out⟩

theorem cswap_hitI {w : World} {B : Nat} {x : Int} {n : Int} (h : CeI w B x n) (b : Int) : Calls Try.prog 10 #[.pointer (some ⟨B, 0, none⟩), (.int .i64 x), (.int .i64 b)] w fun e w' => e = .returned (.bool true) ∧ CeI w' B b (wrap64 (n + 1)) ∧ Tn [B] w w' := by
  have c0 : w.cell? ⟨B, 0, none⟩ = some (.bool true) := h.cell 0
  have c1 : w.cell? ⟨B, 1, none⟩ = some (.int .i64 x) := h.cell 1
  have HK : Hid (CeI w B x n) := h
  clear h
  go_enter Try.func10, Try.ntmps10
  go_wp2_with fail
  refine (cmade_anyI c0).mono ?_
  rintro e w1 ⟨rfl, rfl⟩
  go_wp2_with fail
  refine (csame_anyI x x w1).mono ?_
  rintro e w2 ⟨rfl, hb⟩
  have HT : Hid (Tn [B] w1 w2 ∧ CeI w2 B x n) := ⟨Tn.of_below hb _, HK.out.below hb HK.out.lt⟩
  clear hb
  have hd : decide (x = x) = true := by simp
  rw [hd]
  clear hd
  go_wp2_with fail
  refine (cset_anyI HT.out.2 b).mono ?_
  rintro e w3 ⟨rfl, hk, ht⟩
  have HE : Hid (CeI w3 B b (wrap64 (n + 1)) ∧ Tn [B] w1 w3) := ⟨hk, HT.out.1.trans ht (by simp)⟩
  clear hk ht
  go_wp2
  go_ret
  exact ⟨rfl, HE.out⟩

theorem cswap_missI {w : World} {B : Nat} {x : Int} {n : Int} (h : CeI w B x n) (a b : Int) (hxa : ¬ x = a) : Calls Try.prog 10 #[.pointer (some ⟨B, 0, none⟩), (.int .i64 a), (.int .i64 b)] w fun e w' => e = .returned (.bool false) ∧ CeI w' B x n ∧ Below w.heap.size w w' := by
  have c0 : w.cell? ⟨B, 0, none⟩ = some (.bool true) := h.cell 0
  have c1 : w.cell? ⟨B, 1, none⟩ = some (.int .i64 x) := h.cell 1
  have HK : Hid (CeI w B x n) := h
  have HX : Hid (decide (x = a) = false) := by simp [Hid, hxa]
  clear h hxa
  go_enter Try.func10, Try.ntmps10
  go_wp2_with fail
  refine (cmade_anyI c0).mono ?_
  rintro e w1 ⟨rfl, rfl⟩
  go_wp2_with fail
  refine (csame_anyI x a w1).mono ?_
  rintro e w2 ⟨rfl, hb⟩
  have HT : Hid (CeI w2 B x n ∧ Below w1.heap.size w1 w2) := ⟨HK.out.below hb HK.out.lt, hb⟩
  clear hb
  rw [HX.out]
  go_wp2
  go_ret
  exact ⟨rfl, HT.out⟩

theorem cclone_anyI {w : World} {B : Nat} {x : Int} {n : Int} (h : CeI w B x n) : Calls Try.prog 14 #[.pointer (some ⟨B, 0, none⟩)] w fun e w' => e = .returned (.pointer (some ⟨w.heap.size, 0, none⟩)) ∧ w' = w.alloc (.cells #[.bool true, (.int .i64 x), .int .i64 n] 69) := by
  have c0 : w.cell? ⟨B, 0, none⟩ = some (.bool true) := h.cell 0
  have c1 : w.cell? ⟨B, 1, none⟩ = some (.int .i64 x) := h.cell 1
  have c2 : w.cell? ⟨B, 2, none⟩ = some (.int .i64 n) := h.cell 2
  clear h
  go_enter Try.func14, Try.ntmps14
  go_wp2_with fail
  refine (cmade_anyI c0).mono ?_
  rintro e w1 ⟨rfl, rfl⟩
  go_wp2
  go_ret
  exact ⟨rfl, rfl⟩
end Go.Proofs.Ytjfmilfplidepaa
