/- Atomic numbers (free of any package). -/
import Derived.Test.YtdgphlghmjnjfaaApA
namespace Go.Proofs.Ytdgphlghmjnjfaa
open Go.RowKit
set_option linter.unusedVariables false
set_option maxRecDepth 100000

/-- sync/atomic.SwapT: the number is stored, and what was there is handed back. -/
theorem run_call_swap {P : Program} {f : FuncId} {fn : Func} (hf : P.funcs[f]? = some fn) (hname : (fn.name == "runtime.NumGoroutine") = false) (hb : fn.body.isNone = true) (hn : Extern.findNext fn = none) (k : IntKind)
    (he : Extern.find fn = some (Extern.Atomic.swapT (.int k))) {a : Addr} {x y : Int} {w : World} (hc : w.cell? a = some (.int k x)) (hz : w.frozen? a = false) :
    (callFunc f #[.pointer (some a), .int k y]).run P w = .ok (.value (.int k x)) (w.setCell a (.int k y)) := by
  rw [run_callFunc_extern hf hname hb hn he]
  change (Sem.run P (do
    let a' ← asAddr (.pointer (some a))
    let old ← Extern.Atomic.read (.int k) a'
    store a' (.int k y) .atomic
    pure old) w).andThen _ = _
  simp [Extern.Atomic.read, asAddr, hc, hz, run_store P w a (.int k y) .atomic rfl, Result.andThen]

theorem aload_any {w : World} {B o : Nat} {x : Int} (hc : w.cell? ⟨B, o, none⟩ = some (.int .i64 x)) :
    Calls Try.prog 33 #[.pointer (some ⟨B, o, none⟩)] w fun e w' => e = .returned (.int .i64 x) ∧ w' = w := by
  have hl := run_call_load (P := Try.prog) Try.func45 (by kernel_rfl) (by kernel_rfl) (by kernel_rfl) .i64 (by kernel_rfl) hc
  go_enter Try.func33, Try.ntmps33
  go_wp2
  go_ret
  exact ⟨rfl, rfl⟩

theorem aswap_any {w : World} {B o : Nat} {x y : Int} (hc : w.cell? ⟨B, o, none⟩ = some (.int .i64 x)) (hf : w.frozen? ⟨B, o, none⟩ = false) :
    Calls Try.prog 40 #[.pointer (some ⟨B, o, none⟩), .int .i64 y] w fun e w' => e = .returned (.int .i64 x) ∧ w' = w.setCell ⟨B, o, none⟩ (.int .i64 y) := by
  have hs := run_call_swap (P := Try.prog) Try.func48 (by kernel_rfl) (by kernel_rfl) (by kernel_rfl) .i64 (by kernel_rfl) (y := y) hc hf
  go_enter Try.func40, Try.ntmps40
  go_wp2
  go_ret
  exact ⟨rfl, rfl⟩

theorem astore_any {w : World} {B o : Nat} {x y : Int} (hc : w.cell? ⟨B, o, none⟩ = some (.int .i64 x)) (hf : w.frozen? ⟨B, o, none⟩ = false) :
    Calls Try.prog 42 #[.pointer (some ⟨B, o, none⟩), .int .i64 y] w fun e w' => e = .returned (.tuple #[]) ∧ w' = w.setCell ⟨B, o, none⟩ (.int .i64 y) := by
  have hs := run_call_store (P := Try.prog) Try.func50 (by kernel_rfl) (by kernel_rfl) (by kernel_rfl) (by kernel_rfl) (k := .i64) (y := y) hc hf
  go_enter Try.func42, Try.ntmps42
  go_wp2
  go_end0
  exact ⟨rfl, rfl⟩

theorem acas_hit {w : World} {B o : Nat} {x y : Int} (hc : w.cell? ⟨B, o, none⟩ = some (.int .i64 x)) (hf : w.frozen? ⟨B, o, none⟩ = false) :
    Calls Try.prog 39 #[.pointer (some ⟨B, o, none⟩), .int .i64 x, .int .i64 y] w fun e w' => e = .returned (.bool true) ∧ w' = w.setCell ⟨B, o, none⟩ (.int .i64 y) := by
  have hs := run_call_cas_hit (P := Try.prog) Try.func47 (by kernel_rfl) (by kernel_rfl) (by kernel_rfl) .i64 (by kernel_rfl) (y := y) hc hf
  go_enter Try.func39, Try.ntmps39
  go_wp2
  go_ret
  exact ⟨rfl, rfl⟩

theorem acas_miss {w : World} {B o : Nat} {x z y : Int} (hc : w.cell? ⟨B, o, none⟩ = some (.int .i64 x)) (hf : w.frozen? ⟨B, o, none⟩ = false) (hne : ¬ x = z) :
    Calls Try.prog 39 #[.pointer (some ⟨B, o, none⟩), .int .i64 z, .int .i64 y] w fun e w' => e = .returned (.bool false) ∧ w' = w := by
  have hs := run_call_cas_miss (P := Try.prog) Try.func47 (by kernel_rfl) (by kernel_rfl) (by kernel_rfl) .i64 (by kernel_rfl) (y := y) hc hf hne
  go_enter Try.func39, Try.ntmps39
  go_wp2
  go_ret
  exact ⟨rfl, rfl⟩

theorem aadd_any {w : World} {B o n : Nat} (hc : w.cell? ⟨B, o, none⟩ = some (.int .i64 (n : Int))) (hf : w.frozen? ⟨B, o, none⟩ = false) (hn : n < 9223372036854775807) :
    Calls Try.prog 35 #[.pointer (some ⟨B, o, none⟩), .int .i64 1] w fun e w' => e = .returned (.int .i64 ((n + 1 : Nat) : Int)) ∧ w' = w.setCell ⟨B, o, none⟩ (.int .i64 ((n + 1 : Nat) : Int)) := by
  have hs := run_call_add (P := Try.prog) Try.func46 (by kernel_rfl) (by kernel_rfl) (by kernel_rfl) .i64 (by kernel_rfl) (y := 1) (s := ((n + 1 : Nat) : Int)) hc hf (by simp [go_sem]; rw [IntKind.wrap_i64]; omega)
  go_enter Try.func35, Try.ntmps35
  go_wp2
  go_ret
  exact ⟨rfl, rfl⟩

end Go.Proofs.Ytdgphlghmjnjfaa
