/- Epochs: rows of retired things, and appends to them. -/
import Derived.Test.YtbdcdiihaecheaaApA
import Derived.Handy
import Derived.BigQuiet
import Derived.Laws.OwnMore
import Derived.Laws.LoneSync
import Derived.Tactics2
import Derived.WalkSmall
import Derived.Maps.AppendAt
import Derived.WalkLawsBesides
namespace Go.Proofs.Ytbdcdiihaecheaa
open Go.RowKit
set_option linter.unusedVariables false
set_option maxRecDepth 100000

/-- sync/atomic.SwapT: the number is stored, and what was there is handed back. -/
theorem run_call_swap {P : Program} {f : FuncId} {fn : Func} (hf : P.funcs[f]? = some fn) (hname : (fn.name == "runtime.NumGoroutine") = false) (hb : fn.body.isNone = true) (hn : Extern.findNext fn = none) (k : IntKind)
    (he : Extern.find fn = some (Extern.Atomic.swapT (.int k))) {a : Addr} {x y : Int} {w : World} (hc : w.cell? a = some (.int k x)) (hz : w.frozen? a = false) :
    (callFunc f #[.pointer (some a), .int k y]).run P w = .ok (.value (.int k x)) (w.setCell a (.int k y)) := by
  rw [run_callFunc_extern hf hname hb hn he]
  change (Sem.run P (do
    let a' ← asAddr (.pointer (some a))
    let old ← Extern.Atomic.read (.int k) a'
    store a' (.int k y) .atomic
    pure old) w).andThen _ = _
  simp [Extern.Atomic.read, asAddr, hc, hz, run_store P w a (.int k y) .atomic rfl, Result.andThen]

/-- Something retired. -/
structure Rt where
  k : Int
  s : Int
  g : Int

def Rt.cells (x : Rt) : List Value := [.int .i64 x.k, .int .i64 x.s, .int .i64 x.g]
abbrev Rt.val (x : Rt) : Value := .agg #[.int .i64 x.k, .int .i64 x.s, .int .i64 x.g]
def rts (l : List Rt) : List Value := (l.map Rt.cells).flatten
def rtAt (l : List Rt) (i : Nat) : Rt := l.getD i ⟨0, 0, 0⟩

theorem rts_append (l m : List Rt) : rts (l ++ m) = rts l ++ rts m := by simp [rts]
theorem rts_length (l : List Rt) : (rts l).length = l.length * 3 := by
  induction l with
  | nil => rfl
  | cons s us ih =>
    simp only [rts, List.map_cons, List.flatten_cons, List.length_append] at ih ⊢
    rw [ih]
    simp [Rt.cells]
    omega
theorem rts_at (l : List Rt) (i j : Nat) (hi : i < l.length) (hj : j < 3) : (rts l)[i * 3 + j]? = (rtAt l i).cells[j]? := by
  induction l generalizing i with
  | nil => simp at hi
  | cons s us ih =>
    have e : rts (s :: us) = s.cells ++ rts us := rfl
    rw [e]
    cases i with
    | zero =>
      rw [List.getElem?_append_left (by simp [Rt.cells]; omega)]
      simp [rtAt]
    | succ i =>
      rw [List.getElem?_append_right (by simp [Rt.cells]; omega)]
      have : (i + 1) * 3 + j - s.cells.length = i * 3 + j := by simp [Rt.cells]; omega
      rw [this, ih i (by simpa using hi)]
      simp [rtAt]
theorem rtAt_mem {l : List Rt} {i : Nat} (hi : i < l.length) : l[i]? = some (rtAt l i) := by
  simp [rtAt, List.getD, hi]

/-- A row of them in memory. -/
def Rr (w : World) (v : Value) (l : List Rt) : Prop := w.ownsRow 0 59 3 v l.length (rts l)

theorem Rr.nil (w : World) : Rr w (.slice none 0 0) [] := World.ownsRow_nil _ _ _ _
theorem Rr.tn {S : List Nat} {w w' : World} {v : Value} {l : List Rt} (h : Rr w v l) (ht : Tn S w w') (hn : ∀ k, v.ownBlock = some k → k ∉ S) : Rr w' v l := owns_tn h ht hn
theorem Rr.lt {w : World} {v : Value} {l : List Rt} (h : Rr w v l) : ∀ k, v.ownBlock = some k → k < w.heap.size := row_block h
theorem Rr.form {w : World} {v : Value} {l : List Rt} (h : Rr w v l) : ∃ p c, v = .slice p l.length c ∧ l.length ≤ c := row_form h
theorem Rr.has {w : World} {v : Value} {l : List Rt} (h : Rr w v l) (hl : 0 < l.length) : ∃ g c, v = .slice (some ⟨g, 0, none⟩) l.length c := row_some h hl
theorem Rr.cell {w : World} {g c n : Nat} {l : List Rt} (hn : l.length = n) (h : Rr w (.slice (some ⟨g, 0, none⟩) n c) l) (i : Nat) (hi : i < n) :
    w.cell? ⟨g, i * 3, none⟩ = some (.int .i64 (rtAt l i).k) ∧ w.cell? ⟨g, i * 3 + 1, none⟩ = some (.int .i64 (rtAt l i).s) ∧ w.cell? ⟨g, i * 3 + 2, none⟩ = some (.int .i64 (rtAt l i).g) := by
  subst hn
  refine ⟨?_, ?_, ?_⟩
  · rw [World.ownsRow.cellAt h (i * 3) (by omega)]
    exact rts_at l i 0 hi (by omega)
  · rw [World.ownsRow.cellAt h (i * 3 + 1) (by omega)]
    exact rts_at l i 1 hi (by omega)
  · rw [World.ownsRow.cellAt h (i * 3 + 2) (by omega)]
    exact rts_at l i 2 hi (by omega)

theorem rtinfo : (Try.prog.info? 59).map (fun i => (i.zero, i.size, i.bytes)) = some (some (.agg #[.int .i64 0, .int .i64 0, .int .i64 0]), 3, 24) := by kernel_rfl
theorem rtone (x : Rt) : ∀ u ∈ x.cells, u.oneCell' = true := by
  intro u hu
  simp only [Rt.cells, List.mem_cons, List.not_mem_nil, or_false] at hu
  rcases hu with rfl | rfl | rfl <;> rfl

end Go.Proofs.Ytbdcdiihaecheaa
