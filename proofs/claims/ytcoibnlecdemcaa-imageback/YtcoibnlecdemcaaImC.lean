/- Chunks as plain data; what chunks are together, by the code. -/
import Derived.Test.YtcoibnlecdemcaaImM
import Derived.BigQuiet
import Derived.Deep.QuietTactic
namespace Go.Proofs.Ytcoibnlecdemcaa
open Go.RowKit
set_option linter.unusedVariables false
set_option maxRecDepth 100000

/-- A chunk, as it lies. -/
structure Ck where
  num : Int
  p : Option Addr
  n : Nat
  c : Nat
  last : Bool
def Ck.cells (x : Ck) : List Value := [.int .i64 x.num, .slice x.p x.n x.c, .bool x.last]
abbrev Ck.v (x : Ck) : Value := .agg #[.int .i64 x.num, .slice x.p x.n x.c, .bool x.last]
theorem ckinfo : (Try.prog.info? 71).map (fun i => (i.zero, i.size, i.bytes)) = some (some (.agg #[.int .i64 0, .slice none 0 0, .bool false]), 3, 40) := by kernel_rfl
theorem ckknd : Knd Ck.cells 3 := ⟨fun _ => rfl, fun x u hu => by simp [Ck.cells] at hu; rcases hu with rfl | rfl | rfl <;> rfl, by decide⟩
abbrev Cks (w : World) (p : Option Addr) (l : List Ck) : Prop := Els Ck.cells 3 w p l
theorem Cks.cells {w : World} {p : Option Addr} {l : List Ck} (h : Cks w p l) {j : Nat} (hj : j < l.length) : ∃ b o x, p = some ⟨b, o, none⟩ ∧ l[j]? = some x ∧ w.cell? ⟨b, o + j * 3, none⟩ = some (.int .i64 x.num) ∧ w.cell? ⟨b, o + j * 3 + 1, none⟩ = some (.slice x.p x.n x.c) ∧ w.cell? ⟨b, o + j * 3 + 2, none⟩ = some (.bool x.last) := by
  obtain ⟨b, o, x, hp, hx, hc⟩ := Els.at h hj
  exact ⟨b, o, x, hp, hx, hc 0 _ rfl, hc 1 _ rfl, hc 2 _ rfl⟩

theorem ins_sts {w : World} {p : Option Addr} {n c : Nat} {l : List St} (h : Rk.InS w p n c l) : Sts w p l := fun hl => h.cel (by rw [← h.lenq]; exact hl)

namespace Bl
/-- Whether a key may stand behind pairs. -/
def gt (k b : ByteArray) : Bool := !Op.bytesLess k.toList b.toList && !k.toList == b.toList
theorem gt_le (k b : ByteArray) : gt k b = !Rk.Rc.le k b := by unfold gt Rk.Rc.le; cases Op.bytesLess k.toList b.toList <;> simp
def above (k : ByteArray) (out : List St) : Bool := match out.getLast? with | some b => gt k b.key | none => true
def ordE (out : List St) (s : List St) : Int := match s with | [] => 0 | a :: _ => if above a.key out then 0 else 150
def stepE (N k : Nat) (out : List St) (x : Ck) (s : List St) : Int := if Rk.Rc.chE x.num s = 0 then (if x.num = (k : Int) ∧ x.last = decide (k + 1 = N) then ordE out s else 1) else Rk.Rc.chE x.num s
def run (f : Ck → List St) (N : Nat) : Nat → List St → List Ck → Int × List St
  | _, out, [] => (0, out)
  | k, out, x :: r => if stepE N k out x (f x) = 0 then run f N (k + 1) (out ++ f x) r else (stepE N k out x (f x), [])
def res (f : Ck → List St) (l : List Ck) : Int × List St := if l.length = 0 then (1, []) else run f l.length 0 [] l
theorem above_nil (k : ByteArray) : above k [] = true := rfl
theorem above_last {k : ByteArray} {out : List St} {j : Nat} {b : St} (hj : out.length = j + 1) (hb : out[j]? = some b) : above k out = gt k b.key := by
  unfold above
  rw [List.getLast?_eq_getElem?, hj, Nat.add_sub_cancel, hb]
theorem step_len {N k : Nat} {out s : List St} {x : Ck} (h : stepE N k out x s = 0) : s.length ≤ 16 ∧ k ≤ 4095 := by
  unfold stepE at h
  split at h
  · rename_i h0
    split at h
    · rename_i h1
      unfold Rk.Rc.chE at h0
      split at h0
      · omega
      · rename_i h2
        omega
    · omega
  · rename_i h0
    exact absurd h h0
theorem run_ok {f : Ck → List St} {N k : Nat} {out : List St} {x : Ck} {r : List Ck} (h : stepE N k out x (f x) = 0) : run f N k out (x :: r) = run f N (k + 1) (out ++ f x) r := by rw [run, if_pos h]
theorem run_no {f : Ck → List St} {N k : Nat} {out : List St} {x : Ck} {r : List Ck} (h : ¬ stepE N k out x (f x) = 0) : run f N k out (x :: r) = (stepE N k out x (f x), []) := by rw [run, if_neg h]
end Bl

set_option maxHeartbeats 1000000 in
theorem isAbove_any (x : St) (p : Option Addr) (n c : Nat) (l : List St) (w : World) (hn : l.length = n) (hx : Sts w p l) (hl : n ≤ 4611686018427387904) : Calls Try.prog 60 #[x.v, .slice p n c] w fun e w' => e = .returned (.bool (Bl.above x.key l)) ∧ Below w.heap.size w w' := by
  obtain ⟨w1, hw1⟩ : ∃ w1, w.alloc (.cells #[.string x.key, .string x.val, .int .i64 x.ts] 52) = w1 := ⟨_, rfl⟩
  have hb1 : Below w.heap.size w w1 := by rw [← hw1]; exact (Below.refl _ _).alloc (Nat.le_refl _) _
  have k1 : Bk w1 w.heap.size 52 #[.string x.key, .string x.val, .int .i64 x.ts] := by rw [← hw1]; exact Bk.new _ _ _
  have d0 : w1.cell? ⟨w.heap.size, 0, none⟩ = some (.string x.key) := k1.cell 0
  have HB1 : Hid (Below w.heap.size w w1) := hb1
  cases n with
  | zero =>
    have HA : Hid (Bl.above x.key l = true) := by rw [List.eq_nil_of_length_eq_zero hn]; exact Bl.above_nil _
    clear hn hx hl hb1 k1
    go_enter Try.func60, Try.ntmps60
    go_wp2_with fail
    go_quiet (fail)
    go_wp2
    go_ret
    exact ⟨by rw [HA.out]; rfl, below_drewN HB1.out nq⟩
  | succ k =>
    obtain ⟨b, o, y, rfl, hy, e0, -, -⟩ := Sts.cells (Els.below hx hb1 (Nat.le_refl _)) (j := k) (by omega)
    have HA : Hid (Bl.above x.key l = Bl.gt x.key y.key) := Bl.above_last hn hy
    obtain ⟨n, hN⟩ : ∃ n, k + 1 = n := ⟨_, rfl⟩
    rw [hN] at hl ⊢
    have hsub : (n : Int) - 1 = (k : Int) := by omega
    have hli : (k : Int) < (n : Int) := by omega
    have hnz : ((n : Int) == 0) = false := by simp; omega
    clear hn hx hb1 k1 hy hN
    go_enter Try.func60, Try.ntmps60
    go_wp2_with fail
    go_quiet (fail)
    go_wp2
    go_ret
    exact ⟨by rw [HA.out]; rfl, below_drewN HB1.out nq⟩
end Go.Proofs.Ytcoibnlecdemcaa
