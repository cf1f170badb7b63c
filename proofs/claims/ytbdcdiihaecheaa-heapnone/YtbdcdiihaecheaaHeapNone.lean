/- A heap that no call made answers so, whatever it is asked with; beside it a made one installs a version, reads it and lets it go. -/
import Derived.Test.YtbdcdiihaecheaaHeapNoneA
namespace Go.Proofs.Ytbdcdiihaecheaa
open Go.ChangeShapes Go.WideShapes Go.ChangeAt Go.RowKit
set_option linter.unusedVariables false
set_option maxRecDepth 100000

/-- An operation of a script. -/
structure Hop where
  dd : Int
  s : Int
  a : Int
  b : Int
  use : Int
  key : ByteArray
  v : Vs
  ts : Int
  os : Int
  og : Int
  kind : Int

def Hop.cells (o : Hop) : List Value := [.int .i64 o.dd, .int .i64 o.s, .int .i64 o.a, .int .i64 o.b, .int .i64 o.use, .string o.key, .int .i64 o.v.ts, .string o.v.val, .bool o.v.del, .int .i64 o.ts, .int .i64 o.os, .int .i64 o.og, .int .i64 o.kind]
abbrev Hop.val (o : Hop) : Value := .agg #[.int .i64 o.dd, .int .i64 o.s, .int .i64 o.a, .int .i64 o.b, .int .i64 o.use, .string o.key, .int .i64 o.v.ts, .string o.v.val, .bool o.v.del, .int .i64 o.ts, .int .i64 o.os, .int .i64 o.og, .int .i64 o.kind]
def I9 (x : Int) : Prop := -9223372036854775808 ≤ x ∧ x ≤ 9223372036854775807
def Hop.ok (o : Hop) : Prop := (I9 o.dd ∧ I9 o.s ∧ I9 o.a ∧ I9 o.b ∧ I9 o.use) ∧ o.key.size ≤ 9223372036854775807 ∧ o.v.ok ∧ I9 o.ts ∧ I9 o.os ∧ I9 o.og ∧ I9 o.kind

theorem list13 {α : Type} {l : List α} (h : l.length = 13) : ∃ c0 c1 c2 c3 c4 c5 c6 c7 c8 c9 c10 c11 c12, l = [c0, c1, c2, c3, c4, c5, c6, c7, c8, c9, c10, c11, c12] := by
  match l, h with
  | [c0, c1, c2, c3, c4, c5, c6, c7, c8, c9, c10, c11, c12], _ => exact ⟨c0, c1, c2, c3, c4, c5, c6, c7, c8, c9, c10, c11, c12, rfl⟩
theorem list10 {α : Type} {l : List α} (h : l.length = 10) : ∃ c0 c1 c2 c3 c4 c5 c6 c7 c8 c9, l = [c0, c1, c2, c3, c4, c5, c6, c7, c8, c9] := by
  match l, h with
  | [c0, c1, c2, c3, c4, c5, c6, c7, c8, c9], _ => exact ⟨c0, c1, c2, c3, c4, c5, c6, c7, c8, c9, rfl⟩

section
variable {H : Type} {enc : TypeId × Value → H} {W : World} {fuel : Nat} {cs : List Value} {x : DataW H × List MemPlace}

theorem in_hnd (hf : DataW.trod enc Try.prog W 0 (fun _ => true) true fuel 36 cs = some x) : ∃ s g : Int, cs = [.int .i64 s, .int .i64 g] ∧ I9 s ∧ I9 g := by
  obtain ⟨ys, n, -, rfl, hlen, hys, hall⟩ := DataW.trod_struct Try.underlying36 hf
  have eT : Try.prog.cellsOf 36 = 2 := by kernel_rfl
  rw [eT] at hlen
  obtain ⟨c0, c1, rfl⟩ := list2 hlen
  obtain ⟨y0, y1, rfl⟩ := list2 (l := ys) hys
  have h0 : DataW.trod enc Try.prog W 0 (fun _ => true) true n 3 [c0] = some y0 := by
    have h : DataW.trod enc Try.prog W 0 (fun _ => true) true n 3 (List.take (Try.prog.cellsOf 3) (List.drop 0 [c0, c1])) = some y0 := hall 0 _ rfl
    rw [show Try.prog.cellsOf 3 = 1 by kernel_rfl] at h
    exact h
  have h1 : DataW.trod enc Try.prog W 0 (fun _ => true) true n 2 [c1] = some y1 := by
    have h : DataW.trod enc Try.prog W 0 (fun _ => true) true n 2 (List.take (Try.prog.cellsOf 2) (List.drop 1 [c0, c1])) = some y1 := hall 1 _ rfl
    rw [show Try.prog.cellsOf 2 = 1 by kernel_rfl] at h
    exact h
  obtain ⟨v0, q0, _, w0⟩ := DataW.trod_int Try.underlying3 h0
  obtain ⟨v1, q1, _, w1⟩ := DataW.trod_int Try.underlying2 h1
  simp only [List.cons.injEq, and_true] at q0 q1
  subst q0 q1
  exact ⟨v0, v1, rfl, bounds_i64 w0, bounds_i64 w1⟩

theorem in_hop (hf : DataW.trod enc Try.prog W 0 (fun _ => true) true fuel 38 cs = some x) : ∃ g : Hop, cs = g.cells ∧ g.ok := by
  obtain ⟨ys, n, -, rfl, hlen, hys, hall⟩ := DataW.trod_struct Try.underlying38 hf
  have eT : Try.prog.cellsOf 38 = 13 := by kernel_rfl
  rw [eT] at hlen
  obtain ⟨c0, c1, c2, c3, c4, c5, c6, c7, c8, c9, c10, c11, c12, rfl⟩ := list13 hlen
  obtain ⟨y0, y1, y2, y3, y4, y5, y6, y7, y8, y9, rfl⟩ := list10 (l := ys) hys
  have h0 : DataW.trod enc Try.prog W 0 (fun _ => true) true n 3 [c0] = some y0 := by
    have h : DataW.trod enc Try.prog W 0 (fun _ => true) true n 3 (List.take (Try.prog.cellsOf 3) (List.drop 0 [c0, c1, c2, c3, c4, c5, c6, c7, c8, c9, c10, c11, c12])) = some y0 := hall 0 _ rfl
    rw [show Try.prog.cellsOf 3 = 1 by kernel_rfl] at h
    exact h
  have h1 : DataW.trod enc Try.prog W 0 (fun _ => true) true n 3 [c1] = some y1 := by
    have h : DataW.trod enc Try.prog W 0 (fun _ => true) true n 3 (List.take (Try.prog.cellsOf 3) (List.drop 1 [c0, c1, c2, c3, c4, c5, c6, c7, c8, c9, c10, c11, c12])) = some y1 := hall 1 _ rfl
    rw [show Try.prog.cellsOf 3 = 1 by kernel_rfl] at h
    exact h
  have h2 : DataW.trod enc Try.prog W 0 (fun _ => true) true n 3 [c2] = some y2 := by
    have h : DataW.trod enc Try.prog W 0 (fun _ => true) true n 3 (List.take (Try.prog.cellsOf 3) (List.drop 2 [c0, c1, c2, c3, c4, c5, c6, c7, c8, c9, c10, c11, c12])) = some y2 := hall 2 _ rfl
    rw [show Try.prog.cellsOf 3 = 1 by kernel_rfl] at h
    exact h
  have h3 : DataW.trod enc Try.prog W 0 (fun _ => true) true n 3 [c3] = some y3 := by
    have h : DataW.trod enc Try.prog W 0 (fun _ => true) true n 3 (List.take (Try.prog.cellsOf 3) (List.drop 3 [c0, c1, c2, c3, c4, c5, c6, c7, c8, c9, c10, c11, c12])) = some y3 := hall 3 _ rfl
    rw [show Try.prog.cellsOf 3 = 1 by kernel_rfl] at h
    exact h
  have h4 : DataW.trod enc Try.prog W 0 (fun _ => true) true n 3 [c4] = some y4 := by
    have h : DataW.trod enc Try.prog W 0 (fun _ => true) true n 3 (List.take (Try.prog.cellsOf 3) (List.drop 4 [c0, c1, c2, c3, c4, c5, c6, c7, c8, c9, c10, c11, c12])) = some y4 := hall 4 _ rfl
    rw [show Try.prog.cellsOf 3 = 1 by kernel_rfl] at h
    exact h
  have h5 : DataW.trod enc Try.prog W 0 (fun _ => true) true n 9 [c5] = some y5 := by
    have h : DataW.trod enc Try.prog W 0 (fun _ => true) true n 9 (List.take (Try.prog.cellsOf 9) (List.drop 5 [c0, c1, c2, c3, c4, c5, c6, c7, c8, c9, c10, c11, c12])) = some y5 := hall 5 _ rfl
    rw [show Try.prog.cellsOf 9 = 1 by kernel_rfl] at h
    exact h
  have h6 : DataW.trod enc Try.prog W 0 (fun _ => true) true n 34 [c6, c7, c8] = some y6 := by
    have h : DataW.trod enc Try.prog W 0 (fun _ => true) true n 34 (List.take (Try.prog.cellsOf 34) (List.drop 6 [c0, c1, c2, c3, c4, c5, c6, c7, c8, c9, c10, c11, c12])) = some y6 := hall 6 _ rfl
    rw [show Try.prog.cellsOf 34 = 3 by kernel_rfl] at h
    exact h
  have h7 : DataW.trod enc Try.prog W 0 (fun _ => true) true n 2 [c9] = some y7 := by
    have h : DataW.trod enc Try.prog W 0 (fun _ => true) true n 2 (List.take (Try.prog.cellsOf 2) (List.drop 9 [c0, c1, c2, c3, c4, c5, c6, c7, c8, c9, c10, c11, c12])) = some y7 := hall 7 _ rfl
    rw [show Try.prog.cellsOf 2 = 1 by kernel_rfl] at h
    exact h
  have h8 : DataW.trod enc Try.prog W 0 (fun _ => true) true n 36 [c10, c11] = some y8 := by
    have h : DataW.trod enc Try.prog W 0 (fun _ => true) true n 36 (List.take (Try.prog.cellsOf 36) (List.drop 10 [c0, c1, c2, c3, c4, c5, c6, c7, c8, c9, c10, c11, c12])) = some y8 := hall 8 _ rfl
    rw [show Try.prog.cellsOf 36 = 2 by kernel_rfl] at h
    exact h
  have h9 : DataW.trod enc Try.prog W 0 (fun _ => true) true n 3 [c12] = some y9 := by
    have h : DataW.trod enc Try.prog W 0 (fun _ => true) true n 3 (List.take (Try.prog.cellsOf 3) (List.drop 12 [c0, c1, c2, c3, c4, c5, c6, c7, c8, c9, c10, c11, c12])) = some y9 := hall 9 _ rfl
    rw [show Try.prog.cellsOf 3 = 1 by kernel_rfl] at h
    exact h
  obtain ⟨v0, q0, _, w0⟩ := DataW.trod_int Try.underlying3 h0
  obtain ⟨v1, q1, _, w1⟩ := DataW.trod_int Try.underlying3 h1
  obtain ⟨v2, q2, _, w2⟩ := DataW.trod_int Try.underlying3 h2
  obtain ⟨v3, q3, _, w3⟩ := DataW.trod_int Try.underlying3 h3
  obtain ⟨v4, q4, _, w4⟩ := DataW.trod_int Try.underlying3 h4
  obtain ⟨v5, q5, _, w5⟩ := DataW.trod_string Try.underlying9 h5
  obtain ⟨v6, q6, w6⟩ := in_ver h6
  obtain ⟨v7, q7, _, w7⟩ := DataW.trod_int Try.underlying2 h7
  obtain ⟨vs, vg, q8, w8, w89⟩ := in_hnd h8
  obtain ⟨v9, q9, _, w9⟩ := DataW.trod_int Try.underlying3 h9
  simp only [List.cons.injEq, and_true, Vs.cells] at q0 q1 q2 q3 q4 q5 q6 q7 q8 q9
  obtain ⟨q6a, q6b, q6c⟩ := q6
  obtain ⟨q8a, q8b⟩ := q8
  subst q0 q1 q2 q3 q4 q5 q6a q6b q6c q7 q8a q8b q9
  refine ⟨⟨v0, v1, v2, v3, v4, v5, v6, v7, vs, vg, v9⟩, rfl, ⟨bounds_i64 w0, bounds_i64 w1, bounds_i64 w2, bounds_i64 w3, bounds_i64 w4⟩, ?_, w6, bounds_i64 w7, w8, w89, bounds_i64 w9⟩
  unfold maxLen at w5
  exact w5
end

abbrev InHo (w : World) (p : Option Addr) (len cap : Nat) (l : List Hop) : Prop := InL Hop.cells Hop.ok 13 1099511627776 w p len cap l
end Go.Proofs.Ytbdcdiihaecheaa

namespace Go.Proofs.Ytbdcdiihaecheaa
open Go.ChangeShapes Go.WideShapes Go.ChangeAt Go.RowKit
open Go.ChangeMaps (open_string shut_string)
set_option linter.unusedVariables false
set_option maxRecDepth 100000

abbrev hpZero : Array Value := #[.pointer none, .pointer none, .pointer none, .bool false, .int .i64 0, .int .i64 0, .bool false, .int .i64 0, .int .i64 0, .bool false, .int .i64 0, .int .i64 0, .bool false, .int .i64 0, .int .i64 0, .bool false, .int .i64 0, .int .i64 0, .bool false, .int .i64 0, .int .i64 0, .bool false, .int .i64 0, .int .i64 0, .bool false, .int .i64 0, .int .i64 0, .bool false, .int .i64 0, .int .i64 0, .bool false, .int .i64 0, .int .i64 0, .bool false, .int .i64 0, .int .i64 0, .bool false, .int .i64 0, .int .i64 0, .bool false, .int .i64 0, .int .i64 0, .bool false, .int .i64 0, .int .i64 0, .bool false, .int .i64 0, .int .i64 0, .bool false, .int .i64 0, .int .i64 0, .bool false, .int .i64 0, .int .i64 0]

theorem hnew_nil (w : World) (n m : Int) : Calls Try.prog 8 #[.int .i64 n, .int .i64 m, .pointer none] w fun r w' => r = .returned (.tuple #[.pointer none, .int .i64 2]) ∧ w' = w := by
  go_enter Try.func8, Try.ntmps8
  go_wp2_with fail
  refine (now_no (.inl rfl)).mono ?_
  rintro r w1 ⟨rfl, rfl⟩
  go_wp2
  go_ret2
  exact ⟨rfl, rfl⟩

/-- What lies ahead of the loop. -/
theorem none_start {w w1 : World} (g : Hop) (hb : Below (w.heap.size + 1) (w.alloc (.cells #[.int .i64 g.dd, .int .i64 g.s, .int .i64 g.a, .int .i64 g.b, .int .i64 g.use, .string g.key, .int .i64 g.v.ts, .string g.v.val, .bool g.v.del, .int .i64 g.ts, .int .i64 g.os, .int .i64 g.og, .int .i64 g.kind] 38)) w1) :
    ∃ ws, (w1.alloc (.cells #[.pointer none, .pointer none, .pointer none, .bool false, .int .i64 0, .int .i64 0, .bool false, .int .i64 0, .int .i64 0, .bool false, .int .i64 0, .int .i64 0, .bool false, .int .i64 0, .int .i64 0, .bool false, .int .i64 0, .int .i64 0, .bool false, .int .i64 0, .int .i64 0, .bool false, .int .i64 0, .int .i64 0, .bool false, .int .i64 0, .int .i64 0, .bool false, .int .i64 0, .int .i64 0, .bool false, .int .i64 0, .int .i64 0, .bool false, .int .i64 0, .int .i64 0, .bool false, .int .i64 0, .int .i64 0, .bool false, .int .i64 0, .int .i64 0, .bool false, .int .i64 0, .int .i64 0, .bool false, .int .i64 0, .int .i64 0, .bool false, .int .i64 0, .int .i64 0, .bool false, .int .i64 0, .int .i64 0] 70)).alloc (.cells #[.pointer none, .pointer (some ⟨w1.heap.size, 0, none⟩)] 26) = ws ∧ Below w.heap.size w ws ∧
      ∀ W, Below ws.heap.size ws W → Below w.heap.size w W ∧ Bk W w.heap.size 38 #[.int .i64 g.dd, .int .i64 g.s, .int .i64 g.a, .int .i64 g.b, .int .i64 g.use, .string g.key, .int .i64 g.v.ts, .string g.v.val, .bool g.v.del, .int .i64 g.ts, .int .i64 g.os, .int .i64 g.og, .int .i64 g.kind] ∧ ∀ j, j < 2 → ∃ p, W.cell? ⟨w1.heap.size + 1, j, none⟩ = some (.pointer p) ∧ NmH W p := by
  have h0 : Below w.heap.size w w1 := ((Below.refl _ w).alloc (Nat.le_refl _) _).trans (hb.mono (by omega))
  have k0 : Bk w1 w.heap.size 38 #[.int .i64 g.dd, .int .i64 g.s, .int .i64 g.a, .int .i64 g.b, .int .i64 g.use, .string g.key, .int .i64 g.v.ts, .string g.v.val, .bool g.v.del, .int .i64 g.ts, .int .i64 g.os, .int .i64 g.og, .int .i64 g.kind] := (Bk.new w _ _).below hb (by omega)
  have k1 := (Bk.new w1 70 hpZero).alloc (.cells #[.pointer none, .pointer (some ⟨w1.heap.size, 0, none⟩)] 26)
  have k2 := Bk.new (w1.alloc (.cells hpZero 70)) 26 #[.pointer none, .pointer (some ⟨w1.heap.size, 0, none⟩)]
  have k3 := (k0.alloc (.cells hpZero 70)).alloc (.cells #[.pointer none, .pointer (some ⟨w1.heap.size, 0, none⟩)] 26)
  have hbs : Below w.heap.size w ((w1.alloc (.cells hpZero 70)).alloc (.cells #[.pointer none, .pointer (some ⟨w1.heap.size, 0, none⟩)] 26)) := (h0.alloc h0.size _).alloc (by have := h0.size; simp; omega) _
  simp only [World.size_alloc] at k2
  refine ⟨_, rfl, hbs, fun W hW => ⟨hbs.trans (hW.mono hbs.size), k3.below hW k3.lt, fun j hj => ?_⟩⟩
  have c2 := (k2.below hW k2.lt).cell j
  match j, hj with
  | 0, _ => exact ⟨none, c2, .inl rfl⟩
  | 1, _ => exact ⟨_, c2, .inr ⟨_, rfl, (k1.below hW k1.lt).cell 0⟩⟩

set_option maxHeartbeats 16000000 in
theorem walk_heapNone (g : Hop) (w : World) :
    Calls Try.prog 6 #[g.val] w fun e w' => e = .returned (.bool true) ∧ Below w.heap.size w w' := by
  haveI : Inhabited Cl := ⟨Cl.zero⟩
  haveI : Inhabited Ln := ⟨Ln.zero⟩
  go_enter Try.func6, Try.ntmps6
  go_wp2_with fail
  refine (hbegun_any _).mono ?_
  rintro e w1 ⟨rfl, hb1⟩
  simp only [World.size_alloc] at hb1
  obtain ⟨ws, hws, hbs, hall⟩ := none_start g hb1
  have HA : Hid _ := hall
  clear hb1 hall hbs
  go_wp2_with fail
  go_loopw [31] (fun iv wr => ∃ j : Nat, j ≤ 2 ∧ iv = .int .i64 j ∧ Hid (Below ws.heap.size ws wr)) (fun iv _ => 2 - (intOf iv).toNat)
  case atStart => exact ⟨0, by omega, rfl, Below.refl _ _⟩
  case round =>
    obtain ⟨j, hj, rfl, HB⟩ := hrel
    by_cases hlt : j < 2
    · have hli : (j : Int) < 2 := by omega
      obtain ⟨p, cp, hnm⟩ := (HA.out wr HB.out).2.2 j hlt
      have kw := (HA.out wr HB.out).2.1
      have HN : Hid (NmH wr p) := hnm
      have HO : Hid (∀ W, Below wr.heap.size wr W → Bk W w.heap.size 38 #[.int .i64 g.dd, .int .i64 g.s, .int .i64 g.a, .int .i64 g.b, .int .i64 g.use, .string g.key, .int .i64 g.v.ts, .string g.v.val, .bool g.v.del, .int .i64 g.ts, .int .i64 g.os, .int .i64 g.og, .int .i64 g.kind] ∧ NmH W p) := fun W hW => ⟨kw.tn (Tn.of_below hW []) (by simp), HN.out.below hW⟩
      have HB0 : Hid (Below wr.heap.size wr wr) := Below.refl _ _
      clear hnm hws
      have c0 : wr.cell? ⟨w.heap.size, 0, none⟩ = some (.int .i64 g.dd) := kw.cell 0
      have c1 : wr.cell? ⟨w.heap.size, 1, none⟩ = some (.int .i64 g.s) := kw.cell 1
      have c2 : wr.cell? ⟨w.heap.size, 2, none⟩ = some (.int .i64 g.a) := kw.cell 2
      have c3 : wr.cell? ⟨w.heap.size, 3, none⟩ = some (.int .i64 g.b) := kw.cell 3
      have c4 : wr.cell? ⟨w.heap.size, 4, none⟩ = some (.int .i64 g.use) := kw.cell 4
      have c5 : wr.cell? ⟨w.heap.size, 5, none⟩ = some (.string g.key) := kw.cell 5
      have c6 : wr.cell? ⟨w.heap.size, 6, none⟩ = some (.int .i64 g.v.ts) := kw.cell 6
      have c7 : wr.cell? ⟨w.heap.size, 7, none⟩ = some (.string g.v.val) := kw.cell 7
      have c8 : wr.cell? ⟨w.heap.size, 8, none⟩ = some (.bool g.v.del) := kw.cell 8
      have c9 : wr.cell? ⟨w.heap.size, 9, none⟩ = some (.int .i64 g.ts) := kw.cell 9
      have c10 : wr.cell? ⟨w.heap.size, 10, none⟩ = some (.int .i64 g.os) := kw.cell 10
      have c11 : wr.cell? ⟨w.heap.size, 11, none⟩ = some (.int .i64 g.og) := kw.cell 11
      have c12 : wr.cell? ⟨w.heap.size, 12, none⟩ = some (.int .i64 g.kind) := kw.cell 12
      clear kw
      obtain ⟨z1, hz1⟩ : ∃ z : Int, z = 0 := ⟨_, rfl⟩
      obtain ⟨z2, hz2⟩ : ∃ z : Int, z = 0 := ⟨_, rfl⟩
      obtain ⟨zt, hzt⟩ : ∃ z : Int, z = 0 := ⟨_, rfl⟩
      obtain ⟨zv, hzv⟩ : ∃ z : ByteArray, z = ⟨#[]⟩ := ⟨_, rfl⟩
      obtain ⟨zd, hzd⟩ : ∃ z : Bool, z = false := ⟨_, rfl⟩
      have HZQ : Hid (z1 = 0 ∧ z2 = 0 ∧ zt = 0 ∧ zv = ⟨#[]⟩ ∧ zd = false) := ⟨hz1, hz2, hzt, hzv, hzd⟩
      clear hz1 hz2 hzt hzv hzd
      have cellZ : ∀ (W : World), NmH W p → Hid (Calls Try.prog 12 #[.pointer p, .int .i64 g.s, .string g.key] W fun e w' => e = .returned (.tuple #[.agg #[.int .i64 z1, .int .i64 z2], .int .i64 2]) ∧ Below W.heap.size W w') := fun W h => by
        unfold Hid
        rw [HZQ.out.1, HZQ.out.2.1]
        exact cell_no h g.s g.key
      have HCZ : Hid _ := cellZ
      clear cellZ
      have readZ : ∀ (W : World), NmH W p → Hid (Calls Try.prog 15 #[.pointer p, .agg #[.int .i64 g.os, .int .i64 g.og], .int .i64 g.ts] W fun e w' => e = .returned (.tuple #[.agg #[.int .i64 zt, .string zv, .bool zd], .bool false, .int .i64 2]) ∧ Below W.heap.size W w') := fun W h => by
        unfold Hid
        rw [HZQ.out.2.2.1, HZQ.out.2.2.2.1, HZQ.out.2.2.2.2]
        exact read_no h g.os g.og g.ts
      have HRZ : Hid _ := readZ
      clear readZ
      go_wp2_with fail
      refine ((HCZ.out _ (HO.out wr HB0.out).2).out).mono ?_
      rintro e y1 ⟨rfl, hb⟩
      have HY1 : Hid (Below wr.heap.size wr y1) := HB0.out.trans (hb.mono HB0.out.size)
      clear hb c0 c1 c2 c3 c4 c5 c6 c7 c8 c9 c10 c11 c12 
      obtain ⟨a1, ha1⟩ : ∃ W, y1.alloc (.cells #[.int .i64 z1, .int .i64 z2] 36) = W := ⟨_, rfl⟩
      have HA1 : Hid (Below wr.heap.size wr a1) := by rw [← ha1]; exact HY1.out.alloc HY1.out.size _
      have HT5 : Hid (Bk a1 y1.heap.size 36 #[.int .i64 z1, .int .i64 z2]) := by rw [← ha1]; exact Bk.new _ _ _
      have kop := (HO.out a1 HA1.out).1
      have q1_0 : a1.cell? ⟨w.heap.size, 0, none⟩ = some (.int .i64 g.dd) := kop.cell 0
      have q1_1 : a1.cell? ⟨w.heap.size, 1, none⟩ = some (.int .i64 g.s) := kop.cell 1
      have q1_2 : a1.cell? ⟨w.heap.size, 2, none⟩ = some (.int .i64 g.a) := kop.cell 2
      have q1_3 : a1.cell? ⟨w.heap.size, 3, none⟩ = some (.int .i64 g.b) := kop.cell 3
      have q1_4 : a1.cell? ⟨w.heap.size, 4, none⟩ = some (.int .i64 g.use) := kop.cell 4
      have q1_5 : a1.cell? ⟨w.heap.size, 5, none⟩ = some (.string g.key) := kop.cell 5
      have q1_6 : a1.cell? ⟨w.heap.size, 6, none⟩ = some (.int .i64 g.v.ts) := kop.cell 6
      have q1_7 : a1.cell? ⟨w.heap.size, 7, none⟩ = some (.string g.v.val) := kop.cell 7
      have q1_8 : a1.cell? ⟨w.heap.size, 8, none⟩ = some (.bool g.v.del) := kop.cell 8
      have q1_9 : a1.cell? ⟨w.heap.size, 9, none⟩ = some (.int .i64 g.ts) := kop.cell 9
      have q1_10 : a1.cell? ⟨w.heap.size, 10, none⟩ = some (.int .i64 g.os) := kop.cell 10
      have q1_11 : a1.cell? ⟨w.heap.size, 11, none⟩ = some (.int .i64 g.og) := kop.cell 11
      have q1_12 : a1.cell? ⟨w.heap.size, 12, none⟩ = some (.int .i64 g.kind) := kop.cell 12
      clear kop
      go_wp2_with fail
      refine (key_no (HO.out a1 HA1.out).2 g.os g.og).mono ?_
      rintro e y2 ⟨rfl, hb⟩
      have HY2 : Hid (Below wr.heap.size wr y2) := HA1.out.trans (hb.mono HA1.out.size)
      have HT5n : Hid (Bk y2 y1.heap.size 36 #[.int .i64 z1, .int .i64 z2]) := HT5.out.tn (Tn.of_below hb []) (by simp)
      clear hb q1_0 q1_1 q1_2 q1_3 q1_4 q1_5 q1_6 q1_7 q1_8 q1_9 q1_10 q1_11 q1_12 HT5
      have kop := (HO.out y2 HY2.out).1
      have q2_0 : y2.cell? ⟨w.heap.size, 0, none⟩ = some (.int .i64 g.dd) := kop.cell 0
      have q2_1 : y2.cell? ⟨w.heap.size, 1, none⟩ = some (.int .i64 g.s) := kop.cell 1
      have q2_2 : y2.cell? ⟨w.heap.size, 2, none⟩ = some (.int .i64 g.a) := kop.cell 2
      have q2_3 : y2.cell? ⟨w.heap.size, 3, none⟩ = some (.int .i64 g.b) := kop.cell 3
      have q2_4 : y2.cell? ⟨w.heap.size, 4, none⟩ = some (.int .i64 g.use) := kop.cell 4
      have q2_5 : y2.cell? ⟨w.heap.size, 5, none⟩ = some (.string g.key) := kop.cell 5
      have q2_6 : y2.cell? ⟨w.heap.size, 6, none⟩ = some (.int .i64 g.v.ts) := kop.cell 6
      have q2_7 : y2.cell? ⟨w.heap.size, 7, none⟩ = some (.string g.v.val) := kop.cell 7
      have q2_8 : y2.cell? ⟨w.heap.size, 8, none⟩ = some (.bool g.v.del) := kop.cell 8
      have q2_9 : y2.cell? ⟨w.heap.size, 9, none⟩ = some (.int .i64 g.ts) := kop.cell 9
      have q2_10 : y2.cell? ⟨w.heap.size, 10, none⟩ = some (.int .i64 g.os) := kop.cell 10
      have q2_11 : y2.cell? ⟨w.heap.size, 11, none⟩ = some (.int .i64 g.og) := kop.cell 11
      have q2_12 : y2.cell? ⟨w.heap.size, 12, none⟩ = some (.int .i64 g.kind) := kop.cell 12
      clear kop
      go_wp2_with fail
      refine ((HRZ.out _ (HO.out y2 HY2.out).2).out).mono ?_
      rintro e y3 ⟨rfl, hb⟩
      have HY3 : Hid (Below wr.heap.size wr y3) := HY2.out.trans (hb.mono HY2.out.size)
      have HT5nn : Hid (Bk y3 y1.heap.size 36 #[.int .i64 z1, .int .i64 z2]) := HT5n.out.tn (Tn.of_below hb []) (by simp)
      clear hb q2_0 q2_1 q2_2 q2_3 q2_4 q2_5 q2_6 q2_7 q2_8 q2_9 q2_10 q2_11 q2_12 HT5n
      obtain ⟨a3, ha3⟩ : ∃ W, y3.alloc (.cells #[.int .i64 zt, .string zv, .bool zd] 34) = W := ⟨_, rfl⟩
      have HA3 : Hid (Below wr.heap.size wr a3) := by rw [← ha3]; exact HY3.out.alloc HY3.out.size _
      have HT9 : Hid (Bk a3 y3.heap.size 34 #[.int .i64 zt, .string zv, .bool zd]) := by rw [← ha3]; exact Bk.new _ _ _
      have HT5nna : Hid (Bk a3 y1.heap.size 36 #[.int .i64 z1, .int .i64 z2]) := by rw [← ha3]; exact HT5nn.out.alloc _
      clear HT5nn
      have kop := (HO.out a3 HA3.out).1
      have q3_0 : a3.cell? ⟨w.heap.size, 0, none⟩ = some (.int .i64 g.dd) := kop.cell 0
      have q3_1 : a3.cell? ⟨w.heap.size, 1, none⟩ = some (.int .i64 g.s) := kop.cell 1
      have q3_2 : a3.cell? ⟨w.heap.size, 2, none⟩ = some (.int .i64 g.a) := kop.cell 2
      have q3_3 : a3.cell? ⟨w.heap.size, 3, none⟩ = some (.int .i64 g.b) := kop.cell 3
      have q3_4 : a3.cell? ⟨w.heap.size, 4, none⟩ = some (.int .i64 g.use) := kop.cell 4
      have q3_5 : a3.cell? ⟨w.heap.size, 5, none⟩ = some (.string g.key) := kop.cell 5
      have q3_6 : a3.cell? ⟨w.heap.size, 6, none⟩ = some (.int .i64 g.v.ts) := kop.cell 6
      have q3_7 : a3.cell? ⟨w.heap.size, 7, none⟩ = some (.string g.v.val) := kop.cell 7
      have q3_8 : a3.cell? ⟨w.heap.size, 8, none⟩ = some (.bool g.v.del) := kop.cell 8
      have q3_9 : a3.cell? ⟨w.heap.size, 9, none⟩ = some (.int .i64 g.ts) := kop.cell 9
      have q3_10 : a3.cell? ⟨w.heap.size, 10, none⟩ = some (.int .i64 g.os) := kop.cell 10
      have q3_11 : a3.cell? ⟨w.heap.size, 11, none⟩ = some (.int .i64 g.og) := kop.cell 11
      have q3_12 : a3.cell? ⟨w.heap.size, 12, none⟩ = some (.int .i64 g.kind) := kop.cell 12
      clear kop
      go_wp2_with fail
      refine (hlist_no (HO.out a3 HA3.out).2 g.os g.og).mono ?_
      rintro e y4 ⟨rfl, hb⟩
      have HY4 : Hid (Below wr.heap.size wr y4) := HA3.out.trans (hb.mono HA3.out.size)
      have HT5nnan : Hid (Bk y4 y1.heap.size 36 #[.int .i64 z1, .int .i64 z2]) := HT5nna.out.tn (Tn.of_below hb []) (by simp)
      have HT9n : Hid (Bk y4 y3.heap.size 34 #[.int .i64 zt, .string zv, .bool zd]) := HT9.out.tn (Tn.of_below hb []) (by simp)
      clear hb q3_0 q3_1 q3_2 q3_3 q3_4 q3_5 q3_6 q3_7 q3_8 q3_9 q3_10 q3_11 q3_12 HT5nna HT9
      have kop := (HO.out y4 HY4.out).1
      have q4_0 : y4.cell? ⟨w.heap.size, 0, none⟩ = some (.int .i64 g.dd) := kop.cell 0
      have q4_1 : y4.cell? ⟨w.heap.size, 1, none⟩ = some (.int .i64 g.s) := kop.cell 1
      have q4_2 : y4.cell? ⟨w.heap.size, 2, none⟩ = some (.int .i64 g.a) := kop.cell 2
      have q4_3 : y4.cell? ⟨w.heap.size, 3, none⟩ = some (.int .i64 g.b) := kop.cell 3
      have q4_4 : y4.cell? ⟨w.heap.size, 4, none⟩ = some (.int .i64 g.use) := kop.cell 4
      have q4_5 : y4.cell? ⟨w.heap.size, 5, none⟩ = some (.string g.key) := kop.cell 5
      have q4_6 : y4.cell? ⟨w.heap.size, 6, none⟩ = some (.int .i64 g.v.ts) := kop.cell 6
      have q4_7 : y4.cell? ⟨w.heap.size, 7, none⟩ = some (.string g.v.val) := kop.cell 7
      have q4_8 : y4.cell? ⟨w.heap.size, 8, none⟩ = some (.bool g.v.del) := kop.cell 8
      have q4_9 : y4.cell? ⟨w.heap.size, 9, none⟩ = some (.int .i64 g.ts) := kop.cell 9
      have q4_10 : y4.cell? ⟨w.heap.size, 10, none⟩ = some (.int .i64 g.os) := kop.cell 10
      have q4_11 : y4.cell? ⟨w.heap.size, 11, none⟩ = some (.int .i64 g.og) := kop.cell 11
      have q4_12 : y4.cell? ⟨w.heap.size, 12, none⟩ = some (.int .i64 g.kind) := kop.cell 12
      clear kop
      go_wp2_with fail
      refine (hprune_no (HO.out y4 HY4.out).2 g.os g.og g.ts).mono ?_
      rintro e y5 ⟨rfl, hb⟩
      have HY5 : Hid (Below wr.heap.size wr y5) := HY4.out.trans (hb.mono HY4.out.size)
      have HT5nnann : Hid (Bk y5 y1.heap.size 36 #[.int .i64 z1, .int .i64 z2]) := HT5nnan.out.tn (Tn.of_below hb []) (by simp)
      have HT9nn : Hid (Bk y5 y3.heap.size 34 #[.int .i64 zt, .string zv, .bool zd]) := HT9n.out.tn (Tn.of_below hb []) (by simp)
      clear hb q4_0 q4_1 q4_2 q4_3 q4_4 q4_5 q4_6 q4_7 q4_8 q4_9 q4_10 q4_11 q4_12 HT5nnan HT9n
      have kop := (HO.out y5 HY5.out).1
      have q5_0 : y5.cell? ⟨w.heap.size, 0, none⟩ = some (.int .i64 g.dd) := kop.cell 0
      have q5_1 : y5.cell? ⟨w.heap.size, 1, none⟩ = some (.int .i64 g.s) := kop.cell 1
      have q5_2 : y5.cell? ⟨w.heap.size, 2, none⟩ = some (.int .i64 g.a) := kop.cell 2
      have q5_3 : y5.cell? ⟨w.heap.size, 3, none⟩ = some (.int .i64 g.b) := kop.cell 3
      have q5_4 : y5.cell? ⟨w.heap.size, 4, none⟩ = some (.int .i64 g.use) := kop.cell 4
      have q5_5 : y5.cell? ⟨w.heap.size, 5, none⟩ = some (.string g.key) := kop.cell 5
      have q5_6 : y5.cell? ⟨w.heap.size, 6, none⟩ = some (.int .i64 g.v.ts) := kop.cell 6
      have q5_7 : y5.cell? ⟨w.heap.size, 7, none⟩ = some (.string g.v.val) := kop.cell 7
      have q5_8 : y5.cell? ⟨w.heap.size, 8, none⟩ = some (.bool g.v.del) := kop.cell 8
      have q5_9 : y5.cell? ⟨w.heap.size, 9, none⟩ = some (.int .i64 g.ts) := kop.cell 9
      have q5_10 : y5.cell? ⟨w.heap.size, 10, none⟩ = some (.int .i64 g.os) := kop.cell 10
      have q5_11 : y5.cell? ⟨w.heap.size, 11, none⟩ = some (.int .i64 g.og) := kop.cell 11
      have q5_12 : y5.cell? ⟨w.heap.size, 12, none⟩ = some (.int .i64 g.kind) := kop.cell 12
      clear kop
      have x00 : y5.cell? ⟨y1.heap.size, 0, none⟩ = some (.int .i64 z1) := HT5nnann.out.cell 0
      have x01 : y5.cell? ⟨y1.heap.size, 1, none⟩ = some (.int .i64 z2) := HT5nnann.out.cell 1
      have x10 : y5.cell? ⟨y3.heap.size, 0, none⟩ = some (.int .i64 zt) := HT9nn.out.cell 0
      have x11 : y5.cell? ⟨y3.heap.size, 1, none⟩ = some (.string zv) := HT9nn.out.cell 1
      have x12 : y5.cell? ⟨y3.heap.size, 2, none⟩ = some (.bool zd) := HT9nn.out.cell 2
      go_wp2_with fail
      refine (reserved_no (HO.out y5 HY5.out).2 g.s).mono ?_
      rintro e y6 ⟨rfl, rfl⟩
      obtain ⟨rfl, rfl, rfl, rfl, rfl⟩ : z1 = 0 ∧ z2 = 0 ∧ zt = 0 ∧ zv = ⟨#[]⟩ ∧ zd = false := HZQ.out
      clear HT5nnann HT9nn
      go_wp2_with fail
      refine (room_no (HO.out y6 HY5.out).2).mono ?_
      rintro e y7 ⟨rfl, rfl⟩
      go_wp2_with fail
      refine (reserve_no (HO.out y7 HY5.out).2 g.s g.a g.b).mono ?_
      rintro e y8 ⟨rfl, rfl⟩
      clear x00 x01 x10 x11 x12
      go_wp2_with fail
      refine (release_no (HO.out y8 HY5.out).2 g.s).mono ?_
      rintro e y9 ⟨rfl, rfl⟩
      go_wp2_with fail
      refine (drop_no (HO.out y9 HY5.out).2 g.s g.os g.og).mono ?_
      rintro e y10 ⟨rfl, hb⟩
      have HY10 : Hid (Below wr.heap.size wr y10) := HY5.out.trans (hb.mono HY5.out.size)
      clear hb q5_0 q5_1 q5_2 q5_3 q5_4 q5_5 q5_6 q5_7 q5_8 q5_9 q5_10 q5_11 q5_12 
      have kop := (HO.out y10 HY10.out).1
      have q10_0 : y10.cell? ⟨w.heap.size, 0, none⟩ = some (.int .i64 g.dd) := kop.cell 0
      have q10_1 : y10.cell? ⟨w.heap.size, 1, none⟩ = some (.int .i64 g.s) := kop.cell 1
      have q10_2 : y10.cell? ⟨w.heap.size, 2, none⟩ = some (.int .i64 g.a) := kop.cell 2
      have q10_3 : y10.cell? ⟨w.heap.size, 3, none⟩ = some (.int .i64 g.b) := kop.cell 3
      have q10_4 : y10.cell? ⟨w.heap.size, 4, none⟩ = some (.int .i64 g.use) := kop.cell 4
      have q10_5 : y10.cell? ⟨w.heap.size, 5, none⟩ = some (.string g.key) := kop.cell 5
      have q10_6 : y10.cell? ⟨w.heap.size, 6, none⟩ = some (.int .i64 g.v.ts) := kop.cell 6
      have q10_7 : y10.cell? ⟨w.heap.size, 7, none⟩ = some (.string g.v.val) := kop.cell 7
      have q10_8 : y10.cell? ⟨w.heap.size, 8, none⟩ = some (.bool g.v.del) := kop.cell 8
      have q10_9 : y10.cell? ⟨w.heap.size, 9, none⟩ = some (.int .i64 g.ts) := kop.cell 9
      have q10_10 : y10.cell? ⟨w.heap.size, 10, none⟩ = some (.int .i64 g.os) := kop.cell 10
      have q10_11 : y10.cell? ⟨w.heap.size, 11, none⟩ = some (.int .i64 g.og) := kop.cell 11
      have q10_12 : y10.cell? ⟨w.heap.size, 12, none⟩ = some (.int .i64 g.kind) := kop.cell 12
      clear kop
      go_wp2_with fail
      refine (install_no (HO.out y10 HY10.out).2 g.s g.os g.og g.v).mono ?_
      rintro e y11 ⟨rfl, hb⟩
      have HY11 : Hid (Below wr.heap.size wr y11) := HY10.out.trans (hb.mono HY10.out.size)
      clear hb q10_0 q10_1 q10_2 q10_3 q10_4 q10_5 q10_6 q10_7 q10_8 q10_9 q10_10 q10_11 q10_12 
      have kop := (HO.out y11 HY11.out).1
      have q11_0 : y11.cell? ⟨w.heap.size, 0, none⟩ = some (.int .i64 g.dd) := kop.cell 0
      have q11_1 : y11.cell? ⟨w.heap.size, 1, none⟩ = some (.int .i64 g.s) := kop.cell 1
      have q11_2 : y11.cell? ⟨w.heap.size, 2, none⟩ = some (.int .i64 g.a) := kop.cell 2
      have q11_3 : y11.cell? ⟨w.heap.size, 3, none⟩ = some (.int .i64 g.b) := kop.cell 3
      have q11_4 : y11.cell? ⟨w.heap.size, 4, none⟩ = some (.int .i64 g.use) := kop.cell 4
      have q11_5 : y11.cell? ⟨w.heap.size, 5, none⟩ = some (.string g.key) := kop.cell 5
      have q11_6 : y11.cell? ⟨w.heap.size, 6, none⟩ = some (.int .i64 g.v.ts) := kop.cell 6
      have q11_7 : y11.cell? ⟨w.heap.size, 7, none⟩ = some (.string g.v.val) := kop.cell 7
      have q11_8 : y11.cell? ⟨w.heap.size, 8, none⟩ = some (.bool g.v.del) := kop.cell 8
      have q11_9 : y11.cell? ⟨w.heap.size, 9, none⟩ = some (.int .i64 g.ts) := kop.cell 9
      have q11_10 : y11.cell? ⟨w.heap.size, 10, none⟩ = some (.int .i64 g.os) := kop.cell 10
      have q11_11 : y11.cell? ⟨w.heap.size, 11, none⟩ = some (.int .i64 g.og) := kop.cell 11
      have q11_12 : y11.cell? ⟨w.heap.size, 12, none⟩ = some (.int .i64 g.kind) := kop.cell 12
      clear kop
      go_wp2_with fail
      refine (hretire_no (HO.out y11 HY11.out).2 g.os g.og).mono ?_
      rintro e y12 ⟨rfl, hb⟩
      have HY12 : Hid (Below wr.heap.size wr y12) := HY11.out.trans (hb.mono HY11.out.size)
      clear hb q11_0 q11_1 q11_2 q11_3 q11_4 q11_5 q11_6 q11_7 q11_8 q11_9 q11_10 q11_11 q11_12 
      have kop := (HO.out y12 HY12.out).1
      have q12_0 : y12.cell? ⟨w.heap.size, 0, none⟩ = some (.int .i64 g.dd) := kop.cell 0
      have q12_1 : y12.cell? ⟨w.heap.size, 1, none⟩ = some (.int .i64 g.s) := kop.cell 1
      have q12_2 : y12.cell? ⟨w.heap.size, 2, none⟩ = some (.int .i64 g.a) := kop.cell 2
      have q12_3 : y12.cell? ⟨w.heap.size, 3, none⟩ = some (.int .i64 g.b) := kop.cell 3
      have q12_4 : y12.cell? ⟨w.heap.size, 4, none⟩ = some (.int .i64 g.use) := kop.cell 4
      have q12_5 : y12.cell? ⟨w.heap.size, 5, none⟩ = some (.string g.key) := kop.cell 5
      have q12_6 : y12.cell? ⟨w.heap.size, 6, none⟩ = some (.int .i64 g.v.ts) := kop.cell 6
      have q12_7 : y12.cell? ⟨w.heap.size, 7, none⟩ = some (.string g.v.val) := kop.cell 7
      have q12_8 : y12.cell? ⟨w.heap.size, 8, none⟩ = some (.bool g.v.del) := kop.cell 8
      have q12_9 : y12.cell? ⟨w.heap.size, 9, none⟩ = some (.int .i64 g.ts) := kop.cell 9
      have q12_10 : y12.cell? ⟨w.heap.size, 10, none⟩ = some (.int .i64 g.os) := kop.cell 10
      have q12_11 : y12.cell? ⟨w.heap.size, 11, none⟩ = some (.int .i64 g.og) := kop.cell 11
      have q12_12 : y12.cell? ⟨w.heap.size, 12, none⟩ = some (.int .i64 g.kind) := kop.cell 12
      clear kop
      go_wp2_with fail
      refine (reopen_no (HO.out y12 HY12.out).2 g.os g.og).mono ?_
      rintro e y13 ⟨rfl, hb⟩
      have HY13 : Hid (Below wr.heap.size wr y13) := HY12.out.trans (hb.mono HY12.out.size)
      clear hb q12_0 q12_1 q12_2 q12_3 q12_4 q12_5 q12_6 q12_7 q12_8 q12_9 q12_10 q12_11 q12_12 
      have kop := (HO.out y13 HY13.out).1
      have q13_0 : y13.cell? ⟨w.heap.size, 0, none⟩ = some (.int .i64 g.dd) := kop.cell 0
      have q13_1 : y13.cell? ⟨w.heap.size, 1, none⟩ = some (.int .i64 g.s) := kop.cell 1
      have q13_2 : y13.cell? ⟨w.heap.size, 2, none⟩ = some (.int .i64 g.a) := kop.cell 2
      have q13_3 : y13.cell? ⟨w.heap.size, 3, none⟩ = some (.int .i64 g.b) := kop.cell 3
      have q13_4 : y13.cell? ⟨w.heap.size, 4, none⟩ = some (.int .i64 g.use) := kop.cell 4
      have q13_5 : y13.cell? ⟨w.heap.size, 5, none⟩ = some (.string g.key) := kop.cell 5
      have q13_6 : y13.cell? ⟨w.heap.size, 6, none⟩ = some (.int .i64 g.v.ts) := kop.cell 6
      have q13_7 : y13.cell? ⟨w.heap.size, 7, none⟩ = some (.string g.v.val) := kop.cell 7
      have q13_8 : y13.cell? ⟨w.heap.size, 8, none⟩ = some (.bool g.v.del) := kop.cell 8
      have q13_9 : y13.cell? ⟨w.heap.size, 9, none⟩ = some (.int .i64 g.ts) := kop.cell 9
      have q13_10 : y13.cell? ⟨w.heap.size, 10, none⟩ = some (.int .i64 g.os) := kop.cell 10
      have q13_11 : y13.cell? ⟨w.heap.size, 11, none⟩ = some (.int .i64 g.og) := kop.cell 11
      have q13_12 : y13.cell? ⟨w.heap.size, 12, none⟩ = some (.int .i64 g.kind) := kop.cell 12
      clear kop
      go_wp2_with fail
      refine (hfree_no (HO.out y13 HY13.out).2 g.kind 0 0).mono ?_
      rintro e y14 ⟨rfl, hb⟩
      have HY14 : Hid (Below wr.heap.size wr y14) := HY13.out.trans (hb.mono HY13.out.size)
      clear hb q13_0 q13_1 q13_2 q13_3 q13_4 q13_5 q13_6 q13_7 q13_8 q13_9 q13_10 q13_11 q13_12 
      have kop := (HO.out y14 HY14.out).1
      have q14_0 : y14.cell? ⟨w.heap.size, 0, none⟩ = some (.int .i64 g.dd) := kop.cell 0
      have q14_1 : y14.cell? ⟨w.heap.size, 1, none⟩ = some (.int .i64 g.s) := kop.cell 1
      have q14_2 : y14.cell? ⟨w.heap.size, 2, none⟩ = some (.int .i64 g.a) := kop.cell 2
      have q14_3 : y14.cell? ⟨w.heap.size, 3, none⟩ = some (.int .i64 g.b) := kop.cell 3
      have q14_4 : y14.cell? ⟨w.heap.size, 4, none⟩ = some (.int .i64 g.use) := kop.cell 4
      have q14_5 : y14.cell? ⟨w.heap.size, 5, none⟩ = some (.string g.key) := kop.cell 5
      have q14_6 : y14.cell? ⟨w.heap.size, 6, none⟩ = some (.int .i64 g.v.ts) := kop.cell 6
      have q14_7 : y14.cell? ⟨w.heap.size, 7, none⟩ = some (.string g.v.val) := kop.cell 7
      have q14_8 : y14.cell? ⟨w.heap.size, 8, none⟩ = some (.bool g.v.del) := kop.cell 8
      have q14_9 : y14.cell? ⟨w.heap.size, 9, none⟩ = some (.int .i64 g.ts) := kop.cell 9
      have q14_10 : y14.cell? ⟨w.heap.size, 10, none⟩ = some (.int .i64 g.os) := kop.cell 10
      have q14_11 : y14.cell? ⟨w.heap.size, 11, none⟩ = some (.int .i64 g.og) := kop.cell 11
      have q14_12 : y14.cell? ⟨w.heap.size, 12, none⟩ = some (.int .i64 g.kind) := kop.cell 12
      clear kop
      go_wp2_with fail
      refine (cells_no (HO.out y14 HY14.out).2).mono ?_
      rintro e y15 ⟨rfl, rfl⟩
      go_wp2_with fail
      refine (versions_no (HO.out y15 HY14.out).2).mono ?_
      rintro e y16 ⟨rfl, rfl⟩
      go_wp2_with fail
      refine (hstale_no (HO.out y16 HY14.out).2).mono ?_
      rintro e y17 ⟨rfl, rfl⟩
      go_wp2_with fail
      refine (silentN (HO.out y17 HY14.out).2).mono ?_
      rintro e y18 ⟨rfl, hb⟩
      have HY18 : Hid (Below wr.heap.size wr y18) := HY14.out.trans (hb.mono HY14.out.size)
      clear hb q14_0 q14_1 q14_2 q14_3 q14_4 q14_5 q14_6 q14_7 q14_8 q14_9 q14_10 q14_11 q14_12 
      have kop := (HO.out y18 HY18.out).1
      have q18_0 : y18.cell? ⟨w.heap.size, 0, none⟩ = some (.int .i64 g.dd) := kop.cell 0
      have q18_1 : y18.cell? ⟨w.heap.size, 1, none⟩ = some (.int .i64 g.s) := kop.cell 1
      have q18_2 : y18.cell? ⟨w.heap.size, 2, none⟩ = some (.int .i64 g.a) := kop.cell 2
      have q18_3 : y18.cell? ⟨w.heap.size, 3, none⟩ = some (.int .i64 g.b) := kop.cell 3
      have q18_4 : y18.cell? ⟨w.heap.size, 4, none⟩ = some (.int .i64 g.use) := kop.cell 4
      have q18_5 : y18.cell? ⟨w.heap.size, 5, none⟩ = some (.string g.key) := kop.cell 5
      have q18_6 : y18.cell? ⟨w.heap.size, 6, none⟩ = some (.int .i64 g.v.ts) := kop.cell 6
      have q18_7 : y18.cell? ⟨w.heap.size, 7, none⟩ = some (.string g.v.val) := kop.cell 7
      have q18_8 : y18.cell? ⟨w.heap.size, 8, none⟩ = some (.bool g.v.del) := kop.cell 8
      have q18_9 : y18.cell? ⟨w.heap.size, 9, none⟩ = some (.int .i64 g.ts) := kop.cell 9
      have q18_10 : y18.cell? ⟨w.heap.size, 10, none⟩ = some (.int .i64 g.os) := kop.cell 10
      have q18_11 : y18.cell? ⟨w.heap.size, 11, none⟩ = some (.int .i64 g.og) := kop.cell 11
      have q18_12 : y18.cell? ⟨w.heap.size, 12, none⟩ = some (.int .i64 g.kind) := kop.cell 12
      clear kop
      have HBZ : Hid (Below ws.heap.size ws y18) := HB.out.trans (HY18.out.mono HB.out.size)
      go_wp2
      go_roundw
      case rel => exact ⟨j + 1, by omega, by go_num, HBZ⟩
      case measure => simp [intOf]; omega
    · have hli : ¬ (j : Int) < 2 := by omega
      have HE : Hid (Below w.heap.size w wr) := (HA.out wr HB.out).1
      go_wp2_with fail
      refine (hnew_nil _ _ _).mono ?_
      rintro e w9 ⟨rfl, rfl⟩
      go_wp2
      go_ret
      exact ⟨rfl, HE.out⟩

set_option maxRecDepth 100000 in
set_option maxHeartbeats 2000000 in
theorem lifted_heapNone (os : Os) (started : os.Started) (H : Type) (enc : TypeId × Value → H) :
    ReturnsInHanded {} Try.checked os 6 .any (Rows.heapNoneSpec.pre6 enc Try.prog Try.f6 Rows.heapNoneRow.domain false) (Rows.heapNoneSpec.post enc Try.prog Try.f6 false true false false) := by
  refine returnsInHanded_of_change_sized (C := Try.checked) own started (by kernel_rfl) Try.func6
    (ChangeSpec.witness6 (enc := enc) (C := Try.checked) false ⟨#[], #[.agg #[.int .i64 0, .int .i64 0, .int .i64 0, .int .i64 0, .int .i64 0, .string .empty, .int .i64 0, .string .empty, .bool false, .int .i64 0, .int .i64 0, .int .i64 0, .int .i64 0]], []⟩ 8 (by kernel_rfl) (by kernel_rfl) (by kernel_rfl) (by kernel_rfl)) ?_
  intro W base args ds gs before hval0 hW _ hsz0 _
  have hsz : (DataW.weightsEach Try.prog (Try.f6.params.toList ++ Rows.heapNoneSpec.plain.varTypes Try.prog) (ds ++ gs)).all (· ≤ reachBytes) = true := hsz0
  clear hsz0
  have hval : ∀ (j : Nat) t v, Try.f6.params[j]? = some t → args[j]? = some v → Value.okWide Try.prog W .any base t v := hval0
  have hW' := hW
  obtain ⟨p, q, hA0, hV, rfl, hfz, hnd⟩ := hW
  have hA : DataW.TrodAll enc Try.prog W 0 (fun _ => true) true Try.f6.params.toList args.toList ds p := hA0
  rw [Try.params6] at hA hval hsz
  obtain ⟨v0, vs0, d0, ds0, p0, q0, hargs, rfl, rfl, h0, r0⟩ := trodAll_cons hA
  obtain ⟨rfl, rfl, rfl⟩ := trodAll_nil r0
  obtain rfl : args = #[v0] := by cases args; simp_all
  obtain ⟨rfl, rfl⟩ := trodVars_none hV
  have k0 := h0
  have lt0 : ∀ x ∈ p0, x.block < W.heap.size := by obtain ⟨m, hm⟩ := k0; exact DataW.trod_lt m _ _ _ hm
  obtain ⟨g0, e0⟩ : ∃ g : Hop, v0 = g.val := by
    obtain ⟨cs, hcs, _⟩ := okWide_struct Try.underlying38 (hval 0 38 v0 rfl rfl)
    obtain ⟨fuel, hf⟩ := h0
    obtain ⟨g, hg, _⟩ := in_hop hf
    refine ⟨g, ?_⟩
    rw [hcs] at hg ⊢
    congr 1
    apply Array.ext'
    simpa [Value.cells, Hop.cells] using hg
  subst e0
  clear hA0 hval0
  refine (walk_heapNone g0 W ).mono fun e W' ⟨he, bel⟩ => ?_
  subst he
  exact ⟨_, rfl, _, _, _, [], _, [], hW', trodAll_mk1 (shut_bool Try.underlying4 _), (trodAll_cons_mk (Below.trod laidOut (by kernel_rfl) (of_decide_eq_true (by kernel_rfl)) k0 bel lt0) trodAll_mk0), rfl, bel.frame _, fun h => by cases h⟩

/-- The statement. -/
theorem heapNone_holds : Rows.HeapNoneSaid :=
  OpenClaim.holds_of_wide 6 Try.f6 rfl rfl rfl rfl rfl rfl rfl ⟨rfl, rfl, rfl, rfl, rfl⟩ rfl rfl rfl rfl rfl (by kernel_rfl) Try.func6 (by kernel_rfl)
    (of_decide_eq_true (by kernel_rfl)) (by unfold Func.isWrapper; first | (rw [if_pos (by decide +kernel)]; kernel_rfl) | (rw [if_neg (by decide +kernel)]; exact ⟨rfl, rfl⟩))
    (fun os started H enc _ => lifted_heapNone os started H enc)
#print axioms heapNone_holds
end Go.Proofs.Ytbdcdiihaecheaa
