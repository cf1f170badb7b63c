/- Heaps that no call made: the calls that ask for a cell first. -/
import Derived.Test.YtbdcdiihaecheaaHpN
namespace Go.Proofs.Ytbdcdiihaecheaa
open Go.RowKit
set_option linter.unusedVariables false
set_option maxRecDepth 100000
set_option linter.unusedSectionVars false
variable [Inhabited Cl] [Inhabited Ln]

/-- A pointer, what a block has, and an error are answered. -/
theorem results_ask {fn : Func} {r t u : Tmp} (h : fn.results = #[.tmp r, .cell t 93, .tmp u]) {tmps : Array Value} {w : World} {b : Nat} (ht : tmps.getD t undef = .pointer (some ⟨b, 0, none⟩)) {x : Cl} (hk : Bk w b 93 #[.string x.key, .int .i64 x.s, .int .i64 x.g, .bool x.closed]) :
    (results fn tmps).run Try.prog w = .ok (.tuple #[tmps.getD r undef, .agg #[.string x.key, .int .i64 x.s, .int .i64 x.g, .bool x.closed], tmps.getD u undef]) w := by
  have c0 : w.cell? ⟨b, 0, none⟩ = some (.string x.key) := hk.cell 0
  have c1 : w.cell? ⟨b, 1, none⟩ = some (.int .i64 x.s) := hk.cell 1
  have c2 : w.cell? ⟨b, 2, none⟩ = some (.int .i64 x.g) := hk.cell 2
  have c3 : w.cell? ⟨b, 3, none⟩ = some (.bool x.closed) := hk.cell 3
  have hz : ∀ w : World, (loadVar 93 ⟨b, 0, none⟩).run Try.prog w = (do let x0 ← load ⟨b, 0, none⟩; let x1 ← load ⟨b, 1, none⟩; let x2 ← load ⟨b, 2, none⟩; let x3 ← load ⟨b, 3, none⟩; pure (.agg #[x0, x1, x2, x3]) : Sem Value).run Try.prog w := fun w => by kernel_rfl
  have hl : (loadVar 93 ⟨b, 0, none⟩).run Try.prog w = .ok (.agg #[.string x.key, .int .i64 x.s, .int .i64 x.g, .bool x.closed]) w := by
    rw [hz]
    simp [c0, c1, c2, c3]
  have ht' : tmps[t]?.getD undef = .pointer (some ⟨b, 0, none⟩) := by simpa using ht
  simp [results, h, ht', asAddr, hl]

theorem ask_no' {w : World} {p : Option Addr} (h : NmH w p) (q s g : Int) : Calls Try.prog 38 #[.pointer p, .int .i64 q, .agg #[.int .i64 s, .int .i64 g]] w fun e w' => e = .returned (.tuple #[.pointer none, Cl.zero.v, .int .i64 2]) ∧ Below w.heap.size w w' := by
  obtain ⟨w1, hw1, hz1, hb1⟩ : ∃ w1, w.alloc (.cells #[.int .i64 s, .int .i64 g] 36) = w1 ∧ w1.heap.size = w.heap.size + 1 ∧ Below w.heap.size w w1 := ⟨_, rfl, by simp, (Below.refl _ w).alloc (Nat.le_refl _) _⟩
  obtain ⟨w2, hw2, hz2, hb2, hkx⟩ : ∃ w2, w1.alloc (.cells #[.string ⟨#[]⟩, .int .i64 0, .int .i64 0, .bool false] 93) = w2 ∧ w2.heap.size = w.heap.size + 2 ∧ Below w1.heap.size w1 w2 ∧ Bk w2 (w.heap.size + 1) 93 #[.string ⟨#[]⟩, .int .i64 0, .int .i64 0, .bool false] := ⟨_, rfl, by simp [hz1], (Below.refl _ w1).alloc (Nat.le_refl _) _, by rw [← hz1]; exact Bk.new _ _ _⟩
  have HX3 : Hid (Bk w2 (w.heap.size + 1) 93 #[.string ⟨#[]⟩, .int .i64 0, .int .i64 0, .bool false]) := hkx
  have HB2 : Hid (Below w.heap.size w w2) := hb1.trans (hb2.mono hb1.size)
  have hn : NmH w2 p := h.below HB2.out
  have x0 : w2.cell? ⟨w.heap.size + 1, 0, none⟩ = some (.string ⟨#[]⟩) := hkx.cell 0
  have x1 : w2.cell? ⟨w.heap.size + 1, 1, none⟩ = some (.int .i64 0) := hkx.cell 1
  have x2 : w2.cell? ⟨w.heap.size + 1, 2, none⟩ = some (.int .i64 0) := hkx.cell 2
  have x3 : w2.cell? ⟨w.heap.size + 1, 3, none⟩ = some (.bool false) := hkx.cell 3
  have f0 : w2.frozen? ⟨w.heap.size + 1, 0, none⟩ = false := hkx.frozen 0
  have f1 : w2.frozen? ⟨w.heap.size + 1, 1, none⟩ = false := hkx.frozen 1
  have f2 : w2.frozen? ⟨w.heap.size + 1, 2, none⟩ = false := hkx.frozen 2
  have f3 : w2.frozen? ⟨w.heap.size + 1, 3, none⟩ = false := hkx.frozen 3
  clear hkx hb1 hb2
  go_enter Try.func38, Try.ntmps38
  go_wp2_with fail
  refine (share_no hn q).mono ?_
  rintro e w3 ⟨rfl, rfl⟩
  go_wp2
  refine bodyPost_ret (results_ask (x := Cl.zero) rfl rfl (by exact ((((HX3.out.set 0 _).set 1 _).set 2 _).set 3 _))) rfl ?_
  exact ⟨rfl, (((HB2.out.setCell (Nat.le_succ _) _).setCell (Nat.le_succ _) _).setCell (Nat.le_succ _) _).setCell (Nat.le_succ _) _⟩

theorem drop_no {w : World} {p : Option Addr} (h : NmH w p) (q s g : Int) : Calls Try.prog 28 #[.pointer p, .int .i64 q, .agg #[.int .i64 s, .int .i64 g]] w fun e w' => e = .returned (.int .i64 2) ∧ Below w.heap.size w w' := by
  have hb1 : Below w.heap.size w (w.alloc (.cells #[.int .i64 s, .int .i64 g] 36)) := (Below.refl _ w).alloc (Nat.le_refl _) _
  have hn : NmH (w.alloc (.cells #[.int .i64 s, .int .i64 g] 36)) p := h.below hb1
  have HB1 : Hid _ := hb1
  clear hb1
  go_enter Try.func28, Try.ntmps28
  go_wp2_with fail
  refine (ask_no' hn q s g).mono ?_
  rintro e w3 ⟨rfl, hb3⟩
  have HB3 : Hid (Below w.heap.size w w3) := HB1.out.trans (hb3.mono HB1.out.size)
  clear hb3 hn HB1
  go_wp2
  go_ret
  exact ⟨rfl, HB3.out.alloc HB3.out.size _⟩

theorem cell_no {w : World} {p : Option Addr} (h : NmH w p) (q : Int) (k : ByteArray) : Calls Try.prog 12 #[.pointer p, .int .i64 q, .string k] w fun e w' => e = .returned (.tuple #[.agg #[.int .i64 0, .int .i64 0], .int .i64 2]) ∧ Below w.heap.size w w' := by
  obtain ⟨w1, hw1, hz1, hb1, hkx⟩ : ∃ w1, w.alloc (.cells #[.int .i64 0, .int .i64 0] 36) = w1 ∧ w1.heap.size = w.heap.size + 1 ∧ Below w.heap.size w w1 ∧ Bk w1 w.heap.size 36 #[.int .i64 0, .int .i64 0] := ⟨_, rfl, by simp, (Below.refl _ w).alloc (Nat.le_refl _) _, Bk.new _ _ _⟩
  have HX : Hid (Bk w1 w.heap.size 36 #[.int .i64 0, .int .i64 0]) := hkx
  have HB : Hid (Below w.heap.size w w1) := hb1
  have hn : NmH w1 p := h.below hb1
  have x0 : w1.cell? ⟨w.heap.size, 0, none⟩ = some (.int .i64 0) := hkx.cell 0
  have x1 : w1.cell? ⟨w.heap.size, 1, none⟩ = some (.int .i64 0) := hkx.cell 1
  have f0 : w1.frozen? ⟨w.heap.size, 0, none⟩ = false := hkx.frozen 0
  have f1 : w1.frozen? ⟨w.heap.size, 1, none⟩ = false := hkx.frozen 1
  clear hkx hb1
  go_enter Try.func12, Try.ntmps12
  go_wp2_with fail
  refine (share_no hn q).mono ?_
  rintro e w3 ⟨rfl, rfl⟩
  go_wp2
  refine bodyPost_ret (results_hndC rfl rfl (by exact ((HX.out.set 0 _).set 1 _))) rfl ?_
  exact ⟨rfl, (HB.out.setCell (Nat.le_refl _) _).setCell (Nat.le_refl _) _⟩

end Go.Proofs.Ytbdcdiihaecheaa
