/- Heaps that no call made: Reopen, Retire, Install, Read. -/
import Derived.Test.YtbdcdiihaecheaaHpN2
namespace Go.Proofs.Ytbdcdiihaecheaa
open Go.RowKit
set_option linter.unusedVariables false
set_option maxRecDepth 100000
set_option linter.unusedSectionVars false
variable [Inhabited Cl] [Inhabited Ln]

set_option maxHeartbeats 1000000 in
theorem closedCell_no {w : World} {p : Option Addr} (h : NmH w p) (s g : Int) : Calls Try.prog 50 #[.pointer p, .agg #[.int .i64 s, .int .i64 g]] w fun e w' => e = .returned (.tuple #[Cl.zero.v, .int .i64 2]) ∧ Below w.heap.size w w' := by
  obtain ⟨w1, hw1, hz1, hb1, hkh⟩ : ∃ w1, w.alloc (.cells #[.int .i64 s, .int .i64 g] 36) = w1 ∧ w1.heap.size = w.heap.size + 1 ∧ Below w.heap.size w w1 ∧ Bk w1 w.heap.size 36 #[.int .i64 s, .int .i64 g] := ⟨_, rfl, by simp, (Below.refl _ w).alloc (Nat.le_refl _) _, Bk.new _ _ _⟩
  obtain ⟨w2, hw2, hz2, hb2, hkx⟩ : ∃ w2, w1.alloc (.cells #[.string ⟨#[]⟩, .int .i64 0, .int .i64 0, .bool false] 93) = w2 ∧ w2.heap.size = w.heap.size + 2 ∧ Below w1.heap.size w1 w2 ∧ Bk w2 (w.heap.size + 1) 93 #[.string ⟨#[]⟩, .int .i64 0, .int .i64 0, .bool false] := ⟨_, rfl, by simp [hz1], (Below.refl _ w1).alloc (Nat.le_refl _) _, by rw [← hz1]; exact Bk.new _ _ _⟩
  have HX2 : Hid (Bk w2 (w.heap.size + 1) 93 #[.string ⟨#[]⟩, .int .i64 0, .int .i64 0, .bool false]) := hkx
  have HB2 : Hid (Below w.heap.size w w2) := hb1.trans (hb2.mono hb1.size)
  have hn : NmH w2 p := h.below HB2.out
  have hkh2 := hkh.tn (Tn.of_below hb2 []) (by simp)
  have k0 : w2.cell? ⟨w.heap.size, 0, none⟩ = some (.int .i64 s) := hkh2.cell 0
  have k1 : w2.cell? ⟨w.heap.size, 1, none⟩ = some (.int .i64 g) := hkh2.cell 1
  clear hkx hb1 hb2 hkh hkh2
  go_enter Try.func50, Try.ntmps50
  go_wp2_with fail
  refine (look_no hn s g).mono ?_
  rintro e w3 ⟨rfl, hb3⟩
  have HB4 : Hid (Below w.heap.size w (w3.alloc (.cells #[.string ⟨#[]⟩, .int .i64 0, .int .i64 0, .bool false] 93))) := (HB2.out.trans (hb3.mono HB2.out.size)).alloc (Nat.le_trans HB2.out.size hb3.size) _
  have HX3 : Hid (Bk (w3.alloc (.cells #[.string ⟨#[]⟩, .int .i64 0, .int .i64 0, .bool false] 93)) (w.heap.size + 1) 93 #[.string ⟨#[]⟩, .int .i64 0, .int .i64 0, .bool false]) := (HX2.out.tn (Tn.of_below hb3 []) (by simp)).alloc _
  have x0 : (w3.alloc (.cells #[.string ⟨#[]⟩, .int .i64 0, .int .i64 0, .bool false] 93)).cell? ⟨w.heap.size + 1, 0, none⟩ = some (.string ⟨#[]⟩) := HX3.out.cell 0
  have f0 : (w3.alloc (.cells #[.string ⟨#[]⟩, .int .i64 0, .int .i64 0, .bool false] 93)).frozen? ⟨w.heap.size + 1, 0, none⟩ = false := HX3.out.frozen 0
  have x1 : (w3.alloc (.cells #[.string ⟨#[]⟩, .int .i64 0, .int .i64 0, .bool false] 93)).cell? ⟨w.heap.size + 1, 1, none⟩ = some (.int .i64 0) := HX3.out.cell 1
  have f1 : (w3.alloc (.cells #[.string ⟨#[]⟩, .int .i64 0, .int .i64 0, .bool false] 93)).frozen? ⟨w.heap.size + 1, 1, none⟩ = false := HX3.out.frozen 1
  have x2 : (w3.alloc (.cells #[.string ⟨#[]⟩, .int .i64 0, .int .i64 0, .bool false] 93)).cell? ⟨w.heap.size + 1, 2, none⟩ = some (.int .i64 0) := HX3.out.cell 2
  have f2 : (w3.alloc (.cells #[.string ⟨#[]⟩, .int .i64 0, .int .i64 0, .bool false] 93)).frozen? ⟨w.heap.size + 1, 2, none⟩ = false := HX3.out.frozen 2
  have x3 : (w3.alloc (.cells #[.string ⟨#[]⟩, .int .i64 0, .int .i64 0, .bool false] 93)).cell? ⟨w.heap.size + 1, 3, none⟩ = some (.bool false) := HX3.out.cell 3
  have f3 : (w3.alloc (.cells #[.string ⟨#[]⟩, .int .i64 0, .int .i64 0, .bool false] 93)).frozen? ⟨w.heap.size + 1, 3, none⟩ = false := HX3.out.frozen 3
  clear hb3 hn HX2 HB2 k0 k1
  go_wp2
  refine bodyPost_ret (results_elC (x := Cl.zero) rfl rfl (by exact ((((HX3.out.set 0 _).set 1 _).set 2 _).set 3 _))) rfl ?_
  exact ⟨rfl, (((HB4.out.setCell (Nat.le_succ _) _).setCell (Nat.le_succ _) _).setCell (Nat.le_succ _) _).setCell (Nat.le_succ _) _⟩

theorem reopen_no {w : World} {p : Option Addr} (h : NmH w p) (s g : Int) : Calls Try.prog 17 #[.pointer p, .agg #[.int .i64 s, .int .i64 g]] w fun e w' => e = .returned (.int .i64 2) ∧ Below w.heap.size w w' := by
  have hb1 : Below w.heap.size w (w.alloc (.cells #[.int .i64 s, .int .i64 g] 36)) := (Below.refl _ w).alloc (Nat.le_refl _) _
  have hn : NmH (w.alloc (.cells #[.int .i64 s, .int .i64 g] 36)) p := h.below hb1
  have HB1 : Hid _ := hb1
  clear hb1
  go_enter Try.func17, Try.ntmps17
  go_wp2_with fail
  refine (closedCell_no hn s g).mono ?_
  rintro e w3 ⟨rfl, hb3⟩
  have HB3 : Hid (Below w.heap.size w w3) := HB1.out.trans (hb3.mono HB1.out.size)
  clear hb3 hn HB1
  go_wp2
  go_ret
  exact ⟨rfl, HB3.out.alloc HB3.out.size _⟩

theorem hretire_no {w : World} {p : Option Addr} (h : NmH w p) (s g : Int) : Calls Try.prog 18 #[.pointer p, .agg #[.int .i64 s, .int .i64 g]] w fun e w' => e = .returned (.int .i64 2) ∧ Below w.heap.size w w' := by
  have hb1 : Below w.heap.size w (w.alloc (.cells #[.int .i64 s, .int .i64 g] 36)) := (Below.refl _ w).alloc (Nat.le_refl _) _
  have hn : NmH (w.alloc (.cells #[.int .i64 s, .int .i64 g] 36)) p := h.below hb1
  have HB1 : Hid _ := hb1
  clear hb1
  go_enter Try.func18, Try.ntmps18
  go_wp2_with fail
  refine (closedCell_no hn s g).mono ?_
  rintro e w3 ⟨rfl, hb3⟩
  have HB3 : Hid (Below w.heap.size w w3) := HB1.out.trans (hb3.mono HB1.out.size)
  clear hb3 hn HB1
  go_wp2
  go_ret
  exact ⟨rfl, HB3.out.alloc HB3.out.size _⟩

theorem install_no {w : World} {p : Option Addr} (h : NmH w p) (q s g : Int) (x : Vs) : Calls Try.prog 13 #[.pointer p, .int .i64 q, .agg #[.int .i64 s, .int .i64 g], x.v] w fun e w' => e = .returned (.int .i64 2) ∧ Below w.heap.size w w' := by
  obtain ⟨w1, hw1, hz1, hb1, hkh⟩ : ∃ w1, w.alloc (.cells #[.int .i64 s, .int .i64 g] 36) = w1 ∧ w1.heap.size = w.heap.size + 1 ∧ Below w.heap.size w w1 ∧ Bk w1 w.heap.size 36 #[.int .i64 s, .int .i64 g] := ⟨_, rfl, by simp, (Below.refl _ w).alloc (Nat.le_refl _) _, Bk.new _ _ _⟩
  obtain ⟨w2, hw2, hb2⟩ : ∃ w2, w1.alloc (.cells #[.int .i64 x.ts, .string x.val, .bool x.del] 34) = w2 ∧ Below w1.heap.size w1 w2 := ⟨_, rfl, (Below.refl _ w1).alloc (Nat.le_refl _) _⟩
  have HB1 : Hid (Below w.heap.size w w2) := hb1.trans (hb2.mono hb1.size)
  have hn : NmH w2 p := h.below HB1.out
  have hkh2 := hkh.tn (Tn.of_below hb2 []) (by simp)
  have k0 : w2.cell? ⟨w.heap.size, 0, none⟩ = some (.int .i64 s) := hkh2.cell 0
  have k1 : w2.cell? ⟨w.heap.size, 1, none⟩ = some (.int .i64 g) := hkh2.cell 1
  clear hb1 hb2 hkh hkh2
  go_enter Try.func13, Try.ntmps13
  go_wp2_with fail
  refine (ask_no' hn q s g).mono ?_
  rintro e w3 ⟨rfl, hb3⟩
  have HB3 : Hid (Below w.heap.size w w3) := HB1.out.trans (hb3.mono HB1.out.size)
  clear hb3 hn HB1 k0 k1
  go_wp2
  go_ret
  exact ⟨rfl, HB3.out.alloc HB3.out.size _⟩

/-- A version that a block has, a bit and an error are answered. -/
theorem results_ver {fn : Func} {t u r : Tmp} (h : fn.results = #[.cell t 34, .tmp u, .tmp r]) {tmps : Array Value} {w : World} {b : Nat} (ht : tmps.getD t undef = .pointer (some ⟨b, 0, none⟩)) {x : Vs} (hk : Bk w b 34 #[.int .i64 x.ts, .string x.val, .bool x.del]) :
    (results fn tmps).run Try.prog w = .ok (.tuple #[x.v, tmps.getD u undef, tmps.getD r undef]) w := by
  have c0 : w.cell? ⟨b, 0, none⟩ = some (.int .i64 x.ts) := hk.cell 0
  have c1 : w.cell? ⟨b, 1, none⟩ = some (.string x.val) := hk.cell 1
  have c2 : w.cell? ⟨b, 2, none⟩ = some (.bool x.del) := hk.cell 2
  have hz : ∀ w : World, (loadVar 34 ⟨b, 0, none⟩).run Try.prog w = (do let x0 ← load ⟨b, 0, none⟩; let x1 ← load ⟨b, 1, none⟩; let x2 ← load ⟨b, 2, none⟩; pure (.agg #[x0, x1, x2]) : Sem Value).run Try.prog w := fun w => by kernel_rfl
  have hl : (loadVar 34 ⟨b, 0, none⟩).run Try.prog w = .ok x.v w := by
    rw [hz]
    simp [c0, c1, c2]
  have ht' : tmps[t]?.getD undef = .pointer (some ⟨b, 0, none⟩) := by simpa using ht
  simp [results, h, ht', asAddr, hl]

set_option maxHeartbeats 1000000 in
theorem read_no {w : World} {p : Option Addr} (h : NmH w p) (s g ts : Int) : Calls Try.prog 15 #[.pointer p, .agg #[.int .i64 s, .int .i64 g], .int .i64 ts] w fun e w' => e = .returned (.tuple #[Vs.zero.v, .bool false, .int .i64 2]) ∧ Below w.heap.size w w' := by
  obtain ⟨w1, hw1, hz1, hb1, hkh⟩ : ∃ w1, w.alloc (.cells #[.int .i64 s, .int .i64 g] 36) = w1 ∧ w1.heap.size = w.heap.size + 1 ∧ Below w.heap.size w w1 ∧ Bk w1 w.heap.size 36 #[.int .i64 s, .int .i64 g] := ⟨_, rfl, by simp, (Below.refl _ w).alloc (Nat.le_refl _) _, Bk.new _ _ _⟩
  obtain ⟨w2, hw2, hz2, hb2, hkx⟩ : ∃ w2, w1.alloc (.cells #[.int .i64 0, .string ⟨#[]⟩, .bool false] 34) = w2 ∧ w2.heap.size = w.heap.size + 2 ∧ Below w1.heap.size w1 w2 ∧ Bk w2 (w.heap.size + 1) 34 #[.int .i64 0, .string ⟨#[]⟩, .bool false] := ⟨_, rfl, by simp [hz1], (Below.refl _ w1).alloc (Nat.le_refl _) _, by rw [← hz1]; exact Bk.new _ _ _⟩
  have HX2 : Hid (Bk w2 (w.heap.size + 1) 34 #[.int .i64 0, .string ⟨#[]⟩, .bool false]) := hkx
  have HB2 : Hid (Below w.heap.size w w2) := hb1.trans (hb2.mono hb1.size)
  have hn : NmH w2 p := h.below HB2.out
  have hkh2 := hkh.tn (Tn.of_below hb2 []) (by simp)
  have k0 : w2.cell? ⟨w.heap.size, 0, none⟩ = some (.int .i64 s) := hkh2.cell 0
  have k1 : w2.cell? ⟨w.heap.size, 1, none⟩ = some (.int .i64 g) := hkh2.cell 1
  clear hkx hb1 hb2 hkh hkh2
  go_enter Try.func15, Try.ntmps15
  go_wp2_with fail
  refine (hlist_no hn s g).mono ?_
  rintro e w3 ⟨rfl, hb3⟩
  have HB4 : Hid (Below w.heap.size w w3) := HB2.out.trans (hb3.mono HB2.out.size)
  have HX3 : Hid (Bk w3 (w.heap.size + 1) 34 #[.int .i64 0, .string ⟨#[]⟩, .bool false]) := HX2.out.tn (Tn.of_below hb3 []) (by simp)
  have x0 : w3.cell? ⟨w.heap.size + 1, 0, none⟩ = some (.int .i64 0) := HX3.out.cell 0
  have x1 : w3.cell? ⟨w.heap.size + 1, 1, none⟩ = some (.string ⟨#[]⟩) := HX3.out.cell 1
  have x2 : w3.cell? ⟨w.heap.size + 1, 2, none⟩ = some (.bool false) := HX3.out.cell 2
  have f0 : w3.frozen? ⟨w.heap.size + 1, 0, none⟩ = false := HX3.out.frozen 0
  have f1 : w3.frozen? ⟨w.heap.size + 1, 1, none⟩ = false := HX3.out.frozen 1
  have f2 : w3.frozen? ⟨w.heap.size + 1, 2, none⟩ = false := HX3.out.frozen 2
  clear hb3 hn HX2 HB2 k0 k1
  go_wp2
  refine bodyPost_ret (results_ver (x := Vs.zero) rfl rfl (by exact (((HX3.out.set 0 _).set 1 _).set 2 _))) rfl ?_
  exact ⟨rfl, ((HB4.out.setCell (Nat.le_succ _) _).setCell (Nat.le_succ _) _).setCell (Nat.le_succ _) _⟩

end Go.Proofs.Ytbdcdiihaecheaa
