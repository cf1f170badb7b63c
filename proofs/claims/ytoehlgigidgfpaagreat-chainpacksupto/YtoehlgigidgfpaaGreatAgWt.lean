/- The slots that wait: a row of numbers; two of them held against each other, two changed. -/
import Derived.Test.YtoehlgigidgfpaaGreatArHp
import Derived.Test.YtoehlgigidgfpaaGreatApA
import Derived.Handy
import Derived.BigQuiet
import Derived.Laws.OwnMore
import Derived.Tactics2
import Derived.WalkSmall
namespace Go.Proofs.YtoehlgigidgfpaaGreat
open Go.RowKit
set_option linter.unusedVariables false
set_option maxRecDepth 100000

/-- Numbers as cells. -/
def nums (l : List Nat) : List Value := l.map fun (i : Nat) => Value.int .i64 (i : Int)

theorem nums_length (l : List Nat) : (nums l).length = l.length := by simp [nums]

/-- A row of numbers in memory. -/
def Nr (w : World) (v : Value) (l : List Nat) : Prop := w.ownsRow 0 3 1 v l.length (nums l)

theorem Nr.tn {S : List Nat} {w w' : World} {v : Value} {l : List Nat} (h : Nr w v l) (ht : Tn S w w') (hn : ∀ k, v.ownBlock = some k → k ∉ S) : Nr w' v l := owns_tn h ht hn

theorem Nr.has {w : World} {v : Value} {l : List Nat} (h : Nr w v l) (hl : 0 < l.length) : ∃ g c, v = .slice (some ⟨g, 0, none⟩) l.length c ∧ l.length ≤ c ∧ c ≤ maxLen := by
  rcases h.2 with ⟨_, hn⟩ | ⟨g, cap, cur, hv, _, _, h1, h2, _⟩
  · omega
  · exact ⟨g, cap, hv, h1, h2⟩

theorem Nr.form {w : World} {v : Value} {l : List Nat} (h : Nr w v l) : ∃ p c, v = .slice p l.length c ∧ l.length ≤ c := by
  rcases h.2 with ⟨hv, hn⟩ | ⟨g, cap, cur, hv, _, _, h1, h2, _⟩
  · exact ⟨none, 0, by rw [hv, hn], by omega⟩
  · exact ⟨_, cap, hv, h1⟩

theorem Nr.cell {w : World} {g c : Nat} {l : List Nat} {n : Nat} (hn : l.length = n) (h : Nr w (.slice (some ⟨g, 0, none⟩) n c) l) (i : Nat) (hi : i < n) : w.cell? ⟨g, i, none⟩ = some (.int .i64 (Hq.at' l i : Int)) := by
  subst hn
  have := World.ownsRow.cellAt h i (by omega)
  rw [this]
  simp [nums, Hq.at', List.getD, hi]

theorem Nr.frozen {w : World} {g c n : Nat} {l : List Nat} (hn : l.length = n) (h : Nr w (.slice (some ⟨g, 0, none⟩) n c) l) (i : Nat) : w.frozen? ⟨g, i, none⟩ = false := by
  subst hn
  exact World.ownsRow.frozenAt h i

theorem Nr.set {w : World} {g c n : Nat} {l : List Nat} (hn : l.length = n) (h : Nr w (.slice (some ⟨g, 0, none⟩) n c) l) (i x : Nat) : Nr (w.setCell ⟨g, i, none⟩ (.int .i64 (x : Int))) (.slice (some ⟨g, 0, none⟩) n c) (l.set i x) ∧ Tn [g] w (w.setCell ⟨g, i, none⟩ (.int .i64 (x : Int))) := by
  subst hn
  have := World.ownsRow.stored h i (.int .i64 (x : Int))
  refine ⟨?_, grown_tn this.2⟩
  have h1 := this.1
  unfold Nr
  rw [show nums (l.set i x) = (nums l).set i (.int .i64 (x : Int)) by simp [nums, List.map_set], List.length_set]
  exact h1

set_option maxHeartbeats 1000000 in
/-- Less. -/
theorem less_any {w : World} {v : Value} {l : List Nat} (h : Nr w v l) (i j : Nat) (hi : i < l.length) (hj : j < l.length) (hb : l.length ≤ 65536) :
    Calls Tryz.prog 234 #[v, .int .i64 i, .int .i64 j] w fun e w' => e = .returned (.bool (decide (Hq.at' l i < Hq.at' l j))) ∧ Tn [] w w' := by
  obtain ⟨g, c, rfl, hc, hcm⟩ := h.has (by omega)
  have c1 := h.cell rfl i hi
  have c2 := h.cell rfl j hj
  have hd : decide ((Hq.at' l i : Int) < (Hq.at' l j : Int)) = decide (Hq.at' l i < Hq.at' l j) := by simp
  rw [← hd]
  generalize (Hq.at' l i : Int) = a at *
  generalize (Hq.at' l j : Int) = b at *
  generalize l.length = n at *
  clear h hd
  go_enter Tryz.func234, Tryz.ntmps234
  go_wp2_with fail
  go_quiet (fail)
  go_wp2
  go_ret
  exact ⟨rfl, Tn.of_below (below_drewN (Below.refl _ _) _) _⟩


set_option maxHeartbeats 1000000 in
/-- Swap. -/
theorem swap_any {w : World} {v : Value} {l : List Nat} (h : Nr w v l) (i j : Nat) (hi : i < l.length) (hj : j < l.length) (hb : l.length ≤ 65536) :
    Calls Tryz.prog 235 #[v, .int .i64 i, .int .i64 j] w fun e w' => e = .returned (.tuple #[]) ∧ Nr w' v (Hq.swap l i j) ∧ Tn v.ownBlock.toList w w' := by
  obtain ⟨g, c, rfl, hc, hcm⟩ := h.has (by omega)
  have c1 := h.cell rfl i hi
  have c2 := h.cell rfl j hj
  have f1 : w.frozen? ⟨g, i, none⟩ = false := h.frozen rfl i
  have f2 : w.frozen? ⟨g, j, none⟩ = false := h.frozen rfl j
  have h1 := h.set rfl i (Hq.at' l j)
  have h2 := h1.1.set (by simp) j (Hq.at' l i)
  have c3 : ((w.setCell ⟨g, i, none⟩ (.int .i64 (Hq.at' l j : Int))).cell? ⟨g, j, none⟩).isSome = true := by
    have := h1.1.cell (by simp) j hj
    rw [this]; rfl
  obtain ⟨u, c3⟩ := Option.isSome_iff_exists.1 c3
  have f3 : (w.setCell ⟨g, i, none⟩ (.int .i64 (Hq.at' l j : Int))).frozen? ⟨g, j, none⟩ = false := h1.1.frozen (by simp) j
  have HE : Hid (Nr ((w.setCell ⟨g, i, none⟩ (.int .i64 (Hq.at' l j : Int))).setCell ⟨g, j, none⟩ (.int .i64 (Hq.at' l i : Int))) (.slice (some ⟨g, 0, none⟩) l.length c) (Hq.swap l i j) ∧ Tn [g] w ((w.setCell ⟨g, i, none⟩ (.int .i64 (Hq.at' l j : Int))).setCell ⟨g, j, none⟩ (.int .i64 (Hq.at' l i : Int)))) :=
    ⟨h2.1, h1.2.trans h2.2 (fun x hx => .inl hx)⟩
  clear h h1 h2
  generalize (Hq.at' l i : Int) = a at *
  generalize (Hq.at' l j : Int) = b at *
  generalize hn : l.length = n at *
  go_enter Tryz.func235, Tryz.ntmps235
  go_wp2_with fail
  go_region
  go_end0
  exact ⟨rfl, HE.out.1, HE.out.2.drew⟩

theorem intinfo : (Tryz.prog.info? 3).map (fun i => (i.zero, i.size, i.bytes)) = some (some (.int .i64 0), 1, 8) := by kernel_rfl

end Go.Proofs.YtoehlgigidgfpaaGreat
