/- What slices.Values hands back goes through the slice's ints, as long as some blocks lie as they lay. -/
import Derived.Test.YtpggnejifpcnmaaDkSmall
import Derived.Test.YtpggnejifpcnmaaDkLay
import Derived.RangeFuncNested
import Derived.RangeFuncBound
import Derived.RangeFuncCalls
import Derived.RangeFuncLeaves
import Derived.RangeFuncBox
import Derived.Shelf.Abstract
import Derived.Shelf.RegionOpen
import Derived.OwnWalkIn
import Derived.TacticsInMore
import Derived.LoopNIn
import Derived.LoopIn
namespace Go.Proofs.Ytpggnejifpcnmaa
open Go.RowKit Go.Shelf Go.Maps
attribute [local go_sem] Oper.semAt_some
set_option linter.unusedVariables false

/-- What a round leaves as it was: the blocks from m0 on, up to m1. -/
def KpI (m0 m1 : Nat) (W W' : World) : Prop := ∀ k, m0 ≤ k → k < m1 → W'.heap[k]? = W.heap[k]?

theorem KpI.t {m0 m1 : Nat} {A B C : World} (h : KpI m0 m1 A B) (k : KpI m0 m1 B C) : KpI m0 m1 A C := fun j h1 h2 => (k j h1 h2).trans (h j h1 h2)

theorem KpI.cell {m0 m1 : Nat} {W W' : World} (h : KpI m0 m1 W W') {k o : Nat} (h0 : m0 ≤ k) (h1 : k < m1) : W'.cell? ⟨k, o, none⟩ = W.cell? ⟨k, o, none⟩ := by
  simp [World.cell?, h k h0 h1]

set_option maxRecDepth 100000 in
set_option maxHeartbeats 2000000 in
theorem vals1_in {α : Type} (val : α → Int) (n : Nat) (hn : 1 ≤ n) (l Bs m0 m1 b off len cap : Nat) (L : List α) (hlen : L.length = len) (hreach : len ≤ 4611686018427387904) (hB0 : m0 ≤ Bs) (hB1 : Bs < m1) (hb0 : m0 ≤ b) (hb1 : b < m1)
    (J Jx : List α → World → Prop)
    (hY : ∀ pre x W, J pre W → pre.length < len → YieldAt Fence.wide (n - 1) Try.prog l #[.int .i64 (val x)] W fun e W' =>
      (e = .returned (.bool true) ∧ J (pre ++ [x]) W' ∧ KpI m0 m1 W W') ∨ (e = .returned (.bool false) ∧ Jx (pre ++ [x]) W'))
    (W : World) (hbx : W.cell? ⟨Bs, 0, none⟩ = some (.slice (some ⟨b, off, none⟩) len cap)) (hc : ∀ j x, L[j]? = some x → W.cell? ⟨b, off + j, none⟩ = some (.int .i64 (val x))) (h0 : J [] W) :
    CallsIn Fence.wide n Try.prog 65 #[.func (.yield l) #[] #[], .pointer (some ⟨Bs, 0, none⟩)] W fun e W' => (∃ v, e = .returned v) ∧
      ((∃ ys, ys = L ∧ J ys W') ∨ (∃ pre, pre <+: L ∧ Jx pre W')) := by
  refine callsIn_of_wp Try.func65 rfl trivial ?_ rfl
  simp only [Try.ntmps65, List.size_toArray, List.length_cons, List.length_nil, Nat.reduceAdd, Nat.reduceSub, Array.replicate_succ, Array.replicate_zero, List.push_toArray, List.append_toArray, List.nil_append, List.cons_append]
  have HL : Hid (L.length = len) := hlen
  have HC : Hid (∀ j x, L[j]? = some x → W.cell? ⟨b, off + j, none⟩ = some (.int .i64 (val x))) := hc
  have HY : Hid (∀ pre x W, J pre W → pre.length < len → YieldAt Fence.wide (n - 1) Try.prog l #[.int .i64 (val x)] W fun e W' =>
      (e = .returned (.bool true) ∧ J (pre ++ [x]) W' ∧ KpI m0 m1 W W') ∨ (e = .returned (.bool false) ∧ Jx (pre ++ [x]) W')) := hY
  clear hlen hc hY
  gi_wp2
  gi_loopw [7] (fun i wr => ∃ k : Nat, k ≤ len ∧ i = .int .i64 k ∧ J (L.take k) wr ∧ KpI m0 m1 W wr) (fun i _ => len - (intOf i).toNat)
  case atStart => exact ⟨0, Nat.zero_le _, rfl, h0, fun _ _ _ => rfl⟩
  case round =>
    obtain ⟨k, hk, rfl, hJs, hK⟩ := hrel
    by_cases hlt : k < len
    · have hkL : k < L.length := by rw [HL.out]; exact hlt
      obtain ⟨x, hx⟩ : ∃ x, L[k]? = some x := ⟨_, List.getElem?_eq_getElem hkL⟩
      have hcx : wr.cell? ⟨b, off + k, none⟩ = some (.int .i64 (val x)) := (hK.cell hb0 hb1).trans (HC.out k x hx)
      have HT : Hid (L.take (k + 1) = L.take k ++ [x]) := by
        rw [Hid, List.take_add_one, hx]
        rfl
      obtain ⟨fn, tmps, assign, body, hy, hR⟩ := HY.out (L.take k) x wr hJs (by rw [List.length_take]; omega)
      clear hx
      generalize val x = vx at *
      gi_wp2
      refine hR.mono ?_
      rintro e W3 (⟨rfl, hJ3, hk3⟩ | ⟨rfl, hJx3⟩)
      · gi_wp2
        go_roundw
        case rel => exact ⟨k + 1, by omega, by go_num, by rw [HT.out]; exact hJ3, hK.t hk3⟩
        case measure => simp [intOf]; omega
      · gi_wp2
        refine bodyPost_ret (results_none rfl _ _ _) rfl ?_
        exact ⟨⟨_, rfl⟩, .inr ⟨_, by rw [← HT.out]; exact List.take_prefix _ _, hJx3⟩⟩
    · obtain rfl : k = len := by omega
      gi_wp2
      go_end0
      refine ⟨⟨_, rfl⟩, .inl ⟨_, rfl, ?_⟩⟩
      rw [List.take_of_length_le (by rw [HL.out]; exact Nat.le_refl _)] at hJs
      exact hJs

set_option maxRecDepth 100000 in
set_option maxHeartbeats 1000000 in
/-- .. at no ints: no round. -/
theorem vals1_nil_in {α : Type} (n : Nat) (l Bs : Nat) (J : List α → World → Prop) (W : World) (p : Option Addr) (cap : Nat) (hbx : W.cell? ⟨Bs, 0, none⟩ = some (.slice p 0 cap)) (h0 : J [] W) :
    CallsIn Fence.wide n Try.prog 65 #[.func (.yield l) #[] #[], .pointer (some ⟨Bs, 0, none⟩)] W fun e W' => (∃ v, e = .returned v) ∧ J [] W' := by
  refine callsIn_of_wp Try.func65 rfl trivial ?_ rfl
  simp only [Try.ntmps65, List.size_toArray, List.length_cons, List.length_nil, Nat.reduceAdd, Nat.reduceSub, Array.replicate_succ, Array.replicate_zero, List.push_toArray, List.append_toArray, List.nil_append, List.cons_append]
  gi_wp2
  gi_loopw [7] (fun i wr => i = .int .i64 0 ∧ J [] wr) (fun _ _ => 0)
  case atStart => exact ⟨rfl, h0⟩
  case round =>
    obtain ⟨rfl, hJs⟩ := hrel
    gi_wp2
    go_end0
    exact ⟨⟨_, rfl⟩, hJs⟩

/-- A function value that goes through ints. -/
structure Goes {α : Type} (val : α → Int) (m0 : Nat) (W : World) (Bs : Nat) (L : List α) : Prop where
  box : ∃ p cap, Bk W Bs 70 #[.slice p L.length cap] ∧ (0 < L.length → ∃ b off, p = some ⟨b, off, none⟩ ∧ m0 ≤ b ∧ b < W.heap.size ∧ ∀ j x, L[j]? = some x → W.cell? ⟨b, off + j, none⟩ = some (.int .i64 (val x)))
  base : m0 ≤ Bs
  reach : L.length ≤ 4611686018427387904

/-- What slices.Values hands back goes through the ints. -/
theorem vals_stops {α : Type} {val : α → Int} (n : Nat) (hn : 1 ≤ n) {Bs m0 m1 : Nat} {L : List α} {w : World} (h : Goes val m0 w Bs L) (hm1 : m1 = w.heap.size) :
    SeqStopsK Fence.wide n Try.prog 65 #[.pointer (some ⟨Bs, 0, none⟩)] (fun x : α => #[Value.int .i64 (val x)]) (KpI m0 m1)
      (fun ys => ys = L) (fun pre => pre <+: L) L.length w := fun l J Jx W hW _ _ hY h0 => by
  subst hm1
  obtain ⟨p, cap, hbx, hp⟩ := h.box
  have hlt := hbx.lt
  have hc' : W.cell? ⟨Bs, 0, none⟩ = some (.slice p L.length cap) := (hW.cell (p := ⟨Bs, 0, none⟩) hlt).trans (by rw [hbx.cell]; rfl)
  by_cases h1 : 0 < L.length
  · obtain ⟨b, off, rfl, hb0, hb1, hcs⟩ := hp h1
    exact vals1_in val n hn l Bs m0 _ b off L.length cap L rfl h.reach h.base hlt hb0 hb1 J Jx hY W hc' (fun j x hx => (hW.cell (p := ⟨b, off + j, none⟩) hb1).trans (hcs j x hx)) h0
  · obtain rfl : L = [] := List.eq_nil_of_length_eq_zero (by omega)
    exact (vals1_nil_in n l Bs J W p cap hc' h0).mono fun e W' ⟨he, hj⟩ => ⟨he, .inl ⟨_, rfl, hj⟩⟩

set_option maxHeartbeats 1000000 in
theorem values_any (p : Option Addr) (len cap : Nat) (w : World) :
    Calls Try.prog 58 #[.slice p len cap] w fun e w' => e = .returned (.func (.func 65) #[] #[.pointer (some ⟨w.heap.size, 0, none⟩)]) ∧ w' = w.alloc (.cells #[.slice p len cap] 70) := by
  go_enter Try.func58, Try.ntmps58
  go_wp2
  go_ret
  exact ⟨rfl, rfl⟩

end Go.Proofs.Ytpggnejifpcnmaa
