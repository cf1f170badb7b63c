import Derived.Test.YtcolmebpbjjehabLive
import Derived.Test.YtcolmebpbjjehabApp
import Derived.Test.YtcolmebpbjjehabStor
import Derived.Test.YtcolmebpbjjehabRefParse
import Derived.Test.YtcolmebpbjjehabText
import Derived.RangeFuncNested
import Derived.RangeFuncBound
import Derived.RangeFuncCalls
import Derived.RangeFuncLeaves
import Derived.Shelf.Abstract
import Derived.Shelf.RegionOpen
import Derived.WalkKit
import Derived.OwnWalkIn
import Derived.TacticsInMore
import Derived.LoopNIn
import Derived.LoopIn
namespace Go.Proofs.Ytcolmebpbjjehab
open Go.RowKit Go.Shelf
attribute [local go_sem] Oper.semAt_some
set_option linter.unusedVariables false

set_option maxHeartbeats 1000000 in
/-- codec.Ints: the bytes are copied, the copy's slice is boxed, the function value holds the box. -/
theorem ints_any (p : Option Addr) (c len : Nat) (xs : List Int) (w : World) (hlen : xs.length = len) (hx : Bys w p xs) (hm : len ≤ 140737488355328) (hp : p = none → len = 0 ∧ c = 0) :
    Calls Try.prog 24 #[.slice p len c] w fun e w' => ∃ Bs v, e = .returned (.func (.func 36) #[] #[.pointer (some ⟨Bs, 0, none⟩)]) ∧ Own w' w.heap.size v len xs ∧ Boxed w' Bs 22 v ∧ w.heap.size ≤ Bs ∧ Below w.heap.size w w' := by
  have HX : Hid (Bys w p xs) := hx
  have HL : Hid (xs.length = len) := hlen
  have HP : Hid (p = none → len = 0 ∧ c = 0) := hp
  clear hx hlen hp
  go_enter Try.func24, Try.ntmps24
  go_wp2_with fail
  refine (clone_any p c len xs _ HL.out HX.out hm HP.out).mono ?_
  rintro e w1 ⟨v, rfl, HO, hb⟩
  obtain ⟨p1, c1, hv, hc1, hp1, _⟩ := HO.bys
  subst hv
  go_wp2
  go_ret
  exact ⟨w1.heap.size, _, rfl, HO.below ((Below.refl _ _).alloc (Nat.le_refl _) _) (Nat.le_refl _), Boxed.new w1 _ _, hb.size, hb.alloc hb.size _⟩

namespace Cd
/-- One int more that came, with its place. -/
def step (xs : List Int) (x : Nat × Int) (a : Nat) : Option Nat :=
  if x.1 = a ∧ (dec (xs.drop a)).2.2 = 0 ∧ (dec (xs.drop a)).1 = x.2 then some (a + (dec (xs.drop a)).2.1.toNat) else none
/-- Where the ints that came end, if they are those of the bytes. -/
def run (xs : List Int) (pre : List (Nat × Int)) : Option Nat := pre.foldl (fun st x => st.bind (step xs x)) (some 0)
theorem run_snoc (xs : List Int) (pre : List (Nat × Int)) (x : Nat × Int) : run xs (pre ++ [x]) = (run xs pre).bind (step xs x) := by simp [run, List.foldl_append]
end Cd

/-- What a round leaves as it was: the blocks from m0 on, up to m1. -/
def KpI (m0 m1 : Nat) (W W' : World) : Prop := ∀ k, m0 ≤ k → k < m1 → W'.heap[k]? = W.heap[k]?

theorem KpI.t {m0 m1 : Nat} {A B C : World} (h : KpI m0 m1 A B) (k : KpI m0 m1 B C) : KpI m0 m1 A C := fun j h1 h2 => (k j h1 h2).trans (h j h1 h2)

theorem KpI.cell {m0 m1 : Nat} {W W' : World} (h : KpI m0 m1 W W') {k o : Nat} (h0 : m0 ≤ k) (h1 : k < m1) : W'.cell? ⟨k, o, none⟩ = W.cell? ⟨k, o, none⟩ := by
  simp [World.cell?, h k h0 h1]

theorem KpI.bys {m0 m1 g : Nat} {W W' : World} {xs : List Int} (h : KpI m0 m1 W W') (h0 : m0 ≤ g) (h1 : g < m1) (hb : Bys W (some ⟨g, 0, none⟩) xs) : Bys W' (some ⟨g, 0, none⟩) xs := by
  intro hl
  obtain ⟨b, o, e, hc⟩ := hb hl
  simp only [Option.some.injEq, Addr.mk.injEq] at e
  obtain ⟨rfl, rfl, _⟩ := e
  exact ⟨g, 0, rfl, fun i hi => (h.cell h0 h1).trans (hc i hi)⟩

theorem drop_byte {xs : List Int} (h : ∀ y ∈ xs, 0 ≤ y ∧ y < 256) (k : Nat) : ∀ y ∈ xs.drop k, 0 ≤ y ∧ y < 256 := fun y hy => h y (List.mem_of_mem_drop hy)

set_option maxRecDepth 100000 in
set_option maxHeartbeats 2000000 in
/-- codec.Ints's closure. -/
theorem ints1_in (n : Nat) (hn : 1 ≤ n) (l Bs m0 m1 g len c : Nat) (xs : List Int) (hlen : xs.length = len) (hle : len ≤ c) (hc : c ≤ 9223372036854775807) (hyb : ∀ y ∈ xs, 0 ≤ y ∧ y < 256)
    (hB0 : m0 ≤ Bs) (hB1 : Bs < m1) (hg0 : m0 ≤ g) (hg1 : g < m1) (J Jx : List (Nat × Int) → World → Prop)
    (hY : ∀ pre x W, J pre W → pre.length < len → YieldAt Fence.wide (n - 1) Try.prog l #[.int .i64 (x.1 : Int), .int .i64 x.2] W fun e W' =>
      (e = .returned (.bool true) ∧ J (pre ++ [x]) W' ∧ KpI m0 m1 W W') ∨ (e = .returned (.bool false) ∧ Jx (pre ++ [x]) W'))
    (W : World) (hbx : W.cell? ⟨Bs, 0, none⟩ = some (.slice (some ⟨g, 0, none⟩) len c)) (hby : Bys W (some ⟨g, 0, none⟩) xs) (h0 : J [] W) :
    CallsIn Fence.wide n Try.prog 36 #[.func (.yield l) #[] #[], .pointer (some ⟨Bs, 0, none⟩)] W fun e W' => (∃ v, e = .returned v) ∧
      ((∃ ys, (∃ a, Cd.run xs ys = some a ∧ (Cd.dec (xs.drop a)).2.2 ≠ 0) ∧ J ys W') ∨ (∃ pre, (∃ a, Cd.run xs pre = some a) ∧ Jx pre W')) := by
  refine callsIn_of_wp Try.func36 rfl trivial ?_ rfl
  simp only [Try.ntmps36, List.size_toArray, List.length_cons, List.length_nil, Nat.reduceAdd, Nat.reduceSub, Array.replicate_succ, Array.replicate_zero, List.push_toArray, List.append_toArray, List.nil_append, List.cons_append]
  have HL : Hid (xs.length = len) := hlen
  have HYB : Hid (∀ y ∈ xs, 0 ≤ y ∧ y < 256) := hyb
  have HBX : Hid (W.cell? ⟨Bs, 0, none⟩ = some (.slice (some ⟨g, 0, none⟩) len c)) := hbx
  have HBY : Hid (Bys W (some ⟨g, 0, none⟩) xs) := hby
  have HY : Hid (∀ pre x W, J pre W → pre.length < len → YieldAt Fence.wide (n - 1) Try.prog l #[.int .i64 (x.1 : Int), .int .i64 x.2] W fun e W' =>
      (e = .returned (.bool true) ∧ J (pre ++ [x]) W' ∧ KpI m0 m1 W W') ∨ (e = .returned (.bool false) ∧ Jx (pre ++ [x]) W')) := hY
  clear hlen hyb hbx hby hY
  gi_wp2
  gi_loopw [3] (fun i wr => ∃ (a : Nat) (pre : List (Nat × Int)), a ≤ len ∧ i = .int .i64 a ∧ Cd.run xs pre = some a ∧ pre.length ≤ a ∧ J pre wr ∧ KpI m0 m1 W wr) (fun i _ => len - (intOf i).toNat)
  case atStart => exact ⟨0, [], Nat.zero_le _, rfl, rfl, Nat.le_refl _, h0, fun _ _ _ => rfl⟩
  case round =>
    obtain ⟨a, pre, ha, rfl, hrun, hpre, hJs, hK⟩ := hrel
    have hbx : wr.cell? ⟨Bs, 0, none⟩ = some (.slice (some ⟨g, 0, none⟩) len c) := (hK.cell hB0 hB1).trans HBX.out
    have HBYS : Hid (Bys wr (some ⟨g, 0, none⟩) xs) := hK.bys hg0 hg1 HBY.out
    by_cases hlt : a < len
    · have hca : ¬ c = a := by omega
      have hf := Cd.dec_facts (xs.drop a) (drop_byte HYB.out a)
      have HDL : Hid ((xs.drop a).length = len - a) := by rw [Hid, List.length_drop, HL.out]
      have HDB : Hid (Bys wr (some ⟨g, a, none⟩) (xs.drop a)) := by
        have := bys_part HBYS.out a (len - a) (by rw [HL.out]; omega)
        rw [Nat.zero_add, List.take_of_length_le (by rw [HDL.out]; exact Nat.le_refl _)] at this
        exact this
      have HSTEP : Hid (∀ d1 d2 d3, Cd.dec (xs.drop a) = (d1, d2, d3) → d3 = 0 → Cd.run xs (pre ++ [(a, d1)]) = some (a + d2.toNat)) := by
        intro d1 d2 d3 hd h3
        rw [Cd.run_snoc, hrun]
        simp only [Option.bind_some, Cd.step, hd, h3, and_self, if_true]
      rw [HDL.out] at hf
      obtain ⟨D, hD⟩ : ∃ D, Cd.dec (xs.drop a) = D := ⟨_, rfl⟩
      obtain ⟨d1, d2, d3⟩ := D
      rw [hD] at hf
      simp only at hf
      have HD : Hid (Cd.dec (xs.drop a) = (d1, d2, d3)) := hD
      clear hD
      by_cases h3 : d3 = 0
      · subst h3
        have hf1 : 1 ≤ d2 ∧ d2 ≤ 9 ∧ d2 ≤ ((len - a : Nat) : Int) := by omega
        obtain ⟨s, rfl⟩ := Int.eq_ofNat_of_zero_le (show 0 ≤ d2 by omega)
        have hs1 : 1 ≤ s ∧ s + a ≤ len := by omega
        have HRUN : Hid (Cd.run xs (pre ++ [(a, d1)]) = some (a + s)) := HSTEP.out _ _ _ HD.out rfl
        clear hf hf1 HSTEP
        gi_wp2_with fail
        refine ⟨trivial, ?_⟩
        refine (callsIn_wide.2 (int_any _ (c - a) (len - a) (xs.drop a) _ HDL.out HDB.out (by omega) (by omega) (drop_byte HYB.out a))).mono ?_
        rintro e w1 ⟨rfl, hw1⟩
        subst hw1
        rw [HD.out]
        unfold three
        obtain ⟨fn, tmps, assign, body, hy, hR⟩ := HY.out pre (a, d1) w1 hJs (by omega)
        dsimp only at hy
        gi_wp2
        refine hR.mono ?_
        rintro e W3 (⟨rfl, hJ3, hk3⟩ | ⟨rfl, hJx3⟩)
        · gi_wp2
          go_roundw
          case rel => exact ⟨a + s, pre ++ [(a, d1)], by omega, by go_num, HRUN.out, by simp; omega, hJ3, hK.t hk3⟩
          case measure => simp [intOf]; omega
        · gi_wp2
          refine bodyPost_ret (results_none rfl _ _ _) rfl ?_
          exact ⟨⟨_, rfl⟩, .inr ⟨_, ⟨_, HRUN.out⟩, hJx3⟩⟩
      · have hbn : (d3 != 0) = true := by simpa using h3
        have HE : Hid ((Cd.dec (xs.drop a)).2.2 ≠ 0) := by rw [Hid, HD.out]; exact h3
        clear HSTEP hf h3
        gi_wp2_with fail
        refine ⟨trivial, ?_⟩
        refine (callsIn_wide.2 (int_any _ (c - a) (len - a) (xs.drop a) _ HDL.out HDB.out (by omega) (by omega) (drop_byte HYB.out a))).mono ?_
        rintro e w1 ⟨rfl, hw1⟩
        subst hw1
        rw [HD.out]
        unfold three
        gi_wp2
        refine ⟨fun _ h => (by cases h), ?_⟩
        gi_wp2
        refine bodyPost_ret (results_none rfl _ _ _) rfl ?_
        exact ⟨⟨_, rfl⟩, .inl ⟨pre, ⟨a, hrun, HE.out⟩, hJs⟩⟩
    · obtain rfl : a = len := by omega
      have HE : Hid (xs.drop a = []) := List.drop_eq_nil_of_le (by rw [HL.out]; exact Nat.le_refl _)
      have HD : Hid (Cd.dec ([] : List Int) = (0, 0, 10)) := rfl
      by_cases hca : c = a
      · subst hca
        gi_wp2_with fail
        try rw [Nat.sub_self]
        refine ⟨trivial, ?_⟩
        refine (callsIn_wide.2 (int_any _ 0 0 [] _ rfl (Bys.nil _ _) (by omega) (by omega) (by simp))).mono ?_
        rintro e w1 ⟨rfl, hw1⟩
        subst hw1
        rw [HD.out]
        unfold three
        gi_wp2
        refine ⟨fun _ h => (by cases h), ?_⟩
        gi_wp2
        refine bodyPost_ret (results_none rfl _ _ _) rfl ?_
        exact ⟨⟨_, rfl⟩, .inl ⟨pre, ⟨_, hrun, by rw [HE.out, HD.out]; decide⟩, hJs⟩⟩
      · gi_wp2_with fail
        try rw [Nat.sub_self]
        refine ⟨trivial, ?_⟩
        refine (callsIn_wide.2 (int_any _ (c - a) 0 [] _ rfl (Bys.nil _ _) (by omega) (by omega) (by simp))).mono ?_
        rintro e w1 ⟨rfl, hw1⟩
        subst hw1
        rw [HD.out]
        unfold three
        gi_wp2
        refine ⟨fun _ h => (by cases h), ?_⟩
        gi_wp2
        refine bodyPost_ret (results_none rfl _ _ _) rfl ?_
        exact ⟨⟨_, rfl⟩, .inl ⟨pre, ⟨_, hrun, by rw [HE.out, HD.out]; decide⟩, hJs⟩⟩

set_option maxRecDepth 100000 in
set_option maxHeartbeats 1000000 in
/-- .. at no bytes: no round. -/
theorem ints1_nil_in (n : Nat) (hn : 1 ≤ n) (l Bs : Nat) (J : List (Nat × Int) → World → Prop) (W : World) (hbx : W.cell? ⟨Bs, 0, none⟩ = some (.slice none 0 0)) (h0 : J [] W) :
    CallsIn Fence.wide n Try.prog 36 #[.func (.yield l) #[] #[], .pointer (some ⟨Bs, 0, none⟩)] W fun e W' => (∃ v, e = .returned v) ∧ J [] W' := by
  refine callsIn_of_wp Try.func36 rfl trivial ?_ rfl
  simp only [Try.ntmps36, List.size_toArray, List.length_cons, List.length_nil, Nat.reduceAdd, Nat.reduceSub, Array.replicate_succ, Array.replicate_zero, List.push_toArray, List.append_toArray, List.nil_append, List.cons_append]
  have HD : Hid (Cd.dec ([] : List Int) = (0, 0, 10)) := rfl
  gi_wp2
  gi_loopw [3] (fun i wr => i = .int .i64 0 ∧ wr = W) (fun i _ => 0)
  case atStart => exact ⟨rfl, rfl⟩
  case round =>
    obtain ⟨rfl, rfl⟩ := hrel
    gi_wp2_with fail
    refine ⟨trivial, ?_⟩
    refine (callsIn_wide.2 (int_any _ 0 0 [] _ rfl (Bys.nil _ _) (by omega) (by omega) (by simp))).mono ?_
    rintro e w1 ⟨rfl, hw1⟩
    subst hw1
    rw [HD.out]
    unfold three
    gi_wp2
    refine ⟨fun _ h => (by cases h), ?_⟩
    gi_wp2
    refine bodyPost_ret (results_none rfl _ _ _) rfl ?_
    exact ⟨⟨_, rfl⟩, h0⟩

/-- What codec.Ints hands back goes through the ints of the bytes, as long as the blocks from m0 to m1 lie as they lay. -/
theorem ints_stops (n : Nat) (hn : 1 ≤ n) (Bs m0 m1 len : Nat) (v : Value) (xs : List Int) (w : World) (hyb : ∀ y ∈ xs, 0 ≤ y ∧ y < 256) (hO : Own w m0 v len xs) (hbx : Boxed w Bs 22 v) (hB0 : m0 ≤ Bs) (hm1 : m1 = w.heap.size) :
    SeqStopsK Fence.wide n Try.prog 36 #[.pointer (some ⟨Bs, 0, none⟩)] (fun x : Nat × Int => #[Value.int .i64 (x.1 : Int), Value.int .i64 x.2]) (KpI m0 m1)
      (fun ys => ∃ a, Cd.run xs ys = some a ∧ (Cd.dec (xs.drop a)).2.2 ≠ 0) (fun pre => ∃ a, Cd.run xs pre = some a) len w := fun l J Jx W hW _ _ hY h0 => by
  subst hm1
  have hb1 := hbx.lt
  have hc' := (hW.cell (p := ⟨Bs, 0, none⟩) hb1).trans hbx.cell
  have hO' := hO.below hW (Nat.le_refl _)
  rcases hO.form with ⟨rfl, rfl, rfl⟩ | ⟨g, c, rfl, hg0, hg1, hle⟩
  · exact (ints1_nil_in n hn l Bs J W hc' h0).mono fun e W' ⟨he, hj⟩ => ⟨he, .inl ⟨[], ⟨0, rfl, by decide⟩, hj⟩⟩
  · exact ints1_in n hn l Bs m0 _ g len c xs hO.len hle hO.cap_le hyb hB0 hb1 hg0 hg1 J Jx hY W hc' hO'.at h0
end Go.Proofs.Ytcolmebpbjjehab
