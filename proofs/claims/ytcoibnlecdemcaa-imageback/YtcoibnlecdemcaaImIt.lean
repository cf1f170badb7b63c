/- What Pairs hands back tells the pairs. -/
import Derived.Test.YtcoibnlecdemcaaItG
import Derived.Test.YtcoibnlecdemcaaImB
namespace Go.Proofs.Ytcoibnlecdemcaa
open Go.RowKit Go.Shelf Go.Sort
attribute [local go_sem] Oper.semAt_some
set_option linter.unusedVariables false
set_option maxRecDepth 100000

theorem Els.kp {α : Type} {cells : α → List Value} {k : Nat} {S : List Nat} {W W' : World} {p : Option Addr} {l : List α} (h : Els cells k W p l) (hk : KpP S W W') (hp : ∀ b o, p = some ⟨b, o, none⟩ → b ∈ S) : Els cells k W' p l := by
  intro hl
  obtain ⟨b, o, rfl, hc⟩ := h hl
  refine ⟨b, o, rfl, fun i x hi j v hv => ?_⟩
  have h0 := hc i x hi j v hv
  simp only [World.cell?, hk b (hp b o rfl)] at h0 ⊢
  exact h0

/-- A function value that goes through entries: its box, and the blocks that it reads. -/
structure Fi (W : World) (b : Nat) (S : List Nat) (L : List St) : Prop where
  ex : ∃ p c, Bk W b 38 #[.slice p L.length c] ∧ Sts W p L ∧ (0 < L.length → ∀ g o, p = some ⟨g, o, none⟩ → g ∈ S)
  h1 : b ∈ S
  lt : ∀ b ∈ S, b < W.heap.size
  reach : L.length ≤ 4398046511104

theorem Fi.kp {W W' : World} {b : Nat} {S : List Nat} {L : List St} (h : Fi W b S L) (hk : KpP S W W') : Fi W' b S L := by
  obtain ⟨p, c, k1, r1, s1⟩ := h.ex
  refine ⟨⟨p, c, hk.bk k1 h.h1, ?_, s1⟩, h.h1, hk.lt h.lt, h.reach⟩
  intro hl
  exact Els.kp r1 hk (s1 hl) hl

abbrev encS (x : St) : Array Value := #[x.v]

set_option maxHeartbeats 2000000 in
theorem pairs2_in (n : Nat) (hn : 1 ≤ n) (l b : Nat) (S : List Nat) (L : List St) (J Jx : List St → World → Prop)
    (hY : ∀ pre x W, J pre W → pre ++ [x] <+: L → YieldAt Fence.wide (n - 1) Try.prog l (encS x) W fun r W' =>
      (r = .returned (.bool true) ∧ J (pre ++ [x]) W' ∧ KpP S W W') ∨ (r = .returned (.bool false) ∧ Jx (pre ++ [x]) W'))
    (W : World) (hJ : ∀ pre A o, J pre A → J pre (A.alloc o)) (hL : Fi W b S L) (h0 : J [] W) :
    CallsIn Fence.wide n Try.prog 50 #[.func (.yield l) #[] #[], .pointer (some ⟨b, 0, none⟩)] W fun r W' => (∃ v, r = .returned v) ∧
      ((∃ ys, ys = L ∧ J ys W') ∨ (∃ pre, pre <+: L ∧ Jx pre W')) := by
  refine callsIn_of_wp Try.func50 rfl trivial ?_ rfl
  simp only [Try.ntmps50, List.size_toArray, List.length_cons, List.length_nil, Nat.reduceAdd, Nat.reduceSub, Array.replicate_succ, Array.replicate_zero, List.push_toArray, List.append_toArray, List.nil_append, List.cons_append]
  obtain ⟨p, c, k1, r1, s1⟩ := hL.ex
  obtain ⟨len, hlen⟩ : ∃ len, L.length = len := ⟨_, rfl⟩
  have hreach := hL.reach
  have HR : Hid (∀ W', KpP S W W' → ∀ j x, L[j]? = some x → ∃ g o, p = some ⟨g, o, none⟩ ∧ W'.cell? ⟨g, o + j * 3, none⟩ = some (.string x.key) ∧ W'.cell? ⟨g, o + j * 3 + 1, none⟩ = some (.string x.val) ∧ W'.cell? ⟨g, o + j * 3 + 2, none⟩ = some (.int .i64 x.ts)) := fun W' hk j x hx => by
    have hj : j < L.length := (List.getElem?_eq_some_iff.1 hx).1
    obtain ⟨g, o, e, rfl, he, h⟩ := Sts.cells (Els.kp r1 hk (s1 (by omega))) hj
    rw [hx] at he
    cases he
    exact ⟨g, o, rfl, h⟩
  have HLT : Hid (∀ x ∈ S, x < W.heap.size) := hL.lt
  have HJ : Hid (∀ pre A o, J pre A → J pre (A.alloc o)) := hJ
  rw [hlen] at hreach k1
  have HL : Hid (L.length = len) := hlen
  have HY : Hid _ := hY
  have hbx : W.cell? ⟨b, 0, none⟩ = some (.slice p len c) := k1.cell 0
  clear hlen hY hL k1 r1 s1 hJ
  gi_wp2
  gi_loopw [7] (fun i wr => ∃ k : Nat, k ≤ len ∧ i = .int .i64 k ∧ J (L.take k) wr ∧ KpP S W wr) (fun i _ => len - (intOf i).toNat)
  case atStart => exact ⟨0, Nat.zero_le _, rfl, h0, KpP.refl _ _⟩
  case round =>
    obtain ⟨k, hk, rfl, hJs, hK⟩ := hrel
    by_cases hlt : k < len
    · have hkL : k < L.length := by rw [HL.out]; exact hlt
      obtain ⟨x, hx⟩ : ∃ x, L[k]? = some x := ⟨_, List.getElem?_eq_getElem hkL⟩
      have hli : (k : Int) < (len : Int) := by omega
      have hk0 : (0 : Int) ≤ (k : Int) := by omega
      obtain ⟨g, o, rfl, z0, z1, z2⟩ := HR.out wr hK k x hx
      have HT : Hid (L.take (k + 1) = L.take k ++ [x]) := take_snoc hx
      obtain ⟨W3, hW3⟩ : ∃ W3, wr.alloc (.cells #[.string x.key, .string x.val, .int .i64 x.ts] 52) = W3 := ⟨_, rfl⟩
      have hK3 : KpP S W W3 := by rw [← hW3]; exact hK.alloc (hK.lt HLT.out) _
      obtain ⟨fn, tmps, assign, body, hy, hR⟩ := HY.out (L.take k) x W3 (by rw [← hW3]; exact HJ.out _ _ _ hJs) (by rw [← HT.out]; exact List.take_prefix _ _)
      simp only [encS] at hy
      have kb : Bk W3 wr.heap.size 52 #[.string x.key, .string x.val, .int .i64 x.ts] := by rw [← hW3]; exact Bk.new _ _ _
      have d0 : W3.cell? ⟨wr.heap.size, 0, none⟩ = some (.string x.key) := kb.cell 0
      have d1 : W3.cell? ⟨wr.heap.size, 1, none⟩ = some (.string x.val) := kb.cell 1
      have d2 : W3.cell? ⟨wr.heap.size, 2, none⟩ = some (.int .i64 x.ts) := kb.cell 2
      clear hx kb
      gi_wp2
      refine hR.mono ?_
      rintro e W4 (⟨rfl, hJ4, hk4⟩ | ⟨rfl, hJx4⟩)
      · gi_wp2
        go_roundw
        case rel => exact ⟨k + 1, by omega, by go_num, by rw [HT.out]; exact hJ4, hK3.t hk4⟩
        case measure => simp [intOf]; omega
      · gi_wp2
        refine bodyPost_ret (results_none rfl _ _ _) rfl ?_
        exact ⟨⟨_, rfl⟩, .inr ⟨_, by rw [← HT.out]; exact List.take_prefix _ _, hJx4⟩⟩
    · obtain rfl : k = len := by omega
      gi_wp2
      go_end0
      refine ⟨⟨_, rfl⟩, .inl ⟨_, rfl, ?_⟩⟩
      rw [List.take_of_length_le (by rw [HL.out]; exact Nat.le_refl _)] at hJs
      exact hJs

theorem pairs2_stops (n : Nat) (hn : 1 ≤ n) {w : World} {b : Nat} {S : List Nat} {L : List St} (hL : Fi w b S L) :
    SeqStopsK Fence.wide n Try.prog 50 #[.pointer (some ⟨b, 0, none⟩)] encS (KpP S) (fun ys => ys = L) (fun pre => pre <+: L) L.length w := fun l J Jx W hW hJ _ hY h0 =>
  pairs2_in n hn l b S L J Jx (fun pre x W hj hp => hY pre x W hj (by have := hp.length_le; simp at this; omega)) W (fun pre A o h => hJ pre A _ none h (World.grownBy_alloc A o none) (fun r e => by cases e)) (hL.kp (KpP.of_below hW hL.lt)) h0

set_option maxHeartbeats 2000000 in
theorem pairs_any {w : World} {base B : Nat} {v : Value} {m : Im} (h : IsIm w base B v m) (hr : m.list.length ≤ 4398046511104) :
    Calls Try.prog 29 #[.pointer (some ⟨B, 0, none⟩)] w fun e w' => ∃ b S, e = .returned (.func (.func 50) #[] #[.pointer (some ⟨b, 0, none⟩)]) ∧ Fi w' b S m.list ∧ (∀ x ∈ S, w.heap.size ≤ x ∨ v.ownBlock = some x) ∧ Below w.heap.size w w' := by
  have HI : Hid (IsIm w base B v m) := h
  obtain ⟨p, c, rfl, he, hn, hle⟩ := Own.els stknd h.row
  obtain ⟨w1, hw1⟩ : ∃ w1, w.alloc (.cells #[.slice p m.list.length c] 38) = w1 := ⟨_, rfl⟩
  have hb1 : Below w.heap.size w w1 := by rw [← hw1]; exact (Below.refl _ _).alloc (Nat.le_refl _) _
  have kb : Bk w1 w.heap.size 38 #[.slice p m.list.length c] := by rw [← hw1]; exact Bk.new _ _ _
  have HF : Hid (∃ S, Fi w1 w.heap.size S m.list ∧ ∀ x ∈ S, w.heap.size ≤ x ∨ (Value.slice p m.list.length c).ownBlock = some x) := by
    refine ⟨w.heap.size :: (Value.slice p m.list.length c).ownBlock.toList, ⟨⟨p, c, kb, Els.below he hb1 (Nat.le_refl _), fun hl g o hg => ?_⟩, by simp, fun b hb => ?_, hr⟩, fun x hx => ?_⟩
    · subst hg
      simp [Value.ownBlock]
    · rcases List.mem_cons.1 hb with rfl | hb
      · exact kb.lt
      · have h1 := Own.blk h.row (b := b) (by simpa [eq_comm] using hb)
        exact Nat.lt_of_lt_of_le h1.2 hb1.size
    · rcases List.mem_cons.1 hx with rfl | hx
      · exact .inl (Nat.le_refl _)
      · exact .inr (by simpa [eq_comm] using hx)
  have HB : Hid (Below w.heap.size w w1) := hb1
  have hmade := isMade_any h
  have d3 : w.cell? ⟨B, 3, none⟩ = some (.slice p m.list.length c) := h.blk.cell 3
  clear hb1 kb he hn hle h HI
  go_enter Try.func29, Try.ntmps29
  go_wp2_with fail
  refine hmade.mono ?_
  rintro e w2 ⟨rfl, rfl⟩
  go_wp2
  go_ret
  obtain ⟨S, hS, hS2⟩ := HF.out
  exact ⟨_, S, rfl, hS, hS2, HB.out⟩
end Go.Proofs.Ytcoibnlecdemcaa
