/- What All handed back tells what was given, as long as some blocks lie as they lay. -/
import Derived.Test.YtfbmbjbokmomhaaArLn
import Derived.Test.YtfbmbjbokmomhaaStW
namespace Go.Proofs.Ytfbmbjbokmomhaa
open Go.RowKit Go.Shelf
attribute [local go_sem] Oper.semAt_some
set_option linter.unusedVariables false
set_option maxRecDepth 100000

/-- A function value that goes through what is given: its boxes, and the blocks that it reads. -/
structure Lim (W : World) (b1 b2 : Nat) (S : List Nat) (L : List (Nat × Int × ByteArray)) : Prop where
  ex : ∃ v1 v2, Bk W b1 32 #[v1] ∧ Bk W b2 44 #[v2] ∧ W.ownsRow 0 36 2 v1 L.length (ha L) ∧ W.ownsRow 0 9 1 v2 L.length (hb L) ∧ (∀ b, v1.ownBlock = some b → b ∈ S) ∧ (∀ b, v2.ownBlock = some b → b ∈ S)
  h1 : b1 ∈ S
  h2 : b2 ∈ S
  lt : ∀ b ∈ S, b < W.heap.size
  reach : L.length ≤ 65536

theorem ha_at {L : List (Nat × Int × ByteArray)} {j : Nat} {x : Nat × Int × ByteArray} (h : L[j]? = some x) : (ha L)[j * 2]? = some (.int .i64 (x.1 : Int)) ∧ (ha L)[j * 2 + 1]? = some (.int .i64 x.2.1) := by
  have hj : j < L.length := (List.getElem?_eq_some_iff.1 h).1
  have := hCells_at (L.map fun x => ((x.1 : Int), x.2.1)) j (by rw [List.length_map]; exact hj)
  have e : (L.map fun x => ((x.1 : Int), x.2.1)).getD j (0, 0) = ((x.1 : Int), x.2.1) := by simp [List.getD, h]
  rw [e] at this
  exact this
theorem hb_at {L : List (Nat × Int × ByteArray)} {j : Nat} {x : Nat × Int × ByteArray} (h : L[j]? = some x) : (hb L)[j]? = some (.string x.2.2) := by simp [hb, h]

theorem Lim.kp {W W' : World} {b1 b2 : Nat} {S : List Nat} {L : List (Nat × Int × ByteArray)} (h : Lim W b1 b2 S L) (hk : KpP S W W') : Lim W' b1 b2 S L := by
  obtain ⟨v1, v2, k1, k2, r1, r2, s1, s2⟩ := h.ex
  exact ⟨⟨v1, v2, hk.bk k1 h.h1, hk.bk k2 h.h2, owns_keep r1 (fun k hh => hk k (s1 k hh)), owns_keep r2 (fun k hh => hk k (s2 k hh)), s1, s2⟩, h.h1, h.h2, hk.lt h.lt, h.reach⟩

/-- The blocks of what was gathered. -/
def Lm.bs (w : World) (v1 v2 : Value) : List Nat := [w.heap.size, w.heap.size + 1] ++ v1.ownBlock.toList ++ v2.ownBlock.toList

theorem Lm.mem {w : World} {v1 v2 : Value} {b : Nat} : b ∈ Lm.bs w v1 v2 ↔ b = w.heap.size ∨ b = w.heap.size + 1 ∨ v1.ownBlock = some b ∨ v2.ownBlock = some b := by
  simp only [Lm.bs, List.mem_append, List.mem_cons, List.not_mem_nil, or_false, opt_toList]
  constructor
  · rintro (((h | h) | h) | h)
    · exact .inl h
    · exact .inr (.inl h)
    · exact .inr (.inr (.inl h))
    · exact .inr (.inr (.inr h))
  · rintro (h | h | h | h)
    · exact .inl (.inl (.inl h))
    · exact .inl (.inl (.inr h))
    · exact .inl (.inr h)
    · exact .inr h

theorem Lm.lim {w W : World} {L : List (Nat × Int × ByteArray)} {v1 v2 : Value} (h : Lm w L W v1 v2) (hl : L.length ≤ 65536) : Lim W (w.heap.size) (w.heap.size + 1) (Lm.bs w v1 v2) L where
  ex := ⟨v1, v2, h.b1, h.b2, h.r1, h.r2, fun b hb => Lm.mem.2 (.inr (.inr (.inl hb))), fun b hb => Lm.mem.2 (.inr (.inr (.inr hb)))⟩
  h1 := Lm.mem.2 (.inl rfl)
  h2 := Lm.mem.2 (.inr (.inl rfl))
  lt := fun b hb => by
    have := h.size
    rcases Lm.mem.1 hb with h1 | h1 | h1 | h1
    · omega
    · omega
    · exact row_block h.r1 b h1
    · exact row_block h.r2 b h1
  reach := hl

theorem Lm.low {w W : World} {L : List (Nat × Int × ByteArray)} {v1 v2 : Value} (h : Lm w L W v1 v2) : ∀ b ∈ Lm.bs w v1 v2, w.heap.size ≤ b := by
  intro b hb
  rcases Lm.mem.1 hb with h1 | h1 | h1 | h1
  · omega
  · omega
  · exact (h.n1 b h1).1
  · exact (h.n2 b h1).1

/-- The cells that are read in a round. -/
theorem Lim.cells {W : World} {b1 b2 : Nat} {S : List Nat} {L : List (Nat × Int × ByteArray)} (h : Lim W b1 b2 S L) : ∃ p1 c1 p2 c2,
    ∀ W', KpP S W W' → W'.cell? ⟨b1, 0, none⟩ = some (.slice p1 L.length c1) ∧ W'.cell? ⟨b2, 0, none⟩ = some (.slice p2 L.length c2) ∧
      ∀ j x, L[j]? = some x → ∃ g1 g2, p1 = some ⟨g1, 0, none⟩ ∧ p2 = some ⟨g2, 0, none⟩ ∧ W'.cell? ⟨g1, j * 2, none⟩ = some (.int .i64 (x.1 : Int)) ∧ W'.cell? ⟨g1, j * 2 + 1, none⟩ = some (.int .i64 x.2.1) ∧ W'.cell? ⟨g2, j, none⟩ = some (.string x.2.2) := by
  obtain ⟨v1, v2, k1, k2, r1, r2, s1, s2⟩ := h.ex
  obtain ⟨p1, c1, e1, -⟩ := row_form r1
  obtain ⟨p2, c2, e2, -⟩ := row_form r2
  refine ⟨p1, c1, p2, c2, fun W' hk => ⟨?_, ?_, fun j x hx => ?_⟩⟩
  · rw [← e1]
    exact (hk.bk k1 h.h1).cell 0
  · rw [← e2]
    exact (hk.bk k2 h.h2).cell 0
  · have hj : j < L.length := (List.getElem?_eq_some_iff.1 hx).1
    have q1 : W'.ownsRow 0 36 2 v1 L.length (ha L) := owns_keep r1 (fun k hh => hk k (s1 k hh))
    have q2 : W'.ownsRow 0 9 1 v2 L.length (hb L) := owns_keep r2 (fun k hh => hk k (s2 k hh))
    obtain ⟨g1, d1, f1⟩ := row_some q1 (by omega)
    obtain ⟨g2, d2, f2⟩ := row_some q2 (by omega)
    rw [f1] at e1 q1
    rw [f2] at e2 q2
    cases e1
    cases e2
    obtain ⟨y0, y1⟩ := ha_at hx
    refine ⟨g1, g2, rfl, rfl, by rw [World.ownsRow.cellAt q1 _ (by omega)]; exact y0, by rw [World.ownsRow.cellAt q1 _ (by omega)]; exact y1, ?_⟩
    rw [World.ownsRow.cellAt q2 j (by omega)]
    exact hb_at hx

set_option maxHeartbeats 4000000 in
theorem all1_in (l b1 b2 : Nat) (S : List Nat) (L : List (Nat × Int × ByteArray)) (J Jx : List (Nat × Int × ByteArray) → World → Prop) (Jp : List PanicEntry → List (Nat × Int × ByteArray) → World → Prop)
    (hJ : ∀ pre A A', J pre A → A.grownBy A' none → J pre A')
    (hY : ∀ pre x W, J pre W → pre ++ [x] <+: L → YieldAt Fence.wide (8 - 1) Try.prog l (encG x) W fun r W' =>
      (r = .returned (.bool true) ∧ J (pre ++ [x]) W' ∧ KpP S W W') ∨ (r = .returned (.bool false) ∧ Jx (pre ++ [x]) W') ∨ (∃ chain, r = .panicked chain ∧ Jp chain (pre ++ [x]) W'))
    (W : World) (hL : Lim W b1 b2 S L) (h0 : J [] W) :
    CallsIn Fence.wide 8 Try.prog 50 #[.func (.yield l) #[] #[], .pointer (some ⟨b1, 0, none⟩), .pointer (some ⟨b2, 0, none⟩)] W fun r W' => ((∃ v, r = .returned v) ∧
      ((∃ ys, ys = L ∧ J ys W') ∨ (∃ pre, pre <+: L ∧ Jx pre W'))) ∨ ∃ chain pre, r = .panicked chain ∧ pre <+: L ∧ Jp chain pre W' := by
  refine callsIn_of_wp Try.func50 rfl trivial ?_ rfl
  simp only [Try.ntmps50, List.size_toArray, List.length_cons, List.length_nil, Nat.reduceAdd, Nat.reduceSub, Array.replicate_succ, Array.replicate_zero, List.push_toArray, List.append_toArray, List.nil_append, List.cons_append]
  obtain ⟨p1, c1, p2, c2, hC⟩ := hL.cells
  obtain ⟨len, hlen⟩ : ∃ len, L.length = len := ⟨_, rfl⟩
  have hreach := hL.reach
  rw [hlen] at hC hreach
  have HL : Hid (L.length = len) := hlen
  have HC : Hid _ := hC
  have HY : Hid _ := hY
  have HJ : Hid (∀ pre A A', J pre A → A.grownBy A' none → J pre A') := hJ
  have HLT : Hid (∀ x ∈ S, x < W.heap.size) := hL.lt
  have H0 : Hid (J [] W) := h0
  have hbx := (hC W (KpP.refl _ _)).1
  clear hlen hC hY hL hJ h0
  gi_wp2
  gi_loopw [8] (fun i wr => ∃ k : Nat, k ≤ len ∧ i = .int .i64 k ∧ J (L.take k) wr ∧ KpP S W wr) (fun i _ => len - (intOf i).toNat)
  case atStart => exact ⟨0, Nat.zero_le _, rfl, H0.out, KpP.refl _ _⟩
  case round =>
    obtain ⟨k, hk, rfl, hJs, hK⟩ := hrel
    by_cases hlt : k < len
    · have hkL : k < L.length := by rw [HL.out]; exact hlt
      obtain ⟨x, hx⟩ : ∃ x, L[k]? = some x := ⟨_, List.getElem?_eq_getElem hkL⟩
      have hli : (k : Int) < (len : Int) := by omega
      have hk0 : (0 : Int) ≤ (k : Int) := by omega
      obtain ⟨y0, y1, y2⟩ := HC.out wr hK
      obtain ⟨g1, g2, rfl, rfl, z0, z1, z2⟩ := y2 k x hx
      have HT : Hid (L.take (k + 1) = L.take k ++ [x]) := take_snoc hx
      obtain ⟨x1, x2, x3⟩ := x
      obtain ⟨W3, hW3⟩ : ∃ W3, wr.alloc (.cells #[.int .i64 (x1 : Int), .int .i64 x2] 36) = W3 := ⟨_, rfl⟩
      have hb3 : Below wr.heap.size wr W3 := by rw [← hW3]; exact (Below.refl _ _).alloc (Nat.le_refl _) _
      have k3 : Bk W3 wr.heap.size 36 #[.int .i64 (x1 : Int), .int .i64 x2] := by rw [← hW3]; exact Bk.new _ _ _
      have hK3 : KpP S W W3 := hK.t (KpP.of_below hb3 (hK.lt HLT.out))
      have HJ3 : Hid (J (L.take k) W3.drew ∧ KpP S W W3.drew) := ⟨HJ.out _ _ _ hJs (below_grown hb3.drew), hK3⟩
      obtain ⟨m0, m1, m2⟩ := HC.out W3 hK3
      obtain ⟨g1', g2', e1', e2', n0, n1, n2⟩ := m2 k _ hx
      cases e1'
      cases e2'
      have e0 : W3.cell? ⟨wr.heap.size, 0, none⟩ = some (.int .i64 (x1 : Int)) := k3.cell 0
      have e1 : W3.cell? ⟨wr.heap.size, 1, none⟩ = some (.int .i64 x2) := k3.cell 1
      obtain ⟨fn, tmps, assign, body, hy, hR⟩ := HY.out (L.take k) (x1, x2, x3) W3.drew HJ3.out.1 (by rw [← HT.out]; exact List.take_prefix _ _)
      simp only [encG] at hy
      clear hx y2 m2 hJs hK hb3 k3 hK3
      gi_wp2_with fail
      refine stt_regionW 6 (by kernel_rfl) (by kernel_rfl) (by rfl) ?_
      simp only [List.take_succ_cons, List.take_zero, List.drop_succ_cons, List.drop_zero]
      repeat still_step
      refine wpStill_nil ?_
      gi_wp2
      refine hR.mono ?_
      rintro e W4 (⟨rfl, hJ4, hk4⟩ | ⟨rfl, hJx4⟩ | ⟨chain, rfl, hJp4⟩)
      · gi_wp2
        go_roundw
        case rel => exact ⟨k + 1, by omega, by go_num, by rw [HT.out]; exact hJ4, HJ3.out.2.t hk4⟩
        case measure => simp [intOf]; omega
      · gi_wp2
        refine bodyPost_ret (results_none rfl _ _ _) rfl ?_
        exact .inl ⟨⟨_, rfl⟩, .inr ⟨_, by rw [← HT.out]; exact List.take_prefix _ _, hJx4⟩⟩
      · refine ⟨rfl, ?_⟩
        first
          | exact .inr ⟨chain, _, rfl, by rw [← HT.out]; exact List.take_prefix _ _, hJp4⟩
          | exact .inr ⟨chain, rfl, _, by rw [← HT.out]; exact List.take_prefix _ _, hJp4⟩
    · obtain rfl : k = len := by omega
      gi_wp2
      go_end0
      refine .inl ⟨⟨_, rfl⟩, .inl ?_⟩
      rw [List.take_of_length_le (by rw [HL.out]; exact Nat.le_refl _)] at hJs
      first
        | exact ⟨_, rfl, hJs⟩
        | exact hJs

theorem all1_stops {w : World} {b1 b2 : Nat} {S : List Nat} {L : List (Nat × Int × ByteArray)} (hL : Lim w b1 b2 S L) :
    SeqStopsQ 8 Try.prog 50 #[.pointer (some ⟨b1, 0, none⟩), .pointer (some ⟨b2, 0, none⟩)] encG (KpP S) (fun ys => ys = L) (fun pre => pre <+: L) w := fun l J Jx Jp W hW hJ hY h0 =>
  all1_in l b1 b2 S L J Jx Jp hJ hY W (hL.kp (KpP.of_below hW hL.lt)) h0
end Go.Proofs.Ytfbmbjbokmomhaa
