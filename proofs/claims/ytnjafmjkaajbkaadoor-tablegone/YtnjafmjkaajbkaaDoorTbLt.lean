/- What All handed back tells the live pages, as long as some blocks lie as they lay. -/
import Derived.Test.YtnjafmjkaajbkaaDoorTbLn
namespace Go.Proofs.YtnjafmjkaajbkaaDoor
open Go.RowKit Go.Shelf
attribute [local go_sem] Oper.semAt_some
set_option linter.unusedVariables false
set_option maxRecDepth 100000

/-- A function value that goes through what waits: its boxes, and the blocks that it reads. -/
structure Lim (W : World) (b1 b2 : Nat) (S : List Nat) (L : List (Nat × (Int × Int))) : Prop where
  ex : ∃ v1 v2, Bk W b1 70 #[v1] ∧ Bk W b2 52 #[v2] ∧ W.ownsRow 0 3 1 v1 L.length (ats L) ∧ W.ownsRow 0 32 2 v2 L.length (hCells (L.map Prod.snd)) ∧ (∀ b, v1.ownBlock = some b → b ∈ S) ∧ (∀ b, v2.ownBlock = some b → b ∈ S)
  h1 : b1 ∈ S
  h2 : b2 ∈ S
  lt : ∀ b ∈ S, b < W.heap.size
  reach : L.length ≤ 3600000000000

theorem Lim.kp {W W' : World} {b1 b2 : Nat} {S : List Nat} {L : List (Nat × (Int × Int))} (h : Lim W b1 b2 S L) (hk : KpP S W W') : Lim W' b1 b2 S L := by
  obtain ⟨v1, v2, k1, k2, r1, r2, s1, s2⟩ := h.ex
  exact ⟨⟨v1, v2, hk.bk k1 h.h1, hk.bk k2 h.h2, owns_kp r1 hk s1, owns_kp r2 hk s2, s1, s2⟩, h.h1, h.h2, hk.lt h.lt, h.reach⟩

/-- The blocks of what was gathered. -/
def Lm.bs (w : World) (v1 v2 : Value) : List Nat := [w.heap.size, w.heap.size + 1] ++ v1.ownBlock.toList ++ v2.ownBlock.toList

theorem Lm.mem {w : World} {v1 v2 : Value} {b : Nat} : b ∈ Lm.bs w v1 v2 ↔ b = w.heap.size ∨ b = w.heap.size + 1 ∨ v1.ownBlock = some b ∨ v2.ownBlock = some b := by
  simp only [Lm.bs, List.mem_append, List.mem_cons, List.not_mem_nil, or_false, opt_toList]
  constructor
  · rintro (((h | h) | h) | h)
    · exact .inl h
    · exact .inr (.inl h)
    · exact .inr (.inr (.inl h))
    · exact .inr (.inr (.inr h))
  · rintro (h | h | h | h)
    · exact .inl (.inl (.inl h))
    · exact .inl (.inl (.inr h))
    · exact .inl (.inr h)
    · exact .inr h

theorem Lm.lim {w W : World} {L : List (Nat × (Int × Int))} {v1 v2 : Value} (h : Lm w L W v1 v2) (hl : L.length ≤ 3600000000000) : Lim W (w.heap.size) (w.heap.size + 1) (Lm.bs w v1 v2) L where
  ex := ⟨v1, v2, h.b1, h.b2, h.r1, h.r2, fun b hb => Lm.mem.2 (.inr (.inr (.inl hb))), fun b hb => Lm.mem.2 (.inr (.inr (.inr hb)))⟩
  h1 := Lm.mem.2 (.inl rfl)
  h2 := Lm.mem.2 (.inr (.inl rfl))
  lt := fun b hb => by
    have := h.size
    rcases Lm.mem.1 hb with h1 | h1 | h1 | h1
    · omega
    · omega
    · exact row_block h.r1 b h1
    · exact row_block h.r2 b h1
  reach := hl

theorem Lm.low {w W : World} {L : List (Nat × (Int × Int))} {v1 v2 : Value} (h : Lm w L W v1 v2) : ∀ b ∈ Lm.bs w v1 v2, w.heap.size ≤ b := by
  intro b hb
  rcases Lm.mem.1 hb with h1 | h1 | h1 | h1
  · omega
  · omega
  · exact (h.n1 b h1).1
  · exact (h.n2 b h1).1

/-- The cells that are read in a round. -/
theorem Lim.cells {W : World} {b1 b2 : Nat} {S : List Nat} {L : List (Nat × (Int × Int))} (h : Lim W b1 b2 S L) : ∃ p1 c1 p2 c2,
    ∀ W', KpP S W W' → W'.cell? ⟨b1, 0, none⟩ = some (.slice p1 L.length c1) ∧ W'.cell? ⟨b2, 0, none⟩ = some (.slice p2 L.length c2) ∧
      ∀ j x, L[j]? = some x → ∃ g1 g2, p1 = some ⟨g1, 0, none⟩ ∧ p2 = some ⟨g2, 0, none⟩ ∧ W'.cell? ⟨g1, j, none⟩ = some (.int .i64 (x.1 : Int)) ∧ W'.cell? ⟨g2, j * 2, none⟩ = some (.int .i64 x.2.1) ∧ W'.cell? ⟨g2, j * 2 + 1, none⟩ = some (.int .i64 x.2.2) := by
  obtain ⟨v1, v2, k1, k2, r1, r2, s1, s2⟩ := h.ex
  obtain ⟨p1, c1, e1, -⟩ := row_form r1
  obtain ⟨p2, c2, e2, -⟩ := row_form r2
  refine ⟨p1, c1, p2, c2, fun W' hk => ⟨?_, ?_, fun j x hx => ?_⟩⟩
  · rw [← e1]
    exact (hk.bk k1 h.h1).cell 0
  · rw [← e2]
    exact (hk.bk k2 h.h2).cell 0
  · have hj : j < L.length := (List.getElem?_eq_some_iff.1 hx).1
    have q1 := owns_kp r1 hk s1
    have q2 : W'.ownsRow 0 32 2 v2 L.length (hCells (L.map Prod.snd)) := owns_kp r2 hk s2
    obtain ⟨g1, d1, f1⟩ := row_some q1 (by omega)
    obtain ⟨g2, d2, f2⟩ := row_some q2 (by omega)
    rw [f1] at e1 q1
    rw [f2] at e2 q2
    cases e1
    cases e2
    have y1 := World.ownsRow.cellAt q1 j (by omega)
    have y2 := hCells_at (L.map Prod.snd) j (by rw [List.length_map]; exact hj)
    have hx' : (L.map Prod.snd).getD j (0, 0) = x.2 := by simp [List.getD, hx]
    rw [hx'] at y2
    refine ⟨g1, g2, rfl, rfl, ?_, by rw [World.ownsRow.cellAt q2 _ (by omega)]; exact y2.1, by rw [World.ownsRow.cellAt q2 _ (by omega)]; exact y2.2⟩
    rw [y1]
    simp [ats, hx]

set_option maxHeartbeats 2000000 in
theorem lim1_in (n : Nat) (hn : 1 ≤ n) (l b1 b2 : Nat) (S : List Nat) (L : List (Nat × (Int × Int))) (J Jx : List (Nat × (Int × Int)) → World → Prop)
    (hY : ∀ pre x W, J pre W → pre.length < L.length → YieldAt Fence.wide (n - 1) Tryd.prog l (encP x) W fun r W' =>
      (r = .returned (.bool true) ∧ J (pre ++ [x]) W' ∧ KpP S W W') ∨ (r = .returned (.bool false) ∧ Jx (pre ++ [x]) W'))
    (W : World) (hL : Lim W b1 b2 S L) (h0 : J [] W) :
    CallsIn Fence.wide n Tryd.prog 50 #[.func (.yield l) #[] #[], .pointer (some ⟨b1, 0, none⟩), .pointer (some ⟨b2, 0, none⟩)] W fun r W' => (∃ v, r = .returned v) ∧
      ((∃ ys, ys = L ∧ J ys W') ∨ (∃ pre, pre <+: L ∧ Jx pre W')) := by
  refine callsIn_of_wp Tryd.func50 rfl trivial ?_ rfl
  simp only [Tryd.ntmps50, List.size_toArray, List.length_cons, List.length_nil, Nat.reduceAdd, Nat.reduceSub, Array.replicate_succ, Array.replicate_zero, List.push_toArray, List.append_toArray, List.nil_append, List.cons_append]
  obtain ⟨p1, c1, p2, c2, hC⟩ := hL.cells
  obtain ⟨len, hlen⟩ : ∃ len, L.length = len := ⟨_, rfl⟩
  have hreach := hL.reach
  rw [hlen] at hC hY hreach
  have HL : Hid (L.length = len) := hlen
  have HC : Hid _ := hC
  have HY : Hid _ := hY
  have hbx := (hC W (KpP.refl _ _)).1
  clear hlen hC hY hL
  gi_wp2
  gi_loopw [8] (fun i wr => ∃ k : Nat, k ≤ len ∧ i = .int .i64 k ∧ J (L.take k) wr ∧ KpP S W wr) (fun i _ => len - (intOf i).toNat)
  case atStart => exact ⟨0, Nat.zero_le _, rfl, h0, KpP.refl _ _⟩
  case round =>
    obtain ⟨k, hk, rfl, hJs, hK⟩ := hrel
    by_cases hlt : k < len
    · have hkL : k < L.length := by rw [HL.out]; exact hlt
      obtain ⟨x, hx⟩ : ∃ x, L[k]? = some x := ⟨_, List.getElem?_eq_getElem hkL⟩
      have hli : (k : Int) < (len : Int) := by omega
      obtain ⟨y0, y1, y2⟩ := HC.out wr hK
      obtain ⟨g1, g2, rfl, rfl, z0, z1, z2⟩ := y2 k x hx
      have HT : Hid (L.take (k + 1) = L.take k ++ [x]) := take_snoc hx
      obtain ⟨fn, tmps, assign, body, hy, hR⟩ := HY.out (L.take k) x wr hJs (by rw [List.length_take]; omega)
      simp only [encP] at hy
      clear hx y2
      gi_wp2
      refine hR.mono ?_
      rintro e W3 (⟨rfl, hJ3, hk3⟩ | ⟨rfl, hJx3⟩)
      · gi_wp2
        go_roundw
        case rel => exact ⟨k + 1, by omega, by go_num, by rw [HT.out]; exact hJ3, hK.t hk3⟩
        case measure => simp [intOf]; omega
      · gi_wp2
        refine bodyPost_ret (results_none rfl _ _ _) rfl ?_
        exact ⟨⟨_, rfl⟩, .inr ⟨_, by rw [← HT.out]; exact List.take_prefix _ _, hJx3⟩⟩
    · obtain rfl : k = len := by omega
      gi_wp2
      go_end0
      refine ⟨⟨_, rfl⟩, .inl ⟨_, rfl, ?_⟩⟩
      rw [List.take_of_length_le (by rw [HL.out]; exact Nat.le_refl _)] at hJs
      exact hJs

theorem lim_stops (n : Nat) (hn : 1 ≤ n) {w : World} {b1 b2 : Nat} {S : List Nat} {L : List (Nat × (Int × Int))} (hL : Lim w b1 b2 S L) :
    SeqStopsK Fence.wide n Tryd.prog 50 #[.pointer (some ⟨b1, 0, none⟩), .pointer (some ⟨b2, 0, none⟩)] encP (KpP S) (fun ys => ys = L) (fun pre => pre <+: L) L.length w := fun l J Jx W hW hJ _ hY h0 =>
  lim1_in n hn l b1 b2 S L J Jx hY W (hL.kp (KpP.of_below hW hL.lt)) h0

end Go.Proofs.YtnjafmjkaajbkaaDoor
