/- Slices of deltas; slices.Backward over them. -/
import Derived.Test.YtoehlgigidgfpaaGreatDlB
import Derived.Test.YtoehlgigidgfpaaGreatRgP
namespace Go.Proofs.YtoehlgigidgfpaaGreat
open Go.RowKit Go.Shelf Go.Sort
attribute [local go_sem] Oper.semAt_some
set_option linter.unusedVariables false
set_option maxRecDepth 100000

/-- A delta as it lies in memory: with where its page's entries lie. -/
structure Dm where
  d : De
  p : Option Addr
  n : Nat
  c : Nat

def Dm.cells (m : Dm) : List Value := [.int .i64 m.d.k, .string m.d.e.key, .int .i64 m.d.e.s, .int .i64 m.d.e.g, .int .i64 m.d.e.c, .string m.d.key, .int .i64 m.d.pg, .bool m.d.rt.leaf, .string m.d.rt.lo, .string m.d.rt.hi, .int .i64 m.d.rt.r, .slice m.p m.n m.c]
abbrev Dm.val (m : Dm) : Value := dlv m.d.k m.d.e m.d.key m.d.pg m.d.rt.leaf m.d.rt.lo m.d.rt.hi m.d.rt.r m.p m.n m.c

/-- What a delta in memory leads to. -/
structure Dm.Ok (w : World) (m : Dm) : Prop where
  len : m.d.rt.l.length = m.n
  ens : Ens w m.p m.d.rt.l
  nil : m.p = none → m.n = 0 ∧ m.c = 0
  le : m.n ≤ m.c
  room : m.n ≤ 3518437208780

/-- Deltas that a slice leads to. -/
def Des (w : World) (p : Option Addr) (L : List Dm) : Prop :=
  0 < L.length → ∃ b o, p = some ⟨b, o, none⟩ ∧ ∀ (i : Nat) m, L[i]? = some m → (∀ t v, m.cells[t]? = some v → w.cell? ⟨b, o + i * 12 + t, none⟩ = some v) ∧ m.Ok w

/-- Two worlds whose blocks below a number are alike. -/
def Alike (B : Nat) (w w' : World) : Prop := ∀ k, k < B → w'.heap[k]? = w.heap[k]?

theorem Alike.cell {B : Nat} {w w' : World} (h : Alike B w w') {b o : Nat} (hb : b < B) : w'.cell? ⟨b, o, none⟩ = w.cell? ⟨b, o, none⟩ := by simp [World.cell?, h b hb]
theorem Alike.t {B : Nat} {X Y Z : World} (h : Alike B X Y) (k : Alike B Y Z) : Alike B X Z := fun j hj => (k j hj).trans (h j hj)
theorem Alike.refl (B : Nat) (w : World) : Alike B w w := fun _ _ => rfl
theorem Alike.of_below {B : Nat} {w w' : World} (h : Below B w w') : Alike B w w' := fun k hk => h.block k hk
theorem Alike.mono {B B' : Nat} {w w' : World} (h : Alike B w w') (hB : B' ≤ B) : Alike B' w w' := fun k hk => h k (by omega)

theorem Ens.alike {w w' : World} {p : Option Addr} {l : List En} (h : Ens w p l) (hs : Alike w.heap.size w w') : Ens w' p l := by
  intro hl
  obtain ⟨b, o, rfl, hc⟩ := h hl
  refine ⟨b, o, rfl, fun i g hi => ?_⟩
  obtain ⟨h0, h1, h2, h3⟩ := hc i g hi
  have k : b < w.heap.size := World.block_lt_of_cell? w _ h0
  rw [hs.cell k, hs.cell k, hs.cell k, hs.cell k]
  exact ⟨h0, h1, h2, h3⟩

theorem Dm.Ok.alike {w w' : World} {m : Dm} (h : m.Ok w) (hs : Alike w.heap.size w w') : m.Ok w' := { h with ens := h.ens.alike hs }

theorem Des.alike {w w' : World} {p : Option Addr} {L : List Dm} (h : Des w p L) (hs : Alike w.heap.size w w') : Des w' p L := by
  intro hl
  obtain ⟨b, o, rfl, hc⟩ := h hl
  refine ⟨b, o, rfl, fun i m hi => ⟨fun t v hv => ?_, (hc i m hi).2.alike hs⟩⟩
  have h0 := (hc i m hi).1 t v hv
  rw [hs.cell (World.block_lt_of_cell? w _ h0)]
  exact h0

theorem Des.below {w w' : World} {p : Option Addr} {L : List Dm} (h : Des w p L) {B : Nat} (hb : Below B w w') (hB : w.heap.size ≤ B) : Des w' p L := h.alike ((Alike.of_below hb).mono hB)

theorem Des.nil (w : World) (p : Option Addr) : Des w p [] := fun h => absurd h (Nat.lt_irrefl 0)

/-- Deltas with their places, from the last to the first. -/
def Dl.bw (L : List Dm) : List (Nat × Dm) := (List.range L.length).map fun i => (L.length - 1 - i, (L[L.length - 1 - i]?).getD ⟨Dl.zero, none, 0, 0⟩)

theorem Dl.bw_len (L : List Dm) : (Dl.bw L).length = L.length := by simp [Dl.bw]

theorem Dl.bw_at {L : List Dm} {k : Nat} {x : Dm} (hk : k < L.length) (hx : L[k]? = some x) : (Dl.bw L)[L.length - 1 - k]? = some (k, x) := by
  have h1 : L.length - 1 - k < L.length := by omega
  simp only [Dl.bw, List.getElem?_map, List.getElem?_range h1, Option.map_some]
  rw [show L.length - 1 - (L.length - 1 - k) = k by omega, hx]
  rfl

/-- The deltas alone, from the last to the first. -/
theorem Dl.bw_map (L : List Dm) : (Dl.bw L).map (fun x => x.2.d) = (L.map (·.d)).reverse := by
  apply List.ext_getElem?
  intro i
  by_cases h : i < L.length
  · have hk : L.length - 1 - i < L.length := by omega
    have hx := List.getElem?_eq_getElem hk
    have := Dl.bw_at hk hx
    rw [show L.length - 1 - (L.length - 1 - i) = i by omega] at this
    rw [List.getElem?_map, this, List.getElem?_reverse (by simpa using h)]
    simp only [Option.map_some, List.length_map, List.getElem?_map]
    rw [hx]
    rfl
  · rw [List.getElem?_eq_none (by simp [Dl.bw]; omega), List.getElem?_eq_none (by simp; omega)]

theorem Dl.bw_mem {L : List Dm} {pre : List (Nat × Dm)} {x : Nat × Dm} (h : pre ++ [x] <+: Dl.bw L) : L[x.1]? = some x.2 := by
  obtain ⟨t, ht⟩ := h
  have hn : pre.length < L.length := by rw [← Dl.bw_len, ← ht]; simp
  have h0 : (Dl.bw L)[pre.length]? = some x := by rw [← ht]; simp
  have hx0 : L[L.length - 1 - pre.length]? = some L[L.length - 1 - pre.length] := List.getElem?_eq_getElem (by omega)
  have h1 := Dl.bw_at (k := L.length - 1 - pre.length) (by omega) hx0
  rw [show L.length - 1 - (L.length - 1 - pre.length) = pre.length by omega, h0] at h1
  cases h1
  exact hx0

abbrev encD (x : Nat × Dm) : Array Value := #[.int .i64 (x.1 : Int), x.2.val]

/-- What a round leaves as it was: what lay below a number, and one block more. -/
def KpB (B b : Nat) (W W' : World) : Prop := Alike B W W' ∧ W'.heap[b]? = W.heap[b]?
theorem KpB.refl (B b : Nat) (W : World) : KpB B b W W := ⟨Alike.refl _ _, rfl⟩
theorem KpB.t {B b : Nat} {X Y Z : World} (h : KpB B b X Y) (k : KpB B b Y Z) : KpB B b X Z := ⟨h.1.t k.1, k.2.trans h.2⟩

set_option maxHeartbeats 2000000 in
theorem backD_in (l b : Nat) (p : Option Addr) (len cap : Nat) (L : List Dm) (w0 : World) (hL : L.length = len) (hl : len ≤ 4398046511104) (hD : Des w0 p L) (J Jx : List (Nat × Dm) → World → Prop) (Jp : List PanicEntry → List (Nat × Dm) → World → Prop)
    (hY : ∀ pre x W, J pre W → pre ++ [x] <+: Dl.bw L → YieldAt Fence.wide 7 Tryz.prog l (encD x) W fun r W' =>
      (r = .returned (.bool true) ∧ J (pre ++ [x]) W' ∧ KpB w0.heap.size b W W') ∨ (r = .returned (.bool false) ∧ Jx (pre ++ [x]) W') ∨ (∃ chain, r = .panicked chain ∧ Jp chain (pre ++ [x]) W'))
    (W : World) (hB : Bk W b 64 #[.slice p len cap]) (hA : Alike w0.heap.size w0 W) (h0 : J [] W) :
    CallsIn Fence.wide 8 Tryz.prog 142 #[.func (.yield l) #[] #[], .pointer (some ⟨b, 0, none⟩)] W fun r W' => ((∃ v, r = .returned v) ∧
      ((∃ ys, ys = Dl.bw L ∧ J ys W') ∨ (∃ pre, pre <+: Dl.bw L ∧ Jx pre W'))) ∨ ∃ chain pre, r = .panicked chain ∧ pre <+: Dl.bw L ∧ Jp chain pre W' := by
  refine callsIn_of_wp Tryz.func142 rfl trivial ?_ rfl
  simp only [Tryz.ntmps142, List.size_toArray, List.length_cons, List.length_nil, Nat.reduceAdd, Nat.reduceSub, Array.replicate_succ, Array.replicate_zero, List.push_toArray, List.append_toArray, List.nil_append, List.cons_append]
  have HL : Hid (L.length = len) := hL
  have HY : Hid _ := hY
  have HBX : Hid (∀ W', KpB w0.heap.size b W W' → W'.cell? ⟨b, 0, none⟩ = some (.slice p len cap)) := fun W' hk => (show Bk W' b _ _ from hk.2.trans hB).cell 0
  have HD : Hid (∀ W', KpB w0.heap.size b W W' → Des W' p L) := fun W' hk => hD.alike (hA.t hk.1)
  have hbx := HBX.out W (KpB.refl _ _ _)
  clear hL hY hB hA hD
  gi_wp2
  gi_loopw [3] (fun i wr => ∃ k : Nat, k ≤ len ∧ i = .int .i64 ((k : Int) - 1) ∧ J ((Dl.bw L).take (len - k)) wr ∧ KpB w0.heap.size b W wr) (fun i _ => (intOf i + 1).toNat)
  case atStart => exact ⟨len, Nat.le_refl _, by go_num, by simpa using h0, KpB.refl _ _ _⟩
  case round =>
    obtain ⟨k', hk, rfl, hJs, hK⟩ := hrel
    cases k' with
    | succ k =>
      rw [show ((k + 1 : Nat) : Int) - 1 = (k : Int) by omega]
      have hkL : k < L.length := by rw [HL.out]; omega
      obtain ⟨x, hx⟩ : ∃ x, L[k]? = some x := ⟨_, List.getElem?_eq_getElem hkL⟩
      have hki : (k : Int) < (len : Int) := by omega
      have hk0 : (0 : Int) ≤ (k : Int) := by omega
      have hb0 := HBX.out wr hK
      obtain ⟨g, o, rfl, hc⟩ := HD.out wr hK (by omega)
      have hcx := (hc k x hx).1
      have z0 := hcx 0 _ rfl
      have z1 := hcx 1 _ rfl
      have z2 := hcx 2 _ rfl
      have z3 := hcx 3 _ rfl
      have z4 := hcx 4 _ rfl
      have z5 := hcx 5 _ rfl
      have z6 := hcx 6 _ rfl
      have z7 := hcx 7 _ rfl
      have z8 := hcx 8 _ rfl
      have z9 := hcx 9 _ rfl
      have z10 := hcx 10 _ rfl
      have z11 := hcx 11 _ rfl
      simp only [Nat.add_zero] at z0
      have hbw := Dl.bw_at hkL hx
      rw [HL.out, show len - 1 - k = len - (k + 1) by omega] at hbw
      have HT : Hid ((Dl.bw L).take (len - k) = (Dl.bw L).take (len - (k + 1)) ++ [(k, x)]) := by
        rw [Hid, show len - k = len - (k + 1) + 1 by omega]
        exact take_snoc hbw
      obtain ⟨fn, tmps, assign, body, hy, hR⟩ := HY.out ((Dl.bw L).take (len - (k + 1))) (k, x) wr hJs (by rw [← HT.out]; exact List.take_prefix _ _)
      simp only [encD, Dm.val, dlv] at hy
      clear hx hbw hc hcx
      gi_wp2
      refine hR.mono ?_
      rintro e W4 (⟨rfl, hJ4, hk4⟩ | ⟨rfl, hJx4⟩ | ⟨chain, rfl, hJp4⟩)
      · gi_wp2
        go_roundw
        case rel => exact ⟨k, by omega, by go_num, by rw [HT.out]; exact hJ4, hK.t hk4⟩
        case measure => simp [intOf]
      · gi_wp2
        refine bodyPost_ret (results_none rfl _ _ _) rfl ?_
        exact .inl ⟨⟨_, rfl⟩, .inr ⟨_, by rw [← HT.out]; exact List.take_prefix _ _, hJx4⟩⟩
      · refine ⟨rfl, ?_⟩
        exact .inr ⟨chain, _, rfl, by rw [← HT.out]; exact List.take_prefix _ _, hJp4⟩
    | zero =>
      rw [show ((0 : Nat) : Int) - 1 = -1 by omega]
      gi_wp2
      go_end0
      refine .inl ⟨⟨_, rfl⟩, .inl ⟨_, rfl, ?_⟩⟩
      rw [List.take_of_length_le (by rw [Dl.bw_len, HL.out]; exact Nat.le_refl _)] at hJs
      exact hJs

theorem backD_stops {w w0 : World} {b : Nat} {p : Option Addr} {len cap : Nat} {L : List Dm} (hL : L.length = len) (hl : len ≤ 4398046511104) (hD : Des w0 p L) (hB : Bk w b 64 #[.slice p len cap]) (hA : Alike w0.heap.size w0 w) (hle : w0.heap.size ≤ w.heap.size) :
    SeqStopsP 8 Tryz.prog 142 #[.pointer (some ⟨b, 0, none⟩)] encD (KpB w0.heap.size b) (fun ys => ys = Dl.bw L) (fun pre => pre <+: Dl.bw L) w := fun l J Jx Jp W hW hY h0 =>
  backD_in l b p len cap L w0 hL hl hD J Jx Jp hY W ((hW.block b hB.lt).trans hB) (hA.t ((Alike.of_below hW).mono hle)) h0

theorem backD_any (p : Option Addr) (len cap : Nat) (w : World) :
    Calls Tryz.prog 130 #[.slice p len cap] w fun e w' => e = .returned (.func (.func 142) #[] #[.pointer (some ⟨w.heap.size, 0, none⟩)]) ∧ w' = w.alloc (.cells #[.slice p len cap] 64) := by
  go_enter Tryz.func130, Tryz.ntmps130
  go_wp2
  go_ret
  exact ⟨rfl, rfl⟩

end Go.Proofs.YtoehlgigidgfpaaGreat
