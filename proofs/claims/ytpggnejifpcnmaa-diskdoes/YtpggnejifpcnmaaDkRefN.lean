/- The reference: a new one. -/
import Derived.Test.YtpggnejifpcnmaaDkRefS
import Derived.Maps.AppendAt
namespace Go.Proofs.Ytpggnejifpcnmaa
open Go.RowKit Go.Shelf Go.Maps
set_option linter.unusedVariables false

theorem strinfo : (Try.prog.info? 9).map (fun i => (i.zero, i.size, i.bytes)) = some (some (.string .empty), 1, 16) := by kernel_rfl

/-- 'append(v, s)' of a text. -/
theorem wp_app_str {w : World} {ops : Array Oper} {rest : List Oper} {o : Oper} {a : Act} {Q : Exit → Act → World → Prop} (hw : Region.wanted o (yielded ops a.tmps) = true) (s x : Operand)
    (ho : o.op = .call { callee := .builtin .append, args := #[s, x], argTypes := #[63, 63] }) (base : Nat) (v : Value) (n : Nat) (l : List Value) (hs : a.eval s = v) (hown : w.ownsRow base 9 1 v n l)
    (g : Nat) (t : ByteArray) (hx : a.eval x = .slice (some ⟨g, 0, none⟩) 1 1) (hc : w.cell? ⟨g, 0, none⟩ = some (.string t)) (hn : n ≤ 16384) (hbase : base ≤ w.heap.size)
    (h : ∀ g' c' w', w'.ownsRow base 9 1 (.slice (some ⟨g', 0, none⟩) (n + 1) c') (n + 1) (l ++ [.string t]) → w.grownBy w' v.ownBlock → (some g' = v.ownBlock ∨ g' = w.heap.size) → wpList Try.prog ops Q rest (a.put o.dst (.slice (some ⟨g', 0, none⟩) (n + 1) c')) w') : wpList Try.prog ops Q (o :: rest) a w := by
  obtain ⟨i0, hi, hz0, hz1, hz2⟩ := info_parts strinfo
  obtain ⟨v', w', hr, h2, h3, _, h5⟩ := run_append_own_at (P := Try.prog) w base 63 o.type 9 i0 (.string .empty) 1 16 Try.underlying63 hi hz0 hz1 hz2 rfl (by decide) v n l hown ⟨g, 0, none⟩ 1 1 [.string t] (by simp)
    (fun j u hu => by
      have hj : j = 0 := by
        have := (List.getElem?_eq_some_iff.1 hu).1
        simp at this
        exact this
      subst hj
      simp at hu
      subst hu
      rw [Addr.add_lit]
      exact hc) (by simp [Value.oneCell']) (by unfold maxLen; omega) (by omega) hbase
  obtain ⟨g', c', rfl⟩ : ∃ g' c', v' = .slice (some ⟨g', 0, none⟩) (n + 1) c' := by
    rcases h2.2 with ⟨_, h0⟩ | ⟨g', cap, cur, hv, _⟩
    · omega
    · exact ⟨g', cap, hv⟩
  refine BigFrame.wpList_want hw fun _ hK => ?_
  unfold Oper.wp execOp
  simp only [ho, resolve, invoke, builtin, Sem.run_bind, Sem.run_pure, Result.andThen_ok, List.map_toArray, List.map_cons, List.map_nil, hs, hx, hr]
  refine hK _ _ (h g' c' w' h2 h3 ?_)
  rcases h5 with h5 | h5
  · exact .inl h5
  · exact .inr (by simpa [Value.ownBlock] using h5)

theorem falses_at (m k : Nat) (hk : k < m) : (madeCells (Value.bool false).cells m)[k]? = some (.bool false) := by
  have h1 : (Value.bool false).cells = #[.bool false] := rfl
  rw [h1, madeCells, Array.getElem?_map, Array.getElem?_range, if_pos hk, Option.map_some]
  simp [Nat.mod_one]

/-- 'make([]bool, n)'. -/
theorem wp_make_bools {w : World} {ops : Array Oper} {rest : List Oper} {o : Oper} {a : Act} {Q : Exit → Act → World → Prop} (hg : o.guard = none) (l c : Operand) (hop : o.op = Op.makeSlice 31 l c) (n : Nat) (hn : n ≤ 16384) (hl : a.eval l = .int .i64 n) (hc : a.eval c = .int .i64 n)
    (hK : ∀ w', BRow w' w.heap.size n (fun _ => false) → Below w.heap.size w w' → wpList Try.prog ops Q rest (a.put o.dst (.slice (some ⟨w.heap.size, 0, none⟩) n n)) w') : wpList Try.prog ops Q (o :: rest) a w := by
  obtain ⟨i0, hi, hz0, hz1, hz2⟩ := info_parts boolinfo
  refine wpList_make_full _ hg _ _ 31 hop w.heap.size 4 i0 (.bool false) 1 Try.underlying31 hi hz0 hz1 .i64 .i64 _ _ n hl hc rfl rfl (by rw [hz2]; omega) (by unfold maxLen; omega) (Nat.le_refl _) ?_
  intro w1 hown1 hg1
  refine hK w1 ?_ ((Below.refl _ _).grown hg1 (Nat.le_refl _) (fun k hk => by cases hk))
  rcases hown1.2 with ⟨hv, _⟩ | ⟨g, cap, cur, hv, hbb, hgg, hle, hcm, hcur, htake⟩
  · cases hv
  · simp only [Value.slice.injEq, Option.some.injEq, Addr.mk.injEq] at hv
    obtain ⟨⟨rfl, _⟩, _, rfl⟩ := hv
    refine ⟨cur, hgg, by omega, fun i hi => ?_⟩
    have h2 : cur.toList[i]? = (madeCells (Value.bool false).cells (n * 1)).toList[i]? := by
      rw [← htake, List.getElem?_take, if_pos (by omega)]
    have h3 : cur[i]? = (madeCells (Value.bool false).cells (n * 1))[i]? := by simpa using h2
    rw [h3, falses_at _ _ (by omega)]

structure Rn (w : World) (st : ByteArray) (R D n base j : Nat) (vN vS : Value) (wr : World) : Prop where
  blk : Bk wr R 65 #[vN, vS, .slice (some ⟨D, 0, none⟩) n n, .int .i64 0, .slice none 0 0, .int .i64 0, .bool false]
  dirty : BRow wr D n (fun _ => false)
  on : wr.ownsRow base 9 1 vN j (List.replicate j (.string st))
  os : wr.ownsRow base 9 1 vS j (List.replicate j (.string st))
  ap : vN.ownBlock = none ∨ vN.ownBlock ≠ vS.ownBlock
  below : Below w.heap.size w wr
  bs : base ≤ wr.heap.size
  hb : R < base ∧ D < base ∧ R ≠ D ∧ w.heap.size ≤ R ∧ w.heap.size ≤ D

theorem row_block {w : World} {base n : Nat} {v : Value} {l : List Value} (h : w.ownsRow base 9 1 v n l) : ∀ g, v.ownBlock = some g → base ≤ g ∧ g < w.heap.size := by
  intro g hg
  rcases h.2 with ⟨rfl, _⟩ | ⟨g', cap, cur, rfl, hbb, hgg, _⟩
  · cases hg
  · simp [Value.ownBlock] at hg
    subst hg
    exact ⟨hbb, (Array.getElem?_eq_some_iff.1 hgg).1⟩

theorem row_srow {w : World} {base n : Nat} {v : Value} {st : ByteArray} (hst : st = strOfNums zeros) (hn : 1 ≤ n) (h : w.ownsRow base 9 1 v n (List.replicate n (.string st))) : ∃ g cap, v = .slice (some ⟨g, 0, none⟩) n cap ∧ n ≤ cap ∧ base ≤ g ∧ SRow w g n (fun _ => zeros) := by
  rcases h.2 with ⟨_, h0⟩ | ⟨g, cap, cur, rfl, hbb, hgg, hle, hcm, hcur, htake⟩
  · omega
  · refine ⟨g, cap, rfl, hle, hbb, cur, hgg, by omega, fun i hi => ?_⟩
    have h2 : cur.toList[i]? = (List.replicate n (Value.string st))[i]? := by
      rw [← htake, List.getElem?_take, if_pos (by omega)]
    rw [List.getElem?_replicate, if_pos hi, hst] at h2
    simpa using h2

theorem row_heap {w w' : World} {base n : Nat} {v : Value} {l : List Value} (h : w.ownsRow base 9 1 v n l) (hk : ∀ g, v.ownBlock = some g → w'.heap[g]? = w.heap[g]?) : w'.ownsRow base 9 1 v n l := by
  refine ⟨h.1, ?_⟩
  rcases h.2 with h0 | ⟨g, cap, cur, rfl, hbb, hgg, h3⟩
  · exact .inl h0
  · exact .inr ⟨g, cap, cur, rfl, hbb, (hk g rfl).trans hgg, h3⟩

set_option maxHeartbeats 1000000 in
theorem rnew_bad (n : Int) (w : World) (h : n < 1 ∨ 16384 < n) :
    Calls Try.prog 10 #[.int .i64 n] w fun e w' => e = .returned (.tuple #[.pointer none, .int .i64 1]) ∧ w' = w := by
  rcases h with h | h
  · go_enter Try.func10, Try.ntmps10
    go_wp2
    go_ret2
    exact ⟨rfl, rfl⟩
  · have h1 : ¬ n < 1 := by omega
    go_enter Try.func10, Try.ntmps10
    go_wp2
    go_ret2
    exact ⟨rfl, rfl⟩

theorem rn_start {w w2 : World} {D n : Nat} (st : ByteArray) (hd : BRow w2 D n (fun _ => false)) (hb : Below w.heap.size w w2) (hD : w.heap.size ≤ D) : ∃ W, W = w2.alloc (.cells #[.slice none 0 0, .slice none 0 0, .slice (some ⟨D, 0, none⟩) n n, .int .i64 0, .slice none 0 0, .int .i64 0, .bool false] 65) ∧ Rn w st w2.heap.size D n (w2.heap.size + 1) 0 (.slice none 0 0) (.slice none 0 0) W := by
  obtain ⟨cur, k1, k2⟩ := hd
  have hl := k1.lt
  have hs := hb.size
  refine ⟨_, rfl, Bk.new _ _ _, ⟨cur, k1.alloc _, k2⟩, World.ownsRow_nil _ _ _ _, World.ownsRow_nil _ _ _ _, .inl rfl, hb.alloc hs _, by simp, by omega⟩

/-- A round. -/
theorem Rn.next {w wr w4 w5 w6 w7 w8 w9 : World} {st : ByteArray} {R D n base j : Nat} {vN vS v5 v8 : Value} (h : Rn w st R D n base j vN vS wr) (e4 : w4 = wr.alloc (.cells #[.string st] 9))
    (o5 : w5.ownsRow base 9 1 v5 (j + 1) (List.replicate j (.string st) ++ [.string st])) (g5 : w4.grownBy w5 vN.ownBlock) (b5 : v5.ownBlock = vN.ownBlock ∨ v5.ownBlock = some w4.heap.size)
    (e6 : w6 = w5.setCell ⟨R, 0, none⟩ v5) (e7 : w7 = w6.alloc (.cells #[.string st] 9))
    (o8 : w8.ownsRow base 9 1 v8 (j + 1) (List.replicate j (.string st) ++ [.string st])) (g8 : w7.grownBy w8 vS.ownBlock) (b8 : v8.ownBlock = vS.ownBlock ∨ v8.ownBlock = some w7.heap.size)
    (e9 : w9 = w8.setCell ⟨R, 1, none⟩ v8) : Rn w st R D n base (j + 1) v5 v8 w9 := by
  have hbN := row_block h.on
  have hbS := row_block h.os
  have hb5 := row_block o5
  have hb8 := row_block o8
  obtain ⟨q1, q2, q3, q4, q5⟩ := h.hb
  have s4 : w4.heap.size = wr.heap.size + 1 := by rw [e4]; simp
  have s5 := g5.size
  have s6 : w6.heap.size = w5.heap.size := by rw [e6]; simp [World.setCell]
  have s7 : w7.heap.size = w6.heap.size + 1 := by rw [e7]; simp
  have s8 := g8.size
  have s9 : w9.heap.size = w8.heap.size := by rw [e9]; simp [World.setCell]
  have hwb := h.bs
  have hR := h.blk.lt
  obtain ⟨curD, kD, _⟩ := h.dirty
  have hDl := kD.lt
  have n5 : ∀ g, v5.ownBlock = some g → vS.ownBlock ≠ some g := by
    intro g hg hs
    rcases b5 with e | e
    · rcases h.ap with e2 | e2
      · rw [e, e2] at hg; cases hg
      · exact e2 (by rw [← e, hg, hs])
    · rw [e] at hg
      cases hg
      have := (hbS _ hs).2
      omega
  have T4 : Tn [] wr w4 := by rw [e4]; exact (Tn.refl _ _).alloc _
  have T5 : Tn vN.ownBlock.toList w4 w5 := grown_tn g5
  have T6 : Tn [R] w5 w6 := by rw [e6]; exact (Tn.refl _ _).setCell (by simp) _
  have T7 : Tn [] w6 w7 := by rw [e7]; exact (Tn.refl _ _).alloc _
  have T8 : Tn vS.ownBlock.toList w7 w8 := grown_tn g8
  have T9 : Tn [R] w8 w9 := by rw [e9]; exact (Tn.refl _ _).setCell (by simp) _
  have RN : R ∉ vN.ownBlock.toList := fun hm => by have := hbN R (by simpa using hm); omega
  have RS : R ∉ vS.ownBlock.toList := fun hm => by have := hbS R (by simpa using hm); omega
  have DN : D ∉ vN.ownBlock.toList := fun hm => by have := hbN D (by simpa using hm); omega
  have DS : D ∉ vS.ownBlock.toList := fun hm => by have := hbS D (by simpa using hm); omega
  have k5 : Bk w5 R 65 #[vN, vS, .slice (some ⟨D, 0, none⟩) n n, .int .i64 0, .slice none 0 0, .int .i64 0, .bool false] := (h.blk.tn T4 (by simp)).tn T5 RN
  have k6 : Bk w6 R 65 #[v5, vS, .slice (some ⟨D, 0, none⟩) n n, .int .i64 0, .slice none 0 0, .int .i64 0, .bool false] := by rw [e6]; exact k5.set 0 _
  have k8 := (k6.tn T7 (by simp)).tn T8 RS
  have k9 : Bk w9 R 65 #[v5, v8, .slice (some ⟨D, 0, none⟩) n n, .int .i64 0, .slice none 0 0, .int .i64 0, .bool false] := by rw [e9]; exact k8.set 1 _
  have er : List.replicate j (Value.string st) ++ [.string st] = List.replicate (j + 1) (.string st) := by rw [List.replicate_succ']
  rw [er] at o5 o8
  exact {
    blk := k9
    dirty := (((((h.dirty.tn T4 (by simp)).tn T5 DN).tn T6 (by simp; omega)).tn T7 (by simp)).tn T8 DS).tn T9 (by simp; omega)
    on := row_heap o5 (fun g hg => by
      have h1 := hb5 g hg
      have h6 := T6.block g h1.2 (by simp; omega)
      have h7 := T7.block g (by omega) (by simp)
      have h8 := T8.block g (by omega) (fun hm => n5 g hg (by simpa using hm))
      have h9 := T9.block g (by omega) (by simp; omega)
      rw [h9, h8, h7, h6])
    os := row_heap o8 (fun g hg => by
      have h1 := hb8 g hg
      exact T9.block g h1.2 (by simp; omega))
    ap := by
      right
      intro e
      cases hv : v5.ownBlock with
      | none =>
        rcases o5.2 with ⟨_, h0⟩ | ⟨g, cap, cur, rfl, _⟩
        · omega
        · cases hv
      | some g =>
        rcases b8 with e2 | e2
        · exact n5 g hv (by rw [← e2, ← e, hv])
        · rw [hv, e2] at e
          cases e
          have := (hb5 _ hv).2
          omega
    below := by
      have t : Tn [R] wr w9 → Below w.heap.size wr w9 := fun t => t.below (by have := h.below.size; omega) (by simp; omega)
      refine h.below.trans ?_
      have B4 : Below w.heap.size wr w4 := T4.below (by have := h.below.size; omega) (by simp)
      have B5 : Below w.heap.size w4 w5 := T5.below (by have := h.below.size; omega) (fun x hx => by have := hbN x (by simpa using hx); omega)
      have B6 : Below w.heap.size w5 w6 := T6.below (by have := h.below.size; omega) (by simp; omega)
      have B7 : Below w.heap.size w6 w7 := T7.below (by have := h.below.size; omega) (by simp)
      have B8 : Below w.heap.size w7 w8 := T8.below (by have := h.below.size; omega) (fun x hx => by have := hbS x (by simpa using hx); omega)
      have B9 : Below w.heap.size w8 w9 := T9.below (by have := h.below.size; omega) (by simp; omega)
      exact ((((B4.trans B5).trans B6).trans B7).trans B8).trans B9
    bs := by omega
    hb := h.hb }

end Go.Proofs.Ytpggnejifpcnmaa
