/- Limbo, whole. -/
import Derived.Test.YtndmcjkbbedoeaaEpLim
namespace Go.Proofs.Ytndmcjkbbedoeaa
open Go.RowKit Go.Shelf
attribute [local go_sem] Oper.semAt_some
set_option linter.unusedVariables false
set_option maxRecDepth 100000
set_option linter.unusedSimpArgs false

theorem Tn.nil_below {w w' : World} (h : Tn [] w w') : Below w.heap.size w w' := h.below (Nat.le_refl _) (by simp)

/-- What lies ahead of Limbo's loop. -/
theorem limbo_start2 (w : World) (n k k2 : Nat) (p : Option Addr) (hn : n ≤ maxLen) : ∃ w1, (((((w.drewN k).alloc (.cells (madeCells #[.int .i64 0] n) 2)).alloc (.cells #[.slice (some ⟨w.heap.size, 0, none⟩) 0 n] 79)).drewN k2).alloc (.cells (madeCells #[.int .i64 0, .int .i64 0, .int .i64 0] (n * 3)) 31)).alloc (.cells #[.slice (some ⟨w.heap.size + 1 + 1, 0, none⟩) 0 n] 50) = w1 ∧
    Tn [] w w1 ∧ w1.heap.size = w.heap.size + 4 ∧ ∃ w2, w1.alloc (.cells #[.pointer p] 23) = w2 ∧ Tn [] w w2 ∧ w2.heap.size = w.heap.size + 5 ∧ Bk w2 (w.heap.size + 4) 23 #[.pointer p] ∧ Lm w [] w2 (.slice (some ⟨w.heap.size, 0, none⟩) 0 n) (.slice (some ⟨w.heap.size + 1 + 1, 0, none⟩) 0 n) := by
  obtain ⟨w0, h0⟩ : ∃ w0, w.drewN k = w0 := ⟨_, rfl⟩
  have s0 : w0.heap.size = w.heap.size := by rw [← h0]; rfl
  have t0 : Tn [] w w0 := by rw [← h0]; exact tn_drewN _ _
  obtain ⟨wa, ha⟩ : ∃ wa, w0.alloc (.cells (madeCells #[.int .i64 0] n) 2) = wa := ⟨_, rfl⟩
  have sa : wa.heap.size = w.heap.size + 1 := by rw [← ha]; simp [s0]
  have ta : Tn [] w0 wa := by rw [← ha]; exact (Tn.refl _ _).alloc _
  obtain ⟨wb, hb⟩ : ∃ wb, wa.alloc (.cells #[.slice (some ⟨w.heap.size, 0, none⟩) 0 n] 79) = wb := ⟨_, rfl⟩
  have sb : wb.heap.size = w.heap.size + 2 := by rw [← hb]; simp [sa]
  have tb : Tn [] wa wb := by rw [← hb]; exact (Tn.refl _ _).alloc _
  obtain ⟨wb2, hb2⟩ : ∃ wb2, wb.drewN k2 = wb2 := ⟨_, rfl⟩
  have sb2 : wb2.heap.size = w.heap.size + 2 := by rw [← hb2]; exact sb
  have tb2 : Tn [] wb wb2 := by rw [← hb2]; exact tn_drewN _ _
  obtain ⟨wc, hc⟩ : ∃ wc, wb2.alloc (.cells (madeCells #[.int .i64 0, .int .i64 0, .int .i64 0] (n * 3)) 31) = wc := ⟨_, rfl⟩
  have sc : wc.heap.size = w.heap.size + 3 := by rw [← hc]; simp [sb2]
  have tc : Tn [] wb2 wc := by rw [← hc]; exact (Tn.refl _ _).alloc _
  obtain ⟨wd, hd⟩ : ∃ wd, wc.alloc (.cells #[.slice (some ⟨w.heap.size + 1 + 1, 0, none⟩) 0 n] 50) = wd := ⟨_, rfl⟩
  have sd : wd.heap.size = w.heap.size + 4 := by rw [← hd]; simp [sc]
  have td : Tn [] wc wd := by rw [← hd]; exact (Tn.refl _ _).alloc _
  obtain ⟨we, he⟩ : ∃ we, wd.alloc (.cells #[.pointer p] 23) = we := ⟨_, rfl⟩
  have se : we.heap.size = w.heap.size + 5 := by rw [← he]; simp [sd]
  have te : Tn [] wd we := by rw [← he]; exact (Tn.refl _ _).alloc _
  rw [h0, ha, hb, hb2, hc, hd]
  have r1 : wa.ownsRow 0 2 1 (.slice (some ⟨w.heap.size, 0, none⟩) 0 n) 0 [] := by
    rw [← ha, ← s0]
    exact World.ownsRow_made w0 _ n (Nat.zero_le _) hn (by rw [size_madeCells]; omega)
  have r2 : wc.ownsRow 0 31 3 (.slice (some ⟨w.heap.size + 1 + 1, 0, none⟩) 0 n) 0 [] := by
    rw [← hc, show w.heap.size + 1 + 1 = wb2.heap.size by omega]
    exact World.ownsRow_made wb2 _ n (Nat.zero_le _) hn (by rw [size_madeCells])
  have k1 : Bk wb (w.heap.size + 1) 79 #[.slice (some ⟨w.heap.size, 0, none⟩) 0 n] := by
    rw [← hb, ← sa]
    exact Bk.new _ _ _
  have k3 : Bk wd (w.heap.size + 3) 50 #[.slice (some ⟨w.heap.size + 1 + 1, 0, none⟩) 0 n] := by
    rw [← hd, ← sc]
    exact Bk.new _ _ _
  have tbe : Tn [] wb we := ((tb2.trans tc (by simp)).trans td (by simp)).trans te (by simp)
  have twd : Tn [] w wd := (((((t0.trans ta (by simp)).trans tb (by simp)).trans tb2 (by simp)).trans tc (by simp)).trans td (by simp))
  refine ⟨_, rfl, twd, sd, we, he, twd.trans te (by simp), se, ?_, ?_⟩
  · rw [← he, ← sd]
    exact Bk.new _ _ _
  · exact {
      b1 := k1.tn tbe (by simp)
      b2 := k3.tn te (by simp)
      r1 := owns_tn r1 (tb.trans tbe (by simp)) (by simp)
      r2 := owns_tn r2 (td.trans te (by simp)) (by simp)
      n1 := fun b hb => by cases hb; exact ⟨Nat.le_refl _, by simp, by simp, by simp⟩
      n2 := fun b hb => by cases hb; exact ⟨by simp; omega, by simp, by simp, by simp⟩
      ne := fun b hb h2 => by
        cases hb
        simp [Value.ownBlock] at h2
        omega
      below := (twd.trans te (by simp)).nil_below
      size := by omega }

theorem atone (x : Int) : ∀ u ∈ [Value.int .i64 x], u.oneCell' = true := by
  intro u hu
  simp only [List.mem_cons, List.not_mem_nil, or_false] at hu
  subst hu
  rfl

theorem bk_grown {W w' : World} {b : Nat} {t : TypeId} {cs : Array Value} {row : Option Nat} (h : Bk W b t cs) (hg : W.grownBy w' row) (hne : row ≠ some b) : Bk w' b t cs := (hg.block b h.lt (fun e => hne e.symm)).trans h

theorem tnA {W Wa w3 : World} {row : Option Nat} (g : Wa.grownBy w3 row) (h : Tn [] W Wa) : Tn row.toList W w3 := (h.mono (by simp)).grown g (fun k hk => .inl (opt_toList.2 hk))

theorem Lm.two' {w W Wa Wb w3 w7 : World} {pre : List (Nat × Rt)} {N : Nat} {v1 v2 v3 v7 : Value} {x : Nat × Rt} (h : Lm w pre W v1 v2) (hN : pre.length = N) (ta : Tn [] W Wa)
    (o3 : w3.ownsRow 0 2 1 v3 (N + 1) (ats pre ++ [.int .i64 (x.1 : Int)])) (g3 : Wa.grownBy w3 v1.ownBlock) (q3 : v3.ownBlock = v1.ownBlock ∨ v3.ownBlock = some Wa.heap.size)
    (tb : Tn [] w3 Wb) (o7 : w7.ownsRow 0 31 3 v7 (N + 1) (rts (pre.map Prod.snd) ++ x.2.cells)) (g7 : Wb.grownBy w7 v2.ownBlock) (q7 : v7.ownBlock = v2.ownBlock ∨ v7.ownBlock = some Wb.heap.size) :
    Boxed w7 (w.heap.size + 1) 79 v1 ∧ Boxed w7 (w.heap.size + 3) 50 v2 ∧ Tn (v1.ownBlock.toList ++ v2.ownBlock.toList) W w7 ∧
    Lm w (pre ++ [x]) ((w7.setCell ⟨w.heap.size + 1, 0, none⟩ v3).setCell ⟨w.heap.size + 3, 0, none⟩ v7) v3 v7 ∧
    Tn (v1.ownBlock.toList ++ v2.ownBlock.toList ++ [w.heap.size + 1, w.heap.size + 3]) W ((w7.setCell ⟨w.heap.size + 1, 0, none⟩ v3).setCell ⟨w.heap.size + 3, 0, none⟩ v7) := by
  subst hN
  exact h.two ta o3 g3 q3 tb (by rw [List.length_map]; exact o7) g7 q7

theorem Lm.held {w W W' : World} {pre : List (Nat × Rt)} {v1 v2 : Value} {bx : Nat} {x : Rt} (h : Lm w pre W v1 v2) (kx : Bk W bx 31 #[.int .i64 x.k, .int .i64 x.s, .int .i64 x.g]) (hn1 : v1.ownBlock ≠ some bx) (hn2 : v2.ownBlock ≠ some bx) (ht : Tn (v1.ownBlock.toList ++ v2.ownBlock.toList) W W') :
    W'.cell? ⟨w.heap.size + 1, 0, none⟩ = some v1 ∧ W'.cell? ⟨w.heap.size + 1 + 1 + 1, 0, none⟩ = some v2 ∧ W'.cell? ⟨bx, 0, none⟩ = some (.int .i64 x.k) ∧ W'.cell? ⟨bx, 1, none⟩ = some (.int .i64 x.s) ∧ W'.cell? ⟨bx, 2, none⟩ = some (.int .i64 x.g) := by
  have k1 : Bk W' (w.heap.size + 1) 79 #[v1] := Bk.tn (show Bk W _ _ _ from h.b1) ht (fun hm => by
    rcases List.mem_append.1 hm with hm | hm
    · exact (h.n1 _ (opt_toList.1 hm)).2.1 rfl
    · exact (h.n2 _ (opt_toList.1 hm)).2.1 rfl)
  have k2 : Bk W' (w.heap.size + 3) 50 #[v2] := Bk.tn (show Bk W _ _ _ from h.b2) ht (fun hm => by
    rcases List.mem_append.1 hm with hm | hm
    · exact (h.n1 _ (opt_toList.1 hm)).2.2.1 rfl
    · exact (h.n2 _ (opt_toList.1 hm)).2.2.1 rfl)
  have k3 := kx.tn ht (fun hm => by
    rcases List.mem_append.1 hm with hm | hm
    · exact hn1 (opt_toList.1 hm)
    · exact hn2 (opt_toList.1 hm))
  exact ⟨k1.cell 0, k2.cell 0, k3.cell 0, k3.cell 1, k3.cell 2⟩

theorem Lm.keeps {w W W' : World} {pre : List (Nat × Rt)} {v1 v2 : Value} (h : Lm w pre W v1 v2) (ht : Tn (v1.ownBlock.toList ++ v2.ownBlock.toList ++ [w.heap.size + 1, w.heap.size + 3]) W W') : KeepsOthers W W' :=
  keeps_tn ht (fun b hb => by
    simp only [List.mem_append, List.mem_cons, List.not_mem_nil, or_false, opt_toList] at hb
    rcases hb with (hb | hb) | rfl | rfl
    · exact owns_cells h.r1 hb
    · exact owns_cells h.r2 hb
    · exact ⟨_, h.b1, rfl⟩
    · exact ⟨_, h.b2, rfl⟩)

theorem Lm.kp {w W W' : World} {pre : List (Nat × Rt)} {v1 v2 : Value} {L : List Nat} (h : Lm w pre W v1 v2) (ht : Tn (v1.ownBlock.toList ++ v2.ownBlock.toList ++ [w.heap.size + 1, w.heap.size + 3]) W W') (hL : ∀ b ∈ L, b < w.heap.size) : KpP (L ++ [w.heap.size + 4]) W W' :=
  KpP.of_tn ht (fun y hy => by
    have hs := h.size
    refine ⟨?_, fun hb => ?_⟩
    · rcases List.mem_append.1 hy with hy | hy
      · have := hL y hy
        omega
      · simp at hy
        omega
    · simp only [List.mem_append, List.mem_cons, List.not_mem_nil, or_false, opt_toList] at hb
      rcases List.mem_append.1 hy with hy | hy
      · have := hL y hy
        rcases hb with (hb | hb) | rfl | rfl
        · have := (h.n1 y hb).1
          omega
        · have := (h.n2 y hb).1
          omega
        · omega
        · omega
      · simp at hy
        subst hy
        rcases hb with (hb | hb) | hb | hb
        · exact (h.n1 _ hb).2.2.2 rfl
        · exact (h.n2 _ hb).2.2.2 rfl
        · omega
        · omega)

theorem bk_from {W W' : World} {row : Option Nat} {b m : Nat} {t : TypeId} {cs : Array Value} (h : Bk W b t cs) (hg : W.grownBy W' row) (hr : ∀ r, row = some r → m ≤ r ∧ ∃ o : Obj, W.heap[r]? = some o ∧ o.isCells = false) : Bk W' b t cs := by
  refine (hg.block b h.lt (fun e => ?_)).trans h
  obtain ⟨_, o, ho, hc⟩ := hr b e.symm
  rw [show W.heap[b]? = _ from h] at ho
  cases ho
  cases hc

/-- The rows' numbers stay where no block of theirs is turned. -/
theorem Lm.tn {w W W' : World} {pre : List (Nat × Rt)} {v1 v2 : Value} (h : Lm w pre W v1 v2) (ht : Tn [] W W') : Lm w pre W' v1 v2 where
  b1 := Bk.tn (show Bk W _ _ _ from h.b1) ht (by simp)
  b2 := Bk.tn (show Bk W _ _ _ from h.b2) ht (by simp)
  r1 := owns_tn h.r1 ht (by simp)
  r2 := h.r2.tn ht (by simp)
  n1 := h.n1
  n2 := h.n2
  ne := h.ne
  below := h.below.trans (ht.nil_below.mono h.below.size)
  size := Nat.le_trans h.size ht.size

theorem waits_stops (n : Nat) (hn : 1 ≤ n) {w : World} {B Bw : Nat} {vs : List Value} {e : Ep} {S : List Nat} (hnow : e.now ≤ 4611686018427387904) (hlen : e.old.length + e.cur.length ≤ 3600000000000)
    (hSb : ∀ b ∈ blocks B vs, b ∈ S) (hSw : Bw ∈ S) (hS : ∀ x ∈ S, x < w.heap.size) (hbx : Bk w Bw 23 #[.pointer (some ⟨B, 0, none⟩)]) (hE : IsEp w B vs e) :
    SeqStopsK Fence.wide n Try.prog 45 #[.pointer (some ⟨Bw, 0, none⟩)] encW (KpP S) (fun ys => ys = e.limbo) (fun pre => pre <+: e.limbo) e.limbo.length w := fun l J Jx W hW hJ _ hY h0 =>
  waits1_in n hn l Bw B S vs e hnow hlen hSb hSw J Jx hY W (fun pre A o h => hJ pre A _ none h (World.grownBy_alloc A o none) (fun r e => by cases e))
    (fun pre A k h => hJ pre A _ none h ⟨rfl, rfl, rfl, Nat.le_refl _, fun _ _ _ => rfl⟩ (fun r e => by cases e)) (fun x hx => Nat.lt_of_lt_of_le (hS x hx) hW.size) (hbx.below hW hbx.lt) (hE.kp (S := S) (KpP.of_below hW hS) hSb) h0

set_option maxHeartbeats 4000000 in
theorem limbo_any {w : World} {B : Nat} {vs : List Value} {e : Ep} (h : IsEp w B vs e) (hnow : e.now ≤ 4611686018427387904) (hlen : e.old.length + e.cur.length ≤ 3600000000000) :
    Calls Try.prog 21 #[.pointer (some ⟨B, 0, none⟩)] w fun r w' => r = .returned (.func (.func 38) #[] #[.pointer (some ⟨w.heap.size + 1, 0, none⟩), .pointer (some ⟨w.heap.size + 3, 0, none⟩)]) ∧ ∃ v1 v2, Lm w e.limbo w' v1 v2 := by
  refine (callsIn_wide (n := 9)).1 ?_
  refine callsIn_of_wp_marks Try.func21 rfl trivial ?_ rfl
  simp only [Try.ntmps21, List.size_toArray, List.length_cons, List.length_nil, Nat.reduceAdd, Nat.reduceSub, Array.replicate_succ, Array.replicate_zero, List.push_toArray, List.append_toArray, List.nil_append, List.cons_append]
  have HE : Hid (∀ W, Tn [] w W → IsEp W B vs e) := fun W ht => h.tn ht (by simp)
  have HLT : Hid (∀ b ∈ blocks B vs, b < w.heap.size) := h.lt
  obtain ⟨ln, hln⟩ : ∃ ln, e.old.length + e.cur.length = ln := ⟨_, rfl⟩
  have HLN : Hid (e.limbo.length = ln) := by rw [Hid, Ep.limbo_length]; exact hln
  have HW : Hid (∀ W, Tn [] w W → Calls Try.prog 13 #[.pointer (some ⟨B, 0, none⟩)] W fun r w' => r = .returned (.int .i64 (ln : Int)) ∧ ∃ k, w' = W.drewN k) := fun W ht => by
    have := waiting_any (h.tn ht (by simp)) hnow hlen
    rw [hln] at this
    exact this
  have HB : Hid (e.now ≤ 4611686018427387904 ∧ e.old.length + e.cur.length ≤ 3600000000000) := ⟨hnow, hlen⟩
  rw [hln] at hlen
  have mk1 : ∀ w : World, (Instr.makeSlice 79 (.int .i64 0) (.int .i64 (ln : Int))).run Try.prog w = .ok (.slice (some ⟨w.heap.size, 0, none⟩) 0 ln) (w.alloc (.cells (madeCells #[.int .i64 0] ln) 2)) := run_mk1 ln (by omega)
  have mk3 : ∀ w : World, (Instr.makeSlice 50 (.int .i64 0) (.int .i64 (ln : Int))).run Try.prog w = .ok (.slice (some ⟨w.heap.size, 0, none⟩) 0 ln) (w.alloc (.cells (madeCells #[.int .i64 0, .int .i64 0, .int .i64 0] (ln * 3)) 31)) := run_mk3 ln (by omega)
  clear h hnow hln
  gi_wp2_with fail
  refine ⟨trivial, ?_⟩
  refine (callsIn_wide.2 (HW.out w (Tn.refl _ _))).mono ?_
  rintro r w1 ⟨rfl, k, rfl⟩
  gi_wp2_with fail
  refine ⟨trivial, ?_⟩
  refine (callsIn_wide.2 (HW.out _ (((tn_drewN _ _).alloc _).alloc _))).mono ?_
  rintro r w2 ⟨rfl, k2, rfl⟩
  gi_wp2_with fail
  refine ⟨trivial, ?_⟩
  refine (callsIn_wide.2 (waits_any _ _)).mono ?_
  obtain ⟨wx, hwx, htx, hsx, wy, hwy, hty, hsy, kw, hL0⟩ := limbo_start2 w ln k k2 (some ⟨B, 0, none⟩) (by unfold maxLen; omega)
  rw [hwx, hwy, hsx]
  rintro r w3 ⟨rfl, rfl⟩
  clear hwx hwy mk1 mk3 HW
  have HIy : Hid (IsEp w3 B vs e) := HE.out w3 hty
  gi_wp2_with fail
  refine wpIn_rangeFunc_ownH rfl (by omega) (gf := 45) (lb := #[.pointer (some ⟨w.heap.size + 4, 0, none⟩)]) rfl trivial (enters_of Try.func45 (by kernel_rfl) rfl)
    (waits_stops 8 (by omega) (S := blocks B vs ++ [w.heap.size + 4]) HB.out.1 HB.out.2 (fun b hb => List.mem_append.2 (.inl hb)) (List.mem_append.2 (.inr (by simp))) (fun x hx => by
      rcases List.mem_append.1 hx with hx | hx
      · have := HLT.out x hx
        omega
      · simp at hx
        omega) kw HIy.out) KpP.t (fun W l o o' hl _ _ _ k hk => World.putObj_heap_other (fun e => by
          subst e
          rcases List.mem_append.1 hk with hx | hx
          · have := HLT.out _ hx
            omega
          · simp at hx
            omega)) (Below.refl _ _) (fun _ => rfl)
    (fun pre W => ∃ v1 v2, Lm w pre W v1 v2)
    (fun cc pre W => False)
    (fun s A B' row hs hg hr => by
      obtain ⟨v1, v2, hs⟩ := hs
      exact ⟨v1, v2, hs.abides (m := w3.heap.size) (by omega) hg hr⟩)
    (fun cc s A B row hs hg hr => hs)
    ⟨_, _, hL0⟩
    (fun x a' W => ∃ bx u1 u2, w3.heap.size ≤ bx ∧ Bk W bx 31 #[.int .i64 x.2.k, .int .i64 x.2.s, .int .i64 x.2.g] ∧ Boxed W (w.heap.size + 1) 79 u1 ∧ Boxed W (w.heap.size + 3) 50 u2 ∧ u1.ownBlock ≠ some bx ∧ u2.ownBlock ≠ some bx ∧ a' = { tmps := #[.pointer (some ⟨B, 0, none⟩), undef, .nilFunc, .pointer (some ⟨w.heap.size + 1, 0, none⟩), .pointer (some ⟨w.heap.size + 1 + 1 + 1, 0, none⟩), .int .i64 (x.1 : Int), .pointer (some ⟨bx, 0, none⟩), .pointer (some ⟨B, 0, none⟩), .int .i64 (ln : Int), .slice (some ⟨w.heap.size, 0, none⟩) 0 ln, .pointer (some ⟨B, 0, none⟩), .int .i64 (ln : Int), .slice (some ⟨w.heap.size + 1 + 1, 0, none⟩) 0 ln, .pointer (some ⟨B, 0, none⟩), .func (.func 45) #[] #[.pointer (some ⟨w.heap.size + 4, 0, none⟩)], .int .i64 (x.1 : Int), x.2.val, undef, undef, undef, undef, undef, undef, undef, undef, undef], defers := [] })
    (fun x a' _ A B' row hs hg hr => by
      obtain ⟨bx, u1, u2, h1, h2, h3, h4, h5⟩ := hs
      exact ⟨bx, u1, u2, h1, bk_from h2 hg hr, boxed_from h3 hg hr, boxed_from h4 hg hr, h5⟩)
    ?assign ?body ?done ?stop
  case assign =>
    rintro l pre x W K ⟨v1, v2, hL⟩ hK
    gi_wp2
    have ht : Tn [] W (W.alloc (.cells #[.int .i64 x.2.k, .int .i64 x.2.s, .int .i64 x.2.g] 31)) := (Tn.refl _ _).alloc _
    refine hK _ _ ((keeps_tn ht (by simp)).from _) (KpP.of_tn ht (fun y hy => ⟨?_, by simp⟩)) ⟨v1, v2, hL.tn ht⟩ ⟨_, v1, v2, ?_, Bk.new _ _ _, (hL.tn ht).b1, (hL.tn ht).b2, fun he => Nat.lt_irrefl _ (row_block hL.r1 _ he), fun he => Nat.lt_irrefl _ (row_block hL.r2 _ he), rfl⟩
    · have := hL.size
      rcases List.mem_append.1 hy with hx | hx
      · have := HLT.out _ hx
        omega
      · simp at hx
        omega
    · have := hL.size
      omega
  case stop =>
    rintro D cc pre W hD hpre hF hK
    exact hF.elim
  case body =>
    rintro l pre x a' W - - ⟨v1, v2, hL⟩ ⟨bx, u1, u2, hbx, kx, hu1, hu2, hn1, hn2, rfl⟩ hpre
    have hu : u1 = v1 := by have := (show W.heap[_]? = _ from hu1).symm.trans hL.b1; simpa using this
    have hv : u2 = v2 := by have := (show W.heap[_]? = _ from hu2).symm.trans hL.b2; simpa using this
    subst hu hv
    obtain ⟨N, hN⟩ : ∃ N, pre.length = N := ⟨_, rfl⟩
    have HN : Hid (pre.length = N ∧ N ≤ 3600000000000) := ⟨hN, by have := HLN.out; omega⟩
    obtain ⟨p1, c1, hv1, -⟩ := row_form hL.r1
    obtain ⟨p2, c2, hv2, -⟩ := row_form hL.r2
    rw [List.length_map] at hv2
    rw [hN] at hv1 hv2
    subst hv1 hv2
    have HL : Hid (Lm w pre W (.slice p1 N c1) (.slice p2 N c2)) := hL
    have HS : Hid (∀ W', Tn ((Value.slice p1 N c1).ownBlock.toList ++ (Value.slice p2 N c2).ownBlock.toList) W W' → W'.cell? ⟨w.heap.size + 1, 0, none⟩ = some (.slice p1 N c1) ∧ W'.cell? ⟨w.heap.size + 1 + 1 + 1, 0, none⟩ = some (.slice p2 N c2) ∧ W'.cell? ⟨bx, 0, none⟩ = some (.int .i64 x.2.k) ∧ W'.cell? ⟨bx, 1, none⟩ = some (.int .i64 x.2.s) ∧ W'.cell? ⟨bx, 2, none⟩ = some (.int .i64 x.2.g)) := fun W' ht => hL.held kx hn1 hn2 ht
    have HR1 : Hid (∀ W', Tn [] W W' → W'.ownsRow 0 2 1 (.slice p1 N c1) N (ats pre)) := fun W' ht => by have := owns_tn hL.r1 ht (by simp); rwa [hN] at this
    have HR2 : Hid (∀ W', Tn (Value.slice p1 N c1).ownBlock.toList W W' → W'.ownsRow 0 31 3 (.slice p2 N c2) N (rts (pre.map Prod.snd))) := fun W' ht => by have := owns_tn hL.r2 ht (fun b hb hm => hL.ne b (opt_toList.1 hm) hb); rwa [List.length_map, hN] at this
    have HBN : Hid (∀ b, W.heap.size ≤ b → (Value.slice p1 N c1).ownBlock ≠ some b) := fun b hb he => by have := row_block hL.r1 b he; omega
    have HF : Hid (∀ v3 v7 w9, Lm w (pre ++ [x]) w9 v3 v7 → Tn ((Value.slice p1 N c1).ownBlock.toList ++ (Value.slice p2 N c2).ownBlock.toList ++ [w.heap.size + 1, w.heap.size + 3]) W w9 → KeepsFrom w3.heap.size W w9 ∧ KpP (blocks B vs ++ [w.heap.size + 4]) W w9 ∧ ∃ v1 v2, Lm w (pre ++ [x]) w9 v1 v2) := fun v3 v7 w9 h4 h5 => ⟨(hL.keeps h5).from _, hL.kp h5 HLT.out, v3, v7, h4⟩
    clear hL hu1 hu2 hn1 hn2 kx hN hpre
    gi_wp2_with fail
    refine wpIn_region_mid (S := fun W' => W'.cell? ⟨w.heap.size + 1, 0, none⟩ = some (.slice p1 N c1) ∧ W'.cell? ⟨w.heap.size + 1 + 1 + 1, 0, none⟩ = some (.slice p2 N c2) ∧ W'.cell? ⟨bx, 0, none⟩ = some (.int .i64 x.2.k) ∧ W'.cell? ⟨bx, 1, none⟩ = some (.int .i64 x.2.s) ∧ W'.cell? ⟨bx, 2, none⟩ = some (.int .i64 x.2.g)) 8 (by kernel_rfl) (by rfl) (by rintro ⟨a, w, h⟩; exact h) ?_
    have hS := HS.out W.drew (Tn.refl _ _).drew
    refine wpAnyM_take (i := 0) [] (oi := _) (v := ?_) rfl (by kernel_rfl) (by kernel_rfl) (by kernel_rfl) (by kernel_rfl) (fun _ _ _ h => h) (Or.inl ⟨by rfl, ?_⟩) hS ?_
    rotate_left
    · (intro w hSw; (try dsimp only at hSw); go_simp; try with_reducible rfl)
    try simp only [Act.put, List.setIfInBounds_toArray, List.set_cons_zero, List.set_cons_succ]
    refine wpAnyM_take (i := 1) [] (oi := _) (v := ?_) rfl (by kernel_rfl) (by kernel_rfl) (by kernel_rfl) (by kernel_rfl) (fun _ _ _ h => h) (Or.inl ⟨by rfl, ?_⟩) hS ?_
    rotate_left
    · (intro w hSw; (try dsimp only at hSw); go_simp; try with_reducible rfl)
    try simp only [Act.put, List.setIfInBounds_toArray, List.set_cons_zero, List.set_cons_succ]
    refine wpAnyM_take (i := 4) [7] (oi := _) (v := ?_) rfl (by kernel_rfl) (by kernel_rfl) (by kernel_rfl) (by kernel_rfl) (fun _ _ _ h => h) (Or.inl ⟨by rfl, ?_⟩) hS ?_
    rotate_left
    · (intro w hSw; (try dsimp only at hSw); go_simp; try with_reducible rfl)
    try simp only [Act.put, List.setIfInBounds_toArray, List.set_cons_zero, List.set_cons_succ]
    refine wpAnyM_take (i := 5) [6, 7] (oi := _) (v := ?_) rfl (by kernel_rfl) (by kernel_rfl) (by kernel_rfl) (by kernel_rfl) (fun _ _ _ h => h) (Or.inl ⟨by rfl, ?_⟩) hS ?_
    rotate_left
    · (intro w hSw; (try dsimp only at hSw); go_simp; try with_reducible rfl)
    try simp only [Act.put, List.setIfInBounds_toArray, List.set_cons_zero, List.set_cons_succ]
    refine wpAnyM_ready (rs := [2, 6]) (by kernel_rfl) (by simp) ?_
    refine AllReadyM.cons rfl (fun K hK => ?_) (AllReadyM.cons rfl (fun K hK => ?_) AllReadyM.nil)
    · go_simp
      refine hK _ _ ⟨fun _ => HS.out _ (by repeat (first | exact Tn.refl _ _ | refine Tn.alloc ?_ _ | refine Tn.drew ?_)), ?_⟩
      clear hK K
      try simp only [Act.put, List.setIfInBounds_toArray, List.set_cons_zero, List.set_cons_succ]
      refine wpAnyM_ready (rs := [3, 6]) (by kernel_rfl) (by simp) ?_
      refine AllReadyM.cons rfl (fun K hK => ?_) (AllReadyM.cons rfl (fun K hK => ?_) AllReadyM.nil)
      · refine stepX rfl _ _ 79 rfl 2 (.int .i64 0) 1 8 Try.underlying79 i64info rfl (by decide) (.slice p1 N c1) N (ats pre) (by go_simp) (HR1.out _ (by repeat (first | exact Tn.refl _ _ | refine Tn.alloc ?_ _ | refine Tn.drew ?_))) ⟨_, 0, none⟩ 1 1 [.int .i64 (x.1 : Int)] (by rfl) rfl (news_bk (Bk.new _ _ _)) (atone _) (by have := HN.out.2; unfold maxLen; omega) (by have := HN.out.2; omega) ?_
        intro v3 w3 o3 g3 q3
        obtain ⟨e3, f3, rfl⟩ := row_some o3 (by omega)
        have t3 : Tn (Value.slice p1 N c1).ownBlock.toList W w3 := tnA g3 (by repeat (first | exact Tn.refl _ _ | refine Tn.alloc ?_ _ | refine Tn.drew ?_))
        refine hK _ _ ⟨fun _ => HS.out _ (t3.mono (fun y hy => List.mem_append.2 (.inl hy))), ?_⟩
        clear hK K
        try simp only [Act.put, List.setIfInBounds_toArray, List.set_cons_zero, List.set_cons_succ]
        refine wpAnyM_ready (rs := [6]) (by kernel_rfl) (by simp) ?_
        refine AllReadyM.cons rfl (fun K hK => ?_) AllReadyM.nil
        go_simp
        refine hK _ _ ⟨fun _ => HS.out _ (by refine Tn.mono (S := (Value.slice p1 N c1).ownBlock.toList) ?_ (fun y hy => List.mem_append.2 (.inl hy)); repeat (first | exact t3 | refine Tn.alloc ?_ _ | refine Tn.drew ?_)), ?_⟩
        clear hK K
        try simp only [Act.put, List.setIfInBounds_toArray, List.set_cons_zero, List.set_cons_succ]
        refine wpAnyM_ready (rs := [7]) (by kernel_rfl) (by simp) ?_
        refine AllReadyM.cons rfl (fun K hK => ?_) AllReadyM.nil
        refine stepX rfl _ _ 50 rfl 31 (.agg #[.int .i64 0, .int .i64 0, .int .i64 0]) 3 24 Try.underlying50 rtinfo rfl (by decide) (.slice p2 N c2) N (rts (pre.map Prod.snd)) (by go_simp) (HR2.out _ (by repeat (first | exact t3 | refine Tn.alloc ?_ _ | refine Tn.drew ?_))) ⟨_, 0, none⟩ 1 1 x.2.cells (by rfl) rfl (news_bk (Bk.new _ _ _)) (rtone x.2) (by have := HN.out.2; unfold maxLen; omega) (by have := HN.out.2; omega) ?_
        intro v7 w7 o7 g7 q7
        obtain ⟨e7, f7, rfl⟩ := row_some o7 (by omega)
        obtain ⟨z1, z2, z3, z4, z5⟩ := HL.out.two' HN.out.1 (by repeat (first | exact Tn.refl _ _ | refine Tn.alloc ?_ _ | refine Tn.drew ?_)) o3 g3 q3 (by repeat (first | exact Tn.refl _ _ | refine Tn.alloc ?_ _ | refine Tn.drew ?_)) o7 g7 q7
        refine hK _ _ ⟨fun _ => HS.out _ z3, ?_⟩
        clear hK K
        try simp only [Act.put, List.setIfInBounds_toArray, List.set_cons_zero, List.set_cons_succ]
        have y1 := z1.cell
        have y2 := z1.frozen
        have y3 := (Boxed.other z2 (show w.heap.size + 3 ≠ w.heap.size + 1 by omega) (.slice (some ⟨e3, 0, none⟩) (N + 1) f3)).cell
        have y4 := (Boxed.other z2 (show w.heap.size + 3 ≠ w.heap.size + 1 by omega) (.slice (some ⟨e3, 0, none⟩) (N + 1) f3)).frozen
        refine wpAnyM_ready (rs := [8]) (by kernel_rfl) (by simp) ?_
        refine AllReadyM.cons rfl (fun K hK => ?_) AllReadyM.nil
        go_simp
        refine hK _ _ ⟨fun h => absurd h (by omega), ?_⟩
        clear hK K
        try simp only [Act.put, List.setIfInBounds_toArray, List.set_cons_zero, List.set_cons_succ]
        refine wpAnyM_ready (rs := [9]) (by kernel_rfl) (by simp) ?_
        refine AllReadyM.cons rfl (fun K hK => ?_) AllReadyM.nil
        go_simp
        refine hK _ _ ⟨fun h => absurd h (by omega), ?_⟩
        clear hK K
        try simp only [Act.put, List.setIfInBounds_toArray, List.set_cons_zero, List.set_cons_succ]
        refine wpAnyM_done (by kernel_rfl) ?_ _
        exact HF.out _ _ _ z4 z5
      · go_simp
        refine hK _ _ ⟨fun _ => HS.out _ (by repeat (first | exact Tn.refl _ _ | refine Tn.alloc ?_ _ | refine Tn.drew ?_)), ?_⟩
        clear hK K
        try simp only [Act.put, List.setIfInBounds_toArray, List.set_cons_zero, List.set_cons_succ]
        refine wpAnyM_ready (rs := [3]) (by kernel_rfl) (by simp) ?_
        refine AllReadyM.cons rfl (fun K hK => ?_) AllReadyM.nil
        refine stepX rfl _ _ 79 rfl 2 (.int .i64 0) 1 8 Try.underlying79 i64info rfl (by decide) (.slice p1 N c1) N (ats pre) (by go_simp) (HR1.out _ (by repeat (first | exact Tn.refl _ _ | refine Tn.alloc ?_ _ | refine Tn.drew ?_))) ⟨_, 0, none⟩ 1 1 [.int .i64 (x.1 : Int)] (by rfl) rfl (news_bk ((Bk.new _ _ _).alloc _)) (atone _) (by have := HN.out.2; unfold maxLen; omega) (by have := HN.out.2; omega) ?_
        intro v3 w3 o3 g3 q3
        obtain ⟨e3, f3, rfl⟩ := row_some o3 (by omega)
        have t3 : Tn (Value.slice p1 N c1).ownBlock.toList W w3 := tnA g3 (by repeat (first | exact Tn.refl _ _ | refine Tn.alloc ?_ _ | refine Tn.drew ?_))
        refine hK _ _ ⟨fun _ => HS.out _ (t3.mono (fun y hy => List.mem_append.2 (.inl hy))), ?_⟩
        clear hK K
        try simp only [Act.put, List.setIfInBounds_toArray, List.set_cons_zero, List.set_cons_succ]
        have kz := bk_grown (bk_new2 W.drew _ 31 #[.int .i64 x.2.k, .int .i64 x.2.s, .int .i64 x.2.g]) g3 (HBN.out _ (by simp))
        refine wpAnyM_ready (rs := [7]) (by kernel_rfl) (by simp) ?_
        refine AllReadyM.cons rfl (fun K hK => ?_) AllReadyM.nil
        refine stepX rfl _ _ 50 rfl 31 (.agg #[.int .i64 0, .int .i64 0, .int .i64 0]) 3 24 Try.underlying50 rtinfo rfl (by decide) (.slice p2 N c2) N (rts (pre.map Prod.snd)) (by go_simp) (HR2.out _ (by repeat (first | exact t3 | refine Tn.alloc ?_ _ | refine Tn.drew ?_))) ⟨_, 0, none⟩ 1 1 x.2.cells (by rfl) rfl (news_bk (kz)) (rtone x.2) (by have := HN.out.2; unfold maxLen; omega) (by have := HN.out.2; omega) ?_
        intro v7 w7 o7 g7 q7
        obtain ⟨e7, f7, rfl⟩ := row_some o7 (by omega)
        obtain ⟨z1, z2, z3, z4, z5⟩ := HL.out.two' HN.out.1 (by repeat (first | exact Tn.refl _ _ | refine Tn.alloc ?_ _ | refine Tn.drew ?_)) o3 g3 q3 (by repeat (first | exact Tn.refl _ _ | refine Tn.alloc ?_ _ | refine Tn.drew ?_)) o7 g7 q7
        refine hK _ _ ⟨fun _ => HS.out _ z3, ?_⟩
        clear hK K
        try simp only [Act.put, List.setIfInBounds_toArray, List.set_cons_zero, List.set_cons_succ]
        have y1 := z1.cell
        have y2 := z1.frozen
        have y3 := (Boxed.other z2 (show w.heap.size + 3 ≠ w.heap.size + 1 by omega) (.slice (some ⟨e3, 0, none⟩) (N + 1) f3)).cell
        have y4 := (Boxed.other z2 (show w.heap.size + 3 ≠ w.heap.size + 1 by omega) (.slice (some ⟨e3, 0, none⟩) (N + 1) f3)).frozen
        refine wpAnyM_ready (rs := [8]) (by kernel_rfl) (by simp) ?_
        refine AllReadyM.cons rfl (fun K hK => ?_) AllReadyM.nil
        go_simp
        refine hK _ _ ⟨fun h => absurd h (by omega), ?_⟩
        clear hK K
        try simp only [Act.put, List.setIfInBounds_toArray, List.set_cons_zero, List.set_cons_succ]
        refine wpAnyM_ready (rs := [9]) (by kernel_rfl) (by simp) ?_
        refine AllReadyM.cons rfl (fun K hK => ?_) AllReadyM.nil
        go_simp
        refine hK _ _ ⟨fun h => absurd h (by omega), ?_⟩
        clear hK K
        try simp only [Act.put, List.setIfInBounds_toArray, List.set_cons_zero, List.set_cons_succ]
        refine wpAnyM_done (by kernel_rfl) ?_ _
        exact HF.out _ _ _ z4 z5
    · go_simp
      refine hK _ _ ⟨fun _ => HS.out _ (by repeat (first | exact Tn.refl _ _ | refine Tn.alloc ?_ _ | refine Tn.drew ?_)), ?_⟩
      clear hK K
      try simp only [Act.put, List.setIfInBounds_toArray, List.set_cons_zero, List.set_cons_succ]
      refine wpAnyM_ready (rs := [2]) (by kernel_rfl) (by simp) ?_
      refine AllReadyM.cons rfl (fun K hK => ?_) AllReadyM.nil
      go_simp
      refine hK _ _ ⟨fun _ => HS.out _ (by repeat (first | exact Tn.refl _ _ | refine Tn.alloc ?_ _ | refine Tn.drew ?_)), ?_⟩
      clear hK K
      try simp only [Act.put, List.setIfInBounds_toArray, List.set_cons_zero, List.set_cons_succ]
      refine wpAnyM_ready (rs := [3]) (by kernel_rfl) (by simp) ?_
      refine AllReadyM.cons rfl (fun K hK => ?_) AllReadyM.nil
      refine stepX rfl _ _ 79 rfl 2 (.int .i64 0) 1 8 Try.underlying79 i64info rfl (by decide) (.slice p1 N c1) N (ats pre) (by go_simp) (HR1.out _ (by repeat (first | exact Tn.refl _ _ | refine Tn.alloc ?_ _ | refine Tn.drew ?_))) ⟨_, 0, none⟩ 1 1 [.int .i64 (x.1 : Int)] (by rfl) rfl (news_bk (bk_new2 _ _ _ _)) (atone _) (by have := HN.out.2; unfold maxLen; omega) (by have := HN.out.2; omega) ?_
      intro v3 w3 o3 g3 q3
      obtain ⟨e3, f3, rfl⟩ := row_some o3 (by omega)
      have t3 : Tn (Value.slice p1 N c1).ownBlock.toList W w3 := tnA g3 (by repeat (first | exact Tn.refl _ _ | refine Tn.alloc ?_ _ | refine Tn.drew ?_))
      refine hK _ _ ⟨fun _ => HS.out _ (t3.mono (fun y hy => List.mem_append.2 (.inl hy))), ?_⟩
      clear hK K
      try simp only [Act.put, List.setIfInBounds_toArray, List.set_cons_zero, List.set_cons_succ]
      have kz := bk_grown ((Bk.new W.drew 31 #[.int .i64 x.2.k, .int .i64 x.2.s, .int .i64 x.2.g]).alloc _) g3 (HBN.out _ (by simp))
      refine wpAnyM_ready (rs := [7]) (by kernel_rfl) (by simp) ?_
      refine AllReadyM.cons rfl (fun K hK => ?_) AllReadyM.nil
      refine stepX rfl _ _ 50 rfl 31 (.agg #[.int .i64 0, .int .i64 0, .int .i64 0]) 3 24 Try.underlying50 rtinfo rfl (by decide) (.slice p2 N c2) N (rts (pre.map Prod.snd)) (by go_simp) (HR2.out _ (by repeat (first | exact t3 | refine Tn.alloc ?_ _ | refine Tn.drew ?_))) ⟨_, 0, none⟩ 1 1 x.2.cells (by rfl) rfl (news_bk (kz)) (rtone x.2) (by have := HN.out.2; unfold maxLen; omega) (by have := HN.out.2; omega) ?_
      intro v7 w7 o7 g7 q7
      obtain ⟨e7, f7, rfl⟩ := row_some o7 (by omega)
      obtain ⟨z1, z2, z3, z4, z5⟩ := HL.out.two' HN.out.1 (by repeat (first | exact Tn.refl _ _ | refine Tn.alloc ?_ _ | refine Tn.drew ?_)) o3 g3 q3 (by repeat (first | exact Tn.refl _ _ | refine Tn.alloc ?_ _ | refine Tn.drew ?_)) o7 g7 q7
      refine hK _ _ ⟨fun _ => HS.out _ z3, ?_⟩
      clear hK K
      try simp only [Act.put, List.setIfInBounds_toArray, List.set_cons_zero, List.set_cons_succ]
      have y1 := z1.cell
      have y2 := z1.frozen
      have y3 := (Boxed.other z2 (show w.heap.size + 3 ≠ w.heap.size + 1 by omega) (.slice (some ⟨e3, 0, none⟩) (N + 1) f3)).cell
      have y4 := (Boxed.other z2 (show w.heap.size + 3 ≠ w.heap.size + 1 by omega) (.slice (some ⟨e3, 0, none⟩) (N + 1) f3)).frozen
      refine wpAnyM_ready (rs := [8]) (by kernel_rfl) (by simp) ?_
      refine AllReadyM.cons rfl (fun K hK => ?_) AllReadyM.nil
      go_simp
      refine hK _ _ ⟨fun h => absurd h (by omega), ?_⟩
      clear hK K
      try simp only [Act.put, List.setIfInBounds_toArray, List.set_cons_zero, List.set_cons_succ]
      refine wpAnyM_ready (rs := [9]) (by kernel_rfl) (by simp) ?_
      refine AllReadyM.cons rfl (fun K hK => ?_) AllReadyM.nil
      go_simp
      refine hK _ _ ⟨fun h => absurd h (by omega), ?_⟩
      clear hK K
      try simp only [Act.put, List.setIfInBounds_toArray, List.set_cons_zero, List.set_cons_succ]
      refine wpAnyM_done (by kernel_rfl) ?_ _
      exact HF.out _ _ _ z4 z5
  case done =>
    rintro D zs W hD rfl ⟨v1, v2, hL⟩ hK
    gi_wp2
    refine ⟨by simp, .inl ⟨_, _, rfl, run_takeDeferred hK, ?_⟩⟩
    refine ⟨_, results_tmp rfl _ _ _, rfl, v1, v2, ?_⟩
    exact hL.abides (m := w3.heap.size) (by omega) (grownBy_putObj' W D (.deferred none)) (fun r e => by cases e; exact ⟨hD, _, hK, rfl⟩)
end Go.Proofs.Ytndmcjkbbedoeaa
