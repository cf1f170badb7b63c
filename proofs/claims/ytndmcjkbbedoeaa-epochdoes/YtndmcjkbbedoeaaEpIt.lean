/- What waits is told, as long as some blocks lie as they lay. -/
import Derived.Test.YtndmcjkbbedoeaaEpRd
import Derived.Test.YtndmcjkbbedoeaaEpYn
import Derived.RangeFuncNested
import Derived.RangeFuncBound
import Derived.RangeFuncCalls
import Derived.RangeFuncLeaves
import Derived.RangeFuncBox
import Derived.Shelf.Abstract
import Derived.OwnWalkIn
import Derived.TacticsInMore
import Derived.LoopNIn
import Derived.LoopIn
namespace Go.Proofs.Ytndmcjkbbedoeaa
open Go.RowKit Go.Shelf
attribute [local go_sem] Oper.semAt_some
set_option linter.unusedVariables false
set_option maxRecDepth 100000

/-- What a round leaves as it was. -/
def KpP (S : List Nat) (W W' : World) : Prop := ∀ k ∈ S, W'.heap[k]? = W.heap[k]?

theorem KpP.refl (S : List Nat) (W : World) : KpP S W W := fun _ _ => rfl
theorem KpP.t {S : List Nat} {A B C : World} (h : KpP S A B) (k : KpP S B C) : KpP S A C := fun j hj => (k j hj).trans (h j hj)
theorem KpP.mono {S T : List Nat} {A B : World} (h : KpP T A B) (hS : ∀ x ∈ S, x ∈ T) : KpP S A B := fun j hj => h j (hS j hj)
theorem KpP.alloc {S : List Nat} {W W' : World} (h : KpP S W W') (hS : ∀ x ∈ S, x < W'.heap.size) (o : Obj) : KpP S W (W'.alloc o) := fun j hj => (Below.heap_alloc _ _ _ (hS j hj)).trans (h j hj)
theorem KpP.lt {S : List Nat} {W W' : World} (h : KpP S W W') (hS : ∀ x ∈ S, x < W.heap.size) : ∀ x ∈ S, x < W'.heap.size := fun x hx => by
  have := h x hx
  rw [Array.getElem?_eq_getElem (hS x hx)] at this
  exact (Array.getElem?_eq_some_iff.1 this).1
theorem KpP.bk {S : List Nat} {W W' : World} {b : Nat} {t : TypeId} {cs : Array Value} (h : KpP S W W') (hk : Bk W b t cs) (hb : b ∈ S) : Bk W' b t cs := (h b hb).trans hk
theorem KpP.of_below {S : List Nat} {W W' : World} {B : Nat} (h : Below B W W') (hS : ∀ x ∈ S, x < B) : KpP S W W' := fun j hj => h.block j (hS j hj)
theorem KpP.of_tn {S T : List Nat} {W W' : World} (h : Tn T W W') (hS : ∀ x ∈ S, x < W.heap.size ∧ x ∉ T) : KpP S W W' := fun j hj => h.block j (hS j hj).1 (hS j hj).2

theorem owns_kp {S : List Nat} {w w' : World} {base size n : Nat} {e : TypeId} {v : Value} {xs : List Value} (h : w.ownsRow base e size v n xs) (ht : KpP S w w') (hn : ∀ k, v.ownBlock = some k → k ∈ S) : w'.ownsRow base e size v n xs := by
  refine ⟨h.1, ?_⟩
  rcases h.2 with hv | ⟨g, cap, cur, rfl, hb, hgg, rest⟩
  · exact .inl hv
  · exact .inr ⟨g, cap, cur, rfl, hb, (ht g (hn g rfl)).trans hgg, rest⟩

theorem IsEp.kp {S : List Nat} {w w' : World} {B : Nat} {vs : List Value} {e : Ep} (h : IsEp w B vs e) (ht : KpP S w w') (hS : ∀ b ∈ blocks B vs, b ∈ S) : IsEp w' B vs e :=
  { h with
    blk := ht.bk h.blk (hS B (by simp [blocks]))
    row := fun k hk => owns_kp (h.row k hk) ht (fun b hb => hS b ((mem_blocks h.v3).2 (.inr ⟨k, hk, hb⟩))) }

/-- What waits, with its epochs. -/
def Ep.limbo (e : Ep) : List (Nat × Rt) := e.old.map (fun x => (e.now - 1, x)) ++ e.cur.map (fun x => (e.now, x))

theorem Ep.limbo_length (e : Ep) : e.limbo.length = e.old.length + e.cur.length := by simp [Ep.limbo]

theorem Ep.limbo_old (e : Ep) (j : Nat) (hj : j < e.old.length) : e.limbo[j]? = some (e.now - 1, rtAt e.old j) := by
  unfold Ep.limbo
  rw [List.getElem?_append_left (by simpa using hj), List.getElem?_map, rtAt_mem hj]
  rfl
theorem Ep.limbo_cur (e : Ep) (j : Nat) (hj : j < e.cur.length) : e.limbo[e.old.length + j]? = some (e.now, rtAt e.cur j) := by
  unfold Ep.limbo
  rw [List.getElem?_append_right (by simp), List.getElem?_map]
  simp [rtAt_mem hj]

abbrev encW (x : Nat × Rt) : Array Value := #[.int .i64 (x.1 : Int), x.2.val]

/-- The cells of one of the lists, and where it is. -/
theorem IsEp.lists {W : World} {B : Nat} {vs : List Value} {e : Ep} (h : IsEp W B vs e) (m : Nat) (hm : e.now = m + 1) :
    ∃ p0 c0 p1 c1, vs.getD (m % 3) vNil = .slice p0 e.old.length c0 ∧ vs.getD (e.now % 3) vNil = .slice p1 e.cur.length c1 ∧
      ∀ W', IsEp W' B vs e → W'.cell? ⟨B, 18 + m % 3, none⟩ = some (.slice p0 e.old.length c0) ∧ W'.cell? ⟨B, 18 + e.now % 3, none⟩ = some (.slice p1 e.cur.length c1) ∧
        (∀ j, j < e.old.length → ∃ g, p0 = some ⟨g, 0, none⟩ ∧ W'.cell? ⟨g, j * 3, none⟩ = some (.int .i64 (rtAt e.old j).k) ∧ W'.cell? ⟨g, j * 3 + 1, none⟩ = some (.int .i64 (rtAt e.old j).s) ∧ W'.cell? ⟨g, j * 3 + 2, none⟩ = some (.int .i64 (rtAt e.old j).g)) ∧
        (∀ j, j < e.cur.length → ∃ g, p1 = some ⟨g, 0, none⟩ ∧ W'.cell? ⟨g, j * 3, none⟩ = some (.int .i64 (rtAt e.cur j).k) ∧ W'.cell? ⟨g, j * 3 + 1, none⟩ = some (.int .i64 (rtAt e.cur j).s) ∧ W'.cell? ⟨g, j * 3 + 2, none⟩ = some (.int .i64 (rtAt e.cur j).g)) := by
  have e3 : (e.now + 2) % 3 = m % 3 := by omega
  have r1 := h.row (m % 3) (by omega)
  have r2 := h.row (e.now % 3) (by omega)
  rw [← e3, Ep.lst_old, e3] at r1
  rw [Ep.lst_cur] at r2
  obtain ⟨p0, c0, h0, -⟩ := r1.form
  obtain ⟨p1, c1, h1, -⟩ := r2.form
  refine ⟨p0, c0, p1, c1, h0, h1, fun W' h' => ?_⟩
  have s1 := h'.row (m % 3) (by omega)
  have s2 := h'.row (e.now % 3) (by omega)
  rw [← e3, Ep.lst_old, e3, h0] at s1
  rw [Ep.lst_cur, h1] at s2
  refine ⟨(h'.cList (m % 3) (by omega)).trans (by rw [h0]), (h'.cList (e.now % 3) (by omega)).trans (by rw [h1]), fun j hj => ?_, fun j hj => ?_⟩
  · obtain ⟨g, c, hg⟩ := s1.has (by omega)
    cases hg
    exact ⟨g, rfl, s1.cell rfl j hj⟩
  · obtain ⟨g, c, hg⟩ := s2.has (by omega)
    cases hg
    exact ⟨g, rfl, s2.cell rfl j hj⟩

theorem take_snoc {α : Type} {L : List α} {k : Nat} {x : α} (h : L[k]? = some x) : L.take (k + 1) = L.take k ++ [x] := by
  rw [List.take_add_one, h]
  rfl

set_option maxHeartbeats 4000000 in
theorem waits1_in (n : Nat) (hn : 1 ≤ n) (l Bw B : Nat) (S : List Nat) (vs : List Value) (e : Ep) (hnow : e.now ≤ 4611686018427387904) (hlen : e.old.length + e.cur.length ≤ 3600000000000)
    (hSb : ∀ b ∈ blocks B vs, b ∈ S) (hSw : Bw ∈ S)
    (J Jx : List (Nat × Rt) → World → Prop)
    (hY : ∀ pre x W, J pre W → pre.length < e.limbo.length → YieldAt Fence.wide (n - 1) Try.prog l (encW x) W fun r W' =>
      (r = .returned (.bool true) ∧ J (pre ++ [x]) W' ∧ KpP S W W') ∨ (r = .returned (.bool false) ∧ Jx (pre ++ [x]) W'))
    (W : World) (hJ : ∀ pre A o, J pre A → J pre (A.alloc o)) (hJd : ∀ pre A k, J pre A → J pre (A.drewN k)) (hS : ∀ x ∈ S, x < W.heap.size)
    (hbx : Bk W Bw 23 #[.pointer (some ⟨B, 0, none⟩)]) (hE : IsEp W B vs e) (h0 : J [] W) :
    CallsIn Fence.wide n Try.prog 45 #[.func (.yield l) #[] #[], .pointer (some ⟨Bw, 0, none⟩)] W fun r W' => (∃ v, r = .returned v) ∧
      ((∃ ys, ys = e.limbo ∧ J ys W') ∨ (∃ pre, pre <+: e.limbo ∧ Jx pre W')) := by
  refine callsIn_of_wp Try.func45 rfl trivial ?_ rfl
  simp only [Try.ntmps45, List.size_toArray, List.length_cons, List.length_nil, Nat.reduceAdd, Nat.reduceSub, Array.replicate_succ, Array.replicate_zero, List.push_toArray, List.append_toArray, List.nil_append, List.cons_append]
  have h1 := hE.n1
  obtain ⟨m, hm⟩ : ∃ m, e.now = m + 1 := ⟨e.now - 1, by omega⟩
  obtain ⟨p0, k0, p1, k1, -, -, hlists⟩ := hE.lists m hm
  have HLS : Hid _ := hlists
  have HM : Hid (e.now = m + 1) := hm
  have HY : Hid _ := hY
  have HJ : Hid (∀ pre A o, J pre A → J pre (A.alloc o)) := hJ
  have HJD : Hid (∀ pre A k, J pre A → J pre (A.drewN k)) := hJd
  have HS : Hid (∀ x ∈ S, x < W.heap.size) := hS
  have HE : Hid (∀ W', KpP S W W' → IsEp W' B vs e ∧ Bk W' Bw 23 #[.pointer (some ⟨B, 0, none⟩)]) := fun W' h => ⟨hE.kp h hSb, h.bk hbx hSw⟩
  have cw : W.cell? ⟨Bw, 0, none⟩ = some (.pointer (some ⟨B, 0, none⟩)) := hbx.cell 0
  have c0 := hE.cNow
  have H0 : Hid (J [] W) := h0
  clear hlists hm hY hJ hJd hS hbx hE h0
  gi_wp2_with fail
  refine ⟨trivial, ?_⟩
  refine (callsIn_wide.2 (made_any c0 h1)).mono ?_
  rintro r w1 ⟨rfl, rfl⟩
  gi_wp2_with fail
  gi_quiet (fail)
  gi_wp2_with fail
  obtain ⟨lo, hlo⟩ : ∃ lo, e.old.length = lo := ⟨_, rfl⟩
  obtain ⟨lc, hlc⟩ : ∃ lc, e.cur.length = lc := ⟨_, rfl⟩
  obtain ⟨n0, hn0⟩ : ∃ n0, e.now = n0 := ⟨_, rfl⟩
  have HLO : Hid (e.old.length = lo) := hlo
  have HLC : Hid (e.cur.length = lc) := hlc
  have HN0 : Hid (e.now = n0) := hn0
  rw [hlo, hlc] at hlen
  rw [hlo, hlc, hn0] at HLS
  rw [hn0] at HM h1 hnow c0
  clear hlo hlc
  simp only [hn0]
  clear hn0
  have hix0 : ∀ (a b : Value) (W : World), (Instr.index 91 (.agg #[a, b]) (.int .i64 0)).run Try.prog W = .ok a W := fun a b W => by kernel_rfl
  have hix1 : ∀ (a b : Value) (W : World), (Instr.index 91 (.agg #[a, b]) (.int .i64 1)).run Try.prog W = .ok b W := fun a b W => by kernel_rfl
  gi_loopw [20] (fun iv wr => (iv = .int .i64 0 ∧ KpP S w1 wr ∧ J [] wr) ∨ (iv = .int .i64 1 ∧ KpP S w1 wr ∧ J (e.limbo.take lo) wr) ∨ (iv = .int .i64 2 ∧ KpP S w1 wr ∧ J (e.limbo.take (lo + lc)) wr)) (fun iv _ => 2 - (intOf iv).toNat)
  case atStart => exact .inl ⟨rfl, fun _ _ => rfl, HJD.out _ _ _ H0.out⟩
  case round =>
    rcases hrel with ⟨rfl, hK, hJ⟩ | ⟨rfl, hK, hJ⟩ | ⟨rfl, hK, hJ⟩
    · have hI := HE.out wr hK
      obtain ⟨x1, x2, x3, x4⟩ := HLS.out wr hI.1
      have cw2 : wr.cell? ⟨Bw, 0, none⟩ = some (.pointer (some ⟨B, 0, none⟩)) := hI.2.cell 0
      clear x2 x3 x4 hI
      gi_wp2_with fail
      refine ⟨trivial, ?_⟩
      refine (callsIn_wide.2 (list_int _ B _ m (by have := HM.out; omega))).mono ?_
      rintro r w2 ⟨rfl, rfl⟩
      gi_wp2_with fail
      clear cw2 x1
      gi_loopw [29] (fun jv wr2 => ∃ j2 : Nat, j2 ≤ lo ∧ jv = .int .i64 j2 ∧ KpP S w1 wr2 ∧ J (e.limbo.take j2) wr2) (fun jv _ => lo - (intOf jv).toNat)
      case atStart => exact ⟨0, Nat.zero_le _, rfl, hK, by simpa using hJ⟩
      case round =>
        obtain ⟨j2, hj2, rfl, hK2, hJ2⟩ := hrel
        by_cases hlt : j2 < lo
        · have hli : (j2 : Int) < (lo : Int) := by omega
          have hI := HE.out _ hK2
          obtain ⟨x1, x2, x3, x4⟩ := HLS.out _ hI.1
          obtain ⟨g, rfl, y0, y1, y2⟩ := x3 j2 hlt
          have hx : e.limbo[j2]? = some (e.now - 1, rtAt e.old j2) := e.limbo_old j2 (by rw [HLO.out]; exact hlt)
          have HT : Hid (e.limbo.take (j2 + 1) = e.limbo.take (j2) ++ [(e.now - 1, rtAt e.old j2)]) := take_snoc hx
          have hlen2 : j2 < e.limbo.length := by rw [Ep.limbo_length, HLO.out, HLC.out]; omega
          clear x1 x2 x3 x4 hx hI
          generalize rtAt e.old j2 = x at *
          obtain ⟨W3, hW3⟩ : ∃ W3, wr.alloc (.cells #[.int .i64 x.k, .int .i64 x.s, .int .i64 x.g] 31) = W3 := ⟨_, rfl⟩
          have hK3 : KpP S w1 W3 := by rw [← hW3]; exact hK2.alloc (hK2.lt HS.out) _
          obtain ⟨fn, tmps, assign, body, hy, hR⟩ := HY.out (e.limbo.take (j2)) (e.now - 1, x) W3 (by rw [← hW3]; exact HJ.out _ _ _ hJ2) (by rw [List.length_take]; omega)
          simp only [encW, Rt.val] at hy
          rw [show ((e.now - 1 : Nat) : Int) = (n0 : Int) - 1 by rw [HN0.out]; omega] at hy
          have kb : Bk W3 wr.heap.size 31 #[.int .i64 x.k, .int .i64 x.s, .int .i64 x.g] := by rw [← hW3]; exact Bk.new _ _ _
          have d0 : W3.cell? ⟨wr.heap.size, 0, none⟩ = some (.int .i64 x.k) := kb.cell 0
          have d1 : W3.cell? ⟨wr.heap.size, 1, none⟩ = some (.int .i64 x.s) := kb.cell 1
          have d2 : W3.cell? ⟨wr.heap.size, 2, none⟩ = some (.int .i64 x.g) := kb.cell 2
          clear kb
          gi_wp2
          refine hR.mono ?_
          rintro r W4 (⟨rfl, hJ4, hk4⟩ | ⟨rfl, hJx4⟩)
          · gi_wp2
            go_roundw
            case rel => exact ⟨j2 + 1, by omega, by go_num, hK3.t hk4, by rw [show (j2 + 1) = j2 + 1 by omega, HT.out]; exact hJ4⟩
            case measure => simp [intOf]; omega
          · gi_wp2
            refine bodyPost_ret (results_none rfl _ _ _) rfl ?_
            exact ⟨⟨_, rfl⟩, .inr ⟨_, by rw [← HT.out]; exact List.take_prefix _ _, hJx4⟩⟩
        · obtain rfl : j2 = lo := by omega
          gi_wp2
          go_roundw
          case rel => exact .inr (.inl ⟨by go_num, hK2, hJ2⟩)
          case measure => simp [intOf]
    · have hI := HE.out wr hK
      obtain ⟨x1, x2, x3, x4⟩ := HLS.out wr hI.1
      have cw2 : wr.cell? ⟨Bw, 0, none⟩ = some (.pointer (some ⟨B, 0, none⟩)) := hI.2.cell 0
      clear x1 x3 x4 hI
      gi_wp2_with fail
      refine ⟨trivial, ?_⟩
      refine (callsIn_wide.2 (list_int _ B _ n0 rfl)).mono ?_
      rintro r w2 ⟨rfl, rfl⟩
      gi_wp2_with fail
      clear cw2 x2
      gi_loopw [29] (fun jv wr2 => ∃ j2 : Nat, j2 ≤ lc ∧ jv = .int .i64 j2 ∧ KpP S w1 wr2 ∧ J (e.limbo.take (lo + j2)) wr2) (fun jv _ => lc - (intOf jv).toNat)
      case atStart => exact ⟨0, Nat.zero_le _, rfl, hK, hJ⟩
      case round =>
        obtain ⟨j2, hj2, rfl, hK2, hJ2⟩ := hrel
        by_cases hlt : j2 < lc
        · have hli : (j2 : Int) < (lc : Int) := by omega
          have hI := HE.out _ hK2
          obtain ⟨x1, x2, x3, x4⟩ := HLS.out _ hI.1
          obtain ⟨g, rfl, y0, y1, y2⟩ := x4 j2 hlt
          have hx : e.limbo[lo + j2]? = some (e.now, rtAt e.cur j2) := by rw [← HLO.out]; exact e.limbo_cur j2 (by rw [HLC.out]; exact hlt)
          have HT : Hid (e.limbo.take (lo + j2 + 1) = e.limbo.take (lo + j2) ++ [(e.now, rtAt e.cur j2)]) := take_snoc hx
          have hlen2 : lo + j2 < e.limbo.length := by rw [Ep.limbo_length, HLO.out, HLC.out]; omega
          clear x1 x2 x3 x4 hx hI
          generalize rtAt e.cur j2 = x at *
          obtain ⟨W3, hW3⟩ : ∃ W3, wr.alloc (.cells #[.int .i64 x.k, .int .i64 x.s, .int .i64 x.g] 31) = W3 := ⟨_, rfl⟩
          have hK3 : KpP S w1 W3 := by rw [← hW3]; exact hK2.alloc (hK2.lt HS.out) _
          obtain ⟨fn, tmps, assign, body, hy, hR⟩ := HY.out (e.limbo.take (lo + j2)) (e.now, x) W3 (by rw [← hW3]; exact HJ.out _ _ _ hJ2) (by rw [List.length_take]; omega)
          simp only [encW, Rt.val] at hy
          rw [show ((e.now : Nat) : Int) = (n0 : Int) by rw [HN0.out]] at hy
          have kb : Bk W3 wr.heap.size 31 #[.int .i64 x.k, .int .i64 x.s, .int .i64 x.g] := by rw [← hW3]; exact Bk.new _ _ _
          have d0 : W3.cell? ⟨wr.heap.size, 0, none⟩ = some (.int .i64 x.k) := kb.cell 0
          have d1 : W3.cell? ⟨wr.heap.size, 1, none⟩ = some (.int .i64 x.s) := kb.cell 1
          have d2 : W3.cell? ⟨wr.heap.size, 2, none⟩ = some (.int .i64 x.g) := kb.cell 2
          clear kb
          gi_wp2
          refine hR.mono ?_
          rintro r W4 (⟨rfl, hJ4, hk4⟩ | ⟨rfl, hJx4⟩)
          · gi_wp2
            go_roundw
            case rel => exact ⟨j2 + 1, by omega, by go_num, hK3.t hk4, by rw [show lo + (j2 + 1) = lo + j2 + 1 by omega, HT.out]; exact hJ4⟩
            case measure => simp [intOf]; omega
          · gi_wp2
            refine bodyPost_ret (results_none rfl _ _ _) rfl ?_
            exact ⟨⟨_, rfl⟩, .inr ⟨_, by rw [← HT.out]; exact List.take_prefix _ _, hJx4⟩⟩
        · obtain rfl : j2 = lc := by omega
          gi_wp2
          go_roundw
          case rel => exact .inr (.inr ⟨by go_num, hK2, hJ2⟩)
          case measure => simp [intOf]
    · gi_wp2
      go_end0
      refine ⟨⟨_, rfl⟩, .inl ⟨_, rfl, ?_⟩⟩
      rw [List.take_of_length_le (by rw [Ep.limbo_length, HLO.out, HLC.out]; exact Nat.le_refl _)] at hJ
      exact hJ
end Go.Proofs.Ytndmcjkbbedoeaa
