/- The live pages are told, as long as some blocks lie as they lay. -/
import Derived.Test.YtnjafmjkaajbkaaDoorTbR
import Derived.Test.YtnjafmjkaajbkaaDoorItG
namespace Go.Proofs.YtnjafmjkaajbkaaDoor
open Go.RowKit Go.Shelf
attribute [local go_sem] Oper.semAt_some
set_option linter.unusedVariables false
set_option maxRecDepth 100000

/-- The live ones of the first j pages, with their heads. -/
def lv (us : List Pa) (j : Nat) : List (Nat × (Int × Int)) := (List.range j).filterMap fun i => (us.getD i Pa.free).hd.map fun x => (i, x)
theorem lv_succ (us : List Pa) (j : Nat) : lv us (j + 1) = lv us j ++ ((us.getD j Pa.free).hd.map fun x => (j, x)).toList := by
  unfold lv
  rw [List.range_succ, List.filterMap_append]
  congr 1
theorem lv_live {us : List Pa} {j c : Nat} {x : Int × Int} {m : Int} (h : us[j]? = some (Pa.live c x m)) : lv us (j + 1) = lv us j ++ [(j, x)] := by
  rw [lv_succ]
  simp [List.getD, h, Pa.hd]
theorem lv_none {us : List Pa} {j : Nat} {p : Pa} (h : us[j]? = some p) (hp : p.hd = none) : lv us (j + 1) = lv us j := by
  rw [lv_succ]
  simp [List.getD, h, hp]
theorem lv_prefix (us : List Pa) {j k : Nat} (h : j ≤ k) : lv us j <+: lv us k := by
  induction k with
  | zero => obtain rfl : j = 0 := by omega
            exact List.prefix_refl _
  | succ k ih =>
    by_cases hj : j = k + 1
    · subst hj; exact List.prefix_refl _
    · rw [lv_succ]
      exact (ih (by omega)).trans (List.prefix_append _ _)
theorem lv_le (us : List Pa) (j : Nat) : (lv us j).length ≤ j := by
  unfold lv
  exact Nat.le_trans (List.length_filterMap_le _ _) (by simp)

theorem owns_kp {S : List Nat} {w w' : World} {base size n : Nat} {e : TypeId} {v : Value} {xs : List Value} (h : w.ownsRow base e size v n xs) (ht : KpP S w w') (hn : ∀ k, v.ownBlock = some k → k ∈ S) : w'.ownsRow base e size v n xs := by
  refine ⟨h.1, ?_⟩
  rcases h.2 with hv | ⟨g, cap, cur, rfl, hb, hgg, rest⟩
  · exact .inl hv
  · exact .inr ⟨g, cap, cur, rfl, hb, (ht g (hn g rfl)).trans hgg, rest⟩
theorem Rw.kp {S : List Nat} {w w' : World} {B : Nat} {uv wv : Value} {size : Int} {us : List Pa} {ws : List Nat} {many gone missed : Int} (h : Rw w B uv wv size us ws many gone missed) (ht : KpP S w w') (hS : ∀ b ∈ bsT B uv wv us, b ∈ S) : Rw w' B uv wv size us ws many gone missed :=
  { blk := ht.bk h.blk (hS B (mem_bsT.2 (.inl rfl)))
    row := owns_kp h.row ht (fun k hk => hS k (mem_bsT.2 (.inr (.inl hk))))
    wrd := owns_kp h.wrd ht (fun k hk => hS k (mem_bsT.2 (.inr (.inr (.inl hk)))))
    cel := fun i c x n hi => ht.bk (h.cel i c x n hi) (hS c (mem_bsT.2 (.inr (.inr (.inr ⟨i, x, n, hi⟩)))))
    dis := h.dis }

abbrev encP (x : Nat × (Int × Int)) : Array Value := #[.int .i64 (x.1 : Int), hv x.2]

theorem below_grown {A A' : World} (h : Below A.heap.size A A') : A.grownBy A' none := ⟨h.os, h.tape, h.output, h.size, fun k hk _ => h.block k hk⟩

set_option maxHeartbeats 4000000 in
theorem live1_in (n : Nat) (hn : 1 ≤ n) (l Bw B : Nat) (S : List Nat) (uv wv : Value) (size : Int) (us : List Pa) (ws : List Nat) (many gone missed : Int) (hs : 0 < size) (hlen : us.length ≤ 65536)
    (hSb : ∀ b ∈ bsT B uv wv us, b ∈ S) (hSw : Bw ∈ S) (J Jx : List (Nat × (Int × Int)) → World → Prop)
    (hY : ∀ pre x W, J pre W → pre.length < (lv us us.length).length → YieldAt Fence.wide (n - 1) Tryd.prog l (encP x) W fun r W' =>
      (r = .returned (.bool true) ∧ J (pre ++ [x]) W' ∧ KpP S W W') ∨ (r = .returned (.bool false) ∧ Jx (pre ++ [x]) W'))
    (W : World) (hJ : ∀ pre A A', J pre A → A.grownBy A' none → J pre A') (hS : ∀ x ∈ S, x < W.heap.size)
    (hbx : Bk W Bw 23 #[.pointer (some ⟨B, 0, none⟩)]) (hE : Rw W B uv wv size us ws many gone missed) (h0 : J [] W) :
    CallsIn Fence.wide n Tryd.prog 58 #[.func (.yield l) #[] #[], .pointer (some ⟨Bw, 0, none⟩)] W fun r W' => (∃ v, r = .returned v) ∧
      ((∃ ys, ys = lv us us.length ∧ J ys W') ∨ (∃ pre, pre <+: lv us us.length ∧ Jx pre W')) := by
  refine callsIn_of_wp Tryd.func58 rfl trivial ?_ rfl
  simp only [Tryd.ntmps58, List.size_toArray, List.length_cons, List.length_nil, Nat.reduceAdd, Nat.reduceSub, Array.replicate_succ, Array.replicate_zero, List.push_toArray, List.append_toArray, List.nil_append, List.cons_append]
  have cw : W.cell? ⟨Bw, 0, none⟩ = some (.pointer (some ⟨B, 0, none⟩)) := hbx.cell 0
  obtain ⟨c0, c1, -⟩ := hE.cells
  obtain ⟨pu, cap, huv, -⟩ := row_form hE.row
  obtain ⟨len, hul⟩ : ∃ len, us.length = len := ⟨_, rfl⟩
  have HE : Hid (∀ W', KpP S W W' → Rw W' B uv wv size us ws many gone missed) := fun W' h => hE.kp h hSb
  have HY : Hid _ := hY
  have HJ : Hid (∀ pre A A', J pre A → A.grownBy A' none → J pre A') := hJ
  have HS : Hid (∀ x ∈ S, x < W.heap.size) := hS
  have H0 : Hid (J [] W) := h0
  have HU : Hid (us.length = len) := hul
  subst huv
  rw [hul] at c1 hlen
  clear hY hJ hS hbx hE h0 hul hSb
  gi_wp2_with fail
  refine ⟨trivial, ?_⟩
  refine (callsIn_wide.2 (tmade_any c0 hs)).mono ?_
  rintro r w1 ⟨rfl, rfl⟩
  gi_wp2_with fail
  gi_loopw [15] (fun iv wr => ∃ j : Nat, j ≤ len ∧ iv = .int .i64 j ∧ KpP S w1 wr ∧ J (lv us j) wr) (fun iv _ => len - (intOf iv).toNat)
  case atStart => exact ⟨0, Nat.zero_le _, rfl, fun _ _ => rfl, by exact H0.out⟩
  case round =>
    obtain ⟨j, hj, rfl, hK, hJ⟩ := hrel
    by_cases hlt : j < len
    · have hli : (j : Int) < (len : Int) := by omega
      have h0i : (0 : Int) ≤ (j : Int) := by omega
      have hjl : j < us.length := by rw [HU.out]; exact hlt
      obtain ⟨p, hp⟩ : ∃ p, us[j]? = some p := ⟨_, List.getElem?_eq_getElem hjl⟩
      have hR := HE.out wr hK
      obtain ⟨g, cg, hug, -, e0, e1, -⟩ := hR.entry hp
      have hug' : pu = some ⟨g, 0, none⟩ := by injection hug
      subst hug'
      by_cases hlv : ∃ c x m, p = Pa.live c x m
      · obtain ⟨c, x, m, rfl⟩ := hlv
        have e0' : wr.cell? ⟨g, j * 2, none⟩ = some (.int .i64 1) := e0
        have e1' : wr.cell? ⟨g, j * 2 + 1, none⟩ = some (.pointer (some ⟨c, 0, none⟩)) := e1
        have HT : Hid (lv us (j + 1) = lv us j ++ [(j, x)]) := lv_live hp
        have HP : Hid (lv us (j + 1) <+: lv us us.length ∧ (lv us j).length < (lv us us.length).length) := by
          have h1 := lv_prefix us (show j + 1 ≤ us.length by omega)
          refine ⟨h1, ?_⟩
          have h2 := h1.length_le
          rw [lv_live hp, List.length_append] at h2
          simp at h2
          omega
        obtain ⟨W3, hW3⟩ : ∃ W3, wr.alloc (.cells #[.int .i64 1, .pointer (some ⟨c, 0, none⟩)] 80) = W3 := ⟨_, rfl⟩
        have b3 : Below wr.heap.size wr W3 := by rw [← hW3]; exact (Below.refl _ wr).alloc (Nat.le_refl _) _
        have k3 : Bk W3 wr.heap.size 80 #[.int .i64 1, .pointer (some ⟨c, 0, none⟩)] := by rw [← hW3]; exact Bk.new _ _ _
        have d0 : W3.cell? ⟨wr.heap.size, 0, none⟩ = some (.int .i64 1) := k3.cell 0
        have d1 : W3.cell? ⟨wr.heap.size, 1, none⟩ = some (.pointer (some ⟨c, 0, none⟩)) := k3.cell 1
        have HC3 : Hid (Ce W3 c x m) := (hR.cel j c x m hp).below b3 (hR.cel j c x m hp).lt
        have HB3 : Hid (Below wr.heap.size wr W3) := b3
        clear hR e0 e1 hp k3 b3 hug
        gi_wp2_with fail
        refine ⟨trivial, ?_⟩
        refine (callsIn_wide.2 (cload_any HC3.out)).mono ?_
        rintro r w4 ⟨rfl, b4⟩
        obtain ⟨W5, hW5⟩ : ∃ W5, w4.alloc (.cells #[.int .i64 x.1, .int .i64 x.2] 32) = W5 := ⟨_, rfl⟩
        have b5 : Below wr.heap.size wr W5 := by
          have h1 := HB3.out.trans (b4.mono HB3.out.size)
          rw [← hW5]
          exact h1.alloc h1.size _
        have k5 : Bk W5 w4.heap.size 32 #[.int .i64 x.1, .int .i64 x.2] := by rw [← hW5]; exact Bk.new _ _ _
        have f0 : W5.cell? ⟨w4.heap.size, 0, none⟩ = some (.int .i64 x.1) := k5.cell 0
        have f1 : W5.cell? ⟨w4.heap.size, 1, none⟩ = some (.int .i64 x.2) := k5.cell 1
        have hK5 : KpP S w1 W5 := hK.t (KpP.of_below b5 (hK.lt HS.out))
        obtain ⟨fn, tmps, assign, body, hy, hR⟩ := HY.out (lv us j) (j, x) W5 (HJ.out _ _ _ hJ (below_grown b5)) HP.out.2
        simp only [encP] at hy
        clear k5 b4 b5
        gi_wp2
        refine hR.mono ?_
        rintro r W6 (⟨rfl, hJ6, hk6⟩ | ⟨rfl, hJx6⟩)
        · gi_wp2
          go_roundw
          case rel => exact ⟨j + 1, by omega, by go_num, hK5.t hk6, by rw [HT.out]; exact hJ6⟩
          case measure => simp [intOf]; omega
        · gi_wp2
          refine bodyPost_ret (results_none rfl _ _ _) rfl ?_
          exact ⟨⟨_, rfl⟩, .inr ⟨_, by rw [← HT.out]; exact HP.out.1, hJx6⟩⟩
      · have hst : ¬ p.st = 1 := fun e => hlv (Pa.st1.1 e)
        have hhd : p.hd = none := by
          rcases p with ⟨_ | _ | ⟨a, b, d⟩⟩
          · rfl
          · rfl
          · exact absurd ⟨a, b, d, rfl⟩ hlv
        have HT : Hid (lv us (j + 1) = lv us j) := lv_none hp hhd
        generalize p.st = s at *
        generalize p.ptr = q at *
        obtain ⟨W3, hW3⟩ : ∃ W3, wr.alloc (.cells #[.int .i64 s, .pointer q] 80) = W3 := ⟨_, rfl⟩
        have b3 : Below wr.heap.size wr W3 := by rw [← hW3]; exact (Below.refl _ wr).alloc (Nat.le_refl _) _
        have k3 : Bk W3 wr.heap.size 80 #[.int .i64 s, .pointer q] := by rw [← hW3]; exact Bk.new _ _ _
        have d0 : W3.cell? ⟨wr.heap.size, 0, none⟩ = some (.int .i64 s) := k3.cell 0
        have HN : Hid (KpP S w1 W3 ∧ J (lv us (j + 1)) W3) := ⟨hK.t (KpP.of_below b3 (hK.lt HS.out)), by rw [HT.out]; exact HJ.out _ _ _ hJ (below_grown b3)⟩
        clear hR hp k3 b3 hlv hhd hug hK hJ
        gi_wp2
        go_roundw
        case rel => exact ⟨j + 1, by omega, by go_num, HN.out.1, HN.out.2⟩
        case measure => simp [intOf]; omega
    · obtain rfl : j = len := by omega
      gi_wp2
      go_end0
      refine ⟨⟨_, rfl⟩, .inl ⟨_, rfl, ?_⟩⟩
      rw [HU.out]
      exact hJ

theorem live_stops (n : Nat) (hn : 1 ≤ n) {w : World} {B Bw : Nat} {uv wv : Value} {size : Int} {us : List Pa} {ws : List Nat} {many gone missed : Int} {S : List Nat} (hs : 0 < size) (hlen : us.length ≤ 65536)
    (hSb : ∀ b ∈ bsT B uv wv us, b ∈ S) (hSw : Bw ∈ S) (hS : ∀ x ∈ S, x < w.heap.size) (hbx : Bk w Bw 23 #[.pointer (some ⟨B, 0, none⟩)]) (hE : Rw w B uv wv size us ws many gone missed) :
    SeqStopsK Fence.wide n Tryd.prog 58 #[.pointer (some ⟨Bw, 0, none⟩)] encP (KpP S) (fun ys => ys = lv us us.length) (fun pre => pre <+: lv us us.length) (lv us us.length).length w := fun l J Jx W hW hJ _ hY h0 =>
  live1_in n hn l Bw B S uv wv size us ws many gone missed hs hlen hSb hSw J Jx hY W (fun pre A A' h hg => hJ pre A A' none h hg (fun r e => by cases e)) (fun x hx => Nat.lt_of_lt_of_le (hS x hx) hW.size) (hbx.below hW hbx.lt) (hE.kp (S := S) (KpP.of_below hW hS) hSb) h0
end Go.Proofs.YtnjafmjkaajbkaaDoor
