/- Was all that waits retired in this epoch or the one ahead of it? -/
import Derived.Test.YtndmcjkbbedoeaaEpLt
namespace Go.Proofs.Ytndmcjkbbedoeaa
open Go.RowKit Go.Shelf
attribute [local go_sem] Oper.semAt_some
set_option linter.unusedVariables false
set_option maxRecDepth 100000

theorem Ep.limbo_ok {e : Ep} (h : 1 ≤ e.now) : ∀ x ∈ e.limbo, x.1 = e.now ∨ x.1 + 1 = e.now := by
  intro x hx
  rcases List.mem_append.1 hx with hx | hx
  · obtain ⟨y, _, rfl⟩ := List.mem_map.1 hx
    exact .inr (by show e.now - 1 + 1 = e.now; omega)
  · obtain ⟨y, _, rfl⟩ := List.mem_map.1 hx
    exact .inl rfl

/-- Between the rounds. -/
structure Yg (w W : World) (p : Option Addr) (k : Nat) : Prop where
  b0 : Boxed W w.heap.size 23 (.pointer p)
  b1 : Boxed W (w.heap.size + 1) 4 (.bool false)
  b2 : Boxed W (w.heap.size + 1 + 1) 3 (.int .i64 (k : Int))
  below : Below w.heap.size w W

theorem Yg.abides {w W W' : World} {p : Option Addr} {k : Nat} {row : Option Nat} {m : Nat} (h : Yg w W p k) (hm : w.heap.size ≤ m) (hg : W.grownBy W' row) (hr : ∀ r, row = some r → m ≤ r ∧ ∃ o : Obj, W.heap[r]? = some o ∧ o.isCells = false) : Yg w W' p k where
  b0 := boxed_from h.b0 hg hr
  b1 := boxed_from h.b1 hg hr
  b2 := boxed_from h.b2 hg hr
  below := h.below.grown hg h.below.size (fun k hk => by have := (hr k hk).1; omega)

theorem Yg.lower {w W W' : World} {p : Option Addr} {k : Nat} (h : Yg w W p k) (hb : Below (w.heap.size + 3) W W') : Yg w W' p k where
  b0 := Bk.below (show Bk W _ _ _ from h.b0) hb (by omega)
  b1 := Bk.below (show Bk W _ _ _ from h.b1) hb (by omega)
  b2 := Bk.below (show Bk W _ _ _ from h.b2) hb (by omega)
  below := h.below.trans (hb.mono (by omega))

theorem res_true {W W' : World} {b D : Nat} {u : Value} (h1 : Boxed W b 4 u) (hW' : W'.heap = (W.setCell ⟨b, 0, none⟩ (.bool true)).heap) (hD : D ≠ b) : (W'.putObj D (.deferred none)).cell? ⟨b, 0, none⟩ = some (.bool true) := by
  have h2 : Bk (W.setCell ⟨b, 0, none⟩ (.bool true)) b 4 #[.bool true] := Bk.set (show Bk W b _ _ from h1) 0 (.bool true)
  have h3 : Bk W' b 4 #[.bool true] := by unfold Bk; rw [hW']; exact h2
  have h4 : Bk (W'.putObj D (.deferred none)) b 4 #[.bool true] := (World.putObj_heap_other (fun e => hD e.symm)).trans h3
  exact h4.cell 0

theorem res_below {w W W' : World} {b D : Nat} (h : Below w.heap.size w W) (hb : w.heap.size ≤ b) (hD : w.heap.size ≤ D) (h1 : W'.os = W.os) (h2 : W'.tape = W.tape) (h3 : W'.output = W.output) (hW' : W'.heap = (W.setCell ⟨b, 0, none⟩ (.bool true)).heap) : Below w.heap.size w (W'.putObj D (.deferred none)) := by
  have hs : (W.setCell ⟨b, 0, none⟩ (.bool true)).heap.size = W.heap.size := by simp [World.setCell]
  refine h.trans ⟨h1, h2, h3, ?_, fun k hk => ?_⟩
  · simp [hW', hs]
  · refine (World.putObj_heap_other (by omega)).trans ?_
    rw [hW']
    exact Below.heap_setCell _ _ _ _ (by simp; omega)

set_option maxHeartbeats 4000000 in
theorem young_any {w : World} {B : Nat} {bs : List Nat} {e : Ep} (h : Epn w B bs e) (hnow : e.now ≤ 4611686018427387904) (hlen : e.old.length + e.cur.length ≤ 3600000000000) :
    Calls Try.prog 19 #[.pointer (some ⟨B, 0, none⟩)] w fun r w' => r = .returned (.bool true) ∧ Below w.heap.size w w' := by
  obtain ⟨vs, rfl, h⟩ := h
  refine (callsIn_wide (n := 9)).1 ?_
  refine callsIn_of_wp_marks Try.func19 rfl trivial ?_ rfl
  simp only [Try.ntmps19, List.size_toArray, List.length_cons, List.length_nil, Nat.reduceAdd, Nat.reduceSub, Array.replicate_succ, Array.replicate_zero, List.push_toArray, List.append_toArray, List.nil_append, List.cons_append]
  have HE : Hid (∀ W, Below w.heap.size w W → IsEp W B vs e) := fun W hb => h.tn (Tn.of_below hb []) (by simp)
  have HB : Hid (e.now ≤ 4611686018427387904 ∧ e.old.length + e.cur.length ≤ 3600000000000) := ⟨hnow, hlen⟩
  have HOK : Hid (∀ x ∈ e.limbo, x.1 = e.now ∨ x.1 + 1 = e.now) := Ep.limbo_ok h.n1
  have hn1 := h.n1
  clear h hlen
  gi_wp2_with fail
  refine ⟨trivial, ?_⟩
  obtain ⟨w1, hw1, hb1, hs1, k0, k1, k2⟩ := young_start w (some ⟨B, 0, none⟩)
  rw [hw1]
  have hY1 : Yg w w1 (some ⟨B, 0, none⟩) 0 := ⟨k0, k1, k2, hb1⟩
  refine (callsIn_wide.2 (limbo_any (HE.out w1 hb1) HB.out.1 HB.out.2)).mono ?_
  rintro r w2 ⟨rfl, v1, v2, hL⟩
  have hY2 : Yg w w2 (some ⟨B, 0, none⟩) 0 := hY1.lower (by rw [← hs1]; exact hL.below)
  have hlim := hL.lim (by rw [Ep.limbo_length]; exact HB.out.2)
  have HLOW : Hid (∀ b ∈ Lm.bs w1 v1 v2, w.heap.size + 3 ≤ b) := fun b hb => by have := hL.low b hb; omega
  have hs2 := hL.size
  clear hw1 k0 k1 k2 hY1 hL hb1
  have hs3 : w.heap.size + 8 ≤ w2.heap.size := by omega
  generalize w1.heap.size + 1 = y1 at *
  generalize w1.heap.size + 3 = y3 at *
  generalize Lm.bs w1 v1 v2 = S at *
  clear hs1 hs2
  gi_wp2_with fail
  refine wpIn_rangeFunc_ownF rfl (by omega) (gf := 38) (lb := #[.pointer (some ⟨y1, 0, none⟩), .pointer (some ⟨y3, 0, none⟩)]) rfl trivial (enters_of Try.func38 (by kernel_rfl) rfl)
    (lim_stops 8 (by omega) hlim) KpP.t (fun W l o o' hl _ _ _ k hk => World.putObj_heap_other (fun e => by
      subst e
      have := hlim.lt _ hk
      omega)) (Below.refl _ _) (fun _ => rfl)
    (fun pre W => Yg w W (some ⟨B, 0, none⟩) pre.length)
    (fun cc pre W => (cc = .ret ∧ Boxed W (w.heap.size + 1) 4 (.bool false) ∧ ∃ x ∈ pre, ¬ (x.1 = e.now ∨ x.1 + 1 = e.now)) ∧ Below w.heap.size w W)
    (fun s A B' row hs hg hr => hs.abides (m := w2.heap.size) (by omega) hg hr)
    (fun cc s A B row hs hg hr => ⟨⟨hs.1.1, boxed_from hs.1.2.1 hg hr, hs.1.2.2⟩, hs.2.grown hg hs.2.size (fun k hk => by have := (hr k hk).1; omega)⟩)
    hY2
    (fun x => { tmps := #[.pointer (some ⟨B, 0, none⟩), .pointer (some ⟨w.heap.size, 0, none⟩), .pointer (some ⟨w.heap.size + 1, 0, none⟩), .pointer (some ⟨w.heap.size + 1 + 1, 0, none⟩), .int .i64 (x.1 : Int), .pointer (some ⟨B, 0, none⟩), .func (.func 38) #[] #[.pointer (some ⟨y1, 0, none⟩), .pointer (some ⟨y3, 0, none⟩)], .int .i64 (x.1 : Int), x.2.val, undef, undef, undef, undef, undef, undef, undef, undef, undef, undef, undef, undef, undef, undef, undef, undef, undef], defers := [] }) ?assign ?body ?done ?stop
  case assign =>
    intro l x W K hK
    gi_wp2
    exact hK
  case stop =>
    rintro D cc pre W hD hpre ⟨⟨rfl, hbx, y, hy, hn⟩, hB⟩ hK
    exact absurd (HOK.out y (hpre.subset hy)) hn
  case body =>
    rintro l pre x W hYg hpre
    have HY : Hid (Yg w W (some ⟨B, 0, none⟩) pre.length) := hYg
    have c0 := hYg.b0.cell
    have c1 := hYg.b1.cell
    have c2 := hYg.b2.cell
    have f1 := hYg.b1.frozen
    have f2 := hYg.b2.frozen
    have d0 := (HE.out W hYg.below).cNow
    have hlb : pre.length ≤ 3600000000000 := by have := HB.out.2; rw [Ep.limbo_length] at hpre; omega
    have HFIN : Hid (∀ v, Below w.heap.size w (W.setCell ⟨w.heap.size + 1 + 1, 0, none⟩ v) ∧ KpP S W (W.setCell ⟨w.heap.size + 1 + 1, 0, none⟩ v)) := fun v => ⟨hYg.below.setCell (p := ⟨w.heap.size + 1 + 1, 0, none⟩) (by simp; omega) _, fun k hk => Below.heap_setCell _ _ _ _ (by have := HLOW.out k hk; simp; omega)⟩
    clear hYg hpre
    obtain ⟨N, hN⟩ : ∃ N, pre.length = N := ⟨_, rfl⟩
    have HN : Hid ((pre ++ [x]).length = N + 1) := by rw [Hid, List.length_append, hN]; rfl
    rw [hN] at HY c2 hlb
    clear hN
    obtain ⟨n, hn⟩ : ∃ n, e.now = n := ⟨_, rfl⟩
    have HX : Hid (¬ (x.1 = n ∨ x.1 + 1 = n) → ∃ y ∈ pre ++ [x], ¬ (y.1 = e.now ∨ y.1 + 1 = e.now)) := fun h => ⟨x, by simp, by rw [hn]; exact h⟩
    rw [hn] at d0 hn1 hnow
    clear hn
    by_cases hx : x.1 = n
    · have hxi : (x.1 : Int) = (n : Int) := by omega
      rw [hxi]
      clear hx hxi
      have hb : ((n : Int) != (n : Int)) = false := by simp
      gi_wp2_with fail
      refine ⟨trivial, ?_⟩
      refine (CallsIn.inRound l (callsIn_wide.2 (now_any d0 hn1))).mono ?_
      rintro r w5 ⟨rfl, rfl⟩
      gi_wp2_with fail
      refine ⟨trivial, ?_⟩
      gi_wp2
      refine ⟨KeepsOthers.setCell _ _ _, (HFIN.out _).2, ?_⟩
      show Yg w _ _ (pre ++ [x]).length
      rw [HN.out]
      exact ⟨HY.out.b0.other (by omega) _, HY.out.b1.other (by omega) _, by rw [show ((N + 1 : Nat) : Int) = (N : Int) + 1 by simp]; exact HY.out.b2.set _, (HFIN.out _).1⟩
    · by_cases hx2 : x.1 + 1 = n
      · have hxi : (x.1 : Int) = (n : Int) - 1 := by omega
        rw [hxi]
        clear hx hx2 hxi
        have hb : ((n : Int) - 1 != (n : Int)) = true := by simp; omega
        have hb2 : ((n : Int) - 1 != (n : Int) - 1) = false := by simp
        gi_wp2_with fail
        refine ⟨trivial, ?_⟩
        refine (CallsIn.inRound l (callsIn_wide.2 (now_any d0 hn1))).mono ?_
        rintro r w5 ⟨rfl, rfl⟩
        gi_wp2_with fail
        refine ⟨trivial, ?_⟩
        refine (CallsIn.inRound l (callsIn_wide.2 (now_any d0 hn1))).mono ?_
        rintro r w5 ⟨rfl, rfl⟩
        gi_wp2
        refine ⟨KeepsOthers.setCell _ _ _, (HFIN.out _).2, ?_⟩
        show Yg w _ _ (pre ++ [x]).length
        rw [HN.out]
        exact ⟨HY.out.b0.other (by omega) _, HY.out.b1.other (by omega) _, by rw [show ((N + 1 : Nat) : Int) = (N : Int) + 1 by simp]; exact HY.out.b2.set _, (HFIN.out _).1⟩
      · have HP := HX.out (fun h => h.elim hx hx2)
        have hb : ((x.1 : Int) != (n : Int)) = true := by simp; omega
        have hb2 : ((x.1 : Int) != (n : Int) - 1) = true := by simp; omega
        clear hx hx2
        generalize (x.1 : Int) = xi at *
        gi_wp2_with fail
        refine ⟨trivial, ?_⟩
        refine (CallsIn.inRound l (callsIn_wide.2 (now_any d0 hn1))).mono ?_
        rintro r w5 ⟨rfl, rfl⟩
        gi_wp2_with fail
        refine ⟨trivial, ?_⟩
        refine (CallsIn.inRound l (callsIn_wide.2 (now_any d0 hn1))).mono ?_
        rintro r w5 ⟨rfl, rfl⟩
        gi_wp2
        exact ⟨KeepsOthers.setCell _ _ _, ⟨rfl, HY.out.b1.set _, HP⟩, HY.out.below.setCell (p := ⟨w.heap.size + 1, 0, none⟩) (by simp) _⟩
  case done =>
    rintro D zs W hD rfl hYg hK
    have HY : Hid (Yg w W (some ⟨B, 0, none⟩) e.limbo.length) := hYg
    have c0 := hYg.b0.cell
    have c1 := hYg.b1.cell
    have c2 := hYg.b2.cell
    have f1 := hYg.b1.frozen
    have HW : Hid (∀ k, IsEp (W.drewN k) B vs e) := fun k => (HE.out W hYg.below).tn (tn_drewN _ _) (by simp)
    have hDn : D ≠ w.heap.size + 1 := by omega
    have hD2 : w.heap.size ≤ D := by omega
    have hmix : Try.prog.follows .mixedOrders = true := by kernel_rfl
    rw [Ep.limbo_length] at c2
    clear hYg
    gi_wp2_with fail
    first | gi_region_with_o (refine ⟨trivial, ?_⟩; refine (callsIn_wide.2 (waiting_any (HW.out 1) HB.out.1 HB.out.2)).mono ?_; rintro e w5 ⟨rfl, k5, rfl⟩) | fail
    all_goals gi_wp2
    all_goals
      refine ⟨by simp, .inl ⟨_, _, rfl, run_takeDeferred ((Below.heap_setCell _ _ _ _ (by simpa using hDn)).trans hK), ?_⟩⟩
      refine ⟨.bool true, ?_, rfl, ?_⟩
      · have c3 := res_true (W' := (W.drewN (1 + k5)).setCell ⟨w.heap.size + 1, 0, none⟩ (.bool true)) HY.out.b1 rfl hDn
        simp [results, Try.f19, go_sem, c3]
      · exact res_below (b := w.heap.size + 1) HY.out.below (by omega) hD2 rfl rfl rfl rfl
end Go.Proofs.Ytndmcjkbbedoeaa
