/- The handle that an operation means. -/
import Derived.Test.YtfbmbjbokmomhaaArPw
namespace Go.Proofs.Ytfbmbjbokmomhaa
open Go.RowKit
set_option linter.unusedVariables false
set_option maxRecDepth 100000

theorem results_h1 {fn : Func} {t : Tmp} (h : fn.results = #[.cell t 36]) {tmps : Array Value} {w : World} {b : Nat} (ht : tmps.getD t undef = .pointer (some ⟨b, 0, none⟩)) {s g : Int} (hk : Bk w b 36 #[.int .i64 s, .int .i64 g]) :
    (results fn tmps).run Try.prog w = .ok (.agg #[.int .i64 s, .int .i64 g]) w := by
  have c0 : w.cell? ⟨b, 0, none⟩ = some (.int .i64 s) := hk.cell 0
  have c1 : w.cell? ⟨b, 1, none⟩ = some (.int .i64 g) := hk.cell 1
  have hz : ∀ w : World, (loadVar 36 ⟨b, 0, none⟩).run Try.prog w = (do let x ← load ⟨b, 0, none⟩; let y ← load ⟨b, 1, none⟩; pure (.agg #[x, y]) : Sem Value).run Try.prog w := fun w => by kernel_rfl
  have hl : (loadVar 36 ⟨b, 0, none⟩).run Try.prog w = .ok (.agg #[.int .i64 s, .int .i64 g]) w := by
    rw [hz]
    simp [c0, c1]
  have ht' : tmps[t]?.getD undef = .pointer (some ⟨b, 0, none⟩) := by simpa using ht
  simp [results, h, ht', asAddr, hl]

theorem kmod3 (use : Int) {nL : Nat} (h0 : 0 < nL) (h1 : nL ≤ 1000000000000000) : ∃ (u1 u2 : Int) (k : Nat), use.tmod nL = u1 ∧ u1 + nL = u2 ∧ wrap64 u2 = u2 ∧ u2.tmod nL = (k : Int) ∧ k < nL ∧ -(nL : Int) < u1 ∧ u1 < nL := by
  have a1 : -(nL : Int) < use.tmod nL := by
    have := Int.lt_tmod_of_pos use (show (0 : Int) < nL by omega)
    omega
  have a2 : use.tmod nL < nL := Int.tmod_lt_of_pos use (show (0 : Int) < nL by omega)
  have b1 : 0 ≤ (use.tmod nL + nL).tmod nL := Int.tmod_nonneg _ (by omega)
  have b2 : (use.tmod nL + nL).tmod nL < nL := Int.tmod_lt_of_pos _ (show (0 : Int) < nL by omega)
  exact ⟨_, _, ((use.tmod nL + nL).tmod nL).toNat, rfl, rfl, by unfold wrap64; omega, by omega, by omega, a1, a2⟩

set_option maxHeartbeats 4000000 in
theorem handle_any {w wr : World} {X : List Nat} {P B R G N H : Nat} {lv : Value} {L : List (Int × Int)} {a : Ar} {hs : List ByteArray} {j : Nat} (h : Pw w wr X P B R G N H lv L a hs j) (hj : j ≤ 1000000000000000) (dd use : Int) (tx : ByteArray) (gs gg : Int) (hu : -9223372036854775808 ≤ use ∧ use ≤ 9223372036854775807) :
    Calls Try.prog 28 #[.pointer (some ⟨P, 0, none⟩), .agg #[.int .i64 dd, .int .i64 use, .string tx, .int .i64 gs, .int .i64 gg]] wr fun e w' => ∃ s g, e = .returned (.agg #[.int .i64 s, .int .i64 g]) ∧ Tn [] wr w' := by
  obtain ⟨w0, hw0⟩ : ∃ w0, (wr.alloc (.cells #[.int .i64 dd, .int .i64 use, .string tx, .int .i64 gs, .int .i64 gg] 38)).alloc (.cells #[.int .i64 0, .int .i64 0] 36) = w0 := ⟨_, rfl⟩
  have t0 : Tn [] wr w0 := by rw [← hw0]; exact ((Tn.refl _ _).alloc _).alloc _
  have kO : Bk w0 wr.heap.size 38 #[.int .i64 dd, .int .i64 use, .string tx, .int .i64 gs, .int .i64 gg] := by rw [← hw0]; exact (Bk.new _ _ _).alloc _
  have kH : Bk w0 (wr.heap.size + 1) 36 #[.int .i64 0, .int .i64 0] := by
    rw [← hw0, show wr.heap.size + 1 = (wr.alloc (.cells #[.int .i64 dd, .int .i64 use, .string tx, .int .i64 gs, .int .i64 gg] 38)).heap.size by simp]
    exact Bk.new _ _ _
  obtain ⟨O, hO⟩ : ∃ O, wr.heap.size = O := ⟨_, rfl⟩
  obtain ⟨Q, hQ⟩ : ∃ Q, O + 1 = Q := ⟨_, rfl⟩
  rw [hO] at kO kH
  rw [hQ] at kH
  have o0 : w0.cell? ⟨O, 0, none⟩ = some (.int .i64 dd) := kO.cell 0
  have o1 : w0.cell? ⟨O, 1, none⟩ = some (.int .i64 use) := kO.cell 1
  have o3 : w0.cell? ⟨O, 3, none⟩ = some (.int .i64 gs) := kO.cell 3
  have o4 : w0.cell? ⟨O, 4, none⟩ = some (.int .i64 gg) := kO.cell 4
  have q0 : w0.cell? ⟨Q, 0, none⟩ = some (.int .i64 0) := kH.cell 0
  have q1 : w0.cell? ⟨Q, 1, none⟩ = some (.int .i64 0) := kH.cell 1
  have y0 : w0.frozen? ⟨Q, 0, none⟩ = false := kH.frozen 0
  have y1 : w0.frozen? ⟨Q, 1, none⟩ = false := kH.frozen 1
  have h0 := h.quiet t0
  obtain ⟨n, hn⟩ : ∃ n, L.length = n := ⟨_, rfl⟩
  obtain ⟨⟨p, c, hlv⟩, hrow⟩ := h0.lr.formN hn
  have c2 : w0.cell? ⟨P, 2, none⟩ = some lv := h0.pb.cell 2
  rw [hlv] at c2
  have hnj : n ≤ 1000000000000000 := by rw [← hn]; exact Nat.le_trans h.ll hj
  have HE : Hid (∀ (s g : Int), Bk ((w0.setCell ⟨Q, 0, none⟩ (.int .i64 s)).setCell ⟨Q, 1, none⟩ (.int .i64 g)) Q 36 #[.int .i64 s, .int .i64 g] ∧ Tn [] wr ((w0.setCell ⟨Q, 0, none⟩ (.int .i64 s)).setCell ⟨Q, 1, none⟩ (.int .i64 g))) := fun s g =>
    ⟨(kH.set 0 _).set 1 _, (t0.setCell (.inr (by show wr.heap.size ≤ Q; omega)) _).setCell (.inr (by show wr.heap.size ≤ Q; omega)) _⟩
  by_cases h5 : dd = 5
  · subst h5
    clear h h0 t0 kO kH hrow hlv
    go_enter Try.func28, Try.ntmps28
    go_wp2

    refine bodyPost_ret (results_h1 rfl rfl (HE.out gs gg).1) rfl ?_
    exact ⟨_, _, rfl, (HE.out gs gg).2⟩
  · by_cases hn0 : n = 0
    · subst hn0
      have h5' : (dd == 5) = false := by simpa using h5
      clear h h0 t0 kO kH hrow hlv
      go_enter Try.func28, Try.ntmps28
      go_wp2
      refine bodyPost_ret (results_h1 rfl rfl (HE.out gs gg).1) rfl ?_
      exact ⟨_, _, rfl, (HE.out gs gg).2⟩
    · have h5' : (dd == 5) = false := by simpa using h5
      have hnz : ((n : Int) == 0) = false := by simp; omega
      have hnz' : ¬ (n : Int) = 0 := by omega
      obtain ⟨u1, u2, k, e1, e2, e3, e4, hk, b1, b2⟩ := kmod3 use (show 0 < n by omega) hnj
      have e3' : wrap64 (u1 + n) = u2 := by rw [e2]; exact e3
      obtain ⟨gb, cb, hlv2⟩ := h0.lr.some' (by rw [hn]; omega)
      rw [hn] at hlv2
      rw [hlv] at hlv2
      cases hlv2
      obtain ⟨r0, r1⟩ := Hr.cell hn (hlv ▸ h0.lr) k hk
      have k0 : (0 : Int) ≤ (k : Int) := by omega
      have kn : (k : Int) < (n : Int) := by omega
      generalize (L.getD k (0, 0)).1 = s0 at *
      generalize (L.getD k (0, 0)).2 = g0 at *
      have HD : Hid (∀ (s g : Int), Bk ((w0.setCell ⟨Q, 0, none⟩ (.int .i64 s)).setCell ⟨Q, 1, none⟩ (.int .i64 g)).drew Q 36 #[.int .i64 s, .int .i64 g] ∧ Tn [] wr ((w0.setCell ⟨Q, 0, none⟩ (.int .i64 s)).setCell ⟨Q, 1, none⟩ (.int .i64 g)).drew) := fun s g => ⟨(HE.out s g).1.drew, (HE.out s g).2.drew⟩
      clear h h0 t0 kO kH hrow hlv hn e2 e3 b1 b2 hu
      go_enter Try.func28, Try.ntmps28
      go_wp2_with fail
      go_region
      go_wp2
      refine bodyPost_ret (results_h1 rfl rfl (HD.out s0 g0).1) rfl ?_
      exact ⟨_, _, rfl, (HD.out s0 g0).2⟩
end Go.Proofs.Ytfbmbjbokmomhaa
