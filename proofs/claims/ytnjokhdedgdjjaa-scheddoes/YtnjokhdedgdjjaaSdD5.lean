/- An operation with both: spawns. -/
import Derived.Test.YtnjokhdedgdjjaaSdD2
namespace Go.Proofs.Ytnjokhdedgdjjaa
open Go.RowKit Go.Maps
set_option linter.unusedVariables false
set_option maxRecDepth 100000

section
variable {w0 w w' : World} {N C : Nat} {g g' : Ge} {r r' : Gr} {s s' t t' : Sc}

set_option maxHeartbeats 1000000 in
theorem step0 (h : Dq w0 w N C g r s) (hd : s.done.length ≤ 9000000000000) (hN : 10000000000000 < N) (n : Int) (hn : (Lit.int .i64 n).wf = true) : Calls Try.prog 10 #[.pointer (some ⟨g.S, 0, none⟩), .pointer (some ⟨r.R, 0, none⟩), .agg #[.int .i64 0, .int .i64 n], .pointer (some ⟨C, 0, none⟩)] w (To w0 w N C g r s) := by
  have HH : Hid (Dq w0 w N C g r s) := h
  have HB : Hid (Dq w0 (w.alloc (.cells #[.int .i64 0, .int .i64 n] 32)) N C g r s) := h.box _
  have k1 : (w.alloc (.cells #[.int .i64 0, .int .i64 n] 32)).cell? ⟨w.heap.size, 1, none⟩ = some (.int .i64 n) := (Bk.new _ _ _).cell 1
  have HL : Hid (s.fl.length ≤ 4096 ∧ s.box.length ≤ 4096 ∧ s.done.length ≤ 4611686018427387904 ∧ s.done.length ≤ 9000000000000 ∧ 10000000000000 < N) := ⟨h.fll.1, h.fll.2, by omega, hd, hN⟩
  have HW : Hid ((Lit.int .i64 n).wf = true ∧ -9223372036854775808 ≤ n ∧ n ≤ 9223372036854775807) := ⟨hn, bounds_i64 hn⟩
  have HG : Hid s.Good := h.good
  clear h hd hN hn
  have kf : ∀ (W : World), Bk (W.alloc (.cells #[.int .i64 n, .pointer (some ⟨C, 0, none⟩)] 48)) W.heap.size 48 #[.int .i64 n, .pointer (some ⟨C, 0, none⟩)] := fun W => Bk.new _ _ _
  have HKF : Hid _ := kf
  clear kf
  by_cases hroom : s.fl.length + s.box.length < s.room
  · have HRM : Hid (s.fl.length + s.box.length < s.room ∧ s.room ≤ 4096) := ⟨hroom, HH.out.dh.sd.big⟩
    clear hroom
    obtain ⟨nd, hnd⟩ : ∃ nd, s.done.length + 1 = nd := ⟨_, rfl⟩
    have HND : Hid (s.done.length + 1 = nd) := hnd
    clear hnd
    obtain ⟨w1, hw1⟩ : ∃ w1, w.alloc (.cells #[.int .i64 0, .int .i64 n] 32) = w1 := ⟨_, rfl⟩
    have hs1 : w1.heap.size = w.heap.size + 1 := by rw [← hw1]; simp
    have HB1 : Hid (Dq w0 w1 N C g r s) := hw1 ▸ HB.out
    have HOP : Hid (∀ {w2 : World} {g' : Ge} {s' : Sc}, Aft w1 w2 g g' s s' → w2.cell? ⟨w.heap.size, 1, none⟩ = some (.int .i64 n)) := fun ha => HH.out.opc (hw1 ▸ ha) 1
    have HC : Hid (Calls Try.prog 18 #[.pointer (some ⟨g.S, 0, none⟩), fv (w.heap.size + 1)] (w1.alloc (.cells #[.int .i64 n, .pointer (some ⟨C, 0, none⟩)] 48)) fun e w' => e = .returned (.tuple #[.int .i64 (nd : Int), .int .i64 0]) ∧ ∃ g', Sd w' N g' (s.spawned (w.heap.size + 1) n ⟨C, 0, none⟩) ∧ Aft w1 w' g g' s (s.spawned (w.heap.size + 1) n ⟨C, 0, none⟩)) := by
      have hb := HKF.out w1
      rw [hs1] at hb
      have hal : s.al.length ≤ 10000000000000 := by
        rw [HG.out.rest, List.length_map]
        have := HL.out.1
        omega
      have hlts := HB1.out.dh.sd.lts.1
      have := spawn_any (HB1.out.box (.cells #[.int .i64 n, .pointer (some ⟨C, 0, none⟩)] 48)).dh.sd hb (fun x hx e => by have := hlts _ (mem_ftF hx); omega) (by rw [HH.out.ca]; simp) HRM.out.1 (by have := HL.out.2.2.2.1; omega) hal (by have := HL.out.2.2.2; omega)
      rw [HND.out] at this
      refine this.mono ?_
      rintro e w3 ⟨rfl, g3, h3, t3, e3, b3, u3⟩
      refine ⟨rfl, g3, h3, ⟨((Tn.refl _ w1).alloc _).trans t3 (fun x hx => .inl hx), e3, fun x hx => ?_, fun x hx => .inl (by rw [← b3]; exact hx)⟩⟩
      rcases u3 x hx with h | h | h
      · exact .inl h
      · exact .inr (by omega)
      · exact .inr (by simp at h; omega)
    have HR : Hid (∀ w3 g3, Dh w0 w3 N g3 r (s.spawned (w.heap.size + 1) n ⟨C, 0, none⟩) s → g3.ca = g.ca → g3.S = g.S → Tn (ft g s) w1 w3 → Calls Try.prog 27 #[.pointer (some ⟨r.R, 0, none⟩), .int .i64 n] w3 fun e w' => e = .returned (.tuple #[.int .i64 (nd : Int), .int .i64 0]) ∧ To w0 w N C g r s (.returned (.bool true)) w') := by
      intro w3 g3 hD hca hS hT1
      have := rspawn_any hD.rs (w.heap.size + 1) n ⟨C, 0, none⟩ HRM.out.1 HRM.out.2 (by have := HL.out.2.2.2.1; omega)
      rw [HND.out] at this
      refine this.mono ?_
      rintro e w4 ⟨rfl, r4, h4, t4⟩
      refine ⟨rfl, rfl, g3, r4, _, ⟨hD.ref h4 t4, ?_, ?_, hca.trans HH.out.ca, ?_, HH.out.one.2⟩, hS, t4.same, ?_, Kp2.both (w := w) (hw1 ▸ hT1) t4.tn⟩
      · show s.al ++ [s.done.length + 1] = (s.fl ++ [_]).map Fb.num
        rw [HG.out.rest]
        simp
      · intro f hf
        rcases List.mem_append.1 hf with hf | hf
        · exact HG.out.small f hf
        · simp at hf
          subst hf
          exact HW.out.2.2
      · intro f hf
        rcases List.mem_append.1 hf with hf | hf
        · exact HH.out.one.1 f hf
        · simp at hf
          subst hf
          rfl
      · show (s.done ++ [0]).length ≤ _
        simp
    clear HB HKF
    rw [hw1] at k1
    have k0 : w1.cell? ⟨w.heap.size, 0, none⟩ = some (.int .i64 0) := by rw [← hw1]; exact (Bk.new _ _ _).cell 0
    go_enter Try.func10, Try.ntmps10
    go_wp2_with fail
    refine Calls.mono HC.out ?_
    rintro e w3 ⟨rfl, g3, h3, t3⟩
    have k2 : w3.cell? ⟨w.heap.size, 1, none⟩ = some (.int .i64 n) := HOP.out t3
    have HC2 : Hid _ := HR.out w3 g3 (HB1.out.dh.code h3 t3) t3.same.2.2.2.2 t3.same.1 t3.tn
    clear h3 t3 HC HR HOP k1 k0
    go_wp2_with fail
    refine Calls.mono HC2.out ?_
    rintro e w4 ⟨rfl, hTo⟩
    have HE : Hid (To w0 w N C g r s (.returned (.bool true)) w4) := hTo
    clear hTo HC2
    go_wp2
    go_ret
    exact HE.out
  · have HRM : Hid (s.fl.length + s.box.length = s.room) := by
      have := HH.out.dh.sd.fits
      show _ = _
      omega
    clear hroom
    obtain ⟨w1, hw1⟩ : ∃ w1, w.alloc (.cells #[.int .i64 0, .int .i64 n] 32) = w1 := ⟨_, rfl⟩
    have hs1 : w1.heap.size = w.heap.size + 1 := by rw [← hw1]; simp
    have HB1 : Hid (Dq w0 w1 N C g r s) := hw1 ▸ HB.out
    have HB2 : Hid (∀ q, Dq w0 ((w1.alloc (.cells #[.int .i64 n, .pointer (some ⟨C, 0, none⟩)] 48)).drewN q) N C g r s ∧ ((w1.alloc (.cells #[.int .i64 n, .pointer (some ⟨C, 0, none⟩)] 48)).drewN q).cell? ⟨w.heap.size, 1, none⟩ = some (.int .i64 n)) := fun q => by
      refine ⟨(HB1.out.box _).drew q, ?_⟩
      have : Bk w1 w.heap.size 32 #[.int .i64 0, .int .i64 n] := hw1 ▸ Bk.new _ _ _
      exact (this.alloc _).cell 1
    have HC : Hid (Calls Try.prog 18 #[.pointer (some ⟨g.S, 0, none⟩), fv (w.heap.size + 1)] (w1.alloc (.cells #[.int .i64 n, .pointer (some ⟨C, 0, none⟩)] 48)) fun e w' => e = .returned (.tuple #[.int .i64 0, .int .i64 5]) ∧ ∃ k, w' = (w1.alloc (.cells #[.int .i64 n, .pointer (some ⟨C, 0, none⟩)] 48)).drewN k) := spawn_full (HB1.out.box _).dh.sd _ HRM.out
    clear HB HKF
    rw [hw1] at k1
    have k0 : w1.cell? ⟨w.heap.size, 0, none⟩ = some (.int .i64 0) := by rw [← hw1]; exact (Bk.new _ _ _).cell 0
    go_enter Try.func10, Try.ntmps10
    go_wp2_with fail
    refine Calls.mono HC.out ?_
    rintro e w3 ⟨rfl, q, rfl⟩
    obtain ⟨hq, k2⟩ := HB2.out q
    have HQ : Hid (Dq w0 ((w1.alloc (.cells #[.int .i64 n, .pointer (some ⟨C, 0, none⟩)] 48)).drewN q) N C g r s) := hq
    obtain ⟨w3, hw3⟩ : ∃ w3, (w1.alloc (.cells #[.int .i64 n, .pointer (some ⟨C, 0, none⟩)] 48)).drewN q = w3 := ⟨_, rfl⟩
    have HKP : Hid (∀ k, Kp2 w (w3.drewN k) g r s) := by
      intro k
      have e1 : w3.heap = ((w.alloc (.cells #[.int .i64 0, .int .i64 n] 32)).alloc (.cells #[.int .i64 n, .pointer (some ⟨C, 0, none⟩)] 48)).heap := by rw [← hw3, hw1]; rfl
      refine ⟨?_, fun j hj _ _ => ?_⟩
      · show _ ≤ w3.heap.size
        rw [e1]
        simp
        omega
      · show w3.heap[j]? = _
        rw [e1]
        exact (Below.heap_alloc _ _ j (by simp; omega)).trans (Below.heap_alloc w _ j hj)
    rw [hw3] at HQ k2 ⊢
    clear hq hw3 HC HB2 k1 k0
    go_wp2_with fail
    refine (rspawn_full HQ.out.dh.rs n (by have := HRM.out; omega) HL.out.1 HL.out.2.1).mono ?_
    rintro e w4 ⟨rfl, q4, rfl⟩
    go_wp2
    go_ret
    exact ⟨rfl, g, r, s, HQ.out.drew _, rfl, rfl, by omega, HKP.out _⟩


end
end Go.Proofs.Ytnjokhdedgdjjaa
