/- Schedulers: they go on, in turn. -/
import Derived.Test.YtnjokhdedgdjjaaSdL
namespace Go.Proofs.Ytnjokhdedgdjjaa
open Go.RowKit Go.Maps
set_option linter.unusedVariables false
set_option maxRecDepth 100000

/-- A round of so many steps. -/
def Sc.round (s : Sc) (k : Nat) : Sc := (s.advs (s.al.take k)).struck

/-- Rounds, till none is alive or so many steps were done. -/
def RunsN : Nat → Nat → Sc → Nat → Sc → Prop
  | 0, m, s, d, s' => (m = 0 ∨ s.fl = []) ∧ d = 0 ∧ s' = s
  | n + 1, m, s, d, s' => m ≠ 0 ∧ s.fl ≠ [] ∧ ∃ d1, d = min s.al.length m + d1 ∧ RunsN n (m - min s.al.length m) (s.round (min s.al.length m)) d1 s'
def Runs (m : Nat) (s : Sc) (d : Nat) (s' : Sc) : Prop := ∃ n, RunsN n m s d s'
theorem Runs.stop {m : Nat} {s : Sc} (h : m = 0 ∨ s.fl = []) : Runs m s 0 s := ⟨0, h, rfl, rfl⟩
theorem Runs.more {m : Nat} {s : Sc} {k d : Nat} {s' : Sc} (h0 : m ≠ 0) (h1 : s.fl ≠ []) (hk : k = min s.al.length m) (h : Runs (m - k) (s.round k) d s') : Runs m s (k + d) s' := by
  obtain ⟨n, h⟩ := h
  subst hk
  exact ⟨n + 1, h0, h1, d, rfl, h⟩
theorem Runs.parts {m : Nat} {s : Sc} {d : Nat} {s' : Sc} (h : Runs m s d s') : ((m = 0 ∨ s.fl = []) ∧ d = 0 ∧ s' = s) ∨ (m ≠ 0 ∧ s.fl ≠ [] ∧ ∃ d1, d = min s.al.length m + d1 ∧ Runs (m - min s.al.length m) (s.round (min s.al.length m)) d1 s') := by
  obtain ⟨n, h⟩ := h
  cases n with
  | zero => exact .inl h
  | succ n =>
    obtain ⟨h0, h1, d1, h2, h3⟩ := h
    exact .inr ⟨h0, h1, d1, h2, n, h3⟩

theorem round_rest (s : Sc) (k : Nat) : (s.round k).rest := rfl
theorem round_small {s : Sc} (h : s.small) (k : Nat) : (s.round k).small := advs_small (s.al.take k) h
theorem round_len (s : Sc) (k : Nat) : (s.round k).done.length = s.done.length := advs_len (s.al.take k) s

theorem run_ar {m : Int} {d0 : Nat} (h1 : (d0 : Int) < m) (h2 : m ≤ 4611686018427387904) : ∃ mr : Nat, m.toNat = d0 + mr ∧ 0 < mr ∧ mr ≤ 4611686018427387904 ∧ wrap64 (m - (d0 : Int)) = (mr : Int) ∧ m - (d0 : Int) = (mr : Int) := by
  refine ⟨(m - d0).toNat, by omega, by omega, by omega, ?_, by omega⟩
  unfold wrap64
  omega
theorem run_ar4 {M d0 mr k : Nat} (h : M = d0 + mr) (h1 : k ≤ mr) : d0 + k ≤ M := by omega
theorem run_ar5 {M d0 mr k a b : Nat} (h : M = d0 + mr) (h1 : k ≤ mr) (h2 : 0 < k) (ha : a = d0 + k) (hb : b = d0) : M - a < M - b := by omega
theorem run_ar8 {m : Int} {M d0 : Nat} (h : m.toNat = M) (h1 : ¬ (d0 : Int) < m) : M - d0 = 0 := by omega
/-- A number in a slot. -/
def slotN (v : Value) : Nat := (intOf v).toNat
theorem slotN_int (n : Nat) : slotN (Value.int .i64 (n : Int)) = n := Int.toNat_natCast n
theorem run_ar9 {M d0 mr k j : Nat} (h : M = d0 + mr) (h1 : k ≤ mr) (h2 : 0 < k) (hj : j = d0 + k) : M - slotN (Value.int .i64 (j : Int)) < M - slotN (Value.int .i64 (d0 : Int)) :=
  run_ar5 h h1 h2 ((slotN_int j).trans hj) (slotN_int d0)
theorem run_ar2 {d0 k mr nf : Nat} (h1 : k = min nf mr) (h2 : mr ≤ 4611686018427387904) (h3 : d0 + mr ≤ 4611686018427387904) (h4 : 0 < nf) (h5 : 0 < mr) : k ≤ mr ∧ 0 < k ∧ wrap64 ((d0 : Int) + (k : Int)) = ((d0 + k : Nat) : Int) := by
  unfold wrap64
  omega
theorem run_ar3 {m : Int} {d0 mr : Nat} (h : m.toNat = d0 + mr) (h1 : m ≤ 4611686018427387904) : d0 + mr ≤ 4611686018427387904 := by omega

theorem run_next {M d0 mr nf k d d1 : Nat} {s0 s' : Sc} (htn : M = d0 + mr) (hmr0 : 0 < mr) (hk : k = min nf mr) (hal : s0.al.length = nf) (hnf : nf = s0.fl.length) (h0 : ¬ nf = 0) (h6 : Runs (M - d0) s0 d1 s') (h7 : d = d0 + d1) : ∃ d2, Runs (M - (d0 + k)) (s0.round k) d2 s' ∧ d = d0 + k + d2 := by
  rcases h6.parts with ⟨h, -, -⟩ | ⟨g0, g1, d', hd', h⟩
  · exfalso
    rcases h with h | h
    · omega
    · rw [h] at hnf
      exact h0 hnf
  · have ek : min s0.al.length (M - d0) = k := by rw [hal, hk]; omega
    rw [ek] at h hd'
    exact ⟨d', by rw [show M - (d0 + k) = M - d0 - k by omega]; exact h, by omega⟩

theorem run_any {w : World} {N : Nat} {g : Ge} {s s' : Sc} (h : Sd w N g s) (hr : s.rest) (hsm : s.small) (hdl : s.done.length ≤ 4611686018427387904) {m : Int} (hm : -9223372036854775808 ≤ m ∧ m ≤ 4611686018427387904) {d : Nat} (hR : Runs m.toNat s d s') {ob : Bool} (hob : ob = decide (s'.fl.length = 0)) :
    Calls Try.prog 19 #[.pointer (some ⟨g.S, 0, none⟩), .int .i64 m] w fun e w' => e = .returned (.tuple #[.int .i64 (d : Int), .bool ob]) ∧ ∃ g', Sd w' N g' s' ∧ Aft w w' g g' s s' := by
  have c2 := h.c2
  have HH : Hid (Sd w N g s ∧ s.rest ∧ s.small ∧ s.done.length ≤ 4611686018427387904 ∧ Runs m.toNat s d s' ∧ ob = decide (s'.fl.length = 0)) := ⟨h, hr, hsm, hdl, hR, hob⟩
  obtain ⟨M, HM⟩ : ∃ M, Hid (m.toNat = M) := ⟨_, rfl⟩
  rw [HM.out] at HH
  clear h hr hsm hdl hR hob
  go_enter Try.func19, Try.ntmps19
  go_wp2_with fail
  refine (made_any c2).mono ?_
  rintro e w1 ⟨rfl, rfl⟩
  clear c2
  go_wp2_with fail
  go_loopw [6] (fun i wr => ∃ (d0 : Nat) (d1 : Nat) (s0 : Sc) (g0 : Ge), i = .int .i64 (d0 : Int) ∧ d0 ≤ M ∧ Sd wr N g0 s0 ∧ Aft w1 wr g g0 s s0 ∧ s0.rest ∧ s0.small ∧ s0.done.length = s.done.length ∧ Runs (M - d0) s0 d1 s' ∧ d = d0 + d1) (fun i _ => M - slotN i)
  case atStart => exact ⟨0, d, s, g, rfl, Nat.zero_le _, HH.out.1, Aft.refl _ _ _, HH.out.2.1, HH.out.2.2.1, rfl, HH.out.2.2.2.2.1, by omega⟩
  case round =>
    obtain ⟨d0, d1, s0, g0, rfl, hd0, hS, hA, hr0, hs0, hl0, hR0, hd⟩ := hrel
    have H0 : Hid (Sd wr N g0 s0 ∧ Aft w1 wr g g0 s s0 ∧ s0.rest ∧ s0.small ∧ s0.done.length = s.done.length ∧ Runs (M - d0) s0 d1 s' ∧ d = d0 + d1) := ⟨hS, hA, hr0, hs0, hl0, hR0, hd⟩
    obtain ⟨nf, HNF⟩ : ∃ nf, Hid (nf = s0.fl.length) := ⟨_, rfl⟩
    have hgS : g0.S = g.S := hA.same.1
    have hcnt : Hid (Calls Try.prog 11 #[.pointer (some ⟨g.S, 0, none⟩)] wr fun e w' => e = .returned (.int .i64 (nf : Int)) ∧ w' = wr) := by
      have := count_any hS nf HNF.out
      rw [hgS] at this
      exact this
    clear hS hA hr0 hs0 hl0 hR0 hd
    have hend : (M - d0 = 0 ∨ s0.fl = []) → Hid (d0 = d ∧ s' = s0 ∧ ob = decide (nf = 0)) := fun hh => by
      have h6 := H0.out.2.2.2.2.2.1
      have h7 := H0.out.2.2.2.2.2.2
      have : d1 = 0 ∧ s' = s0 := by
        rcases h6.parts with ⟨-, h1, h2⟩ | ⟨h0, h1, -⟩
        · exact ⟨h1, h2⟩
        · exact absurd hh (by simp [h0, h1])
      obtain ⟨rfl, rfl⟩ := this
      exact ⟨by omega, rfl, by rw [HH.out.2.2.2.2.2, HNF.out]⟩
    have HEND : Hid _ := hend
    clear hend
    by_cases hlt : (d0 : Int) < m
    · by_cases hnf : nf = 0
      · subst hnf
        have hE := HEND.out (.inr (List.eq_nil_of_length_eq_zero HNF.out.symm))
        have hdd : d0 = d := hE.out.1
        have hob : ob = true := by rw [hE.out.2.2]; rfl
        have HG : Hid (∃ g', Sd wr N g' s' ∧ Aft w1 wr g g' s s') := by
          rw [hE.out.2.1]
          exact ⟨g0, H0.out.1, H0.out.2.1⟩
        subst hdd
        subst hob
        clear hE HEND H0
        go_wp2_with fail
        refine hcnt.out.mono ?_
        rintro e w2 ⟨rfl, rfl⟩
        go_wp2_with fail
        refine hcnt.out.mono ?_
        rintro e w2 ⟨rfl, rfl⟩
        go_wp2
        go_ret2
        exact ⟨rfl, HG.out⟩
      · have hpos : (0 : Int) < (nf : Int) := by omega
        have hal : s0.al.length = nf := by
          rw [H0.out.2.2.1, List.length_map]
          exact HNF.out.symm
        obtain ⟨mr, htn, hmr0, hmb, hwr, hsub⟩ := run_ar hlt hm.2
        rw [HM.out] at htn
        obtain ⟨k, hk⟩ : ∃ k, k = min nf mr := ⟨_, rfl⟩
        obtain ⟨hkm, hk0, hwr3⟩ := run_ar2 hk hmb (run_ar3 (HM.out.trans htn) hm.2) (Nat.pos_of_ne_zero hnf) hmr0
        obtain ⟨jj, hjj⟩ : ∃ jj, jj = d0 + k := ⟨_, rfl⟩
        have hwr2 : wrap64 ((d0 : Int) + (k : Int)) = (jj : Int) := by rw [hjj]; exact hwr3
        have HJ : Hid (jj = d0 + k) := hjj
        have HW2 : Hid (wrap64 ((d0 : Int) + (k : Int)) = (jj : Int)) := hwr2
        clear hwr3 hjj
        have hdl0 : s0.done.length ≤ 4611686018427387904 := by rw [H0.out.2.2.2.2.1]; exact HH.out.2.2.2.1
        have hrd := round_any H0.out.1 H0.out.2.2.1 H0.out.2.2.2.1 hdl0 (mm := mr) hmb (k := k) (by rw [hal]; exact hk)
        rw [hgS] at hrd
        have HRD : Hid _ := hrd
        have hnext : Hid (∃ d2, Runs (M - (d0 + k)) (s0.round k) d2 s' ∧ d = d0 + k + d2) := run_next htn hmr0 hk hal HNF.out hnf H0.out.2.2.2.2.2.1 H0.out.2.2.2.2.2.2
        have HTN : Hid (M = d0 + mr) := htn
        have HWF : Hid (k ≤ mr ∧ 0 < k ∧ 0 < mr) := ⟨hkm, hk0, hmr0⟩
        clear hrd HEND hal hk hkm hk0 hmr0 htn hmb hdl0
        go_wp2_with fail
        refine hcnt.out.mono ?_
        rintro e w2 ⟨rfl, rfl⟩
        go_wp2_with fail
        refine Calls.mono HRD.out ?_
        rintro e w3 ⟨rfl, g3, h3, t3⟩
        have HN : Hid (∃ (d0' : Nat) (d1 : Nat) (s0 : Sc) (g0 : Ge), Value.int .i64 (jj : Int) = .int .i64 (d0' : Int) ∧ d0' ≤ M ∧ Sd w3 N g0 s0 ∧ Aft w1 w3 g g0 s s0 ∧ s0.rest ∧ s0.small ∧ s0.done.length = s.done.length ∧ Runs (M - d0') s0 d1 s' ∧ d = d0' + d1) := by
          obtain ⟨d2, hR2, hd2⟩ := hnext.out
          exact ⟨jj, d2, s0.round k, g3, rfl, HJ.out ▸ run_ar4 HTN.out HWF.out.1, h3, H0.out.2.1.trans t3, round_rest _ _, round_small H0.out.2.2.2.1 _, (round_len _ _).trans H0.out.2.2.2.2.1, HJ.out ▸ hR2, HJ.out ▸ hd2⟩
        clear h3 t3 HRD hnext hcnt
        go_wp2
        go_roundw
        case rel => rw [HW2.out]; exact HN.out
        case measure =>
          have e : M - slotN (Value.int .i64 (jj : Int)) < M - slotN (Value.int .i64 (d0 : Int)) := run_ar9 HTN.out HWF.out.1 HWF.out.2.1 HJ.out
          simp only [HW2.out]
          exact e
    · have hE := HEND.out (.inl (run_ar8 HM.out hlt))
      have hdd : d0 = d := hE.out.1
      have hob : ob = decide (nf = 0) := hE.out.2.2
      have HG : Hid (∃ g', Sd wr N g' s' ∧ Aft w1 wr g g' s s') := by
        rw [hE.out.2.1]
        exact ⟨g0, H0.out.1, H0.out.2.1⟩
      subst hdd
      have hob2 : ((nf : Int) == 0) = ob := by
        rw [hob, Bool.eq_iff_iff]
        simp
      clear hE HEND H0 hob
      go_wp2_with fail
      refine hcnt.out.mono ?_
      rintro e w2 ⟨rfl, rfl⟩
      go_wp2
      go_ret2
      exact ⟨by simp only [← hob2]; rfl, HG.out⟩
end Go.Proofs.Ytnjokhdedgdjjaa
