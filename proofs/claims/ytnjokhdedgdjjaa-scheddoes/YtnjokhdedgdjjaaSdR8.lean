/- The document's scheduler: Run. -/
import Derived.Test.YtnjokhdedgdjjaaSdR7
namespace Go.Proofs.Ytnjokhdedgdjjaa
open Go.RowKit Go.Maps
set_option linter.unusedVariables false
set_option maxRecDepth 100000

/-- A scheduler that may be, as the document's calls ask it. -/
structure Sc.Good (s : Sc) : Prop where
  rest : s.rest
  rs : (s.fl.map Fb.num).Pairwise (· < ·)
  ups : s.ups
  small : s.small
  fit : s.fl.length + s.box.length ≤ 4096

theorem Sc.Good.advs {s : Sc} (h : s.Good) (l : List Nat) : ((s.advs l).fl.map Fb.num).Pairwise (· < ·) ∧ (s.advs l).ups ∧ (s.advs l).small ∧ (s.advs l).fl.length ≤ 4096 ∧ (s.advs l).box.length ≤ 4096 := by
  have := advs_fit l h.rs
  have := h.fit
  exact ⟨advs_rs h.rs l, advs_ups l h.ups, advs_small l h.small, by omega, by omega⟩

theorem Sc.Good.round {s : Sc} (h : s.Good) (k : Nat) : (s.round k).Good := by
  obtain ⟨h1, h2, h3, h4, h5⟩ := h.advs (s.al.take k)
  have := advs_fit (s.al.take k) h.rs
  have := h.fit
  exact ⟨round_rest _ _, h1, h2, h3, by show (s.advs (s.al.take k)).fl.length + (s.advs (s.al.take k)).box.length ≤ 4096; omega⟩

theorem Rs.round {w : World} {r : Gr} {s : Sc} {k : Nat} (h : Rs w r (s.advs (s.al.take k))) : Rs w r (s.round k) := Rq.congr h rfl rfl rfl rfl rfl

theorem rr_ar1 {M d0 mr j : Nat} {m : Int} (h : M = d0 + mr) (hM : m.toNat = M) (h1 : ((d0 + j : Nat) : Int) < m) : j < mr := by omega
theorem rr_ar2 {M d0 mr j : Nat} {m : Int} (h : M = d0 + mr) (hM : m.toNat = M) (h0 : 0 < mr) (h1 : ¬ ((d0 + j : Nat) : Int) < m) (hj : j ≤ mr) : j = mr := by omega
theorem rr_ar3 {M d0 mr j : Nat} {m : Int} (h : M = d0 + mr) (hM : m.toNat = M) (h2 : m ≤ 4611686018427387904) (hj : j < mr) : wrap64 (((d0 + j : Nat) : Int) + 1) = ((d0 + (j + 1) : Nat) : Int) := by unfold wrap64; omega
theorem rr_ar4 {nL n : Nat} (h : nL ≤ 4611686018427387904) (h1 : n < nL) : wrap64 ((n : Int) + 1) = ((n + 1 : Nat) : Int) ∧ (n : Int) < (nL : Int) := by unfold wrap64; omega

theorem rr_ar5 {nL n n1 : Nat} (h : n1 = n + 1) (h1 : n < nL) : nL - slotN (Value.int .i64 (n1 : Int)) < nL - slotN (Value.int .i64 (n : Int)) := by
  rw [slotN_int, slotN_int, h]
  exact Nat.sub_lt_sub_left h1 (Nat.lt_succ_self n)
theorem rr_ar6 {M d0 j k : Nat} (hk : k = d0 + j) (h : k ≤ M) (h0 : 0 < j) : M - slotN (Value.int .i64 (k : Int)) < M - slotN (Value.int .i64 (d0 : Int)) := by
  rw [slotN_int, slotN_int]
  omega

set_option maxHeartbeats 400000 in
theorem rrun_any {w : World} {r : Gr} {s s' : Sc} (h : Rs w r s) (hg : s.Good) (hd : s.done.length ≤ 4611686018427387904) {m : Int} (hm : -9223372036854775808 ≤ m ∧ m ≤ 4611686018427387904) {d : Nat} (hR : Runs m.toNat s d s') {ob : Bool} (hob : ob = decide (s'.fl.length = 0)) :
    Calls Try.prog 30 #[.pointer (some ⟨r.R, 0, none⟩), .int .i64 m] w fun e w' => e = .returned (.tuple #[.int .i64 (d : Int), .bool ob]) ∧ ∃ r', Rs w' r' s' ∧ RT w w' r r' := by
  have HH : Hid (Rs w r s ∧ s.Good ∧ Runs m.toNat s d s' ∧ ob = decide (s'.fl.length = 0)) := ⟨h, hg, hR, hob⟩
  obtain ⟨M, HM⟩ : ∃ M, Hid (m.toNat = M) := ⟨_, rfl⟩
  rw [HM.out] at HH
  obtain ⟨nL, HL⟩ : ∃ nL, Hid (s.done.length = nL) := ⟨_, rfl⟩
  rw [HL.out] at hd
  clear h hg hR hob
  go_enter Try.func30, Try.ntmps30
  go_wp2_with fail
  go_loopw [6] (fun i wr => ∃ (d0 : Nat) (d1 : Nat) (s0 : Sc) (r0 : Gr), i = .int .i64 (d0 : Int) ∧ d0 ≤ M ∧ Hid (Rs wr r0 s0 ∧ RT w wr r r0 ∧ s0.Good ∧ s0.done.length = nL ∧ Runs (M - d0) s0 d1 s' ∧ d = d0 + d1)) (fun i _ => M - slotN i)
  case atStart => exact ⟨0, d, s, r, rfl, Nat.zero_le _, HH.out.1, RT.refl _ _, HH.out.2.1, HL.out, HH.out.2.2.1, by omega⟩
  case round =>
    obtain ⟨d0, d1, s0, r0, rfl, hd0, H0⟩ := hrel
    obtain ⟨hS, hA, hG0, hl0, hR0, hdd⟩ := H0.out
    have hgR : r0.R = r.R := hA.same
    obtain ⟨p, c, hv, hc⟩ := row_form hS.al
    have c2 := hS.c2
    rw [hv, hgR] at c2
    obtain ⟨nf, HNF⟩ : ∃ nf, Hid (s0.fl.length = nf) := ⟨_, rfl⟩
    rw [HNF.out] at c2
    have hend : (M - d0 = 0 ∨ s0.fl = []) → Hid (d0 = d ∧ s' = s0 ∧ ob = decide (nf = 0)) := fun hh => by
      have : d1 = 0 ∧ s' = s0 := by
        rcases hR0.parts with ⟨-, h1, h2⟩ | ⟨h0, h1, -⟩
        · exact ⟨h1, h2⟩
        · exact absurd hh (by simp [h0, h1])
      obtain ⟨rfl, rfl⟩ := this
      exact ⟨by omega, rfl, by rw [HH.out.2.2.2, HNF.out]⟩
    have HEND : Hid _ := hend
    clear hend hS hA hG0 hl0 hR0 hdd hv hc
    by_cases hnf : nf = 0
    · subst hnf
      have hE := HEND.out (.inr (List.eq_nil_of_length_eq_zero HNF.out))
      have hd' : d0 = d := hE.out.1
      have hob : ob = true := by rw [hE.out.2.2]; rfl
      have HG : Hid (∀ q, ∃ r', Rs (wr.drewN q) r' s' ∧ RT w (wr.drewN q) r r') := by
        intro q
        rw [hE.out.2.1]
        exact ⟨r0, H0.out.1.drew q, H0.out.2.1.still ⟨rfl, rfl, rfl, Nat.le_refl _, fun _ _ _ => rfl⟩⟩
      subst hd'
      subst hob
      clear hE HEND H0
      go_wp2_with fail
      go_quiet (fail)
      go_wp2
      go_ret2
      exact ⟨rfl, HG.out _⟩
    · have hpos : (0 : Int) < (nf : Int) := by omega
      by_cases hlt : (d0 : Int) < m
      · obtain ⟨mr, htn, hmr0, hmb, hwr, hsub⟩ := run_ar hlt hm.2
        rw [HM.out] at htn
        have HTN : Hid (M = d0 + mr) := htn
        have HF : Hid (s0.fl ≠ []) := fun e => hnf (by rw [← HNF.out, e]; rfl)
        have HX : Hid (∀ j, j = min s0.al.length mr → 0 < j ∧ d0 + j ≤ M ∧ ∃ d2, Runs (M - (d0 + j)) (s0.round j) d2 s' ∧ d = d0 + j + d2) := by
          intro j hj
          have hal : 0 < s0.al.length := by
            rw [H0.out.2.2.1.rest, List.length_map, HNF.out]
            omega
          rcases H0.out.2.2.2.2.1.parts with ⟨h1 | h1, -⟩ | ⟨h1, h2, d2, h3, h4⟩
          · exact absurd h1 (by omega)
          · exact absurd h1 HF.out
          · have e : M - d0 = mr := by omega
            rw [e, ← hj] at h3 h4
            refine ⟨by omega, by omega, d2, ?_, by have := H0.out.2.2.2.2.2; omega⟩
            rw [show M - (d0 + j) = mr - j by omega]
            exact h4
        clear hwr hsub HEND htn
        go_wp2_with fail
        go_loopw [6, 7] (fun dv nv wq => ∃ (j n : Nat) (r1 : Gr), dv = .int .i64 ((d0 + j : Nat) : Int) ∧ nv = .int .i64 (n : Int) ∧ j ≤ mr ∧ n ≤ nL ∧ Hid (Rs wq r1 (s0.advs (s0.al.take j)) ∧ RT w wq r r1 ∧ Rr2 s0 j n)) (fun _ nv _ => nL - slotN nv)
        case atStart =>
          refine ⟨0, 0, r0, rfl, rfl, Nat.zero_le _, Nat.zero_le _, ?_, H0.out.2.1, Rr2.start _ fun x hx => ?_⟩
          · exact H0.out.1
          · rw [H0.out.2.2.1.rest] at hx
            obtain ⟨f, hf, rfl⟩ := List.mem_map.1 hx
            exact (H0.out.2.2.1.ups f hf).1
        case round =>
          obtain ⟨j, n, r1, rfl, rfl, hj, hn, HI⟩ := hrel
          have hR1 : r1.R = r.R := HI.out.2.1.same
          have e1 : (s0.advs (s0.al.take j)).done.length = nL := (advs_len _ _).trans H0.out.2.2.2.1
          have c1 := HI.out.1.c1
          rw [hR1, e1] at c1
          by_cases hnL : n < nL
          · obtain ⟨hw4', hni⟩ := rr_ar4 hd hnL
            obtain ⟨n1, hn1⟩ : ∃ n1, n1 = n + 1 := ⟨_, rfl⟩
            have HN1 : Hid (n1 = n + 1) := hn1
            have hw4 : wrap64 ((n : Int) + 1) = (n1 : Int) := by rw [hn1]; exact hw4'
            have hw5 : (n : Int) + 1 = (n1 : Int) := by rw [hn1]; omega
            clear hw4' hn1
            by_cases hjm : ((d0 + j : Nat) : Int) < m
            · have hjr := rr_ar1 HTN.out HM.out hjm
              have hw3 := rr_ar3 HTN.out HM.out hm.2 hjr
              obtain ⟨g1, g2, g3, g4, g5⟩ := H0.out.2.2.1.advs (s0.al.take j)
              rcases HI.out.2.2.next H0.out.2.2.1.rest H0.out.2.2.1.rs with ⟨f, hf, hfn, hr2, hadv⟩ | ⟨hfa, hr2⟩
              · obtain ⟨i, hi⟩ := List.getElem?_of_mem hf
                have HP : Hid _ := rplace_some HI.out.1 g1 hi g4 (q := (n1 : Int)) (by rw [hfn, HN1.out])
                have HA : Hid _ := rat_any HI.out.1 g1 g2 g3 hi g4 g5 (by rw [e1]; exact hd) (ov := decide (f.left ≤ 1)) rfl
                rw [hR1] at HP HA
                have HN : Hid (s0.advs (s0.al.take (j + 1)) = (s0.advs (s0.al.take j)).adv f ∧ Rr2 s0 (j + 1) (n + 1)) := ⟨hadv, hr2⟩
                have g6 : (0 : Int) ≤ (i : Int) := by omega
                obtain ⟨jj, hjj⟩ : ∃ jj, jj = d0 + j := ⟨_, rfl⟩
                obtain ⟨kk, hkk⟩ : ∃ kk, kk = d0 + (j + 1) := ⟨_, rfl⟩
                rw [← hjj] at hjm hw3 ⊢
                rw [← hkk] at hw3
                have HJ : Hid (jj = d0 + j ∧ kk = d0 + (j + 1) ∧ j < mr) := ⟨hjj, hkk, hjr⟩
                have HW : Hid (wrap64 ((n : Int) + 1) = (n1 : Int) ∧ wrap64 ((jj : Int) + 1) = (kk : Int)) := ⟨hw4, hw3⟩
                generalize decide (f.left ≤ 1) = ov at *
                clear hf hfn hr2 hadv hi g1 g2 g3 g4 g5 hjj hkk hjr e1
                go_wp2_with fail
                refine Calls.mono HP.out ?_
                rintro e w2 ⟨rfl, rfl⟩
                go_wp2_with fail
                refine Calls.mono HA.out ?_
                rintro e w3 ⟨rfl, r3, h3, t3⟩
                have HE : Hid (Rs w3 r3 (s0.advs (s0.al.take (j + 1))) ∧ RT w w3 r r3) := ⟨HN.out.1 ▸ h3, HI.out.2.1.trans t3⟩
                clear h3 t3 HP HA
                go_wp2
                go_roundw
                case rel => exact ⟨j + 1, n + 1, r3, congrArg (Value.int .i64) (by have h1 := HJ.out.1; omega), by rw [HN1.out], HJ.out.2.2, hnL, HE.out.1, HE.out.2, HN.out.2⟩
                case measure =>
                  exact rr_ar5 HN1.out hnL
              · have HP : Hid _ := rplace_none HI.out.1 hfa g4
                rw [← HN1.out] at HP
                rw [hR1] at HP
                have HN : Hid (Rr2 s0 j (n + 1)) := hr2
                obtain ⟨jj, hjj⟩ : ∃ jj, jj = d0 + j := ⟨_, rfl⟩
                rw [← hjj] at hjm ⊢
                have HJ : Hid (jj = d0 + j) := hjj
                have HW : Hid (wrap64 ((n : Int) + 1) = (n1 : Int)) := hw4
                clear hfa hr2 g1 g2 g3 g4 g5 hjj hw3 e1 hjr
                go_wp2_with fail
                refine Calls.mono HP.out ?_
                rintro e w2 ⟨rfl, rfl⟩
                clear HP
                go_wp2
                go_roundw
                case rel => exact ⟨j, n + 1, r1, by rw [HJ.out], by rw [HN1.out], hj, hnL, HI.out.1, HI.out.2.1, HN.out⟩
                case measure =>
                  exact rr_ar5 HN1.out hnL
            · have hmin : j = min s0.al.length mr := by
                have := rr_ar2 HTN.out HM.out hmr0 hjm hj
                have := HI.out.2.2.jl
                omega
              obtain ⟨x1, x2, d2, x3, x4⟩ := HX.out j hmin
              have HE : Hid (Rs wr r1 (s0.round j) ∧ RT w wr r r1 ∧ (s0.round j).Good ∧ (s0.round j).done.length = nL ∧ Runs (M - (d0 + j)) (s0.round j) d2 s' ∧ d = d0 + j + d2) := ⟨HI.out.1.round, HI.out.2.1, H0.out.2.2.1.round j, (round_len _ _).trans H0.out.2.2.2.1, x3, x4⟩
              have HK : Hid (d0 + j ≤ M ∧ 0 < j) := ⟨x2, x1⟩
              clear x1 x2 x3 x4 e1 HX hmin
              obtain ⟨jj, hjj⟩ : ∃ jj, jj = d0 + j := ⟨_, rfl⟩
              rw [← hjj] at hjm ⊢
              have HJ : Hid (jj = d0 + j) := hjj
              clear hjj
              go_wp2
              go_roundw
              case rel => exact ⟨jj, d2, s0.round j, r1, rfl, by rw [HJ.out]; exact HK.out.1, by rw [HJ.out]; exact HE⟩
              case measure => exact rr_ar6 HJ.out (by rw [HJ.out]; exact HK.out.1) HK.out.2
          · have hmin : j = min s0.al.length mr := by
              have := HI.out.2.2.done fun x hx => by
                rw [H0.out.2.2.1.rest] at hx
                obtain ⟨f, hf, rfl⟩ := List.mem_map.1 hx
                have := (H0.out.2.2.1.ups f hf).2
                have := H0.out.2.2.2.1
                omega
              omega
            have hni : ¬ (n : Int) < (nL : Int) := by omega
            obtain ⟨x1, x2, d2, x3, x4⟩ := HX.out j hmin
            have HE : Hid (Rs wr r1 (s0.round j) ∧ RT w wr r r1 ∧ (s0.round j).Good ∧ (s0.round j).done.length = nL ∧ Runs (M - (d0 + j)) (s0.round j) d2 s' ∧ d = d0 + j + d2) := ⟨HI.out.1.round, HI.out.2.1, H0.out.2.2.1.round j, (round_len _ _).trans H0.out.2.2.2.1, x3, x4⟩
            have HK : Hid (d0 + j ≤ M ∧ 0 < j) := ⟨x2, x1⟩
            clear x1 x2 x3 x4 e1 HX hmin
            obtain ⟨jj, hjj⟩ : ∃ jj, jj = d0 + j := ⟨_, rfl⟩
            rw [← hjj]
            have HJ : Hid (jj = d0 + j) := hjj
            clear hjj
            go_wp2
            go_roundw
            case rel => exact ⟨jj, d2, s0.round j, r1, rfl, by rw [HJ.out]; exact HK.out.1, by rw [HJ.out]; exact HE⟩
            case measure => exact rr_ar6 HJ.out (by rw [HJ.out]; exact HK.out.1) HK.out.2
      · have hE := HEND.out (.inl (run_ar8 HM.out hlt))
        have hd' : d0 = d := hE.out.1
        have hob : ob = false := by rw [hE.out.2.2]; simpa using hnf
        have HG : Hid (∀ q, ∃ r', Rs (wr.drewN q) r' s' ∧ RT w (wr.drewN q) r r') := by
          intro q
          rw [hE.out.2.1]
          exact ⟨r0, H0.out.1.drew q, H0.out.2.1.still ⟨rfl, rfl, rfl, Nat.le_refl _, fun _ _ _ => rfl⟩⟩
        have hb : ((nf : Int) == 0) = false := by simpa using hnf
        subst hd'
        subst hob
        clear hE HEND H0
        go_wp2_with fail
        go_quiet (fail)
        go_wp2
        go_ret2
        exact ⟨rfl, HG.out _⟩
end Go.Proofs.Ytnjokhdedgdjjaa
