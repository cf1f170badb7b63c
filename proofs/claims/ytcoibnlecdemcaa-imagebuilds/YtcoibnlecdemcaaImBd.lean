/- What chunks are together: the document. -/
import Derived.Test.YtcoibnlecdemcaaImBu
namespace Go.Proofs.Ytcoibnlecdemcaa
open Go.RowKit
set_option linter.unusedVariables false
set_option maxRecDepth 100000

set_option maxHeartbeats 4000000 in
theorem rbuild_any (p : Option Addr) (n c : Nat) (l : List Ck) (f : Ck → List St) (w : World) (hn : l.length = n) (hp : CkW f w p l) (hnn : n ≤ 4611686018427387904) :
    Calls Try.prog 22 #[.slice p n c] w fun e w' => ∃ v, e = .returned (.tuple #[v, .int .i64 (Bl.res f l).1]) ∧ OwnS w' w.heap.size v (Bl.res f l).2 ∧ Below w.heap.size w w' := by
  have HP : Hid (CkW f w p l) := hp
  have HN : Hid (l.length = n) := hn
  clear hp hn
  by_cases h0 : n = 0
  · subst h0
    have HR : Hid (Bl.res f l = (1, [])) := by unfold Hid Bl.res; rw [HN.out]; rfl
    go_enter Try.func22, Try.ntmps22
    go_wp2
    go_ret2
    rw [HR.out]
    exact ⟨_, rfl, Own.nil _ _ _, Below.refl _ _⟩
  · have hz : ((n : Int) == 0) = false := by simp; omega
    have HR : Hid (Bl.res f l = Bl.run f n 0 [] l) := by unfold Hid Bl.res; rw [HN.out, if_neg h0]
    clear h0
    go_enter Try.func22, Try.ntmps22
    go_wp2_with fail
    go_loopw [4, 5] (fun v i wr => ∃ (k : Nat) (out : List St), k ≤ n ∧ k ≤ 4096 ∧ i = .int .i64 k ∧ out.length ≤ k * 16 ∧ Hid (OwnS wr w.heap.size v out) ∧ Hid (Below w.heap.size w wr) ∧ Hid (Bl.run f n 0 [] l = Bl.run f n k out (l.drop k))) (fun _ i _ => n - (intOf i).toNat)
    case atStart => exact ⟨0, [], Nat.zero_le _, by omega, rfl, Nat.zero_le _, Own.nil _ _ _, Below.refl _ _, by simp [Hid]⟩
    case round =>
      obtain ⟨k, out, hk, hk4, rfl, hlen, HO, HW, HQ⟩ := hrel
      obtain ⟨pv, cv, rfl, hels, hnil, hle⟩ := HO.out.els stknd
      obtain ⟨no, hno⟩ : ∃ no, out.length = no := ⟨_, rfl⟩
      rw [hno] at hlen hnil hle ⊢
      by_cases hlt : k < n
      · have hli : (k : Int) < (n : Int) := by omega
        obtain ⟨b, o, x, rfl, hx, c0, c1, c2⟩ := Cks.cells (HP.out.at_ _ HW.out) (j := k) (by have := HN.out; omega)
        have HD : Hid (l.drop k = x :: l.drop (k + 1)) := Bl.drop_at hx
        have HM : Hid (x ∈ l) := List.mem_of_getElem? hx
        have hcall := Rk.rcheckChunk_any x.num x.p x.n x.c (f x) x.last wr (HP.out.ins _ HW.out x HM.out)
        have HO1 : Hid (OwnS wr w.heap.size (.slice pv no cv) out) := by have := HO.out; rw [hno] at this; exact this
        have HNO : Hid (out.length = no) := hno
        clear hx hels hnil hle hno HO
        obtain ⟨num, q, m, cc, last⟩ := x
        simp only at hcall
        go_wp2_with fail
        refine hcall.mono ?_
        rintro e w1 ⟨rfl, b1⟩
        have HW1 : Hid (Below w.heap.size w w1) := HW.out.trans (b1.mono HW.out.size)
        have HO2 : Hid (OwnS w1 w.heap.size (.slice pv no cv) out) := HO1.out.below b1 (Nat.le_refl _)
        have HIN : Hid (Rk.InS w1 q m cc (f ⟨num, q, m, cc, last⟩)) := HP.out.ins _ HW1.out _ HM.out
        clear c0 c1 c2
        obtain ⟨b', o', x', hpe, hx', c0, c1, c2⟩ := Cks.cells (HP.out.at_ _ HW1.out) (j := k) (by have := HN.out; omega)
        obtain ⟨rfl, rfl⟩ : b = b' ∧ o = o' := by cases hpe; exact ⟨rfl, rfl⟩
        obtain rfl : ⟨num, q, m, cc, last⟩ = x' := by
          have h1 := HD.out
          rw [Bl.drop_at hx'] at h1
          injection h1 with h2
          exact h2.symm
        simp only at c0 c1 c2
        clear hcall b1 HO1 hpe hx'
        by_cases h0 : Rk.Rc.chE num (f ⟨num, q, m, cc, last⟩) = 0
        · have hz0 : (Rk.Rc.chE num (f ⟨num, q, m, cc, last⟩) != 0) = false := by simpa using h0
          by_cases h1 : num = (k : Int)
          · by_cases h2 : last = decide (k + 1 = n)
            · have HS : Hid (Bl.stepE n k out ⟨num, q, m, cc, last⟩ (f ⟨num, q, m, cc, last⟩) = Bl.ordE out (f ⟨num, q, m, cc, last⟩)) := Bl.step_ord h0 ⟨h1, h2⟩
              have hnk : (num != (k : Int)) = false := by simpa using h1
              have hll : (last == ((k : Int) == (n : Int) - 1)) = true := by
                rw [h2]
                by_cases hq : k + 1 = n
                · have : ((k : Int) == (n : Int) - 1) = true := by simp; omega
                  rw [this]
                  simp [hq]
                · have : ((k : Int) == (n : Int) - 1) = false := by simp; omega
                  rw [this]
                  simp [hq]
              clear h0 h1 h2
              by_cases hm : m = 0
              · subst hm
                have HR1 : Hid (Bl.ordE out (f ⟨num, q, 0, cc, last⟩) = 0) := by
                  have := HIN.out.lenq
                  rw [List.eq_nil_of_length_eq_zero this]
                  rfl
                have HSR : Hid (Bl.run f n 0 [] l = Bl.run f n (k + 1) (out ++ f ⟨num, q, 0, cc, last⟩) (l.drop (k + 1))) := by unfold Hid; rw [HQ.out, HD.out, Bl.run_ok (HS.out.trans HR1.out)]
                have HL : Hid ((f ⟨num, q, 0, cc, last⟩).length ≤ 16 ∧ k ≤ 4095) := Bl.step_len (HS.out.trans HR1.out)
                go_wp2_with fail
                go_quiet (fail)
                have HWq : Hid (Below w.heap.size w (w1.drewN nq)) := below_drewN HW1.out nq
                have HOq : Hid (OwnS (w1.drewN nq) w.heap.size (.slice pv no cv) out) := HO2.out.below (below_drewN (Below.refl _ _) nq) (Nat.le_refl _)
                have HINq : Hid (Rk.InS (w1.drewN nq) q 0 cc (f ⟨num, q, 0, cc, last⟩)) := Rk.InS.up HIN.out (below_drewN (Below.refl _ _) nq)
                obtain ⟨b', o', x', hpe, hx', a0, a1, a2⟩ := Cks.cells (HP.out.at_ _ HWq.out) (j := k) (by have := HN.out; omega)
                obtain ⟨rfl, rfl⟩ : b = b' ∧ o = o' := by cases hpe; exact ⟨rfl, rfl⟩
                obtain rfl : ⟨num, q, 0, cc, last⟩ = x' := by
                  have h1 := HD.out
                  rw [Bl.drop_at hx'] at h1
                  injection h1 with h2
                  exact h2.symm
                clear hpe hx' c0 c1 c2
                generalize w1.drewN nq = wq at *
                have hsts : Sts wq q (f ⟨num, q, 0, cc, last⟩) := ins_sts HINq.out
                go_wp2_with (at_builtin; refine appL stknd Try.underlying38 stinfo rfl _ rfl _ _ rfl w.heap.size _ _ (f ⟨num, q, 0, cc, last⟩) rfl _ _ _ rfl HINq.out.lenq hsts HINq.out.nil (by exact HOq.out) (by unfold maxLen; have := HNO.out; have := HL.out; have := HINq.out.lenq; omega) (by have := HNO.out; have := HL.out; have := HINq.out.lenq; omega) HWq.out.size ?_; intro v8 w8 h1 h2 h3; refine Hid.out ?_)
                unfold Hid
                have HO8 : Hid (OwnS w8 w.heap.size v8 (out ++ f ⟨num, q, 0, cc, last⟩)) := h1
                have HW8 : Hid (Below w.heap.size w w8) := HWq.out.trans (app_below HOq.out h2 HWq.out.size)
                have hlen8 : (out ++ f ⟨num, q, 0, cc, last⟩).length ≤ (k + 1) * 16 := by
                  have := HNO.out
                  have := HL.out
                  rw [List.length_append]
                  omega
                have hk8 := HL.out.2
                clear h1 h2 h3 a0 a1 a2 hsts
                go_wp2
                go_roundw
                case rel => exact ⟨k + 1, _, by omega, by omega, by go_num, hlen8, HO8, HW8, HSR⟩
                case measure => simp [intOf]; omega
              · have hm1 : (0 : Int) < (m : Int) := by omega
                have hm3 : 0 < m := by omega
                obtain ⟨b2, o2, g, rfl, hg, -, f0, f1, f2⟩ := HIN.out.at (j := 0) (by omega)
                rw [Nat.zero_mul, Nat.add_zero] at f0 f1 f2
                by_cases hno : no = 0
                · subst hno
                  have HR1 : Hid (Bl.ordE out (f ⟨num, some ⟨b2, o2, none⟩, m, cc, last⟩) = 0) := by
                    rw [List.eq_nil_of_length_eq_zero HNO.out]
                    unfold Hid Bl.ordE
                    split
                    · rfl
                    · rw [Bl.above_nil]; rfl
                  clear hg f1 f2
                  have HSR : Hid (Bl.run f n 0 [] l = Bl.run f n (k + 1) (out ++ f ⟨num, some ⟨b2, o2, none⟩, m, cc, last⟩) (l.drop (k + 1))) := by unfold Hid; rw [HQ.out, HD.out, Bl.run_ok (HS.out.trans HR1.out)]
                  have HL : Hid ((f ⟨num, some ⟨b2, o2, none⟩, m, cc, last⟩).length ≤ 16 ∧ k ≤ 4095) := Bl.step_len (HS.out.trans HR1.out)
                  go_wp2_with fail
                  go_quiet (fail)
                  have HWq : Hid (Below w.heap.size w (w1.drewN nq)) := below_drewN HW1.out nq
                  have HOq : Hid (OwnS (w1.drewN nq) w.heap.size (.slice pv 0 cv) out) := HO2.out.below (below_drewN (Below.refl _ _) nq) (Nat.le_refl _)
                  have HINq : Hid (Rk.InS (w1.drewN nq) (some ⟨b2, o2, none⟩) m cc (f ⟨num, some ⟨b2, o2, none⟩, m, cc, last⟩)) := Rk.InS.up HIN.out (below_drewN (Below.refl _ _) nq)
                  obtain ⟨b', o', x', hpe, hx', a0, a1, a2⟩ := Cks.cells (HP.out.at_ _ HWq.out) (j := k) (by have := HN.out; omega)
                  obtain ⟨rfl, rfl⟩ : b = b' ∧ o = o' := by cases hpe; exact ⟨rfl, rfl⟩
                  obtain rfl : ⟨num, some ⟨b2, o2, none⟩, m, cc, last⟩ = x' := by
                    have h1 := HD.out
                    rw [Bl.drop_at hx'] at h1
                    injection h1 with h2
                    exact h2.symm
                  clear hpe hx' c0 c1 c2 f0
                  generalize w1.drewN nq = wq at *
                  have hsts : Sts wq (some ⟨b2, o2, none⟩) (f ⟨num, some ⟨b2, o2, none⟩, m, cc, last⟩) := ins_sts HINq.out
                  go_wp2_with (at_builtin; refine appL stknd Try.underlying38 stinfo rfl _ rfl _ _ rfl w.heap.size _ _ (f ⟨num, some ⟨b2, o2, none⟩, m, cc, last⟩) rfl _ _ _ rfl HINq.out.lenq hsts HINq.out.nil (by exact HOq.out) (by unfold maxLen; have := HNO.out; have := HL.out; have := HINq.out.lenq; omega) (by have := HNO.out; have := HL.out; have := HINq.out.lenq; omega) HWq.out.size ?_; intro v8 w8 h1 h2 h3; refine Hid.out ?_)
                  unfold Hid
                  have HO8 : Hid (OwnS w8 w.heap.size v8 (out ++ f ⟨num, some ⟨b2, o2, none⟩, m, cc, last⟩)) := h1
                  have HW8 : Hid (Below w.heap.size w w8) := HWq.out.trans (app_below HOq.out h2 HWq.out.size)
                  have hlen8 : (out ++ f ⟨num, some ⟨b2, o2, none⟩, m, cc, last⟩).length ≤ (k + 1) * 16 := by
                    have := HNO.out
                    have := HL.out
                    rw [List.length_append]
                    omega
                  have hk8 := HL.out.2
                  clear h1 h2 h3 a0 a1 a2 hsts
                  go_wp2
                  go_roundw
                  case rel => exact ⟨k + 1, _, by omega, by omega, by go_num, hlen8, HO8, HW8, HSR⟩
                  case measure => simp [intOf]; omega
                · obtain ⟨j, rfl⟩ : ∃ j, no = j + 1 := ⟨no - 1, by omega⟩
                  obtain ⟨b3, o3, y, hpv, hy, y0, -, -⟩ := Sts.cells (by obtain ⟨p', c', hv', he', -, -⟩ := HO2.out.els stknd; injection hv' with e1 e2 e3; subst e1; exact he') (j := j) (by have := HNO.out; omega)
                  subst hpv
                  have HG : Hid (Bl.ordE out (f ⟨num, some ⟨b2, o2, none⟩, m, cc, last⟩) = if Bl.gt g.key y.key then 0 else 150) := by
                    unfold Hid Bl.ordE
                    split
                    · rename_i hs
                      rw [hs] at hg
                      simp at hg
                    · rename_i a r hs
                      rw [hs] at hg
                      simp at hg
                      subst hg
                      rw [Bl.above_last HNO.out hy]
                  have hsub : ((j + 1 : Nat) : Int) - 1 = (j : Int) := by omega
                  have hj1 : (j : Int) < ((j + 1 : Nat) : Int) := by omega
                  obtain ⟨no, hNO⟩ : ∃ no, j + 1 = no := ⟨_, rfl⟩
                  have hno1 : (0 : Int) < (no : Int) := by omega
                  have hno3 : 0 < no := by omega
                  rw [hNO] at hsub hj1 HO2 HNO ⊢
                  clear hno hy hNO hg f1 f2
                  have hgl := Bl.gt_le g.key y.key
                  cases hle : Rk.Rc.le g.key y.key with
                  | false =>
                    rw [hle] at hgl
                    have HR1 : Hid (Bl.ordE out (f ⟨num, some ⟨b2, o2, none⟩, m, cc, last⟩) = 0) := by unfold Hid; rw [HG.out, hgl]; rfl
                    have hcmp : (Op.bytesLess g.key.toList y.key.toList || g.key.toList == y.key.toList) = false := hle
                    clear hgl hle
                    have HSR : Hid (Bl.run f n 0 [] l = Bl.run f n (k + 1) (out ++ f ⟨num, some ⟨b2, o2, none⟩, m, cc, last⟩) (l.drop (k + 1))) := by unfold Hid; rw [HQ.out, HD.out, Bl.run_ok (HS.out.trans HR1.out)]
                    have HL : Hid ((f ⟨num, some ⟨b2, o2, none⟩, m, cc, last⟩).length ≤ 16 ∧ k ≤ 4095) := Bl.step_len (HS.out.trans HR1.out)
                    go_wp2_with fail
                    go_quiet (fail)
                    have HWq : Hid (Below w.heap.size w (w1.drewN nq)) := below_drewN HW1.out nq
                    have HOq : Hid (OwnS (w1.drewN nq) w.heap.size (.slice (some ⟨b3, o3, none⟩) no cv) out) := HO2.out.below (below_drewN (Below.refl _ _) nq) (Nat.le_refl _)
                    have HINq : Hid (Rk.InS (w1.drewN nq) (some ⟨b2, o2, none⟩) m cc (f ⟨num, some ⟨b2, o2, none⟩, m, cc, last⟩)) := Rk.InS.up HIN.out (below_drewN (Below.refl _ _) nq)
                    obtain ⟨b', o', x', hpe, hx', a0, a1, a2⟩ := Cks.cells (HP.out.at_ _ HWq.out) (j := k) (by have := HN.out; omega)
                    obtain ⟨rfl, rfl⟩ : b = b' ∧ o = o' := by cases hpe; exact ⟨rfl, rfl⟩
                    obtain rfl : ⟨num, some ⟨b2, o2, none⟩, m, cc, last⟩ = x' := by
                      have h1 := HD.out
                      rw [Bl.drop_at hx'] at h1
                      injection h1 with h2
                      exact h2.symm
                    clear hpe hx' c0 c1 c2 f0 y0
                    generalize w1.drewN nq = wq at *
                    have hsts : Sts wq (some ⟨b2, o2, none⟩) (f ⟨num, some ⟨b2, o2, none⟩, m, cc, last⟩) := ins_sts HINq.out
                    go_wp2_with (at_builtin; refine appL stknd Try.underlying38 stinfo rfl _ rfl _ _ rfl w.heap.size _ _ (f ⟨num, some ⟨b2, o2, none⟩, m, cc, last⟩) rfl _ _ _ rfl HINq.out.lenq hsts HINq.out.nil (by exact HOq.out) (by unfold maxLen; have := HNO.out; have := HL.out; have := HINq.out.lenq; omega) (by have := HNO.out; have := HL.out; have := HINq.out.lenq; omega) HWq.out.size ?_; intro v8 w8 h1 h2 h3; refine Hid.out ?_)
                    unfold Hid
                    have HO8 : Hid (OwnS w8 w.heap.size v8 (out ++ f ⟨num, some ⟨b2, o2, none⟩, m, cc, last⟩)) := h1
                    have HW8 : Hid (Below w.heap.size w w8) := HWq.out.trans (app_below HOq.out h2 HWq.out.size)
                    have hlen8 : (out ++ f ⟨num, some ⟨b2, o2, none⟩, m, cc, last⟩).length ≤ (k + 1) * 16 := by
                      have := HNO.out
                      have := HL.out
                      rw [List.length_append]
                      omega
                    have hk8 := HL.out.2
                    clear h1 h2 h3 a0 a1 a2 hsts
                    go_wp2
                    go_roundw
                    case rel => exact ⟨k + 1, _, by omega, by omega, by go_num, hlen8, HO8, HW8, HSR⟩
                    case measure => simp [intOf]; omega
                  | true =>
                    rw [hle] at hgl
                    have HS2 : Hid (Bl.res f l = (150, [])) := by
                      have h150 : Bl.stepE n k out ⟨num, some ⟨b2, o2, none⟩, m, cc, last⟩ (f ⟨num, some ⟨b2, o2, none⟩, m, cc, last⟩) = 150 := by rw [HS.out, HG.out, hgl]; rfl
                      unfold Hid
                      rw [HR.out, HQ.out, HD.out, Bl.run_no (by rw [h150]; decide), h150]
                    have hcmp : (Op.bytesLess g.key.toList y.key.toList || g.key.toList == y.key.toList) = true := hle
                    clear hgl hle
                    go_wp2_with fail
                    go_quiet (fail)
                    go_wp2
                    go_ret2
                    rw [HS2.out]
                    exact ⟨_, rfl, Own.nil _ _ _, below_drewN HW1.out nq⟩
            · have HS : Hid (Bl.res f l = (1, [])) := by
                have h1' := Bl.step_place (N := n) (k := k) (out := out) (x := ⟨num, q, m, cc, last⟩) h0 (fun h => h2 h.2)
                unfold Hid
                rw [HR.out, HQ.out, HD.out, Bl.run_no (by rw [h1']; decide), h1']
              have hnk : (num != (k : Int)) = false := by simpa using h1
              have hll : (last == ((k : Int) == (n : Int) - 1)) = false := by
                by_cases hq : k + 1 = n
                · have : ((k : Int) == (n : Int) - 1) = true := by simp; omega
                  rw [this]
                  simp [hq] at h2
                  simp [h2]
                · have : ((k : Int) == (n : Int) - 1) = false := by simp; omega
                  rw [this]
                  simp [hq] at h2
                  simp [h2]
              clear h0 h1 h2
              go_wp2
              go_ret2
              rw [HS.out]
              exact ⟨_, rfl, Own.nil _ _ _, HW1.out⟩
          · have HS : Hid (Bl.res f l = (1, [])) := by
              have h1' := Bl.step_place (N := n) (k := k) (out := out) (x := ⟨num, q, m, cc, last⟩) h0 (fun h => h1 h.1)
              unfold Hid
              rw [HR.out, HQ.out, HD.out, Bl.run_no (by rw [h1']; decide), h1']
            have hnk : (num != (k : Int)) = true := by simpa using h1
            clear h0 h1
            go_wp2
            go_ret2
            rw [HS.out]
            exact ⟨_, rfl, Own.nil _ _ _, HW1.out⟩
        · have HS : Hid (Bl.res f l = (Rk.Rc.chE num (f ⟨num, q, m, cc, last⟩), [])) := by
            have h1' := Bl.step_bad (N := n) (k := k) (out := out) (x := ⟨num, q, m, cc, last⟩) h0
            unfold Hid
            rw [HR.out, HQ.out, HD.out, Bl.run_no (by rw [h1']; exact h0), h1']
          have hz0 : (Rk.Rc.chE num (f ⟨num, q, m, cc, last⟩) != 0) = true := by simpa using h0
          clear h0
          go_wp2
          go_ret2
          rw [HS.out]
          exact ⟨_, rfl, Own.nil _ _ _, HW1.out⟩
      · obtain rfl : k = n := by omega
        have hli : ¬ ((k : Int) < (k : Int)) := by omega
        have HS : Hid (Bl.res f l = (0, out)) := by
          unfold Hid
          rw [HR.out, HQ.out, List.drop_eq_nil_of_le (by have := HN.out; omega)]
          rfl
        have HO1 : Hid (OwnS wr w.heap.size (.slice pv no cv) out) := by have := HO.out; rw [hno] at this; exact this
        clear hels hnil hle HO
        go_wp2
        go_ret2
        rw [HS.out]
        exact ⟨_, rfl, HO1.out, HW.out⟩
end Go.Proofs.Ytcoibnlecdemcaa
