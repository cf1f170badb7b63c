/- When something is answered as free, each session that was pinned when it was retired has been unpinned since, whatever a script does. -/
import Derived.Test.YtndmcjkbbedoeaaEpSf
namespace Go.Proofs.Ytndmcjkbbedoeaa
open Go.ChangeShapes Go.WideShapes Go.ChangeAt Go.RowKit Go.Maps
set_option linter.unusedVariables false
set_option maxRecDepth 100000

set_option maxHeartbeats 16000000 in
theorem walk_epochSafe (p : Option Addr) (len cap : Nat) (l : List Eop) (w : World) (hin : InE w p len cap l) :
    Calls Try.prog 4 #[.slice p len cap] w fun e w' => e = .returned (.bool true) ∧ Below w.heap.size w w' := by
  have HI : Hid (InE w p len cap l) := hin
  have hlen : len ≤ 3518437208780 := Nat.le_trans hin.le hin.room
  clear hin
  have hmm := @run_makeMap Try.prog
  go_enter Try.func4, Try.ntmps4
  go_wp2_with fail
  refine (new_any w).mono ?_
  rintro r w1 ⟨rfl, hE1, hb1, hs1⟩
  have HE1 : Hid (Epn w1 w.heap.size [w.heap.size] Ep.fresh) := hE1
  have HB1 : Hid (Below w.heap.size w w1) := hb1
  clear hE1 hb1 hs1
  go_wp2_with fail
  refine (begun_any _).mono ?_
  rintro r w2 ⟨rfl, hb2⟩
  have hS2 : Sc w w2 w.heap.size 0 [w.heap.size] Ep.fresh := ⟨HE1.out.below hb2, by simp, HB1.out.trans (hb2.mono HB1.out.size), ⟨Nat.le_refl _, Nat.le_refl _⟩⟩
  obtain ⟨ws, hws, hSg⟩ := safe_start (n := len) hS2
  have HS2 : Hid (Sg w ws w.heap.size w2.heap.size (w2.heap.size + 1) len 0 [w.heap.size] Ep.fresh (List.replicate 17 0) (fun _ => none)) := hSg
  clear hb2 HE1 HB1 hS2 hSg
  go_wp2_with fail
  clear hmm
  generalize w2.heap.size = bp at *
  generalize bp + 1 = M at *
  go_loopw [26] (fun iv wr => ∃ (j : Nat) (bs : List Nat) (e : Ep) (c : List Int) (f : Nat → Option (List Int)), j ≤ len ∧ iv = .int .i64 j ∧ Hid (Sg w wr w.heap.size bp M len j bs e c f) ∧ Hid (Iv e c f j)) (fun iv _ => len - (intOf iv).toNat)
  case atStart => exact ⟨0, _, _, _, _, Nat.zero_le _, rfl, HS2.out, Iv.fresh⟩
  case round =>
    clear HS2 hws
    obtain ⟨j, bs, e, c, f, hj, rfl, HS, HV⟩ := hrel
    by_cases hlt : j < len
    · have hli : (j : Int) < (len : Int) := by omega
      obtain ⟨b, o, g, rfl, hg, hok, hb, c0, c1, c2, c3, c4⟩ := (HI.out.up HS.out.sc.below).at hlt
      obtain ⟨wo, hwo, hto, hso, d0, d1, d2, d3, d4⟩ := op_box wr g
      have HTO : Hid (Tn [] wr wo) := hto
      have HKO : Hid (Bk wo wr.heap.size 33 #[.int .i64 g.dd, .int .i64 g.s, .int .i64 g.x.k, .int .i64 g.x.s, .int .i64 g.x.g]) := by rw [← hwo]; exact Bk.new _ _ _
      have HNB : Hid (wr.heap.size ∉ bs) := fun hm => by have := HS.out.sc.ep.lt _ hm; omega
      have HEO : Hid (Epn wo w.heap.size bs e) := HS.out.sc.ep.tn hto (by simp)
      have HN : Hid (e.now ≤ 4611686018427387904 ∧ e.cur.length ≤ 3600000000000) := by
        have h1 := HS.out.sc.le.now
        have h2 := HS.out.sc.le.len
        exact ⟨by omega, by omega⟩
      clear hg hok hb hto hso
      by_cases h0 : g.dd = 0
      · rw [h0] at hwo d0 c0 HKO
        clear h0
        as_aux_lemma =>
          by_cases hs : g.s < 0 ∨ 16 < g.s
          · go_wp2_with fail
            refine (pin_bad HEO.out.cNow HEO.out.n1 g.s hs).mono ?_
            rintro r w3 ⟨rfl, rfl⟩
            have HS4 : Hid (Sg w w3 w.heap.size bp M len (j + 1) bs e c f) := HS.out.still HTO.out (Nat.le_succ _)
            have HV4 : Hid (Iv e c f (j + 1)) := HV.out.up (Nat.le_succ _)
            clear hs
            go_wp2
            go_roundw
            case rel => exact ⟨j + 1, bs, e, c, f, by omega, by go_num, HS4, HV4⟩
            case measure => simp [intOf]; omega
          · obtain ⟨sn, hsn⟩ := Int.eq_ofNat_of_zero_le (show 0 ≤ g.s by omega)
            have h17 : sn < 17 := by omega
            rw [hsn] at hwo d1 c1 HKO
            clear hs hsn
            go_wp2_with fail
            refine (pin_any HEO.out sn h17).mono ?_
            rintro r w3 ⟨rfl, hT⟩
            by_cases hp : e.pin sn = 0
            · rw [if_pos hp] at hT ⊢
              obtain ⟨bs', hS3, -, ht3⟩ := HS.out.turn (k := j + 1) HTO.out hT ⟨Nat.le_succ_of_le HS.out.sc.le.now, Nat.le_succ_of_le HS.out.sc.le.len⟩
              obtain ⟨hz, hV3⟩ := HV.out.pin h17 hp
              have hbd := HV.out.bd sn h17
              have hk3 := HKO.out.tn ht3 HNB.out
              have x1 : w3.cell? ⟨wr.heap.size, 1, none⟩ = some (.int .i64 (sn : Int)) := hk3.cell 1
              have y1 : w3.cell? ⟨bp, sn, none⟩ = some (.int .i64 (cAt c sn)) := (hS3.kp.cell sn).trans (pinCells_at c sn (by rw [HV.out.cl]; exact h17))
              have y2 : w3.frozen? ⟨bp, sn, none⟩ = false := hS3.kp.frozen sn
              have HS4 : Hid (Sg w (w3.setCell ⟨bp, sn, none⟩ (.int .i64 (-cAt c sn + 1))) w.heap.size bp M len (j + 1) bs' (e.setPin sn e.now) (c.set sn (-cAt c sn + 1)) f) := hS3.count sn _
              have HV4 : Hid (Iv (e.setPin sn e.now) (c.set sn (-cAt c sn + 1)) f (j + 1)) := hV3
              have g0 : (0 : Int) ≤ (sn : Int) := by omega
              have g1 : (sn : Int) < 17 := by omega
              clear hT hS3 ht3 hV3 hk3 hp
              generalize cAt c sn = z at *
              have hz1 : -3600000000000 ≤ z := by omega
              clear hbd
              have hzz : (if z < -z then -z else z) + 1 = -z + 1 := by split <;> omega
              go_wp2_with fail
              go_region
              clear hzz
              have HS5 : Hid (Sg w (w3.setCell ⟨bp, sn, none⟩ (.int .i64 (-z + 1))).drew w.heap.size bp M len (j + 1) bs' (e.setPin sn e.now) (c.set sn (-z + 1)) f) := HS4.out.still (Tn.refl _ _).drew (Nat.le_refl _)
              clear HS4 x1 y1 y2
              go_wp2
              go_roundw
              case rel => exact ⟨j + 1, bs', _, _, f, by omega, by go_num, HS5, HV4⟩
              case measure => simp [intOf]; omega
            · rw [if_neg hp] at hT ⊢
              obtain ⟨bs', hS3, -, ht3⟩ := HS.out.turn (k := j + 1) HTO.out hT ⟨Nat.le_succ_of_le HS.out.sc.le.now, Nat.le_succ_of_le HS.out.sc.le.len⟩
              have HS4 : Hid (Sg w w3 w.heap.size bp M len (j + 1) bs' e c f) := hS3
              have HV4 : Hid (Iv e c f (j + 1)) := HV.out.up (Nat.le_succ _)
              clear hT hS3 ht3 hp
              go_wp2
              go_roundw
              case rel => exact ⟨j + 1, bs', e, c, f, by omega, by go_num, HS4, HV4⟩
              case measure => simp [intOf]; omega
      · by_cases h1 : g.dd = 1
        · rw [h1] at hwo d0 c0 HKO
          clear h0 h1
          as_aux_lemma =>
            by_cases hs : g.s < 0 ∨ 16 < g.s
            · go_wp2_with fail
              refine (unpin_bad HEO.out.cNow HEO.out.n1 g.s hs).mono ?_
              rintro r w3 ⟨rfl, rfl⟩
              have HS4 : Hid (Sg w w3 w.heap.size bp M len (j + 1) bs e c f) := HS.out.still HTO.out (Nat.le_succ _)
              have HV4 : Hid (Iv e c f (j + 1)) := HV.out.up (Nat.le_succ _)
              clear hs
              go_wp2
              go_roundw
              case rel => exact ⟨j + 1, bs, e, c, f, by omega, by go_num, HS4, HV4⟩
              case measure => simp [intOf]; omega
            · obtain ⟨sn, hsn⟩ := Int.eq_ofNat_of_zero_le (show 0 ≤ g.s by omega)
              have h17 : sn < 17 := by omega
              rw [hsn] at hwo d1 c1 HKO
              clear hs hsn
              go_wp2_with fail
              refine (unpin_any HEO.out sn h17).mono ?_
              rintro r w3 ⟨rfl, hT⟩
              by_cases hp : e.pin sn = 0
              · rw [if_pos hp]
                rw [Ep.setPin_same hp (by rw [HV.out.p17]; exact h17)] at hT
                obtain ⟨bs', hS3, -, ht3⟩ := HS.out.turn (k := j + 1) HTO.out hT ⟨Nat.le_succ_of_le HS.out.sc.le.now, Nat.le_succ_of_le HS.out.sc.le.len⟩
                have HS4 : Hid (Sg w w3 w.heap.size bp M len (j + 1) bs' e c f) := hS3
                have HV4 : Hid (Iv e c f (j + 1)) := HV.out.up (Nat.le_succ _)
                clear hT hS3 ht3 hp
                go_wp2
                go_roundw
                case rel => exact ⟨j + 1, bs', e, c, f, by omega, by go_num, HS4, HV4⟩
                case measure => simp [intOf]; omega
              · rw [if_neg hp]
                obtain ⟨bs', hS3, -, ht3⟩ := HS.out.turn (k := j + 1) HTO.out hT ⟨Nat.le_succ_of_le HS.out.sc.le.now, Nat.le_succ_of_le HS.out.sc.le.len⟩
                obtain ⟨hz, hV3⟩ := HV.out.unpin h17 hp
                have hbd := HV.out.bd sn h17
                have hk3 := HKO.out.tn ht3 HNB.out
                have x1 : w3.cell? ⟨wr.heap.size, 1, none⟩ = some (.int .i64 (sn : Int)) := hk3.cell 1
                have y1 : w3.cell? ⟨bp, sn, none⟩ = some (.int .i64 (cAt c sn)) := (hS3.kp.cell sn).trans (pinCells_at c sn (by rw [HV.out.cl]; exact h17))
                have y2 : w3.frozen? ⟨bp, sn, none⟩ = false := hS3.kp.frozen sn
                have HS5 : Hid (Sg w (w3.setCell ⟨bp, sn, none⟩ (.int .i64 (-cAt c sn))).drew w.heap.size bp M len (j + 1) bs' (e.setPin sn 0) (c.set sn (-cAt c sn)) f) := (hS3.count sn _).still (Tn.refl _ _).drew (Nat.le_refl _)
                have HV4 : Hid (Iv (e.setPin sn 0) (c.set sn (-cAt c sn)) f (j + 1)) := hV3.up (Nat.le_succ _)
                have g0 : (0 : Int) ≤ (sn : Int) := by omega
                have g1 : (sn : Int) < 17 := by omega
                clear hT hS3 ht3 hV3 hk3 hp
                generalize cAt c sn = z at *
                have hz1 : z ≤ 3600000000000 := by omega
                clear hbd
                go_wp2_with fail
                go_region
                clear x1 y1 y2
                go_wp2
                go_roundw
                case rel => exact ⟨j + 1, bs', _, _, f, by omega, by go_num, HS5, HV4⟩
                case measure => simp [intOf]; omega
        · by_cases h2 : g.dd = 2
          · rw [h2] at hwo d0 c0 HKO
            clear h0 h1 h2
            as_aux_lemma =>
              go_wp2_with fail
              refine (retire_any HEO.out (numb j) HN.out.2).mono ?_
              rintro r w3 ⟨rfl, hT⟩
              obtain ⟨bs', hS3, -, -⟩ := HS.out.turn (k := j + 1) HTO.out hT ((HS.out.sc.le.retire (numb j)).up (by omega) (by omega))
              have HV4 : Hid (Iv (e.retire (numb j)) c (upd f j c) (j + 1)) := HV.out.retire
              have HS3 : Hid (Sg w w3 w.heap.size bp M len (j + 1) bs' (e.retire (numb j)) c f) := hS3
              have HM3 : Hid (Mp w3 M len f) := hS3.mp
              have hcl := HV.out.cl
              obtain ⟨a0, a1, a2, a3, a4, a5, a6, a7, a8, a9, a10, a11, a12, a13, a14, a15, a16, hc⟩ := list17 hcl
              have HC : Hid (c = [a0, a1, a2, a3, a4, a5, a6, a7, a8, a9, a10, a11, a12, a13, a14, a15, a16] ∧ c.length = 17) := ⟨hc, hcl⟩
              have hkp := hS3.kp
              rw [hc] at hkp
              have k0 : w3.cell? ⟨bp, 0, none⟩ = some (.int .i64 a0) := hkp.cell 0
              have k1 : w3.cell? ⟨bp, 1, none⟩ = some (.int .i64 a1) := hkp.cell 1
              have k2 : w3.cell? ⟨bp, 2, none⟩ = some (.int .i64 a2) := hkp.cell 2
              have k3 : w3.cell? ⟨bp, 3, none⟩ = some (.int .i64 a3) := hkp.cell 3
              have k4 : w3.cell? ⟨bp, 4, none⟩ = some (.int .i64 a4) := hkp.cell 4
              have k5 : w3.cell? ⟨bp, 5, none⟩ = some (.int .i64 a5) := hkp.cell 5
              have k6 : w3.cell? ⟨bp, 6, none⟩ = some (.int .i64 a6) := hkp.cell 6
              have k7 : w3.cell? ⟨bp, 7, none⟩ = some (.int .i64 a7) := hkp.cell 7
              have k8 : w3.cell? ⟨bp, 8, none⟩ = some (.int .i64 a8) := hkp.cell 8
              have k9 : w3.cell? ⟨bp, 9, none⟩ = some (.int .i64 a9) := hkp.cell 9
              have k10 : w3.cell? ⟨bp, 10, none⟩ = some (.int .i64 a10) := hkp.cell 10
              have k11 : w3.cell? ⟨bp, 11, none⟩ = some (.int .i64 a11) := hkp.cell 11
              have k12 : w3.cell? ⟨bp, 12, none⟩ = some (.int .i64 a12) := hkp.cell 12
              have k13 : w3.cell? ⟨bp, 13, none⟩ = some (.int .i64 a13) := hkp.cell 13
              have k14 : w3.cell? ⟨bp, 14, none⟩ = some (.int .i64 a14) := hkp.cell 14
              have k15 : w3.cell? ⟨bp, 15, none⟩ = some (.int .i64 a15) := hkp.cell 15
              have k16 : w3.cell? ⟨bp, 16, none⟩ = some (.int .i64 a16) := hkp.cell 16
              clear hT hS3 hc hkp hcl
              go_wp2_with (at_mapUpdate; refine wp_update_pin rfl _ _ _ rfl M len f rfl HM3.out j hlt (by omega) rfl c HC.out.2 (by rw [HC.out.1]; rfl) ?_)
              intro w4 hM4 ht4
              have HS5 : Hid (Sg w w4 w.heap.size bp M len (j + 1) bs' (e.retire (numb j)) c (upd f j c)) := HS3.out.other ht4 HS3.out.n2 HS3.out.l2 (HS3.out.kp.tn ht4 (by have := HS3.out.n3; simp; omega)) hM4
              clear hM4 ht4 k0 k1 k2 k3 k4 k5 k6 k7 k8 k9 k10 k11 k12 k13 k14 k15 k16
              go_wp2
              go_roundw
              case rel => exact ⟨j + 1, bs', _, c, _, by omega, by go_num, HS5, HV4⟩
              case measure => simp [intOf]; omega
          · by_cases h3 : g.dd = 3
            · rw [h3] at hwo d0 c0 HKO
              clear h0 h1 h2 h3
              as_aux_lemma =>
                cases hh : e.held with
                | true =>
                  go_wp2_with fail
                  refine (advance_held HEO.out hh).mono ?_
                  rintro r w3 ⟨rfl, rfl⟩
                  have HS4 : Hid (Sg w w3 w.heap.size bp M len (j + 1) bs e c f) := HS.out.still HTO.out (Nat.le_succ _)
                  have HV4 : Hid (Iv e c f (j + 1)) := HV.out.up (Nat.le_succ _)
                  clear hh
                  go_wp2_with fail
                  go_loopw [88] (fun iv wr2 => iv = .int .i64 0 ∧ wr2 = w3) (fun _ _ => 0)
                  case atStart => exact ⟨rfl, rfl⟩
                  case round =>
                    obtain ⟨rfl, rfl⟩ := hrel
                    go_wp2
                    go_roundw
                    case rel => exact ⟨j + 1, bs, e, c, f, by omega, by go_num, HS4, HV4⟩
                    case measure => simp [intOf]; omega
                | false =>
                  go_wp2_with fail
                  refine (advance_any HEO.out HN.out.1 hh).mono ?_
                  rintro r w3 ⟨va, rfl, hA⟩
                  obtain ⟨bs5, hS5, hr5, hn5⟩ := HS.out.adv HTO.out hA
                  obtain ⟨no, hno⟩ : ∃ no, e.old.length = no := ⟨_, rfl⟩
                  have HNO : Hid (e.old.length = no ∧ no ≤ 3600000000000) := ⟨hno, by have := HS.out.sc.le.len; omega⟩
                  obtain ⟨pa, ca, ea, -⟩ := hr5.form
                  rw [hno] at ea
                  subst ea
                  have HR : Hid (∀ W', (∀ b, (Value.slice pa no ca).ownBlock = some b → W'.heap[b]? = w3.heap[b]?) → Rr W' (.slice pa no ca) e.old) := fun W' hb => owns_kp (S := (Value.slice pa no ca).ownBlock.toList) hr5 (fun k hk => hb k (opt_toList.1 hk)) (fun k hk => opt_toList.2 hk)
                  have HNR : Hid (∀ b, (Value.slice pa no ca).ownBlock = some b → b < w3.heap.size ∧ b ≠ bp ∧ b ≠ M) := fun b hb => ⟨hr5.lt b hb, (hn5 b hb).2⟩
                  have HSA : Hid (∀ m, m < no → ∃ k y, k < j ∧ rtAt e.old m = numb k ∧ ridL f (e.old.take m) k = some y ∧ y.length = 17 ∧ ∀ s, s < 17 → 0 < cAt y s → cAt c s ≠ cAt y s) := fun m hm => HV.out.safe hh (by rw [hno]; exact hm)
                  have HS5 : Hid (Sg w w3 w.heap.size bp M len (j + 1) bs5 e.next c (ridL f (e.old.take 0))) := by rw [Hid, List.take_zero, ridL_nil]; exact hS5
                  have HV5 : Hid (Iv e.next c (ridL f e.old) (j + 1)) := HV.out.next.up (Nat.le_succ _)
                  have HCL : Hid (c.length = 17) := HV.out.cl
                  have hno2 := HNO.out.2
                  clear hA hS5 hr5 hn5 hh hno
                  go_wp2_with fail
                  go_loopw [88] (fun iv wr2 => ∃ m : Nat, m ≤ no ∧ iv = .int .i64 m ∧ Hid (Sg w wr2 w.heap.size bp M len (j + 1) bs5 e.next c (ridL f (e.old.take m))) ∧ Hid (w3.heap.size ≤ wr2.heap.size ∧ ∀ b, (Value.slice pa no ca).ownBlock = some b → wr2.heap[b]? = w3.heap[b]?)) (fun iv _ => no - (intOf iv).toNat)
                  case atStart => exact ⟨0, Nat.zero_le _, rfl, HS5, Nat.le_refl _, fun b hb => rfl⟩
                  case round =>
                    obtain ⟨m, hm, rfl, HSm, HRm⟩ := hrel
                    by_cases hltm : m < no
                    · have hlim : (m : Int) < (no : Int) := by omega
                      obtain ⟨k, y, hkj, hek, hfk, hy17, hsafe⟩ := HSA.out m hltm
                      have hRow := HR.out wr HRm.out.2
                      obtain ⟨gg, cc, hgg⟩ := hRow.has (by rw [HNO.out.1]; omega)
                      rw [HNO.out.1] at hgg
                      cases hgg
                      have hcells := hRow.cell HNO.out.1 m hltm
                      rw [hek] at hcells
                      obtain ⟨r0, r1, r2⟩ := hcells
                      have HFK : Hid (ridL f (e.old.take m) k = some y) := hfk
                      have HRI : Hid (ridL f (e.old.take (m + 1)) = rid (ridL f (e.old.take m)) k) := by
                        rw [Hid, take_snoc (rtAt_mem (by rw [HNO.out.1]; exact hltm)), hek, ridL_snoc]
                      have HSF : Hid (∀ s, s < 17 → 0 < cAt y s → cAt c s ≠ cAt y s) := hsafe
                      have HY17 : Hid (y.length = 17) := hy17
                      obtain ⟨y0, y1, y2, y3, y4, y5, y6, y7, y8, y9, y10, y11, y12, y13, y14, y15, y16, hyv⟩ := list17 hy17
                      have HPV : Hid (pinVal y = .agg #[.int .i64 y0, .int .i64 y1, .int .i64 y2, .int .i64 y3, .int .i64 y4, .int .i64 y5, .int .i64 y6, .int .i64 y7, .int .i64 y8, .int .i64 y9, .int .i64 y10, .int .i64 y11, .int .i64 y12, .int .i64 y13, .int .i64 y14, .int .i64 y15, .int .i64 y16]) := by rw [Hid, hyv]; rfl
                      have htx : Tn [] wr (wr.alloc (.cells #[.int .i64 (k : Int), .int .i64 0, .int .i64 0] 31)) := (Tn.refl _ _).alloc _
                      have kx : Bk (wr.alloc (.cells #[.int .i64 (k : Int), .int .i64 0, .int .i64 0] 31)) wr.heap.size 31 #[.int .i64 (k : Int), .int .i64 0, .int .i64 0] := Bk.new _ _ _
                      have x0 : (wr.alloc (.cells #[.int .i64 (k : Int), .int .i64 0, .int .i64 0] 31)).cell? ⟨wr.heap.size, 0, none⟩ = some (.int .i64 (k : Int)) := kx.cell 0
                      have hty : Tn [] wr ((wr.alloc (.cells #[.int .i64 (k : Int), .int .i64 0, .int .i64 0] 31)).alloc (.cells #[.int .i64 y0, .int .i64 y1, .int .i64 y2, .int .i64 y3, .int .i64 y4, .int .i64 y5, .int .i64 y6, .int .i64 y7, .int .i64 y8, .int .i64 y9, .int .i64 y10, .int .i64 y11, .int .i64 y12, .int .i64 y13, .int .i64 y14, .int .i64 y15, .int .i64 y16] 45)) := htx.alloc _
                      have ky : Bk ((wr.alloc (.cells #[.int .i64 (k : Int), .int .i64 0, .int .i64 0] 31)).alloc (.cells #[.int .i64 y0, .int .i64 y1, .int .i64 y2, .int .i64 y3, .int .i64 y4, .int .i64 y5, .int .i64 y6, .int .i64 y7, .int .i64 y8, .int .i64 y9, .int .i64 y10, .int .i64 y11, .int .i64 y12, .int .i64 y13, .int .i64 y14, .int .i64 y15, .int .i64 y16] 45)) (wr.heap.size + 1) 45 (pinCells y) := by
                        rw [hyv]
                        have := Bk.new (wr.alloc (.cells #[.int .i64 (k : Int), .int .i64 0, .int .i64 0] 31)) 45 #[.int .i64 y0, .int .i64 y1, .int .i64 y2, .int .i64 y3, .int .i64 y4, .int .i64 y5, .int .i64 y6, .int .i64 y7, .int .i64 y8, .int .i64 y9, .int .i64 y10, .int .i64 y11, .int .i64 y12, .int .i64 y13, .int .i64 y14, .int .i64 y15, .int .i64 y16]
                        rw [World.size_alloc] at this
                        exact this
                      have kxy := kx.alloc (.cells #[.int .i64 y0, .int .i64 y1, .int .i64 y2, .int .i64 y3, .int .i64 y4, .int .i64 y5, .int .i64 y6, .int .i64 y7, .int .i64 y8, .int .i64 y9, .int .i64 y10, .int .i64 y11, .int .i64 y12, .int .i64 y13, .int .i64 y14, .int .i64 y15, .int .i64 y16] 45)
                      have x1 : ((wr.alloc (.cells #[.int .i64 (k : Int), .int .i64 0, .int .i64 0] 31)).alloc (.cells #[.int .i64 y0, .int .i64 y1, .int .i64 y2, .int .i64 y3, .int .i64 y4, .int .i64 y5, .int .i64 y6, .int .i64 y7, .int .i64 y8, .int .i64 y9, .int .i64 y10, .int .i64 y11, .int .i64 y12, .int .i64 y13, .int .i64 y14, .int .i64 y15, .int .i64 y16] 45)).cell? ⟨wr.heap.size, 0, none⟩ = some (.int .i64 (k : Int)) := kxy.cell 0
                      have HMX : Hid (Mp (wr.alloc (.cells #[.int .i64 (k : Int), .int .i64 0, .int .i64 0] 31)) M len (ridL f (e.old.take m))) := HSm.out.mp.tn htx (by simp)
                      have HMY : Hid (Mp ((wr.alloc (.cells #[.int .i64 (k : Int), .int .i64 0, .int .i64 0] 31)).alloc (.cells #[.int .i64 y0, .int .i64 y1, .int .i64 y2, .int .i64 y3, .int .i64 y4, .int .i64 y5, .int .i64 y6, .int .i64 y7, .int .i64 y8, .int .i64 y9, .int .i64 y10, .int .i64 y11, .int .i64 y12, .int .i64 y13, .int .i64 y14, .int .i64 y15, .int .i64 y16] 45)) M len (ridL f (e.old.take m))) := HSm.out.mp.tn hty (by simp)
                      have HKY : Hid (Bk ((wr.alloc (.cells #[.int .i64 (k : Int), .int .i64 0, .int .i64 0] 31)).alloc (.cells #[.int .i64 y0, .int .i64 y1, .int .i64 y2, .int .i64 y3, .int .i64 y4, .int .i64 y5, .int .i64 y6, .int .i64 y7, .int .i64 y8, .int .i64 y9, .int .i64 y10, .int .i64 y11, .int .i64 y12, .int .i64 y13, .int .i64 y14, .int .i64 y15, .int .i64 y16] 45)) (wr.heap.size + 1) 45 (pinCells y)) := ky
                      have HSY : Hid (Sg w ((wr.alloc (.cells #[.int .i64 (k : Int), .int .i64 0, .int .i64 0] 31)).alloc (.cells #[.int .i64 y0, .int .i64 y1, .int .i64 y2, .int .i64 y3, .int .i64 y4, .int .i64 y5, .int .i64 y6, .int .i64 y7, .int .i64 y8, .int .i64 y9, .int .i64 y10, .int .i64 y11, .int .i64 y12, .int .i64 y13, .int .i64 y14, .int .i64 y15, .int .i64 y16] 45)) w.heap.size bp M len (j + 1) bs5 e.next c (ridL f (e.old.take m))) := HSm.out.still hty (Nat.le_refl _)
                      have HTY : Hid (Tn [] wr ((wr.alloc (.cells #[.int .i64 (k : Int), .int .i64 0, .int .i64 0] 31)).alloc (.cells #[.int .i64 y0, .int .i64 y1, .int .i64 y2, .int .i64 y3, .int .i64 y4, .int .i64 y5, .int .i64 y6, .int .i64 y7, .int .i64 y8, .int .i64 y9, .int .i64 y10, .int .i64 y11, .int .i64 y12, .int .i64 y13, .int .i64 y14, .int .i64 y15, .int .i64 y16] 45))) := hty
                      have hkl : k < len := by omega
                      clear hek hfk hsafe hy17 hyv hRow htx kx kxy ky hty
                      go_wp2_with (first
                        | (at_lookup; refine wp_lookup_pin rfl _ _ rfl M len (ridL f (e.old.take m)) rfl HMX.out k hkl (by omega) rfl y HFK.out (.agg #[.int .i64 y0, .int .i64 y1, .int .i64 y2, .int .i64 y3, .int .i64 y4, .int .i64 y5, .int .i64 y6, .int .i64 y7, .int .i64 y8, .int .i64 y9, .int .i64 y10, .int .i64 y11, .int .i64 y12, .int .i64 y13, .int .i64 y14, .int .i64 y15, .int .i64 y16]) HPV.out ?_)
                        | (at_delete; refine wp_delete_pin rfl _ _ rfl M len (ridL f (e.old.take m)) rfl HMY.out k hkl (by omega) rfl ?_))
                      intro w7 hM7 ht7
                      have hMlt := HSm.out.mp.lt
                      have HS7 : Hid (Sg w w7 w.heap.size bp M len (j + 1) bs5 e.next c (ridL f (e.old.take (m + 1)))) := by
                        rw [Hid, HRI.out]
                        exact HSY.out.other ht7 HSY.out.n2 HSY.out.l2 (HSY.out.kp.tn ht7 (by have := HSY.out.n3; simp; omega)) hM7
                      have HK7 : Hid (Bk w7 (wr.heap.size + 1) 45 (pinCells y)) := HKY.out.tn ht7 (by simp; omega)
                      have HR7 : Hid (w3.heap.size ≤ w7.heap.size ∧ ∀ b, (Value.slice (some ⟨gg, 0, none⟩) no ca).ownBlock = some b → w7.heap[b]? = w3.heap[b]?) := by
                        have h1 := HRm.out.1
                        have h2 := HTY.out.size
                        have h3 := ht7.size
                        refine ⟨by omega, fun b hb => ?_⟩
                        have h4 := HNR.out b hb
                        exact (ht7.block b (by omega) (by simp; omega)).trans ((HTY.out.block b (by omega) (by simp)).trans (HRm.out.2 b hb))
                      clear hM7 ht7 HSY HKY HTY HMX HMY x0 x1 r0 r1 r2 HSm HRm HFK HPV HRI hMlt
                      go_wp2_with fail
                      generalize wr.heap.size + 1 = bw at *
                      go_loopw [104] (fun iv wr4 => ∃ s : Nat, s ≤ 17 ∧ iv = .int .i64 s ∧ ∃ q, wr4 = w7.drewN q) (fun iv _ => 17 - (intOf iv).toNat)
                      case atStart => exact ⟨0, Nat.zero_le _, rfl, 0, rfl⟩
                      case round =>
                        obtain ⟨s, hs, rfl, q, rfl⟩ := hrel
                        by_cases hs17 : s < 17
                        · have hsi : (s : Int) < 17 := by omega
                          have hs0 : (0 : Int) ≤ (s : Int) := by omega
                          have z0 : w7.cell? ⟨bw, s, none⟩ = some (.int .i64 (cAt y s)) := (HK7.out.cell s).trans (pinCells_at y s (by rw [HY17.out]; exact hs17))
                          have z1 : w7.cell? ⟨bp, s, none⟩ = some (.int .i64 (cAt c s)) := (HS7.out.kp.cell s).trans (pinCells_at c s (by rw [HCL.out]; exact hs17))
                          have hsf := HSF.out s hs17
                          generalize cAt y s = ya at *
                          generalize cAt c s = ca' at *
                          by_cases hpos : 0 < ya
                          · have hne : (ca' == ya) = false := by simpa using hsf hpos
                            clear hsf
                            go_wp2_with fail
                            go_quiet (fail)
                            go_wp2
                            go_roundw
                            case rel => exact ⟨s + 1, by omega, by go_num, _, rfl⟩
                            case measure => simp [intOf]; omega
                          · have hd : decide (0 < ya) = false := decide_eq_false hpos
                            clear hsf
                            go_wp2_with fail
                            go_quiet (fail)
                            go_wp2
                            go_roundw
                            case rel => exact ⟨s + 1, by omega, by go_num, _, rfl⟩
                            case measure => simp [intOf]; omega
                        · have hsi : ¬ (s : Int) < 17 := by omega
                          have HS8 : Hid (Sg w (w7.drewN q) w.heap.size bp M len (j + 1) bs5 e.next c (ridL f (e.old.take (m + 1)))) := HS7.out.still (tn_drewN _ _) (Nat.le_refl _)
                          have HR8 : Hid (w3.heap.size ≤ (w7.drewN q).heap.size ∧ ∀ b, (Value.slice (some ⟨gg, 0, none⟩) no ca).ownBlock = some b → (w7.drewN q).heap[b]? = w3.heap[b]?) := HR7.out
                          clear HS7 HK7 HR7
                          go_wp2
                          go_roundw
                          case rel => exact ⟨m + 1, by omega, by go_num, HS8, HR8⟩
                          case measure => simp [intOf]; omega
                    · have hlim : ¬ (m : Int) < (no : Int) := by omega
                      have hmn : m = no := by omega
                      subst hmn
                      have HS6 : Hid (Sg w wr w.heap.size bp M len (j + 1) bs5 e.next c (ridL f e.old)) := by
                        have := HSm.out
                        rwa [List.take_of_length_le (by rw [HNO.out.1]; exact Nat.le_refl _)] at this
                      clear HSm HRm HS5
                      go_wp2
                      go_roundw
                      case rel => exact ⟨j + 1, bs5, e.next, c, _, by omega, by go_num, HS6, HV5⟩
                      case measure => simp [intOf]; omega
            · have q0 : (g.dd == 0) = false := by simp [h0]
              have q1 : (g.dd == 1) = false := by simp [h1]
              have q2 : (g.dd == 2) = false := by simp [h2]
              have q3 : (g.dd == 3) = false := by simp [h3]
              generalize g.dd = dd at *
              have HS4 : Hid (Sg w wo w.heap.size bp M len (j + 1) bs e c f) := HS.out.still HTO.out (Nat.le_succ _)
              have HV4 : Hid (Iv e c f (j + 1)) := HV.out.up (Nat.le_succ _)
              clear HKO
              go_wp2
              go_roundw
              case rel => exact ⟨j + 1, bs, e, c, f, by omega, by go_num, HS4, HV4⟩
              case measure => simp [intOf]; omega
    · have hli : ¬ (j : Int) < (len : Int) := by omega
      have hjl : j = len := by omega
      subst hjl
      have HSZ : Hid ((ents f j).length = e.old.length + e.cur.length) := HV.out.size (Nat.le_refl _)
      have HMP : Hid (∀ k, Mp (wr.drewN k) M j f) := fun k => HS.out.mp.tn (tn_drewN _ _) (by simp)
      have HBE : Hid (∀ k, Below w.heap.size w (wr.drewN k)) := fun k => below_drewN HS.out.sc.below _
      go_wp2_with fail
      refine (waiting_any (HS.out.sc.ep.choose_spec.2) (by have := HS.out.sc.le.now; omega) (by have := HS.out.sc.le.len; omega)).mono ?_
      rintro r w3 ⟨rfl, k, rfl⟩
      go_wp2_with (at_len; refine wp_len_pin rfl _ rfl M j f rfl (HMP.out k) ?_)
      rw [HSZ.out]
      go_wp2
      go_ret
      exact ⟨by simp, HBE.out k⟩


set_option maxRecDepth 100000 in
set_option maxHeartbeats 2000000 in
theorem lifted_epochSafe (os : Os) (started : os.Started) (H : Type) (enc : TypeId × Value → H) :
    ReturnsInHanded {} Try.checked os 4 .any (Rows.epochSafeSpec.pre6 enc Try.prog Try.f4 Rows.epochSafeRow.domain false) (Rows.epochSafeSpec.post enc Try.prog Try.f4 false true false false) := by
  refine returnsInHanded_of_change_sized (C := Try.checked) own started (by kernel_rfl) Try.func4
    (ChangeSpec.witness6 (enc := enc) (C := Try.checked) false ⟨#[], #[.slice none 0 0], []⟩ 8 (by kernel_rfl) (by kernel_rfl) (by kernel_rfl) (by kernel_rfl)) ?_
  intro W base args ds gs before hval0 hW _ hsz0 _
  have hsz : (DataW.weightsEach Try.prog (Try.f4.params.toList ++ Rows.epochSafeSpec.plain.varTypes Try.prog) (ds ++ gs)).all (· ≤ reachBytes) = true := hsz0
  clear hsz0
  have hval : ∀ (j : Nat) t v, Try.f4.params[j]? = some t → args[j]? = some v → Value.okWide Try.prog W .any base t v := hval0
  have hW' := hW
  obtain ⟨p, q, hA0, hV, rfl, hfz, hnd⟩ := hW
  have hA : DataW.TrodAll enc Try.prog W 0 (fun _ => true) true Try.f4.params.toList args.toList ds p := hA0
  rw [Try.params4] at hA hval hsz
  obtain ⟨v0, vs0, d0, ds0, p0, q0, hargs, rfl, rfl, h0, r0⟩ := trodAll_cons hA
  obtain ⟨rfl, rfl, rfl⟩ := trodAll_nil r0
  obtain rfl : args = #[v0] := by cases args; simp_all
  obtain ⟨rfl, rfl⟩ := trodVars_none hV
  obtain ⟨a0, len0, cap0, rfl⟩ := okWide_slice Try.underlying22 (hval 0 22 v0 rfl rfl)
  have k0 := h0
  have lt0 : ∀ x ∈ p0, x.block < W.heap.size := by obtain ⟨m, hm⟩ := k0; exact DataW.trod_lt m _ _ _ hm
  obtain ⟨z0, w0⟩ : ∃ l, InE W a0 len0 cap0 l := by
    refine in_eops h0 fun n hn => ?_
    have := of_decide_eq_true (List.all_eq_true.1 hsz _ (DataW.weights_mem_each (j := 0) (t := 22) rfl rfl n hn))
    simp only [reachBytes] at this
    omega
  clear hA0 hval0
  refine (walk_epochSafe a0 len0 cap0 z0 W w0).mono fun e W' ⟨he, bel⟩ => ?_
  subst he
  exact ⟨_, rfl, _, _, _, [], _, [], hW', trodAll_mk1 (shut_bool Try.underlying4 _), (trodAll_cons_mk (Below.trod laidOut (by kernel_rfl) (of_decide_eq_true (by kernel_rfl)) k0 bel lt0) trodAll_mk0), rfl, bel.frame _, fun h => by cases h⟩

/-- The statement. -/
theorem epochSafe_holds : Rows.EpochSafeSaid :=
  OpenClaim.holds_of_wide 4 Try.f4 rfl rfl rfl rfl rfl rfl rfl ⟨rfl, rfl, rfl, rfl, rfl⟩ rfl rfl rfl rfl rfl (by kernel_rfl) Try.func4 (by kernel_rfl)
    (of_decide_eq_true (by kernel_rfl)) (by unfold Func.isWrapper; first | (rw [if_pos (by decide +kernel)]; kernel_rfl) | (rw [if_neg (by decide +kernel)]; exact ⟨rfl, rfl⟩))
    (fun os started H enc _ => lifted_epochSafe os started H enc)
#print axioms epochSafe_holds
end Go.Proofs.Ytndmcjkbbedoeaa
