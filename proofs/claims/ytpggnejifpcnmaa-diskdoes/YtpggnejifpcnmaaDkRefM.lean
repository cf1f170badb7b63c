/- The reference: a new one, the walk. -/
import Derived.Test.YtpggnejifpcnmaaDkRefN
namespace Go.Proofs.Ytpggnejifpcnmaa
open Go.RowKit Go.Shelf Go.Maps
set_option linter.unusedVariables false

set_option maxRecDepth 100000 in
set_option maxHeartbeats 4000000 in
theorem rnew (n : Nat) (w : World) (h1 : 1 ≤ n) (h2 : n ≤ 16384) :
    Calls Try.prog 10 #[.int .i64 (n : Int)] w fun e w' => ∃ R bs, e = .returned (.tuple #[.pointer (some ⟨R, 0, none⟩), .int .i64 0]) ∧ Rf w' R bs (Dk.fresh n) ∧ (∀ b ∈ bs, w.heap.size ≤ b) ∧ Below w.heap.size w w' := by
  have i1 : ¬ (n : Int) < 1 := by omega
  have i2 : ¬ (16384 : Int) < (n : Int) := by omega
  go_enter Try.func10, Try.ntmps10
  go_wp2_with (refine wp_make_secW rfl _ _ rfl rfl rfl ?_; intro wh zd hld hzd hzbk hbh hsd; refine Hid.out ?_)
  unfold Hid
  have hrow : Row wh w.heap.size zd := Row.of_sec hzbk
  have cv := conv_str hrow.bys 512 512 hld
  obtain ⟨st, hst⟩ : ∃ st, st = strOfNums zd := ⟨_, rfl⟩
  rw [← hst] at cv
  have HST : Hid (st = strOfNums zeros) := by rw [Hid, hst, hzd]
  have HBH : Hid (Below w.heap.size w wh) := hbh
  clear hrow hst hzd hzbk hbh hsd
  go_wp2_with (refine wp_make_bools rfl _ _ rfl n h2 rfl rfl ?_; intro w2 hbr hb2; refine Hid.out ?_)
  unfold Hid
  have HB2 : Hid (Below w.heap.size w w2) := HBH.out.trans (hb2.mono HBH.out.size)
  have HBR : Hid (BRow w2 wh.heap.size n (fun _ => false)) := hbr
  have HDl : Hid (w.heap.size ≤ wh.heap.size) := HBH.out.size
  clear hbr hb2 HBH cv
  generalize wh.heap.size = D at *
  go_wp2_with fail
  obtain ⟨W3, hW3, hr3⟩ := rn_start st HBR.out HB2.out HDl.out
  rw [← hW3]
  have HR3 : Hid (Rn w st w2.heap.size D n (w2.heap.size + 1) 0 (.slice none 0 0) (.slice none 0 0) W3) := hr3
  clear hW3 hr3 HBR
  generalize w2.heap.size = R at *
  generalize R + 1 = base at *
  go_loopw [6] (fun iv wr => ∃ (j : Nat) (vN vS : Value), j ≤ n ∧ iv = .int .i64 j ∧ Hid (Rn w st R D n base j vN vS wr)) (fun iv _ => n - (intOf iv).toNat)
  case atStart => exact ⟨0, _, _, Nat.zero_le _, rfl, HR3⟩
  case round =>
    obtain ⟨j, vN, vS, hj, rfl, HR⟩ := hrel
    clear HR3
    by_cases hq : j < n
    · have hqi : (j : Int) < (n : Int) := by omega
      have c0 := HR.out.blk.cell 0
      have f0 := HR.out.blk.frozen 0
      simp at c0
      have hjn : j ≤ 16384 := by omega
      obtain ⟨w4, hw4⟩ : ∃ w4, w4 = wr.alloc (.cells #[.string st] 9) := ⟨_, rfl⟩
      have HW4 : Hid (w4 = wr.alloc (.cells #[.string st] 9)) := hw4
      have HC4 : Hid (w4.cell? ⟨wr.heap.size, 0, none⟩ = some (.string st)) := by
        rw [Hid, hw4, (Bk.new wr 9 #[.string st]).cell]
        rfl
      have HO4 : Hid (w4.ownsRow base 9 1 vN j (List.replicate j (.string st))) := row_heap HR.out.on (fun g hg => by rw [hw4]; exact Below.heap_alloc _ _ _ (row_block HR.out.on g hg).2)
      have HB4 : Hid (base ≤ w4.heap.size) := by
        rw [Hid, hw4]
        have := HR.out.bs
        simp
        omega
      clear hw4
      go_wp2_with (rw [← HW4.out]; refine wp_app_str rfl _ _ rfl base vN j _ rfl HO4.out wr.heap.size st rfl HC4.out hjn HB4.out ?_; intro x5 y5 w5 o5 g5 b5; refine Hid.out ?_)
      unfold Hid
      have hRN : R ∉ vN.ownBlock.toList := fun hm => by have := row_block HR.out.on R (by simpa using hm); have := HR.out.hb; omega
      have T4 : Tn [] wr w4 := by rw [HW4.out]; exact (Tn.refl _ _).alloc _
      have HK5 : Hid (Bk w5 R 65 #[vN, vS, .slice (some ⟨D, 0, none⟩) n n, .int .i64 0, .slice none 0 0, .int .i64 0, .bool false]) := (HR.out.blk.tn T4 (by simp)).tn (grown_tn g5) hRN
      have d0 := HK5.out.cell 0
      have d1 := HK5.out.cell 1
      have e0 := HK5.out.frozen 0
      have e1 := HK5.out.frozen 1
      simp at d0 d1
      obtain ⟨w6, hw6⟩ : ∃ w6, w6 = w5.setCell ⟨R, 0, none⟩ (.slice (some ⟨x5, 0, none⟩) (j + 1) y5) := ⟨_, rfl⟩
      obtain ⟨w7, hw7⟩ : ∃ w7, w7 = w6.alloc (.cells #[.string st] 9) := ⟨_, rfl⟩
      have HW6 : Hid (w6 = w5.setCell ⟨R, 0, none⟩ (.slice (some ⟨x5, 0, none⟩) (j + 1) y5)) := hw6
      have HW7 : Hid (w7 = w6.alloc (.cells #[.string st] 9)) := hw7
      have HW67 : Hid ((w5.setCell ⟨R, 0, none⟩ (.slice (some ⟨x5, 0, none⟩) (j + 1) y5)).alloc (.cells #[.string st] 9) = w7) := by rw [Hid, hw7, hw6]
      have s4 : w4.heap.size = wr.heap.size + 1 := by rw [HW4.out]; simp
      have s5 := g5.size
      have s6 : w6.heap.size = w5.heap.size := by rw [hw6]; simp [World.setCell]
      have s6' : (w5.setCell ⟨R, 0, none⟩ (.slice (some ⟨x5, 0, none⟩) (j + 1) y5)).heap.size = w6.heap.size := by rw [hw6]
      have HC7 : Hid (w7.cell? ⟨w6.heap.size, 0, none⟩ = some (.string st)) := by
        rw [Hid, hw7, (Bk.new w6 9 #[.string st]).cell]
        rfl
      have HO7 : Hid (w7.ownsRow base 9 1 vS j (List.replicate j (.string st))) := row_heap HR.out.os (fun g hg => by
        have h1 := row_block HR.out.os g hg
        have hgN : g ∉ vN.ownBlock.toList := fun hm => by
          rcases HR.out.ap with e | e
          · rw [e] at hm
            simp at hm
          · exact e (by rw [hg]; simpa using hm)
        have hgR : g ≠ R := by have := HR.out.hb; omega
        rw [hw7, Below.heap_alloc _ _ _ (by omega), hw6, Below.heap_setCell _ _ _ _ (by exact hgR), (grown_tn g5).block g (by omega) hgN, HW4.out]
        exact Below.heap_alloc _ _ _ h1.2)
      have HB7 : Hid (base ≤ w7.heap.size) := by
        rw [Hid, hw7]
        have := HR.out.bs
        simp
        omega
      have HO5 : Hid (w5.ownsRow base 9 1 (.slice (some ⟨x5, 0, none⟩) (j + 1) y5) (j + 1) (List.replicate j (.string st) ++ [.string st])) := o5
      have HG5 : Hid (w4.grownBy w5 vN.ownBlock) := g5
      have HV5 : Hid (some x5 = vN.ownBlock ∨ x5 = w4.heap.size) := b5
      have HS6 : Hid (w5.heap.size = w6.heap.size) := s6.symm
      clear hw6 hw7 hRN T4 o5 g5 b5 c0 f0 HO4 HC4 HB4 s4 s5 s6 s6'
      go_wp2_with (rw [HW67.out]; refine wp_app_str rfl _ _ rfl base vS j _ rfl HO7.out w6.heap.size st (by rw [← HS6.out]; rfl) HC7.out hjn HB7.out ?_; intro x8 y8 w8 o8 g8 b8; refine Hid.out ?_)
      unfold Hid
      have hRS : R ∉ vS.ownBlock.toList := fun hm => by have := row_block HR.out.os R (by simpa using hm); have := HR.out.hb; omega
      have K6 : Bk w6 R 65 #[(.slice (some ⟨x5, 0, none⟩) (j + 1) y5), vS, .slice (some ⟨D, 0, none⟩) n n, .int .i64 0, .slice none 0 0, .int .i64 0, .bool false] := by rw [HW6.out]; exact HK5.out.set 0 _
      have T7 : Tn [] w6 w7 := by rw [HW7.out]; exact (Tn.refl _ _).alloc _
      have HK8 : Hid (Bk w8 R 65 #[(.slice (some ⟨x5, 0, none⟩) (j + 1) y5), vS, .slice (some ⟨D, 0, none⟩) n n, .int .i64 0, .slice none 0 0, .int .i64 0, .bool false]) := (K6.tn T7 (by simp)).tn (grown_tn g8) hRS
      have p1 := HK8.out.cell 1
      have r1 := HK8.out.frozen 1
      simp at p1
      have HF : Hid (Rn w st R D n base (j + 1) (.slice (some ⟨x5, 0, none⟩) (j + 1) y5) (.slice (some ⟨x8, 0, none⟩) (j + 1) y8) (w8.setCell ⟨R, 1, none⟩ (.slice (some ⟨x8, 0, none⟩) (j + 1) y8))) := HR.out.next HW4.out HO5.out HG5.out (HV5.out.imp id (fun h => by rw [h]; rfl)) HW6.out HW7.out o8 g8 (b8.imp id (fun h => by rw [h]; rfl)) rfl
      clear hRS K6 T7 o8 g8 b8 d0 d1 e0 e1 HO5 HG5 HV5 HO7 HC7 HB7 HW67 HS6 HW6 HW7 HW4 HK5
      go_wp2
      go_roundw
      case rel => exact ⟨j + 1, _, _, by omega, by go_num, HF⟩
      case measure => simp [intOf]; omega
    · have hjn : n = j := by omega
      subst hjn
      have HRr : Hid (Rn w st R D n base n vN vS wr) := HR.out
      clear HR
      go_wp2
      go_ret2
      obtain ⟨gN, cN, rfl, hcN, hbN, hsN⟩ := row_srow HST.out h1 HRr.out.on
      obtain ⟨gS, cS, rfl, hcS, hbS, hsS⟩ := row_srow HST.out h1 HRr.out.os
      obtain ⟨q1, q2, q3, q4, q5⟩ := HRr.out.hb
      have hap : gN ≠ gS := by
        rcases HRr.out.ap with e | e
        · cases e
        · intro h
          exact e (by rw [h]; rfl)
      refine ⟨R, [R, gN, gS, D], rfl, ⟨gN, gS, D, cN, cS, none, 0, [], [], rfl, ?_⟩, ?_, HRr.out.below⟩
      · exact {
          blk := HRr.out.blk
          now := hsN
          sure := hsS
          dirty := HRr.out.dirty
          keep := Bls.nil _ _
          kbs := fun ad h => by cases h
          kne := by simp
          klt := by simp
          ne := by omega
          eqk := fun h => absurd rfl h
          n1 := h1
          n2 := h2
          caps := ⟨hcN, hcS⟩
          secS := fun i _ => sec_zeros
          secD := fun i x h => by cases h
          left := by simp [Dk.fresh] }
      · intro b hb
        simp at hb
        omega

end Go.Proofs.Ytpggnejifpcnmaa
