/- The reference: a crash. -/
import Derived.Test.YtpggnejifpcnmaaDkRefA
namespace Go.Proofs.Ytpggnejifpcnmaa
open Go.RowKit Go.Shelf Go.Maps
set_option linter.unusedVariables false

section
variable {w : World} {R N S D cN cS : Nat} {p : Option Addr} {c : Nat} {kk : List Bool} {kb : List Nat} {d : Dk}

theorem rcells {wr : World} (h : IsRf w R N S D cN cS p c kk kb d) (k : Tn [N, S, D] w wr) :
    wr.cell? ⟨R, 0, none⟩ = some (.slice (some ⟨N, 0, none⟩) d.n cN) ∧ wr.cell? ⟨R, 1, none⟩ = some (.slice (some ⟨S, 0, none⟩) d.n cS) ∧ wr.cell? ⟨R, 2, none⟩ = some (.slice (some ⟨D, 0, none⟩) d.n d.n) ∧ Bk wr R 65 #[.slice (some ⟨N, 0, none⟩) d.n cN, .slice (some ⟨S, 0, none⟩) d.n cS, .slice (some ⟨D, 0, none⟩) d.n d.n, .int .i64 d.left, .slice p kk.length c, .int .i64 d.calls, .bool d.down] := by
  obtain ⟨n1, n2, n3, _⟩ := h.ne
  have hb := h.blk.tn k (by simp; omega)
  refine ⟨?_, ?_, ?_, hb⟩ <;> (rw [hb.cell]; rfl)

set_option maxRecDepth 100000 in
set_option maxHeartbeats 4000000 in
theorem rlose (h : IsRf w R N S D cN cS p c kk kb d) (q : Option Addr) (c' : Nat) (ks : List Bool) (len : Nat) (hlen : ks.length = len) (hks : Bls w q ks) (hkS : ∀ ad, q = some ad → 0 < ks.length → ad.block ∉ [N, S, D]) :
    Calls Try.prog 53 #[.pointer (some ⟨R, 0, none⟩), .slice q len c'] w fun e w' => e = .returned (.tuple #[]) ∧ RTurns w w' R (R :: N :: S :: D :: kb) (d.lose ks) := by
  have HD : Hid (IsRf w R N S D cN cS p c kk kb d) := h
  have HKS : Hid (∀ wr, Tn [N, S, D] w wr → Bls wr q ks) := fun wr k => hks.tn k hkS
  have HLEN : Hid (ks.length = len) := hlen
  have HNE : Hid (N ≠ S ∧ N ≠ D ∧ S ≠ D) := ⟨h.ne.2.2.2.1, h.ne.2.2.2.2.1, h.ne.2.2.2.2.2⟩
  obtain ⟨n1, n2, n3, n4, n5, n6⟩ := h.ne
  have m1 := n1.symm
  have m2 := n2.symm
  have m3 := n3.symm
  have m4 := n4.symm
  have m5 := n5.symm
  have m6 := n6.symm
  have hn2 := h.n2
  have HL0 : Hid (Rl w N S D d ks 0 0 w) := ⟨h.now.as (fun i _ => by simp), h.sure.as (fun i _ => by simp), h.dirty.as (fun i _ => by simp), Tn.refl _ _⟩
  clear h hks hkS hlen
  go_enter Try.func53, Try.ntmps53
  go_wp2_with fail
  go_loopw [4, 5] (fun nv iv wr => ∃ (j cn : Nat), j ≤ d.n ∧ iv = .int .i64 j ∧ nv = .int .i64 cn ∧ Hid (cn = (dirts d.dirty j).length) ∧ Hid (Rl w N S D d ks j j wr)) (fun _ iv _ => d.n - (intOf iv).toNat)
  case atStart => exact ⟨0, 0, Nat.zero_le _, rfl, rfl, rfl, HL0⟩
  case round =>
    obtain ⟨j, cn, hj, rfl, rfl, HC, HL⟩ := hrel
    clear HL0
    obtain ⟨r0, r1, r2, hblk⟩ := rcells HD.out HL.out.tn
    clear hblk
    by_cases hq : j < d.n
    · have hqi : (j : Int) < (d.n : Int) := by omega
      have hcn : cn ≤ 16384 := by
        have := dirts_le d.dirty j
        rw [HC.out]
        omega
      obtain ⟨b0, b1⟩ := HL.out.dirty.cell hq
      simp only [Nat.lt_irrefl, if_false] at b0
      have HDS : Hid (dirts d.dirty (j + 1) = dirts d.dirty j ++ (if (d.dirty j).isSome = true then [j] else [])) := dirts_succ _ _
      cases hdj : d.dirty j with
      | none =>
        rw [hdj] at b0
        have HL1 : Hid (Rl w N S D d ks (j + 1) j wr) := HL.out.stay (by rw [loseS, Dk.last, hdj]; simp)
        have HCN : Hid (cn = (dirts d.dirty (j + 1)).length) := by
          rw [HDS.out, hdj]
          simpa [Hid] using HC.out
        simp only [Option.isSome_none] at b0
        clear hdj HDS HL HC
        go_wp2_with fail
        clear r0 r1 r2 b0 b1
        have HDR : Hid (Rl w N S D d ks (j + 1) j wr.drew) := ⟨HL1.out.now, HL1.out.sure, HL1.out.dirty, HL1.out.tn.drew⟩
        obtain ⟨r0, r1, r2, -⟩ := rcells HD.out HL1.out.tn
        obtain ⟨n0, -⟩ := HL1.out.now.cell hq
        obtain ⟨s0, s1⟩ := HL1.out.sure.cell hq
        obtain ⟨b0, b1⟩ := HL1.out.dirty.cell hq
        simp only [Nat.lt_succ_self, if_true] at n0
        simp only [Nat.lt_irrefl, if_false] at s0 b0
        obtain ⟨xs, hxs⟩ : ∃ xs, xs = loseS d.dirty ks d.sure j := ⟨_, rfl⟩
        rw [← hxs] at n0
        have HXS : Hid (xs = loseS d.dirty ks d.sure j) := hxs
        clear hxs
        go_wp2_with fail
        refine wp_region_tail 13 (by kernel_rfl) (by kernel_rfl) ?_
        simp only [List.take_succ_cons, List.take_zero, List.drop_succ_cons, List.drop_zero]
        iterate 13 still_step
        refine wpStill_nil ?_
        go_wp2
        go_roundw
        case rel => exact ⟨j + 1, cn, by omega, by go_num, by go_num, HCN, HDR.out.over hq HNE.out (by rw [HXS.out]; rfl)⟩
        case measure => simp [intOf]; omega
      | some ys =>
        rw [hdj] at b0
        simp only [Option.isSome_some] at b0
        have HCN : Hid (cn + 1 = (dirts d.dirty (j + 1)).length) := by
          rw [HDS.out, hdj]
          simpa [Hid] using HC.out
        have HLV : Hid (loseS d.dirty ks d.sure j = if ks.getD cn false = true then ys else d.sure j) := by
          show loseS d.dirty ks d.sure j = _
          rw [loseS, hdj, HC.out]
          rfl
        have HLAST : Hid (d.last j = ys) := by
          show d.last j = ys
          rw [Dk.last, hdj]
          rfl
        clear hdj HDS HC
        by_cases hcl : cn < len
        · have hcli : (cn : Int) < (len : Int) := by omega
          obtain ⟨kb0, ko, hpe, hcs⟩ := HKS.out wr HL.out.tn (by rw [HLEN.out]; omega)
          subst hpe
          have ck := hcs cn (by rw [HLEN.out]; exact hcl)
          clear hcs
          cases hkb : ks.getD cn false with
          | true =>
            rw [hkb] at ck
            have HL1 : Hid (Rl w N S D d ks (j + 1) j wr) := HL.out.stay (by rw [HLV.out, HLAST.out, hkb]; rfl)
            clear HL HLV HLAST hkb
            go_wp2_with fail
            clear r0 r1 r2 b0 b1 ck
            have HDR : Hid (Rl w N S D d ks (j + 1) j wr.drew) := ⟨HL1.out.now, HL1.out.sure, HL1.out.dirty, HL1.out.tn.drew⟩
            obtain ⟨r0, r1, r2, -⟩ := rcells HD.out HL1.out.tn
            obtain ⟨n0, -⟩ := HL1.out.now.cell hq
            obtain ⟨s0, s1⟩ := HL1.out.sure.cell hq
            obtain ⟨b0, b1⟩ := HL1.out.dirty.cell hq
            simp only [Nat.lt_succ_self, if_true] at n0
            simp only [Nat.lt_irrefl, if_false] at s0 b0
            obtain ⟨xs, hxs⟩ : ∃ xs, xs = loseS d.dirty ks d.sure j := ⟨_, rfl⟩
            rw [← hxs] at n0
            have HXS : Hid (xs = loseS d.dirty ks d.sure j) := hxs
            clear hxs
            go_wp2_with fail
            refine wp_region_tail 13 (by kernel_rfl) (by kernel_rfl) ?_
            simp only [List.take_succ_cons, List.take_zero, List.drop_succ_cons, List.drop_zero]
            iterate 13 still_step
            refine wpStill_nil ?_
            go_wp2
            go_roundw
            case rel => exact ⟨j + 1, cn + 1, by omega, by go_num, by go_num, HCN, HDR.out.over hq HNE.out (by rw [HXS.out]; rfl)⟩
            case measure => simp [intOf]; omega
          | false =>
            rw [hkb] at ck
            have HE : Hid (loseS d.dirty ks d.sure j = d.sure j) := by
              show loseS d.dirty ks d.sure j = _
              rw [HLV.out, hkb]
              rfl
            obtain ⟨t0, t1⟩ := HL.out.now.cell hq
            obtain ⟨u0, u1⟩ := HL.out.sure.cell hq
            simp only [Nat.lt_irrefl, if_false] at t0 u0
            clear HLV HLAST hkb
            go_wp2_with fail
            refine wp_region_tail 13 (by kernel_rfl) (by kernel_rfl) ?_
            simp only [List.take_succ_cons, List.take_zero, List.drop_succ_cons, List.drop_zero]
            iterate 13 still_step
            refine wpStill_nil ?_
            obtain ⟨w5, hw5⟩ : ∃ w5, w5 = (wr.setCell ⟨N, j, none⟩ (.string (strOfNums (d.sure j)))).drew := ⟨_, rfl⟩
            have HL1 : Hid (Rl w N S D d ks (j + 1) j w5) := HL.out.drew.take hq ⟨HNE.out.1, HNE.out.2.1⟩ HE.out (by rw [hw5]; rfl)
            go_wp2_with fail
            rw [← hw5]
            clear hw5 r0 r1 r2 b0 b1 t0 t1 u0 u1 ck HL HE
            have HDR : Hid (Rl w N S D d ks (j + 1) j w5.drew) := ⟨HL1.out.now, HL1.out.sure, HL1.out.dirty, HL1.out.tn.drew⟩
            obtain ⟨r0, r1, r2, -⟩ := rcells HD.out HL1.out.tn
            obtain ⟨n0, -⟩ := HL1.out.now.cell hq
            obtain ⟨s0, s1⟩ := HL1.out.sure.cell hq
            obtain ⟨b0, b1⟩ := HL1.out.dirty.cell hq
            simp only [Nat.lt_succ_self, if_true] at n0
            simp only [Nat.lt_irrefl, if_false] at s0 b0
            obtain ⟨xs, hxs⟩ : ∃ xs, xs = loseS d.dirty ks d.sure j := ⟨_, rfl⟩
            rw [← hxs] at n0
            have HXS : Hid (xs = loseS d.dirty ks d.sure j) := hxs
            clear hxs
            go_wp2_with fail
            refine wp_region_tail 13 (by kernel_rfl) (by kernel_rfl) ?_
            simp only [List.take_succ_cons, List.take_zero, List.drop_succ_cons, List.drop_zero]
            iterate 13 still_step
            refine wpStill_nil ?_
            go_wp2
            go_roundw
            case rel => exact ⟨j + 1, cn + 1, by omega, by go_num, by go_num, HCN, HDR.out.over hq HNE.out (by rw [HXS.out]; rfl)⟩
            case measure => simp [intOf]; omega
        · have hcli : ¬ (cn : Int) < (len : Int) := by omega
          have HE : Hid (loseS d.dirty ks d.sure j = d.sure j) := by
            show loseS d.dirty ks d.sure j = _
            rw [HLV.out]
            have := HLEN.out
            simp [List.getD, show ¬ cn < ks.length by omega]
          obtain ⟨t0, t1⟩ := HL.out.now.cell hq
          obtain ⟨u0, u1⟩ := HL.out.sure.cell hq
          simp only [Nat.lt_irrefl, if_false] at t0 u0
          clear HLV HLAST
          go_wp2_with fail
          refine wp_region_tail 13 (by kernel_rfl) (by kernel_rfl) ?_
          simp only [List.take_succ_cons, List.take_zero, List.drop_succ_cons, List.drop_zero]
          iterate 13 still_step
          refine wpStill_nil ?_
          obtain ⟨w5, hw5⟩ : ∃ w5, w5 = (wr.setCell ⟨N, j, none⟩ (.string (strOfNums (d.sure j)))).drew := ⟨_, rfl⟩
          have HL1 : Hid (Rl w N S D d ks (j + 1) j w5) := HL.out.drew.take hq ⟨HNE.out.1, HNE.out.2.1⟩ HE.out (by rw [hw5]; rfl)
          go_wp2_with fail
          rw [← hw5]
          clear hw5 r0 r1 r2 b0 b1 t0 t1 u0 u1 HL HE
          have HDR : Hid (Rl w N S D d ks (j + 1) j w5.drew) := ⟨HL1.out.now, HL1.out.sure, HL1.out.dirty, HL1.out.tn.drew⟩
          obtain ⟨r0, r1, r2, -⟩ := rcells HD.out HL1.out.tn
          obtain ⟨n0, -⟩ := HL1.out.now.cell hq
          obtain ⟨s0, s1⟩ := HL1.out.sure.cell hq
          obtain ⟨b0, b1⟩ := HL1.out.dirty.cell hq
          simp only [Nat.lt_succ_self, if_true] at n0
          simp only [Nat.lt_irrefl, if_false] at s0 b0
          obtain ⟨xs, hxs⟩ : ∃ xs, xs = loseS d.dirty ks d.sure j := ⟨_, rfl⟩
          rw [← hxs] at n0
          have HXS : Hid (xs = loseS d.dirty ks d.sure j) := hxs
          clear hxs
          go_wp2_with fail
          refine wp_region_tail 13 (by kernel_rfl) (by kernel_rfl) ?_
          simp only [List.take_succ_cons, List.take_zero, List.drop_succ_cons, List.drop_zero]
          iterate 13 still_step
          refine wpStill_nil ?_
          go_wp2
          go_roundw
          case rel => exact ⟨j + 1, cn + 1, by omega, by go_num, by go_num, HCN, HDR.out.over hq HNE.out (by rw [HXS.out]; rfl)⟩
          case measure => simp [intOf]; omega
    · have hjn : d.n = j := by omega
      obtain ⟨-, -, -, hb⟩ := rcells HD.out HL.out.tn
      have HBK : Hid (Bk wr R 65 #[.slice (some ⟨N, 0, none⟩) d.n cN, .slice (some ⟨S, 0, none⟩) d.n cS, .slice (some ⟨D, 0, none⟩) d.n d.n, .int .i64 d.left, .slice p kk.length c, .int .i64 d.calls, .bool d.down]) := hb
      have c3 := hb.cell 3
      have c6 := hb.cell 6
      have f3 := hb.frozen 3
      have f6 := hb.frozen 6
      simp at c3 c6
      clear hb HC
      go_wp2
      go_end0
      have t1 : Tn [R] wr ((wr.setCell ⟨R, 3, none⟩ (.int .i64 0)).setCell ⟨R, 6, none⟩ (.bool true)) := ((Tn.refl _ _).setCell (by simp) _).setCell (by simp) _
      have t2 : Tn [N, S, D, R] w ((wr.setCell ⟨R, 3, none⟩ (.int .i64 0)).setCell ⟨R, 6, none⟩ (.bool true)) := (HL.out.tn.mono (by simp)).trans t1 (fun x hx => .inl (by simp at hx; simp [hx]))
      have hbn : Bk ((wr.setCell ⟨R, 3, none⟩ (.int .i64 0)).setCell ⟨R, 6, none⟩ (.bool true)) R 65 #[.slice (some ⟨N, 0, none⟩) d.n cN, .slice (some ⟨S, 0, none⟩) d.n cS, .slice (some ⟨D, 0, none⟩) d.n d.n, .int .i64 0, .slice p kk.length c, .int .i64 d.calls, .bool true] := (HBK.out.set 3 _).set 6 _
      refine ⟨rfl, _, ⟨N, S, D, cN, cS, p, c, kk, kb, rfl, ?_⟩, t2.mono (by simp), fun b hb => .inl hb⟩
      have hK := HD.out.kne
      have hL := HL.out
      exact {
        blk := hbn
        now := (hL.now.tn t1 (by simp; omega)).as (fun i hi => by
          have hi' : i < j := by have : (d.lose ks).n = d.n := rfl; omega
          simp only [hi', if_true]
          rfl)
        sure := (hL.sure.tn t1 (by simp; omega)).as (fun i hi => by
          have hi' : i < j := by have : (d.lose ks).n = d.n := rfl; omega
          simp only [hi', if_true]
          rfl)
        dirty := (hL.dirty.tn t1 (by simp; omega)).as (fun i hi => by
          have hi' : i < j := by have : (d.lose ks).n = d.n := rfl; omega
          simp only [hi', if_true]
          rfl)
        keep := HD.out.keep.tn t2 (fun ad ha hl hm => by
          have h0 := HD.out.kbs ad ha hl
          simp only [List.mem_cons, List.not_mem_nil, or_false] at hm
          rcases hm with e | e | e | e
          · exact hK.2.1 (e ▸ h0)
          · exact hK.2.2.1 (e ▸ h0)
          · exact hK.2.2.2 (e ▸ h0)
          · exact hK.1 (e ▸ h0))
        kbs := HD.out.kbs
        kne := HD.out.kne
        klt := fun b hb => Nat.lt_of_lt_of_le (HD.out.klt b hb) t2.size
        ne := HD.out.ne
        eqk := fun h => absurd rfl h
        n1 := HD.out.n1
        n2 := HD.out.n2
        caps := HD.out.caps
        secS := fun i hi => by
          show Sec (loseS d.dirty ks d.sure i)
          unfold loseS
          split
          · cases hdi : d.dirty i with
            | none => exact HD.out.secS i hi
            | some x => exact HD.out.secD i x hdi
          · exact HD.out.secS i hi
        secD := fun i x h => by cases h
        left := by simp [Dk.lose] }
end

end Go.Proofs.Ytpggnejifpcnmaa
