/- Steps of a draft: take, number. -/
import Derived.Test.YtlcbideongbmeaaGreatDrM
import Derived.Test.YtlcbideongbmeaaGreatDrLay
import Derived.BigRegion
import Derived.Deep.RegionHeld3
import Derived.StillTailTactics
import Derived.Shelf.RegionOpen
import Derived.Shelf.Spec.SearchS
namespace Go.Proofs.YtlcbideongbmeaaGreat
open Go.RowKit Go.Lib Go.Shelf Dr
set_option linter.unusedVariables false
set_option maxRecDepth 100000

section
variable {w : World} {base B : Nat} {ks : List (List UInt8)} {F : Fx} {s : Df} {V : Dv}

set_option maxHeartbeats 4000000 in
theorem dtake_any (h : Drn w base B ks F s V) (a : Nat) (ha : a < s.came) (hf : s.f (F.k a) = a) :
    Calls Tryz.prog 102 #[.pointer (some ⟨B, 0, none⟩), .int .i64 (a : Int)] w fun e w' => e = .returned (.tuple #[]) ∧ Drn w' base B ks F (take F s a) V ∧ Bw V B w w' := by
  obtain ⟨t1, t2, n1, n2, D1, D2, h⟩ := h
  have hc := h.inv.came
  have haR : a < F.R := by omega
  have hkK := h.inv.fx.key a haR
  have x6 : w.cell? ⟨B, 6, none⟩ = some (sl V.gt n1 V.ct) := h.at 6
  have HH : Hid (Drc w base B ks F s V t1 t2 n1 n2 D1 D2) := h
  clear h
  go_enter Tryz.func102, Tryz.ntmps102
  go_wp2_with fail
  refine (pset_any HH.out.trow HH.out.l1 HH.out.i1 HH.out.b1 a (by have := HH.out.r1; omega) 0).mono ?_
  rintro e w1 ⟨rfl, t1', g1, g2, g3, g4⟩
  have hcl : Cl w1 base B 118 (drVals F s V n1 n2) (drRows ks F s V t1' t2 n1 n2) := by
    have ho : w1.ownsRow base 3 1 (sl V.gt n1 V.ct) n1 (ints t1') := by unfold Ir at g1; rw [g2] at g1; exact g1
    exact HH.out.cl.turn (i := 5) rfl rfl g4 ho
  have y3 : w1.cell? ⟨B, 3, none⟩ = some (sl V.gk F.R V.ck) := hcl.blk.cell 3
  have y4 : w1.cell? ⟨B, 4, none⟩ = some (sl V.gn F.R V.cn) := hcl.blk.cell 4
  have y5 : w1.cell? ⟨B, 5, none⟩ = some (sl V.gf F.K V.cf) := hcl.blk.cell 5
  have kc : w1.cell? ⟨V.gk, a, none⟩ = some (.int .i64 (F.k a : Nat)) := by rw [row_ints (hcl.row 2 _ rfl) a haR, ofs_at]; rfl
  have nc : w1.cell? ⟨V.gn, a, none⟩ = some (.int .i64 (F.n a : Nat)) := by rw [row_ints (hcl.row 3 _ rfl) a haR, ofs_at]; rfl
  have fr : w1.ownsRow base 3 1 (sl V.gf F.K V.cf) F.K (ints (ofs s.fs)) := hcl.row 4 _ rfl
  have fc := row_ints fr (F.k a) hkK
  have ff : w1.frozen? ⟨V.gf, F.k a, none⟩ = false := World.ownsRow.frozenAt fr _
  have hst := World.ownsRow.stored fr (F.k a) (.int .i64 (F.n a : Nat))
  have HE : Hid (Drn (w1.setCell ⟨V.gf, F.k a, none⟩ (.int .i64 (F.n a : Nat))).drew base B ks F (take F s a) V ∧ Bw V B w (w1.setCell ⟨V.gf, F.k a, none⟩ (.int .i64 (F.n a : Nat))).drew) := by
    have ht := tn_grown hst.2
    have hB1 : Bw V B w w1 := Bw.of g4 (by simp [Dv.bs])
    have hcl2 := (hcl.turn (i := 4) rfl rfl ht hst.1).still (Tn.drew (Tn.refl [] _))
    refine ⟨⟨t1', t2, n1, n2, D1, D2, ?_⟩, hB1.trans (Bw.of ht.drew (by simp [Dv.bs]))⟩
    refine { HH.out with cl := ?_, inv := take_inv HH.out.inv ha hf, l1 := g2, i1 := by rw [xT_take HH.out.inv ha hf]; exact g3, i2 := HH.out.i2 }
    have e : drRows ks F (take F s a) V t1' t2 n1 n2 = (drRows ks F s V t1' t2 n1 n2).set 4 ⟨3, 1, sl V.gf F.K V.cf, F.K, (ints (ofs s.fs)).set (F.k a) (.int .i64 (F.n a : Nat))⟩ := by
      have : ints (ofs (take F s a).fs) = (ints (ofs s.fs)).set (F.k a) (.int .i64 (F.n a : Nat)) := by
        show ints (ofs (s.fs.set (F.k a) (F.n a))) = _
        rw [ofs_set]; simp [ints, List.map_set]
      unfold drRows
      rw [this]; rfl
    rw [e]
    exact hcl2
  have ai : (a : Int) < (F.R : Int) := by omega
  have a0 : (0 : Int) ≤ (a : Int) := by omega
  have ki : ((F.k a : Nat) : Int) < (F.K : Int) := by omega
  have k0 : (0 : Int) ≤ ((F.k a : Nat) : Int) := by omega
  clear g1 g2 g3 g4 hcl fr hst x6
  generalize F.k a = k at *
  generalize Pk.at' (ofs s.fs) k = y at *
  obtain ⟨m, hm⟩ : ∃ m : Int, ((F.n a : Nat) : Int) = m := ⟨_, rfl⟩
  rw [hm] at nc HE
  clear hm
  go_wp2_with fail
  go_region
  go_wp2
  go_end0
  exact ⟨rfl, HE.out.1, HE.out.2⟩

set_option maxHeartbeats 4000000 in
theorem number_row {vK : Value} {K : Nat} (x0 : w.cell? ⟨B, 0, none⟩ = some vK) (hrow : w.ownsRow base 9 1 vK K (ks.map encStr)) (hkl : ks.length = K) (hb : K ≤ 8796093022207) (hrise : Rise ks) (key : ByteArray) :
    Calls Tryz.prog 99 #[.pointer (some ⟨B, 0, none⟩), .string key] w fun e w' => e = .returned (.int .i64 (num ks key : Nat)) ∧ Tn [] w w' := by
  rcases hrow.2 with ⟨hv, hn⟩ | ⟨g, cap, cur, hv, _, _, h1, h2, _⟩
  · rw [hv] at x0
    have hnum : num ks key = 0 := by
      have : ks = [] := List.eq_nil_of_length_eq_zero (by omega)
      rw [this]; rfl
    rw [hnum]
    clear hrow hnum hrise hv
    go_enter Tryz.func99, Tryz.ntmps99
    go_wp2_with fail
    refine (Any2.slices_BinarySearch_string_empty Tryz.drSearch none 0 key w).mono ?_
    rintro e w1 ⟨rfl, rfl⟩
    go_wp2
    go_ret
    exact ⟨rfl, Tn.refl _ _⟩
  · rw [hv] at x0 hrow
    obtain ⟨Sx, HS, HN⟩ : ∃ Sx : Nat → ByteArray, Hid (∀ j, j < K → w.cell? ⟨g, 0 + j, none⟩ = some (.string (Sx j))) ∧ Hid (bsGo (fun t => Op.bytesLess (Sx t).toList key.toList) K 0 K = num ks key) := by
      refine ⟨fun t => if h : t < ks.length then ⟨ks[t].toArray⟩ else key, ?_, ?_⟩
      · intro j hj
        simp only [Nat.zero_add]
        rw [World.ownsRow.cellAt hrow j (by omega), dif_pos (by omega)]
        simp [encStr, show j < ks.length by omega]
      · rw [Hid, ← hkl]
        refine search_num hrise key (fun t => if h : t < ks.length then ⟨ks[t].toArray⟩ else key) (fun t ht => ?_) (fun t ht => ?_)
        · simp only [ht, dif_pos]
          rw [ByteArray.toList_eq]
        · rw [dif_neg (by omega)]
    obtain ⟨m, hm⟩ : ∃ m : Nat, num ks key = m := ⟨_, rfl⟩
    rw [hm] at HN ⊢
    clear hrow hrise hv hm
    go_enter Tryz.func99, Tryz.ntmps99
    go_wp2_with fail
    refine (Any2.slices_BinarySearch_string Tryz.drSearch g 0 K cap Sx key w (by omega) HS.out).mono ?_
    rw [HN.out]
    generalize decide (m < K ∧ Sx m = key) = bb
    rintro e w1 ⟨rfl, q, rfl⟩
    go_wp2
    go_ret
    exact ⟨rfl, Tn.of_below (below_drewN (Below.refl _ _) _) _⟩

theorem number_any (h : Drn w base B ks F s V) (key : ByteArray) :
    Calls Tryz.prog 99 #[.pointer (some ⟨B, 0, none⟩), .string key] w fun e w' => e = .returned (.int .i64 (num ks key : Nat)) ∧ Tn [] w w' := by
  obtain ⟨t1, t2, n1, n2, D1, D2, h⟩ := h
  exact number_row (h.at 0) h.srow h.kl h.bK h.rise key

/-- So many more have come. -/
def comes (s : Df) (m : Nat) : Df := { s with came := s.came + m }

theorem xT_come (h : Inv F (num ks) (kw ks) s) (hc : s.came < F.R) : xT F (come1 s) = Pk.upd (xT F s) s.came ((F.k s.came : Int) + 1) := by
  have hl := h.left s.came (Nat.le_refl _) hc
  funext b
  unfold xT Pk.upd
  by_cases hb : b = s.came
  · subst hb
    rw [if_neg (by omega), if_pos rfl]
    have : th F (come1 s) s.came = true := by
      unfold th
      show (decide (s.came < s.came + 1) && decide (s.f _ ≤ _)) = true
      simp [hl]
    rw [this]; rfl
  · rw [if_neg hb]
    have : th F (come1 s) b = th F s b := by
      unfold th
      show (decide (b < s.came + 1) && decide (s.f _ ≤ _)) = _
      by_cases h1 : b < s.came
      · simp [h1, show b < s.came + 1 by omega]
      · simp [h1, show ¬ b < s.came + 1 by omega]
    rw [this]

theorem Inv.comes {m : Nat} (h : Inv F (num ks) (kw ks) s) (hm : s.came + m ≤ F.R) : Inv F (num ks) (kw ks) (comes s m) := by
  induction m with
  | zero => exact h
  | succ m ih => exact come_inv (ih (by omega)) (by show s.came + m < F.R; omega)

set_option maxHeartbeats 4000000 in
theorem come_any (h : Drn w base B ks F s V) (m : Nat) (hm : s.came + m ≤ F.R) :
    Calls Tryz.prog 73 #[.pointer (some ⟨B, 0, none⟩), .int .i64 (m : Int)] w fun e w' => e = .returned (.tuple #[]) ∧ Drn w' base B ks F (comes s m) V ∧ Bw V B w w' := by
  have HH : Hid (Drn w base B ks F (comes s 0) V ∧ Bw V B w w) := ⟨h, Bw.refl _ _ _⟩
  have hmb : m ≤ 8796093022207 := by
    obtain ⟨t1, t2, n1, n2, D1, D2, h⟩ := h
    have := h.bR
    omega
  have HM : Hid (s.came + m ≤ F.R) := hm
  clear h hm
  go_enter Tryz.func73, Tryz.ntmps73
  go_wp2_with fail
  go_loopw [5] (fun i wr => ∃ k : Nat, k ≤ m ∧ i = .int .i64 (k : Int) ∧ Hid (Drn wr base B ks F (comes s k) V ∧ Bw V B w wr)) (fun i _ => m - (intOf i).toNat)
  case atStart => exact ⟨0, Nat.zero_le _, rfl, HH⟩
  case round =>
    obtain ⟨k, hk, rfl, HW⟩ := hrel
    clear HH
    by_cases hlt : k < m
    · have hki : (k : Int) < (m : Int) := by omega
      obtain ⟨⟨t1, t2, n1, n2, D1, D2, h⟩, hB⟩ := HW.out
      have hcR : (comes s k).came < F.R := by show s.came + k < F.R; have := HM.out; omega
      obtain ⟨c, hc⟩ : ∃ c : Nat, (comes s k).came = c := ⟨_, rfl⟩
      have hR := h.bR
      have hkK := h.inv.fx.key c (by omega)
      have hbK := h.bK
      have x2 : wr.cell? ⟨B, 2, none⟩ = some (.int .i64 (c : Int)) := by rw [← hc]; exact h.at 2
      have x3 : wr.cell? ⟨B, 3, none⟩ = some (sl V.gk F.R V.ck) := h.at 3
      have x6 : wr.cell? ⟨B, 6, none⟩ = some (sl V.gt n1 V.ct) := h.at 6
      have kc := h.kcell (show c < F.R by omega)
      have HD : Hid (Drc wr.drew base B ks F (comes s k) V t1 t2 n1 n2 D1 D2) := h.still (Tn.drew (Tn.refl [] _))
      have HB : Hid (Bw V B w wr) := hB
      have HC : Hid ((comes s k).came = c) := hc
      have HcR : Hid (c < F.R) := by rw [Hid, ← hc]; exact hcR
      have ci : (c : Int) < (F.R : Int) := by omega
      have c0 : (0 : Int) ≤ (c : Int) := by omega
      clear h hB hc hcR HW
      obtain ⟨y, hy⟩ : ∃ y : Nat, F.k c = y := ⟨_, rfl⟩
      rw [hy] at kc hkK
      have HY : Hid (F.k c = y) := hy
      have hyb : y ≤ 8796093022207 := by omega
      clear hy
      go_wp2_with fail
      go_still_tail 19, (by kernel_rfl)
      go_wp2_with fail
      refine (pset_any HD.out.trow HD.out.l1 HD.out.i1 HD.out.b1 c (by have := HD.out.r1; have := HcR.out; omega) ((y : Int) + 1)).mono ?_
      rintro e w1 ⟨rfl, t1', g1, g2, g3, g4⟩
      have hcl : Cl w1 base B 118 (drVals F (comes s k) V n1 n2) (drRows ks F (comes s k) V t1' t2 n1 n2) := by
        have ho : w1.ownsRow base 3 1 (sl V.gt n1 V.ct) n1 (ints t1') := by unfold Ir at g1; rw [g2] at g1; exact g1
        exact HD.out.cl.turn (i := 5) rfl rfl g4 ho
      have z2 : w1.cell? ⟨B, 2, none⟩ = some (.int .i64 (c : Int)) := by rw [← HC.out]; exact hcl.blk.cell 2
      have f2 : w1.frozen? ⟨B, 2, none⟩ = false := hcl.blk.frozen 2
      obtain ⟨hp1, hp2⟩ := hcl.put 2 (.int .i64 ((c : Int) + 1))
      obtain ⟨w2, hw2⟩ : ∃ w2, w1.setCell ⟨B, 2, none⟩ (.int .i64 ((c : Int) + 1)) = w2 := ⟨_, rfl⟩
      rw [hw2] at hp1 hp2
      have HE : Hid (Drn w2 base B ks F (comes s (k + 1)) V ∧ Bw V B w w2) := by
        have hB1 : Bw V B wr.drew w1 := Bw.of g4 (by simp [Dv.bs])
        have hB2 : Bw V B w1 w2 := Bw.of hp2 (by simp [Dv.bs])
        refine ⟨⟨t1', t2, n1, n2, D1, D2, ?_⟩, HB.out.trans ((Bw.of (Tn.drew (Tn.refl [] wr)) (by simp)).trans (hB1.trans hB2))⟩
        have hcR : (comes s k).came < F.R := by rw [HC.out]; exact HcR.out
        have hx := xT_come HD.out.inv hcR
        rw [HC.out, HY.out] at hx
        refine { HD.out with cl := ?_, inv := come_inv HD.out.inv hcR, l1 := g2, i1 := ?_, i2 := HD.out.i2 }
        · have e1 : drVals F (comes s (k + 1)) V n1 n2 = (drVals F (comes s k) V n1 n2).setIfInBounds 2 (.int .i64 ((c : Int) + 1)) := by
            have : ((comes s (k + 1)).came : Int) = (c : Int) + 1 := by
              have := HC.out
              show ((s.came + (k + 1) : Nat) : Int) = _
              have h3 : (comes s k).came = s.came + k := rfl
              omega
            unfold drVals
            rw [this]; rfl
          rw [e1]
          exact hp1
        · have : xT F (comes s (k + 1)) = xT F (come1 (comes s k)) := rfl
          rw [this, hx]
          exact g3
      clear g1 g2 g3 g4 hcl hp1 hp2 x2 x3 x6 kc HD
      have hcb : c ≤ 8796093022207 := by omega
      go_wp2
      exact ⟨⟨k + 1, by omega, by go_num, HE⟩, by simp [intOf]; omega⟩
    · have hki : ¬ (k : Int) < (m : Int) := by omega
      have hkm : k = m := by omega
      have HE : Hid (Drn wr base B ks F (comes s m) V ∧ Bw V B w wr) := by rw [← hkm]; exact HW
      go_wp2
      go_end0
      exact ⟨rfl, HE.out.1, HE.out.2⟩
end
end Go.Proofs.YtlcbideongbmeaaGreat
