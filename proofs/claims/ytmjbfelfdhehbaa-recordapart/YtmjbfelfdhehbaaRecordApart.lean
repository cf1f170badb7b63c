/- Commits that are not the same have unlike bytes; a beginning of a commit's bytes is refused as bytes that end, one more byte as bytes behind the end. -/
import Derived.Test.YtmjbfelfdhehbaaRcLive
import Derived.Test.YtmjbfelfdhehbaaRcPre
import Derived.Test.YtmjbfelfdhehbaaRcEqR
import Derived.Test.YtmjbfelfdhehbaaRcArgs
import Derived.Test.YtmjbfelfdhehbaaRcCom2
import Derived.Deep.RegionHeld3
namespace Go.Proofs.Ytmjbfelfdhehbaa
open Go.ChangeShapes Go.WideShapes Go.ChangeAt Go.RowKit
set_option linter.unusedVariables false
set_option maxRecDepth 100000

theorem told_false {b : Bool} {P : Prop} (h : b = true ↔ P) (hn : ¬ P) : b = false := by
  cases b
  · rfl
  · exact absurd (h.1 rfl) hn

theorem in_take {B : Nat} {w : World} {p : Option Addr} {n c k : Nat} {xs : List Int} (h : InB B w p n c xs) (hk : k < n) : InB B w p k c (xs.take k) := by
  have h1 := h.lenq
  have h2 := h.le
  refine ⟨by simp; omega, fun hl => ?_, by omega, h.room, fun e => ?_, fun y hy => h.byte y (List.mem_of_mem_take hy)⟩
  · obtain ⟨b, o, hp, hc⟩ := h.bys (by omega)
    refine ⟨b, o, hp, fun i hi => ?_⟩
    simp at hi
    rw [hc i (by omega)]
    simp [List.getD, show i < k by omega]
  · have := (h.nil e).1
    omega

theorem own_form2 {w : World} {base n : Nat} {v : Value} {xs : List Int} (h : Own w base v n xs) : ∃ p c, v = .slice p n c := by
  rcases h.2 with ⟨hv, h0⟩ | ⟨g, cap, cur, hv, _⟩
  · exact ⟨none, 0, by rw [hv, h0]⟩
  · exact ⟨_, cap, hv⟩

theorem comB_len {ts : Int} {l : List Wr} (h : Rc.comE ts l = 0) : 2 ≤ (Rc.comB ts l).length ∧ (Rc.comB ts l).length ≤ 1000000 := by
  obtain ⟨-, hl, _, hz, -⟩ := Rc.comE_sizes h
  have a := Cd.width_pos ts
  have b := Cd.width_pos l.length
  have e1 := Cd.enc_length ts
  have e2 := Cd.enc_length l.length
  have hw : ∀ l : List Wr, (∀ g ∈ l, g.key.size ≤ 64 ∧ g.val.size ≤ 256) → (Rc.wsB l).length ≤ 339 * l.length := by
    intro l
    induction l with
    | nil => simp [Rc.wsB]
    | cons x r ih =>
      intro h
      have h1 := h x (by simp)
      have h2 := Rc.wrB_le h1.1 h1.2
      have h3 := ih (fun g hg => h g (by simp [hg]))
      have e : Rc.wsB (x :: r) = Rc.wrB x ++ Rc.wsB r := by simp [Rc.wsB]
      rw [e, List.length_append, List.length_cons]
      omega
  have h5 := hw l hz
  simp only [Rc.comB, List.length_append]
  omega

set_option maxHeartbeats 8000000 in
theorem walk_recordApart (ts : Int) (p : Option Addr) (len cap : Nat) (l : List Wr) (ts2 : Int) (q : Option Addr) (m qc : Nat) (l2 : List Wr) (cut : Int) (w : World) (hts : -9223372036854775808 ≤ ts ∧ ts ≤ 9223372036854775807) (hin : InW w p len cap l) (hts2 : -9223372036854775808 ≤ ts2 ∧ ts2 ≤ 9223372036854775807) (hin2 : InW w q m qc l2) (hcut : (Lit.int .u16 cut).wf = true) :
    Calls Try.prog 3 #[.agg #[.int .i64 ts, .slice p len cap], .agg #[.int .i64 ts2, .slice q m qc], .int .u16 cut] w fun e w' => e = .returned (.bool true) ∧ Below w.heap.size w w' := by
  have HI : Hid (∀ w', Below w.heap.size w w' → InW w' p len cap l) := fun w' hb => hin.up hb
  have HJ : Hid (∀ w', Below w.heap.size w w' → InW w' q m qc l2) := fun w' hb => hin2.up hb
  have hc16 := bounds_u16 hcut
  clear hin hin2 hts hts2 hcut
  have hbx : Below w.heap.size w ((w.alloc (.cells #[.int .i64 ts, .slice p len cap] 24)).alloc (.cells #[.int .i64 ts2, .slice q m qc] 24)) := ((Below.refl _ _).alloc (Nat.le_refl _) _).alloc (by simp) _
  have k1 : Bk ((w.alloc (.cells #[.int .i64 ts, .slice p len cap] 24)).alloc (.cells #[.int .i64 ts2, .slice q m qc] 24)) w.heap.size 24 #[.int .i64 ts, .slice p len cap] := (Bk.new _ _ _).alloc _
  have k2 : Bk ((w.alloc (.cells #[.int .i64 ts, .slice p len cap] 24)).alloc (.cells #[.int .i64 ts2, .slice q m qc] 24)) (w.heap.size + 1) 24 #[.int .i64 ts2, .slice q m qc] := by
    have := Bk.new (w.alloc (.cells #[.int .i64 ts, .slice p len cap] 24)) 24 #[.int .i64 ts2, .slice q m qc]
    simpa using this
  have hs : ((w.alloc (.cells #[.int .i64 ts, .slice p len cap] 24)).alloc (.cells #[.int .i64 ts2, .slice q m qc] 24)).heap.size = w.heap.size + 2 := by simp
  have HBK : Hid (∀ w', Below (w.heap.size + 2) ((w.alloc (.cells #[.int .i64 ts, .slice p len cap] 24)).alloc (.cells #[.int .i64 ts2, .slice q m qc] 24)) w' → Below w.heap.size w w' ∧ Bk w' w.heap.size 24 #[.int .i64 ts, .slice p len cap] ∧ Bk w' (w.heap.size + 1) 24 #[.int .i64 ts2, .slice q m qc]) :=
    fun w' hb => ⟨hbx.trans (hb.mono (by omega)), k1.below hb (by omega), k2.below hb (by omega)⟩
  have HB0 : Hid (Below (w.heap.size + 2) ((w.alloc (.cells #[.int .i64 ts, .slice p len cap] 24)).alloc (.cells #[.int .i64 ts2, .slice q m qc] 24)) ((w.alloc (.cells #[.int .i64 ts, .slice p len cap] 24)).alloc (.cells #[.int .i64 ts2, .slice q m qc] 24))) := Below.refl _ _
  have HSZ : Hid (∀ w', Below (w.heap.size + 2) ((w.alloc (.cells #[.int .i64 ts, .slice p len cap] 24)).alloc (.cells #[.int .i64 ts2, .slice q m qc] 24)) w' → w.heap.size + 2 ≤ w'.heap.size) := fun w' hb => by have := hb.size; omega
  clear k1 k2 hs hbx
  obtain ⟨w0, hw0⟩ : ∃ w0, ((w.alloc (.cells #[.int .i64 ts, .slice p len cap] 24)).alloc (.cells #[.int .i64 ts2, .slice q m qc] 24)) = w0 := ⟨_, rfl⟩
  rw [hw0] at HBK HB0 HSZ
  have HW0 : Hid _ := hw0
  clear hw0
  have HC : Hid (∀ w', Below (w.heap.size + 2) w0 w' → (w'.cell? ⟨w.heap.size, 0, none⟩ = some (.int .i64 ts) ∧ w'.cell? ⟨w.heap.size, 1, none⟩ = some (.slice p len cap)) ∧ (w'.cell? ⟨w.heap.size + 1, 0, none⟩ = some (.int .i64 ts2) ∧ w'.cell? ⟨w.heap.size + 1, 1, none⟩ = some (.slice q m qc))) := by
    intro w' hb
    obtain ⟨-, b1, b2⟩ := HBK.out w' hb
    exact ⟨⟨b1.cell 0, b1.cell 1⟩, ⟨b2.cell 0, b2.cell 1⟩⟩
  obtain ⟨⟨k1, k2⟩, k3, k4⟩ := HC.out _ HB0.out
  go_enter Try.func3, Try.ntmps3
  go_wp2_with fail
  rw [HW0.out]
  refine (commit_any ts p len cap l _ (HI.out _ (HBK.out _ HB0.out).1)).mono ?_
  rintro e w1 ⟨v1, rfl, hb1, ha1, hn1⟩
  have H1 : Hid (Below (w.heap.size + 2) w0 w1) := HB0.out.trans (hb1.mono (HSZ.out _ HB0.out))
  clear k1 k2 k3 k4
  obtain ⟨⟨k1, k2⟩, k3, k4⟩ := HC.out _ H1.out
  have HA1 : Hid (Rc.comE ts l = 0 → Own w1 w.heap.size v1 (Rc.comB ts l).length (Rc.comB ts l)) := fun h => (ha1 h).mono (by have := HSZ.out _ HB0.out; omega)
  clear hb1 ha1 hn1
  go_wp2_with fail
  refine (commit_any ts2 q m qc l2 _ (HJ.out _ (HBK.out _ H1.out).1)).mono ?_
  rintro e w2 ⟨v2, rfl, hb2, ha2, hn2⟩
  have H2 : Hid (Below (w.heap.size + 2) w0 w2) := H1.out.trans (hb2.mono (HSZ.out _ H1.out))
  have HA2 : Hid (Rc.comE ts2 l2 = 0 → Own w2 w.heap.size v2 (Rc.comB ts2 l2).length (Rc.comB ts2 l2)) := fun h => (ha2 h).mono (by have := HSZ.out _ H1.out; omega)
  have HB1 : Hid (Rc.comE ts l = 0 → Own w2 w.heap.size v1 (Rc.comB ts l).length (Rc.comB ts l)) := fun h => (HA1.out h).below hb2 (Nat.le_refl _)
  clear k1 k2 k3 k4 hb2 ha2 hn2 HA1
  obtain ⟨⟨k1, k2⟩, k3, k4⟩ := HC.out _ H2.out
  go_wp2_with fail
  refine (rcheckCommit_any ts p len cap l _ (HI.out _ (HBK.out _ H2.out).1)).mono ?_
  rintro e w3 ⟨rfl, hb3⟩
  have H3 : Hid (Below (w.heap.size + 2) w0 w3) := H2.out.trans (hb3.mono (HSZ.out _ H2.out))
  have HA3 : Hid (Rc.comE ts2 l2 = 0 → Own w3 w.heap.size v2 (Rc.comB ts2 l2).length (Rc.comB ts2 l2)) := fun h => (HA2.out h).below hb3 (Nat.le_refl _)
  have HB3 : Hid (Rc.comE ts l = 0 → Own w3 w.heap.size v1 (Rc.comB ts l).length (Rc.comB ts l)) := fun h => (HB1.out h).below hb3 (Nat.le_refl _)
  clear k1 k2 k3 k4 hb3 HA2 HB1
  obtain ⟨⟨k1, k2⟩, k3, k4⟩ := HC.out _ H3.out
  go_wp2_with fail
  refine (rcheckCommit_any ts2 q m qc l2 _ (HJ.out _ (HBK.out _ H3.out).1)).mono ?_
  rintro e w4 ⟨rfl, hb4⟩
  have H4 : Hid (Below (w.heap.size + 2) w0 w4) := H3.out.trans (hb4.mono (HSZ.out _ H3.out))
  have HA4 : Hid (Rc.comE ts2 l2 = 0 → Own w4 w.heap.size v2 (Rc.comB ts2 l2).length (Rc.comB ts2 l2)) := fun h => (HA3.out h).below hb4 (Nat.le_refl _)
  have HB4 : Hid (Rc.comE ts l = 0 → Own w4 w.heap.size v1 (Rc.comB ts l).length (Rc.comB ts l)) := fun h => (HB3.out h).below hb4 (Nat.le_refl _)
  clear k1 k2 k3 k4 hb4 HA3 HB3
  go_wp2_with fail
  refine (live_any _).mono ?_
  rintro e w5 ⟨rfl, hb5⟩
  have H5 : Hid (Below (w.heap.size + 2) w0 w5) := H4.out.trans (hb5.mono (HSZ.out _ H4.out))
  have HA5 : Hid (Rc.comE ts2 l2 = 0 → Own w5 w.heap.size v2 (Rc.comB ts2 l2).length (Rc.comB ts2 l2)) := fun h => (HA4.out h).below hb5 (Nat.le_refl _)
  have HB5 : Hid (Rc.comE ts l = 0 → Own w5 w.heap.size v1 (Rc.comB ts l).length (Rc.comB ts l)) := fun h => (HB4.out h).below hb5 (Nat.le_refl _)
  clear hb5 HA4 HB4
  by_cases he1 : Rc.comE ts l = 0
  · have he1b : (Rc.comE ts l != 0) = false := by simpa using he1
    by_cases he2 : Rc.comE ts2 l2 = 0
    · have he2b : (Rc.comE ts2 l2 != 0) = false := by simpa using he2
      have o1 := HB5.out he1
      have o2 := HA5.out he2
      have hlen := comB_len he1
      obtain ⟨g1, c1, hv1⟩ := o1.some (by omega)
      subst hv1
      have hy1 := o1.at
      have hc1 : (Rc.comB ts l).length ≤ c1 := (o1.inb (Rc.comB_byte he1)).le
      obtain ⟨p2, c2, hv2, -, -, hy2⟩ := o2.bys
      subst hv2
      have O6 : Hid (Own w5 w.heap.size (.slice (some ⟨g1, 0, none⟩) (Rc.comB ts l).length c1) (Rc.comB ts l).length (Rc.comB ts l)) := o1
      have Y1 : Hid (Bys w5 (some ⟨g1, 0, none⟩) (Rc.comB ts l)) := hy1
      have Y2 : Hid (Bys w5 p2 (Rc.comB ts2 l2)) := hy2
      have B1 : Hid (∀ y ∈ Rc.comB ts l, 0 ≤ y ∧ y < 256) := Rc.comB_byte he1
      have B2 : Hid (∀ y ∈ Rc.comB ts2 l2, 0 ≤ y ∧ y < 256) := Rc.comB_byte he2
      have HLB : Hid ((Rc.comB ts l).length ≤ 140737488355328) := by unfold Hid; omega
      have HLB2 : Hid ((Rc.comB ts l).length ≤ 1000000) := hlen.2
      have hlpos : 0 < (Rc.comB ts l).length := by omega
      have hlne : ¬ ((Rc.comB ts l).length = 0) := by omega
      have HD : Hid (Below (w.heap.size + 2) w0 w5.drew) := H5.out.drew
      obtain ⟨⟨k1, k2⟩, k3, k4⟩ := HC.out _ H5.out
      have HMO : Hid ((Rc.takeCom (Rc.comB ts l ++ [0])).2.2 = 13) := Rc.takeCom_more he1 0
      obtain ⟨kk, hkk⟩ : ∃ k : Nat, cut % ((Rc.comB ts l).length : Int) = (k : Int) := ⟨(cut % ((Rc.comB ts l).length : Int)).toNat, by have := Int.emod_nonneg cut (show ((Rc.comB ts l).length : Int) ≠ 0 by omega); omega⟩
      have HKK : Hid (cut % ((Rc.comB ts l).length : Int) = (kk : Int)) := hkk
      have HKL : Hid (kk < (Rc.comB ts l).length) := by
        have := Int.emod_lt_of_pos cut (show 0 < ((Rc.comB ts l).length : Int) by omega)
        unfold Hid
        omega
      have HPR : Hid ((Rc.takeCom ((Rc.comB ts l).take kk)).2.2 = 10) := Rc.takeCom_pre he1 HKL.out
      have HE1 : Hid (Rc.comE ts l = 0) := he1
      have HE2 : Hid (Rc.comE ts2 l2 = 0) := he2
      have hc10 : ¬ (c1 = 0) := by omega
      have hkc : (kk : Int) ≤ (c1 : Int) := by have := HKL.out; omega
      clear o1 o2 hy1 hy2 HA5 HB5 he1 he2 hlen H5
      by_cases hsm : ts = ts2 ∧ l = l2
      · have HSM : Hid (ts = ts2 ∧ l = l2) := hsm
        have HDE : Hid (decide (Rc.comB ts l = Rc.comB ts2 l2) = true) := by
          unfold Hid
          rw [hsm.1, hsm.2]
          simp
        clear hsm
        go_wp2_with fail
        go_region_held3 (fun w' => (w'.cell? ⟨w.heap.size, 0, none⟩ = some (.int .i64 ts) ∧ w'.cell? ⟨w.heap.size, 1, none⟩ = some (.slice p len cap)) ∧ (w'.cell? ⟨w.heap.size + 1, 0, none⟩ = some (.int .i64 ts2) ∧ w'.cell? ⟨w.heap.size + 1, 1, none⟩ = some (.slice q m qc))) (go_keep) (first
          | (go_at_call 12; refine (equal_any (some ⟨g1, 0, none⟩) p2 c1 c2 _ _ (Rc.comB ts l) (Rc.comB ts2 l2) _ rfl rfl (Y1.out.below ((Below.refl _ _).drew) (Nat.le_refl _)) (Y2.out.below ((Below.refl _ _).drew) (Nat.le_refl _)) B1.out B2.out).mono ?_; rintro e v0 ⟨rfl, rfl⟩; rw [HDE.out])
          | (go_at_call 13; refine (rsameCommit_any ts ts2 p q len m cap qc l l2 _ (HI.out _ (HBK.out _ hB2).1) (HJ.out _ (HBK.out _ hB2).1)).mono ?_; rintro e v3 ⟨b, rfl, hq, hb⟩; obtain rfl : b = true := hq.2 HSM.out; have hB3 := hB2.trans (hb.mono (HSZ.out _ hB2)); have hy3 := And.intro ((hy2).1.below hb (Nat.le_refl _)) hb; clear hq; have hk3 := HC.out v3 hB3)
          | (go_at_call 13; refine (rsameCommit_any ts ts2 p q len m cap qc l l2 _ (HI.out _ (HBK.out _ HD.out).1) (HJ.out _ (HBK.out _ HD.out).1)).mono ?_; rintro e v1 ⟨b, rfl, hq, hb⟩; obtain rfl : b = true := hq.2 HSM.out; have hB1 := HD.out.trans (hb.mono (HSZ.out _ HD.out)); have hy1 := And.intro ((Y1.out.below ((Below.refl _ _).drew) (Nat.le_refl _)).below hb (Nat.le_refl _)) hb; clear hq; have hk1 := HC.out v1 hB1)
          | (go_at_call 14; refine (sameCommit_any ts ts2 p q len m cap qc l l2 _ (HI.out _ (HBK.out _ hB1).1) (HJ.out _ (HBK.out _ hB1).1)).mono ?_; rintro e v2 ⟨b, rfl, hq, hb⟩; obtain rfl : b = true := hq.2 HSM.out; have hB2 := hB1.trans (hb.mono (HSZ.out _ hB1)); have hy2 := And.intro ((hy1).1.below hb (Nat.le_refl _)) hb; clear hq; have hk2 := HC.out v2 hB2))
        have H7 : Hid (Below (w.heap.size + 2) w0 v3) := hB3
        have Y7 : Hid (Bys v3 (some ⟨g1, 0, none⟩) (Rc.comB ts l)) := hy3.1
        have O7 : Hid (Own v3 w.heap.size (.slice (some ⟨g1, 0, none⟩) (Rc.comB ts l).length c1) (Rc.comB ts l).length (Rc.comB ts l)) := ((((O6.out.below ((Below.refl _ _).drew) (Nat.le_refl _)).below hy1.2 (Nat.le_refl _)).below hy2.2 (Nat.le_refl _)).below hy3.2 (Nat.le_refl _))
        clear hB1 hB2 hB3 hk1 hk2 hk3 hy1 hy2 hy3 HD Y1 Y2 O6 k1 k2
        go_wp2_with fail
        refine (takeCommit_any (some ⟨g1, 0, none⟩) kk c1 ((Rc.comB ts l).take kk) _ (in_take (O7.out.inb B1.out) HKL.out)).mono ?_
        rintro e w8 ⟨v, rfl, ho8, hb8⟩
        rw [HPR.out]
        obtain ⟨pv8, cv8, rfl⟩ := own_form ho8
        generalize (Rc.takeCom ((Rc.comB ts l).take kk)).1 = t8 at *
        generalize (Rc.takeCom ((Rc.comB ts l).take kk)).2.1 = l8 at *
        have hbx : Below w8.heap.size w8 (w8.alloc (.cells #[.int .i64 t8, .slice pv8 l8.length cv8] 24)) := (Below.refl _ _).alloc (Nat.le_refl _) _
        have H9 : Hid (Below w.heap.size w (w8.alloc (.cells #[.int .i64 t8, .slice pv8 l8.length cv8] 24))) := by
          have h1 := (HBK.out _ H7.out).1
          have h2 := h1.trans (hb8.mono h1.size)
          exact h2.trans (hbx.mono h2.size)
        have Y9 : Hid (Bys (w8.alloc (.cells #[.int .i64 t8, .slice pv8 l8.length cv8] 24)) (some ⟨g1, 0, none⟩) (Rc.comB ts l)) := (Y7.out.below hb8 (Nat.le_refl _)).below hbx (Nat.le_refl _)
        clear ho8 hb8 hbx Y7 O7 H7
        go_wp2_with fail
        refine (clone_any (some ⟨g1, 0, none⟩) c1 _ (Rc.comB ts l) _ rfl Y9.out HLB.out (fun h => by cases h)).mono ?_
        rintro e w10 ⟨v10, rfl, ho10, hb10⟩
        have O10 : Hid (Own (w10.alloc (.cells #[.int .u8 0] 5)) (w8.alloc (.cells #[.int .i64 t8, .slice pv8 l8.length cv8] 24)).heap.size v10 (Rc.comB ts l).length (Rc.comB ts l)) := ho10.below ((Below.refl _ _).alloc (Nat.le_refl _) _) (Nat.le_refl _)
        have Z10 : Hid (Bys (w10.alloc (.cells #[.int .u8 0] 5)) (some ⟨w10.heap.size, 0, none⟩) [0]) := bys_laid w10 [0] (0, 0)
        have H10 : Hid (Below w.heap.size w (w10.alloc (.cells #[.int .u8 0] 5))) := (H9.out.trans (hb10.mono H9.out.size)).alloc (H9.out.trans (hb10.mono H9.out.size)).size _
        have S10 : Hid ((w8.alloc (.cells #[.int .i64 t8, .slice pv8 l8.length cv8] 24)).heap.size ≤ (w10.alloc (.cells #[.int .u8 0] 5)).heap.size) := by have := hb10.size; simp [Hid] at *; omega
        have S9 : Hid (w.heap.size ≤ (w8.alloc (.cells #[.int .i64 t8, .slice pv8 l8.length cv8] 24)).heap.size) := H9.out.size
        generalize (w8.alloc (.cells #[.int .i64 t8, .slice pv8 l8.length cv8] 24)).heap.size = G at *
        clear ho10 hb10 Y9 H9
        go_wp2_with (at_builtin; refine app8 _ rfl _ _ rfl G v10 (Rc.comB ts l).length (Rc.comB ts l) rfl O10.out (some ⟨w10.heap.size, 0, none⟩) 1 1 [0] rfl Z10.out rfl (fun h => by cases h) (by have := HLB2.out; omega) S10.out ?_; intro v11 w11 ho11 hb11; refine Hid.out ?_)
        obtain ⟨p11, c11, rfl⟩ := own_form2 ho11
        have I11 : Hid (InB 9223372036854775807 w11 p11 ((Rc.comB ts l).length + 1) c11 (Rc.comB ts l ++ [0])) := ho11.inb (app_byte B1.out (by simp))
        have H11 : Hid (Below w.heap.size w w11) := H10.out.trans (hb11.mono S9.out)
        clear ho11 hb11 O10 Z10 H10
        unfold Hid
        go_wp2_with fail
        refine (takeCommit_any p11 _ c11 (Rc.comB ts l ++ [0]) _ I11.out).mono ?_
        rintro e w12 ⟨v, rfl, ho12, hb12⟩
        rw [HMO.out]
        obtain ⟨pv12, cv12, rfl⟩ := own_form ho12
        have H12 : Hid (Below w.heap.size w w12) := H11.out.trans (hb12.mono H11.out.size)
        clear ho12 hb12
        have H13 : Hid (Below w.heap.size w (w12.alloc (.cells #[.int .i64 (Rc.takeCom (Rc.comB ts l ++ [0])).1, .slice pv12 (Rc.takeCom (Rc.comB ts l ++ [0])).2.1.length cv12] 24))) := H12.out.alloc H12.out.size _
        go_wp2
        go_ret
        exact ⟨rfl, H13.out⟩

      · have HSM : Hid (¬ (ts = ts2 ∧ l = l2)) := hsm
        have HDE : Hid (decide (Rc.comB ts l = Rc.comB ts2 l2) = false) := by
          unfold Hid
          exact decide_eq_false (fun e => hsm (Rc.comB_inj HE1.out HE2.out e))
        clear hsm
        go_wp2_with fail
        go_region_held3 (fun w' => (w'.cell? ⟨w.heap.size, 0, none⟩ = some (.int .i64 ts) ∧ w'.cell? ⟨w.heap.size, 1, none⟩ = some (.slice p len cap)) ∧ (w'.cell? ⟨w.heap.size + 1, 0, none⟩ = some (.int .i64 ts2) ∧ w'.cell? ⟨w.heap.size + 1, 1, none⟩ = some (.slice q m qc))) (go_keep) (first
          | (go_at_call 12; refine (equal_any (some ⟨g1, 0, none⟩) p2 c1 c2 _ _ (Rc.comB ts l) (Rc.comB ts2 l2) _ rfl rfl (Y1.out.below ((Below.refl _ _).drew) (Nat.le_refl _)) (Y2.out.below ((Below.refl _ _).drew) (Nat.le_refl _)) B1.out B2.out).mono ?_; rintro e v0 ⟨rfl, rfl⟩; rw [HDE.out])
          | (go_at_call 13; refine (rsameCommit_any ts ts2 p q len m cap qc l l2 _ (HI.out _ (HBK.out _ hB2).1) (HJ.out _ (HBK.out _ hB2).1)).mono ?_; rintro e v3 ⟨b, rfl, hq, hb⟩; obtain rfl : b = false := told_false hq HSM.out; have hB3 := hB2.trans (hb.mono (HSZ.out _ hB2)); have hy3 := And.intro ((hy2).1.below hb (Nat.le_refl _)) hb; clear hq; have hk3 := HC.out v3 hB3)
          | (go_at_call 13; refine (rsameCommit_any ts ts2 p q len m cap qc l l2 _ (HI.out _ (HBK.out _ HD.out).1) (HJ.out _ (HBK.out _ HD.out).1)).mono ?_; rintro e v1 ⟨b, rfl, hq, hb⟩; obtain rfl : b = false := told_false hq HSM.out; have hB1 := HD.out.trans (hb.mono (HSZ.out _ HD.out)); have hy1 := And.intro ((Y1.out.below ((Below.refl _ _).drew) (Nat.le_refl _)).below hb (Nat.le_refl _)) hb; clear hq; have hk1 := HC.out v1 hB1)
          | (go_at_call 14; refine (sameCommit_any ts ts2 p q len m cap qc l l2 _ (HI.out _ (HBK.out _ hB1).1) (HJ.out _ (HBK.out _ hB1).1)).mono ?_; rintro e v2 ⟨b, rfl, hq, hb⟩; obtain rfl : b = false := told_false hq HSM.out; have hB2 := hB1.trans (hb.mono (HSZ.out _ hB1)); have hy2 := And.intro ((hy1).1.below hb (Nat.le_refl _)) hb; clear hq; have hk2 := HC.out v2 hB2))
        have H7 : Hid (Below (w.heap.size + 2) w0 v3) := hB3
        have Y7 : Hid (Bys v3 (some ⟨g1, 0, none⟩) (Rc.comB ts l)) := hy3.1
        have O7 : Hid (Own v3 w.heap.size (.slice (some ⟨g1, 0, none⟩) (Rc.comB ts l).length c1) (Rc.comB ts l).length (Rc.comB ts l)) := ((((O6.out.below ((Below.refl _ _).drew) (Nat.le_refl _)).below hy1.2 (Nat.le_refl _)).below hy2.2 (Nat.le_refl _)).below hy3.2 (Nat.le_refl _))
        clear hB1 hB2 hB3 hk1 hk2 hk3 hy1 hy2 hy3 HD Y1 Y2 O6 k1 k2
        go_wp2_with fail
        refine (takeCommit_any (some ⟨g1, 0, none⟩) kk c1 ((Rc.comB ts l).take kk) _ (in_take (O7.out.inb B1.out) HKL.out)).mono ?_
        rintro e w8 ⟨v, rfl, ho8, hb8⟩
        rw [HPR.out]
        obtain ⟨pv8, cv8, rfl⟩ := own_form ho8
        generalize (Rc.takeCom ((Rc.comB ts l).take kk)).1 = t8 at *
        generalize (Rc.takeCom ((Rc.comB ts l).take kk)).2.1 = l8 at *
        have hbx : Below w8.heap.size w8 (w8.alloc (.cells #[.int .i64 t8, .slice pv8 l8.length cv8] 24)) := (Below.refl _ _).alloc (Nat.le_refl _) _
        have H9 : Hid (Below w.heap.size w (w8.alloc (.cells #[.int .i64 t8, .slice pv8 l8.length cv8] 24))) := by
          have h1 := (HBK.out _ H7.out).1
          have h2 := h1.trans (hb8.mono h1.size)
          exact h2.trans (hbx.mono h2.size)
        have Y9 : Hid (Bys (w8.alloc (.cells #[.int .i64 t8, .slice pv8 l8.length cv8] 24)) (some ⟨g1, 0, none⟩) (Rc.comB ts l)) := (Y7.out.below hb8 (Nat.le_refl _)).below hbx (Nat.le_refl _)
        clear ho8 hb8 hbx Y7 O7 H7
        go_wp2_with fail
        refine (clone_any (some ⟨g1, 0, none⟩) c1 _ (Rc.comB ts l) _ rfl Y9.out HLB.out (fun h => by cases h)).mono ?_
        rintro e w10 ⟨v10, rfl, ho10, hb10⟩
        have O10 : Hid (Own (w10.alloc (.cells #[.int .u8 0] 5)) (w8.alloc (.cells #[.int .i64 t8, .slice pv8 l8.length cv8] 24)).heap.size v10 (Rc.comB ts l).length (Rc.comB ts l)) := ho10.below ((Below.refl _ _).alloc (Nat.le_refl _) _) (Nat.le_refl _)
        have Z10 : Hid (Bys (w10.alloc (.cells #[.int .u8 0] 5)) (some ⟨w10.heap.size, 0, none⟩) [0]) := bys_laid w10 [0] (0, 0)
        have H10 : Hid (Below w.heap.size w (w10.alloc (.cells #[.int .u8 0] 5))) := (H9.out.trans (hb10.mono H9.out.size)).alloc (H9.out.trans (hb10.mono H9.out.size)).size _
        have S10 : Hid ((w8.alloc (.cells #[.int .i64 t8, .slice pv8 l8.length cv8] 24)).heap.size ≤ (w10.alloc (.cells #[.int .u8 0] 5)).heap.size) := by have := hb10.size; simp [Hid] at *; omega
        have S9 : Hid (w.heap.size ≤ (w8.alloc (.cells #[.int .i64 t8, .slice pv8 l8.length cv8] 24)).heap.size) := H9.out.size
        generalize (w8.alloc (.cells #[.int .i64 t8, .slice pv8 l8.length cv8] 24)).heap.size = G at *
        clear ho10 hb10 Y9 H9
        go_wp2_with (at_builtin; refine app8 _ rfl _ _ rfl G v10 (Rc.comB ts l).length (Rc.comB ts l) rfl O10.out (some ⟨w10.heap.size, 0, none⟩) 1 1 [0] rfl Z10.out rfl (fun h => by cases h) (by have := HLB2.out; omega) S10.out ?_; intro v11 w11 ho11 hb11; refine Hid.out ?_)
        obtain ⟨p11, c11, rfl⟩ := own_form2 ho11
        have I11 : Hid (InB 9223372036854775807 w11 p11 ((Rc.comB ts l).length + 1) c11 (Rc.comB ts l ++ [0])) := ho11.inb (app_byte B1.out (by simp))
        have H11 : Hid (Below w.heap.size w w11) := H10.out.trans (hb11.mono S9.out)
        clear ho11 hb11 O10 Z10 H10
        unfold Hid
        go_wp2_with fail
        refine (takeCommit_any p11 _ c11 (Rc.comB ts l ++ [0]) _ I11.out).mono ?_
        rintro e w12 ⟨v, rfl, ho12, hb12⟩
        rw [HMO.out]
        obtain ⟨pv12, cv12, rfl⟩ := own_form ho12
        have H12 : Hid (Below w.heap.size w w12) := H11.out.trans (hb12.mono H11.out.size)
        clear ho12 hb12
        have H13 : Hid (Below w.heap.size w (w12.alloc (.cells #[.int .i64 (Rc.takeCom (Rc.comB ts l ++ [0])).1, .slice pv12 (Rc.takeCom (Rc.comB ts l ++ [0])).2.1.length cv12] 24))) := H12.out.alloc H12.out.size _
        go_wp2
        go_ret
        exact ⟨rfl, H13.out⟩

    · have he2b : (Rc.comE ts2 l2 != 0) = true := by simpa using he2
      clear he1 he2
      go_wp2
      go_ret
      exact ⟨by simp, (HBK.out _ H5.out).1⟩
  · have he1b : (Rc.comE ts l != 0) = true := by simpa using he1
    clear he1
    go_wp2
    go_ret
    exact ⟨by simp, (HBK.out _ H5.out).1⟩


set_option maxRecDepth 100000 in
set_option maxHeartbeats 2000000 in
theorem lifted_recordApart (os : Os) (started : os.Started) (H : Type) (enc : TypeId × Value → H) :
    ReturnsInHanded {} Try.checked os 3 .any (Rows.recordApartSpec.pre6 enc Try.prog Try.f3 Rows.recordApartRow.domain false) (Rows.recordApartSpec.post enc Try.prog Try.f3 false true false false) := by
  refine returnsInHanded_of_change_sized (C := Try.checked) own started (by kernel_rfl) Try.func3
    (ChangeSpec.witness6 (enc := enc) (C := Try.checked) false ⟨#[], #[.agg #[.int .i64 0, .slice none 0 0], .agg #[.int .i64 0, .slice none 0 0], .int .u16 0], []⟩ 8 (by kernel_rfl) (by kernel_rfl) (by kernel_rfl) (by kernel_rfl)) ?_
  intro W base args ds gs before hval0 hW _ hsz0 _
  have hsz : (DataW.weightsEach Try.prog (Try.f3.params.toList ++ Rows.recordApartSpec.plain.varTypes Try.prog) (ds ++ gs)).all (· ≤ reachBytes) = true := hsz0
  clear hsz0
  have hval : ∀ (j : Nat) t v, Try.f3.params[j]? = some t → args[j]? = some v → Value.okWide Try.prog W .any base t v := hval0
  have hW' := hW
  obtain ⟨p, q, hA0, hV, rfl, hfz, hnd⟩ := hW
  have hA : DataW.TrodAll enc Try.prog W 0 (fun _ => true) true Try.f3.params.toList args.toList ds p := hA0
  rw [Try.params3] at hA hval hsz
  obtain ⟨v0, vs0, d0, ds0, p0, q0, hargs, rfl, rfl, h0, r0⟩ := trodAll_cons hA
  obtain ⟨v1, vs1, d1, ds1, p1, q1, rfl, rfl, rfl, h1, r1⟩ := trodAll_cons r0
  obtain ⟨v2, vs2, d2, ds2, p2, q2, rfl, rfl, rfl, h2, r2⟩ := trodAll_cons r1
  obtain ⟨rfl, rfl, rfl⟩ := trodAll_nil r2
  obtain rfl : args = #[v0, v1, v2] := by cases args; simp_all
  obtain ⟨rfl, rfl⟩ := trodVars_none hV
  have k0 := h0
  have lt0 : ∀ x ∈ p0, x.block < W.heap.size := by obtain ⟨m, hm⟩ := k0; exact DataW.trod_lt m _ _ _ hm
  obtain ⟨n0, a0, len0, cap0, l0, e0, u0, w0⟩ : ∃ n0 a0 len0 cap0 l0, v0 = .agg #[.int .i64 n0, .slice a0 len0 cap0] ∧ (-9223372036854775808 ≤ n0 ∧ n0 ≤ 9223372036854775807) ∧ InW W a0 len0 cap0 l0 := by
    obtain ⟨cs, hcs, _⟩ := okWide_struct Try.underlying24 (hval 0 24 v0 rfl rfl)
    obtain ⟨fuel, hf⟩ := h0
    obtain ⟨n0, a0, len0, cap0, l0, hg, ho⟩ := in_commit hf
    refine ⟨n0, a0, len0, cap0, l0, ?_, ho⟩
    rw [hcs] at hg ⊢
    congr 1
    apply Array.ext'
    simpa [Value.cells] using hg
  subst e0
  have k1 := h1
  have lt1 : ∀ x ∈ p1, x.block < W.heap.size := by obtain ⟨m, hm⟩ := k1; exact DataW.trod_lt m _ _ _ hm
  obtain ⟨n1, a1, len1, cap1, l1, e1, u1, w1⟩ : ∃ n1 a1 len1 cap1 l1, v1 = .agg #[.int .i64 n1, .slice a1 len1 cap1] ∧ (-9223372036854775808 ≤ n1 ∧ n1 ≤ 9223372036854775807) ∧ InW W a1 len1 cap1 l1 := by
    obtain ⟨cs, hcs, _⟩ := okWide_struct Try.underlying24 (hval 1 24 v1 rfl rfl)
    obtain ⟨fuel, hf⟩ := h1
    obtain ⟨n1, a1, len1, cap1, l1, hg, ho⟩ := in_commit hf
    refine ⟨n1, a1, len1, cap1, l1, ?_, ho⟩
    rw [hcs] at hg ⊢
    congr 1
    apply Array.ext'
    simpa [Value.cells] using hg
  subst e1
  obtain ⟨a2, rfl, rfl, rfl, w2⟩ := open_int Try.underlying25 (hval 2 25 v2 rfl rfl) h2
  clear hA0 hval0
  refine (walk_recordApart n0 a0 len0 cap0 l0 n1 a1 len1 cap1 l1 a2 W u0 w0 u1 w1 w2).mono fun e W' ⟨he, bel⟩ => ?_
  subst he
  exact ⟨_, rfl, _, _, _, [], _, [], hW', trodAll_mk1 (shut_bool Try.underlying4 _), (trodAll_cons_mk (Below.trod laidOut (by kernel_rfl) (of_decide_eq_true (by kernel_rfl)) k0 bel lt0) (trodAll_cons_mk (Below.trod laidOut (by kernel_rfl) (of_decide_eq_true (by kernel_rfl)) k1 bel lt1) (trodAll_cons_mk (shut_int Try.underlying25 w2) trodAll_mk0))), rfl, bel.frame _, fun h => by cases h⟩

/-- The statement. -/
theorem recordApart_holds : Rows.RecordApartSaid :=
  OpenClaim.holds_of_wide 3 Try.f3 rfl rfl rfl rfl rfl rfl rfl ⟨rfl, rfl, rfl, rfl, rfl⟩ rfl rfl rfl rfl rfl (by kernel_rfl) Try.func3 (by kernel_rfl)
    (of_decide_eq_true (by kernel_rfl)) (by unfold Func.isWrapper; first | (rw [if_pos (by decide +kernel)]; kernel_rfl) | (rw [if_neg (by decide +kernel)]; exact ⟨rfl, rfl⟩))
    (fun os started H enc _ => lifted_recordApart os started H enc)
#print axioms recordApart_holds
end Go.Proofs.Ytmjbfelfdhehbaa
