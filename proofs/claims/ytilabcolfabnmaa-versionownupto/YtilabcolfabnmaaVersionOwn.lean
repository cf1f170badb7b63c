/- What is handed in is left as it is, what is answered is nobody's else (for inputs of small bulk). -/
import Derived.Test.YtilabcolfabnmaaVsIn
import Derived.Test.YtilabcolfabnmaaVsL
import Derived.Test.YtilabcolfabnmaaVsE
import Derived.Test.YtilabcolfabnmaaVsS
import Derived.Test.YtilabcolfabnmaaPrW
import Derived.Test.YtilabcolfabnmaaPrX
import Derived.Test.YtilabcolfabnmaaClV
import Derived.Test.YtilabcolfabnmaaClP
import Derived.Test.YtilabcolfabnmaaSpK
import Derived.Deep.RegionHeld3
namespace Go.Proofs.Ytilabcolfabnmaa
open Go.ChangeShapes Go.WideShapes Go.ChangeAt Go.RowKit Go.Sort
open Go.ChangeMaps (open_string shut_string)
set_option linter.unusedVariables false
set_option maxRecDepth 100000

theorem Ans.spk {w w' : World} {v : Value} {m : List Pr} {m0 D : Nat} (h : Ans w w' v m) (hb : m0 ≤ w.heap.size) (hD : w'.heap.size ≤ D) (hl : m.length ≤ 4611686018427387904) : SpK 2 m0 D v w' := by
  obtain ⟨p, c, rfl, h1, -⟩ := h.ex
  refine ⟨_, _, _, rfl, hl, fun j hj => ?_⟩
  obtain ⟨g, rfl, hg, hr⟩ := h1 (by omega)
  have h2 := hr j _ (List.getElem?_eq_getElem hj)
  have h3 := World.block_lt_of_cell? w' _ h2.1.1
  exact ⟨g, _, rfl, by omega, by simp only at h3; omega, h2.1.1, h2.2.1⟩

theorem putL_len (l : List Vs) (x : Vs) : (Vr.putL l x).length ≤ l.length + 1 := by
  unfold Vr.putL
  split <;> simp

set_option maxHeartbeats 8000000 in
theorem walk_versionOwn (p : Option Addr) (n c : Nat) (l : List Vs) (x : Vs) (q : Mq) (ps : List Pr) (ws : List Wt) (cl : List Cm) (w : World) (hin : InR Vs.cells 3 Vs.ok w p n c l) (hx : x.ok) (hq : MqIn w q ps ws cl) :
    Calls Try.prog 6 #[.slice p n c, x.v, q.v] w fun e w' => e = .returned (.bool true) ∧ Below w.heap.size w w' := by
  obtain ⟨x1, x2, x3⟩ := x
  obtain ⟨pp, pn, pc, wp, wn, wc, cp, cn, cc, lo, hi, qts, qst⟩ := q
  obtain ⟨wa, hwa⟩ : ∃ wa, w.alloc (.cells #[.int .i64 x1, .string x2, .bool x3] 48) = wa := ⟨_, rfl⟩
  have hba : Below w.heap.size w wa := by rw [← hwa]; exact (Below.refl _ _).alloc (Nat.le_refl _) _
  have ka : Bk wa w.heap.size 48 #[.int .i64 x1, .string x2, .bool x3] := by rw [← hwa]; exact Bk.new _ _ _
  have hsa : wa.heap.size = w.heap.size + 1 := by rw [← hwa]; show _ = _; simp
  obtain ⟨w0, hw0⟩ : ∃ w0, wa.alloc (.cells #[.slice pp pn pc, .slice wp wn wc, .slice cp cn cc, .string lo, .string hi, .int .i64 qts, .int .i64 qst] 28) = w0 := ⟨_, rfl⟩
  have hb0 : Below wa.heap.size wa w0 := by rw [← hw0]; exact (Below.refl _ _).alloc (Nat.le_refl _) _
  have k0 : Bk w0 wa.heap.size 28 #[.slice pp pn pc, .slice wp wn wc, .slice cp cn cc, .string lo, .string hi, .int .i64 qts, .int .i64 qst] := by rw [← hw0]; exact Bk.new _ _ _
  have ka0 : Bk w0 w.heap.size 48 #[.int .i64 x1, .string x2, .bool x3] := ka.below hb0 ka.lt
  have hbw : Below w.heap.size w w0 := hba.trans (hb0.mono hba.size)
  have HQ : Hid (∀ W, Below w0.heap.size w0 W → Bk W w.heap.size 48 #[.int .i64 x1, .string x2, .bool x3] ∧ Bk W wa.heap.size 28 #[.slice pp pn pc, .slice wp wn wc, .slice cp cn cc, .string lo, .string hi, .int .i64 qts, .int .i64 qst] ∧ Vrs W p l ∧ Prs W pp ps ∧ Wts W wp ws ∧ Below w.heap.size w W) := fun W hW => by
    have hb := hbw.trans (hW.mono hbw.size)
    exact ⟨ka0.below hW ka0.lt, k0.below hW k0.lt, Els.below hin.els hb (Nat.le_refl _), Els.below hq.p.els hb (Nat.le_refl _), Els.below hq.w.els hb (Nat.le_refl _), hb⟩
  have hnb := hin.room
  have hnle := hin.le
  have HN : Hid (l.length = n ∧ ps.length = pn ∧ ws.length = wn) := ⟨hin.lenq, hq.p.lenq, hq.w.lenq⟩
  have HNIL : Hid ((p = none → n = 0 ∧ c = 0) ∧ (pp = none → pn = 0 ∧ pc = 0) ∧ (wp = none → wn = 0 ∧ wc = 0)) := ⟨hin.nil, hq.p.nil, hq.w.nil⟩
  have HX : Hid (x2.size ≤ 9223372036854775807) := hx
  have HK : Hid ((∀ (i : Nat) y, ps[i]? = some y → y.key.size ≤ maxLen) ∧ (∀ (i : Nat) y, ws[i]? = some y → y.key.size ≤ maxLen)) := ⟨fun i y hy => by have := (hq.p.ok y (List.mem_of_getElem? hy)).1; unfold maxLen; omega, fun i y hy => by have := (hq.w.ok y (List.mem_of_getElem? hy)).1; unfold maxLen; omega⟩
  have hpb : pn ≤ 1048576 := Nat.le_trans hq.p.le hq.p.room
  have hwb : wn ≤ 1048576 := Nat.le_trans hq.w.le hq.w.room
  have hn : n ≤ 1048576 := by omega
  have y0 : w0.cell? ⟨wa.heap.size, 0, none⟩ = some (.slice pp pn pc) := k0.cell 0
  have HSZ : Hid (wa.heap.size < w0.heap.size) := k0.lt
  clear hin hx hq ka k0 ka0 hba hb0 hbw hsa hnb hnle
  go_enter Try.func6, Try.ntmps6
  go_wp2_with fail
  go_region_held3 (fun w' => w'.cell? ⟨wa.heap.size, 0, none⟩ = some (.slice pp pn pc)) (go_keep) (first
    | (go_at_call 20; refine (cloneV_any p n c l _ HN.out.1 (HQ.out _ ((Below.refl _ _).drew)).2.2.1 (by omega) HNIL.out.1).mono ?_; rintro e wA ⟨vA, rfl, hoA, hbA0⟩; have hbA : Below w0.heap.size w0 wA := ((Below.refl _ _).drew).trans hbA0; have cA := (HQ.out wA hbA).2.1.cell 0)
    | (go_at_call 21; refine (cloneP_any pp pn pc ps _ HN.out.2.1 (HQ.out _ hbA).2.2.2.1 (by omega) HNIL.out.2.1).mono ?_; rintro e w1 ⟨vB, rfl, hoB, hbB0⟩; have hbB : Below w0.heap.size w0 w1 := hbA.trans (hbB0.mono hbA.size); have cB := (HQ.out w1 hbB).2.1.cell 0))
  have hoA1 : Own Vs.cells 3 48 w1 w0.heap.size vA l := hoA.below hbB0 (Nat.le_refl _)
  obtain ⟨pw, cw, hvA, hew, -, -⟩ := hoA1.els vknd
  obtain ⟨pv, cv, hvB, hev, -, -⟩ := hoB.els prknd
  rw [HN.out.1] at hvA
  rw [HN.out.2.1] at hvB
  subst hvA hvB
  have HW : Hid (∀ W, Below w1.heap.size w1 W → (Bk W w.heap.size 48 #[.int .i64 x1, .string x2, .bool x3] ∧ Bk W wa.heap.size 28 #[.slice pp pn pc, .slice wp wn wc, .slice cp cn cc, .string lo, .string hi, .int .i64 qts, .int .i64 qst]) ∧ (Vrs W p l ∧ Vrs W pw l) ∧ (Prs W pp ps ∧ Prs W pv ps) ∧ Wts W wp ws ∧ Below w.heap.size w W) := fun W hW => by
    obtain ⟨k1, k2, k3, k4, k5, k6⟩ := HQ.out W (hbB.trans (hW.mono hbB.size))
    exact ⟨⟨k1, k2⟩, ⟨k3, Els.below hew hW (Nat.le_refl _)⟩, ⟨k4, Els.below hev hW (Nat.le_refl _)⟩, k5, k6⟩
  have z0 : w1.cell? ⟨w.heap.size, 0, none⟩ = some (.int .i64 x1) := (HW.out w1 (Below.refl _ _)).1.1.cell 0
  have z1 : w1.cell? ⟨w.heap.size, 1, none⟩ = some (.string x2) := (HW.out w1 (Below.refl _ _)).1.1.cell 1
  have z2 : w1.cell? ⟨w.heap.size, 2, none⟩ = some (.bool x3) := (HW.out w1 (Below.refl _ _)).1.1.cell 2
  clear hoA hoA1 hoB hbA hbA0 hbB hbB0 hew hev cA cB y0 hw0 hwa HQ
  go_wp2_with fail
  refine (put_any p n c l ⟨x1, x2, x3⟩ w1 HN.out.1 (HW.out w1 (Below.refl _ _)).2.1.1 HNIL.out.1 HX.out (by omega)).mono ?_
  rintro e w2 ⟨u, rfl, hou, hb2⟩
  have HB2 : Hid (Below w1.heap.size w1 w2) := hb2
  have HOU : Hid (OwnV w2 w1.heap.size u (Vr.putL l ⟨x1, x2, x3⟩)) := hou
  have z3 : w2.cell? ⟨w.heap.size, 0, none⟩ = some (.int .i64 x1) := (HW.out w2 hb2).1.1.cell 0
  clear hou hb2 z0 z1 z2
  go_wp2_with fail
  refine (prune_any p n c l x1 w2 HN.out.1 (HW.out w2 HB2.out).2.1.1 (by omega)).mono ?_
  rintro e w3 ⟨v1, v2, rfl, ht⟩
  have hsum := Vr.prune_len x1 l
  have hput := putL_len l ⟨x1, x2, x3⟩
  have hln := HN.out.1
  have hb3 : Below w1.heap.size w1 w3 := HB2.out.trans (ht.below.mono HB2.out.size)
  have hu3 := HOU.out.below ht.below (Nat.le_refl _)
  have s1 := hu3.spk vknd (m0 := w1.heap.size) (D := w3.heap.size) (Nat.le_refl _) (Nat.le_refl _) (by omega)
  have s2 := ht.o1.spk vknd (m0 := w1.heap.size) (D := w3.heap.size) HB2.out.size (Nat.le_refl _) (by omega)
  have s3 := ht.o2.spk vknd (m0 := w1.heap.size) (D := w3.heap.size) HB2.out.size (Nat.le_refl _) (by omega)
  obtain ⟨pa, na, ca, rfl, -⟩ := id s1
  obtain ⟨pb, nb, cb, rfl, -⟩ := id s2
  obtain ⟨pd, nd, cd, rfl, -⟩ := id s3
  have HSO : Hid (SoK w1 w3.heap.size 3 [.slice pa na ca, .slice pb nb cb, .slice pd nd cd] (w3.alloc (.cells #[.slice pa na ca, .slice pb nb cb, .slice pd nd cd] 44))) := by
    have ha : Below w3.heap.size w3 (w3.alloc (.cells #[.slice pa na ca, .slice pb nb cb, .slice pd nd cd] 44)) := (Below.refl _ _).alloc (Nat.le_refl _) _
    have hk := Bk.new w3 44 #[.slice pa na ca, .slice pb nb cb, .slice pd nd cd]
    refine ⟨hb3.trans (ha.mono hb3.size), fun i v hv => ?_⟩
    match i, hv with
    | 0, hv => simp at hv; subst hv; exact ⟨hk.cell 0, s1.below ha (Nat.le_refl _)⟩
    | 1, hv => simp at hv; subst hv; exact ⟨hk.cell 1, s2.below ha (Nat.le_refl _)⟩
    | 2, hv => simp at hv; subst hv; exact ⟨hk.cell 2, s3.below ha (Nat.le_refl _)⟩
    | i + 3, hv => simp at hv
  obtain ⟨D, HD⟩ : ∃ D, Hid (D = w3.heap.size) := ⟨_, rfl⟩
  rw [← HD.out] at HSO
  clear ht hsum hput hln hb3 hu3 s1 s2 s3 z3 HOU
  go_wp2_with fail
  rw [← HD.out]
  go_loopw [42] (fun i wr => ∃ k : Nat, k ≤ 3 ∧ i = .int .i64 k ∧ Hid (SoK w1 D 3 [.slice pa na ca, .slice pb nb cb, .slice pd nd cd] wr)) (fun i _ => 3 - (intOf i).toNat)
  case atStart => exact ⟨0, Nat.zero_le _, rfl, HSO⟩
  case round =>
    obtain ⟨k, hk, rfl, HWR⟩ := hrel
    by_cases hlt : k < 3
    · have hli : (k : Int) < 3 := by omega
      obtain ⟨pu, nu, cu, hcu, hlu, hrow⟩ := HWR.out.at k hlt
      have HROW : Hid _ := hrow
      clear hrow
      go_wp2_with fail
      go_loopw [48] (fun i wr => ∃ j : Nat, j ≤ nu ∧ i = .int .i64 j ∧ Hid (SoK w1 D 3 [.slice pa na ca, .slice pb nb cb, .slice pd nd cd] wr)) (fun i _ => nu - (intOf i).toNat)
      case atStart => exact ⟨0, Nat.zero_le _, rfl, HWR⟩
      case round =>
        obtain ⟨j, hj, rfl, HV⟩ := hrel
        by_cases hjt : j < nu
        · have hji : (j : Int) < (nu : Int) := by omega
          have hj0 : (0 : Int) ≤ (j : Int) := by omega
          obtain ⟨g, u, rfl, hg0, hgD, cu0, fu0⟩ := HROW.out _ HV.out j hjt
          have HF : Hid (∀ x, SoK w1 D 3 [.slice pa na ca, .slice pb nb cb, .slice pd nd cd] (World.setCell _ ⟨g, j * 3, none⟩ x)) := fun x => HV.out.set hg0 hgD x
          go_wp2
          go_roundw
          case rel => exact ⟨j + 1, by omega, by go_num, HF.out _⟩
          case measure => simp [intOf]; omega
        · have hji : ¬ ((j : Int) < (nu : Int)) := by omega
          go_wp2
          go_roundw
          case rel => exact ⟨k + 1, by omega, by go_num, HV⟩
          case measure => simp [intOf]; omega
    · obtain rfl : k = 3 := by omega
      have HB5 : Hid (Below w1.heap.size w1 wr) := HWR.out.bel
      have hk5 := (HW.out wr HB5.out).1.2
      have q0 : wr.cell? ⟨wa.heap.size, 0, none⟩ = some (.slice pp pn pc) := hk5.cell 0
      have q1 : wr.cell? ⟨wa.heap.size, 1, none⟩ = some (.slice wp wn wc) := hk5.cell 1
      have q3 : wr.cell? ⟨wa.heap.size, 3, none⟩ = some (.string lo) := hk5.cell 3
      have q4 : wr.cell? ⟨wa.heap.size, 4, none⟩ = some (.string hi) := hk5.cell 4
      clear hk5 HWR HSO HD
      go_wp2_with fail
      go_region_held3 (fun w' => w'.cell? ⟨wa.heap.size, 0, none⟩ = some (.slice pp pn pc) ∧ w'.cell? ⟨wa.heap.size, 1, none⟩ = some (.slice wp wn wc) ∧ w'.cell? ⟨wa.heap.size, 3, none⟩ = some (.string lo) ∧ w'.cell? ⟨wa.heap.size, 4, none⟩ = some (.string hi)) (go_keep) (first
        | (go_at_call 12; refine (overlay_any pp wp pn wn pc wc ps ws _ HN.out.2.1 HN.out.2.2 (HW.out _ (HB5.out.trans (((Below.refl _ _).drew).mono HB5.out.size))).2.2.1.1 (HW.out _ (HB5.out.trans (((Below.refl _ _).drew).mono HB5.out.size))).2.2.2.1 HK.out.1 HK.out.2 HNIL.out.2.2 (by omega)).mono ?_; rintro e w6 ⟨v6, m6, rfl, -, hm6, ha6⟩; have hs6 : wr.heap.size ≤ w6.heap.size := ha6.below.size; have s6 := ha6.spk (m0 := wr.heap.size) (D := w6.heap.size) (Nat.le_refl _) (Nat.le_refl _) (by omega); obtain ⟨p6, n6, c6, rfl, -⟩ := id s6; have hb56 : Below wr.heap.size wr w6 := ((Below.refl _ _).drew).trans ha6.below; have hb6 : Below w1.heap.size w1 w6 := HB5.out.trans ((((Below.refl _ _).drew).trans ha6.below).mono HB5.out.size); have k6 := (HW.out w6 hb6).1.2; have g0 : w6.cell? ⟨wa.heap.size, 0, none⟩ = some (.slice pp pn pc) := k6.cell 0; have g1 : w6.cell? ⟨wa.heap.size, 1, none⟩ = some (.slice wp wn wc) := k6.cell 1; have g3 : w6.cell? ⟨wa.heap.size, 3, none⟩ = some (.string lo) := k6.cell 3; have g4 : w6.cell? ⟨wa.heap.size, 4, none⟩ = some (.string hi) := k6.cell 4)
        | (go_at_call 16; refine (slice_any pp pn pc ps ⟨lo, hi⟩ _ HN.out.2.1 (HW.out _ hb6).2.2.1.1 (by omega)).mono ?_; rintro e w7 ⟨v7, rfl, ho7, hb70⟩; have hps := List.length_filter_le (fun x : Pr => Ky.inn ⟨lo, hi⟩ x.key) ps; have hpn := HN.out.2.1; have s7 := ho7.spk prknd (m0 := wr.heap.size) (D := w7.heap.size) hs6 (Nat.le_refl _) (by unfold Pl.slice; omega); obtain ⟨p7, n7, c7, rfl, -⟩ := id s7; have s67 := (s6.below hb70 (Nat.le_refl _)).mono hb70.size; have hb57 : Below wr.heap.size wr w7 := hb56.trans (hb70.mono hs6); have hb7 : Below w1.heap.size w1 w7 := hb6.trans (hb70.mono hb6.size); have k7 := (HW.out w7 hb7).1.2; have f0 : w7.cell? ⟨wa.heap.size, 0, none⟩ = some (.slice pp pn pc) := k7.cell 0; have f1 : w7.cell? ⟨wa.heap.size, 1, none⟩ = some (.slice wp wn wc) := k7.cell 1; have f3 : w7.cell? ⟨wa.heap.size, 3, none⟩ = some (.string lo) := k7.cell 3; have f4 : w7.cell? ⟨wa.heap.size, 4, none⟩ = some (.string hi) := k7.cell 4))
      have HSO2 : Hid (SoK wr w7.heap.size 2 [.slice p6 n6 c6, .slice p7 n7 c7] (w7.alloc (.cells #[.slice p6 n6 c6, .slice p7 n7 c7] 22))) := by
        have ha : Below w7.heap.size w7 (w7.alloc (.cells #[.slice p6 n6 c6, .slice p7 n7 c7] 22)) := (Below.refl _ _).alloc (Nat.le_refl _) _
        have hk := Bk.new w7 22 #[.slice p6 n6 c6, .slice p7 n7 c7]
        refine ⟨hb57.trans (ha.mono hb57.size), fun i v hv => ?_⟩
        match i, hv with
        | 0, hv => simp at hv; subst hv; exact ⟨hk.cell 0, s67.below ha (Nat.le_refl _)⟩
        | 1, hv => simp at hv; subst hv; exact ⟨hk.cell 1, s7.below ha (Nat.le_refl _)⟩
        | i + 2, hv => simp at hv
      obtain ⟨D2, HD2⟩ : ∃ D2, Hid (D2 = w7.heap.size) := ⟨_, rfl⟩
      rw [← HD2.out] at HSO2
      clear ha6 hb6 k6 g0 g1 g3 g4 ho7 hb70 hb7 k7 f0 f1 f3 f4 hps hpn s6 s7 s67 hb56 hb57 hs6 q0 q1 q3 q4 hm6
      have HWX : Hid (∃ wx, wx = wr ∧ SoK wx D2 2 [.slice p6 n6 c6, .slice p7 n7 c7] (w7.alloc (.cells #[.slice p6 n6 c6, .slice p7 n7 c7] 22)) ∧ Below w1.heap.size w1 wx) := ⟨wr, rfl, HSO2.out, HB5.out⟩
      obtain ⟨wx, -, hsx, hbx⟩ := HWX.out
      have HSX : Hid (SoK wx D2 2 [.slice p6 n6 c6, .slice p7 n7 c7] (w7.alloc (.cells #[.slice p6 n6 c6, .slice p7 n7 c7] 22))) := hsx
      have HBX : Hid (Below w1.heap.size w1 wx) := hbx
      clear hsx hbx HWX HSO2 HB5
      go_wp2_with fail
      rw [← HD2.out]
      go_loopw [69] (fun i wr => ∃ k : Nat, k ≤ 2 ∧ i = .int .i64 k ∧ Hid (SoK wx D2 2 [.slice p6 n6 c6, .slice p7 n7 c7] wr)) (fun i _ => 2 - (intOf i).toNat)
      case atStart => exact ⟨0, Nat.zero_le _, rfl, HSX⟩
      case round =>
        obtain ⟨k, hk, rfl, HWR⟩ := hrel
        by_cases hlt : k < 2
        · have hli : (k : Int) < 2 := by omega
          obtain ⟨pu, nu, cu, hcu, hlu, hrow⟩ := HWR.out.at k hlt
          have HROW : Hid _ := hrow
          clear hrow
          go_wp2_with fail
          go_loopw [75] (fun i wr => ∃ j : Nat, j ≤ nu ∧ i = .int .i64 j ∧ Hid (SoK wx D2 2 [.slice p6 n6 c6, .slice p7 n7 c7] wr)) (fun i _ => nu - (intOf i).toNat)
          case atStart => exact ⟨0, Nat.zero_le _, rfl, HWR⟩
          case round =>
            obtain ⟨j, hj, rfl, HV⟩ := hrel
            by_cases hjt : j < nu
            · have hji : (j : Int) < (nu : Int) := by omega
              have hj0 : (0 : Int) ≤ (j : Int) := by omega
              obtain ⟨g, u, rfl, hg0, hgD, cu0, fu0⟩ := HROW.out _ HV.out j hjt
              have HF : Hid (∀ x, SoK wx D2 2 [.slice p6 n6 c6, .slice p7 n7 c7] (World.setCell _ ⟨g, j * 2, none⟩ x)) := fun x => HV.out.set hg0 hgD x
              go_wp2
              go_roundw
              case rel => exact ⟨j + 1, by omega, by go_num, HF.out _⟩
              case measure => simp [intOf]; omega
            · have hji : ¬ ((j : Int) < (nu : Int)) := by omega
              go_wp2
              go_roundw
              case rel => exact ⟨k + 1, by omega, by go_num, HV⟩
              case measure => simp [intOf]; omega
        · obtain rfl : k = 2 := by omega
          have HB8 : Hid (Below w1.heap.size w1 wr) := HBX.out.trans (HWR.out.bel.mono HBX.out.size)
          clear HWR HSX HD2 HBX
          go_wp2_with fail
          refine (live_any _).mono ?_
          rintro e w9 ⟨rfl, b9⟩
          have HB9 : Hid (Below w1.heap.size w1 w9) := HB8.out.trans (b9.mono HB8.out.size)
          clear b9 HB8
          go_wp2_with fail
          refine (dsame_any p pw n n c cw l l _ HN.out.1 HN.out.1 (HW.out _ HB9.out).2.1.1 (HW.out _ HB9.out).2.1.2 (by omega) (by omega)).mono ?_
          rintro e w10 ⟨rfl, b10⟩
          rw [Vr.same_refl]
          have HB10 : Hid (Below w1.heap.size w1 w10) := HB9.out.trans (b10.mono HB9.out.size)
          have q0 : w10.cell? ⟨wa.heap.size, 0, none⟩ = some (.slice pp pn pc) := (HW.out _ HB10.out).1.2.cell 0
          clear b10 HB9
          go_wp2_with fail
          refine (samePairs_any pp pv pn pn pc cv ps ps _ HN.out.2.1 HN.out.2.1 (HW.out _ HB10.out).2.2.1.1 (HW.out _ HB10.out).2.2.1.2 (by omega) (by omega)).mono ?_
          rintro e w11 ⟨rfl, b11⟩
          rw [Pl.same_refl]
          have HB11 : Hid (Below w.heap.size w w11) := (HW.out _ (HB10.out.trans (b11.mono HB10.out.size))).2.2.2.2
          clear b11 q0
          go_wp2
          go_ret
          exact ⟨rfl, HB11.out⟩

theorem contract_versionOwn (H : Type) (enc : TypeId × Value → H) (W : World) (base : Nat) (args : Array Value) (ds gs : List (DataW H)) (before : List MemPlace)
    (hval0 : ∀ (j : Nat) t v, Try.f6.params[j]? = some t → args[j]? = some v → Value.okWide Try.prog W .any base t v)
    (hW : DataW.Whole enc Try.prog Try.f6.params.toList Rows.versionOwnSpec.vars false W args.toList ds gs before) (hk : Rows.uptoSmall H (ds ++ gs) = true) :
    Calls Try.prog 6 args W fun e W' => ∃ v, e = .returned v ∧ Rows.versionOwnSpec.post enc Try.prog Try.f6 false true false false W args v W' := by
  have hval : ∀ (j : Nat) t v, Try.f6.params[j]? = some t → args[j]? = some v → Value.okWide Try.prog W .any base t v := hval0
  have hW' := hW
  obtain ⟨p, q, hA0, hV, rfl, hfz, hnd⟩ := hW
  have hA : DataW.TrodAll enc Try.prog W 0 (fun _ => true) true Try.f6.params.toList args.toList ds p := hA0
  rw [Try.params6] at hA hval
  obtain ⟨v0, vs0, d0, ds0, p0, q0, hargs, rfl, rfl, h0, r0⟩ := trodAll_cons hA
  obtain ⟨v1, vs1, d1, ds1, p1, q1, rfl, rfl, rfl, h1, r1⟩ := trodAll_cons r0
  obtain ⟨v2, vs2, d2, ds2, p2, q2, rfl, rfl, rfl, h2, r2⟩ := trodAll_cons r1
  obtain ⟨rfl, rfl, rfl⟩ := trodAll_nil r2
  obtain rfl : args = #[v0, v1, v2] := by cases args; simp_all
  obtain ⟨rfl, rfl⟩ := trodVars_none hV
  simp only [List.append_nil] at hk
  obtain ⟨a0, len0, cap0, rfl⟩ := okWide_slice Try.underlying44 (hval 0 44 v0 rfl rfl)
  have k0 := h0
  have lt0 : ∀ x ∈ p0, x.block < W.heap.size := by obtain ⟨m, hm⟩ := k0; exact DataW.trod_lt m _ _ _ hm
  obtain ⟨z0, w0⟩ : ∃ l, InR Vs.cells 3 Vs.ok W a0 len0 cap0 l := by
    obtain ⟨fuel, hf⟩ := h0
    obtain ⟨a, len, cap, l, hg, ho⟩ := in_versU hf (Nat.le_trans (bulk_part (by simp)) (bulk_bound hk))
    simp [Value.cells] at hg
    obtain ⟨rfl, rfl, rfl⟩ := hg
    exact ⟨l, ho⟩
  have k1 := h1
  have lt1 : ∀ x ∈ p1, x.block < W.heap.size := by obtain ⟨m, hm⟩ := k1; exact DataW.trod_lt m _ _ _ hm
  obtain ⟨g1, e1, o1⟩ : ∃ g : Vs, v1 = g.v ∧ g.ok := by
    obtain ⟨cs, hcs, _⟩ := okWide_struct Try.underlying48 (hval 1 48 v1 rfl rfl)
    obtain ⟨fuel, hf⟩ := h1
    obtain ⟨g, hg, ho⟩ := in_ver hf
    refine ⟨g, ?_, ho⟩
    rw [hcs] at hg ⊢
    congr 1
    apply Array.ext'
    simpa [Value.cells, Vs.cells] using hg
  subst e1
  have k2 := h2
  have lt2 : ∀ x ∈ p2, x.block < W.heap.size := by obtain ⟨m, hm⟩ := k2; exact DataW.trod_lt m _ _ _ hm
  obtain ⟨q2', ps2, ws2', cl2, e2, w2⟩ : ∃ q ps ws cl, v2 = Mq.v q ∧ MqIn W q ps ws cl := by
    obtain ⟨cs, hcs, _⟩ := okWide_struct Try.underlying28 (hval 2 28 v2 rfl rfl)
    obtain ⟨fuel, hf⟩ := h2
    obtain ⟨q, ps, ws, cl, hg, ho⟩ := in_maps hf (Nat.le_trans (bulk_part (by simp)) (bulk_bound hk))
    refine ⟨q, ps, ws, cl, ?_, ho⟩
    rw [hcs] at hg ⊢
    congr 1
    apply Array.ext'
    simpa [Value.cells, Mq.cells] using hg
  subst e2
  clear hA0 hval0
  simp only [List.append_nil] at hW'
  refine (walk_versionOwn a0 len0 cap0 z0 g1 q2' ps2 ws2' cl2 W w0 o1 w2).mono fun e W' ⟨he, bel⟩ => ?_
  subst he
  exact ⟨_, rfl, _, _, _, [], _, [], hW', trodAll_mk1 (shut_bool Try.underlying4 _), (trodAll_cons_mk (Below.trod laidOut (by kernel_rfl) (of_decide_eq_true (by kernel_rfl)) k0 bel lt0) (trodAll_cons_mk (Below.trod laidOut (by kernel_rfl) (of_decide_eq_true (by kernel_rfl)) k1 bel lt1) (trodAll_cons_mk (Below.trod laidOut (by kernel_rfl) (of_decide_eq_true (by kernel_rfl)) k2 bel lt2) trodAll_mk0))), rfl, bel.frame _, fun h => by cases h⟩

set_option maxRecDepth 100000 in
set_option maxHeartbeats 2000000 in
theorem lifted_versionOwn (os : Os) (started : os.Started) (H : Type) (enc : TypeId × Value → H) (F : Stop.Interp) :
    ReturnsInHanded {} Try.checked os 6 .any ((Rows.OpenSpec.upto Rows.versionOwnSpec).pre6 enc Try.prog Try.f6 Rows.versionOwnUptoRow.domain false) (((Rows.OpenSpec.upto Rows.versionOwnSpec).at F).post enc Try.prog Try.f6 false true false false) := by
  refine returnsInHanded_of_cond (C := Try.checked) (s := Rows.OpenSpec.upto Rows.versionOwnSpec) (k := Rows.uptoSmall) rfl own started (by kernel_rfl) Try.func6
    (OpenSpec.witness (enc := enc) (C := Try.checked) (s := Rows.OpenSpec.upto Rows.versionOwnSpec) (k := Rows.uptoSmall) rfl false ⟨#[], #[.slice none 0 0, .agg #[.int .i64 0, .string .empty, .bool false], .agg #[.slice none 0 0, .slice none 0 0, .slice none 0 0, .string .empty, .string .empty, .int .i64 0, .int .i64 0]], []⟩ 8 (by kernel_rfl) (by kernel_rfl) (by kernel_rfl)
      (x := ([.nil, .agg [.lit (.int .i64 0), .lit (.string []), .lit (.bool false)], .agg [.nil, .nil, .nil, .agg [.lit (.string []), .lit (.string [])], .lit (.int .i64 0), .lit (.int .i64 0)]], [], [])) (by kernel_rfl) rfl (by kernel_rfl)) ?_
  intro W base args ds gs before hval hW _ hk _
  exact contract_versionOwn H enc W base args ds gs before hval hW hk

/-- The statement. -/
theorem versionOwn_holds : Rows.VersionOwnUptoSaid :=
  OpenClaim.holds_of_cond 6 Try.f6 rfl rfl rfl rfl rfl rfl rfl ⟨rfl, rfl, rfl, rfl, rfl⟩ rfl rfl rfl rfl rfl (by kernel_rfl) Try.func6 (by kernel_rfl)
    (of_decide_eq_true (by kernel_rfl)) (by unfold Func.isWrapper; first | (rw [if_pos (by decide +kernel)]; kernel_rfl) | (rw [if_neg (by decide +kernel)]; exact ⟨rfl, rfl⟩))
    (fun os started H enc _ F => lifted_versionOwn os started H enc F)
#print axioms versionOwn_holds
end Go.Proofs.Ytilabcolfabnmaa
