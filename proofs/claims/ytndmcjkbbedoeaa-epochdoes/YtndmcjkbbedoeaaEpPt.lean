/- A step of both: Advance. -/
import Derived.Test.YtndmcjkbbedoeaaEpPs
namespace Go.Proofs.Ytndmcjkbbedoeaa
open Go.RowKit
set_option linter.unusedVariables false
set_option maxRecDepth 100000

set_option maxHeartbeats 4000000 in
theorem step_adv {w wr : World} {B R j : Nat} {bs rs : List Nat} {e : Ep} (h : Pe w wr B R bs rs e j) (dd s : Int) (x : Rt) (hj : j ≤ 3518437208780) (n0 : (dd == 0) = false) (n1 : (dd == 1) = false) (n2 : (dd == 2) = false) (n4 : (dd == 4) = false) :
    Calls Try.prog 11 #[.pointer (some ⟨B, 0, none⟩), .pointer (some ⟨R, 0, none⟩), .agg #[.int .i64 dd, .int .i64 s, .int .i64 x.k, .int .i64 x.s, .int .i64 x.g]] wr fun r w' => St w w' r R (j + 1) := by
  obtain ⟨hb1, hb2, hb3, hb4⟩ := h.bounds hj
  obtain ⟨wo, hwo, hsz, d0, d1, d2, d3, d4, HP, HB, -⟩ := h.box dd s x
  have HL : Hid (e.now ≤ 4611686018427387904 ∧ e.old.length + e.cur.length ≤ 3600000000000 ∧ e.advL.length ≤ 3600000000000) := by
    refine ⟨hb1, hb4, ?_⟩
    unfold Ep.advL
    split
    · simp
    · omega
  clear h hb1 hb2 hb3 hb4
  refine Calls.mono (R := fun r w' => Hid (St w w' r R (j + 1))) ?_ (fun r w' h => h.out)
  go_enter Try.func11, Try.ntmps11
  go_wp2_with fail
  refine (adv2 HP.out.ep HL.out.1).mono ?_
  rintro r w2 ⟨va, rfl, hT, hra, hva⟩
  obtain ⟨bs2, f1, f2, f3, f4, f5, f6⟩ := HP.out.first hT
  have F1 : Hid (Epn w2 B bs2 e.adv) := f1
  have F2 : Hid (Ren w2 R rs e) := f2
  have FR : Hid ((∀ b ∈ bs2, b ∉ rs) ∧ (∀ b ∈ bs2, w.heap.size ≤ b) ∧ Below w.heap.size w w2) := ⟨f3, f4, f5⟩
  have HRA : Hid (Rr w2 va e.advL) := hra
  have HVA : Hid (∀ b, va.ownBlock = some b → b ∉ rs) := fun b hb => HP.out.dj b (hva b hb)
  clear f1 f2 f3 f4 f5 f6 hT hra hva
  go_wp2_with fail
  refine (radv2 F2.out HL.out.1 HL.out.2.1).mono ?_
  rintro r w3 ⟨vb, rfl, hR, hrb⟩
  obtain ⟨rs3, hP3⟩ := Pe.second (k := j + 1) F1.out FR.out.1 FR.out.2.1 HP.out.lr FR.out.2.2 hR (HP.out.le.adv.up (by omega) (by omega))
  have HP3 : Hid (Pe w w3 B R bs2 rs3 e.adv (j + 1)) := hP3
  obtain ⟨rs4, -, t4, -⟩ := hR
  have HSA : Hid (Rs w3 va e.advL) := (HRA.out.tn t4 HVA.out).rs
  have HSB : Hid (Rs w3 vb e.advL) := hrb.rs
  clear hP3 t4 hrb
  obtain ⟨pa, ca, rfl, hca⟩ := HSA.out.form
  obtain ⟨pb, cb, rfl, hcb⟩ := HSB.out.form
  have HCA : Hid _ := hca
  have HCB : Hid _ := hcb
  have HLL : Hid (e.advL.length ≤ 3600000000000) := HL.out.2.2
  clear hca hcb
  generalize e.advE = er at *
  generalize e.advL = l at *
  obtain ⟨n, hn⟩ : ∃ n, l.length = n := ⟨_, rfl⟩
  have HN : Hid (l.length = n) := hn
  rw [hn] at HCA HCB HLL HSA HSB ⊢
  have hl := HLL.out
  clear hn
  go_wp2_with fail
  go_loopw [81] (fun iv wr => ∃ j : Nat, j ≤ n ∧ iv = .int .i64 j ∧ (∃ k, wr = w3.drewN k)) (fun iv _ => n - (intOf iv).toNat)
  case atStart => exact ⟨0, Nat.zero_le _, rfl, ⟨0, rfl⟩⟩
  case round =>
    obtain ⟨i, hi, rfl, ⟨k, rfl⟩⟩ := hrel
    by_cases hlt : i < n
    · have hli : (i : Int) < (n : Int) := by omega
      have h0i : (0 : Int) ≤ (i : Int) := by omega
      obtain ⟨ga, oa, rfl, a0, a1, a2⟩ := HCA.out i hlt
      obtain ⟨gb, ob, rfl, b0, b1, b2⟩ := HCB.out i hlt
      generalize rtAt l i = y at *
      go_wp2_with fail
      go_quiet (fail)
      go_wp2
      go_roundw
      case rel => exact ⟨i + 1, by omega, by go_num, ⟨_, rfl⟩⟩
      case measure => simp [intOf]; omega
    · have hli : ¬ (i : Int) < (n : Int) := by omega
      have HSA2 : Hid (Rs (w3.drewN k) (.slice pa n ca) l) := by
        obtain ⟨p, c, hv, hc⟩ := HSA.out.form
        exact ⟨p, c, hv, fun j hj => by simpa using hc j hj⟩
      have HSB2 : Hid (Rs (w3.drewN k) (.slice pb n cb) l) := by
        obtain ⟨p, c, hv, hc⟩ := HSB.out.form
        exact ⟨p, c, hv, fun j hj => by simpa using hc j hj⟩
      have HP4 : Hid (Pe w (w3.drewN k) B R bs2 rs3 e.adv (j + 1)) := HP3.out.still (tn_drewN _ _) (Nat.le_refl _)
      go_wp2_with fail
      refine (same_any HSA2.out HSB2.out (by rw [HN.out]; exact hl) true (by simp)).mono ?_
      rintro r w5 ⟨rfl, t5⟩
      have HP5 : Hid (Pe w w5 B R bs2 rs3 e.adv (j + 1)) := HP4.out.still t5 (Nat.le_refl _)
      clear t5
      go_wp2
      go_ret2
      exact ⟨_, _, _, _, rfl, HP5.out⟩

theorem step_any {w wr : World} {B R j : Nat} {bs rs : List Nat} {e : Ep} (h : Pe w wr B R bs rs e j) (g : Eop) (hj : j ≤ 3518437208780) :
    Calls Try.prog 11 #[.pointer (some ⟨B, 0, none⟩), .pointer (some ⟨R, 0, none⟩), g.val] wr fun r w' => St w w' r R (j + 1) := by
  obtain ⟨dd, s, x⟩ := g
  by_cases h0 : dd = 0
  · subst h0; exact step_pin h s x hj
  by_cases h1 : dd = 1
  · subst h1; exact step_unpin h s x hj
  by_cases h2 : dd = 2
  · subst h2; exact step_retire h s x hj
  by_cases h4 : dd = 4
  · subst h4; exact step_clone h s x hj
  exact step_adv h dd s x hj (by simpa using h0) (by simpa using h1) (by simpa using h2) (by simpa using h4)

end Go.Proofs.Ytndmcjkbbedoeaa
