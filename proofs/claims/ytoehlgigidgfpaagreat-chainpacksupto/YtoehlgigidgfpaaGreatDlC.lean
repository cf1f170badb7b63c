/- What a delta names; whether it may be (the code's). -/
import Derived.Test.YtoehlgigidgfpaaGreatDlS
import Derived.Test.YtoehlgigidgfpaaGreatPgCr
import Derived.Lib.QuietBelow
namespace Go.Proofs.YtoehlgigidgfpaaGreat
open Go.RowKit Go.Sort
set_option linter.unusedVariables false
set_option maxRecDepth 100000

/-- A value that leads to a delta. -/
structure DeAt (w : World) (v : Value) (d : De) : Prop where
  form : ∃ p n c, v = dlv d.k d.e d.key d.pg d.rt.leaf d.rt.lo d.rt.hi d.rt.r p n c ∧ d.rt.l.length = n ∧ Ens w p d.rt.l ∧ (p = none → n = 0 ∧ c = 0) ∧ n ≤ c

theorem DeAt.below {w w' : World} {v : Value} {d : De} (h : DeAt w v d) {B : Nat} (hb : Below B w w') (hB : w.heap.size ≤ B) : DeAt w' v d := by
  obtain ⟨p, n, c, hv, hn, he, hp, hc⟩ := h.form
  exact ⟨p, n, c, hv, hn, he.below hb hB, hp, hc⟩

theorem ret_dl {B : Nat} {w W : World} {v : Value} {D : De} (hB : Below B w W) (h : Below B w W → DeAt W v D) : ∃ v', Ending.returned v = .returned v' ∧ DeAt W v' D ∧ Below B w W := ⟨v, rfl, h hB, hB⟩

set_option maxHeartbeats 2000000 in
theorem named_1 (aek : ByteArray) (aes aeg aec : Int) (akey : ByteArray) (apg : Int) (aleaf : Bool) (alo ahi : ByteArray) (ar : Int) (ap : Option Addr) (an ac : Nat) (w : World) :
    Calls Tryz.prog 90 #[.agg #[.int .i64 1, .string aek, .int .i64 aes, .int .i64 aeg, .int .i64 aec, .string akey, .int .i64 apg, .bool aleaf, .string alo, .string ahi, .int .i64 ar, .slice ap an ac]] w fun r w' => r = .returned (.agg #[.int .i64 1, .string aek, .int .i64 aes, .int .i64 aeg, .int .i64 aec, .string ⟨#[]⟩, .int .i64 0, .bool false, .string ⟨#[]⟩, .string ⟨#[]⟩, .int .i64 0, .slice none 0 0]) ∧ Below w.heap.size w w' := by
  go_enter Tryz.func90, Tryz.ntmps90
  go_wp2
  refine bodyPost_ret (results_one (T' := 35) (cs := [.int .i64 1, .string aek, .int .i64 aes, .int .i64 aeg, .int .i64 aec, .string ⟨#[]⟩, .int .i64 0, .bool false, .string ⟨#[]⟩, .string ⟨#[]⟩, .int .i64 0, .slice none 0 0]) rfl rfl dl_agg dl_size rfl ((Bk.new1 _ _ _ _).alloc _)) rfl ?_
  exact ⟨rfl, (((Below.refl _ _).alloc (Nat.le_refl _) _).alloc (by simp) _).alloc (by simp; omega) _⟩

set_option maxHeartbeats 2000000 in
theorem named_2 (aek : ByteArray) (aes aeg aec : Int) (akey : ByteArray) (apg : Int) (aleaf : Bool) (alo ahi : ByteArray) (ar : Int) (ap : Option Addr) (an ac : Nat) (w : World) :
    Calls Tryz.prog 90 #[.agg #[.int .i64 2, .string aek, .int .i64 aes, .int .i64 aeg, .int .i64 aec, .string akey, .int .i64 apg, .bool aleaf, .string alo, .string ahi, .int .i64 ar, .slice ap an ac]] w fun r w' => r = .returned (.agg #[.int .i64 2, .string ⟨#[]⟩, .int .i64 0, .int .i64 0, .int .i64 0, .string akey, .int .i64 0, .bool false, .string ⟨#[]⟩, .string ⟨#[]⟩, .int .i64 0, .slice none 0 0]) ∧ Below w.heap.size w w' := by
  go_enter Tryz.func90, Tryz.ntmps90
  go_wp2
  refine bodyPost_ret (results_one (T' := 35) (cs := [.int .i64 2, .string ⟨#[]⟩, .int .i64 0, .int .i64 0, .int .i64 0, .string akey, .int .i64 0, .bool false, .string ⟨#[]⟩, .string ⟨#[]⟩, .int .i64 0, .slice none 0 0]) rfl rfl dl_agg dl_size rfl ((Bk.new1 _ _ _ _).alloc _)) rfl ?_
  exact ⟨rfl, (((Below.refl _ _).alloc (Nat.le_refl _) _).alloc (by simp) _).alloc (by simp; omega) _⟩

set_option maxHeartbeats 2000000 in
theorem named_3 (aek : ByteArray) (aes aeg aec : Int) (akey : ByteArray) (apg : Int) (aleaf : Bool) (alo ahi : ByteArray) (ar : Int) (ap : Option Addr) (an ac : Nat) (w : World) :
    Calls Tryz.prog 90 #[.agg #[.int .i64 3, .string aek, .int .i64 aes, .int .i64 aeg, .int .i64 aec, .string akey, .int .i64 apg, .bool aleaf, .string alo, .string ahi, .int .i64 ar, .slice ap an ac]] w fun r w' => r = .returned (.agg #[.int .i64 3, .string ⟨#[]⟩, .int .i64 0, .int .i64 0, .int .i64 0, .string akey, .int .i64 apg, .bool false, .string ⟨#[]⟩, .string ⟨#[]⟩, .int .i64 0, .slice none 0 0]) ∧ Below w.heap.size w w' := by
  go_enter Tryz.func90, Tryz.ntmps90
  go_wp2_with fail
  go_region
  go_wp2
  refine bodyPost_ret (results_one (T' := 35) (cs := [.int .i64 3, .string ⟨#[]⟩, .int .i64 0, .int .i64 0, .int .i64 0, .string akey, .int .i64 apg, .bool false, .string ⟨#[]⟩, .string ⟨#[]⟩, .int .i64 0, .slice none 0 0]) rfl rfl dl_agg dl_size rfl ((Bk.new1 _ _ _ _).alloc _)) rfl ?_
  exact ⟨rfl, ((((Below.refl _ _).alloc (Nat.le_refl _) _).alloc (by simp) _).alloc (by simp; omega) _).drew⟩

set_option maxHeartbeats 2000000 in
theorem named_4 (aek : ByteArray) (aes aeg aec : Int) (akey : ByteArray) (apg : Int) (aleaf : Bool) (alo ahi : ByteArray) (ar : Int) (ap : Option Addr) (an ac : Nat) (w : World) :
    Calls Tryz.prog 90 #[.agg #[.int .i64 4, .string aek, .int .i64 aes, .int .i64 aeg, .int .i64 aec, .string akey, .int .i64 apg, .bool aleaf, .string alo, .string ahi, .int .i64 ar, .slice ap an ac]] w fun r w' => r = .returned (.agg #[.int .i64 4, .string ⟨#[]⟩, .int .i64 0, .int .i64 0, .int .i64 0, .string ⟨#[]⟩, .int .i64 0, .bool aleaf, .string alo, .string ahi, .int .i64 ar, .slice ap an ac]) ∧ Below w.heap.size w w' := by
  go_enter Tryz.func90, Tryz.ntmps90
  go_wp2
  refine bodyPost_ret (results_one (T' := 35) (cs := [.int .i64 4, .string ⟨#[]⟩, .int .i64 0, .int .i64 0, .int .i64 0, .string ⟨#[]⟩, .int .i64 0, .bool aleaf, .string alo, .string ahi, .int .i64 ar, .slice ap an ac]) rfl rfl dl_agg dl_size rfl ((Bk.new1 _ _ _ _).alloc _)) rfl ?_
  exact ⟨rfl, (((Below.refl _ _).alloc (Nat.le_refl _) _).alloc (by simp) _).alloc (by simp; omega) _⟩

set_option maxHeartbeats 2000000 in
theorem named_5 (aek : ByteArray) (aes aeg aec : Int) (akey : ByteArray) (apg : Int) (aleaf : Bool) (alo ahi : ByteArray) (ar : Int) (ap : Option Addr) (an ac : Nat) (w : World) :
    Calls Tryz.prog 90 #[.agg #[.int .i64 5, .string aek, .int .i64 aes, .int .i64 aeg, .int .i64 aec, .string akey, .int .i64 apg, .bool aleaf, .string alo, .string ahi, .int .i64 ar, .slice ap an ac]] w fun r w' => r = .returned (.agg #[.int .i64 5, .string ⟨#[]⟩, .int .i64 0, .int .i64 0, .int .i64 0, .string ⟨#[]⟩, .int .i64 apg, .bool false, .string ⟨#[]⟩, .string ⟨#[]⟩, .int .i64 0, .slice none 0 0]) ∧ Below w.heap.size w w' := by
  go_enter Tryz.func90, Tryz.ntmps90
  go_wp2
  refine bodyPost_ret (results_one (T' := 35) (cs := [.int .i64 5, .string ⟨#[]⟩, .int .i64 0, .int .i64 0, .int .i64 0, .string ⟨#[]⟩, .int .i64 apg, .bool false, .string ⟨#[]⟩, .string ⟨#[]⟩, .int .i64 0, .slice none 0 0]) rfl rfl dl_agg dl_size rfl ((Bk.new1 _ _ _ _).alloc _)) rfl ?_
  exact ⟨rfl, (((Below.refl _ _).alloc (Nat.le_refl _) _).alloc (by simp) _).alloc (by simp; omega) _⟩

set_option maxHeartbeats 2000000 in
theorem named_0 (ak : Int) (k1 : (ak == 1) = false) (k2 : (ak == 2) = false) (k3 : (ak == 3) = false) (k4 : (ak == 4) = false) (k5 : (ak == 5) = false) (aek : ByteArray) (aes aeg aec : Int) (akey : ByteArray) (apg : Int) (aleaf : Bool) (alo ahi : ByteArray) (ar : Int) (ap : Option Addr) (an ac : Nat) (w : World) :
    Calls Tryz.prog 90 #[.agg #[.int .i64 ak, .string aek, .int .i64 aes, .int .i64 aeg, .int .i64 aec, .string akey, .int .i64 apg, .bool aleaf, .string alo, .string ahi, .int .i64 ar, .slice ap an ac]] w fun r w' => r = .returned (.agg #[.int .i64 ak, .string ⟨#[]⟩, .int .i64 0, .int .i64 0, .int .i64 0, .string ⟨#[]⟩, .int .i64 0, .bool false, .string ⟨#[]⟩, .string ⟨#[]⟩, .int .i64 0, .slice none 0 0]) ∧ Below w.heap.size w w' := by
  go_enter Tryz.func90, Tryz.ntmps90
  go_wp2
  refine bodyPost_ret (results_one (T' := 35) (cs := [.int .i64 ak, .string ⟨#[]⟩, .int .i64 0, .int .i64 0, .int .i64 0, .string ⟨#[]⟩, .int .i64 0, .bool false, .string ⟨#[]⟩, .string ⟨#[]⟩, .int .i64 0, .slice none 0 0]) rfl rfl dl_agg dl_size rfl ((Bk.new1 _ _ _ _).alloc _)) rfl ?_
  exact ⟨rfl, (((Below.refl _ _).alloc (Nat.le_refl _) _).alloc (by simp) _).alloc (by simp; omega) _⟩

/-- The value of what a delta names. -/
def Dl.nv (a : De) (ap : Option Addr) (an ac : Nat) : Value :=
  dlv (Dl.named a).k (Dl.named a).e (Dl.named a).key (Dl.named a).pg (Dl.named a).rt.leaf (Dl.named a).rt.lo (Dl.named a).rt.hi (Dl.named a).rt.r (if a.k = 4 then ap else none) (if a.k = 4 then an else 0) (if a.k = 4 then ac else 0)

theorem Dl.named_len {a : De} {an : Nat} (h : a.rt.l.length = an) : (Dl.named a).rt.l.length = if a.k = 4 then an else 0 := by
  unfold Dl.named
  by_cases h1 : a.k = 1
  · simp [h1, Pg.zero]
  · by_cases h2 : a.k = 2
    · simp [h2, Pg.zero]
    · by_cases h3 : a.k = 3
      · simp [h3, Pg.zero]
      · by_cases h4 : a.k = 4
        · simp [h4, h]
        · by_cases h5 : a.k = 5
          · simp [h5, Pg.zero]
          · simp [h1, h2, h3, h4, h5, Pg.zero]

theorem Dl.named_ens {w : World} {a : De} {ap : Option Addr} (h : Ens w ap a.rt.l) : Ens w (if a.k = 4 then ap else none) (Dl.named a).rt.l := by
  unfold Dl.named
  by_cases h1 : a.k = 1
  · simp [h1, Pg.zero, Ens.nil]
  · by_cases h2 : a.k = 2
    · simp [h2, Pg.zero, Ens.nil]
    · by_cases h3 : a.k = 3
      · simp [h3, Pg.zero, Ens.nil]
      · by_cases h4 : a.k = 4
        · simp [h4, h]
        · by_cases h5 : a.k = 5
          · simp [h5, Pg.zero, Ens.nil]
          · simp [h1, h2, h3, h4, h5, Pg.zero, Ens.nil]

theorem named_any (a : De) (ap : Option Addr) (an ac : Nat) (w : World) :
    Calls Tryz.prog 90 #[dlv a.k a.e a.key a.pg a.rt.leaf a.rt.lo a.rt.hi a.rt.r ap an ac] w fun r w' => r = .returned (Dl.nv a ap an ac) ∧ Below w.heap.size w w' := by
  obtain ⟨ak, ⟨aek, aes, aeg, aec⟩, akey, apg, ⟨aleaf, alo, ahi, ar, al⟩⟩ := a
  simp only
  by_cases h1 : ak = 1
  · subst h1
    exact named_1 aek aes aeg aec akey apg aleaf alo ahi ar ap an ac w
  · by_cases h2 : ak = 2
    · subst h2
      exact named_2 aek aes aeg aec akey apg aleaf alo ahi ar ap an ac w
    · by_cases h3 : ak = 3
      · subst h3
        exact named_3 aek aes aeg aec akey apg aleaf alo ahi ar ap an ac w
      · by_cases h4 : ak = 4
        · subst h4
          exact named_4 aek aes aeg aec akey apg aleaf alo ahi ar ap an ac w
        · by_cases h5 : ak = 5
          · subst h5
            exact named_5 aek aes aeg aec akey apg aleaf alo ahi ar ap an ac w
          · have := named_0 ak (by simp [h1]) (by simp [h2]) (by simp [h3]) (by simp [h4]) (by simp [h5]) aek aes aeg aec akey apg aleaf alo ahi ar ap an ac w
            unfold Dl.nv Dl.named
            simp only [h1, h2, h3, h4, h5, if_false]
            exact this

set_option maxHeartbeats 4000000 in
theorem dfits_any (a : De) (ap : Option Addr) (an ac : Nat) (w : World) (hna : a.rt.l.length = an) (ha : Ens w ap a.rt.l) (hl : an ≤ 4398046511104) :
    Calls Tryz.prog 91 #[dlv a.k a.e a.key a.pg a.rt.leaf a.rt.lo a.rt.hi a.rt.r ap an ac] w fun r w' => r = .returned (.bool (Dl.fits a)) ∧ Below w.heap.size w w' := by
  have hq := fun (W : World) (h : Below w.heap.size w W) => check_any a.rt.leaf a.rt.lo a.rt.hi a.rt.r ap an ac a.rt.l W hna (ha.below h (Nat.le_refl _)) hl
  have HQ : Hid _ := hq
  clear hq ha hna
  obtain ⟨v, HV⟩ : ∃ v, Hid (Dl.fits a = v) := ⟨_, rfl⟩
  rw [HV.out]
  obtain ⟨ak, ⟨aek, aes, aeg, aec⟩, akey, apg, ⟨aleaf, alo, ahi, ar, al⟩⟩ := a
  simp only at *
  have HB0 : Hid (Below w.heap.size w (w.alloc (.cells (dlc ak ⟨aek, aes, aeg, aec⟩ akey apg aleaf alo ahi ar ap an ac) 35))) := (Below.refl _ _).alloc (Nat.le_refl _) _
  by_cases h1 : ak = 1
  · subst h1
    have HF : Hid (v = true) := HV.out.symm
    clear HV
    go_enter Tryz.func91, Tryz.ntmps91
    go_wp2
    go_ret
    exact ⟨by rw [HF.out]; rfl, HB0.out⟩
  · have k1 : (ak == 1) = false := by simp [h1]
    by_cases h2 : ak = 2
    · subst h2
      have HF : Hid (v = true) := HV.out.symm
      clear HV
      go_enter Tryz.func91, Tryz.ntmps91
      go_wp2
      go_ret
      exact ⟨by rw [HF.out]; rfl, HB0.out⟩
    · have k2 : (ak == 2) = false := by simp [h2]
      by_cases h3 : ak = 3
      · subst h3
        have HF : Hid (v = (!akey.toList.isEmpty && decide (1 ≤ apg))) := HV.out.symm
        clear HV
        cases h : akey.toList.isEmpty with
        | true =>
          rw [h] at HF
          go_enter Tryz.func91, Tryz.ntmps91
          go_wp2
          go_ret
          exact ⟨by rw [HF.out]; rfl, HB0.out⟩
        | false =>
          rw [h] at HF
          go_enter Tryz.func91, Tryz.ntmps91
          go_wp2
          go_ret
          exact ⟨by rw [HF.out]; simp, HB0.out⟩
      · have k3 : (ak == 3) = false := by simp [h3]
        by_cases h4 : ak = 4
        · subst h4
          have HF : Hid (v = Pg.may aleaf ⟨alo, ahi⟩ ar al) := HV.out.symm
          clear HV
          obtain ⟨t, ht⟩ : ∃ t, Pg.may aleaf ⟨alo, ahi⟩ ar al = t := ⟨_, rfl⟩
          rw [ht] at HF HQ
          clear ht
          go_enter Tryz.func91, Tryz.ntmps91
          go_wp2_with fail
          refine (HQ.out _ HB0.out).mono ?_
          cases t with
          | true =>
            rintro e w1 ⟨rfl, hb1⟩
            have HB1 : Hid (Below w.heap.size w w1) := HB0.out.trans (hb1.mono HB0.out.size)
            clear hb1
            go_wp2
            go_ret
            exact ⟨by rw [HF.out]; rfl, HB1.out⟩
          | false =>
            rintro e w1 ⟨rfl, hb1⟩
            have HB1 : Hid (Below w.heap.size w w1) := HB0.out.trans (hb1.mono HB0.out.size)
            clear hb1
            go_wp2
            go_ret
            exact ⟨by rw [HF.out]; rfl, HB1.out⟩
        · have k4 : (ak == 4) = false := by simp [h4]
          by_cases h5 : ak = 5
          · subst h5
            have HF : Hid (v = decide (1 ≤ apg)) := HV.out.symm
            clear HV
            go_enter Tryz.func91, Tryz.ntmps91
            go_wp2
            go_ret
            exact ⟨by rw [HF.out]; rfl, HB0.out⟩
          · have k5 : (ak == 5) = false := by simp [h5]
            have HF : Hid (v = false) := by
              rw [Hid, ← HV.out]
              unfold Dl.fits
              simp only [h1, h2, h3, h4, h5, if_false]
            clear HV
            go_enter Tryz.func91, Tryz.ntmps91
            go_wp2
            go_ret
            exact ⟨by rw [HF.out]; rfl, HB0.out⟩

set_option maxHeartbeats 4000000 in
theorem dcheck_any (a : De) (ap : Option Addr) (an ac : Nat) (w : World) (hna : a.rt.l.length = an) (ha : Ens w ap a.rt.l) (hl : an ≤ 4398046511104) :
    Calls Tryz.prog 58 #[dlv a.k a.e a.key a.pg a.rt.leaf a.rt.lo a.rt.hi a.rt.r ap an ac] w fun r w' => r = .returned (.int .i64 (if Dl.may a then 0 else 90)) ∧ Below w.heap.size w w' := by
  obtain ⟨w0, hw0⟩ : ∃ w0, w.alloc (.cells (dlc a.k a.e a.key a.pg a.rt.leaf a.rt.lo a.rt.hi a.rt.r ap an ac) 35) = w0 := ⟨_, rfl⟩
  have HB0 : Hid (Below w.heap.size w w0) := by rw [← hw0]; exact (Below.refl _ _).alloc (Nat.le_refl _) _
  have HK0 : Hid (Bk w0 w.heap.size 35 (dlc a.k a.e a.key a.pg a.rt.leaf a.rt.lo a.rt.hi a.rt.r ap an ac)) := by rw [← hw0]; exact Bk.new _ _ _
  have HA0 : Hid (Ens w0 ap a.rt.l) := ha.below HB0.out (Nat.le_refl _)
  have HN : Hid (a.rt.l.length = an) := hna
  clear ha hna
  have cN : ∀ d os, Calls Tryz.prog 90 #[dlv a.k a.e a.key a.pg a.rt.leaf a.rt.lo a.rt.hi a.rt.r ap an ac] (grow (redrawn w0 d) os) fun e w'' => e = .returned (Dl.nv a ap an ac) ∧ ∃ p : Regrown, w'' = grow (redrawn w0 p.d) p.os := fun d os => Calls.regrown_of (named_any a ap an ac _)
  have cS : ∀ d os, Calls Tryz.prog 89 #[dlv a.k a.e a.key a.pg a.rt.leaf a.rt.lo a.rt.hi a.rt.r ap an ac, Dl.nv a ap an ac] (grow (redrawn w0 d) os) fun e w'' => e = .returned (.bool (Dl.same a (Dl.named a))) ∧ ∃ p : Regrown, w'' = grow (redrawn w0 p.d) p.os := fun d os => Calls.regrown_of (dsame_any a (Dl.named a) ap _ an _ ac _ _ HN.out (Dl.named_len HN.out) (HA0.out.below (below_regrown w0 d os) (Nat.le_refl _)) (Dl.named_ens (HA0.out.below (below_regrown w0 d os) (Nat.le_refl _))) hl)
  have cF : ∀ d os, Calls Tryz.prog 91 #[dlv a.k a.e a.key a.pg a.rt.leaf a.rt.lo a.rt.hi a.rt.r ap an ac] (grow (redrawn w0 d) os) fun e w'' => e = .returned (.bool (Dl.fits a)) ∧ ∃ p : Regrown, w'' = grow (redrawn w0 p.d) p.os := fun d os => Calls.regrown_of (dfits_any a ap an ac _ HN.out (HA0.out.below (below_regrown w0 d os) (Nat.le_refl _)) hl)
  obtain ⟨v, HM⟩ : ∃ v : Int, Hid ((if (Dl.same a (Dl.named a) && Dl.fits a) then 0 else 90 : Int) = v) := ⟨_, rfl⟩
  rw [show (if Dl.may a then 0 else 90 : Int) = v from HM.out]
  generalize Dl.same a (Dl.named a) = s at *
  generalize Dl.fits a = t at *
  generalize Dl.nv a ap an ac = nv at *
  obtain ⟨ak, ⟨aek, aes, aeg, aec⟩, akey, apg, ⟨aleaf, alo, ahi, ar, al⟩⟩ := a
  simp only at *
  have x0 := cell_regrown (show w0.cell? ⟨w.heap.size, 0, none⟩ = some (.int .i64 ak) from HK0.out.cell 0)
  have x1 := cell_regrown (show w0.cell? ⟨w.heap.size, 1, none⟩ = some (.string aek) from HK0.out.cell 1)
  have x2 := cell_regrown (show w0.cell? ⟨w.heap.size, 2, none⟩ = some (.int .i64 aes) from HK0.out.cell 2)
  have x3 := cell_regrown (show w0.cell? ⟨w.heap.size, 3, none⟩ = some (.int .i64 aeg) from HK0.out.cell 3)
  have x4 := cell_regrown (show w0.cell? ⟨w.heap.size, 4, none⟩ = some (.int .i64 aec) from HK0.out.cell 4)
  have x5 := cell_regrown (show w0.cell? ⟨w.heap.size, 5, none⟩ = some (.string akey) from HK0.out.cell 5)
  have x6 := cell_regrown (show w0.cell? ⟨w.heap.size, 6, none⟩ = some (.int .i64 apg) from HK0.out.cell 6)
  have x7 := cell_regrown (show w0.cell? ⟨w.heap.size, 7, none⟩ = some (.bool aleaf) from HK0.out.cell 7)
  have x8 := cell_regrown (show w0.cell? ⟨w.heap.size, 8, none⟩ = some (.string alo) from HK0.out.cell 8)
  have x9 := cell_regrown (show w0.cell? ⟨w.heap.size, 9, none⟩ = some (.string ahi) from HK0.out.cell 9)
  have x10 := cell_regrown (show w0.cell? ⟨w.heap.size, 10, none⟩ = some (.int .i64 ar) from HK0.out.cell 10)
  have x11 := cell_regrown (show w0.cell? ⟨w.heap.size, 11, none⟩ = some (.slice ap an ac) from HK0.out.cell 11)
  go_enter Tryz.func58, Tryz.ntmps58
  cases s with
  | false =>
    have HF : Hid (v = 90) := HM.out.symm
    go_wp2_with fail
    clear hw0
    refine wp_region_quiet_below (by kernel_rfl) (by kernel_rfl) ?_
    repeat (go_big_quiet_step (first | (go_at_call 90; exact cN _ _) | (go_at_call 89; exact cS _ _) | (go_at_call 91; exact cF _ _)))
    refine wpQuiet_nil ?_
    intro _ hw'
    obtain ⟨⟨dq, osq⟩, hw''⟩ := hw'
    subst hw''
    have HBF : Hid (Below w.heap.size w (grow (redrawn w0 dq) osq)) := HB0.out.trans ((below_regrown w0 dq osq).mono HB0.out.size)
    clear cN cS cF x0 x1 x2 x3 x4 x5 x6 x7 x8 x9 x10 x11
    go_wp2
    go_ret
    exact ⟨by rw [HF.out]; rfl, HBF.out⟩
  | true =>
    cases t with
    | true =>
      have HF : Hid (v = 0) := HM.out.symm
      go_wp2_with fail
      clear hw0
      refine wp_region_quiet_below (by kernel_rfl) (by kernel_rfl) ?_
      repeat (go_big_quiet_step (first | (go_at_call 90; exact cN _ _) | (go_at_call 89; exact cS _ _) | (go_at_call 91; exact cF _ _)))
      refine wpQuiet_nil ?_
      intro _ hw'
      obtain ⟨⟨dq, osq⟩, hw''⟩ := hw'
      subst hw''
      have HBF : Hid (Below w.heap.size w (grow (redrawn w0 dq) osq)) := HB0.out.trans ((below_regrown w0 dq osq).mono HB0.out.size)
      clear cN cS cF x0 x1 x2 x3 x4 x5 x6 x7 x8 x9 x10 x11
      go_wp2
      go_ret
      exact ⟨by rw [HF.out]; rfl, HBF.out⟩
    | false =>
      have HF : Hid (v = 90) := HM.out.symm
      go_wp2_with fail
      clear hw0
      refine wp_region_quiet_below (by kernel_rfl) (by kernel_rfl) ?_
      repeat (go_big_quiet_step (first | (go_at_call 90; exact cN _ _) | (go_at_call 89; exact cS _ _) | (go_at_call 91; exact cF _ _)))
      refine wpQuiet_nil ?_
      intro _ hw'
      obtain ⟨⟨dq, osq⟩, hw''⟩ := hw'
      subst hw''
      have HBF : Hid (Below w.heap.size w (grow (redrawn w0 dq) osq)) := HB0.out.trans ((below_regrown w0 dq osq).mono HB0.out.size)
      clear cN cS cF x0 x1 x2 x3 x4 x5 x6 x7 x8 x9 x10 x11
      go_wp2
      go_ret
      exact ⟨by rw [HF.out]; rfl, HBF.out⟩

end Go.Proofs.YtoehlgigidgfpaaGreat
