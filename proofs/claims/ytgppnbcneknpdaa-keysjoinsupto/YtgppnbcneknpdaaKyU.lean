/- Union: the code's. -/
import Derived.Test.YtgppnbcneknpdaaKyR
import Derived.Deep.RegionHeld3
import Derived.Deep.QuietTactic
import Derived.BigQuiet
import Derived.OwnWalk
namespace Go.Proofs.Ytgppnbcneknpdaa
open Go.RowKit
set_option linter.unusedVariables false
set_option maxRecDepth 100000

/-- One range more, which does not begin ahead of those that are there. -/
def Ky.step (out : List Rg) (r : Rg) : List Rg :=
  match out.getLast? with
  | none => [r]
  | some q => if Ky.apart q r then out ++ [r] else if 0 < Ky.ends r.hi q.hi then out.set (out.length - 1) ⟨q.lo, r.hi⟩ else out

/-- Ranges that are in order, put together. -/
def Ky.uni (l : List Rg) : List Rg := l.foldl Ky.step []

theorem Ky.step_len (out : List Rg) (r : Rg) : (Ky.step out r).length ≤ out.length + 1 := by
  unfold Ky.step
  split
  · simp
  · split
    · simp
    · split <;> simp

theorem flatR_append (a b : List Rg) : flatR (a ++ b) = flatR a ++ flatR b := by unfold flatR; simp

theorem flatR_set : ∀ (l : List Rg) (k : Nat) (q : Rg) (hi : ByteArray), l[k]? = some q → flatR (l.set k ⟨q.lo, hi⟩) = (flatR l).set (k * 2 + 1) (.string hi)
  | [], k, q, hi, h => by simp at h
  | x :: r, 0, q, hi, h => by
    simp at h
    subst h
    simp [flatR, Rg.cells]
  | x :: r, k + 1, q, hi, h => by
    simp only [List.getElem?_cons_succ] at h
    have := flatR_set r k q hi h
    unfold flatR at this ⊢
    simp only [List.set_cons_succ, List.map_cons, List.flatten_cons, this]
    rw [List.set_append_right _ _ (by simp [Rg.cells]; omega)]
    simp only [Rg.cells, List.length_cons, List.length_nil]
    rw [show (k + 1) * 2 + 1 - (0 + 1 + 1) = k * 2 + 1 by omega]

theorem rgs_one (w : World) (a : Rg) : Rgs (w.alloc (.cells #[.string a.lo, .string a.hi] 24)) (some ⟨w.heap.size, 0, none⟩) [a] := by
  intro _
  have hk := Bk.new w 24 #[.string a.lo, .string a.hi]
  refine ⟨w.heap.size, 0, rfl, fun i g hi => ?_⟩
  match i, hi with
  | 0, hi =>
    simp at hi
    subst hi
    exact ⟨hk.cell 0, hk.cell 1⟩
  | n + 1, hi => simp at hi

set_option maxHeartbeats 2000000 in
theorem union_any (p : Option Addr) (len cap : Nat) (l : List Rg) (w : World) (hlen : l.length = len) (hx : Rgs w p l) (hl : len ≤ 3298534883328) (hp : p = none → len = 0) :
    Calls Try.prog 9 #[.slice p len cap] w fun e w' => ∃ v l', e = .returned v ∧ l'.Perm (Ky.full l) ∧ Ky.Sorted l' ∧ OwnR w' w.heap.size v (Ky.uni l') ∧ Below w.heap.size w w' := by
  obtain ⟨i0, hi0, hz0, hz1, hz2⟩ := rg_info
  go_enter Try.func9, Try.ntmps9
  go_wp2_with fail
  refine (rising_any p len cap l _ hlen hx (by omega) hp).mono ?_
  rintro e w1 ⟨p1, c1, l1, rfl, hr1, hp1, hs1, hb1⟩
  have HB1 : Hid (Below w.heap.size w w1) := hb1
  have HR1 : Hid (Rgs w1 p1 l1) := hr1
  have HP1 : Hid (l1.Perm (Ky.full l)) := hp1
  have HS1 : Hid (Ky.Sorted l1) := hs1
  have hl1 : l1.length ≤ 3298534883328 := by have := hp1.length_eq; have := Ky.full_le l; omega
  obtain ⟨n, hn⟩ : ∃ n, n = l1.length := ⟨_, rfl⟩
  have HN : Hid (n = l1.length) := hn
  rw [← hn] at hl1 ⊢
  clear hb1 hr1 hp1 hs1 hn hx hlen hp hl
  go_wp2_with fail
  go_loopw [3, 10] (fun v i wr => ∃ (k : Nat) (out : List Rg), k ≤ n ∧ i = .int .i64 k ∧ Hid (OwnR wr w1.heap.size v out) ∧ Hid (out.length ≤ k) ∧ Hid ((l1.take k).foldl Ky.step [] = out) ∧ Hid (Below w1.heap.size w1 wr)) (fun _ i _ => n - (intOf i).toNat)
  case atStart => exact ⟨0, [], Nat.zero_le _, rfl, ⟨rfl, .inl ⟨rfl, rfl⟩⟩, Nat.zero_le _, rfl, Below.refl _ _⟩
  case round =>
    obtain ⟨k, out, hk, rfl, HO, HOL, HQ, HW⟩ := hrel
    by_cases hlt : k < n
    · have hli : (k : Int) < (n : Int) := by omega
      obtain ⟨b, o, x, rfl, hg, hblt, c0, c1⟩ := (HR1.out.below HW.out (Nat.le_refl _)).at (j := k) (by have := HN.out; omega)
      have HQ1 : Hid ((l1.take (k + 1)).foldl Ky.step [] = Ky.step out x) := by unfold Hid; rw [Ky.foldl_at _ _ hg, HQ.out]
      have hsz : w1.heap.size ≤ wr.heap.size := HW.out.size
      have HK5 : Hid (Bk (wr.alloc (.cells #[.string x.lo, .string x.hi] 24)) wr.heap.size 24 #[.string x.lo, .string x.hi]) := Bk.new _ _ _
      have HW5 : Hid (Below w1.heap.size w1 (wr.alloc (.cells #[.string x.lo, .string x.hi] 24))) := HW.out.alloc hsz _
      obtain ⟨pv, cv, rfl, hrv, hpv⟩ := HO.out.rgs
      have HO5 : Hid (OwnR (wr.alloc (.cells #[.string x.lo, .string x.hi] 24)) w1.heap.size (.slice pv out.length cv) out) := HO.out.below ((Below.refl _ _).alloc (Nat.le_refl _) _) (Nat.le_refl _)
      clear hg
      cases hlast : out.getLast? with
      | none =>
        have ho0 : out = [] := List.getLast?_eq_none_iff.1 hlast
        subst ho0
        have HST : Hid (Ky.step [] x = [x]) := rfl
        clear hrv hpv hlast
        go_wp2_with fail
        go_quiet (fail)
        have HK6 : Hid (Bk ((wr.alloc (.cells #[.string x.lo, .string x.hi] 24)).drewN nq) wr.heap.size 24 #[.string x.lo, .string x.hi]) := HK5.out
        have HW6 : Hid (Below w1.heap.size w1 ((wr.alloc (.cells #[.string x.lo, .string x.hi] 24)).drewN nq)) := ⟨HW5.out.os, HW5.out.tape, HW5.out.output, HW5.out.size, HW5.out.block⟩
        have HO6 : Hid (OwnR ((wr.alloc (.cells #[.string x.lo, .string x.hi] 24)).drewN nq) w1.heap.size (.slice pv [].length cv) []) := HO5.out
        generalize ((wr.alloc (.cells #[.string x.lo, .string x.hi] 24)).drewN nq) = w6 at HK6 HW6 HO6 ⊢
        have b0 := HK6.out.cell 0
        have b1 := HK6.out.cell 1
        simp at b0 b1
        have HOA : Hid (OwnR (w6.alloc (.cells #[.string x.lo, .string x.hi] 24)) w1.heap.size (.slice pv [].length cv) []) := HO6.out.below ((Below.refl _ _).alloc (Nat.le_refl _) _) (Nat.le_refl _)
        have HWA : Hid (Below w1.heap.size w1 (w6.alloc (.cells #[.string x.lo, .string x.hi] 24))) := HW6.out.alloc HW6.out.size _
        go_wp2_with (at_builtin; refine wpList_append_own _ rfl _ _ 22 rfl w1.heap.size 24 i0 _ 2 32 Try.underlying22 hi0 hz0 hz1 hz2 rfl (by decide) (.slice pv [].length cv) [].length (flatR []) rfl HOA.out ⟨w6.heap.size, 0, none⟩ 1 1 (flatR [x]) rfl ?qc1 ?qc2 ?qc3 ?qc4 ?qc5 ?qc6 ?_)
        case qc1 => rfl
        case qc2 => exact (rgs_one w6 x).news _ rfl
        case qc3 => exact flatR_one [x]
        case qc4 => unfold maxLen; have := HOL.out; omega
        case qc5 => have := HOL.out; omega
        case qc6 => have := HW6.out.size; simp; omega
        intro v7 w7 hown hgrow hnil
        have HO7 : Hid (OwnR w7 w1.heap.size v7 ([] ++ [x])) := by
          unfold Hid OwnR
          rw [flatR_append, List.length_append]
          exact hown
        have HW7 : Hid (Below w1.heap.size w1 w7) := HWA.out.grown hgrow HWA.out.size (by
          intro k hk
          exact (World.ownsRow.lt HOA.out k hk).1)
        clear hown hgrow hnil
        go_wp2
        go_roundw
        case rel => exact ⟨k + 1, [] ++ [x], by omega, by go_num, HO7, by unfold Hid; rw [List.length_append]; have := HOL.out; simp, HQ1.out.trans HST.out, HW7⟩
        case measure => simp [intOf]; omega
      | some q =>
        obtain ⟨m, hm⟩ : ∃ m, out.length = m + 1 := by
          cases out with
          | nil => simp at hlast
          | cons y r => exact ⟨r.length, rfl⟩
        have hq : out[m]? = some q := by
          rw [List.getLast?_eq_getElem?, hm] at hlast
          exact hlast
        rcases HO.out.row with ⟨h1, h2⟩ | ⟨g, cap', h1, h2, h3, h4, h5, h6⟩
        · subst h2
          simp at hm
        · simp only [Value.slice.injEq] at h1
          obtain ⟨rfl, -, rfl⟩ := h1
          have HM : Hid (out.length = m + 1) := hm
          have HL : Hid (out.getLast? = some q) := hlast
          have HG : Hid (w1.heap.size ≤ g ∧ g < wr.heap.size) := ⟨h2, h3⟩
          have HQQ : Hid (out[m]? = some q) := hq
          have HC : Hid (∀ w', Below (wr.heap.size + 1) (wr.alloc (.cells #[.string x.lo, .string x.hi] 24)) w' → (w'.cell? ⟨g, m * 2, none⟩ = some (.string q.lo) ∧ w'.cell? ⟨g, m * 2 + 1, none⟩ = some (.string q.hi) ∧ w'.cell? ⟨wr.heap.size, 0, none⟩ = some (.string x.lo) ∧ w'.cell? ⟨wr.heap.size, 1, none⟩ = some (.string x.hi)) ∧ wr.heap.size + 1 ≤ w'.heap.size) := by
            intro w' hb
            have hrow := h6.same (w' := w') ((hb.block g (by omega)).trans (Below.heap_alloc _ _ _ h3))
            have hbk := HK5.out.below hb (by omega)
            exact ⟨⟨(hrow m q hq).1.1, (hrow m q hq).1.2, hbk.cell 0, hbk.cell 1⟩, by have := hbk.lt; omega⟩
          have hB : Below (wr.heap.size + 1) (wr.alloc (.cells #[.string x.lo, .string x.hi] 24)) (wr.alloc (.cells #[.string x.lo, .string x.hi] 24)).drew := (Below.refl _ _).drew
          have hk1 := (HC.out _ (Below.refl _ _)).1
          have hkd := (HC.out _ hB).1
          have hm1 : (m : Int) < ((m + 1 : Nat) : Int) := by omega
          have hm0 : (0 : Int) ≤ (m : Int) := by omega
          have hm2 : (m : Int) < (m : Int) + 1 := by omega
          have hmb : m ≤ 3298534883328 := by have := HOL.out; omega
          have hmz : ¬ (m : Int) < 0 := by omega
          have hmd : decide ((m : Int) < 0) = false := decide_eq_false hmz
          rw [hm]
          clear hrv hpv hlast h6 h4 h5 hm hq h2 h3
          go_wp2_with fail
          go_region_held3 (fun w' => w'.cell? ⟨g, m * 2, none⟩ = some (.string q.lo) ∧ w'.cell? ⟨g, m * 2 + 1, none⟩ = some (.string q.hi) ∧ w'.cell? ⟨wr.heap.size, 0, none⟩ = some (.string x.lo) ∧ w'.cell? ⟨wr.heap.size, 1, none⟩ = some (.string x.hi)) (go_keep) (first
            | (go_at_call 34; refine (apart_any q x _).mono ?_; rintro e w6 ⟨rfl, hb⟩; have hB6 := hB.trans (hb.mono (HC.out _ hB).2); clear hb; have hkc := (HC.out w6 hB6).1))
          have HT6 : Hid (Below (wr.heap.size + 1) (wr.alloc (.cells #[.string x.lo, .string x.hi] 24)) w6) := hB6
          have HW6 : Hid (Below w1.heap.size w1 w6) := HW5.out.trans (hB6.mono (by have := HW.out.size; omega))
          have HO6 : Hid (OwnR w6 w1.heap.size (.slice (some ⟨g, 0, none⟩) out.length cv) out) := HO5.out.below hB6 (by simp)
          have HK6 : Hid (Bk w6 wr.heap.size 24 #[.string x.lo, .string x.hi]) := HK5.out.below hB6 (by omega)
          have HSTP : Hid (Ky.step out x = if Ky.apart q x then out ++ [x] else if 0 < Ky.ends x.hi q.hi then out.set (out.length - 1) ⟨q.lo, x.hi⟩ else out) := by
            unfold Hid Ky.step
            rw [HL.out]
          clear hB hk1 hkd hkc hB6 HK5 HO5 c0 c1 HO HC
          cases hap : Ky.apart q x with
          | true =>
            have HST : Hid (Ky.step out x = out ++ [x]) := by unfold Hid; rw [HSTP.out, hap, if_pos rfl]
            have b0 := HK6.out.cell 0
            have b1 := HK6.out.cell 1
            simp at b0 b1
            have HOA : Hid (OwnR (w6.alloc (.cells #[.string x.lo, .string x.hi] 24)) w1.heap.size (.slice (some ⟨g, 0, none⟩) (m + 1) cv) out) := (HM.out ▸ HO6.out : OwnR w6 w1.heap.size (.slice (some ⟨g, 0, none⟩) (m + 1) cv) out).below ((Below.refl _ _).alloc (Nat.le_refl _) _) (Nat.le_refl _)
            have HWA : Hid (Below w1.heap.size w1 (w6.alloc (.cells #[.string x.lo, .string x.hi] 24))) := HW6.out.alloc HW6.out.size _
            go_wp2_with (at_builtin; refine wpList_append_own _ rfl _ _ 22 rfl w1.heap.size 24 i0 _ 2 32 Try.underlying22 hi0 hz0 hz1 hz2 rfl (by decide) (.slice (some ⟨g, 0, none⟩) (m + 1) cv) out.length (flatR out) rfl HOA.out ⟨w6.heap.size, 0, none⟩ 1 1 (flatR [x]) rfl ?qc1 ?qc2 ?qc3 ?qc4 ?qc5 ?qc6 ?_)
            case qc1 => rfl
            case qc2 => exact (rgs_one w6 x).news _ rfl
            case qc3 => exact flatR_one [x]
            case qc4 => unfold maxLen; have := HOL.out; have := HM.out; omega
            case qc5 => have := HOL.out; have := HM.out; omega
            case qc6 => have := HW6.out.size; simp; omega
            intro v7 w7 hown hgrow hnil
            have HO7 : Hid (OwnR w7 w1.heap.size v7 (out ++ [x])) := by
              unfold Hid OwnR
              rw [flatR_append, List.length_append]
              exact hown
            have HW7 : Hid (Below w1.heap.size w1 w7) := HWA.out.grown hgrow HWA.out.size (by
              intro k hk
              exact (World.ownsRow.lt HOA.out k hk).1)
            clear hown hgrow hnil
            go_wp2
            go_roundw
            case rel => exact ⟨k + 1, out ++ [x], by omega, by go_num, HO7, by unfold Hid; rw [List.length_append]; have := HOL.out; simp; omega, HQ1.out.trans HST.out, HW7⟩
            case measure => simp [intOf]; omega
          | false =>
            have b0 := HK6.out.cell 0
            have b1 := HK6.out.cell 1
            simp at b0 b1
            have HOR : Hid (Row w6 g out) := by
              rcases HO6.out.row with ⟨h1, -⟩ | ⟨g', cap', h1, -, -, -, -, h6⟩
              · cases h1
              · simp only [Value.slice.injEq, Option.some.injEq, Addr.mk.injEq] at h1
                obtain ⟨⟨rfl, -⟩, -⟩ := h1
                exact h6
            obtain ⟨⟨d0, d1⟩, z0, z1⟩ := HOR.out m q HQQ.out
            go_wp2_with fail
            go_quiet (first | (go_at_call 35; refine Calls.quiet_of_same (ends_any x.hi q.hi _)))
            have HW7 : Hid (Below w1.heap.size w1 (w6.drewN nq)) := ⟨HW6.out.os, HW6.out.tape, HW6.out.output, HW6.out.size, HW6.out.block⟩
            have HO7 : Hid (OwnR (w6.drewN nq) w1.heap.size (.slice (some ⟨g, 0, none⟩) (m + 1) cv) out) := by
              have h0 := HO6.out
              rw [HM.out] at h0
              exact h0
            have HOR7 : Hid (Row (w6.drewN nq) g out) := HOR.out.same rfl
            have HK7 : Hid (Bk (w6.drewN nq) wr.heap.size 24 #[.string x.lo, .string x.hi]) := HK6.out
            clear d0 d1 z0 z1 b0 b1
            generalize w6.drewN nq = w7 at HW7 HO7 HOR7 HK7 ⊢
            obtain ⟨⟨d0, d1⟩, z0, z1⟩ := HOR7.out m q HQQ.out
            have b1 := HK7.out.cell 1
            simp at b1
            by_cases hc : 0 < Ky.ends x.hi q.hi
            · have HST : Hid (Ky.step out x = out.set m ⟨q.lo, x.hi⟩) := by
                unfold Hid
                rw [HSTP.out, hap, if_neg (by decide), if_pos hc, HM.out]
                rfl
              have hown7 : w7.ownsRow w1.heap.size 24 2 (.slice (some ⟨g, 0, none⟩) (m + 1) cv) (m + 1) (flatR out) := by
                have h0 := HO7.out
                unfold OwnR at h0
                rw [HM.out] at h0
                exact h0
              have hstored := World.ownsRow.stored hown7 (m * 2 + 1) (.string x.hi)
              have HO8 : Hid (OwnR (w7.setCell ⟨g, m * 2 + 1, none⟩ (.string x.hi)) w1.heap.size (.slice (some ⟨g, 0, none⟩) (m + 1) cv) (out.set m ⟨q.lo, x.hi⟩)) := by
                unfold Hid OwnR
                rw [flatR_set out m q x.hi HQQ.out, List.length_set, HM.out]
                exact hstored.1
              have HW8 : Hid (Below w1.heap.size w1 (w7.setCell ⟨g, m * 2 + 1, none⟩ (.string x.hi))) := HW7.out.setCell (show w1.heap.size ≤ g from HG.out.1) _
              clear hstored hown7
              go_wp2
              go_roundw
              case rel => exact ⟨k + 1, out.set m ⟨q.lo, x.hi⟩, by omega, by go_num, HO8, by unfold Hid; rw [List.length_set]; have := HOL.out; omega, HQ1.out.trans HST.out, HW8⟩
              case measure => simp [intOf]; omega
            · have HST : Hid (Ky.step out x = out) := by
                unfold Hid
                rw [HSTP.out, hap, if_neg (by decide), if_neg hc]
              go_wp2
              go_roundw
              case rel => exact ⟨k + 1, out, by omega, by go_num, HO7, by unfold Hid; have := HOL.out; omega, HQ1.out.trans HST.out, HW7⟩
              case measure => simp [intOf]; omega
    · have hkk : k = n := by omega
      have hli : ¬ ((k : Int) < (n : Int)) := by omega
      have HF : Hid (Ky.uni l1 = out) := by
        unfold Hid Ky.uni
        rw [← HQ.out, List.take_of_length_le (by have := HN.out; omega)]
      go_wp2
      go_ret
      refine ⟨_, rfl, l1, HP1.out, HS1.out, ?_, HB1.out.trans (HW.out.mono HB1.out.size)⟩
      rw [HF.out]
      have h0 := HO.out
      refine ⟨h0.1, ?_⟩
      rcases h0.2 with hn | ⟨g, cap, cur, hv, hbb, rest⟩
      · exact .inl hn
      · exact .inr ⟨g, cap, cur, hv, Nat.le_trans HB1.out.size hbb, rest⟩
end Go.Proofs.Ytgppnbcneknpdaa
