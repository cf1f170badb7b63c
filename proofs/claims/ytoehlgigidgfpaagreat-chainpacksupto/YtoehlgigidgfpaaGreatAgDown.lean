/- A heap's number goes down. -/
import Derived.Test.YtoehlgigidgfpaaGreatAgUp
namespace Go.Proofs.YtoehlgigidgfpaaGreat
open Go.RowKit
set_option linter.unusedVariables false
set_option maxRecDepth 100000

/-- Between two rounds. -/
structure Dw (w wr : World) (B : Nat) (t : TypeId) (c0 c1 c3 v : Value) (l l' : List Nat) (n i : Nat) : Prop where
  wt : Wt wr B t c0 c1 c3 v l'
  perm : l'.Perm l
  dn : Hq.Dn l' n i
  last : Hq.at' l' n = Hq.at' l n
  tn : Tn v.ownBlock.toList w wr
  len : l'.length = n + 1

theorem Dw.tn' {w wr w' : World} {B : Nat} {t : TypeId} {c0 c1 c3 v : Value} {l l' : List Nat} {n i : Nat} (h : Dw w wr B t c0 c1 c3 v l l' n i) (ht : Tn [] wr w') : Dw w w' B t c0 c1 c3 v l l' n i :=
  ⟨h.wt.tn (ht.mono (by simp)) (h.wt.row.tn ht (by simp)) rfl, h.perm, h.dn, h.last, h.tn.trans ht (by simp), h.len⟩

theorem Dw.swap {w wr w' : World} {B : Nat} {t : TypeId} {c0 c1 c3 v : Value} {l l' : List Nat} {n i j : Nat} (h : Dw w wr B t c0 c1 c3 v l l' n i) (hr : Nr w' v (Hq.swap l' i j)) (ht : Tn v.ownBlock.toList wr w') (hj0 : 0 < j) (hjn : j < n) (hp : (j - 1) / 2 = i) (hlt : Hq.at' l' j < Hq.at' l' i) (hmin : ∀ k, 0 < k → k < n → (k - 1) / 2 = i → Hq.at' l' j ≤ Hq.at' l' k) :
    Dw w w' B t c0 c1 c3 v l (Hq.swap l' i j) n j := by
  have hl := h.len
  exact ⟨h.wt.tn ht hr (Hq.swap_length _ _ _), (Hq.swap_perm _ _ _ (by omega) (by omega)).trans h.perm, h.dn.step hj0 hjn hp hlt hmin, (Hq.swap_at_last (by omega) (by omega) (by omega) (by omega)).trans h.last, h.tn.trans ht (fun x hx => .inl hx), by rw [Hq.swap_length]; exact hl⟩

def Down (w w' : World) (B : Nat) (t : TypeId) (c0 c1 c3 v : Value) (l : List Nat) (n : Nat) : Prop := ∃ l', Wt w' B t c0 c1 c3 v l' ∧ l'.Perm l ∧ Hq.at' l' n = Hq.at' l n ∧ Hq.Is (l'.take n) ∧ Tn v.ownBlock.toList w w' ∧ l'.length = n + 1

theorem Dw.stop {w wr : World} {B : Nat} {t : TypeId} {c0 c1 c3 v : Value} {l l' : List Nat} {n i : Nat} (h : Dw w wr B t c0 c1 c3 v l l' n i) (hs : ∀ k, 0 < k → k < n → (k - 1) / 2 = i → Hq.at' l' i ≤ Hq.at' l' k) : Down w wr B t c0 c1 c3 v l n :=
  ⟨l', h.wt, h.perm, h.last, h.dn.stop hs, h.tn, h.len⟩

set_option maxHeartbeats 2000000 in
theorem down_any {w : World} {B : Nat} {t : TypeId} {c0 c1 c3 v : Value} {l : List Nat} (n : Nat) (h : Wt w B t c0 c1 c3 v l) (hd : Hq.Dn l n 0) (hl : l.length = n + 1) :
    Calls Tryz.prog 141 #[.iface 183 (.pointer (some ⟨B, 2, none⟩)), .int .i64 0, .int .i64 n] w fun e w' => (∃ b, e = .returned (.bool b)) ∧ Down w w' B t c0 c1 c3 v l n := by
  have hlen : n < 65536 := by have := h.len; omega
  have HH : Hid (Dw w w B t c0 c1 c3 v l l n 0) := ⟨h, List.Perm.refl _, hd, rfl, Tn.refl _ _, hl⟩
  clear h hd
  go_enter Tryz.func141, Tryz.ntmps141
  go_wp2_with fail
  go_loopw [7] (fun iv wr => ∃ (i : Nat) (l' : List Nat), iv = .int .i64 i ∧ i ≤ n ∧ Hid (Dw w wr B t c0 c1 c3 v l l' n i)) (fun iv _ => n - (intOf iv).toNat)
  case atStart => exact ⟨0, l, rfl, Nat.zero_le _, HH⟩
  case round =>
    obtain ⟨i, l', rfl, hin, HD⟩ := hrel
    clear HH
    have hl' : l'.length = n + 1 := HD.out.len
    have hl6 : l'.length ≤ 65536 := by omega
    by_cases h1 : 2 * i + 1 < n
    · have hg1 : ¬ (n : Int) ≤ 2 * (i : Int) + 1 := by omega
      have hg2 : ¬ 2 * (i : Int) + 1 < 0 := by omega
      by_cases h2 : 2 * i + 1 + 1 < n
      · have hg3 : 2 * (i : Int) + 1 + 1 < (n : Int) := by omega
        have ml := meth_less HD.out.wt.cell
        go_wp2_with fail
        refine (less_any HD.out.wt.row (2 * i + 1 + 1) (2 * i + 1) (by omega) (by omega) hl6).mono ?_
        rintro e w1 ⟨rfl, ht1⟩
        have HD1 : Hid (Dw w w1 B t c0 c1 c3 v l l' n i) := HD.out.tn' ht1
        clear ml HD ht1
        have ml := meth_less HD1.out.wt.cell
        by_cases hlt : Hq.at' l' (2 * i + 1 + 1) < Hq.at' l' (2 * i + 1)
        · simp only [hlt, decide_true]
          go_wp2_with fail
          refine (less_any HD1.out.wt.row (2 * i + 1 + 1) i (by omega) (by omega) hl6).mono ?_
          rintro e w2 ⟨rfl, ht2⟩
          have HD2 : Hid (Dw w w2 B t c0 c1 c3 v l l' n i) := HD1.out.tn' ht2
          have HM : Hid (∀ k, 0 < k → k < n → (k - 1) / 2 = i → Hq.at' l' (2 * i + 1 + 1) ≤ Hq.at' l' k) := by
            intro k hk0 hkn hki
            rcases (show k = 2 * i + 1 ∨ k = 2 * i + 1 + 1 by omega) with rfl | rfl
            · exact Nat.le_of_lt hlt
            · exact Nat.le_refl _
          clear ml HD1 ht2
          by_cases hl2 : Hq.at' l' (2 * i + 1 + 1) < Hq.at' l' i
          · simp only [hl2, decide_true]
            have ms := meth_swap HD2.out.wt.cell
            go_wp2_with fail
            refine (swap_any HD2.out.wt.row i (2 * i + 1 + 1) (by omega) (by omega) hl6).mono ?_
            rintro e w3 ⟨rfl, hr3, ht3⟩
            have HD3 : Hid (Dw w w3 B t c0 c1 c3 v l (Hq.swap l' i (2 * i + 1 + 1)) n (2 * i + 1 + 1)) := HD2.out.swap hr3 ht3 (by omega) (by omega) (by omega) hl2 HM.out
            clear hr3 ht3 ms HD2
            go_wp2
            go_roundw
            case rel => exact ⟨2 * i + 1 + 1, _, by go_num, by omega, HD3⟩
            case measure => simp [intOf]; omega
          · simp only [hl2, decide_false]
            have HE : Hid (Down w w2 B t c0 c1 c3 v l n) := HD2.out.stop (fun k hk0 hkn hki => Nat.le_trans (Nat.le_of_not_lt hl2) (HM.out k hk0 hkn hki))
            go_wp2
            go_ret
            exact ⟨⟨_, rfl⟩, HE.out⟩
        · simp only [hlt, decide_false]
          go_wp2_with fail
          refine (less_any HD1.out.wt.row (2 * i + 1) i (by omega) (by omega) hl6).mono ?_
          rintro e w2 ⟨rfl, ht2⟩
          have HD2 : Hid (Dw w w2 B t c0 c1 c3 v l l' n i) := HD1.out.tn' ht2
          have HM : Hid (∀ k, 0 < k → k < n → (k - 1) / 2 = i → Hq.at' l' (2 * i + 1) ≤ Hq.at' l' k) := by
            intro k hk0 hkn hki
            rcases (show k = 2 * i + 1 ∨ k = 2 * i + 1 + 1 by omega) with rfl | rfl
            · exact Nat.le_refl _
            · exact Nat.le_of_not_lt hlt
          clear ml HD1 ht2
          by_cases hl2 : Hq.at' l' (2 * i + 1) < Hq.at' l' i
          · simp only [hl2, decide_true]
            have ms := meth_swap HD2.out.wt.cell
            go_wp2_with fail
            refine (swap_any HD2.out.wt.row i (2 * i + 1) (by omega) (by omega) hl6).mono ?_
            rintro e w3 ⟨rfl, hr3, ht3⟩
            have HD3 : Hid (Dw w w3 B t c0 c1 c3 v l (Hq.swap l' i (2 * i + 1)) n (2 * i + 1)) := HD2.out.swap hr3 ht3 (by omega) (by omega) (by omega) hl2 HM.out
            clear hr3 ht3 ms HD2
            go_wp2
            go_roundw
            case rel => exact ⟨2 * i + 1, _, by go_num, by omega, HD3⟩
            case measure => simp [intOf]; omega
          · simp only [hl2, decide_false]
            have HE : Hid (Down w w2 B t c0 c1 c3 v l n) := HD2.out.stop (fun k hk0 hkn hki => Nat.le_trans (Nat.le_of_not_lt hl2) (HM.out k hk0 hkn hki))
            go_wp2
            go_ret
            exact ⟨⟨_, rfl⟩, HE.out⟩
      · have hg3 : ¬ 2 * (i : Int) + 1 + 1 < (n : Int) := by omega
        have ml := meth_less HD.out.wt.cell
        go_wp2_with fail
        refine (less_any HD.out.wt.row (2 * i + 1) i (by omega) (by omega) hl6).mono ?_
        rintro e w2 ⟨rfl, ht2⟩
        have HD2 : Hid (Dw w w2 B t c0 c1 c3 v l l' n i) := HD.out.tn' ht2
        have HM : Hid (∀ k, 0 < k → k < n → (k - 1) / 2 = i → Hq.at' l' (2 * i + 1) ≤ Hq.at' l' k) := by
          intro k hk0 hkn hki
          obtain rfl : k = 2 * i + 1 := by omega
          exact Nat.le_refl _
        clear ml HD ht2
        by_cases hl2 : Hq.at' l' (2 * i + 1) < Hq.at' l' i
        · simp only [hl2, decide_true]
          have ms := meth_swap HD2.out.wt.cell
          go_wp2_with fail
          refine (swap_any HD2.out.wt.row i (2 * i + 1) (by omega) (by omega) hl6).mono ?_
          rintro e w3 ⟨rfl, hr3, ht3⟩
          have HD3 : Hid (Dw w w3 B t c0 c1 c3 v l (Hq.swap l' i (2 * i + 1)) n (2 * i + 1)) := HD2.out.swap hr3 ht3 (by omega) (by omega) (by omega) hl2 HM.out
          clear hr3 ht3 ms HD2
          go_wp2
          go_roundw
          case rel => exact ⟨2 * i + 1, _, by go_num, by omega, HD3⟩
          case measure => simp [intOf]; omega
        · simp only [hl2, decide_false]
          have HE : Hid (Down w w2 B t c0 c1 c3 v l n) := HD2.out.stop (fun k hk0 hkn hki => Nat.le_trans (Nat.le_of_not_lt hl2) (HM.out k hk0 hkn hki))
          go_wp2
          go_ret
          exact ⟨⟨_, rfl⟩, HE.out⟩
    · have hg1 : (n : Int) ≤ 2 * (i : Int) + 1 := by omega
      have HE : Hid (Down w wr B t c0 c1 c3 v l n) := HD.out.stop (fun k hk0 hkn hki => by omega)
      go_wp2
      go_ret
      exact ⟨⟨_, rfl⟩, HE.out⟩
end Go.Proofs.YtoehlgigidgfpaaGreat
