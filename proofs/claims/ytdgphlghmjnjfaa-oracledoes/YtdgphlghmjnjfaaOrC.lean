/- An oracle: the sessions' snapshots. -/
import Derived.Test.YtdgphlghmjnjfaaOrP
namespace Go.Proofs.Ytdgphlghmjnjfaa
open Go.RowKit Go.Maps
set_option linter.unusedVariables false
set_option maxRecDepth 100000

/-- A session's view. -/
def Or.view (o : Or) (s : Nat) : Nat := o.views.getD s 0
def Or.setView (o : Or) (s x : Nat) : Or := { o with views := o.views.set s x }
/-- The least snapshot. -/
def waterL (p : Nat) (l : List Nat) : Nat := l.foldl (fun m v => if v = 0 then m else min m (v - 1)) p
def Or.water (o : Or) : Nat := waterL o.pub o.views

theorem Or.setView_ok {o : Or} (h : o.Ok) (s x : Nat) (hx : x ≤ o.pub + 1) : (o.setView s x).Ok where
  le := h.le
  max := h.max
  ah := h.ah
  v17 := by simp [Or.setView, h.v17]
  vle := fun v hv => by
    rcases List.mem_or_eq_of_mem_set hv with hv | rfl
    · exact h.vle v hv
    · exact hx
  gap := h.gap

theorem Or.view_le {o : Or} (h : o.Ok0) (s : Nat) : o.view s ≤ o.pub + 1 := by
  unfold Or.view
  by_cases hs : s < o.views.length
  · rw [show o.views.getD s 0 = o.views[s] by simp [List.getD, hs]]
    exact h.vle _ (List.getElem_mem hs)
  · simp [List.getD, hs]

section
variable {w : World} {B M : Nat} {o : Or}

theorem ask_ok (c2 : w.cell? ⟨B, 2, none⟩ = some (.map (some M))) (s : Int) (k1 : 0 ≤ s) (k2 : s ≤ 16) : Calls Try.prog 38 #[.pointer (some ⟨B, 0, none⟩), .int .i64 s] w fun e w' => e = .returned (.int .i64 0) ∧ w' = w := by
  have h1 : ¬ s < 0 := by omega
  have h2 : ¬ (16 : Int) < s := by omega
  go_enter Try.func38, Try.ntmps38
  go_wp2_with fail
  refine (made_any c2).mono ?_
  rintro e w1 ⟨rfl, rfl⟩
  go_wp2
  go_ret
  exact ⟨rfl, rfl⟩

theorem ask_bad (c2 : w.cell? ⟨B, 2, none⟩ = some (.map (some M))) (s : Int) (hs : s < 0 ∨ (16 : Int) < s) : Calls Try.prog 38 #[.pointer (some ⟨B, 0, none⟩), .int .i64 s] w fun e w' => e = .returned (.int .i64 1) ∧ w' = w := by
  by_cases h1 : s < 0
  · clear hs
    go_enter Try.func38, Try.ntmps38
    go_wp2_with fail
    refine (made_any c2).mono ?_
    rintro e w1 ⟨rfl, rfl⟩
    go_wp2
    go_ret
    exact ⟨rfl, rfl⟩
  · have h2 : (16 : Int) < s := by omega
    clear hs
    go_enter Try.func38, Try.ntmps38
    go_wp2_with fail
    refine (made_any c2).mono ?_
    rintro e w1 ⟨rfl, rfl⟩
    go_wp2
    go_ret
    exact ⟨rfl, rfl⟩

theorem ask_no {v : Value} (h : Nm w v) (s : Int) : Calls Try.prog 38 #[v, .int .i64 s] w fun e w' => e = .returned (.int .i64 2) ∧ w' = w := by
  go_enter Try.func38, Try.ntmps38
  go_wp2_with fail
  refine (made_no h).mono ?_
  rintro e w1 ⟨rfl, rfl⟩
  go_wp2
  go_ret
  exact ⟨rfl, rfl⟩

set_option maxHeartbeats 1000000 in
theorem open_free (h : IsOr w B M o) (hk : o.Ok) (s : Nat) (hs : s < 17) (hv : o.view s = 0) : Calls Try.prog 20 #[.pointer (some ⟨B, 0, none⟩), .int .i64 (s : Int)] w fun e w' => e = .returned (.tuple #[.int .i64 (o.pub : Int), .int .i64 0]) ∧ Ort w w' B M (o.setView s (o.pub + 1)) := by
  have c1 := h.c1
  have c2 := h.c2
  have cv := h.cv s (by rw [hk.v17]; exact hs)
  have fv : w.frozen? ⟨B, 3 + s, none⟩ = false := h.blk.frozen _
  rw [show o.views.getD s 0 = 0 from hv] at cv
  have HE : Hid (Ort w (w.setCell ⟨B, 3 + s, none⟩ (.int .i64 ((o.pub + 1 : Nat) : Int))) B M (o.setView s (o.pub + 1))) := ⟨h.setView _ _, (Tn.refl _ w).setCell (.inl (by simp)) _⟩
  have g1 : (0 : Int) ≤ (s : Int) := by omega
  have g2 : (s : Int) ≤ 16 := by omega
  have g3 : (s : Int) < 17 := by omega
  have hmx := hk.max
  have hle := hk.le
  obtain ⟨m, hm⟩ : ∃ m, o.pub + 1 = m := ⟨_, rfl⟩
  have hw : wrap64 ((o.pub : Int) + 1) = (m : Int) := by unfold wrap64; omega
  rw [hm] at HE ⊢
  clear h hk hv hm hmx hle
  generalize (o.pub : Int) = n at *
  go_enter Try.func20, Try.ntmps20
  go_wp2_with fail
  refine (ask_ok c2 _ g1 g2).mono ?_
  rintro r w1 ⟨rfl, rfl⟩
  go_wp2_with fail
  refine (aload_any c1).mono ?_
  rintro r w1 ⟨rfl, rfl⟩
  go_wp2_with fail
  refine (acas_hit cv fv).mono ?_
  rintro r w1 ⟨rfl, rfl⟩
  go_wp2
  go_ret2
  exact ⟨rfl, HE.out⟩

set_option maxHeartbeats 1000000 in
theorem open_has (h : IsOr w B M o) (hk : o.Ok) (s : Nat) (hs : s < 17) (hv : ¬ o.view s = 0) : Calls Try.prog 20 #[.pointer (some ⟨B, 0, none⟩), .int .i64 (s : Int)] w fun e w' => e = .returned (.tuple #[.int .i64 0, .int .i64 140]) ∧ w' = w := by
  have c1 := h.c1
  have c2 := h.c2
  have cv := h.cv s (by rw [hk.v17]; exact hs)
  have fv : w.frozen? ⟨B, 3 + s, none⟩ = false := h.blk.frozen _
  have hne : ¬ ((o.views.getD s 0 : Nat) : Int) = 0 := by
    have : o.views.getD s 0 ≠ 0 := hv
    omega
  have g1 : (0 : Int) ≤ (s : Int) := by omega
  have g2 : (s : Int) ≤ 16 := by omega
  have g3 : (s : Int) < 17 := by omega
  have hmx := hk.max
  have hle := hk.le
  obtain ⟨m, hm⟩ : ∃ m, o.pub + 1 = m := ⟨_, rfl⟩
  have hw : wrap64 ((o.pub : Int) + 1) = (m : Int) := by unfold wrap64; omega
  clear h hk hv hm hmx hle
  generalize (o.pub : Int) = n at *
  generalize ((o.views.getD s 0 : Nat) : Int) = x at *
  go_enter Try.func20, Try.ntmps20
  go_wp2_with fail
  refine (ask_ok c2 _ g1 g2).mono ?_
  rintro r w1 ⟨rfl, rfl⟩
  go_wp2_with fail
  refine (aload_any c1).mono ?_
  rintro r w1 ⟨rfl, rfl⟩
  go_wp2_with fail
  refine (acas_miss cv fv hne).mono ?_
  rintro r w1 ⟨rfl, rfl⟩
  go_wp2
  go_ret2
  exact ⟨rfl, rfl⟩

theorem open_bad (c2 : w.cell? ⟨B, 2, none⟩ = some (.map (some M))) (s : Int) (hs : s < 0 ∨ (16 : Int) < s) : Calls Try.prog 20 #[.pointer (some ⟨B, 0, none⟩), .int .i64 s] w fun e w' => e = .returned (.tuple #[.int .i64 0, .int .i64 1]) ∧ w' = w := by
  have HS : Hid (s < 0 ∨ (16 : Int) < s) := hs
  clear hs
  go_enter Try.func20, Try.ntmps20
  go_wp2_with fail
  refine (ask_bad c2 _ HS.out).mono ?_
  rintro r w1 ⟨rfl, rfl⟩
  go_wp2
  go_ret2
  exact ⟨rfl, rfl⟩

theorem open_no {v : Value} (h : Nm w v) (s : Int) : Calls Try.prog 20 #[v, .int .i64 s] w fun e w' => e = .returned (.tuple #[.int .i64 0, .int .i64 2]) ∧ w' = w := by
  go_enter Try.func20, Try.ntmps20
  go_wp2_with fail
  refine (ask_no h _).mono ?_
  rintro r w1 ⟨rfl, rfl⟩
  go_wp2
  go_ret2
  exact ⟨rfl, rfl⟩

set_option maxHeartbeats 1000000 in
theorem close_any (h : IsOr w B M o) (hk : o.Ok) (s : Nat) (hs : s < 17) : Calls Try.prog 21 #[.pointer (some ⟨B, 0, none⟩), .int .i64 (s : Int)] w fun e w' => e = .returned (.int .i64 (if o.view s = 0 then 141 else 0)) ∧ Ort w w' B M (o.setView s 0) := by
  have c2 := h.c2
  have cv := h.cv s (by rw [hk.v17]; exact hs)
  have fv : w.frozen? ⟨B, 3 + s, none⟩ = false := h.blk.frozen _
  have HE : Hid (Ort w (w.setCell ⟨B, 3 + s, none⟩ (.int .i64 0)) B M (o.setView s 0)) := ⟨h.setView _ _, (Tn.refl _ w).setCell (.inl (by simp)) _⟩
  have g1 : (0 : Int) ≤ (s : Int) := by omega
  have g2 : (s : Int) ≤ 16 := by omega
  have g3 : (s : Int) < 17 := by omega
  clear h hk
  by_cases hv : o.view s = 0
  · rw [if_pos hv]
    rw [show o.views.getD s 0 = 0 from hv] at cv
    clear hv
    go_enter Try.func21, Try.ntmps21
    go_wp2_with fail
    refine (ask_ok c2 _ g1 g2).mono ?_
    rintro r w1 ⟨rfl, rfl⟩
    go_wp2_with fail
    refine (aswap_any cv fv).mono ?_
    rintro r w1 ⟨rfl, rfl⟩
    go_wp2
    go_ret
    exact ⟨rfl, HE.out⟩
  · rw [if_neg hv]
    have hne : ¬ ((o.views.getD s 0 : Nat) : Int) = 0 := by
      have : o.views.getD s 0 ≠ 0 := hv
      omega
    clear hv
    generalize ((o.views.getD s 0 : Nat) : Int) = x at *
    have hb : (x == 0) = false := by simp [hne]
    go_enter Try.func21, Try.ntmps21
    go_wp2_with fail
    refine (ask_ok c2 _ g1 g2).mono ?_
    rintro r w1 ⟨rfl, rfl⟩
    go_wp2_with fail
    refine (aswap_any cv fv).mono ?_
    rintro r w1 ⟨rfl, rfl⟩
    go_wp2
    go_ret
    exact ⟨rfl, HE.out⟩

theorem close_bad (c2 : w.cell? ⟨B, 2, none⟩ = some (.map (some M))) (s : Int) (hs : s < 0 ∨ (16 : Int) < s) : Calls Try.prog 21 #[.pointer (some ⟨B, 0, none⟩), .int .i64 s] w fun e w' => e = .returned (.int .i64 1) ∧ w' = w := by
  have HS : Hid (s < 0 ∨ (16 : Int) < s) := hs
  clear hs
  go_enter Try.func21, Try.ntmps21
  go_wp2_with fail
  refine (ask_bad c2 _ HS.out).mono ?_
  rintro r w1 ⟨rfl, rfl⟩
  go_wp2
  go_ret
  exact ⟨rfl, rfl⟩

theorem close_no {v : Value} (h : Nm w v) (s : Int) : Calls Try.prog 21 #[v, .int .i64 s] w fun e w' => e = .returned (.int .i64 2) ∧ w' = w := by
  go_enter Try.func21, Try.ntmps21
  go_wp2_with fail
  refine (ask_no h _).mono ?_
  rintro r w1 ⟨rfl, rfl⟩
  go_wp2
  go_ret
  exact ⟨rfl, rfl⟩

set_option maxHeartbeats 1000000 in
theorem snap_any (c2 : w.cell? ⟨B, 2, none⟩ = some (.map (some M))) (s x : Nat) (hs : s < 17) (cv : w.cell? ⟨B, 3 + s, none⟩ = some (.int .i64 (x : Int))) (hx : x ≤ 1099511627777) : Calls Try.prog 23 #[.pointer (some ⟨B, 0, none⟩), .int .i64 (s : Int)] w fun e w' => e = .returned (.tuple #[.int .i64 ((x - 1 : Nat) : Int), .bool (decide (x ≠ 0))]) ∧ w' = w := by
  have g1 : (0 : Int) ≤ (s : Int) := by omega
  have g2 : (s : Int) ≤ 16 := by omega
  have g3 : (s : Int) < 17 := by omega
  by_cases hv : x = 0
  · subst hv
    go_enter Try.func23, Try.ntmps23
    go_wp2_with fail
    refine (ask_ok c2 _ g1 g2).mono ?_
    rintro r w1 ⟨rfl, rfl⟩
    go_wp2_with fail
    refine (aload_any cv).mono ?_
    rintro r w1 ⟨rfl, rfl⟩
    go_wp2
    go_ret2
    exact ⟨rfl, rfl⟩
  · obtain ⟨y, rfl⟩ : ∃ y, x = y + 1 := ⟨x - 1, by omega⟩
    have hne : ¬ ((y + 1 : Nat) : Int) = 0 := by omega
    obtain ⟨z, hz⟩ : ∃ z : Int, ((y + 1 : Nat) : Int) = z := ⟨_, rfl⟩
    have hw : wrap64 (z - 1) = (y : Int) := by unfold wrap64; omega
    rw [hz] at cv hne
    have HE : Hid (Ending.returned (.tuple #[.int .i64 (y : Int), .bool true]) = .returned (.tuple #[.int .i64 ((y + 1 - 1 : Nat) : Int), .bool (decide (y + 1 ≠ 0))])) := by simp [Hid]
    rw [← HE.out]
    clear hz hv hx
    go_enter Try.func23, Try.ntmps23
    go_wp2_with fail
    refine (ask_ok c2 _ g1 g2).mono ?_
    rintro r w1 ⟨rfl, rfl⟩
    go_wp2_with fail
    refine (aload_any cv).mono ?_
    rintro r w1 ⟨rfl, rfl⟩
    go_wp2
    go_ret2
    exact ⟨by rw [← hw]; rfl, rfl⟩

theorem snap_bad (c2 : w.cell? ⟨B, 2, none⟩ = some (.map (some M))) (s : Int) (hs : s < 0 ∨ (16 : Int) < s) : Calls Try.prog 23 #[.pointer (some ⟨B, 0, none⟩), .int .i64 s] w fun e w' => e = .returned (.tuple #[.int .i64 0, .bool false]) ∧ w' = w := by
  have HS : Hid (s < 0 ∨ (16 : Int) < s) := hs
  clear hs
  go_enter Try.func23, Try.ntmps23
  go_wp2_with fail
  refine (ask_bad c2 _ HS.out).mono ?_
  rintro r w1 ⟨rfl, rfl⟩
  go_wp2
  go_ret2
  exact ⟨rfl, rfl⟩

theorem snap_no {v : Value} (h : Nm w v) (s : Int) : Calls Try.prog 23 #[v, .int .i64 s] w fun e w' => e = .returned (.tuple #[.int .i64 0, .bool false]) ∧ w' = w := by
  go_enter Try.func23, Try.ntmps23
  go_wp2_with fail
  refine (ask_no h _).mono ?_
  rintro r w1 ⟨rfl, rfl⟩
  go_wp2
  go_ret2
  exact ⟨rfl, rfl⟩

theorem waterL_take (p : Nat) (l : List Nat) (k : Nat) (hk : k < l.length) : waterL p (l.take (k + 1)) = if l.getD k 0 = 0 then waterL p (l.take k) else min (waterL p (l.take k)) (l.getD k 0 - 1) := by
  unfold waterL
  rw [List.take_add_one, List.foldl_append]
  simp [List.getD, hk]
theorem waterL_le (p : Nat) (l : List Nat) : waterL p l ≤ p := by
  unfold waterL
  induction l generalizing p with
  | nil => exact Nat.le_refl _
  | cons v l ih =>
    simp only [List.foldl_cons]
    refine Nat.le_trans (ih _) ?_
    split <;> omega

set_option maxHeartbeats 2000000 in
theorem water_any (h : IsOr w B M o) (hk : o.Ok) : Calls Try.prog 14 #[.pointer (some ⟨B, 0, none⟩)] w fun e w' => e = .returned (.int .i64 (o.water : Int)) ∧ w' = w := by
  have c1 := h.c1
  have c2 := h.c2
  have HV : Hid (∀ s, s < 17 → w.cell? ⟨B, 3 + s, none⟩ = some (.int .i64 ((o.views.getD s 0 : Nat) : Int)) ∧ o.views.getD s 0 ≤ 1099511627777 ∧ s < o.views.length) := fun s hs => by
    refine ⟨h.cv s (by rw [hk.v17]; exact hs), ?_, by rw [hk.v17]; exact hs⟩
    have h1 := Or.view_le hk.toOk0 s
    have h2 := hk.le
    have h3 := hk.max
    unfold Or.view at h1
    omega
  have HW : Hid (∀ l, waterL o.pub (o.views.take l) ≤ 1099511627776) := fun l => by
    have h1 := waterL_le o.pub (o.views.take l)
    have h2 := hk.le
    have h3 := hk.max
    omega
  have HT : Hid (o.views.take 17 = o.views) := List.take_of_length_le (by rw [hk.v17]; exact Nat.le_refl _)
  clear h hk
  go_enter Try.func14, Try.ntmps14
  go_wp2_with fail
  refine (published_any c1 c2).mono ?_
  rintro r w1 ⟨rfl, rfl⟩
  go_wp2_with fail
  go_loopw [3, 9] (fun m i wr => ∃ k : Nat, k ≤ 17 ∧ i = .int .i64 (k : Int) ∧ m = .int .i64 ((waterL o.pub (o.views.take k) : Nat) : Int) ∧ wr = w1) (fun m i _ => 17 - (intOf i).toNat)
  case atStart => exact ⟨0, by omega, rfl, rfl, rfl⟩
  case round =>
    obtain ⟨k, hk, rfl, rfl, rfl⟩ := hrel
    by_cases hlt : k < 17
    · have hli : (k : Int) < 17 := by omega
      obtain ⟨cv, hx, hl⟩ := HV.out k hlt
      have HS : Hid _ := waterL_take o.pub o.views k hl
      have hm := HW.out k
      generalize waterL o.pub (o.views.take k) = m at *
      generalize o.views.getD k 0 = x at *
      by_cases h0 : x = 0
      · rw [if_pos h0] at HS
        have hd : decide (x ≠ 0) = false := by simp [h0]
        go_wp2_with fail
        refine (snap_any c2 k x hlt cv hx).mono ?_
        rintro r w2 ⟨rfl, rfl⟩
        rw [hd]
        clear hd h0 hx
        go_wp2
        go_roundw
        case rel => exact ⟨k + 1, by omega, by go_num, by rw [HS.out], trivial⟩
        case measure => simp [intOf]; omega
      · rw [if_neg h0] at HS
        have hd : decide (x ≠ 0) = true := by simp [h0]
        obtain ⟨y, hy⟩ : ∃ y, x - 1 = y := ⟨_, rfl⟩
        rw [hy] at HS
        by_cases hmy : m ≤ y
        · have e : min m y = m := by omega
          rw [e] at HS
          have hmi : ¬ (y : Int) < (m : Int) := by omega
          have hmi2 : (m : Int) ≤ (y : Int) := by omega
          go_wp2_with fail
          refine (snap_any c2 k x hlt cv hx).mono ?_
          rintro r w2 ⟨rfl, rfl⟩
          rw [hd, hy]
          clear hd h0 hx hy e
          go_wp2
          go_roundw
          case rel => exact ⟨k + 1, by omega, by go_num, by rw [HS.out], trivial⟩
          case measure => simp [intOf]; omega
        · have e : min m y = y := by omega
          rw [e] at HS
          have hmi : (y : Int) < (m : Int) := by omega
          have hmi2 : ¬ (m : Int) ≤ (y : Int) := by omega
          go_wp2_with fail
          refine (snap_any c2 k x hlt cv hx).mono ?_
          rintro r w2 ⟨rfl, rfl⟩
          rw [hd, hy]
          clear hd h0 hx hy e
          go_wp2
          go_roundw
          case rel => exact ⟨k + 1, by omega, by go_num, by rw [HS.out], trivial⟩
          case measure => simp [intOf]; omega
    · obtain rfl : k = 17 := by omega
      have HE : Hid (waterL o.pub (o.views.take 17) = o.water) := by rw [HT.out]; rfl
      rw [HE.out]
      go_wp2
      go_ret
      exact ⟨rfl, rfl⟩

set_option maxHeartbeats 2000000 in
theorem water_no {v : Value} (h : Nm w v) : Calls Try.prog 14 #[v] w fun e w' => e = .returned (.int .i64 0) ∧ w' = w := by
  have HN : Hid (Nm w v) := h
  clear h
  go_enter Try.func14, Try.ntmps14
  go_wp2_with fail
  refine (published_no HN.out).mono ?_
  rintro r w1 ⟨rfl, rfl⟩
  go_wp2_with fail
  go_loopw [3, 9] (fun m i wr => ∃ k : Nat, k ≤ 17 ∧ i = .int .i64 (k : Int) ∧ m = .int .i64 0 ∧ wr = w1) (fun m i _ => 17 - (intOf i).toNat)
  case atStart => exact ⟨0, by omega, rfl, rfl, rfl⟩
  case round =>
    obtain ⟨k, hk, rfl, rfl, rfl⟩ := hrel
    by_cases hlt : k < 17
    · have hli : (k : Int) < 17 := by omega
      go_wp2_with fail
      refine (snap_no HN.out _).mono ?_
      rintro r w2 ⟨rfl, rfl⟩
      go_wp2
      go_roundw
      case rel => exact ⟨k + 1, by omega, by go_num, rfl, trivial⟩
      case measure => simp [intOf]; omega
    · obtain rfl : k = 17 := by omega
      go_wp2
      go_ret
      exact ⟨rfl, rfl⟩
end
end Go.Proofs.Ytdgphlghmjnjfaa
