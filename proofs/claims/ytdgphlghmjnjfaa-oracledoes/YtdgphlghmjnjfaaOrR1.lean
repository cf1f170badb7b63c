/- The document's oracle: over the same data; the calls that only read, New and Close. -/
import Derived.Test.YtdgphlghmjnjfaaOrO
namespace Go.Proofs.Ytdgphlghmjnjfaa
open Go.RowKit Go.Maps Go.Shelf
set_option linter.unusedVariables false
set_option maxRecDepth 100000

def Or.pendL (o : Or) : List Nat := pends o.abv

theorem Or.pendL_none {o : Or} (h : o.last = o.pub) : o.pendL = [] := by
  have : o.abv = [] := List.eq_nil_of_length_eq_zero (by rw [o.abv_len]; omega)
  rw [Or.pendL, this]
  rfl
theorem Or.pendL_head {o : Or} (hk : o.Ok) (h : o.pub < o.last) : ∃ t, o.pendL = (o.pub + 1) :: t := by
  unfold Or.pendL Or.abv
  obtain ⟨n, hn⟩ : ∃ n, o.last - o.pub = n + 1 := ⟨o.last - o.pub - 1, by omega⟩
  rw [hn, List.range_succ_eq_map]
  simp only [List.map_cons, Nat.add_zero, Or.isP_gap hk]
  exact ⟨_, rfl⟩
theorem Or.mem_pendL {o : Or} (i : Nat) : i ∈ o.pendL ↔ i ≤ o.last ∧ o.isP i = false := by
  unfold Or.pendL pends Or.abv
  simp only [List.mem_map, List.mem_filter, List.mem_range]
  constructor
  · rintro ⟨⟨a, b⟩, ⟨⟨k, hk, he⟩, hb⟩, rfl⟩
    cases he
    refine ⟨by simp only; omega, by simpa using hb⟩
  · rintro ⟨h1, h2⟩
    have h3 : ¬ i ≤ o.pub := fun h => by rw [Or.isP_le h] at h2; cases h2
    refine ⟨(i, o.isP i), ⟨⟨i - (o.pub + 1), by omega, ?_⟩, by simp [h2]⟩, rfl⟩
    rw [show o.pub + 1 + (i - (o.pub + 1)) = i by omega]
theorem Or.pendL_rise (o : Or) : o.pendL.Pairwise (· < ·) := by
  unfold Or.pendL pends
  rw [List.pairwise_map]
  refine List.Pairwise.filter _ ?_
  unfold Or.abv
  rw [List.pairwise_map]
  exact List.pairwise_lt_range.imp (fun h => by simp only; omega)
theorem Or.pendL_len (o : Or) : o.pendL.length ≤ o.last := by
  refine Nat.le_trans (pends_le _) ?_
  rw [o.abv_len]
  omega
/-- Rows that rise and have the same members are the same. -/
theorem rise_ext : ∀ {l m : List Nat}, l.Pairwise (· < ·) → m.Pairwise (· < ·) → (∀ i, i ∈ l ↔ i ∈ m) → l = m
  | [], [], _, _, _ => rfl
  | [], b :: m, _, _, h => by have := (h b).2 (by simp); cases this
  | a :: l, [], _, _, h => by have := (h a).1 (by simp); cases this
  | a :: l, b :: m, h1, h2, h => by
    rw [List.pairwise_cons] at h1 h2
    have e : a = b := by
      have ha := (h a).1 (by simp)
      have hb := (h b).2 (by simp)
      rcases List.mem_cons.1 ha with ha | ha
      · exact ha
      · rcases List.mem_cons.1 hb with hb | hb
        · exact hb.symm
        · have := h1.1 b hb
          have := h2.1 a ha
          omega
    subst e
    rw [rise_ext h1.2 h2.2 (fun i => ?_)]
    have hi := h i
    simp only [List.mem_cons] at hi
    constructor
    · intro hm
      have := h1.1 i hm
      rcases hi.1 (.inr hm) with h3 | h3
      · omega
      · exact h3
    · intro hm
      have := h2.1 i hm
      rcases hi.2 (.inr hm) with h3 | h3
      · omega
      · exact h3

theorem Or.pendL_next {o : Or} (h : o.Ok) : Or.pendL { o with last := o.last + 1 } = o.pendL ++ [o.last + 1] := by
  refine rise_ext (Or.pendL_rise _) ?_ (fun i => ?_)
  · rw [List.pairwise_append]
    refine ⟨o.pendL_rise, by simp, fun a ha b hb => ?_⟩
    have := ((Or.mem_pendL a).1 ha).1
    simp at hb
    omega
  · rw [List.mem_append, Or.mem_pendL, Or.mem_pendL]
    have e : Or.isP { o with last := o.last + 1 } i = o.isP i := rfl
    rw [e]
    simp only [List.mem_singleton]
    constructor
    · rintro ⟨h1, h2⟩
      by_cases hi : i = o.last + 1
      · exact .inr hi
      · exact .inl ⟨by omega, h2⟩
    · rintro (⟨h1, h2⟩ | rfl)
      · exact ⟨by omega, h2⟩
      · exact ⟨Nat.le_refl _, Or.isP_above h.toOk0 (by omega)⟩
theorem Or.pendL_pub {o o' : Or} {ts j : Nat} (h : o.Pubd ts o') (hj : o.pendL[j]? = some ts) : o'.pendL = o.pendL.take j ++ o.pendL.drop (j + 1) := by
  have hjl := (List.getElem?_eq_some_iff.1 hj).1
  have hsub : (o.pendL.take j ++ o.pendL.drop (j + 1)).Sublist o.pendL := by
    rw [← List.eraseIdx_eq_take_drop_succ]
    exact List.eraseIdx_sublist _ _
  refine rise_ext (Or.pendL_rise _) (o.pendL_rise.sublist hsub) (fun i => ?_)
  rw [Or.mem_pendL, h.isP, h.last]
  rw [← List.eraseIdx_eq_take_drop_succ, List.mem_eraseIdx_iff_getElem?]
  have hts : o.pendL[j] = ts := (List.getElem?_eq_some_iff.1 hj).2
  have hr := List.pairwise_iff_getElem.1 o.pendL_rise
  constructor
  · rintro ⟨h1, h2⟩
    simp only [Bool.or_eq_false_iff, decide_eq_false_iff_not] at h2
    obtain ⟨k, hk, he⟩ := List.getElem_of_mem ((Or.mem_pendL i).2 ⟨h1, h2.1⟩)
    refine ⟨k, fun e => ?_, by rw [List.getElem?_eq_getElem hk, he]⟩
    subst e
    exact h2.2 (he.symm.trans hts)
  · rintro ⟨k, hkj, hki⟩
    obtain ⟨hk, he⟩ := List.getElem?_eq_some_iff.1 hki
    have hm := (Or.mem_pendL i).1 (List.mem_of_getElem? hki)
    refine ⟨hm.1, ?_⟩
    simp only [hm.2, Bool.false_or, decide_eq_false_iff_not]
    intro e
    rcases Nat.lt_or_gt_of_ne hkj with h1 | h1
    · have := hr k j hk hjl h1
      omega
    · have := hr j k hjl hk h1
      omega

def rfCells (last : Nat) (v : Value) (views ats : List Nat) : Array Value := ((.int .i64 (last : Int)) :: v :: (views.map (fun (x : Nat) => Value.bool (decide (x ≠ 0))) ++ ats.map (fun (x : Nat) => Value.int .i64 (x : Int)))).toArray

section
variable {last x s : Nat} {v u : Value} {views ats : List Nat}
theorem rf_last : (rfCells last v views ats)[0]? = some (.int .i64 (last : Int)) := by simp [rfCells]
theorem rf_pend : (rfCells last v views ats)[1]? = some v := by simp [rfCells]
theorem rf_is (hs : s < views.length) : (rfCells last v views ats)[2 + s]? = some (.bool (decide (views.getD s 0 ≠ 0))) := by
  have e : 2 + s = s + 1 + 1 := by omega
  simp [rfCells, e, List.getElem?_append_left, hs]
theorem rf_at (h17 : views.length = 17) (hs : s < ats.length) : (rfCells last v views ats)[19 + s]? = some (.int .i64 ((ats.getD s 0 : Nat) : Int)) := by
  have e : 19 + s = (17 + s) + 1 + 1 := by omega
  simp only [rfCells, List.getElem?_toArray, e, List.getElem?_cons_succ]
  rw [List.getElem?_append_right (by simp [h17])]
  simp [h17, hs]
theorem rf_setLast : (rfCells last v views ats).setIfInBounds 0 (.int .i64 (x : Int)) = rfCells x v views ats := by simp [rfCells]
theorem rf_setPend : (rfCells last v views ats).setIfInBounds 1 u = rfCells last u views ats := by simp [rfCells]
theorem rf_setIs (hs : s < views.length) : (rfCells last v views ats).setIfInBounds (2 + s) (.bool (decide (x ≠ 0))) = rfCells last v (views.set s x) ats := by
  have e : 2 + s = s + 1 + 1 := by omega
  unfold rfCells
  apply Array.ext'
  simp only [Array.toList_setIfInBounds, e, List.set_cons_succ, List.map_set]
  rw [List.set_append_left _ _ (by simpa using hs)]
theorem rf_setAt (h17 : views.length = 17) : (rfCells last v views ats).setIfInBounds (19 + s) (.int .i64 (x : Int)) = rfCells last v views (ats.set s x) := by
  have e : 19 + s = (17 + s) + 1 + 1 := by omega
  unfold rfCells
  apply Array.ext'
  simp only [Array.toList_setIfInBounds, e, List.set_cons_succ, List.map_set]
  rw [List.set_append_right _ _ (by simp [h17])]
  simp [h17]
end

/-- The document's oracle in memory. -/
structure IsRf (w : World) (R : Nat) (v : Value) (o : Or) (ats : List Nat) : Prop where
  blk : Bk w R 40 (rfCells o.last v o.views ats)
  row : w.ownsRow 0 2 1 v o.pendL.length (ints o.pendL)
  a17 : ats.length = 17
  rel : ∀ s, s < 17 → o.view s ≠ 0 → ats.getD s 0 = o.view s - 1

theorem row_bk {w : World} {base size n : Nat} {e : TypeId} {v : Value} {xs : List Value} (h : w.ownsRow base e size v n xs) {k : Nat} (hk : v.ownBlock = some k) : ∃ cs, Bk w k e cs := by
  rcases h.2 with ⟨rfl, _⟩ | ⟨g, cap, cur, rfl, _, hgg, _⟩
  · cases hk
  · cases hk
    exact ⟨_, hgg⟩

section
variable {w w' : World} {R : Nat} {v : Value} {o : Or} {ats : List Nat}
theorem IsRf.tn {S : List Nat} (h : IsRf w R v o ats) (ht : Tn S w w') (hR : R ∉ S) (hv : ∀ b, v.ownBlock = some b → b ∉ S) : IsRf w' R v o ats := ⟨h.blk.tn ht hR, owns_tn h.row ht hv, h.a17, h.rel⟩
theorem IsRf.below (h : IsRf w R v o ats) (hb : Below w.heap.size w w') : IsRf w' R v o ats := h.tn (Tn.of_below hb []) (by simp) (by simp)
/-- A call of the program's leaves it as it is. -/
theorem IsRf.ort {B M : Nat} {o1 o2 : Or} (h : IsRf w R v o ats) (hp : IsOr w B M o1) (ht : Ort w w' B M o2) : IsRf w' R v o ats := by
  refine h.tn ht.tn ?_ (fun b hb => ?_)
  · simp; exact ⟨h.blk.ne hp.blk (by decide), fun e => hp.mp.neBk h.blk e.symm⟩
  · obtain ⟨cs, hk⟩ := row_bk h.row hb
    simp; exact ⟨hk.ne hp.blk (by decide), fun e => hp.mp.neBk hk e.symm⟩
theorem IsRf.neR (h : IsRf w R v o ats) : ∀ b, v.ownBlock = some b → b ≠ R := fun b hb => by
  obtain ⟨cs, hk⟩ := row_bk h.row hb
  exact hk.ne h.blk (by decide)
theorem IsRf.c0 (h : IsRf w R v o ats) : w.cell? ⟨R, 0, none⟩ = some (.int .i64 (o.last : Int)) := (h.blk.cell 0).trans rf_last
theorem IsRf.c1 (h : IsRf w R v o ats) : w.cell? ⟨R, 1, none⟩ = some v := (h.blk.cell 1).trans rf_pend
theorem IsRf.ci (h : IsRf w R v o ats) (hk : o.Ok0) (s : Nat) (hs : s < 17) : w.cell? ⟨R, 2 + s, none⟩ = some (.bool (decide (o.view s ≠ 0))) := (h.blk.cell _).trans (rf_is (by rw [hk.v17]; exact hs))
theorem IsRf.ca (h : IsRf w R v o ats) (hk : o.Ok0) (s : Nat) (hs : s < 17) : w.cell? ⟨R, 19 + s, none⟩ = some (.int .i64 ((ats.getD s 0 : Nat) : Int)) := (h.blk.cell _).trans (rf_at hk.v17 (by rw [h.a17]; exact hs))
end

theorem rses_any (w : World) (s : Int) : Calls Try.prog 44 #[.int .i64 s] w fun e w' => e = .returned (.bool (ses s)) ∧ w' = w := by
  unfold ses
  by_cases h1 : 0 ≤ s
  · by_cases h2 : s ≤ 16
    · simp only [h1, h2, decide_true, Bool.and_self]
      go_enter Try.func44, Try.ntmps44
      go_wp2
      go_ret
      exact ⟨rfl, rfl⟩
    · simp only [h1, h2, decide_true, decide_false, Bool.and_false]
      go_enter Try.func44, Try.ntmps44
      go_wp2
      go_ret
      exact ⟨rfl, rfl⟩
  · simp only [h1, decide_false, Bool.false_and]
    go_enter Try.func44, Try.ntmps44
    go_wp2
    go_ret
    exact ⟨rfl, rfl⟩

set_option maxHeartbeats 1000000 in
theorem rpub_any {w : World} {R : Nat} {v : Value} {o : Or} (hk : o.Ok) (c0 : w.cell? ⟨R, 0, none⟩ = some (.int .i64 (o.last : Int))) (c1 : w.cell? ⟨R, 1, none⟩ = some v) (row : w.ownsRow 0 2 1 v o.pendL.length (ints o.pendL)) :
    Calls Try.prog 13 #[.pointer (some ⟨R, 0, none⟩)] w fun e w' => e = .returned (.int .i64 (o.pub : Int)) ∧ w' = w := by
  have hle := hk.le
  have hmx := hk.max
  by_cases hp : o.pub < o.last
  · obtain ⟨t, ht⟩ := Or.pendL_head hk hp
    rw [ht] at row
    obtain ⟨g, c, rfl⟩ := row_some row (by simp)
    have e0 : w.cell? ⟨g, 0, none⟩ = some (.int .i64 ((o.pub + 1 : Nat) : Int)) := by
      rw [row.cellAt 0 (by simp)]
      simp [ints]
    simp only [List.length_cons] at c1
    obtain ⟨n, hn⟩ : ∃ n, t.length + 1 = n := ⟨_, rfl⟩
    have hn0 : (0 : Int) < (n : Int) := by omega
    rw [hn] at c1
    obtain ⟨p, hpp⟩ : ∃ p, o.pub = p := ⟨_, rfl⟩
    rw [hpp] at e0 hle hp ⊢
    obtain ⟨z, hz⟩ : ∃ z : Int, ((p + 1 : Nat) : Int) = z := ⟨_, rfl⟩
    have hzp : z - 1 = (p : Int) := by omega
    have hw : wrap64 (z - 1) = (p : Int) := by unfold wrap64; omega
    rw [hz] at e0
    have HE : Hid (Ending.returned (.int .i64 (wrap64 (z - 1))) = .returned (.int .i64 (p : Int))) := by rw [hw]; rfl
    clear row ht hk hz hn hpp hle hp hmx hzp hw
    go_enter Try.func13, Try.ntmps13
    go_wp2
    go_ret
    exact ⟨HE.out, rfl⟩
  · have he : o.last = o.pub := by omega
    have h0 := Or.pendL_none he
    rw [h0] at row
    obtain ⟨q, c, rfl, -⟩ := row_form row
    simp only [List.length_nil] at c1
    rw [he] at c0
    clear row h0 he hk hle hmx hp
    go_enter Try.func13, Try.ntmps13
    go_wp2
    go_ret
    exact ⟨rfl, rfl⟩

section
variable {w : World} {R : Nat} {v : Value} {o : Or} {ats : List Nat}

set_option maxHeartbeats 1000000 in
theorem rsnap_any (h : IsRf w R v o ats) (hk : o.Ok) (s : Int) : Calls Try.prog 34 #[.pointer (some ⟨R, 0, none⟩), .int .i64 s] w fun e w' => e = .returned (.tuple #[.int .i64 (o.snapR s).1, .bool (o.snapR s).2]) ∧ w' = w := by
  unfold Or.snapR
  by_cases hs : ses s = true
  · simp only [if_pos hs]
    obtain ⟨n, rfl, hn⟩ := ses_yes hs
    rw [Int.toNat_natCast]
    have ci := h.ci hk.toOk0 n hn
    have ca := h.ca hk.toOk0 n hn
    have g1 : (0 : Int) ≤ (n : Int) := by omega
    have g3 : (n : Int) < 17 := by omega
    by_cases hv : o.view n = 0
    · simp only [hv, ne_eq, not_true_eq_false, decide_false] at ci ⊢
      clear h hk hv
      go_enter Try.func34, Try.ntmps34
      go_wp2_with fail
      refine (rses_any _ _).mono ?_
      rintro r w1 ⟨rfl, rfl⟩
      rw [hs]
      go_wp2
      go_ret2
      exact ⟨rfl, rfl⟩
    · rw [h.rel n hn hv] at ca
      simp only [hv, ne_eq, not_false_eq_true, decide_true] at ci ⊢
      clear h hk hv
      generalize ((o.view n - 1 : Nat) : Int) = y at *
      go_enter Try.func34, Try.ntmps34
      go_wp2_with fail
      refine (rses_any _ _).mono ?_
      rintro r w1 ⟨rfl, rfl⟩
      rw [hs]
      go_wp2
      go_ret2
      exact ⟨rfl, rfl⟩
  · simp only [if_neg hs]
    have hs' : ses s = false := by simpa using hs
    clear h hk hs
    go_enter Try.func34, Try.ntmps34
    go_wp2_with fail
    refine (rses_any _ _).mono ?_
    rintro r w1 ⟨rfl, rfl⟩
    rw [hs']
    go_wp2
    go_ret2
    exact ⟨rfl, rfl⟩

/-- A session's view is set. -/
theorem IsRf.setIs (h : IsRf w R v o ats) (hk : o.Ok) (s : Nat) (hs : s < 17) (x : Nat) (hx : x = 0 ∨ ats.getD s 0 = x - 1) : IsRf (w.setCell ⟨R, 2 + s, none⟩ (.bool (decide (x ≠ 0)))) R v (o.setView s x) ats where
  blk := by
    have := h.blk.set (2 + s) (.bool (decide (x ≠ 0)))
    rwa [rf_setIs (by rw [hk.v17]; exact hs)] at this
  row := owns_tn h.row ((Tn.refl [R] w).setCell (.inl (by simp)) _) (fun b hb => by simpa using h.neR b hb)
  a17 := h.a17
  rel := fun t ht hv => by
    have e : (o.setView s x).view t = if t = s then x else o.view t := by
      unfold Or.view Or.setView
      simp only
      by_cases hts : t = s
      · subst hts
        simp [List.getD, hk.v17, hs]
      · simp [List.getD, hts, Ne.symm hts]
    rw [e] at hv ⊢
    by_cases hts : t = s
    · rw [if_pos hts] at hv ⊢
      subst hts
      rcases hx with hx | hx
      · exact absurd hx hv
      · exact hx
    · rw [if_neg hts] at hv ⊢
      exact h.rel t ht hv

set_option maxHeartbeats 1000000 in
theorem rclose_any (h : IsRf w R v o ats) (hk : o.Ok) (s : Int) : Calls Try.prog 31 #[.pointer (some ⟨R, 0, none⟩), .int .i64 s] w fun e w' => e = .returned (.int .i64 (o.closeR s).1) ∧ IsRf w' R v (o.closeR s).2 ats ∧ Tn [R] w w' := by
  unfold Or.closeR
  by_cases hs : ses s = true
  · simp only [if_pos hs]
    obtain ⟨n, rfl, hn⟩ := ses_yes hs
    rw [Int.toNat_natCast]
    have ci := h.ci hk.toOk0 n hn
    have fi : w.frozen? ⟨R, 2 + n, none⟩ = false := h.blk.frozen _
    have g1 : (0 : Int) ≤ (n : Int) := by omega
    have g3 : (n : Int) < 17 := by omega
    by_cases hv : o.view n = 0
    · have HE : Hid (IsRf w R v (o.setView n 0) ats) := by
        have e : o.setView n 0 = o := by
          unfold Or.setView
          have : o.views.set n 0 = o.views := by
            apply List.ext_getElem?
            intro i
            rw [List.getElem?_set]
            by_cases hi : n = i
            · subst hi
              have hlt : n < o.views.length := by rw [hk.v17]; exact hn
              have : o.views.getD n 0 = 0 := hv
              simp [List.getD, hlt] at this
              simp [hlt, this]
            · rw [if_neg hi]
          rw [this]
        rw [e]
        exact h
      simp only [hv, if_true, ne_eq, not_true_eq_false, decide_false] at ci ⊢
      clear h hk hv
      go_enter Try.func31, Try.ntmps31
      go_wp2_with fail
      refine (rses_any _ _).mono ?_
      rintro r w1 ⟨rfl, rfl⟩
      rw [hs]
      go_wp2
      go_ret
      exact ⟨rfl, HE.out, Tn.refl _ _⟩
    · have HE : Hid (IsRf (w.setCell ⟨R, 2 + n, none⟩ (.bool false)) R v (o.setView n 0) ats ∧ Tn [R] w (w.setCell ⟨R, 2 + n, none⟩ (.bool false))) := ⟨h.setIs hk n hn 0 (.inl rfl), (Tn.refl [R] w).setCell (.inl (by simp)) _⟩
      simp only [hv, if_false, ne_eq, not_false_eq_true, decide_true] at ci ⊢
      clear h hk hv
      go_enter Try.func31, Try.ntmps31
      go_wp2_with fail
      refine (rses_any _ _).mono ?_
      rintro r w1 ⟨rfl, rfl⟩
      rw [hs]
      go_wp2
      go_ret
      exact ⟨rfl, HE.out⟩
  · simp only [if_neg hs]
    have hs' : ses s = false := by simpa using hs
    have HE : Hid (IsRf w R v o ats) := h
    clear h hk hs
    go_enter Try.func31, Try.ntmps31
    go_wp2_with fail
    refine (rses_any _ _).mono ?_
    rintro r w1 ⟨rfl, rfl⟩
    rw [hs']
    go_wp2
    go_ret
    exact ⟨rfl, HE.out, Tn.refl _ _⟩

set_option maxHeartbeats 2000000 in
theorem rwater_any (h : IsRf w R v o ats) (hk : o.Ok) : Calls Try.prog 15 #[.pointer (some ⟨R, 0, none⟩)] w fun e w' => e = .returned (.int .i64 (o.water : Int)) ∧ w' = w := by
  have HV : Hid (∀ s, s < 17 → w.cell? ⟨R, 2 + s, none⟩ = some (.bool (decide (o.views.getD s 0 ≠ 0))) ∧ w.cell? ⟨R, 19 + s, none⟩ = some (.int .i64 ((ats.getD s 0 : Nat) : Int)) ∧ s < o.views.length ∧ (o.views.getD s 0 ≠ 0 → ats.getD s 0 = o.views.getD s 0 - 1)) := fun s hs =>
    ⟨h.ci hk.toOk0 s hs, h.ca hk.toOk0 s hs, by rw [hk.v17]; exact hs, h.rel s hs⟩
  have HP : Hid _ := rpub_any hk h.c0 h.c1 h.row
  have HT : Hid (o.views.take 17 = o.views) := List.take_of_length_le (by rw [hk.v17]; exact Nat.le_refl _)
  clear h hk
  go_enter Try.func15, Try.ntmps15
  go_wp2_with fail
  refine Calls.mono HP.out ?_
  rintro r w1 ⟨rfl, rfl⟩
  go_wp2_with fail
  go_loopw [3, 4] (fun m i wr => ∃ k : Nat, k ≤ 17 ∧ i = .int .i64 (k : Int) ∧ m = .int .i64 ((waterL o.pub (o.views.take k) : Nat) : Int) ∧ wr = w1) (fun m i _ => 17 - (intOf i).toNat)
  case atStart => exact ⟨0, by omega, rfl, rfl, rfl⟩
  case round =>
    obtain ⟨k, hk, rfl, rfl, rfl⟩ := hrel
    by_cases hlt : k < 17
    · have hli : (k : Int) ≤ 16 := by omega
      have hl17 : (k : Int) < 17 := by omega
      have hk0 : (0 : Int) ≤ (k : Int) := by omega
      obtain ⟨ci, ca, hl, hr⟩ := HV.out k hlt
      have HS : Hid _ := waterL_take o.pub o.views k hl
      generalize waterL o.pub (o.views.take k) = m at *
      generalize o.views.getD k 0 = x at *
      generalize ats.getD k 0 = y at *
      by_cases h0 : x = 0
      · rw [if_pos h0] at HS
        have hd : decide (x ≠ 0) = false := by simp [h0]
        rw [hd] at ci
        clear hd h0 hr
        go_wp2
        go_roundw
        case rel => exact ⟨k + 1, by omega, by go_num, by rw [HS.out], trivial⟩
        case measure => simp [intOf]; omega
      · rw [if_neg h0, ← hr h0] at HS
        have hd : decide (x ≠ 0) = true := by simp [h0]
        rw [hd] at ci
        clear hd h0 hr
        by_cases hmy : m ≤ y
        · have e : min m y = m := by omega
          rw [e] at HS
          have hmi : ¬ (y : Int) < (m : Int) := by omega
          clear e
          go_wp2
          go_roundw
          case rel => exact ⟨k + 1, by omega, by go_num, by rw [HS.out], trivial⟩
          case measure => simp [intOf]; omega
        · have e : min m y = y := by omega
          rw [e] at HS
          have hmi : (y : Int) < (m : Int) := by omega
          clear e
          go_wp2
          go_roundw
          case rel => exact ⟨k + 1, by omega, by go_num, by rw [HS.out], trivial⟩
          case measure => simp [intOf]; omega
    · obtain rfl : k = 17 := by omega
      have HE : Hid (waterL o.pub (o.views.take 17) = o.water) := by rw [HT.out]; rfl
      rw [HE.out]
      go_wp2
      go_ret
      exact ⟨rfl, rfl⟩
end

set_option maxHeartbeats 2000000 in
theorem rnew_any (w : World) (l : Nat) (hl : l ≤ 1099511627776) : Calls Try.prog 8 #[.int .i64 (l : Int)] w fun e w' => e = .returned (.tuple #[.pointer (some ⟨w.heap.size, 0, none⟩), .int .i64 0]) ∧ IsRf w' w.heap.size (.slice none 0 0) (Or.begin l l) (List.replicate 17 0) ∧ Below w.heap.size w w' := by
  have h1 : ¬ (l : Int) < 0 := by omega
  have h2 : ¬ (1099511627776 : Int) < (l : Int) := by omega
  have HE : Hid (IsRf (w.alloc (.cells #[.int .i64 (l : Int), .slice none 0 0, .bool false, .bool false, .bool false, .bool false, .bool false, .bool false, .bool false, .bool false, .bool false, .bool false, .bool false, .bool false, .bool false, .bool false, .bool false, .bool false, .bool false, .int .i64 0, .int .i64 0, .int .i64 0, .int .i64 0, .int .i64 0, .int .i64 0, .int .i64 0, .int .i64 0, .int .i64 0, .int .i64 0, .int .i64 0, .int .i64 0, .int .i64 0, .int .i64 0, .int .i64 0, .int .i64 0, .int .i64 0] 40)) w.heap.size (.slice none 0 0) (Or.begin l l) (List.replicate 17 0)) := by
    refine ⟨Bk.new w _ _, ?_, rfl, fun s hs hv => ?_⟩
    · rw [Or.pendL_none rfl]
      exact World.ownsRow_nil _ _ _ _
    · exfalso
      apply hv
      show (List.replicate 17 0).getD s 0 = 0
      rw [List.getD_eq_getElem?_getD, List.getElem?_replicate, if_pos hs]
      rfl
  go_enter Try.func8, Try.ntmps8
  go_wp2
  go_ret2
  exact ⟨rfl, HE.out, (Below.refl _ _).alloc (Nat.le_refl _) _⟩

theorem rnew_bad (w : World) (l : Int) (hl : l < 0 ∨ (1099511627776 : Int) < l) : Calls Try.prog 8 #[.int .i64 l] w fun e w' => e = .returned (.tuple #[.pointer none, .int .i64 1]) ∧ w' = w := by
  by_cases h1 : l < 0
  · clear hl
    go_enter Try.func8, Try.ntmps8
    go_wp2
    go_ret2
    exact ⟨rfl, rfl⟩
  · have h2 := hl.resolve_left h1
    clear hl
    go_enter Try.func8, Try.ntmps8
    go_wp2
    go_ret2
    exact ⟨rfl, rfl⟩
end Go.Proofs.Ytdgphlghmjnjfaa
