/- Epochs: what is retired, what waits, the next epoch. -/
import Derived.Test.YtbdcdiihaecheaaEkB
import Derived.Deep.RegionHeldLaw
import Derived.Deep.RegionLaw
namespace Go.Proofs.Ytbdcdiihaecheaa
open Go.RowKit
set_option linter.unusedVariables false
set_option maxRecDepth 100000

theorem Ep.held_iff {e : Ep} (h : e.pins.length = 17) : e.held = true ↔ ∃ s, s < 17 ∧ e.pin s ≠ 0 ∧ e.pin s < e.now := by
  unfold Ep.held Ep.pin
  rw [List.any_eq_true]
  constructor
  · rintro ⟨p, hp, hb⟩
    obtain ⟨i, hi, rfl⟩ := List.mem_iff_getElem.1 hp
    simp only [Bool.and_eq_true, decide_eq_true_eq] at hb
    refine ⟨i, by omega, ?_⟩
    simp only [List.getD, List.getElem?_eq_getElem hi, Option.getD_some]
    exact hb
  · rintro ⟨s, hs, hb⟩
    have hs' : s < e.pins.length := by omega
    simp only [List.getD, List.getElem?_eq_getElem hs', Option.getD_some] at hb
    exact ⟨_, List.getElem_mem hs', by simp [hb]⟩

theorem news_bk {W : World} {b : Nat} {t : TypeId} {cs : List Value} (h : Bk W b t cs.toArray) : ∀ j u, cs[j]? = some u → W.cell? ((⟨b, 0, none⟩ : Addr).add j) = some u := by
  intro j u hu
  rw [show (⟨b, 0, none⟩ : Addr).add j = ⟨b, j, none⟩ by unfold Addr.add; split <;> simp_all]
  rw [h.cell j]
  simpa using hu

theorem bk_new2 (w : World) (o : Obj) (t : TypeId) (cs : Array Value) : Bk ((w.alloc o).alloc (.cells cs t)) (w.heap.size + 1) t cs := by
  have := Bk.new (w.alloc o) t cs
  simpa using this

set_option maxHeartbeats 1000000 in
theorem held_any {w : World} {B : Nat} {vs : List Value} {e : Ep} (h : IsEp w B vs e) :
    Calls Try.prog 56 #[.pointer (some ⟨B, 0, none⟩)] w fun r w' => r = .returned (.bool e.held) ∧ w' = w := by
  have HI : Hid (IsEp w B vs e) := h
  have c0 := h.cNow
  have HH : Hid (e.held = true ↔ ∃ s, s < 17 ∧ e.pin s ≠ 0 ∧ e.pin s < e.now) := Ep.held_iff h.p17
  clear h
  obtain ⟨hd, hhd⟩ : ∃ b, e.held = b := ⟨_, rfl⟩
  rw [hhd] at HH ⊢
  clear hhd
  go_enter Try.func56, Try.ntmps56
  go_wp2_with fail
  go_loopw [5] (fun iv wr => ∃ j : Nat, j ≤ 17 ∧ iv = .int .i64 j ∧ wr = w ∧ Hid (∀ s, s < j → ¬ (e.pin s ≠ 0 ∧ e.pin s < e.now))) (fun iv _ => 17 - (intOf iv).toNat)
  case atStart => exact ⟨0, by omega, rfl, rfl, fun s hs => absurd hs (Nat.not_lt_zero _)⟩
  case round =>
    obtain ⟨j, hj, rfl, rfl, HN⟩ := hrel
    by_cases hlt : j < 17
    · have hli : (j : Int) < 17 := by omega
      have g0 : (0 : Int) ≤ (j : Int) := by omega
      have c1 := HI.out.cPin j hlt
      obtain ⟨p, hp⟩ : ∃ p, e.pin j = p := ⟨_, rfl⟩
      rw [hp] at c1
      by_cases hp0 : p = 0
      · subst hp0
        have HN2 : Hid (∀ s, s < j + 1 → ¬ (e.pin s ≠ 0 ∧ e.pin s < e.now)) := by
          intro s hs
          rcases Nat.lt_or_ge s j with h | h
          · exact HN.out s h
          · obtain rfl : s = j := by omega
            rw [hp]
            simp
        clear hp HN
        go_wp2_with fail
        refine (aload_any c1).mono ?_
        rintro r w2 ⟨rfl, rfl⟩
        go_wp2
        go_roundw
        case rel => exact ⟨j + 1, by omega, by go_num, by trivial, HN2⟩
        case measure => simp [intOf]; omega
      · have hp1 : ¬ (p : Int) = 0 := by omega
        have hb1 : ((p : Int) != 0) = true := by simp [hp0]
        by_cases hpn : p < e.now
        · have hpi : (p : Int) < (e.now : Int) := by omega
          have HT : Hid (hd = true) := HH.out.2 ⟨j, hlt, by rw [hp]; exact hp0, by rw [hp]; exact hpn⟩
          clear hp HN hp0 hpn
          generalize e.now = n at *
          go_wp2_with fail
          refine (aload_any c1).mono ?_
          rintro r w2 ⟨rfl, rfl⟩
          go_wp2
          go_ret
          exact ⟨by rw [HT.out]; rfl, rfl⟩
        · have hpi : ¬ (p : Int) < (e.now : Int) := by omega
          have HN2 : Hid (∀ s, s < j + 1 → ¬ (e.pin s ≠ 0 ∧ e.pin s < e.now)) := by
            intro s hs
            rcases Nat.lt_or_ge s j with h | h
            · exact HN.out s h
            · obtain rfl : s = j := by omega
              rw [hp]
              exact fun h => hpn h.2
          clear hp HN hp0 hpn
          go_wp2_with fail
          refine (aload_any c1).mono ?_
          rintro r w2 ⟨rfl, rfl⟩
          go_wp2
          go_roundw
          case rel => exact ⟨j + 1, by omega, by go_num, by trivial, HN2⟩
          case measure => simp [intOf]; omega
    · have hli : ¬ (j : Int) < 17 := by omega
      have HT : Hid (hd = false) := by
        unfold Hid
        cases hd with
        | false => rfl
        | true =>
          obtain ⟨s, hs, hx⟩ := HH.out.1 rfl
          exact absurd hx (HN.out s (by omega))
      clear HN
      go_wp2
      go_ret
      exact ⟨by rw [HT.out]; rfl, rfl⟩

/-- Something more in a list. -/
theorem IsEp.put {w w2 w3 : World} {B : Nat} {vs : List Value} {e : Ep} {x : Rt} {v' : Value} {k : Nat} (h : IsEp w B vs e) (hk : k = e.now % 3) (ht : Tn (vs.getD k vNil).ownBlock.toList w w2) (hr : Rr w2 v' (e.cur ++ [x])) (hn : Nw w (vs.getD k vNil) v') (hw : w3 = w2.setCell ⟨B, 18 + k, none⟩ v') : EpT w w3 B (blocks B vs) (e.retire x) := by
  have hk3 : k < 3 := by omega
  have hB2 : Bk w2 B 89 (epCells e.now e.pins vs) := h.blk.tn ht (fun hm => h.neB k B hk3 (opt_toList.1 hm) rfl)
  have ht2 : Tn [B] w2 w3 := by rw [hw]; exact (Tn.refl _ _).setCell (.inl (by simp)) _
  have hg : ∀ j, (vs.set k v').getD j vNil = if j = k then v' else vs.getD j vNil := fun j => getD_set _ _ _ _ _ (by rw [h.v3]; exact hk3)
  have hB' : ∀ b, v'.ownBlock = some b → b ≠ B := by
    intro b hb
    rcases hn b hb with h1 | h1
    · exact h.neB k b hk3 h1
    · have := h.blk.lt
      omega
  have hv' : ∀ j b, j < 3 → j ≠ k → (vs.getD j vNil).ownBlock = some b → v'.ownBlock = some b → False := by
    intro j b hj hjk h1 h2
    rcases hn b h2 with h3 | h3
    · exact hjk (h.ne j k b hj hk3 h1 h3)
    · have := (h.row j hj).lt b h1
      omega
  have ht3 : Tn (blocks B vs) w w3 := (ht.mono (fun b hb => (mem_blocks h.v3).2 (.inr ⟨k, hk3, opt_toList.1 hb⟩))).trans ht2 (fun b hb => by simp at hb; subst hb; exact .inl (by simp [blocks]))
  refine ⟨blocks B (vs.set k v'), ⟨vs.set k v', rfl, ?_⟩, ht3, ?_⟩
  · exact {
      blk := by
        rw [hw]
        have := hB2.set (18 + k) v'
        rwa [epCells_setList _ _ _ _ h.p17] at this
      p17 := h.p17
      v3 := by simp [h.v3]
      row := fun j hj => by
        rw [hg j, Ep.lst_retire]
        by_cases hjk : j = k
        · rw [if_pos hjk, if_pos (by omega)]
          exact hr.tn ht2 (fun b hb => by simpa using hB' b hb)
        · rw [if_neg hjk, if_neg (by omega)]
          exact ((h.row j hj).tn ht (fun b hb hm => hjk (h.ne j k b hj hk3 hb (opt_toList.1 hm)))).tn ht2 (fun b hb => by simpa using h.neB j b hj hb)
      ne := fun i j b hi hj h1 h2 => by
        rw [hg i] at h1
        rw [hg j] at h2
        by_cases e1 : i = k
        · by_cases e2 : j = k
          · omega
          · rw [if_pos e1] at h1
            rw [if_neg e2] at h2
            exact (hv' j b hj e2 h2 h1).elim
        · rw [if_neg e1] at h1
          by_cases e2 : j = k
          · rw [if_pos e2] at h2
            exact (hv' i b hi e1 h1 h2).elim
          · rw [if_neg e2] at h2
            exact h.ne i j b hi hj h1 h2
      neB := fun j b hj h1 => by
        rw [hg j] at h1
        by_cases e1 : j = k
        · rw [if_pos e1] at h1
          exact hB' b h1
        · rw [if_neg e1] at h1
          exact h.neB j b hj h1
      n1 := h.n1
      ple := h.ple }
  · intro b hb
    rcases (mem_blocks (by simp [h.v3])).1 hb with rfl | ⟨j, hj, hb⟩
    · exact .inl (by simp [blocks])
    · rw [hg j] at hb
      by_cases e1 : j = k
      · rw [if_pos e1] at hb
        rcases hn b hb with h1 | h1
        · exact .inl ((mem_blocks h.v3).2 (.inr ⟨k, hk3, h1⟩))
        · exact .inr h1
      · rw [if_neg e1] at hb
        exact .inl ((mem_blocks h.v3).2 (.inr ⟨j, hj, hb⟩))

set_option maxHeartbeats 2000000 in
theorem retire_any {w : World} {B : Nat} {bs : List Nat} {e : Ep} (h : Epn w B bs e) (x : Rt) (hl : e.cur.length ≤ 3600000000000) :
    Calls Try.prog 52 #[.pointer (some ⟨B, 0, none⟩), x.val] w fun r w' => r = .returned (.int .i64 0) ∧ EpT w w' B bs (e.retire x) := by
  obtain ⟨vs, rfl, h⟩ := h
  have h0 := h.n1
  have HE : Hid (IsEp w B vs e) := h
  have HB : Hid (IsEp (w.alloc (.cells #[.int .i64 x.k, .int .i64 x.s, .int .i64 x.g] 59)) B vs e) := h.tn ((Tn.refl [] _).alloc _) (by simp)
  have c0 := HB.out.cNow
  have c1 := HB.out.cList (e.now % 3) (by omega)
  have k1 : Bk (w.alloc (.cells #[.int .i64 x.k, .int .i64 x.s, .int .i64 x.g] 59)) w.heap.size 59 #[.int .i64 x.k, .int .i64 x.s, .int .i64 x.g] := Bk.new _ _ _
  have d0 := k1.cell 0
  have d1 := k1.cell 1
  have d2 := k1.cell 2
  have c2 := (HB.out.tn ((Tn.refl [] _).alloc (.cells #[.int .i64 x.k, .int .i64 x.s, .int .i64 x.g] 59)) (by simp)).cList (e.now % 3) (by omega)
  clear k1 h
  obtain ⟨v, hv⟩ : ∃ v, vs.getD (e.now % 3) vNil = v := ⟨_, rfl⟩
  have HR : Hid (∀ w', Tn [] w w' → Rr w' v e.cur) := fun w' ht => by
    have := HE.out.row (e.now % 3) (by omega)
    rw [hv, Ep.lst_cur] at this
    exact this.tn ht (by simp)
  rw [hv] at c1 c2
  have HV : Hid (vs.getD (e.now % 3) vNil = v) := hv
  clear hv
  obtain ⟨p, c, rfl, -⟩ := (HR.out w (Tn.refl _ _)).form
  have HL : Hid (e.cur.length ≤ 3600000000000) := hl
  have HP : Hid (∀ {W w3 : World} {v3 : Value} (hg : W.grownBy w3 (Value.slice p e.cur.length c).ownBlock) (hv3 : v3.ownBlock = (Value.slice p e.cur.length c).ownBlock ∨ v3.ownBlock = some W.heap.size) (ho : w3.ownsRow 0 59 3 v3 (e.cur.length + 1) (rts e.cur ++ x.cells)), Tn [] w W → w3.cell? ⟨B, 18 + e.now % 3, none⟩ = some (.slice p e.cur.length c) ∧ w3.frozen? ⟨B, 18 + e.now % 3, none⟩ = false ∧ EpT w (w3.setCell ⟨B, 18 + e.now % 3, none⟩ v3) B (blocks B vs) (e.retire x)) := by
    intro W w3 v3 hg hv3 ho hT
    have ht : Tn (Value.slice p e.cur.length c).ownBlock.toList w w3 := (hT.mono (by simp)).grown hg (fun k hk => .inl (opt_toList.2 hk))
    have hB3 : Bk w3 B 89 (epCells e.now e.pins vs) := HE.out.blk.tn ht (fun hm => HE.out.neB (e.now % 3) B (by omega) (by rw [HV.out]; exact opt_toList.1 hm) rfl)
    refine ⟨(hB3.cell _).trans ((epCells_list _ _ _ HE.out.p17 _ (by rw [HE.out.v3]; omega)).trans (by rw [HV.out])), hB3.frozen _, ?_⟩
    refine HE.out.put rfl (by rw [HV.out]; exact ht) ?_ ?_ rfl
    · unfold Rr
      rw [List.length_append, rts_append]
      exact ho
    · intro k hk
      rw [HV.out]
      rcases hv3 with hb | hb
      · exact .inl (by rw [← hb]; exact hk)
      · rw [hb] at hk
        have := hT.size
        simp at hk
        exact .inr (by omega)
  clear hl
  go_enter Try.func52, Try.ntmps52
  go_wp2_with fail
  refine (made_any c0 h0).mono ?_
  rintro r w1 ⟨rfl, rfl⟩
  go_wp2_with fail
  refine (list_any _ B e.now).mono ?_
  rintro r w1 ⟨rfl, rfl⟩
  go_wp2_with fail
  go_region_law (first
    | (refine stepX rfl _ _ 55 rfl 59 (.agg #[.int .i64 0, .int .i64 0, .int .i64 0]) 3 24 Try.underlying55 rtinfo rfl (by decide) (.slice p e.cur.length c) e.cur.length (rts e.cur) (by go_simp) (HR.out _ (by repeat (first | exact Tn.refl _ _ | refine Tn.alloc ?_ _ | refine Tn.drew ?_))) ⟨_, 0, none⟩ 1 1 x.cells (by rfl) rfl (news_bk (by first | exact bk_new2 _ _ _ _)) (rtone x) (by have := HL.out; unfold maxLen; omega) (by have := HL.out; omega) ?_; intro v3 w3 HO3 hg3 hv3; obtain ⟨g3, k3, rfl⟩ := row_some HO3 (by omega); obtain ⟨z1, z2, z3⟩ := HP.out hg3 hv3 HO3 (by repeat (first | exact Tn.refl _ _ | refine Tn.alloc ?_ _ | refine Tn.drew ?_))))
  all_goals go_wp2
  all_goals go_ret
  all_goals exact ⟨rfl, z3⟩

end Go.Proofs.Ytbdcdiihaecheaa
