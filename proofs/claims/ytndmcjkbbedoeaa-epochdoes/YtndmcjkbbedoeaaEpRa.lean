/- The document's epoch: the next one. -/
import Derived.Test.YtndmcjkbbedoeaaEpRc
namespace Go.Proofs.Ytndmcjkbbedoeaa
open Go.RowKit
set_option linter.unusedVariables false
set_option maxRecDepth 100000

/-- Between the rounds: what goes out, what stays. -/
structure Ra (w wr : World) (R : Nat) (v : Value) (atl : List Nat) (e : Ep) (ov lv : Value) (i : Nat) : Prop where
  blk : Bk wr R 41 (reCells (e.now + 1) (e.pins.map fun p => decide (p ≠ 0)) atl v)
  row : Wr wr v e.limbo
  o : Rr wr ov (e.old.take i)
  l : Wr wr lv ((e.cur.take (i - e.old.length)).map fun x => (e.now, x))
  no : ∀ b, ov.ownBlock = some b → w.heap.size ≤ b
  nl : ∀ b, lv.ownBlock = some b → w.heap.size ≤ b
  ne : ∀ b, ov.ownBlock = some b → lv.ownBlock ≠ some b
  tn : Tn [R] w wr
  rlt : ∀ b ∈ R :: v.ownBlock.toList, b < w.heap.size

theorem Ra.still {w wr w' : World} {R i : Nat} {v ov lv : Value} {atl : List Nat} {e : Ep} (h : Ra w wr R v atl e ov lv i) (ht : Tn [] wr w') : Ra w w' R v atl e ov lv i :=
  ⟨h.blk.tn ht (by simp), h.row.tn ht (by simp), h.o.tn ht (by simp), h.l.tn ht (by simp), h.no, h.nl, h.ne, h.tn.trans ht (by simp), h.rlt⟩

theorem blk_new {W : World} {v v3 : Value} {n : Nat} (q3 : v3.ownBlock = v.ownBlock ∨ v3.ownBlock = some W.heap.size) (hv : ∀ b, v.ownBlock = some b → n ≤ b) (hn : n ≤ W.heap.size) : ∀ b, v3.ownBlock = some b → n ≤ b := by
  intro b hb
  rcases q3 with q | q
  · rw [q] at hb
    exact hv b hb
  · rw [q] at hb
    cases hb
    exact hn

/-- One more goes out. -/
theorem Ra.out {w wr Wa w3 : World} {R i : Nat} {v ov lv v3 : Value} {atl : List Nat} {e : Ep} (h : Ra w wr R v atl e ov lv i) (hi : i < e.old.length) (ta : Tn [] wr Wa)
    (o3 : w3.ownsRow 0 31 3 v3 ((e.old.take i).length + 1) (rts (e.old.take i) ++ (rtAt e.old i).cells)) (g3 : Wa.grownBy w3 ov.ownBlock) (q3 : v3.ownBlock = ov.ownBlock ∨ v3.ownBlock = some Wa.heap.size) : Ra w w3 R v atl e v3 lv (i + 1) := by
  have t3 : Tn ov.ownBlock.toList wr w3 := tnA g3 ta
  have hs := h.tn.size
  have hsa := ta.size
  have hR := h.rlt R (by simp)
  have hv3 : ∀ b, v3.ownBlock = some b → w.heap.size ≤ b := blk_new q3 h.no (by omega)
  exact {
    blk := h.blk.tn t3 (fun hm => by have := h.no _ (opt_toList.1 hm); omega)
    row := h.row.tn t3 (fun b hb hm => by have := h.no _ (opt_toList.1 hm); have := h.rlt b (List.mem_cons_of_mem _ (opt_toList.2 hb)); omega)
    o := by
      unfold Rr
      rw [take_snoc (rtAt_mem hi), rts_append, List.length_append]
      simpa [rts] using o3
    l := by
      have e1 : i + 1 - e.old.length = i - e.old.length := by omega
      rw [e1]
      exact h.l.tn t3 (fun b hb hm => h.ne b (opt_toList.1 hm) hb)
    no := hv3
    nl := h.nl
    ne := fun b hb hl => by
      rcases q3 with q | q
      · rw [q] at hb
        exact h.ne b hb hl
      · rw [q] at hb
        cases hb
        have := row_block h.l _ hl
        omega
    tn := h.tn.trans t3 (fun b hb => .inr (h.no b (opt_toList.1 hb)))
    rlt := h.rlt }

/-- One more stays. -/
theorem Ra.stay {w wr Wa w3 : World} {R i : Nat} {v ov lv v3 : Value} {atl : List Nat} {e : Ep} (h : Ra w wr R v atl e ov lv i) (hi : e.old.length ≤ i) (hi2 : i < e.old.length + e.cur.length) (ta : Tn [] wr Wa)
    (o3 : w3.ownsRow 0 85 4 v3 (((e.cur.take (i - e.old.length)).map fun x => (e.now, x)).length + 1) (wts ((e.cur.take (i - e.old.length)).map fun x => (e.now, x)) ++ wt (e.now, rtAt e.cur (i - e.old.length)))) (g3 : Wa.grownBy w3 lv.ownBlock) (q3 : v3.ownBlock = lv.ownBlock ∨ v3.ownBlock = some Wa.heap.size) : Ra w w3 R v atl e ov v3 (i + 1) := by
  have t3 : Tn lv.ownBlock.toList wr w3 := tnA g3 ta
  have hs := h.tn.size
  have hsa := ta.size
  have hR := h.rlt R (by simp)
  have hv3 : ∀ b, v3.ownBlock = some b → w.heap.size ≤ b := blk_new q3 h.nl (by omega)
  exact {
    blk := h.blk.tn t3 (fun hm => by have := h.nl _ (opt_toList.1 hm); omega)
    row := h.row.tn t3 (fun b hb hm => by have := h.nl _ (opt_toList.1 hm); have := h.rlt b (List.mem_cons_of_mem _ (opt_toList.2 hb)); omega)
    o := by
      rw [List.take_of_length_le (by omega)]
      have := h.o
      rw [List.take_of_length_le hi] at this
      exact this.tn t3 (fun b hb hm => h.ne b hb (opt_toList.1 hm))
    l := by
      have e1 : i + 1 - e.old.length = (i - e.old.length) + 1 := by omega
      unfold Wr
      rw [e1, take_snoc (rtAt_mem (by omega)), List.map_append, wts_append, List.length_append]
      simpa [wts] using o3
    no := h.no
    nl := hv3
    ne := fun b hb hl => by
      rcases q3 with q | q
      · rw [q] at hl
        exact h.ne b hb hl
      · rw [q] at hl
        cases hl
        have := h.o.lt _ hb
        omega
    tn := h.tn.trans t3 (fun b hb => .inr (h.nl b (opt_toList.1 hb)))
    rlt := h.rlt }

/-- What the document's Advance leaves. -/
structure Rd (w w' : World) (R : Nat) (rs : List Nat) (e : Ep) (v : Value) : Prop where
  re : ∃ rs', Ren w' R rs' e.next ∧ Tn rs w w' ∧ (∀ b ∈ rs', b ∈ rs ∨ w.heap.size ≤ b) ∧ ∀ b, v.ownBlock = some b → w.heap.size ≤ b ∧ b ∉ rs'
  row : Rr w' v e.old

theorem wAt_old (e : Ep) (i : Nat) (hi : i < e.old.length) : wAt e.limbo i = (e.now - 1, rtAt e.old i) := by
  have := e.limbo_old i hi
  have h2 := wAt_mem (l := e.limbo) (i := i) (by rw [Ep.limbo_length]; omega)
  rw [h2] at this
  simpa using this
theorem wAt_cur (e : Ep) (i : Nat) (hi : e.old.length ≤ i) (hi2 : i < e.old.length + e.cur.length) : wAt e.limbo i = (e.now, rtAt e.cur (i - e.old.length)) := by
  have := e.limbo_cur (i - e.old.length) (by omega)
  rw [show e.old.length + (i - e.old.length) = i by omega] at this
  have h2 := wAt_mem (l := e.limbo) (i := i) (by rw [Ep.limbo_length]; omega)
  rw [h2] at this
  simpa using this

set_option maxHeartbeats 4000000 in
theorem radvance_any {w : World} {R : Nat} {rs : List Nat} {e : Ep} (h : Ren w R rs e) (hn : e.now ≤ 4611686018427387904) (hl : e.old.length + e.cur.length ≤ 3600000000000) :
    Calls Try.prog 27 #[.pointer (some ⟨R, 0, none⟩)] w fun r w' => (e.held = true ∧ r = .returned (.tuple #[.slice none 0 0, .int .i64 62]) ∧ Tn [] w w') ∨ (e.held = false ∧ ∃ v, r = .returned (.tuple #[v, .int .i64 0]) ∧ Rd w w' R rs e v) := by
  have hlt := h.lt
  obtain ⟨v, atl, rfl, h⟩ := h
  have HI : Hid (IsRe w R v atl e) := h
  have HLT : Hid (∀ b ∈ R :: v.ownBlock.toList, b < w.heap.size) := hlt
  have HH : Hid (e.held = true ↔ ∃ s, s < 17 ∧ e.pin s ≠ 0 ∧ e.pin s < e.now) := Ep.held_iff h.p17
  have HL : Hid (e.old.length + e.cur.length ≤ 3600000000000) := hl
  have c0 := h.cNow
  have h1 := h.n1
  clear h hlt hl
  go_enter Try.func27, Try.ntmps27
  go_wp2_with fail
  go_loopw [4] (fun iv wr => ∃ k : Nat, k ≤ 17 ∧ iv = .int .i64 k ∧ (∃ q, wr = w.drewN q) ∧ Hid (∀ s, s < k → ¬ (e.pin s ≠ 0 ∧ e.pin s < e.now))) (fun iv _ => 17 - (intOf iv).toNat)
  case atStart => exact ⟨0, by omega, rfl, ⟨0, rfl⟩, fun s hs => absurd hs (Nat.not_lt_zero _)⟩
  case round =>
    obtain ⟨k, hk, rfl, ⟨q, rfl⟩, HN⟩ := hrel
    by_cases hk17 : k < 17
    · have hli : (k : Int) ≤ 16 := by omega
      have g0 : (0 : Int) ≤ (k : Int) := by omega
      have g1 : (k : Int) < 17 := by omega
      have d1 := HI.out.cIs k hk17
      have d2 := HI.out.cAt k hk17
      by_cases hp : e.pin k = 0
      · rw [show decide (e.pin k ≠ 0) = false by simp [hp]] at d1
        have HN2 : Hid (∀ s, s < k + 1 → ¬ (e.pin s ≠ 0 ∧ e.pin s < e.now)) := fun s hs => by
          rcases Nat.lt_or_ge s k with h | h
          · exact HN.out s h
          · obtain rfl : s = k := by omega
            exact fun hh => hh.1 hp
        clear hp HN
        go_wp2_with fail
        go_quiet (fail)
        go_wp2
        go_roundw
        case rel => exact ⟨k + 1, by omega, by go_num, ⟨_, rfl⟩, HN2⟩
        case measure => simp [intOf]; omega
      · rw [HI.out.at' k hk17 hp] at d2
        rw [show decide (e.pin k ≠ 0) = true by simp [hp]] at d1
        by_cases hpn : e.pin k < e.now
        · have hpi : ((e.pin k : Nat) : Int) < (e.now : Int) := by omega
          have HT : Hid (e.held = true) := HH.out.2 ⟨k, hk17, hp, hpn⟩
          clear hp hpn HN
          generalize ((e.pin k : Nat) : Int) = pk at *
          go_wp2_with fail
          go_quiet (fail)
          go_wp2
          go_ret2
          exact .inl ⟨HT.out, rfl, (tn_drewN _ _).trans (tn_drewN _ _) (by simp)⟩
        · have hpi : ¬ ((e.pin k : Nat) : Int) < (e.now : Int) := by omega
          have hd : decide (((e.pin k : Nat) : Int) < (e.now : Int)) = false := decide_eq_false hpi
          have HN2 : Hid (∀ s, s < k + 1 → ¬ (e.pin s ≠ 0 ∧ e.pin s < e.now)) := fun s hs => by
            rcases Nat.lt_or_ge s k with h | h
            · exact HN.out s h
            · obtain rfl : s = k := by omega
              exact fun hh => hpn hh.2
          clear hp hpn HN
          generalize ((e.pin k : Nat) : Int) = pk at *
          go_wp2_with fail
          go_quiet (fail)
          go_wp2
          go_roundw
          case rel => exact ⟨k + 1, by omega, by go_num, ⟨_, rfl⟩, HN2⟩
          case measure => simp [intOf]; omega
    · have hli : ¬ (k : Int) ≤ 16 := by omega
      have HF : Hid (e.held = false) := by
        rw [Hid]
        cases hh : e.held with
        | false => rfl
        | true =>
          obtain ⟨s, hs, hx⟩ := HH.out.1 hh
          exact absurd hx (HN.out s (by omega))
      have htq : Tn [] w (w.drewN q) := tn_drewN _ _
      have hIq := HI.out.tn htq (by simp)
      have f0 : (w.drewN q).frozen? ⟨R, 0, none⟩ = false := hIq.blk.frozen _
      have hBn := hIq.blk.set 0 (.int .i64 ((e.now + 1 : Nat) : Int))
      rw [re_setNow] at hBn
      have htn : Tn [R] w ((w.drewN q).setCell ⟨R, 0, none⟩ (.int .i64 ((e.now + 1 : Nat) : Int))) := (htq.mono (by simp)).setCell (.inl (by simp)) _
      have HRa : Hid (Ra w ((w.drewN q).setCell ⟨R, 0, none⟩ (.int .i64 ((e.now : Int) + 1))) R v atl e (.slice none 0 0) (.slice none 0 0) 0) := by
        rw [show (e.now : Int) + 1 = ((e.now + 1 : Nat) : Int) by omega]
        exact ⟨hBn, HI.out.row.tn htn (fun b hb => by simpa using HI.out.ne b hb), Rr.nil _, by rw [Nat.zero_sub, List.take_zero]; exact Wr.nil _, fun b hb => (by cases hb), fun b hb => (by cases hb), fun b hb => (by cases hb), htn, HLT.out⟩
      have d0 : (w.drewN q).cell? ⟨R, 0, none⟩ = some (.int .i64 (e.now : Int)) := hIq.cNow
      obtain ⟨no, hno⟩ : ∃ no, e.old.length = no := ⟨_, rfl⟩
      obtain ⟨nc, hnc⟩ : ∃ nc, e.cur.length = nc := ⟨_, rfl⟩
      have HNO : Hid (e.old.length = no ∧ e.cur.length = nc ∧ no + nc ≤ 3600000000000) := ⟨hno, hnc, by have := HL.out; omega⟩
      have hb3 := HNO.out.2.2
      obtain ⟨n0, hn0⟩ : ∃ n0, e.now = n0 := ⟨_, rfl⟩
      have HN0 : Hid (e.now = n0) := hn0
      rw [hn0] at HRa hn h1 d0
      clear HN hIq htq hBn htn hno hnc hn0 c0
      go_wp2_with fail
      go_loopw [7, 5, 6] (fun iv o' l' wr => ∃ (i : Nat) (ov lv : Value), i ≤ no + nc ∧ iv = .int .i64 i ∧ ov = o' ∧ lv = l' ∧ Hid (Ra w wr R v atl e ov lv i)) (fun iv _ _ _ => no + nc - (intOf iv).toNat)
      case atStart => exact ⟨0, _, _, Nat.zero_le _, rfl, rfl, rfl, HRa.out⟩
      case round =>
        clear HRa
        obtain ⟨i, ov, lv, hi, rfl, rfl, rfl, HA⟩ := hrel
        obtain ⟨pv, cv, ev, -⟩ := row_form HA.out.row
        rw [Ep.limbo_length, HNO.out.1, HNO.out.2.1] at ev
        have z0 : wr.cell? ⟨R, 0, none⟩ = some (.int .i64 ((n0 + 1 : Nat) : Int)) := (HA.out.blk.cell 0).trans (by rw [re_now, HN0.out])
        have z1 : wr.cell? ⟨R, 35, none⟩ = some (.slice pv (no + nc) cv) := (HA.out.blk.cell 35).trans (by rw [re_lim _ _ _ _ (by simp [HI.out.p17]) HI.out.a17, ev])
        rw [show ((n0 + 1 : Nat) : Int) = (n0 : Int) + 1 by omega] at z0
        by_cases hin : i < no + nc
        · have hii : (i : Int) < (no : Int) + (nc : Int) := by omega
          have hi0 : (0 : Int) ≤ (i : Int) := by omega
          obtain ⟨gv, cv', hgv⟩ := row_some HA.out.row (by rw [Ep.limbo_length, HNO.out.1, HNO.out.2.1]; omega)
          rw [Ep.limbo_length, HNO.out.1, HNO.out.2.1, ev] at hgv
          cases hgv
          have hrow := HA.out.row
          rw [ev] at hrow
          obtain ⟨y0, y1, y2, y3⟩ := hrow.cell (by rw [Ep.limbo_length, HNO.out.1, HNO.out.2.1]) i hin
          by_cases hio : i < no
          · rw [wAt_old e i (by rw [HNO.out.1]; exact hio)] at y0 y1 y2 y3
            simp only at y0 y1 y2 y3
            rw [HN0.out, show ((n0 - 1 : Nat) : Int) = (n0 : Int) - 1 by omega] at y0
            have hle : (n0 : Int) - 1 ≤ (n0 : Int) + 1 - 2 := by omega
            obtain ⟨po, co, eo, -⟩ := HA.out.o.form
            rw [List.length_take, HNO.out.1, show min i no = i by omega] at eo
            subst eo
            have HRO : Hid (∀ W', Tn [] wr W' → W'.ownsRow 0 31 3 (.slice po i co) i (rts (e.old.take i))) := fun W' ht => by
              have := HA.out.o.tn ht (by simp)
              unfold Rr at this
              rwa [List.length_take, HNO.out.1, show min i no = i by omega] at this
            clear hrow
            generalize hx : rtAt e.old i = x at *
            have HX : Hid (rtAt e.old i = x) := hx
            clear hx
            go_wp2_with fail
            go_quiet (fail)
            go_wp2_with (at_builtin; refine appX _ rfl _ _ _ rfl 31 (.agg #[.int .i64 0, .int .i64 0, .int .i64 0]) 3 24 Try.underlying50 rtinfo rfl (by decide) (.slice po i co) i (rts (e.old.take i)) rfl (HRO.out _ ((tn_drewN _ _).alloc _)) (some ⟨wr.heap.size, 0, none⟩) 1 1 x.cells rfl rfl (news_alloc _ x.cells 31) (rtone x) (fun h => by cases h) (by unfold maxLen; omega) (by omega) ?_)
            intro v3 w3 o3 g3 q3
            have HA3 : Hid (Ra w w3 R v atl e v3 lv (i + 1)) := by
              refine HA.out.out (by rw [HNO.out.1]; exact hio) ((tn_drewN _ _).alloc _) ?_ g3 ?_
              · rw [HX.out, List.length_take, HNO.out.1, show min i no = i by omega]
                exact o3
              · rw [World.size_alloc]
                exact q3
            clear o3 g3 q3 y0 y1 y2 y3 z0 z1
            go_wp2
            go_roundw
            case rel => exact ⟨i + 1, _, _, by omega, by go_num, rfl, rfl, HA3⟩
            case measure => simp [intOf]; omega
          · rw [wAt_cur e i (by rw [HNO.out.1]; omega) (by rw [HNO.out.1, HNO.out.2.1]; exact hin)] at y0 y1 y2 y3
            simp only at y0 y1 y2 y3
            rw [HN0.out] at y0
            have hle : ¬ (n0 : Int) ≤ (n0 : Int) + 1 - 2 := by omega
            obtain ⟨m, hm⟩ : ∃ m, i - no = m := ⟨_, rfl⟩
            have hlenl : ((e.cur.take (i - e.old.length)).map fun x => (e.now, x)).length = m := by
              rw [List.length_map, List.length_take, HNO.out.1, HNO.out.2.1]
              omega
            obtain ⟨pl, cl, el, -⟩ := row_form HA.out.l
            rw [hlenl] at el
            subst el
            obtain ⟨LL, hLL⟩ : ∃ LL, ((e.cur.take (i - e.old.length)).map fun x => (e.now, x)) = LL := ⟨_, rfl⟩
            have HLL : Hid (((e.cur.take (i - e.old.length)).map fun x => (e.now, x)) = LL ∧ LL.length = m) := ⟨hLL, by rw [← hLL]; exact hlenl⟩
            have HRL : Hid (∀ W', Tn [] wr W' → W'.ownsRow 0 85 4 (.slice pl m cl) m (wts LL)) := fun W' ht => by
              have := HA.out.l.tn ht (by simp)
              unfold Wr at this
              rwa [hLL, HLL.out.2] at this
            have hml : m ≤ 3600000000000 := by omega
            clear hrow hlenl hLL hm
            generalize hx : rtAt e.cur (i - e.old.length) = x at *
            have HX : Hid (rtAt e.cur (i - e.old.length) = x) := hx
            clear hx
            go_wp2_with fail
            go_quiet (fail)
            go_wp2_with (at_builtin; refine appX _ rfl _ _ _ rfl 85 (.agg #[.int .i64 0, .int .i64 0, .int .i64 0, .int .i64 0]) 4 32 Try.underlying39 wtinfo rfl (by decide) (.slice pl m cl) m (wts LL) rfl (HRL.out _ ((tn_drewN _ _).alloc _)) (some ⟨wr.heap.size, 0, none⟩) 1 1 (wt (n0, x)) rfl rfl (news_alloc _ (wt (n0, x)) 85) (wtone _) (fun h => by cases h) (by unfold maxLen; omega) (by omega) ?_)
            intro v3 w3 o3 g3 q3
            have HA3 : Hid (Ra w w3 R v atl e ov v3 (i + 1)) := by
              refine HA.out.stay (by rw [HNO.out.1]; omega) (by rw [HNO.out.1, HNO.out.2.1]; exact hin) ((tn_drewN _ _).alloc _) ?_ g3 ?_
              · rw [HX.out, HLL.out.1, HLL.out.2, HN0.out]
                exact o3
              · rw [World.size_alloc]
                exact q3
            clear o3 g3 q3 y0 y1 y2 y3 z0 z1
            go_wp2
            go_roundw
            case rel => exact ⟨i + 1, _, _, by omega, by go_num, rfl, rfl, HA3⟩
            case measure => simp [intOf]; omega
        · have hii : ¬ (i : Int) < (no : Int) + (nc : Int) := by omega
          have hie : i = no + nc := by omega
          have hA := HA.out
          have f35 : wr.frozen? ⟨R, 35, none⟩ = false := hA.blk.frozen _
          have HRD : Hid (Rd w (wr.setCell ⟨R, 35, none⟩ lv) R (R :: v.ownBlock.toList) e ov) := by
            have ho := hA.o
            rw [List.take_of_length_le (by rw [HNO.out.1]; omega)] at ho
            have hl := hA.l
            rw [List.take_of_length_le (by rw [HNO.out.1, HNO.out.2.1]; omega)] at hl
            have hRlt := hA.rlt R (by simp)
            have hT : ReT w (wr.setCell ⟨R, 35, none⟩ lv) R (R :: v.ownBlock.toList) e.next := HI.out.lim (e' := e.next) hA.tn hA.blk rfl (by show 1 ≤ e.now + 1; omega) (by rw [Ep.limbo_next]; exact hl) hA.nl rfl
            have t3 : Tn [R] wr (wr.setCell ⟨R, 35, none⟩ lv) := (Tn.refl _ _).setCell (.inl (by simp)) _
            have hB3 := hA.blk.set 35 lv
            rw [re_setLim _ _ _ _ _ (by simp [HI.out.p17]) HI.out.a17] at hB3
            refine ⟨⟨R :: lv.ownBlock.toList, ⟨lv, atl, rfl, ?_⟩, (hA.tn.trans t3 (fun x hx => .inl hx)).mono (by simp), ?_, ?_⟩, ho.tn t3 (fun b hb => by have := hA.no b hb; simp; omega)⟩
            · exact ⟨hB3, HI.out.p17, HI.out.a17, HI.out.at', (by rw [Ep.limbo_next]; exact hl.tn t3 (fun b hb => by have := hA.nl b hb; simp; omega)), fun b hb => by have := hA.nl b hb; omega, by show 1 ≤ e.now + 1; omega⟩
            · intro b hb
              rcases List.mem_cons.1 hb with rfl | hb
              · exact .inl (by simp)
              · exact .inr (hA.nl b (opt_toList.1 hb))
            · intro b hb
              refine ⟨hA.no b hb, fun hm => ?_⟩
              rcases List.mem_cons.1 hm with rfl | hm
              · have := hA.no _ hb
                omega
              · exact hA.ne b hb (opt_toList.1 hm)
          obtain ⟨pl, cl, el, -⟩ := row_form hA.l
          obtain ⟨m2, hm2⟩ : ∃ m2, ((e.cur.take (i - e.old.length)).map fun x => (e.now, x)).length = m2 := ⟨_, rfl⟩
          rw [hm2] at el
          subst el
          clear hA ev hie hm2
          go_wp2
          go_ret2
          exact .inr ⟨HF.out, _, rfl, HRD.out⟩

end Go.Proofs.Ytndmcjkbbedoeaa
