/- slices.DeleteFunc of commits above a timestamp; the commits up to one, in order. -/
import Derived.Test.YtilabcolfabnmaaSbZ
import Derived.Test.YtilabcolfabnmaaClC
import Derived.Tactics2
import Derived.WalkSmall
namespace Go.Proofs.Ytilabcolfabnmaa
open Go.RowKit Go.Sort
set_option linter.unusedVariables false
set_option maxRecDepth 100000

/-- The commits that are not above a timestamp. -/
def keepC (ts : Int) (l : List Cm) : List Cm := l.filter fun x => decide (x.ts ≤ ts)
theorem keepC_at {ts : Int} {l : List Cm} {j : Nat} {x : Cm} (h : l[j]? = some x) : keepC ts (l.take (j + 1)) = if ts < x.ts then keepC ts (l.take j) else keepC ts (l.take j) ++ [x] := by
  unfold keepC
  rw [List.take_add_one, h, List.filter_append]
  by_cases he : ts < x.ts
  · have : ¬ x.ts ≤ ts := by omega
    simp [he, this]
  · have : x.ts ≤ ts := by omega
    simp [he, this]
theorem keepC_len (ts : Int) (l : List Cm) : (keepC ts l).length ≤ l.length := List.length_filter_le _ _

theorem above_any (x : Cm) (ts : Int) (B : Nat) (w : World) (h : w.cell? ⟨B, 0, none⟩ = some (.int .i64 ts)) : Calls Try.prog 46 #[x.v, .pointer (some ⟨B, 0, none⟩)] w fun e w' => e = .returned (.bool (decide (ts < x.ts))) ∧ Below w.heap.size w w' := by
  obtain ⟨x1, x2, x3, x4⟩ := x
  obtain ⟨w1, hw1⟩ : ∃ w1, w.alloc (.cells #[.int .i64 x1, .slice x2 x3 x4] 42) = w1 := ⟨_, rfl⟩
  have hb : Below w.heap.size w w1 := by rw [← hw1]; exact (Below.refl _ _).alloc (Nat.le_refl _) _
  have hk : Bk w1 w.heap.size 42 #[.int .i64 x1, .slice x2 x3 x4] := by rw [← hw1]; exact Bk.new _ _ _
  have c0 : w1.cell? ⟨w.heap.size, 0, none⟩ = some (.int .i64 x1) := hk.cell 0
  have c1 : w1.cell? ⟨B, 0, none⟩ = some (.int .i64 ts) := by rw [hb.cell (p := ⟨B, 0, none⟩) (World.block_lt_of_cell? w _ h)]; exact h
  have HB : Hid (Below w.heap.size w w1) := hb
  clear hb hk h
  go_enter Try.func46, Try.ntmps46
  go_wp2
  go_ret
  exact ⟨rfl, HB.out⟩

/-- The index of the first that is above. -/
theorem firstC_any (ts : Int) (B : Nat) (p : Option Addr) (len cap : Nat) (l : List Cm) (w : World) (hc : w.cell? ⟨B, 0, none⟩ = some (.int .i64 ts)) (hlen : l.length = len) (hx : Els Cm.cells 2 w p l) (hl : len ≤ 4398046511104) :
    Calls Try.prog 60 #[.slice p len cap, .func (.func 46) #[] #[.pointer (some ⟨B, 0, none⟩)]] w fun e w' => ((e = .returned (.int .i64 (-1)) ∧ keepC ts l = l) ∨ ∃ k : Nat, e = .returned (.int .i64 k) ∧ k < len ∧ keepC ts (l.take (k + 1)) = l.take k) ∧ Below w.heap.size w w' := by
  have eg : ∀ args w, (callFunc 46 args).run Try.prog w = .ok (.enter 46 args) w := enters_of Try.func46 (by kernel_rfl) rfl
  have HX : Hid (Els Cm.cells 2 w p l) := hx
  have HL : Hid (l.length = len) := hlen
  have HC : Hid (w.cell? ⟨B, 0, none⟩ = some (.int .i64 ts)) := hc
  clear hx hlen hc
  go_enter Try.func60, Try.ntmps60
  go_wp2_with fail
  go_loopw [8] (fun i wr => ∃ k : Nat, k ≤ len ∧ i = .int .i64 k ∧ Hid (Below w.heap.size w wr) ∧ Hid (keepC ts (l.take k) = l.take k)) (fun i _ => len - (intOf i).toNat)
  case atStart => exact ⟨0, Nat.zero_le _, rfl, Below.refl _ _, by simp [Hid, keepC]⟩
  case round =>
    obtain ⟨k, hk, rfl, HW, HA⟩ := hrel
    by_cases hlt : k < len
    · have hli : (k : Int) < (len : Int) := by omega
      obtain ⟨b, o, x, rfl, hg, hcs⟩ := Els.at (HX.out.below HW.out (Nat.le_refl _)) (j := k) (by have := HL.out; omega)
      have c0 := hcs 0 _ rfl
      have c1 := hcs 1 _ rfl
      rw [Nat.add_zero] at c0
      have hcall := above_any x ts B wr (by rw [HW.out.cell (p := ⟨B, 0, none⟩) (World.block_lt_of_cell? w _ HC.out)]; exact HC.out)
      have HKA : Hid (keepC ts (l.take (k + 1)) = if ts < x.ts then keepC ts (l.take k) else keepC ts (l.take k) ++ [x]) := keepC_at hg
      have HTK : Hid (l.take (k + 1) = l.take k ++ [x]) := by rw [List.take_add_one, hg]; rfl
      obtain ⟨x1, x2, x3, x4⟩ := x
      clear hg hcs
      by_cases hq : ts < x1
      · rw [show decide (ts < (⟨x1, x2, x3, x4⟩ : Cm).ts) = true from decide_eq_true hq] at hcall
        have HF : Hid (keepC ts (l.take (k + 1)) = l.take k) := by unfold Hid; rw [HKA.out, if_pos hq]; exact HA.out
        go_wp2_with (go_at_fn 46; refine hcall.mono ?_; rintro e w' ⟨rfl, hb'⟩)
        go_ret
        exact ⟨.inr ⟨k, rfl, hlt, HF.out⟩, HW.out.trans (hb'.mono HW.out.size)⟩
      · rw [show decide (ts < (⟨x1, x2, x3, x4⟩ : Cm).ts) = false from decide_eq_false hq] at hcall
        have HF : Hid (keepC ts (l.take (k + 1)) = l.take (k + 1)) := by unfold Hid; rw [HKA.out, if_neg hq, HTK.out, HA.out]
        go_wp2_with (go_at_fn 46; refine hcall.mono ?_; rintro e w' ⟨rfl, hb'⟩)
        go_roundw
        case rel => exact ⟨k + 1, by omega, by go_num, HW.out.trans (hb'.mono HW.out.size), HF⟩
        case measure => simp [intOf]; omega
    · have hkk : k = len := by omega
      have hli : ¬ ((k : Int) < (len : Int)) := by omega
      have HF : Hid (keepC ts l = l) := by
        have := HA.out
        rw [List.take_of_length_le (by have := HL.out; omega)] at this
        exact this
      go_wp2
      go_ret
      exact ⟨.inl ⟨rfl, HF.out⟩, HW.out⟩

/-- How the row stands when j were looked at, and i of them kept. -/
structure DelC (ts : Int) (l : List Cm) (i j : Nat) (cur : List Cm) : Prop where
  len : cur.length = l.length
  lt : i < j
  low : cur.take i = keepC ts (l.take j)
  high : cur.drop j = l.drop j
theorem DelC.at {ts : Int} {l : List Cm} {i j : Nat} {cur : List Cm} (h : DelC ts l i j cur) (hj : j < l.length) : ∃ x, l[j]? = some x ∧ cur[j]? = some x := by
  refine ⟨l[j], List.getElem?_eq_getElem hj, ?_⟩
  have := congrArg (fun m => m[0]?) h.high
  simp only [List.getElem?_drop, Nat.add_zero] at this
  rw [this, List.getElem?_eq_getElem hj]
theorem DelC.skip {ts : Int} {l : List Cm} {i j : Nat} {cur : List Cm} (h : DelC ts l i j cur) {x : Cm} (hx : l[j]? = some x) (he : ts < x.ts) : DelC ts l i (j + 1) cur := by
  refine ⟨h.len, by have := h.lt; omega, ?_, ?_⟩
  · rw [keepC_at hx, if_pos he]
    exact h.low
  · have := congrArg (List.drop 1) h.high
    simpa [List.drop_drop, Nat.add_comm] using this
theorem DelC.keep {ts : Int} {l : List Cm} {i j : Nat} {cur : List Cm} (h : DelC ts l i j cur) {x : Cm} (hx : l[j]? = some x) (he : ¬ ts < x.ts) : DelC ts l (i + 1) (j + 1) (cur.set i x) := by
  have hlt := h.lt
  have hjl : j < l.length := (List.getElem?_eq_some_iff.1 hx).1
  have hl := h.len
  refine ⟨by rw [List.length_set]; exact h.len, by omega, ?_, ?_⟩
  · rw [keepC_at hx, if_neg he, ← h.low, List.take_add_one, List.getElem?_set_self (by omega), List.take_set_of_le (Nat.le_refl _)]
    rfl
  · rw [List.drop_set_of_lt (by omega)]
    have := congrArg (List.drop 1) h.high
    simpa [List.drop_drop, Nat.add_comm] using this

theorem tn_setCellsC {a : World} {g : Nat} : ∀ {w : World} (h : Tn [g] a w) (o : Nat) (vs : List Value), Tn [g] a (w.setCells g o vs)
  | w, h, o, [] => h
  | w, h, o, v :: r => tn_setCellsC (h.setCell (p := ⟨g, o, none⟩) (.inl (by simp)) v) (o + 1) r

/-- 'clear(s)' of commits. -/
theorem run_clear_cm (w : World) (ty : TypeId) (b o n c : Nat) (hn : 0 < n) (hc : ∀ j, j < n * 2 → (w.cell? ⟨b, o + j, none⟩).isSome = true) (hf : ∀ j, j < n * 2 → w.frozen? ⟨b, o + j, none⟩ = false) :
    ∃ vs, vs.length = n * 2 ∧ (Builtin.clear_ #[24] ty #[.slice (some ⟨b, o, none⟩) n c]).run Try.prog w = .ok (.tuple #[]) (w.setCells b o vs) := by
  have hv : ∀ w, (zeroValue 42).run Try.prog w = .ok (.agg #[.int .i64 0, .slice none 0 0]) w := fun w => by kernel_rfl
  obtain ⟨vs, hvs⟩ : ∃ vs, (Builtin.zeroCells (Value.agg #[.int .i64 0, .slice none 0 0]).cells n).toList = vs := ⟨_, rfl⟩
  have hlen : vs.length = n * 2 := by
    rw [← hvs]
    simp [Builtin.zeroCells, Value.cells]
  have hone : ∀ v ∈ vs, v.oneCell' = true := by
    intro v hv'
    rw [← hvs] at hv'
    simp [Builtin.zeroCells, Value.cells] at hv'
    obtain ⟨i, -, hi⟩ := hv'
    subst hi
    rcases Nat.mod_two_eq_zero_or_one i with e | e <;> rw [e] <;> rfl
  have hst := run_storeCells_cells (P := Try.prog) b o vs 0 w (by simpa [hlen] using hc) (by simpa [hlen] using hf) hone
  simp only [Nat.add_zero] at hst
  refine ⟨vs, hlen, ?_⟩
  obtain ⟨m, rfl⟩ : ∃ m, n = m + 1 := ⟨n - 1, by omega⟩
  simp only [Builtin.clear_]
  simp [run_underlying Try.underlying24, hv, hvs, hst]

theorem Own.rcm {t : TypeId} {w : World} {base g n c : Nat} {l : List Cm} (h : Own Cm.cells 2 t w base (.slice (some ⟨g, 0, none⟩) n c) l) (hn : l.length = n) : Rcm w g l := by
  subst hn
  intro i x hx
  have hi : i < l.length := (List.getElem?_eq_some_iff.1 hx).1
  have a0 := flat_at cmknd l i x hx 0 _ rfl
  have a1 := flat_at cmknd l i x hx 1 _ rfl
  have h0 := World.ownsRow.cellAt h (i * 2 + 0) (by omega)
  have h1 := World.ownsRow.cellAt h (i * 2 + 1) (by omega)
  rw [a0] at h0
  rw [a1] at h1
  exact ⟨⟨h0, h1⟩, World.ownsRow.frozenAt h _, World.ownsRow.frozenAt h _⟩

set_option maxHeartbeats 2000000 in
theorem delc_any (ts : Int) (B : Nat) (g n c : Nat) (l : List Cm) (w : World) (hr : Rcm w g l) (hn : l.length = n) (hg : g < w.heap.size) (hc : w.cell? ⟨B, 0, none⟩ = some (.int .i64 ts)) (hgB : g ≠ B) (hcap : c ≤ 9223372036854775807) (hle : n ≤ c) (hl : n ≤ 4398046511104) :
    Calls Try.prog 44 #[.slice (some ⟨g, 0, none⟩) n c, .func (.func 46) #[] #[.pointer (some ⟨B, 0, none⟩)]] w fun e w' =>
      e = .returned (.slice (some ⟨g, 0, none⟩) (keepC ts l).length c) ∧ Rcm w' g (keepC ts l) ∧ Tn [g] w w' := by
  have eg : ∀ args w, (callFunc 46 args).run Try.prog w = .ok (.enter 46 args) w := enters_of Try.func46 (by kernel_rfl) rfl
  have hidx := firstC_any ts B (some ⟨g, 0, none⟩) n c l w hc hn hr.els hl
  have HR : Hid (Rcm w g l) := hr
  have HG : Hid (g < w.heap.size ∧ g ≠ B) := ⟨hg, hgB⟩
  have HC : Hid (w.cell? ⟨B, 0, none⟩ = some (.int .i64 ts)) := hc
  have HN : Hid (l.length = n) := hn
  clear hr hn hg hc hgB
  go_enter Try.func44, Try.ntmps44
  go_wp2_with fail
  refine hidx.mono ?_
  rintro e w1 ⟨h1 | h1, hb1⟩
  · obtain ⟨rfl, hkl⟩ := h1
    have HF : Hid (keepC ts l = l) := hkl
    have HB1 : Hid (Below w.heap.size w w1) := hb1
    clear hkl hb1 hidx
    go_wp2
    go_ret
    refine ⟨?_, ?_, Tn.of_below HB1.out _⟩
    · rw [HF.out, HN.out]
      rfl
    · rw [HF.out]
      exact HR.out.below HB1.out HG.out.1
  · obtain ⟨k0, rfl, hk0, hkl⟩ := h1
    have hne1 : ((k0 : Int) == -1) = false := beq_eq_false_iff_ne.2 (by omega)
    have HD0 : Hid (DelC ts l k0 (k0 + 1) l) := ⟨rfl, by omega, hkl.symm, rfl⟩
    have HR1 : Hid (Rcm w1 g l) := HR.out.below hb1 HG.out.1
    have HT1 : Hid (Tn [g] w w1) := Tn.of_below hb1 _
    clear hkl hb1 hidx
    go_wp2_with fail
    go_loopw [5, 6, 7] (fun s5 s6 _ wr => ∃ (i j : Nat) (cur : List Cm), s5 = .int .i64 i ∧ s6 = .int .i64 j ∧ j ≤ n ∧ i < j ∧ Hid (DelC ts l i j cur) ∧ Hid (Rcm wr g cur) ∧ Hid (Tn [g] w wr)) (fun _ s6 _ _ => n - (intOf s6).toNat)
    case atStart => exact ⟨k0, k0 + 1, l, rfl, by go_num, by omega, by omega, HD0, HR1, HT1⟩
    case round =>
      obtain ⟨i, j, cur, rfl, rfl, hj, hij, HD, HRW, HT⟩ := hrel
      by_cases hlt : j < n
      · have hli : (j : Int) < (n : Int) := by omega
        have hjl : j < l.length := by have := HN.out; omega
        obtain ⟨x, hx1, hx2⟩ := HD.out.at hjl
        obtain ⟨⟨c0, c1⟩, -, -⟩ := HRW.out j x hx2
        have HX : Hid (l[j]? = some x) := hx1
        have hgw : g < wr.heap.size := HRW.out.lt hx2
        obtain ⟨x1, x2, x3, x4⟩ := x
        have HK5 : Hid (Bk (wr.alloc (.cells #[.int .i64 x1, .slice x2 x3 x4] 42)) wr.heap.size 42 #[.int .i64 x1, .slice x2 x3 x4]) := Bk.new _ _ _
        have HB5 : Hid (Below wr.heap.size wr (wr.alloc (.cells #[.int .i64 x1, .slice x2 x3 x4] 42))) := (Below.refl _ _).alloc (Nat.le_refl _) _
        have hBw : (wr.alloc (.cells #[.int .i64 x1, .slice x2 x3 x4] 42)).cell? ⟨B, 0, none⟩ = some (.int .i64 ts) := by
          have h0 : wr.cell? ⟨B, 0, none⟩ = some (.int .i64 ts) := by
            have hB := World.block_lt_of_cell? w _ HC.out
            have := HT.out.block B hB (by simp; exact fun e => HG.out.2 e.symm)
            have h0 := HC.out
            simp only [World.cell?, this] at h0 ⊢
            exact h0
          rw [HB5.out.cell (p := ⟨B, 0, none⟩) (World.block_lt_of_cell? wr _ h0)]
          exact h0
        have hcall := above_any ⟨x1, x2, x3, x4⟩ ts B _ hBw
        clear hx1 hx2
        by_cases he : ts < x1
        · rw [show decide (ts < (⟨x1, x2, x3, x4⟩ : Cm).ts) = true from decide_eq_true he] at hcall
          have HD2 : Hid (DelC ts l i (j + 1) cur) := HD.out.skip HX.out he
          clear hBw
          go_wp2_with (go_at_fn 46; refine hcall.mono ?_; rintro e w6 ⟨rfl, hb6⟩; refine Hid.out ?_)
          unfold Hid
          have HT6 : Hid (Tn [g] w w6) := (HT.out.trans (Tn.of_below HB5.out []) (by simp)).trans (Tn.of_below hb6 []) (by simp)
          have HRW6 : Hid (Rcm w6 g cur) := (HRW.out.below HB5.out hgw).below hb6 (by simp; omega)
          clear hb6 hcall HK5 HB5 c0 c1
          go_wp2
          go_roundw
          case rel => exact ⟨i, j + 1, cur, rfl, by go_num, by omega, by omega, HD2, HRW6, HT6⟩
          case measure => simp [intOf]; omega
        · rw [show decide (ts < (⟨x1, x2, x3, x4⟩ : Cm).ts) = false from decide_eq_false he] at hcall
          have HD2 : Hid (DelC ts l (i + 1) (j + 1) (cur.set i ⟨x1, x2, x3, x4⟩)) := HD.out.keep HX.out he
          clear hBw
          go_wp2_with (go_at_fn 46; refine hcall.mono ?_; rintro e w6 ⟨rfl, hb6⟩; refine Hid.out ?_)
          unfold Hid
          have HT6 : Hid (Tn [g] w w6) := (HT.out.trans (Tn.of_below HB5.out []) (by simp)).trans (Tn.of_below hb6 []) (by simp)
          have HRW6 : Hid (Rcm w6 g cur) := (HRW.out.below HB5.out hgw).below hb6 (by simp; omega)
          have HK6 : Hid (Bk w6 wr.heap.size 42 #[.int .i64 x1, .slice x2 x3 x4]) := HK5.out.below hb6 HK5.out.lt
          clear hb6 hcall HK5 HB5 c0 c1
          have hil : i < cur.length := by have := HD.out.len; have := HN.out; omega
          have hy := List.getElem?_eq_getElem hil
          obtain ⟨⟨d0, d1⟩, z0, z1⟩ := HRW6.out i _ hy
          have HRS : Hid (Rcm (wset w6 g i ⟨x1, x2, x3, x4⟩) g (cur.set i ⟨x1, x2, x3, x4⟩)) := HRW6.out.set i _ _ hy
          have HTS : Hid (Tn [g] w (wset w6 g i ⟨x1, x2, x3, x4⟩)) := wset_tn HT6.out _ _
          unfold wset at HRS HTS
          have e0 := HK6.out.cell 0
          have e1 := HK6.out.cell 1
          simp at e0 e1
          generalize cur[i] = y at d0 d1
          have hin : (i : Int) < (n : Int) := by omega
          clear hy hil
          go_wp2
          go_roundw
          case rel => exact ⟨i + 1, j + 1, _, by go_num, by go_num, by omega, by omega, HD2, HRS, HTS⟩
          case measure => simp [intOf]; omega
      · have hjn : j = n := by omega
        have hli : ¬ ((j : Int) < (n : Int)) := by omega
        subst hjn
        have hlen := HD.out.len
        have hnl := HN.out
        obtain ⟨vs, hvl, hcl⟩ : ∃ vs, vs.length = (j - i) * 2 ∧ ∀ ty, (Builtin.clear_ #[24] ty #[.slice (some ⟨g, i * 2, none⟩) (j - i) (c - i)]).run Try.prog wr = .ok (.tuple #[]) (wr.setCells g (i * 2) vs) := by
          obtain ⟨vs, h1, h2⟩ := run_clear_cm wr 0 g (i * 2) (j - i) (c - i) (by omega) (fun t ht => by
            have hq : i + t / 2 < cur.length := by omega
            have := (HRW.out _ _ (List.getElem?_eq_getElem hq)).1
            by_cases e : t = t / 2 * 2
            · rw [show i * 2 + t = (i + t / 2) * 2 by omega, this.1]; rfl
            · rw [show i * 2 + t = (i + t / 2) * 2 + 1 by omega, this.2]; rfl) (fun t ht => by
            have hq : i + t / 2 < cur.length := by omega
            have := (HRW.out _ _ (List.getElem?_eq_getElem hq)).2
            by_cases e : t = t / 2 * 2
            · rw [show i * 2 + t = (i + t / 2) * 2 by omega, this.1]
            · rw [show i * 2 + t = (i + t / 2) * 2 + 1 by omega, this.2])
          exact ⟨vs, h1, fun ty => h2⟩
        have HLOW : Hid (cur.take i = keepC ts l) := by
          unfold Hid
          rw [HD.out.low, List.take_of_length_le (by omega)]
        have HLEN : Hid ((keepC ts l).length = i) := by
          unfold Hid
          rw [← HLOW.out, List.length_take]
          omega
        have HRE : Hid (Rcm (wr.setCells g (i * 2) vs) g (keepC ts l)) := by
          intro k x hk
          have hki : k < i := by
            have := (List.getElem?_eq_some_iff.1 hk).1
            have := HLEN.out
            omega
          rw [← HLOW.out, List.getElem?_take, if_pos hki] at hk
          have := HRW.out k x hk
          rw [World.frozen?_setCells, World.frozen?_setCells, World.cell?_setCells_out _ _ _ _ _ (by intro _ _; left; show k * 2 < i * 2; omega), World.cell?_setCells_out _ _ _ _ _ (by intro _ _; left; show k * 2 + 1 < i * 2; omega)]
          exact this
        have HTE : Hid (Tn [g] w (wr.setCells g (i * 2) vs)) := tn_setCellsC HT.out _ _
        clear hlen hnl hvl
        go_wp2
        go_ret
        refine ⟨?_, HRE.out, HTE.out⟩
        rw [HLEN.out]
        rfl
end Go.Proofs.Ytilabcolfabnmaa
