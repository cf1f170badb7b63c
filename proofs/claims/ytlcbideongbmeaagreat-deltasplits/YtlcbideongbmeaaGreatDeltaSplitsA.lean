/- Steps of a draft: gapOf, remove, cut. -/
import Derived.Test.YtlcbideongbmeaaGreatPgF1
import Derived.Test.YtlcbideongbmeaaGreatPgB
import Derived.Test.YtlcbideongbmeaaGreatPgDel
import Derived.Test.YtlcbideongbmeaaGreatDlQ
import Derived.Test.YtlcbideongbmeaaGreatPgPu
import Derived.Test.YtlcbideongbmeaaGreatPgRm
import Derived.Test.YtlcbideongbmeaaGreatPgMm
import Derived.Test.YtlcbideongbmeaaGreatRgP
import Derived.Test.YtlcbideongbmeaaGreatPgMg
import Derived.Test.YtlcbideongbmeaaGreatRgM
import Derived.BigQuiet
import Derived.Test.YtlcbideongbmeaaGreatDrH
import Derived.Maps.AppendAt
import Derived.Sort.OwnSorted
import Derived.Lib.OwnBridge
import Derived.Shelf.SortM.Plain
import Derived.Shelf.SortM.SortNone
import Derived.Shelf.SlicesG.CompactS
import Derived.Test.YtlcbideongbmeaaGreatDrA
namespace Go.Proofs.YtlcbideongbmeaaGreat
open Go.RowKit Go.Sort
set_option linter.unusedVariables false
set_option maxRecDepth 100000

theorem flatE_set4 : ∀ (l : List En) (i : Nat) (x y : En), l[i]? = some y → flatE (l.set i x) = ((((flatE l).set (i * 4) (.string x.key)).set (i * 4 + 1) (.int .i64 x.s)).set (i * 4 + 2) (.int .i64 x.g)).set (i * 4 + 3) (.int .i64 x.c)
  | [], i, x, y, h => by simp at h
  | z :: r, 0, x, y, h => by
    simp [flatE, En.cells]
  | z :: r, i + 1, x, y, h => by
    simp only [List.getElem?_cons_succ] at h
    have := flatE_set4 r i x y h
    unfold flatE at this ⊢
    simp only [List.set_cons_succ, List.map_cons, List.flatten_cons, this]
    rw [List.set_append_right _ _ (by simp [En.cells]; omega), List.set_append_right _ _ (by simp [En.cells]; omega), List.set_append_right _ _ (by simp [En.cells]; omega), List.set_append_right _ _ (by simp [En.cells]; omega)]
    simp only [En.cells, List.length_cons, List.length_nil]
    rw [show (i + 1) * 4 - (0 + 1 + 1 + 1 + 1) = i * 4 by omega, show (i + 1) * 4 + 1 - (0 + 1 + 1 + 1 + 1) = i * 4 + 1 by omega, show (i + 1) * 4 + 2 - (0 + 1 + 1 + 1 + 1) = i * 4 + 2 by omega, show (i + 1) * 4 + 3 - (0 + 1 + 1 + 1 + 1) = i * 4 + 3 by omega]

/-- Four cells of a row written. -/
abbrev put4r (w : World) (g o : Nat) (a b c d : Value) : World := (((w.setCell ⟨g, o, none⟩ a).setCell ⟨g, o + 1, none⟩ b).setCell ⟨g, o + 2, none⟩ c).setCell ⟨g, o + 3, none⟩ d

theorem OwnE.set {w : World} {base g n c : Nat} {l : List En} (h : OwnE w base (.slice (some ⟨g, 0, none⟩) n c) l) (hn : l.length = n) (i : Nat) (x y : En) (hy : l[i]? = some y) :
    OwnE (put4r w g (i * 4) (.string x.key) (.int .i64 x.s) (.int .i64 x.g) (.int .i64 x.c)) base (.slice (some ⟨g, 0, none⟩) n c) (l.set i x) := by
  unfold OwnE at h ⊢
  rw [List.length_set, hn, flatE_set4 l i x y hy]
  rw [hn] at h
  exact ((((h.stored (i * 4) (.string x.key)).1.stored (i * 4 + 1) (.int .i64 x.s)).1.stored (i * 4 + 2) (.int .i64 x.g)).1.stored (i * 4 + 3) (.int .i64 x.c)).1

theorem OwnE.frozen {w : World} {base g n c : Nat} {l : List En} (h : OwnE w base (.slice (some ⟨g, 0, none⟩) n c) l) (k : Nat) : w.frozen? ⟨g, k, none⟩ = false := by
  rcases h.2 with ⟨hv, _⟩ | ⟨g', cap, cur, hv, hb, hg, _⟩
  · cases hv
  · cases hv
    simp [World.frozen?, hg]

theorem OwnE.base_le {w : World} {base g n c : Nat} {l : List En} (h : OwnE w base (.slice (some ⟨g, 0, none⟩) n c) l) : base ≤ g ∧ g < w.heap.size := by
  rcases h.2 with ⟨hv, _⟩ | ⟨g', cap, cur, hv, hb, hg, _⟩
  · cases hv
  · cases hv
    exact ⟨hb, (Array.getElem?_eq_some_iff.1 hg).1⟩

theorem OwnE.ensG {w : World} {base n c : Nat} {p : Option Addr} {l : List En} (h : OwnE w base (.slice p n c) l) : Ens w p l := by
  obtain ⟨q, c', hv, he, -⟩ := h.ens
  simp only [Value.slice.injEq] at hv
  obtain ⟨rfl, -, -⟩ := hv
  exact he

/-- How the row stands when j were looked at, and i of them kept. -/
structure DelE (pr : En → Bool) (l : List En) (i j : Nat) (cur : List En) : Prop where
  len : cur.length = l.length
  lt : i < j
  low : cur.take i = (l.take j).filter fun x => !pr x
  high : cur.drop j = l.drop j

section
variable {pr : En → Bool} {l cur : List En} {i j : Nat}
theorem DelE.at (h : DelE pr l i j cur) (hj : j < l.length) : ∃ x, l[j]? = some x ∧ cur[j]? = some x := by
  refine ⟨l[j], List.getElem?_eq_getElem hj, ?_⟩
  have := congrArg (fun m => m[0]?) h.high
  simp only [List.getElem?_drop, Nat.add_zero] at this
  rw [this, List.getElem?_eq_getElem hj]

theorem keep_at {x : En} (h : l[j]? = some x) : ((l.take (j + 1)).filter fun x => !pr x) = if pr x then (l.take j).filter (fun x => !pr x) else (l.take j).filter (fun x => !pr x) ++ [x] := by
  rw [List.take_add_one, h, List.filter_append]
  cases he : pr x <;> simp [he]

theorem DelE.skip (h : DelE pr l i j cur) {x : En} (hx : l[j]? = some x) (he : pr x = true) : DelE pr l i (j + 1) cur := by
  refine ⟨h.len, by have := h.lt; omega, ?_, ?_⟩
  · rw [keep_at hx, he, if_pos rfl]
    exact h.low
  · have := congrArg (List.drop 1) h.high
    simpa [List.drop_drop, Nat.add_comm] using this

theorem DelE.keep (h : DelE pr l i j cur) {x : En} (hx : l[j]? = some x) (he : pr x = false) : DelE pr l (i + 1) (j + 1) (cur.set i x) := by
  have hlt := h.lt
  have hjl : j < l.length := (List.getElem?_eq_some_iff.1 hx).1
  have hl := h.len
  refine ⟨by rw [List.length_set]; exact h.len, by omega, ?_, ?_⟩
  · rw [keep_at hx, he]
    simp only [Bool.false_eq_true, if_false]
    rw [← h.low, List.take_add_one, List.getElem?_set_self (by omega), List.take_set_of_le (Nat.le_refl _)]
    rfl
  · rw [List.drop_set_of_lt (by omega)]
    have := congrArg (List.drop 1) h.high
    simpa [List.drop_drop, Nat.add_comm] using this

theorem keep_none (h : l.any pr = false) : (l.filter fun x => !pr x) = l := by
  rw [List.filter_eq_self]
  intro x hx
  rw [List.any_eq_false] at h
  have := h x hx
  simpa using this

theorem DelE.start (h : l.any pr = true) : DelE pr l (l.findIdx pr) (l.findIdx pr + 1) l ∧ l.findIdx pr < l.length := by
  have hlt : l.findIdx pr < l.length := by
    rw [List.findIdx_lt_length]
    rw [List.any_eq_true] at h
    exact h
  refine ⟨⟨rfl, by omega, ?_, rfl⟩, hlt⟩
  have hx := List.getElem?_eq_getElem hlt
  have hp : pr l[l.findIdx pr] = true := List.findIdx_getElem
  rw [keep_at hx, hp, if_pos rfl, keep_none]
  rw [List.any_eq_false]
  intro x hm
  obtain ⟨k, hk, rfl⟩ := List.getElem_of_mem hm
  rw [List.getElem_take]
  have hk' : k < l.findIdx pr := by rw [List.length_take] at hk; omega
  have := List.not_of_lt_findIdx hk'
  simpa using this
end

/-- 'clear(s[i:])' and 's[:i]' of a row of the call's own. -/
theorem OwnE.cut {w : World} {base g n c : Nat} {l : List En} (h : OwnE w base (.slice (some ⟨g, 0, none⟩) n c) l) (hn : l.length = n) (i : Nat) (hi : i < n) (cc : Nat) :
    ∃ w', (∀ ty, (Builtin.clear_ #[22] ty #[.slice (some ⟨g, i * 4, none⟩) (n - i) cc]).run Tryz.prog w = .ok (.tuple #[]) w') ∧ OwnE w' base (.slice (some ⟨g, 0, none⟩) i c) (l.take i) ∧ Below base w w' := by
  obtain ⟨i0, hi1, hz0, hz1, hz2⟩ := en_info
  rcases h.2 with ⟨hv, _⟩ | ⟨g', cap, cur, hv, hb, hg, hle, hcm, hcur, htake⟩
  · cases hv
  · simp only [Value.slice.injEq, Option.some.injEq, Addr.mk.injEq, and_true] at hv
    obtain ⟨rfl, -, rfl⟩ := hv
    rw [hn] at htake hle
    obtain ⟨Z, hZ⟩ : ∃ Z, (Builtin.zeroCells (Value.agg #[.string ⟨#[]⟩, .int .i64 0, .int .i64 0, .int .i64 0]).cells (n - i)).toList = Z := ⟨_, rfl⟩
    have hzl : Z.length = (n - i) * 4 := by rw [← hZ]; simp [Builtin.zeroCells, Value.cells]
    have hzo : ∀ v ∈ Z, v.oneCell' = true := by
      intro v hv
      rw [← hZ] at hv
      simp only [Builtin.zeroCells, Value.cells, Array.toList_map, List.mem_map] at hv
      obtain ⟨t, -, rfl⟩ := hv
      have ht : t % 4 < 4 := Nat.mod_lt _ (by decide)
      show (#[Value.string ⟨#[]⟩, .int .i64 0, .int .i64 0, .int .i64 0][t % 4]!).oneCell' = true
      have : t % 4 = 0 ∨ t % 4 = 1 ∨ t % 4 = 2 ∨ t % 4 = 3 := by omega
      rcases this with e | e | e | e <;> rw [e] <;> rfl
    have hst := run_storeCells_at Tryz.prog g (i * 4) 30 Z 0 cur w hg (by rw [hzl, hcur]; omega) hzo
    refine ⟨w.setRow g (cur.toList.take (i * 4 + 0) ++ Z ++ cur.toList.drop (i * 4 + 0 + Z.length)).toArray, fun ty => ?_, ?_, ?_⟩
    · obtain ⟨m, hm⟩ : ∃ m, n - i = m + 1 := ⟨n - i - 1, by omega⟩
      rw [hm] at hZ ⊢
      simp only [Builtin.clear_]
      simp [run_underlying Tryz.underlying22, zeroValue, typeInfo, hi1, hz0, hZ]
      have hst' := hst
      simp only [Nat.add_zero] at hst'
      rw [hst', List.append_assoc]
      rfl
    · have hg2 := Bk.setRow (w := w) hg (cur.toList.take (i * 4 + 0) ++ Z ++ cur.toList.drop (i * 4 + 0 + Z.length)).toArray
      have hli : (l.take i).length = i := by rw [List.length_take]; omega
      refine ⟨by rw [hli, flatE_len, hli], .inr ⟨g, c, _, by rw [hli], hb, hg2, by rw [hli]; omega, hcm, ?_, ?_⟩⟩
      · simp [hzl, hcur]
        omega
      · have ht4 : (cur.toList.take (i * 4)).length = i * 4 := by rw [List.length_take, Array.length_toList, hcur]; omega
        rw [hli, List.append_assoc]
        simp only [Nat.add_zero]
        rw [List.take_append_of_le_length (by omega), List.take_of_length_le (by omega)]
        have := congrArg (List.take (i * 4)) htake
        rw [List.take_take, show min (i * 4) (n * 4) = i * 4 by omega, flatE_split l i, List.take_append_of_le_length (by rw [flatE_len, hli]; exact Nat.le_refl _)] at this
        rw [this]
        exact List.take_of_length_le (by rw [flatE_len, hli]; exact Nat.le_refl _)
    · have hbs : base ≤ w.heap.size := Nat.le_trans hb (Nat.le_of_lt (Array.getElem?_eq_some_iff.1 hg).1)
      exact (Tn.setRow (S := [g]) (g := g) (Tn.refl _ w) (.inl (by simp)) _).below hbs (by simpa using hb)

set_option maxHeartbeats 2000000 in
theorem deleteE_any (gf : Nat) (lb : Array Value) (pr : En → Bool) (eg : ∀ args w, (callFunc gf args).run Tryz.prog w = .ok (.enter gf args) w) (p : Option Addr) (n c : Nat) (l : List En) (base : Nat) (w : World) (hn : l.length = n) (ho : OwnE w base (.slice p n c) l) (hbase : base ≤ w.heap.size) (hl : n ≤ 4398046511104)
    (hT : ∀ (W : World) (x : En), Below base w W → Calls Tryz.prog gf (#[x.val] ++ lb) W fun e w' => e = .returned (.bool (pr x)) ∧ Below W.heap.size W w') :
    Calls Tryz.prog 83 #[.slice p n c, .func (.func gf) #[] lb] w fun e w' => ∃ v', e = .returned v' ∧ OwnE w' base v' (l.filter fun x => !pr x) ∧ Below base w w' := by
  have HT : Hid _ := hT
  have hens : Ens w p l := ho.ensG
  have hidx := idxE_any gf lb pr eg p n c l w (fun W x hb => hT W x (hb.mono hbase)) hn hens (by omega)
  have HIDX : Hid _ := hidx
  have HO : Hid (OwnE w base (.slice p n c) l) := ho
  have HN : Hid (l.length = n) := hn
  clear hT hidx ho hn hens
  obtain ⟨out, HOUT⟩ : ∃ out, Hid ((l.filter fun x => !pr x) = out) := ⟨_, rfl⟩
  rw [HOUT.out]
  cases hany : l.any pr with
  | false =>
    have HF : Hid (out = l) := by rw [Hid, ← HOUT.out]; exact keep_none hany
    have hi : Pg.idx pr l = -1 := by unfold Pg.idx; rw [hany]; rfl
    rw [hi] at HIDX
    go_enter Tryz.func83, Tryz.ntmps83
    go_wp2_with fail
    refine Calls.mono HIDX.out ?_
    rintro e w1 ⟨rfl, hb1⟩
    have HB1 : Hid (Below w.heap.size w w1) := hb1
    clear hb1
    go_wp2
    go_ret
    refine ⟨_, rfl, ?_, HB1.out.mono hbase⟩
    rw [HF.out]
    exact HO.out.below HB1.out (Nat.le_refl _)
  | true =>
    obtain ⟨hst, hk0⟩ := DelE.start hany
    have hi : Pg.idx pr l = (l.findIdx pr : Nat) := by unfold Pg.idx; rw [hany]; rfl
    rw [hi] at HIDX
    generalize l.findIdx pr = k0 at hst hk0 HIDX
    have HST : Hid (DelE pr l k0 (k0 + 1) l) := hst
    obtain ⟨g, rfl⟩ : ∃ g, p = some ⟨g, 0, none⟩ := by
      rcases HO.out.2 with ⟨hv, h0⟩ | ⟨g', cap, cur, hv, _⟩
      · omega
      · simp only [Value.slice.injEq] at hv
        exact ⟨g', hv.1⟩
    rw [HN.out] at hk0
    have hne1 : ((k0 : Int) == -1) = false := beq_eq_false_iff_ne.2 (by omega)
    have hcap : c ≤ 9223372036854775807 := by
      rcases HO.out.2 with ⟨hv, h0⟩ | ⟨g', cap, cur, hv, hb, hg, hle, hcm, hcur, htake⟩
      · cases hv
      · simp only [Value.slice.injEq] at hv
        have := hv.2.2
        unfold maxLen at hcm
        omega
    have hnc : n ≤ c := by
      rcases HO.out.2 with ⟨hv, h0⟩ | ⟨g', cap, cur, hv, hb, hg, hle, hcm, hcur, htake⟩
      · cases hv
      · simp only [Value.slice.injEq] at hv
        have := hv.2.2
        rw [HN.out] at hle
        omega
    clear hst hi
    go_enter Tryz.func83, Tryz.ntmps83
    go_wp2_with fail
    refine Calls.mono HIDX.out ?_
    rintro e w1 ⟨rfl, hb1⟩
    have HB1 : Hid (Below base w w1) := hb1.mono hbase
    have HO1 : Hid (OwnE w1 base (.slice (some ⟨g, 0, none⟩) n c) l) := HO.out.below hb1 (Nat.le_refl _)
    clear hb1 HIDX
    go_wp2_with fail
    go_loopw [5, 6, 7] (fun s5 s6 _ wr => ∃ (i j : Nat) (cur : List En), s5 = .int .i64 i ∧ s6 = .int .i64 j ∧ j ≤ n ∧ i < j ∧ Hid (DelE pr l i j cur) ∧ Hid (OwnE wr base (.slice (some ⟨g, 0, none⟩) n c) cur) ∧ Hid (Below base w wr)) (fun _ s6 _ _ => n - (intOf s6).toNat)
    case atStart => exact ⟨k0, k0 + 1, l, rfl, by go_num, by omega, by omega, HST, HO1, HB1⟩
    case round =>
      obtain ⟨i, j, cur, rfl, rfl, hj, hij, HD, HRW, HTW⟩ := hrel
      have HCN : Hid (cur.length = n) := HD.out.len.trans HN.out
      by_cases hlt : j < n
      · have hli : (j : Int) < (n : Int) := by omega
        have hjl : j < l.length := by have := HN.out; omega
        obtain ⟨x, hx1, hx2⟩ := HD.out.at hjl
        have hens := HRW.out.ensG
        obtain ⟨b, o, x', hbo, hx3, hblt, c0, c1, c2, c3⟩ := hens.at (j := j) (by have := HCN.out; omega)
        cases hbo
        rw [hx2] at hx3
        cases hx3
        simp only [Nat.zero_add] at c0 c1 c2 c3
        have HX : Hid (l[j]? = some x) := hx1
        obtain ⟨w5, hw5⟩ : ∃ w5, wr.alloc (.cells #[.string x.key, .int .i64 x.s, .int .i64 x.g, .int .i64 x.c] 30) = w5 := ⟨_, rfl⟩
        have HK5 : Hid (Bk w5 wr.heap.size 30 #[.string x.key, .int .i64 x.s, .int .i64 x.g, .int .i64 x.c]) := by rw [← hw5]; exact Bk.new _ _ _
        have HT5 : Hid (Below base w w5) := by rw [← hw5]; exact HTW.out.alloc (Nat.le_trans hbase HTW.out.size) _
        have HRW5 : Hid (OwnE w5 base (.slice (some ⟨g, 0, none⟩) n c) cur) := by rw [← hw5]; exact HRW.out.below ((Below.refl _ _).alloc (Nat.le_refl _) _) (Nat.le_refl _)
        have HGX : Hid (g ≠ wr.heap.size) := by have := HRW.out.base_le.2; unfold Hid; omega
        have e0 : w5.cell? ⟨wr.heap.size, 0, none⟩ = some (.string x.key) := HK5.out.cell 0
        have e1 : w5.cell? ⟨wr.heap.size, 1, none⟩ = some (.int .i64 x.s) := HK5.out.cell 1
        have e2 : w5.cell? ⟨wr.heap.size, 2, none⟩ = some (.int .i64 x.g) := HK5.out.cell 2
        have e3 : w5.cell? ⟨wr.heap.size, 3, none⟩ = some (.int .i64 x.c) := HK5.out.cell 3
        clear hx1 hx2 hens hblt
        go_wp2_with (go_at_fn gf; refine (HT.out w5 x HT5.out).mono ?_; rintro e w6 ⟨rfl, hb6⟩; refine Hid.out ?_)
        unfold Hid
        clear hw5
        have HT6 : Hid (Below base w w6) := HT5.out.trans (hb6.mono (Nat.le_trans hbase HT5.out.size))
        have HRW6 : Hid (OwnE w6 base (.slice (some ⟨g, 0, none⟩) n c) cur) := HRW5.out.below hb6 (Nat.le_refl _)
        have HK6 : Hid (Bk w6 wr.heap.size 30 #[.string x.key, .int .i64 x.s, .int .i64 x.g, .int .i64 x.c]) := HK5.out.below hb6 HK5.out.lt
        clear hb6 HK5 HT5 HRW5 c0 c1 c2 c3 e0 e1 e2 e3
        cases he : pr x with
        | true =>
          go_wp2
          go_roundw
          case rel => exact ⟨i, j + 1, cur, rfl, by go_num, by omega, by omega, HD.out.skip HX.out he, HRW6, HT6⟩
          case measure => simp [intOf]; omega
        | false =>
          have hil : i < cur.length := by have := HCN.out; omega
          obtain ⟨y, hy⟩ : ∃ y, cur[i]? = some y := ⟨_, List.getElem?_eq_getElem hil⟩
          have hens := HRW6.out.ensG
          obtain ⟨b, o, y', hbo, hy3, -, d0, d1, d2, d3⟩ := hens.at (j := i) hil
          cases hbo
          rw [hy] at hy3
          cases hy3
          simp only [Nat.zero_add] at d0 d1 d2 d3
          have z0 := HRW6.out.frozen (i * 4)
          have z1 := HRW6.out.frozen (i * 4 + 1)
          have z2 := HRW6.out.frozen (i * 4 + 2)
          have z3 := HRW6.out.frozen (i * 4 + 3)
          have HRS : Hid (OwnE (put4r w6 g (i * 4) (.string x.key) (.int .i64 x.s) (.int .i64 x.g) (.int .i64 x.c)) base (.slice (some ⟨g, 0, none⟩) n c) (cur.set i x)) := HRW6.out.set HCN.out i x y hy
          have hbg := HRW6.out.base_le.1
          have HTS : Hid (Below base w (put4r w6 g (i * 4) (.string x.key) (.int .i64 x.s) (.int .i64 x.g) (.int .i64 x.c))) := (((HT6.out.setCell hbg _).setCell hbg _).setCell hbg _).setCell hbg _
          have e0 : w6.cell? ⟨wr.heap.size, 0, none⟩ = some (.string x.key) := HK6.out.cell 0
          have e1 : w6.cell? ⟨wr.heap.size, 1, none⟩ = some (.int .i64 x.s) := HK6.out.cell 1
          have e2 : w6.cell? ⟨wr.heap.size, 2, none⟩ = some (.int .i64 x.g) := HK6.out.cell 2
          have e3 : w6.cell? ⟨wr.heap.size, 3, none⟩ = some (.int .i64 x.c) := HK6.out.cell 3
          have hin : (i : Int) < (n : Int) := by omega
          clear hy hil hens hbg
          go_wp2
          go_roundw
          case rel => exact ⟨i + 1, j + 1, cur.set i x, by go_num, by go_num, by omega, by omega, HD.out.keep HX.out he, HRS, HTS⟩
          case measure => simp [intOf]; omega
      · have hjn : j = n := by omega
        have hli : ¬ ((j : Int) < (n : Int)) := by omega
        subst hjn
        obtain ⟨w7, hcl, ho7, hb7⟩ := HRW.out.cut HCN.out i hij (c - i)
        have HLOW : Hid (cur.take i = out) := by
          rw [Hid, HD.out.low, List.take_of_length_le (by have := HN.out; omega)]
          exact HOUT.out
        have HO7 : Hid (OwnE w7 base (.slice (some ⟨g, 0, none⟩) i c) (cur.take i)) := ho7
        have HB7 : Hid (Below base w w7) := HTW.out.trans hb7
        clear ho7 hb7
        go_wp2
        go_ret
        refine ⟨_, rfl, ?_, HB7.out⟩
        rw [← HLOW.out]
        exact HO7.out

end Go.Proofs.YtlcbideongbmeaaGreat

namespace Go.Proofs.YtlcbideongbmeaaGreat
open Go.RowKit Go.Sort
set_option linter.unusedVariables false
set_option maxRecDepth 100000

/-- What comes of a call that may refuse: a page in memory of the call's own, or the panic that tells the error. -/
def Done (w : World) (out : Pp × Int) (e : Ending) (w' : World) : Prop :=
  ((out.2 = 0 ∧ ∃ v, e = .returned v ∧ PgAt w' w.heap.size v out.1) ∨ (out.2 ≠ 0 ∧ e = pan out.2)) ∧ Below w.heap.size w w'

theorem PgAt.pv {w : World} {base : Nat} {v : Value} {g : Pp} (h : PgAt w base v g) : ∃ p c, v = pgv g.leaf g.lo g.hi g.r p g.l.length c ∧ PgAt w base (pgv g.leaf g.lo g.hi g.r p g.l.length c) g := by
  obtain ⟨p, c, rfl, hs⟩ := h
  exact ⟨p, c, rfl, p, c, rfl, hs⟩

theorem PgAt.own {w : World} {base : Nat} {p : Option Addr} {n c : Nat} {leaf : Bool} {lo hi : ByteArray} {r : Int} {l : List En} (hn : l.length = n) (h : OwnE w base (.slice p n c) l) : PgAt w base (pgv leaf lo hi r p n c) ⟨leaf, lo, hi, r, l⟩ := by
  subst hn
  exact ⟨p, c, rfl, h.seg⟩

set_option maxHeartbeats 2000000 in
theorem without_any (pf : Bool) (plo phi : ByteArray) (pr : Int) (pp : Option Addr) (pn pc : Nat) (pl : List En) (key : ByteArray) (w : World) (hlen : pl.length = pn) (hx : Ens w pp pl) (hl : pn ≤ 3518437208782) (hp : pp = none → pn = 0) :
    Calls Tryz.prog 59 #[pgv pf plo phi pr pp pn pc, .string key] w fun e w' => Done w (if Ky.inn ⟨plo, phi⟩ key then (Dl.without ⟨pf, plo, phi, pr, pl⟩ key, 0) else (Pg.zero, 73)) e w' := by
  obtain ⟨out, HO⟩ : ∃ out : Pp × Int, Hid ((if Ky.inn ⟨plo, phi⟩ key then (Dl.without ⟨pf, plo, phi, pr, pl⟩ key, 0) else (Pg.zero, 73)) = out) := ⟨_, rfl⟩
  rw [HO.out]
  have HX : Hid (Ens w pp pl) := hx
  have HL : Hid (pl.length = pn) := hlen
  clear hx hlen
  obtain ⟨w0, hw0⟩ : ∃ w0, (w.alloc (.cells #[.bool pf, .string plo, .string phi, .int .i64 pr, .slice pp pn pc] 24)).alloc (.cells #[.bool false, .string ⟨#[]⟩, .string ⟨#[]⟩, .int .i64 0, .slice none 0 0] 24) = w0 := ⟨_, rfl⟩
  have HB0 : Hid (Below w.heap.size w w0) := by rw [← hw0]; exact ((Below.refl _ _).alloc (Nat.le_refl _) _).alloc (by simp) _
  have HK0 : Hid (Bk w0 w.heap.size 24 #[.bool pf, .string plo, .string phi, .int .i64 pr, .slice pp pn pc]) := by rw [← hw0]; exact (Bk.new _ _ _).alloc _
  have HR0 : Hid (Bk w0 (w.heap.size + 1) 24 #[.bool false, .string ⟨#[]⟩, .string ⟨#[]⟩, .int .i64 0, .slice none 0 0]) := by rw [← hw0]; exact Bk.new1 _ _ _ _
  have HS0 : Hid (w.heap.size + 1 < w0.heap.size) := HR0.out.lt
  have a0 : w0.cell? ⟨w.heap.size, 0, none⟩ = some (.bool pf) := HK0.out.cell 0
  have a1 : w0.cell? ⟨w.heap.size, 1, none⟩ = some (.string plo) := HK0.out.cell 1
  have a2 : w0.cell? ⟨w.heap.size, 2, none⟩ = some (.string phi) := HK0.out.cell 2
  have a3 : w0.cell? ⟨w.heap.size, 3, none⟩ = some (.int .i64 pr) := HK0.out.cell 3
  have a4 : w0.cell? ⟨w.heap.size, 4, none⟩ = some (.slice pp pn pc) := HK0.out.cell 4
  go_enter Tryz.func59, Tryz.ntmps59
  go_wp2_with fail
  clear hw0
  refine (has_any pf plo phi pr pp pn pc _ key).mono ?_
  rintro e w1 ⟨rfl, hb1⟩
  have HB1 : Hid (Below w.heap.size w w1) := HB0.out.trans (hb1.mono HB0.out.size)
  have HK1 : Hid (Bk w1 w.heap.size 24 #[.bool pf, .string plo, .string phi, .int .i64 pr, .slice pp pn pc]) := HK0.out.below hb1 HK0.out.lt
  have HR1 : Hid (Bk w1 (w.heap.size + 1) 24 #[.bool false, .string ⟨#[]⟩, .string ⟨#[]⟩, .int .i64 0, .slice none 0 0]) := HR0.out.below hb1 HR0.out.lt
  have HS1 : Hid (w.heap.size + 1 < w1.heap.size) := HR1.out.lt
  clear hb1
  clear a0 a1 a2 a3 a4
  cases hin : Ky.inn ⟨plo, phi⟩ key with
  | false =>
    have HF : Hid (out = (Pg.zero, 73)) := by rw [Hid, ← HO.out, hin]; rfl
    go_wp2
    refine ⟨rfl, ?_⟩
    rw [HF.out]
    exact ⟨.inr ⟨by decide, rfl⟩, HB1.out⟩
  | true =>
    have HF : Hid (out = (Dl.without ⟨pf, plo, phi, pr, pl⟩ key, 0)) := by rw [Hid, ← HO.out, hin]; rfl
    have a0 : w1.cell? ⟨w.heap.size, 0, none⟩ = some (.bool pf) := HK1.out.cell 0
    have a1 : w1.cell? ⟨w.heap.size, 1, none⟩ = some (.string plo) := HK1.out.cell 1
    have a2 : w1.cell? ⟨w.heap.size, 2, none⟩ = some (.string phi) := HK1.out.cell 2
    have a3 : w1.cell? ⟨w.heap.size, 3, none⟩ = some (.int .i64 pr) := HK1.out.cell 3
    have a4 : w1.cell? ⟨w.heap.size, 4, none⟩ = some (.slice pp pn pc) := HK1.out.cell 4
    go_wp2_with fail
    refine (remove_any pf plo phi pr pp pn pc pl key _ HL.out (HX.out.below HB1.out (Nat.le_refl _)) hl).mono ?_
    rintro e w2 ⟨v2, rfl, hg2, hb2⟩
    clear a0 a1 a2 a3 a4
    have HB2 : Hid (Below w.heap.size w w2) := HB1.out.trans (hb2.mono HB1.out.size)
    have HK2 : Hid (Bk w2 w.heap.size 24 #[.bool pf, .string plo, .string phi, .int .i64 pr, .slice pp pn pc]) := HK1.out.below hb2 HK1.out.lt
    have HR2 : Hid (Bk w2 (w.heap.size + 1) 24 #[.bool false, .string ⟨#[]⟩, .string ⟨#[]⟩, .int .i64 0, .slice none 0 0]) := HR1.out.below hb2 HR1.out.lt
    cases hq : pl.any (Pg.is key) with
    | true =>
      have hrm : Pg.remove ⟨pf, plo, phi, pr, pl⟩ key = (Dl.without ⟨pf, plo, phi, pr, pl⟩ key, 0) := by unfold Pg.remove Dl.without; simp only [hq, if_true]
      rw [hrm] at hg2 ⊢
      generalize Dl.without ⟨pf, plo, phi, pr, pl⟩ key = G at *
      obtain ⟨Gf, Glo, Ghi, Gr, Gl⟩ := G
      obtain ⟨Gp, Gc, rfl, hg3⟩ := hg2.pv
      simp only at hg3 ⊢
      obtain ⟨Gn, hGn⟩ : ∃ Gn, Gl.length = Gn := ⟨_, rfl⟩
      rw [hGn] at hg3 ⊢
      have HG : Hid (PgAt w2 w1.heap.size (pgv Gf Glo Ghi Gr Gp Gn Gc) ⟨Gf, Glo, Ghi, Gr, Gl⟩) := hg3
      clear hg2 hg3 hb2 hrm hq hin hGn
      obtain ⟨w3, hw3⟩ : ∃ w3, w2.alloc (.cells #[.bool Gf, .string Glo, .string Ghi, .int .i64 Gr, .slice Gp Gn Gc] 24) = w3 := ⟨_, rfl⟩
      have HB3 : Hid (Below w.heap.size w w3) := by rw [← hw3]; exact HB2.out.alloc HB2.out.size _
      have HR3 : Hid (Bk w3 (w.heap.size + 1) 24 #[.bool false, .string ⟨#[]⟩, .string ⟨#[]⟩, .int .i64 0, .slice none 0 0]) := by rw [← hw3]; exact HR2.out.alloc _
      have HQ3 : Hid (Bk w3 w2.heap.size 24 #[.bool Gf, .string Glo, .string Ghi, .int .i64 Gr, .slice Gp Gn Gc]) := by rw [← hw3]; exact Bk.new _ _ _
      have HG3 : Hid (PgAt w3 w1.heap.size (pgv Gf Glo Ghi Gr Gp Gn Gc) ⟨Gf, Glo, Ghi, Gr, Gl⟩) := by rw [← hw3]; exact HG.out.below ((Below.refl _ _).alloc (Nat.le_refl _) _) (Nat.le_refl _)
      have hne : w2.heap.size ≠ w.heap.size + 1 := by have := HR2.out.lt; omega
      have q0 : w3.cell? ⟨w2.heap.size, 0, none⟩ = some (.bool Gf) := HQ3.out.cell 0
      have q1 : w3.cell? ⟨w2.heap.size, 1, none⟩ = some (.string Glo) := HQ3.out.cell 1
      have q2 : w3.cell? ⟨w2.heap.size, 2, none⟩ = some (.string Ghi) := HQ3.out.cell 2
      have q3 : w3.cell? ⟨w2.heap.size, 3, none⟩ = some (.int .i64 Gr) := HQ3.out.cell 3
      have q4 : w3.cell? ⟨w2.heap.size, 4, none⟩ = some (.slice Gp Gn Gc) := HQ3.out.cell 4
      have b0 : w3.cell? ⟨w.heap.size + 1, 0, none⟩ = some (.bool false) := HR3.out.cell 0
      have bf0 : w3.frozen? ⟨w.heap.size + 1, 0, none⟩ = false := HR3.out.frozen 0
      have b1 : w3.cell? ⟨w.heap.size + 1, 1, none⟩ = some (.string ⟨#[]⟩) := HR3.out.cell 1
      have bf1 : w3.frozen? ⟨w.heap.size + 1, 1, none⟩ = false := HR3.out.frozen 1
      have b2 : w3.cell? ⟨w.heap.size + 1, 2, none⟩ = some (.string ⟨#[]⟩) := HR3.out.cell 2
      have bf2 : w3.frozen? ⟨w.heap.size + 1, 2, none⟩ = false := HR3.out.frozen 2
      have b3 : w3.cell? ⟨w.heap.size + 1, 3, none⟩ = some (.int .i64 0) := HR3.out.cell 3
      have bf3 : w3.frozen? ⟨w.heap.size + 1, 3, none⟩ = false := HR3.out.frozen 3
      have b4 : w3.cell? ⟨w.heap.size + 1, 4, none⟩ = some (.slice none 0 0) := HR3.out.cell 4
      have bf4 : w3.frozen? ⟨w.heap.size + 1, 4, none⟩ = false := HR3.out.frozen 4
      go_wp2
      clear q0 q1 q2 q3 q4
      clear b0 bf0 b1 bf1 b2 bf2 b3 bf3 b4 bf4
      have k1 := HR3.out.five (.bool Gf) (.string Glo) (.string Ghi) (.int .i64 Gr) (.slice Gp Gn Gc)
      have ht : Tn [w.heap.size + 1] w3 _ := (Tn.refl _ w3).five (R := w.heap.size + 1) (.inl (by simp)) (.bool Gf) (.string Glo) (.string Ghi) (.int .i64 Gr) (.slice Gp Gn Gc)
      refine bodyPost_ret (results_one (T' := 24) (cs := [.bool Gf, .string Glo, .string Ghi, .int .i64 Gr, .slice Gp Gn Gc]) rfl rfl pg_agg pg_size rfl k1) rfl ?_
      rw [HF.out]
      exact ⟨.inl ⟨rfl, _, rfl, (HG3.out.tn ht (by have := HS1.out; simp; omega)).mono HB1.out.size⟩, HB3.out.trans (ht.below HB3.out.size (by simp))⟩
    | false =>
      have hrm : Pg.remove ⟨pf, plo, phi, pr, pl⟩ key = (Pg.zero, 4) := by unfold Pg.remove; simp only [hq]; rfl
      have HWQ : Hid (Dl.without ⟨pf, plo, phi, pr, pl⟩ key = ⟨pf, plo, phi, pr, pl⟩) := by unfold Hid Dl.without; simp only [hq]; rfl
      rw [hrm] at hg2 ⊢
      obtain ⟨Gp, Gc, rfl, hg3⟩ := hg2.pv
      simp only [List.length_nil] at hg3 ⊢
      clear hg2 hb2 hrm hq hin hg3
      obtain ⟨w3, hw3⟩ : ∃ w3, w2.alloc (.cells #[.bool false, .string ⟨#[]⟩, .string ⟨#[]⟩, .int .i64 0, .slice Gp 0 Gc] 24) = w3 := ⟨_, rfl⟩
      have HB3 : Hid (Below w.heap.size w w3) := by rw [← hw3]; exact HB2.out.alloc HB2.out.size _
      have HR3 : Hid (Bk w3 (w.heap.size + 1) 24 #[.bool false, .string ⟨#[]⟩, .string ⟨#[]⟩, .int .i64 0, .slice none 0 0]) := by rw [← hw3]; exact HR2.out.alloc _
      have HK3 : Hid (Bk w3 w.heap.size 24 #[.bool pf, .string plo, .string phi, .int .i64 pr, .slice pp pn pc]) := by rw [← hw3]; exact HK2.out.alloc _
      have a0 : w3.cell? ⟨w.heap.size, 0, none⟩ = some (.bool pf) := HK3.out.cell 0
      have a1 : w3.cell? ⟨w.heap.size, 1, none⟩ = some (.string plo) := HK3.out.cell 1
      have a2 : w3.cell? ⟨w.heap.size, 2, none⟩ = some (.string phi) := HK3.out.cell 2
      have a3 : w3.cell? ⟨w.heap.size, 3, none⟩ = some (.int .i64 pr) := HK3.out.cell 3
      have a4 : w3.cell? ⟨w.heap.size, 4, none⟩ = some (.slice pp pn pc) := HK3.out.cell 4
      go_wp2_with fail
      refine (pclone_any pf plo phi pr pp pn pc pl _ HL.out (HX.out.below HB3.out (Nat.le_refl _)) hl hp).mono ?_
      rintro e w4 ⟨qp, qc, rfl, ho4, hb4⟩
      clear a0 a1 a2 a3 a4
      have HO4 : Hid (OwnE w4 w3.heap.size (.slice qp pn qc) pl) := ho4
      have HB4 : Hid (Below w.heap.size w w4) := HB3.out.trans (hb4.mono HB3.out.size)
      have HR4 : Hid (Bk w4 (w.heap.size + 1) 24 #[.bool false, .string ⟨#[]⟩, .string ⟨#[]⟩, .int .i64 0, .slice none 0 0]) := HR3.out.below hb4 HR3.out.lt
      have HS3 : Hid (w.heap.size + 1 < w3.heap.size) := HR3.out.lt
      clear ho4 hb4
      have b0 : w4.cell? ⟨w.heap.size + 1, 0, none⟩ = some (.bool false) := HR4.out.cell 0
      have bf0 : w4.frozen? ⟨w.heap.size + 1, 0, none⟩ = false := HR4.out.frozen 0
      have b1 : w4.cell? ⟨w.heap.size + 1, 1, none⟩ = some (.string ⟨#[]⟩) := HR4.out.cell 1
      have bf1 : w4.frozen? ⟨w.heap.size + 1, 1, none⟩ = false := HR4.out.frozen 1
      have b2 : w4.cell? ⟨w.heap.size + 1, 2, none⟩ = some (.string ⟨#[]⟩) := HR4.out.cell 2
      have bf2 : w4.frozen? ⟨w.heap.size + 1, 2, none⟩ = false := HR4.out.frozen 2
      have b3 : w4.cell? ⟨w.heap.size + 1, 3, none⟩ = some (.int .i64 0) := HR4.out.cell 3
      have bf3 : w4.frozen? ⟨w.heap.size + 1, 3, none⟩ = false := HR4.out.frozen 3
      have b4 : w4.cell? ⟨w.heap.size + 1, 4, none⟩ = some (.slice none 0 0) := HR4.out.cell 4
      have bf4 : w4.frozen? ⟨w.heap.size + 1, 4, none⟩ = false := HR4.out.frozen 4
      go_wp2
      clear b0 bf0 b1 bf1 b2 bf2 b3 bf3 b4 bf4
      have k1 := HR4.out.five (.bool pf) (.string plo) (.string phi) (.int .i64 pr) (.slice qp pn qc)
      have ht : Tn [w.heap.size + 1] w4 _ := (Tn.refl _ w4).five (R := w.heap.size + 1) (.inl (by simp)) (.bool pf) (.string plo) (.string phi) (.int .i64 pr) (.slice qp pn qc)
      refine bodyPost_ret (results_one (T' := 24) (cs := [.bool pf, .string plo, .string phi, .int .i64 pr, .slice qp pn qc]) rfl rfl pg_agg pg_size rfl k1) rfl ?_
      rw [HF.out, HWQ.out]
      exact ⟨.inl ⟨rfl, _, rfl, PgAt.own HL.out ((HO4.out.tn ht (by have := HS3.out; simp; omega)).mono HB3.out.size)⟩, HB4.out.trans (ht.below HB4.out.size (by simp))⟩

theorem upTo1_any (key : ByteArray) (B base : Nat) (w : World) (hk : Bk w B 9 #[.string key]) (hB : B < base) (W : World) (x : En) (hb : Below base w W) :
    Calls Tryz.prog 84 (#[x.val] ++ #[.pointer (some ⟨B, 0, none⟩)]) W fun e w' => e = .returned (.bool (!Ky.lt x.key key)) ∧ Below W.heap.size W w' := by
  have hk' : Bk W B 9 #[.string key] := (hb.block B hB).trans hk
  have c0 : W.cell? ⟨B, 0, none⟩ = some (.string key) := hk'.cell 0
  have hlt := hk'.lt
  have hne : B ≠ W.heap.size := by omega
  have HB : Hid (Below W.heap.size W (W.alloc (.cells #[.string x.key, .int .i64 x.s, .int .i64 x.g, .int .i64 x.c] 30))) := (Below.refl _ _).alloc (Nat.le_refl _) _
  have c1 : (W.alloc (.cells #[.string x.key, .int .i64 x.s, .int .i64 x.g, .int .i64 x.c] 30)).cell? ⟨B, 0, none⟩ = some (.string key) := (hk'.alloc _).cell 0
  show Calls Tryz.prog 84 #[x.val, .pointer (some ⟨B, 0, none⟩)] W _
  go_enter Tryz.func84, Tryz.ntmps84
  go_wp2
  go_ret
  exact ⟨rfl, HB.out⟩

set_option maxHeartbeats 2000000 in
theorem upTo_any (pf : Bool) (plo phi : ByteArray) (pr : Int) (pp : Option Addr) (pn pc : Nat) (pl : List En) (key : ByteArray) (r : Int) (w : World) (hlen : pl.length = pn) (hx : Ens w pp pl) (hl : pn ≤ 3518437208782) (hp : pp = none → pn = 0) :
    Calls Tryz.prog 60 #[pgv pf plo phi pr pp pn pc, .string key, .int .i64 r] w fun e w' => Done w (if Ky.lt plo key && Ky.inn ⟨plo, phi⟩ key then (Dl.upTo ⟨pf, plo, phi, pr, pl⟩ key r, 0) else (Pg.zero, 90)) e w' := by
  have hmf : ∀ (fn : Fn) (first cap : Array Value) (w : World), (Instr.makeFunc fn first cap).run Tryz.prog w = .ok (.func fn first cap) w := fun _ _ _ _ => rfl
  have eg : ∀ args w, (callFunc 84 args).run Tryz.prog w = .ok (.enter 84 args) w := enters_of Tryz.func84 (by kernel_rfl) rfl
  obtain ⟨out, HO⟩ : ∃ out : Pp × Int, Hid ((if Ky.lt plo key && Ky.inn ⟨plo, phi⟩ key then (Dl.upTo ⟨pf, plo, phi, pr, pl⟩ key r, 0) else (Pg.zero, 90)) = out) := ⟨_, rfl⟩
  rw [HO.out]
  have HX : Hid (Ens w pp pl) := hx
  have HL : Hid (pl.length = pn) := hlen
  clear hx hlen
  obtain ⟨w0, hw0⟩ : ∃ w0, ((w.alloc (.cells #[.bool pf, .string plo, .string phi, .int .i64 pr, .slice pp pn pc] 24)).alloc (.cells #[.string key] 9)).alloc (.cells #[.bool false, .string ⟨#[]⟩, .string ⟨#[]⟩, .int .i64 0, .slice none 0 0] 24) = w0 := ⟨_, rfl⟩
  have HB0 : Hid (Below w.heap.size w w0) := by rw [← hw0]; exact (((Below.refl _ _).alloc (Nat.le_refl _) _).alloc (by simp) _).alloc (by simp; omega) _
  have HK0 : Hid (Bk w0 w.heap.size 24 #[.bool pf, .string plo, .string phi, .int .i64 pr, .slice pp pn pc]) := by rw [← hw0]; exact ((Bk.new _ _ _).alloc _).alloc _
  have HY0 : Hid (Bk w0 (w.heap.size + 1) 9 #[.string key]) := by rw [← hw0]; exact (Bk.new1 _ _ _ _).alloc _
  have HR0 : Hid (Bk w0 (w.heap.size + 1 + 1) 24 #[.bool false, .string ⟨#[]⟩, .string ⟨#[]⟩, .int .i64 0, .slice none 0 0]) := by rw [← hw0]; exact Bk.new2 _ _ _ _ _
  have a0 : w0.cell? ⟨w.heap.size, 0, none⟩ = some (.bool pf) := HK0.out.cell 0
  have a1 : w0.cell? ⟨w.heap.size, 1, none⟩ = some (.string plo) := HK0.out.cell 1
  have a2 : w0.cell? ⟨w.heap.size, 2, none⟩ = some (.string phi) := HK0.out.cell 2
  have a3 : w0.cell? ⟨w.heap.size, 3, none⟩ = some (.int .i64 pr) := HK0.out.cell 3
  have a4 : w0.cell? ⟨w.heap.size, 4, none⟩ = some (.slice pp pn pc) := HK0.out.cell 4
  have y0 : w0.cell? ⟨w.heap.size + 1, 0, none⟩ = some (.string key) := HY0.out.cell 0
  go_enter Tryz.func60, Tryz.ntmps60
  cases hlo : Ky.lt plo key with
  | false =>
    have HF : Hid (out = (Pg.zero, 90)) := by rw [Hid, ← HO.out, hlo]; rfl
    have hle : (Op.bytesLess key.toList plo.toList || key.toList == plo.toList) = true := by rw [Ky.leq_iff]; show (!Ky.lt plo key) = true; rw [hlo]; rfl
    clear HO hlo
    go_wp2
    clear hw0
    refine ⟨rfl, ?_⟩
    rw [HF.out]
    exact ⟨.inr ⟨by decide, rfl⟩, HB0.out⟩
  | true =>
    have hle : (Op.bytesLess key.toList plo.toList || key.toList == plo.toList) = false := by rw [Ky.leq_iff]; show (!Ky.lt plo key) = false; rw [hlo]; rfl
    have HO2 : Hid ((if Ky.inn ⟨plo, phi⟩ key then (Dl.upTo ⟨pf, plo, phi, pr, pl⟩ key r, 0) else (Pg.zero, 90)) = out) := by rw [Hid, ← HO.out, hlo]; rfl
    clear HO hlo
    go_wp2_with fail
    clear hw0
    refine (has_any pf plo phi pr pp pn pc _ key).mono ?_
    rintro e w1 ⟨rfl, hb1⟩
    have HB1 : Hid (Below w.heap.size w w1) := HB0.out.trans (hb1.mono HB0.out.size)
    have HK1 : Hid (Bk w1 w.heap.size 24 #[.bool pf, .string plo, .string phi, .int .i64 pr, .slice pp pn pc]) := HK0.out.below hb1 HK0.out.lt
    have HY1 : Hid (Bk w1 (w.heap.size + 1) 9 #[.string key]) := HY0.out.below hb1 HY0.out.lt
    have HR1 : Hid (Bk w1 (w.heap.size + 1 + 1) 24 #[.bool false, .string ⟨#[]⟩, .string ⟨#[]⟩, .int .i64 0, .slice none 0 0]) := HR0.out.below hb1 HR0.out.lt
    have HS1 : Hid (w.heap.size + 1 + 1 < w1.heap.size) := HR1.out.lt
    clear hb1 y0
    clear a0 a1 a2 a3 a4
    cases hin : Ky.inn ⟨plo, phi⟩ key with
    | false =>
      have HF : Hid (out = (Pg.zero, 90)) := by rw [Hid, ← HO2.out, hin]; rfl
      go_wp2
      refine ⟨rfl, ?_⟩
      rw [HF.out]
      exact ⟨.inr ⟨by decide, rfl⟩, HB1.out⟩
    | true =>
      have HF : Hid (out = (Dl.upTo ⟨pf, plo, phi, pr, pl⟩ key r, 0)) := by rw [Hid, ← HO2.out, hin]; rfl
      clear HO2 hin
      have a0 : w1.cell? ⟨w.heap.size, 0, none⟩ = some (.bool pf) := HK1.out.cell 0
      have a1 : w1.cell? ⟨w.heap.size, 1, none⟩ = some (.string plo) := HK1.out.cell 1
      have a2 : w1.cell? ⟨w.heap.size, 2, none⟩ = some (.string phi) := HK1.out.cell 2
      have a3 : w1.cell? ⟨w.heap.size, 3, none⟩ = some (.int .i64 pr) := HK1.out.cell 3
      have a4 : w1.cell? ⟨w.heap.size, 4, none⟩ = some (.slice pp pn pc) := HK1.out.cell 4
      go_wp2_with fail
      refine (pclone_any pf plo phi pr pp pn pc pl _ HL.out (HX.out.below HB1.out (Nat.le_refl _)) hl hp).mono ?_
      rintro e w2 ⟨qp, qc, rfl, ho2, hb2⟩
      clear a0 a1 a2 a3 a4
      have HO2 : Hid (OwnE w2 w1.heap.size (.slice qp pn qc) pl) := ho2
      have HB2 : Hid (Below w.heap.size w w2) := HB1.out.trans (hb2.mono HB1.out.size)
      have HBB2 : Hid (w1.heap.size ≤ w2.heap.size) := hb2.size
      have HK2 : Hid (Bk w2 w.heap.size 24 #[.bool pf, .string plo, .string phi, .int .i64 pr, .slice pp pn pc]) := HK1.out.below hb2 HK1.out.lt
      have HY2 : Hid (Bk w2 (w.heap.size + 1) 9 #[.string key]) := HY1.out.below hb2 HY1.out.lt
      have HR2 : Hid (Bk w2 (w.heap.size + 1 + 1) 24 #[.bool false, .string ⟨#[]⟩, .string ⟨#[]⟩, .int .i64 0, .slice none 0 0]) := HR1.out.below hb2 HR1.out.lt
      clear ho2 hb2
      obtain ⟨w3, hw3⟩ : ∃ w3, put5 w2 w.heap.size (.bool pf) (.string plo) (.string phi) (.int .i64 pr) (.slice qp pn qc) = w3 := ⟨_, rfl⟩
      have ht3 : Tn [w.heap.size] w2 w3 := by rw [← hw3]; exact (Tn.refl _ w2).five (.inl (by simp)) _ _ _ _ _
      have HK3 : Hid (Bk w3 w.heap.size 24 #[.bool pf, .string plo, .string phi, .int .i64 pr, .slice qp pn qc]) := by rw [← hw3]; exact HK2.out.five _ _ _ _ _
      have HY3 : Hid (Bk w3 (w.heap.size + 1) 9 #[.string key]) := HY2.out.tn ht3 (by simp)
      have HR3 : Hid (Bk w3 (w.heap.size + 1 + 1) 24 #[.bool false, .string ⟨#[]⟩, .string ⟨#[]⟩, .int .i64 0, .slice none 0 0]) := HR2.out.tn ht3 (by simp; try omega)
      have HO3 : Hid (OwnE w3 w1.heap.size (.slice qp pn qc) pl) := HO2.out.tn ht3 (by have := HS1.out; simp; omega)
      have HB3 : Hid (Below w.heap.size w w3) := HB2.out.trans (ht3.below HB2.out.size (by simp))
      have HBB3 : Hid (w1.heap.size ≤ w3.heap.size) := Nat.le_trans HBB2.out ht3.size
      have a0 : w2.cell? ⟨w.heap.size, 0, none⟩ = some (.bool pf) := HK2.out.cell 0
      have af0 : w2.frozen? ⟨w.heap.size, 0, none⟩ = false := HK2.out.frozen 0
      have a1 : w2.cell? ⟨w.heap.size, 1, none⟩ = some (.string plo) := HK2.out.cell 1
      have af1 : w2.frozen? ⟨w.heap.size, 1, none⟩ = false := HK2.out.frozen 1
      have a2 : w2.cell? ⟨w.heap.size, 2, none⟩ = some (.string phi) := HK2.out.cell 2
      have af2 : w2.frozen? ⟨w.heap.size, 2, none⟩ = false := HK2.out.frozen 2
      have a3 : w2.cell? ⟨w.heap.size, 3, none⟩ = some (.int .i64 pr) := HK2.out.cell 3
      have af3 : w2.frozen? ⟨w.heap.size, 3, none⟩ = false := HK2.out.frozen 3
      have a4 : w2.cell? ⟨w.heap.size, 4, none⟩ = some (.slice pp pn pc) := HK2.out.cell 4
      have af4 : w2.frozen? ⟨w.heap.size, 4, none⟩ = false := HK2.out.frozen 4
      unfold put5 at hw3
      have b4 : w3.cell? ⟨w.heap.size, 4, none⟩ = some (.slice qp pn qc) := HK3.out.cell 4
      go_wp2_with fail
      clear hw3 ht3
      clear a0 af0 a1 af1 a2 af2 a3 af3 a4 af4
      refine (deleteE_any 84 #[.pointer (some ⟨w.heap.size + 1, 0, none⟩)] (fun x => !Ky.lt x.key key) eg qp pn qc pl w1.heap.size w3 HL.out HO3.out HBB3.out (by omega) (fun W x hb => upTo1_any key (w.heap.size + 1) w1.heap.size w3 HY3.out (by have := HS1.out; omega) W x hb)).mono ?_
      rintro e w4 ⟨v4, rfl, ho4, hb4⟩
      obtain ⟨fp, fc, rfl, -, -⟩ := ho4.ens
      have HFL : Hid ((pl.filter fun x => !(!Ky.lt x.key key)) = pl.filter fun x => Ky.lt x.key key) := by unfold Hid; simp
      rw [HFL.out] at ho4 ⊢
      obtain ⟨fl, hfl⟩ : ∃ fl, (pl.filter fun x => Ky.lt x.key key) = fl := ⟨_, rfl⟩
      have HFF : Hid (Dl.upTo ⟨pf, plo, phi, pr, pl⟩ key r = ⟨pf, plo, key, r, fl⟩) := by rw [Hid, ← hfl]; rfl
      rw [hfl] at ho4 ⊢
      obtain ⟨fn, hfn⟩ : ∃ fn, fl.length = fn := ⟨_, rfl⟩
      rw [hfn] at ho4 ⊢
      have HFN : Hid (fl.length = fn) := hfn
      have HO4 : Hid (OwnE w4 w1.heap.size (.slice fp fn fc) fl) := ho4
      have HB4 : Hid (Below w.heap.size w w4) := HB3.out.trans (hb4.mono HB1.out.size)
      have HK4 : Hid (Bk w4 w.heap.size 24 #[.bool pf, .string plo, .string phi, .int .i64 pr, .slice qp pn qc]) := (hb4.block _ (by have := HS1.out; omega)).trans HK3.out
      have HY4 : Hid (Bk w4 (w.heap.size + 1) 9 #[.string key]) := (hb4.block _ (by have := HS1.out; omega)).trans HY3.out
      have HR4 : Hid (Bk w4 (w.heap.size + 1 + 1) 24 #[.bool false, .string ⟨#[]⟩, .string ⟨#[]⟩, .int .i64 0, .slice none 0 0]) := (hb4.block _ HS1.out).trans HR3.out
      clear ho4 hb4 b4 hfl hfn HFL
      have a0 : w4.cell? ⟨w.heap.size, 0, none⟩ = some (.bool pf) := HK4.out.cell 0
      have af0 : w4.frozen? ⟨w.heap.size, 0, none⟩ = false := HK4.out.frozen 0
      have a1 : w4.cell? ⟨w.heap.size, 1, none⟩ = some (.string plo) := HK4.out.cell 1
      have af1 : w4.frozen? ⟨w.heap.size, 1, none⟩ = false := HK4.out.frozen 1
      have a2 : w4.cell? ⟨w.heap.size, 2, none⟩ = some (.string phi) := HK4.out.cell 2
      have af2 : w4.frozen? ⟨w.heap.size, 2, none⟩ = false := HK4.out.frozen 2
      have a3 : w4.cell? ⟨w.heap.size, 3, none⟩ = some (.int .i64 pr) := HK4.out.cell 3
      have af3 : w4.frozen? ⟨w.heap.size, 3, none⟩ = false := HK4.out.frozen 3
      have a4 : w4.cell? ⟨w.heap.size, 4, none⟩ = some (.slice qp pn qc) := HK4.out.cell 4
      have af4 : w4.frozen? ⟨w.heap.size, 4, none⟩ = false := HK4.out.frozen 4
      have b0 : w4.cell? ⟨w.heap.size + 1 + 1, 0, none⟩ = some (.bool false) := HR4.out.cell 0
      have bf0 : w4.frozen? ⟨w.heap.size + 1 + 1, 0, none⟩ = false := HR4.out.frozen 0
      have b1 : w4.cell? ⟨w.heap.size + 1 + 1, 1, none⟩ = some (.string ⟨#[]⟩) := HR4.out.cell 1
      have bf1 : w4.frozen? ⟨w.heap.size + 1 + 1, 1, none⟩ = false := HR4.out.frozen 1
      have b2 : w4.cell? ⟨w.heap.size + 1 + 1, 2, none⟩ = some (.string ⟨#[]⟩) := HR4.out.cell 2
      have bf2 : w4.frozen? ⟨w.heap.size + 1 + 1, 2, none⟩ = false := HR4.out.frozen 2
      have b3 : w4.cell? ⟨w.heap.size + 1 + 1, 3, none⟩ = some (.int .i64 0) := HR4.out.cell 3
      have bf3 : w4.frozen? ⟨w.heap.size + 1 + 1, 3, none⟩ = false := HR4.out.frozen 3
      have b4 : w4.cell? ⟨w.heap.size + 1 + 1, 4, none⟩ = some (.slice none 0 0) := HR4.out.cell 4
      have bf4 : w4.frozen? ⟨w.heap.size + 1 + 1, 4, none⟩ = false := HR4.out.frozen 4
      have y0 : w4.cell? ⟨w.heap.size + 1, 0, none⟩ = some (.string key) := HY4.out.cell 0
      go_wp2
      clear a0 af0 a1 af1 a2 af2 a3 af3 a4 af4
      clear b0 bf0 b1 bf1 b2 bf2 b3 bf3 b4 bf4
      clear y0
      have k0 := ((HR4.out.other (p := ⟨w.heap.size, 4, none⟩) (by simp; omega) (.slice fp fn fc)).other (p := ⟨w.heap.size, 2, none⟩) (by simp; omega) (.string key)).other (p := ⟨w.heap.size, 3, none⟩) (by simp; omega) (.int .i64 r)
      have k1 := k0.five (.bool pf) (.string plo) (.string key) (.int .i64 r) (.slice fp fn fc)
      have ht0 : Tn [w.heap.size, w.heap.size + 1 + 1] w4 _ := (((Tn.refl _ w4).setCell (p := ⟨w.heap.size, 4, none⟩) (.inl (by simp)) (.slice fp fn fc)).setCell (p := ⟨w.heap.size, 2, none⟩) (.inl (by simp)) (.string key)).setCell (p := ⟨w.heap.size, 3, none⟩) (.inl (by simp)) (.int .i64 r)
      have ht : Tn [w.heap.size, w.heap.size + 1 + 1] w4 _ := ht0.five (R := w.heap.size + 1 + 1) (.inl (by simp)) (.bool pf) (.string plo) (.string key) (.int .i64 r) (.slice fp fn fc)
      refine bodyPost_ret (results_one (T' := 24) (cs := [.bool pf, .string plo, .string key, .int .i64 r, .slice fp fn fc]) rfl rfl pg_agg pg_size rfl k1) rfl ?_
      rw [HF.out, HFF.out]
      exact ⟨.inl ⟨rfl, _, rfl, PgAt.own HFN.out ((HO4.out.tn ht (by have := HS1.out; simp; omega)).mono HB1.out.size)⟩, HB4.out.trans (ht.below HB4.out.size (by simp; omega))⟩

end Go.Proofs.YtlcbideongbmeaaGreat

namespace Go.Proofs.YtlcbideongbmeaaGreat
open Go.RowKit Go.Sort
set_option linter.unusedVariables false
set_option maxRecDepth 100000

theorem Dl.apply_1 {g : Pp} {e : En} {key : ByteArray} {pg : Int} {rt : Pp} (h : Dl.may ⟨1, e, key, pg, rt⟩ = true) : Dl.apply g ⟨1, e, key, pg, rt⟩ = Pg.put g e := by unfold Dl.apply; rw [h]; rfl
theorem Dl.apply_2 {g : Pp} {e : En} {key : ByteArray} {pg : Int} {rt : Pp} (h : Dl.may ⟨2, e, key, pg, rt⟩ = true) : Dl.apply g ⟨2, e, key, pg, rt⟩ = if Ky.inn ⟨g.lo, g.hi⟩ key then (Dl.without g key, 0) else (Pg.zero, 73) := by unfold Dl.apply; rw [h]; rfl
theorem Dl.apply_3 {g : Pp} {e : En} {key : ByteArray} {pg : Int} {rt : Pp} (h : Dl.may ⟨3, e, key, pg, rt⟩ = true) : Dl.apply g ⟨3, e, key, pg, rt⟩ = if Ky.lt g.lo key && Ky.inn ⟨g.lo, g.hi⟩ key then (Dl.upTo g key pg, 0) else (Pg.zero, 90) := by unfold Dl.apply; rw [h]; rfl
theorem Dl.apply_4 {g : Pp} {e : En} {key : ByteArray} {pg : Int} {rt : Pp} (h : Dl.may ⟨4, e, key, pg, rt⟩ = true) : Dl.apply g ⟨4, e, key, pg, rt⟩ = Pg.merge g rt := by unfold Dl.apply; rw [h]; rfl
theorem Dl.apply_5 {g : Pp} {e : En} {key : ByteArray} {pg : Int} {rt : Pp} (h : Dl.may ⟨5, e, key, pg, rt⟩ = true) : Dl.apply g ⟨5, e, key, pg, rt⟩ = (Pg.zero, 91) := by unfold Dl.apply; rw [h]; rfl
theorem Dl.apply_not {g : Pp} {d : De} (h : Dl.may d = false) : Dl.apply g d = (Pg.zero, 90) := by unfold Dl.apply; rw [h]; rfl
theorem Dl.may_kind {d : De} (h : Dl.may d = true) : d.k = 1 ∨ d.k = 2 ∨ d.k = 3 ∨ d.k = 4 ∨ d.k = 5 := by
  unfold Dl.may Dl.fits at h
  by_cases h1 : d.k = 1
  · exact .inl h1
  · by_cases h2 : d.k = 2
    · exact .inr (.inl h2)
    · by_cases h3 : d.k = 3
      · exact .inr (.inr (.inl h3))
      · by_cases h4 : d.k = 4
        · exact .inr (.inr (.inr (.inl h4)))
        · by_cases h5 : d.k = 5
          · exact .inr (.inr (.inr (.inr h5)))
          · simp [h1, h2, h3, h4, h5] at h

set_option maxHeartbeats 2000000 in
theorem applied_not (dk : Int) (pf : Bool) (plo phi : ByteArray) (pr : Int) (pp : Option Addr) (pn pc : Nat) (pl : List En) (dek : ByteArray) (des deg dec : Int) (dkey : ByteArray) (dpg : Int) (dleaf : Bool) (dlo dhi : ByteArray) (dr : Int) (dp : Option Addr) (dn dc : Nat) (dl : List En) (w : World) (hlen : pl.length = pn) (hx : Ens w pp pl) (hl : pn ≤ 3518437208780) (hp : pp = none → pn = 0 ∧ pc = 0) (hdn : dl.length = dn) (hdx : Ens w dp dl) (hdl : (pn + dn) * 40 ≤ 140737488355328) (hdp : dp = none → dn = 0 ∧ dc = 0) (hmay : Dl.may ⟨dk, ⟨dek, des, deg, dec⟩, dkey, dpg, ⟨dleaf, dlo, dhi, dr, dl⟩⟩ = false) :
    Calls Tryz.prog 33 #[pgv pf plo phi pr pp pn pc, .agg #[.int .i64 dk, .string dek, .int .i64 des, .int .i64 deg, .int .i64 dec, .string dkey, .int .i64 dpg, .bool dleaf, .string dlo, .string dhi, .int .i64 dr, .slice dp dn dc]] w fun e w' => Done w (Dl.apply ⟨pf, plo, phi, pr, pl⟩ ⟨dk, ⟨dek, des, deg, dec⟩, dkey, dpg, ⟨dleaf, dlo, dhi, dr, dl⟩⟩) e w' := by
  obtain ⟨out, HO⟩ : ∃ out : Pp × Int, Hid (Dl.apply ⟨pf, plo, phi, pr, pl⟩ ⟨dk, ⟨dek, des, deg, dec⟩, dkey, dpg, ⟨dleaf, dlo, dhi, dr, dl⟩⟩ = out) := ⟨_, rfl⟩
  rw [HO.out]
  have HX : Hid (Ens w pp pl) := hx
  have HL : Hid (pl.length = pn) := hlen
  have HDX : Hid (Ens w dp dl) := hdx
  have HDL : Hid (dl.length = dn) := hdn
  have HM : Hid (Dl.may ⟨dk, ⟨dek, des, deg, dec⟩, dkey, dpg, ⟨dleaf, dlo, dhi, dr, dl⟩⟩ = false) := hmay
  clear hx hlen hdx hdn hmay
  obtain ⟨w0, hw0⟩ : ∃ w0, ((w.alloc (.cells #[.bool pf, .string plo, .string phi, .int .i64 pr, .slice pp pn pc] 24)).alloc (.cells #[.int .i64 dk, .string dek, .int .i64 des, .int .i64 deg, .int .i64 dec, .string dkey, .int .i64 dpg, .bool dleaf, .string dlo, .string dhi, .int .i64 dr, .slice dp dn dc] 32)).alloc (.cells #[.bool false, .string ⟨#[]⟩, .string ⟨#[]⟩, .int .i64 0, .slice none 0 0] 24) = w0 := ⟨_, rfl⟩
  have HB0 : Hid (Below w.heap.size w w0) := by rw [← hw0]; exact (((Below.refl _ _).alloc (Nat.le_refl _) _).alloc (by simp) _).alloc (by simp; omega) _
  have HK0 : Hid (Bk w0 w.heap.size 24 #[.bool pf, .string plo, .string phi, .int .i64 pr, .slice pp pn pc]) := by rw [← hw0]; exact ((Bk.new _ _ _).alloc _).alloc _
  have HD0 : Hid (Bk w0 (w.heap.size + 1) 32 #[.int .i64 dk, .string dek, .int .i64 des, .int .i64 deg, .int .i64 dec, .string dkey, .int .i64 dpg, .bool dleaf, .string dlo, .string dhi, .int .i64 dr, .slice dp dn dc]) := by rw [← hw0]; exact (Bk.new1 _ _ _ _).alloc _
  have HR0 : Hid (Bk w0 (w.heap.size + 1 + 1) 24 #[.bool false, .string ⟨#[]⟩, .string ⟨#[]⟩, .int .i64 0, .slice none 0 0]) := by rw [← hw0]; exact Bk.new2 _ _ _ _ _
  have x0 : w0.cell? ⟨w.heap.size + 1, 0, none⟩ = some (.int .i64 dk) := HD0.out.cell 0
  have x1 : w0.cell? ⟨w.heap.size + 1, 1, none⟩ = some (.string dek) := HD0.out.cell 1
  have x2 : w0.cell? ⟨w.heap.size + 1, 2, none⟩ = some (.int .i64 des) := HD0.out.cell 2
  have x3 : w0.cell? ⟨w.heap.size + 1, 3, none⟩ = some (.int .i64 deg) := HD0.out.cell 3
  have x4 : w0.cell? ⟨w.heap.size + 1, 4, none⟩ = some (.int .i64 dec) := HD0.out.cell 4
  have x5 : w0.cell? ⟨w.heap.size + 1, 5, none⟩ = some (.string dkey) := HD0.out.cell 5
  have x6 : w0.cell? ⟨w.heap.size + 1, 6, none⟩ = some (.int .i64 dpg) := HD0.out.cell 6
  have x7 : w0.cell? ⟨w.heap.size + 1, 7, none⟩ = some (.bool dleaf) := HD0.out.cell 7
  have x8 : w0.cell? ⟨w.heap.size + 1, 8, none⟩ = some (.string dlo) := HD0.out.cell 8
  have x9 : w0.cell? ⟨w.heap.size + 1, 9, none⟩ = some (.string dhi) := HD0.out.cell 9
  have x10 : w0.cell? ⟨w.heap.size + 1, 10, none⟩ = some (.int .i64 dr) := HD0.out.cell 10
  have x11 : w0.cell? ⟨w.heap.size + 1, 11, none⟩ = some (.slice dp dn dc) := HD0.out.cell 11
  go_enter Tryz.func33, Tryz.ntmps33
  go_wp2_with fail
  clear hw0
  refine (dcheck_any ⟨dk, ⟨dek, des, deg, dec⟩, dkey, dpg, ⟨dleaf, dlo, dhi, dr, dl⟩⟩ dp dn dc _ HDL.out (HDX.out.below HB0.out (Nat.le_refl _)) (by omega)).mono ?_
  rw [HM.out]
  rintro e w1 ⟨rfl, hb1⟩
  clear x0 x1 x2 x3 x4 x5 x6 x7 x8 x9 x10 x11
  have HB1 : Hid (Below w.heap.size w w1) := HB0.out.trans (hb1.mono HB0.out.size)
  have HK1 : Hid (Bk w1 w.heap.size 24 #[.bool pf, .string plo, .string phi, .int .i64 pr, .slice pp pn pc]) := HK0.out.below hb1 HK0.out.lt
  have HD1 : Hid (Bk w1 (w.heap.size + 1) 32 #[.int .i64 dk, .string dek, .int .i64 des, .int .i64 deg, .int .i64 dec, .string dkey, .int .i64 dpg, .bool dleaf, .string dlo, .string dhi, .int .i64 dr, .slice dp dn dc]) := HD0.out.below hb1 HD0.out.lt
  have HR1 : Hid (Bk w1 (w.heap.size + 1 + 1) 24 #[.bool false, .string ⟨#[]⟩, .string ⟨#[]⟩, .int .i64 0, .slice none 0 0]) := HR0.out.below hb1 HR0.out.lt
  have HS1 : Hid (w.heap.size + 1 + 1 < w1.heap.size) := HR1.out.lt
  clear hb1
  simp only [Bool.false_eq_true, if_false]
  go_wp2_with fail
  refine (refuse_no 90 (by decide) _).mono ?_
  rintro e w2 ⟨rfl, rfl⟩
  refine ⟨rfl, ?_⟩
  rw [← HO.out, Dl.apply_not HM.out]
  exact ⟨.inr ⟨by decide, rfl⟩, HB1.out⟩

set_option maxHeartbeats 2000000 in
theorem applied_1 (pf : Bool) (plo phi : ByteArray) (pr : Int) (pp : Option Addr) (pn pc : Nat) (pl : List En) (dek : ByteArray) (des deg dec : Int) (dkey : ByteArray) (dpg : Int) (dleaf : Bool) (dlo dhi : ByteArray) (dr : Int) (dp : Option Addr) (dn dc : Nat) (dl : List En) (w : World) (hlen : pl.length = pn) (hx : Ens w pp pl) (hl : pn ≤ 3518437208780) (hp : pp = none → pn = 0 ∧ pc = 0) (hdn : dl.length = dn) (hdx : Ens w dp dl) (hdl : (pn + dn) * 40 ≤ 140737488355328) (hdp : dp = none → dn = 0 ∧ dc = 0) (hmay : Dl.may ⟨1, ⟨dek, des, deg, dec⟩, dkey, dpg, ⟨dleaf, dlo, dhi, dr, dl⟩⟩ = true) :
    Calls Tryz.prog 33 #[pgv pf plo phi pr pp pn pc, .agg #[.int .i64 1, .string dek, .int .i64 des, .int .i64 deg, .int .i64 dec, .string dkey, .int .i64 dpg, .bool dleaf, .string dlo, .string dhi, .int .i64 dr, .slice dp dn dc]] w fun e w' => Done w (Dl.apply ⟨pf, plo, phi, pr, pl⟩ ⟨1, ⟨dek, des, deg, dec⟩, dkey, dpg, ⟨dleaf, dlo, dhi, dr, dl⟩⟩) e w' := by
  obtain ⟨out, HO⟩ : ∃ out : Pp × Int, Hid (Dl.apply ⟨pf, plo, phi, pr, pl⟩ ⟨1, ⟨dek, des, deg, dec⟩, dkey, dpg, ⟨dleaf, dlo, dhi, dr, dl⟩⟩ = out) := ⟨_, rfl⟩
  rw [HO.out]
  have HX : Hid (Ens w pp pl) := hx
  have HL : Hid (pl.length = pn) := hlen
  have HDX : Hid (Ens w dp dl) := hdx
  have HDL : Hid (dl.length = dn) := hdn
  have HM : Hid (Dl.may ⟨1, ⟨dek, des, deg, dec⟩, dkey, dpg, ⟨dleaf, dlo, dhi, dr, dl⟩⟩ = true) := hmay
  clear hx hlen hdx hdn hmay
  obtain ⟨w0, hw0⟩ : ∃ w0, ((w.alloc (.cells #[.bool pf, .string plo, .string phi, .int .i64 pr, .slice pp pn pc] 24)).alloc (.cells #[.int .i64 1, .string dek, .int .i64 des, .int .i64 deg, .int .i64 dec, .string dkey, .int .i64 dpg, .bool dleaf, .string dlo, .string dhi, .int .i64 dr, .slice dp dn dc] 32)).alloc (.cells #[.bool false, .string ⟨#[]⟩, .string ⟨#[]⟩, .int .i64 0, .slice none 0 0] 24) = w0 := ⟨_, rfl⟩
  have HB0 : Hid (Below w.heap.size w w0) := by rw [← hw0]; exact (((Below.refl _ _).alloc (Nat.le_refl _) _).alloc (by simp) _).alloc (by simp; omega) _
  have HK0 : Hid (Bk w0 w.heap.size 24 #[.bool pf, .string plo, .string phi, .int .i64 pr, .slice pp pn pc]) := by rw [← hw0]; exact ((Bk.new _ _ _).alloc _).alloc _
  have HD0 : Hid (Bk w0 (w.heap.size + 1) 32 #[.int .i64 1, .string dek, .int .i64 des, .int .i64 deg, .int .i64 dec, .string dkey, .int .i64 dpg, .bool dleaf, .string dlo, .string dhi, .int .i64 dr, .slice dp dn dc]) := by rw [← hw0]; exact (Bk.new1 _ _ _ _).alloc _
  have HR0 : Hid (Bk w0 (w.heap.size + 1 + 1) 24 #[.bool false, .string ⟨#[]⟩, .string ⟨#[]⟩, .int .i64 0, .slice none 0 0]) := by rw [← hw0]; exact Bk.new2 _ _ _ _ _
  have x0 : w0.cell? ⟨w.heap.size + 1, 0, none⟩ = some (.int .i64 1) := HD0.out.cell 0
  have x1 : w0.cell? ⟨w.heap.size + 1, 1, none⟩ = some (.string dek) := HD0.out.cell 1
  have x2 : w0.cell? ⟨w.heap.size + 1, 2, none⟩ = some (.int .i64 des) := HD0.out.cell 2
  have x3 : w0.cell? ⟨w.heap.size + 1, 3, none⟩ = some (.int .i64 deg) := HD0.out.cell 3
  have x4 : w0.cell? ⟨w.heap.size + 1, 4, none⟩ = some (.int .i64 dec) := HD0.out.cell 4
  have x5 : w0.cell? ⟨w.heap.size + 1, 5, none⟩ = some (.string dkey) := HD0.out.cell 5
  have x6 : w0.cell? ⟨w.heap.size + 1, 6, none⟩ = some (.int .i64 dpg) := HD0.out.cell 6
  have x7 : w0.cell? ⟨w.heap.size + 1, 7, none⟩ = some (.bool dleaf) := HD0.out.cell 7
  have x8 : w0.cell? ⟨w.heap.size + 1, 8, none⟩ = some (.string dlo) := HD0.out.cell 8
  have x9 : w0.cell? ⟨w.heap.size + 1, 9, none⟩ = some (.string dhi) := HD0.out.cell 9
  have x10 : w0.cell? ⟨w.heap.size + 1, 10, none⟩ = some (.int .i64 dr) := HD0.out.cell 10
  have x11 : w0.cell? ⟨w.heap.size + 1, 11, none⟩ = some (.slice dp dn dc) := HD0.out.cell 11
  go_enter Tryz.func33, Tryz.ntmps33
  go_wp2_with fail
  clear hw0
  refine (dcheck_any ⟨1, ⟨dek, des, deg, dec⟩, dkey, dpg, ⟨dleaf, dlo, dhi, dr, dl⟩⟩ dp dn dc _ HDL.out (HDX.out.below HB0.out (Nat.le_refl _)) (by omega)).mono ?_
  rw [HM.out]
  rintro e w1 ⟨rfl, hb1⟩
  clear x0 x1 x2 x3 x4 x5 x6 x7 x8 x9 x10 x11
  have HB1 : Hid (Below w.heap.size w w1) := HB0.out.trans (hb1.mono HB0.out.size)
  have HK1 : Hid (Bk w1 w.heap.size 24 #[.bool pf, .string plo, .string phi, .int .i64 pr, .slice pp pn pc]) := HK0.out.below hb1 HK0.out.lt
  have HD1 : Hid (Bk w1 (w.heap.size + 1) 32 #[.int .i64 1, .string dek, .int .i64 des, .int .i64 deg, .int .i64 dec, .string dkey, .int .i64 dpg, .bool dleaf, .string dlo, .string dhi, .int .i64 dr, .slice dp dn dc]) := HD0.out.below hb1 HD0.out.lt
  have HR1 : Hid (Bk w1 (w.heap.size + 1 + 1) 24 #[.bool false, .string ⟨#[]⟩, .string ⟨#[]⟩, .int .i64 0, .slice none 0 0]) := HR0.out.below hb1 HR0.out.lt
  have HS1 : Hid (w.heap.size + 1 + 1 < w1.heap.size) := HR1.out.lt
  clear hb1
  simp only [if_true]
  go_wp2_with fail
  refine (refuse_ok _).mono ?_
  rintro e w2 ⟨rfl, hw2⟩
  have HB2 : Hid (Below w.heap.size w w2) := by rw [hw2]; exact HB1.out
  have HK2 : Hid (Bk w2 w.heap.size 24 #[.bool pf, .string plo, .string phi, .int .i64 pr, .slice pp pn pc]) := by rw [hw2]; exact HK1.out
  have HD2 : Hid (Bk w2 (w.heap.size + 1) 32 #[.int .i64 1, .string dek, .int .i64 des, .int .i64 deg, .int .i64 dec, .string dkey, .int .i64 dpg, .bool dleaf, .string dlo, .string dhi, .int .i64 dr, .slice dp dn dc]) := by rw [hw2]; exact HD1.out
  have HR2 : Hid (Bk w2 (w.heap.size + 1 + 1) 24 #[.bool false, .string ⟨#[]⟩, .string ⟨#[]⟩, .int .i64 0, .slice none 0 0]) := by rw [hw2]; exact HR1.out
  have HS1 : Hid (w.heap.size + 1 + 1 < w2.heap.size) := HR2.out.lt
  clear hw2 HB1 HK1 HD1 HR1
  have a0 : w2.cell? ⟨w.heap.size, 0, none⟩ = some (.bool pf) := HK2.out.cell 0
  have a1 : w2.cell? ⟨w.heap.size, 1, none⟩ = some (.string plo) := HK2.out.cell 1
  have a2 : w2.cell? ⟨w.heap.size, 2, none⟩ = some (.string phi) := HK2.out.cell 2
  have a3 : w2.cell? ⟨w.heap.size, 3, none⟩ = some (.int .i64 pr) := HK2.out.cell 3
  have a4 : w2.cell? ⟨w.heap.size, 4, none⟩ = some (.slice pp pn pc) := HK2.out.cell 4
  have x0 : w2.cell? ⟨w.heap.size + 1, 0, none⟩ = some (.int .i64 1) := HD2.out.cell 0
  have x1 : w2.cell? ⟨w.heap.size + 1, 1, none⟩ = some (.string dek) := HD2.out.cell 1
  have x2 : w2.cell? ⟨w.heap.size + 1, 2, none⟩ = some (.int .i64 des) := HD2.out.cell 2
  have x3 : w2.cell? ⟨w.heap.size + 1, 3, none⟩ = some (.int .i64 deg) := HD2.out.cell 3
  have x4 : w2.cell? ⟨w.heap.size + 1, 4, none⟩ = some (.int .i64 dec) := HD2.out.cell 4
  have x5 : w2.cell? ⟨w.heap.size + 1, 5, none⟩ = some (.string dkey) := HD2.out.cell 5
  have x6 : w2.cell? ⟨w.heap.size + 1, 6, none⟩ = some (.int .i64 dpg) := HD2.out.cell 6
  have x7 : w2.cell? ⟨w.heap.size + 1, 7, none⟩ = some (.bool dleaf) := HD2.out.cell 7
  have x8 : w2.cell? ⟨w.heap.size + 1, 8, none⟩ = some (.string dlo) := HD2.out.cell 8
  have x9 : w2.cell? ⟨w.heap.size + 1, 9, none⟩ = some (.string dhi) := HD2.out.cell 9
  have x10 : w2.cell? ⟨w.heap.size + 1, 10, none⟩ = some (.int .i64 dr) := HD2.out.cell 10
  have x11 : w2.cell? ⟨w.heap.size + 1, 11, none⟩ = some (.slice dp dn dc) := HD2.out.cell 11
  go_wp2_with fail
  refine (put_any pf plo phi pr pp pn pc pl ⟨dek, des, deg, dec⟩ _ HL.out (HX.out.below HB2.out (Nat.le_refl _)) (by omega) hp).mono ?_
  obtain ⟨⟨G, kk⟩, hpt⟩ : ∃ o : Pp × Int, Pg.put ⟨pf, plo, phi, pr, pl⟩ ⟨dek, des, deg, dec⟩ = o := ⟨_, rfl⟩
  rw [hpt]
  rintro e w3 ⟨v3, rfl, hg3, hb3⟩
  clear a0 a1 a2 a3 a4
  clear x0 x1 x2 x3 x4 x5 x6 x7 x8 x9 x10 x11
  have HF : Hid (out = (G, kk)) := by rw [Hid, ← HO.out, show Dl.apply ⟨pf, plo, phi, pr, pl⟩ ⟨1, ⟨dek, des, deg, dec⟩, dkey, dpg, ⟨dleaf, dlo, dhi, dr, dl⟩⟩ = _ from Dl.apply_1 HM.out, hpt]
  have HB3 : Hid (Below w.heap.size w w3) := HB2.out.trans (hb3.mono HB2.out.size)
  have HR3 : Hid (Bk w3 (w.heap.size + 1 + 1) 24 #[.bool false, .string ⟨#[]⟩, .string ⟨#[]⟩, .int .i64 0, .slice none 0 0]) := HR2.out.below hb3 HR2.out.lt
  have HBW3 : Hid (w2.heap.size ≤ w3.heap.size) := hb3.size
  obtain ⟨Gf, Glo, Ghi, Gr, Gl⟩ := G
  obtain ⟨Gp, Gc, rfl, hg4⟩ := hg3.pv
  simp only at hg4 ⊢
  obtain ⟨Gn, hGn⟩ : ∃ Gn, Gl.length = Gn := ⟨_, rfl⟩
  rw [hGn] at hg4 ⊢
  have HG3 : Hid (PgAt w3 w2.heap.size (pgv Gf Glo Ghi Gr Gp Gn Gc) ⟨Gf, Glo, Ghi, Gr, Gl⟩) := hg4
  clear hg3 hg4 hb3 hGn hpt
  by_cases hk0 : kk = 0
  · subst hk0
    go_wp2_with fail
    refine (sure_ok Gf Glo Ghi Gr Gp Gn Gc _).mono ?_
    rintro e w4 ⟨rfl, hb4⟩
    have HB4 : Hid (Below w.heap.size w w4) := HB3.out.trans (hb4.mono HB3.out.size)
    have HR4 : Hid (Bk w4 (w.heap.size + 1 + 1) 24 #[.bool false, .string ⟨#[]⟩, .string ⟨#[]⟩, .int .i64 0, .slice none 0 0]) := HR3.out.below hb4 HR3.out.lt
    have HG4 : Hid (PgAt w4 w2.heap.size (pgv Gf Glo Ghi Gr Gp Gn Gc) ⟨Gf, Glo, Ghi, Gr, Gl⟩) := HG3.out.below hb4 (Nat.le_refl _)
    clear hb4
    have b0 : w4.cell? ⟨w.heap.size + 1 + 1, 0, none⟩ = some (.bool false) := HR4.out.cell 0
    have bf0 : w4.frozen? ⟨w.heap.size + 1 + 1, 0, none⟩ = false := HR4.out.frozen 0
    have b1 : w4.cell? ⟨w.heap.size + 1 + 1, 1, none⟩ = some (.string ⟨#[]⟩) := HR4.out.cell 1
    have bf1 : w4.frozen? ⟨w.heap.size + 1 + 1, 1, none⟩ = false := HR4.out.frozen 1
    have b2 : w4.cell? ⟨w.heap.size + 1 + 1, 2, none⟩ = some (.string ⟨#[]⟩) := HR4.out.cell 2
    have bf2 : w4.frozen? ⟨w.heap.size + 1 + 1, 2, none⟩ = false := HR4.out.frozen 2
    have b3 : w4.cell? ⟨w.heap.size + 1 + 1, 3, none⟩ = some (.int .i64 0) := HR4.out.cell 3
    have bf3 : w4.frozen? ⟨w.heap.size + 1 + 1, 3, none⟩ = false := HR4.out.frozen 3
    have b4 : w4.cell? ⟨w.heap.size + 1 + 1, 4, none⟩ = some (.slice none 0 0) := HR4.out.cell 4
    have bf4 : w4.frozen? ⟨w.heap.size + 1 + 1, 4, none⟩ = false := HR4.out.frozen 4
    go_wp2
    clear b0 bf0 b1 bf1 b2 bf2 b3 bf3 b4 bf4
    have k1 := HR4.out.five (.bool Gf) (.string Glo) (.string Ghi) (.int .i64 Gr) (.slice Gp Gn Gc)
    have ht : Tn [w.heap.size + 1 + 1] w4 _ := (Tn.refl _ w4).five (R := w.heap.size + 1 + 1) (.inl (by simp)) (.bool Gf) (.string Glo) (.string Ghi) (.int .i64 Gr) (.slice Gp Gn Gc)
    refine bodyPost_ret (results_one (T' := 24) (cs := [.bool Gf, .string Glo, .string Ghi, .int .i64 Gr, .slice Gp Gn Gc]) rfl rfl pg_agg pg_size rfl k1) rfl ?_
    rw [HF.out]
    exact ⟨.inl ⟨rfl, _, rfl, (HG4.out.tn ht (by have := HS1.out; simp; omega)).mono HB2.out.size⟩, HB4.out.trans (ht.below HB4.out.size (by simp; omega))⟩
  · go_wp2_with fail
    refine (sure_no Gf Glo Ghi Gr Gp Gn Gc _ kk hk0).mono ?_
    rintro e w4 ⟨rfl, hb4⟩
    have HB4 : Hid (Below w.heap.size w w4) := HB3.out.trans (hb4.mono HB3.out.size)
    have HR4 : Hid (Bk w4 (w.heap.size + 1 + 1) 24 #[.bool false, .string ⟨#[]⟩, .string ⟨#[]⟩, .int .i64 0, .slice none 0 0]) := HR3.out.below hb4 HR3.out.lt
    refine ⟨rfl, ?_⟩
    rw [HF.out]
    exact ⟨.inr ⟨hk0, rfl⟩, HB4.out⟩

set_option maxHeartbeats 2000000 in
theorem applied_2 (pf : Bool) (plo phi : ByteArray) (pr : Int) (pp : Option Addr) (pn pc : Nat) (pl : List En) (dek : ByteArray) (des deg dec : Int) (dkey : ByteArray) (dpg : Int) (dleaf : Bool) (dlo dhi : ByteArray) (dr : Int) (dp : Option Addr) (dn dc : Nat) (dl : List En) (w : World) (hlen : pl.length = pn) (hx : Ens w pp pl) (hl : pn ≤ 3518437208780) (hp : pp = none → pn = 0 ∧ pc = 0) (hdn : dl.length = dn) (hdx : Ens w dp dl) (hdl : (pn + dn) * 40 ≤ 140737488355328) (hdp : dp = none → dn = 0 ∧ dc = 0) (hmay : Dl.may ⟨2, ⟨dek, des, deg, dec⟩, dkey, dpg, ⟨dleaf, dlo, dhi, dr, dl⟩⟩ = true) :
    Calls Tryz.prog 33 #[pgv pf plo phi pr pp pn pc, .agg #[.int .i64 2, .string dek, .int .i64 des, .int .i64 deg, .int .i64 dec, .string dkey, .int .i64 dpg, .bool dleaf, .string dlo, .string dhi, .int .i64 dr, .slice dp dn dc]] w fun e w' => Done w (Dl.apply ⟨pf, plo, phi, pr, pl⟩ ⟨2, ⟨dek, des, deg, dec⟩, dkey, dpg, ⟨dleaf, dlo, dhi, dr, dl⟩⟩) e w' := by
  obtain ⟨out, HO⟩ : ∃ out : Pp × Int, Hid (Dl.apply ⟨pf, plo, phi, pr, pl⟩ ⟨2, ⟨dek, des, deg, dec⟩, dkey, dpg, ⟨dleaf, dlo, dhi, dr, dl⟩⟩ = out) := ⟨_, rfl⟩
  rw [HO.out]
  have HX : Hid (Ens w pp pl) := hx
  have HL : Hid (pl.length = pn) := hlen
  have HDX : Hid (Ens w dp dl) := hdx
  have HDL : Hid (dl.length = dn) := hdn
  have HM : Hid (Dl.may ⟨2, ⟨dek, des, deg, dec⟩, dkey, dpg, ⟨dleaf, dlo, dhi, dr, dl⟩⟩ = true) := hmay
  clear hx hlen hdx hdn hmay
  obtain ⟨w0, hw0⟩ : ∃ w0, ((w.alloc (.cells #[.bool pf, .string plo, .string phi, .int .i64 pr, .slice pp pn pc] 24)).alloc (.cells #[.int .i64 2, .string dek, .int .i64 des, .int .i64 deg, .int .i64 dec, .string dkey, .int .i64 dpg, .bool dleaf, .string dlo, .string dhi, .int .i64 dr, .slice dp dn dc] 32)).alloc (.cells #[.bool false, .string ⟨#[]⟩, .string ⟨#[]⟩, .int .i64 0, .slice none 0 0] 24) = w0 := ⟨_, rfl⟩
  have HB0 : Hid (Below w.heap.size w w0) := by rw [← hw0]; exact (((Below.refl _ _).alloc (Nat.le_refl _) _).alloc (by simp) _).alloc (by simp; omega) _
  have HK0 : Hid (Bk w0 w.heap.size 24 #[.bool pf, .string plo, .string phi, .int .i64 pr, .slice pp pn pc]) := by rw [← hw0]; exact ((Bk.new _ _ _).alloc _).alloc _
  have HD0 : Hid (Bk w0 (w.heap.size + 1) 32 #[.int .i64 2, .string dek, .int .i64 des, .int .i64 deg, .int .i64 dec, .string dkey, .int .i64 dpg, .bool dleaf, .string dlo, .string dhi, .int .i64 dr, .slice dp dn dc]) := by rw [← hw0]; exact (Bk.new1 _ _ _ _).alloc _
  have HR0 : Hid (Bk w0 (w.heap.size + 1 + 1) 24 #[.bool false, .string ⟨#[]⟩, .string ⟨#[]⟩, .int .i64 0, .slice none 0 0]) := by rw [← hw0]; exact Bk.new2 _ _ _ _ _
  have x0 : w0.cell? ⟨w.heap.size + 1, 0, none⟩ = some (.int .i64 2) := HD0.out.cell 0
  have x1 : w0.cell? ⟨w.heap.size + 1, 1, none⟩ = some (.string dek) := HD0.out.cell 1
  have x2 : w0.cell? ⟨w.heap.size + 1, 2, none⟩ = some (.int .i64 des) := HD0.out.cell 2
  have x3 : w0.cell? ⟨w.heap.size + 1, 3, none⟩ = some (.int .i64 deg) := HD0.out.cell 3
  have x4 : w0.cell? ⟨w.heap.size + 1, 4, none⟩ = some (.int .i64 dec) := HD0.out.cell 4
  have x5 : w0.cell? ⟨w.heap.size + 1, 5, none⟩ = some (.string dkey) := HD0.out.cell 5
  have x6 : w0.cell? ⟨w.heap.size + 1, 6, none⟩ = some (.int .i64 dpg) := HD0.out.cell 6
  have x7 : w0.cell? ⟨w.heap.size + 1, 7, none⟩ = some (.bool dleaf) := HD0.out.cell 7
  have x8 : w0.cell? ⟨w.heap.size + 1, 8, none⟩ = some (.string dlo) := HD0.out.cell 8
  have x9 : w0.cell? ⟨w.heap.size + 1, 9, none⟩ = some (.string dhi) := HD0.out.cell 9
  have x10 : w0.cell? ⟨w.heap.size + 1, 10, none⟩ = some (.int .i64 dr) := HD0.out.cell 10
  have x11 : w0.cell? ⟨w.heap.size + 1, 11, none⟩ = some (.slice dp dn dc) := HD0.out.cell 11
  go_enter Tryz.func33, Tryz.ntmps33
  go_wp2_with fail
  clear hw0
  refine (dcheck_any ⟨2, ⟨dek, des, deg, dec⟩, dkey, dpg, ⟨dleaf, dlo, dhi, dr, dl⟩⟩ dp dn dc _ HDL.out (HDX.out.below HB0.out (Nat.le_refl _)) (by omega)).mono ?_
  rw [HM.out]
  rintro e w1 ⟨rfl, hb1⟩
  clear x0 x1 x2 x3 x4 x5 x6 x7 x8 x9 x10 x11
  have HB1 : Hid (Below w.heap.size w w1) := HB0.out.trans (hb1.mono HB0.out.size)
  have HK1 : Hid (Bk w1 w.heap.size 24 #[.bool pf, .string plo, .string phi, .int .i64 pr, .slice pp pn pc]) := HK0.out.below hb1 HK0.out.lt
  have HD1 : Hid (Bk w1 (w.heap.size + 1) 32 #[.int .i64 2, .string dek, .int .i64 des, .int .i64 deg, .int .i64 dec, .string dkey, .int .i64 dpg, .bool dleaf, .string dlo, .string dhi, .int .i64 dr, .slice dp dn dc]) := HD0.out.below hb1 HD0.out.lt
  have HR1 : Hid (Bk w1 (w.heap.size + 1 + 1) 24 #[.bool false, .string ⟨#[]⟩, .string ⟨#[]⟩, .int .i64 0, .slice none 0 0]) := HR0.out.below hb1 HR0.out.lt
  have HS1 : Hid (w.heap.size + 1 + 1 < w1.heap.size) := HR1.out.lt
  clear hb1
  simp only [if_true]
  go_wp2_with fail
  refine (refuse_ok _).mono ?_
  rintro e w2 ⟨rfl, hw2⟩
  have HB2 : Hid (Below w.heap.size w w2) := by rw [hw2]; exact HB1.out
  have HK2 : Hid (Bk w2 w.heap.size 24 #[.bool pf, .string plo, .string phi, .int .i64 pr, .slice pp pn pc]) := by rw [hw2]; exact HK1.out
  have HD2 : Hid (Bk w2 (w.heap.size + 1) 32 #[.int .i64 2, .string dek, .int .i64 des, .int .i64 deg, .int .i64 dec, .string dkey, .int .i64 dpg, .bool dleaf, .string dlo, .string dhi, .int .i64 dr, .slice dp dn dc]) := by rw [hw2]; exact HD1.out
  have HR2 : Hid (Bk w2 (w.heap.size + 1 + 1) 24 #[.bool false, .string ⟨#[]⟩, .string ⟨#[]⟩, .int .i64 0, .slice none 0 0]) := by rw [hw2]; exact HR1.out
  have HS1 : Hid (w.heap.size + 1 + 1 < w2.heap.size) := HR2.out.lt
  clear hw2 HB1 HK1 HD1 HR1
  have a0 : w2.cell? ⟨w.heap.size, 0, none⟩ = some (.bool pf) := HK2.out.cell 0
  have a1 : w2.cell? ⟨w.heap.size, 1, none⟩ = some (.string plo) := HK2.out.cell 1
  have a2 : w2.cell? ⟨w.heap.size, 2, none⟩ = some (.string phi) := HK2.out.cell 2
  have a3 : w2.cell? ⟨w.heap.size, 3, none⟩ = some (.int .i64 pr) := HK2.out.cell 3
  have a4 : w2.cell? ⟨w.heap.size, 4, none⟩ = some (.slice pp pn pc) := HK2.out.cell 4
  have x0 : w2.cell? ⟨w.heap.size + 1, 0, none⟩ = some (.int .i64 2) := HD2.out.cell 0
  have x1 : w2.cell? ⟨w.heap.size + 1, 1, none⟩ = some (.string dek) := HD2.out.cell 1
  have x2 : w2.cell? ⟨w.heap.size + 1, 2, none⟩ = some (.int .i64 des) := HD2.out.cell 2
  have x3 : w2.cell? ⟨w.heap.size + 1, 3, none⟩ = some (.int .i64 deg) := HD2.out.cell 3
  have x4 : w2.cell? ⟨w.heap.size + 1, 4, none⟩ = some (.int .i64 dec) := HD2.out.cell 4
  have x5 : w2.cell? ⟨w.heap.size + 1, 5, none⟩ = some (.string dkey) := HD2.out.cell 5
  have x6 : w2.cell? ⟨w.heap.size + 1, 6, none⟩ = some (.int .i64 dpg) := HD2.out.cell 6
  have x7 : w2.cell? ⟨w.heap.size + 1, 7, none⟩ = some (.bool dleaf) := HD2.out.cell 7
  have x8 : w2.cell? ⟨w.heap.size + 1, 8, none⟩ = some (.string dlo) := HD2.out.cell 8
  have x9 : w2.cell? ⟨w.heap.size + 1, 9, none⟩ = some (.string dhi) := HD2.out.cell 9
  have x10 : w2.cell? ⟨w.heap.size + 1, 10, none⟩ = some (.int .i64 dr) := HD2.out.cell 10
  have x11 : w2.cell? ⟨w.heap.size + 1, 11, none⟩ = some (.slice dp dn dc) := HD2.out.cell 11
  go_wp2_with fail
  refine (without_any pf plo phi pr pp pn pc pl dkey _ HL.out (HX.out.below HB2.out (Nat.le_refl _)) (by omega) (fun h => (hp h).1)).mono ?_
  obtain ⟨⟨G, kk⟩, hpt⟩ : ∃ o : Pp × Int, (if Ky.inn ⟨plo, phi⟩ dkey then (Dl.without ⟨pf, plo, phi, pr, pl⟩ dkey, 0) else (Pg.zero, 73) : Pp × Int) = o := ⟨_, rfl⟩
  rw [hpt]
  rintro e w3 ⟨hdone, hb3⟩
  clear a0 a1 a2 a3 a4
  clear x0 x1 x2 x3 x4 x5 x6 x7 x8 x9 x10 x11
  have HF : Hid (out = (G, kk)) := by rw [Hid, ← HO.out, show Dl.apply ⟨pf, plo, phi, pr, pl⟩ ⟨2, ⟨dek, des, deg, dec⟩, dkey, dpg, ⟨dleaf, dlo, dhi, dr, dl⟩⟩ = _ from Dl.apply_2 HM.out, hpt]
  have HB3 : Hid (Below w.heap.size w w3) := HB2.out.trans (hb3.mono HB2.out.size)
  have HR3 : Hid (Bk w3 (w.heap.size + 1 + 1) 24 #[.bool false, .string ⟨#[]⟩, .string ⟨#[]⟩, .int .i64 0, .slice none 0 0]) := HR2.out.below hb3 HR2.out.lt
  rcases hdone with ⟨hk0, v3, rfl, hg3⟩ | ⟨hk0, rfl⟩
  · simp only at hk0 hg3
    subst hk0
    obtain ⟨Gf, Glo, Ghi, Gr, Gl⟩ := G
    obtain ⟨Gp, Gc, rfl, hg4⟩ := hg3.pv
    simp only at hg4 ⊢
    obtain ⟨Gn, hGn⟩ : ∃ Gn, Gl.length = Gn := ⟨_, rfl⟩
    rw [hGn] at hg4 ⊢
    have HG3 : Hid (PgAt w3 w2.heap.size (pgv Gf Glo Ghi Gr Gp Gn Gc) ⟨Gf, Glo, Ghi, Gr, Gl⟩) := hg4
    clear hg3 hg4 hb3 hGn hpt
    have b0 : w3.cell? ⟨w.heap.size + 1 + 1, 0, none⟩ = some (.bool false) := HR3.out.cell 0
    have bf0 : w3.frozen? ⟨w.heap.size + 1 + 1, 0, none⟩ = false := HR3.out.frozen 0
    have b1 : w3.cell? ⟨w.heap.size + 1 + 1, 1, none⟩ = some (.string ⟨#[]⟩) := HR3.out.cell 1
    have bf1 : w3.frozen? ⟨w.heap.size + 1 + 1, 1, none⟩ = false := HR3.out.frozen 1
    have b2 : w3.cell? ⟨w.heap.size + 1 + 1, 2, none⟩ = some (.string ⟨#[]⟩) := HR3.out.cell 2
    have bf2 : w3.frozen? ⟨w.heap.size + 1 + 1, 2, none⟩ = false := HR3.out.frozen 2
    have b3 : w3.cell? ⟨w.heap.size + 1 + 1, 3, none⟩ = some (.int .i64 0) := HR3.out.cell 3
    have bf3 : w3.frozen? ⟨w.heap.size + 1 + 1, 3, none⟩ = false := HR3.out.frozen 3
    have b4 : w3.cell? ⟨w.heap.size + 1 + 1, 4, none⟩ = some (.slice none 0 0) := HR3.out.cell 4
    have bf4 : w3.frozen? ⟨w.heap.size + 1 + 1, 4, none⟩ = false := HR3.out.frozen 4
    go_wp2
    clear b0 bf0 b1 bf1 b2 bf2 b3 bf3 b4 bf4
    have k1 := HR3.out.five (.bool Gf) (.string Glo) (.string Ghi) (.int .i64 Gr) (.slice Gp Gn Gc)
    have ht : Tn [w.heap.size + 1 + 1] w3 _ := (Tn.refl _ w3).five (R := w.heap.size + 1 + 1) (.inl (by simp)) (.bool Gf) (.string Glo) (.string Ghi) (.int .i64 Gr) (.slice Gp Gn Gc)
    refine bodyPost_ret (results_one (T' := 24) (cs := [.bool Gf, .string Glo, .string Ghi, .int .i64 Gr, .slice Gp Gn Gc]) rfl rfl pg_agg pg_size rfl k1) rfl ?_
    rw [HF.out]
    exact ⟨.inl ⟨rfl, _, rfl, (HG3.out.tn ht (by have := HS1.out; simp; omega)).mono HB2.out.size⟩, HB3.out.trans (ht.below HB3.out.size (by simp; omega))⟩
  · refine ⟨rfl, ?_⟩
    rw [HF.out]
    exact ⟨.inr ⟨hk0, rfl⟩, HB3.out⟩

set_option maxHeartbeats 2000000 in
theorem applied_3 (pf : Bool) (plo phi : ByteArray) (pr : Int) (pp : Option Addr) (pn pc : Nat) (pl : List En) (dek : ByteArray) (des deg dec : Int) (dkey : ByteArray) (dpg : Int) (dleaf : Bool) (dlo dhi : ByteArray) (dr : Int) (dp : Option Addr) (dn dc : Nat) (dl : List En) (w : World) (hlen : pl.length = pn) (hx : Ens w pp pl) (hl : pn ≤ 3518437208780) (hp : pp = none → pn = 0 ∧ pc = 0) (hdn : dl.length = dn) (hdx : Ens w dp dl) (hdl : (pn + dn) * 40 ≤ 140737488355328) (hdp : dp = none → dn = 0 ∧ dc = 0) (hmay : Dl.may ⟨3, ⟨dek, des, deg, dec⟩, dkey, dpg, ⟨dleaf, dlo, dhi, dr, dl⟩⟩ = true) :
    Calls Tryz.prog 33 #[pgv pf plo phi pr pp pn pc, .agg #[.int .i64 3, .string dek, .int .i64 des, .int .i64 deg, .int .i64 dec, .string dkey, .int .i64 dpg, .bool dleaf, .string dlo, .string dhi, .int .i64 dr, .slice dp dn dc]] w fun e w' => Done w (Dl.apply ⟨pf, plo, phi, pr, pl⟩ ⟨3, ⟨dek, des, deg, dec⟩, dkey, dpg, ⟨dleaf, dlo, dhi, dr, dl⟩⟩) e w' := by
  obtain ⟨out, HO⟩ : ∃ out : Pp × Int, Hid (Dl.apply ⟨pf, plo, phi, pr, pl⟩ ⟨3, ⟨dek, des, deg, dec⟩, dkey, dpg, ⟨dleaf, dlo, dhi, dr, dl⟩⟩ = out) := ⟨_, rfl⟩
  rw [HO.out]
  have HX : Hid (Ens w pp pl) := hx
  have HL : Hid (pl.length = pn) := hlen
  have HDX : Hid (Ens w dp dl) := hdx
  have HDL : Hid (dl.length = dn) := hdn
  have HM : Hid (Dl.may ⟨3, ⟨dek, des, deg, dec⟩, dkey, dpg, ⟨dleaf, dlo, dhi, dr, dl⟩⟩ = true) := hmay
  clear hx hlen hdx hdn hmay
  obtain ⟨w0, hw0⟩ : ∃ w0, ((w.alloc (.cells #[.bool pf, .string plo, .string phi, .int .i64 pr, .slice pp pn pc] 24)).alloc (.cells #[.int .i64 3, .string dek, .int .i64 des, .int .i64 deg, .int .i64 dec, .string dkey, .int .i64 dpg, .bool dleaf, .string dlo, .string dhi, .int .i64 dr, .slice dp dn dc] 32)).alloc (.cells #[.bool false, .string ⟨#[]⟩, .string ⟨#[]⟩, .int .i64 0, .slice none 0 0] 24) = w0 := ⟨_, rfl⟩
  have HB0 : Hid (Below w.heap.size w w0) := by rw [← hw0]; exact (((Below.refl _ _).alloc (Nat.le_refl _) _).alloc (by simp) _).alloc (by simp; omega) _
  have HK0 : Hid (Bk w0 w.heap.size 24 #[.bool pf, .string plo, .string phi, .int .i64 pr, .slice pp pn pc]) := by rw [← hw0]; exact ((Bk.new _ _ _).alloc _).alloc _
  have HD0 : Hid (Bk w0 (w.heap.size + 1) 32 #[.int .i64 3, .string dek, .int .i64 des, .int .i64 deg, .int .i64 dec, .string dkey, .int .i64 dpg, .bool dleaf, .string dlo, .string dhi, .int .i64 dr, .slice dp dn dc]) := by rw [← hw0]; exact (Bk.new1 _ _ _ _).alloc _
  have HR0 : Hid (Bk w0 (w.heap.size + 1 + 1) 24 #[.bool false, .string ⟨#[]⟩, .string ⟨#[]⟩, .int .i64 0, .slice none 0 0]) := by rw [← hw0]; exact Bk.new2 _ _ _ _ _
  have x0 : w0.cell? ⟨w.heap.size + 1, 0, none⟩ = some (.int .i64 3) := HD0.out.cell 0
  have x1 : w0.cell? ⟨w.heap.size + 1, 1, none⟩ = some (.string dek) := HD0.out.cell 1
  have x2 : w0.cell? ⟨w.heap.size + 1, 2, none⟩ = some (.int .i64 des) := HD0.out.cell 2
  have x3 : w0.cell? ⟨w.heap.size + 1, 3, none⟩ = some (.int .i64 deg) := HD0.out.cell 3
  have x4 : w0.cell? ⟨w.heap.size + 1, 4, none⟩ = some (.int .i64 dec) := HD0.out.cell 4
  have x5 : w0.cell? ⟨w.heap.size + 1, 5, none⟩ = some (.string dkey) := HD0.out.cell 5
  have x6 : w0.cell? ⟨w.heap.size + 1, 6, none⟩ = some (.int .i64 dpg) := HD0.out.cell 6
  have x7 : w0.cell? ⟨w.heap.size + 1, 7, none⟩ = some (.bool dleaf) := HD0.out.cell 7
  have x8 : w0.cell? ⟨w.heap.size + 1, 8, none⟩ = some (.string dlo) := HD0.out.cell 8
  have x9 : w0.cell? ⟨w.heap.size + 1, 9, none⟩ = some (.string dhi) := HD0.out.cell 9
  have x10 : w0.cell? ⟨w.heap.size + 1, 10, none⟩ = some (.int .i64 dr) := HD0.out.cell 10
  have x11 : w0.cell? ⟨w.heap.size + 1, 11, none⟩ = some (.slice dp dn dc) := HD0.out.cell 11
  go_enter Tryz.func33, Tryz.ntmps33
  go_wp2_with fail
  clear hw0
  refine (dcheck_any ⟨3, ⟨dek, des, deg, dec⟩, dkey, dpg, ⟨dleaf, dlo, dhi, dr, dl⟩⟩ dp dn dc _ HDL.out (HDX.out.below HB0.out (Nat.le_refl _)) (by omega)).mono ?_
  rw [HM.out]
  rintro e w1 ⟨rfl, hb1⟩
  clear x0 x1 x2 x3 x4 x5 x6 x7 x8 x9 x10 x11
  have HB1 : Hid (Below w.heap.size w w1) := HB0.out.trans (hb1.mono HB0.out.size)
  have HK1 : Hid (Bk w1 w.heap.size 24 #[.bool pf, .string plo, .string phi, .int .i64 pr, .slice pp pn pc]) := HK0.out.below hb1 HK0.out.lt
  have HD1 : Hid (Bk w1 (w.heap.size + 1) 32 #[.int .i64 3, .string dek, .int .i64 des, .int .i64 deg, .int .i64 dec, .string dkey, .int .i64 dpg, .bool dleaf, .string dlo, .string dhi, .int .i64 dr, .slice dp dn dc]) := HD0.out.below hb1 HD0.out.lt
  have HR1 : Hid (Bk w1 (w.heap.size + 1 + 1) 24 #[.bool false, .string ⟨#[]⟩, .string ⟨#[]⟩, .int .i64 0, .slice none 0 0]) := HR0.out.below hb1 HR0.out.lt
  have HS1 : Hid (w.heap.size + 1 + 1 < w1.heap.size) := HR1.out.lt
  clear hb1
  simp only [if_true]
  go_wp2_with fail
  refine (refuse_ok _).mono ?_
  rintro e w2 ⟨rfl, hw2⟩
  have HB2 : Hid (Below w.heap.size w w2) := by rw [hw2]; exact HB1.out
  have HK2 : Hid (Bk w2 w.heap.size 24 #[.bool pf, .string plo, .string phi, .int .i64 pr, .slice pp pn pc]) := by rw [hw2]; exact HK1.out
  have HD2 : Hid (Bk w2 (w.heap.size + 1) 32 #[.int .i64 3, .string dek, .int .i64 des, .int .i64 deg, .int .i64 dec, .string dkey, .int .i64 dpg, .bool dleaf, .string dlo, .string dhi, .int .i64 dr, .slice dp dn dc]) := by rw [hw2]; exact HD1.out
  have HR2 : Hid (Bk w2 (w.heap.size + 1 + 1) 24 #[.bool false, .string ⟨#[]⟩, .string ⟨#[]⟩, .int .i64 0, .slice none 0 0]) := by rw [hw2]; exact HR1.out
  have HS1 : Hid (w.heap.size + 1 + 1 < w2.heap.size) := HR2.out.lt
  clear hw2 HB1 HK1 HD1 HR1
  have a0 : w2.cell? ⟨w.heap.size, 0, none⟩ = some (.bool pf) := HK2.out.cell 0
  have a1 : w2.cell? ⟨w.heap.size, 1, none⟩ = some (.string plo) := HK2.out.cell 1
  have a2 : w2.cell? ⟨w.heap.size, 2, none⟩ = some (.string phi) := HK2.out.cell 2
  have a3 : w2.cell? ⟨w.heap.size, 3, none⟩ = some (.int .i64 pr) := HK2.out.cell 3
  have a4 : w2.cell? ⟨w.heap.size, 4, none⟩ = some (.slice pp pn pc) := HK2.out.cell 4
  have x0 : w2.cell? ⟨w.heap.size + 1, 0, none⟩ = some (.int .i64 3) := HD2.out.cell 0
  have x1 : w2.cell? ⟨w.heap.size + 1, 1, none⟩ = some (.string dek) := HD2.out.cell 1
  have x2 : w2.cell? ⟨w.heap.size + 1, 2, none⟩ = some (.int .i64 des) := HD2.out.cell 2
  have x3 : w2.cell? ⟨w.heap.size + 1, 3, none⟩ = some (.int .i64 deg) := HD2.out.cell 3
  have x4 : w2.cell? ⟨w.heap.size + 1, 4, none⟩ = some (.int .i64 dec) := HD2.out.cell 4
  have x5 : w2.cell? ⟨w.heap.size + 1, 5, none⟩ = some (.string dkey) := HD2.out.cell 5
  have x6 : w2.cell? ⟨w.heap.size + 1, 6, none⟩ = some (.int .i64 dpg) := HD2.out.cell 6
  have x7 : w2.cell? ⟨w.heap.size + 1, 7, none⟩ = some (.bool dleaf) := HD2.out.cell 7
  have x8 : w2.cell? ⟨w.heap.size + 1, 8, none⟩ = some (.string dlo) := HD2.out.cell 8
  have x9 : w2.cell? ⟨w.heap.size + 1, 9, none⟩ = some (.string dhi) := HD2.out.cell 9
  have x10 : w2.cell? ⟨w.heap.size + 1, 10, none⟩ = some (.int .i64 dr) := HD2.out.cell 10
  have x11 : w2.cell? ⟨w.heap.size + 1, 11, none⟩ = some (.slice dp dn dc) := HD2.out.cell 11
  go_wp2_with fail
  refine (upTo_any pf plo phi pr pp pn pc pl dkey dpg _ HL.out (HX.out.below HB2.out (Nat.le_refl _)) (by omega) (fun h => (hp h).1)).mono ?_
  obtain ⟨⟨G, kk⟩, hpt⟩ : ∃ o : Pp × Int, (if Ky.lt plo dkey && Ky.inn ⟨plo, phi⟩ dkey then (Dl.upTo ⟨pf, plo, phi, pr, pl⟩ dkey dpg, 0) else (Pg.zero, 90) : Pp × Int) = o := ⟨_, rfl⟩
  rw [hpt]
  rintro e w3 ⟨hdone, hb3⟩
  clear a0 a1 a2 a3 a4
  clear x0 x1 x2 x3 x4 x5 x6 x7 x8 x9 x10 x11
  have HF : Hid (out = (G, kk)) := by rw [Hid, ← HO.out, show Dl.apply ⟨pf, plo, phi, pr, pl⟩ ⟨3, ⟨dek, des, deg, dec⟩, dkey, dpg, ⟨dleaf, dlo, dhi, dr, dl⟩⟩ = _ from Dl.apply_3 HM.out, hpt]
  have HB3 : Hid (Below w.heap.size w w3) := HB2.out.trans (hb3.mono HB2.out.size)
  have HR3 : Hid (Bk w3 (w.heap.size + 1 + 1) 24 #[.bool false, .string ⟨#[]⟩, .string ⟨#[]⟩, .int .i64 0, .slice none 0 0]) := HR2.out.below hb3 HR2.out.lt
  rcases hdone with ⟨hk0, v3, rfl, hg3⟩ | ⟨hk0, rfl⟩
  · simp only at hk0 hg3
    subst hk0
    obtain ⟨Gf, Glo, Ghi, Gr, Gl⟩ := G
    obtain ⟨Gp, Gc, rfl, hg4⟩ := hg3.pv
    simp only at hg4 ⊢
    obtain ⟨Gn, hGn⟩ : ∃ Gn, Gl.length = Gn := ⟨_, rfl⟩
    rw [hGn] at hg4 ⊢
    have HG3 : Hid (PgAt w3 w2.heap.size (pgv Gf Glo Ghi Gr Gp Gn Gc) ⟨Gf, Glo, Ghi, Gr, Gl⟩) := hg4
    clear hg3 hg4 hb3 hGn hpt
    have b0 : w3.cell? ⟨w.heap.size + 1 + 1, 0, none⟩ = some (.bool false) := HR3.out.cell 0
    have bf0 : w3.frozen? ⟨w.heap.size + 1 + 1, 0, none⟩ = false := HR3.out.frozen 0
    have b1 : w3.cell? ⟨w.heap.size + 1 + 1, 1, none⟩ = some (.string ⟨#[]⟩) := HR3.out.cell 1
    have bf1 : w3.frozen? ⟨w.heap.size + 1 + 1, 1, none⟩ = false := HR3.out.frozen 1
    have b2 : w3.cell? ⟨w.heap.size + 1 + 1, 2, none⟩ = some (.string ⟨#[]⟩) := HR3.out.cell 2
    have bf2 : w3.frozen? ⟨w.heap.size + 1 + 1, 2, none⟩ = false := HR3.out.frozen 2
    have b3 : w3.cell? ⟨w.heap.size + 1 + 1, 3, none⟩ = some (.int .i64 0) := HR3.out.cell 3
    have bf3 : w3.frozen? ⟨w.heap.size + 1 + 1, 3, none⟩ = false := HR3.out.frozen 3
    have b4 : w3.cell? ⟨w.heap.size + 1 + 1, 4, none⟩ = some (.slice none 0 0) := HR3.out.cell 4
    have bf4 : w3.frozen? ⟨w.heap.size + 1 + 1, 4, none⟩ = false := HR3.out.frozen 4
    go_wp2
    clear b0 bf0 b1 bf1 b2 bf2 b3 bf3 b4 bf4
    have k1 := HR3.out.five (.bool Gf) (.string Glo) (.string Ghi) (.int .i64 Gr) (.slice Gp Gn Gc)
    have ht : Tn [w.heap.size + 1 + 1] w3 _ := (Tn.refl _ w3).five (R := w.heap.size + 1 + 1) (.inl (by simp)) (.bool Gf) (.string Glo) (.string Ghi) (.int .i64 Gr) (.slice Gp Gn Gc)
    refine bodyPost_ret (results_one (T' := 24) (cs := [.bool Gf, .string Glo, .string Ghi, .int .i64 Gr, .slice Gp Gn Gc]) rfl rfl pg_agg pg_size rfl k1) rfl ?_
    rw [HF.out]
    exact ⟨.inl ⟨rfl, _, rfl, (HG3.out.tn ht (by have := HS1.out; simp; omega)).mono HB2.out.size⟩, HB3.out.trans (ht.below HB3.out.size (by simp; omega))⟩
  · refine ⟨rfl, ?_⟩
    rw [HF.out]
    exact ⟨.inr ⟨hk0, rfl⟩, HB3.out⟩

set_option maxHeartbeats 2000000 in
theorem applied_4 (pf : Bool) (plo phi : ByteArray) (pr : Int) (pp : Option Addr) (pn pc : Nat) (pl : List En) (dek : ByteArray) (des deg dec : Int) (dkey : ByteArray) (dpg : Int) (dleaf : Bool) (dlo dhi : ByteArray) (dr : Int) (dp : Option Addr) (dn dc : Nat) (dl : List En) (w : World) (hlen : pl.length = pn) (hx : Ens w pp pl) (hl : pn ≤ 3518437208780) (hp : pp = none → pn = 0 ∧ pc = 0) (hdn : dl.length = dn) (hdx : Ens w dp dl) (hdl : (pn + dn) * 40 ≤ 140737488355328) (hdp : dp = none → dn = 0 ∧ dc = 0) (hmay : Dl.may ⟨4, ⟨dek, des, deg, dec⟩, dkey, dpg, ⟨dleaf, dlo, dhi, dr, dl⟩⟩ = true) :
    Calls Tryz.prog 33 #[pgv pf plo phi pr pp pn pc, .agg #[.int .i64 4, .string dek, .int .i64 des, .int .i64 deg, .int .i64 dec, .string dkey, .int .i64 dpg, .bool dleaf, .string dlo, .string dhi, .int .i64 dr, .slice dp dn dc]] w fun e w' => Done w (Dl.apply ⟨pf, plo, phi, pr, pl⟩ ⟨4, ⟨dek, des, deg, dec⟩, dkey, dpg, ⟨dleaf, dlo, dhi, dr, dl⟩⟩) e w' := by
  obtain ⟨out, HO⟩ : ∃ out : Pp × Int, Hid (Dl.apply ⟨pf, plo, phi, pr, pl⟩ ⟨4, ⟨dek, des, deg, dec⟩, dkey, dpg, ⟨dleaf, dlo, dhi, dr, dl⟩⟩ = out) := ⟨_, rfl⟩
  rw [HO.out]
  have HX : Hid (Ens w pp pl) := hx
  have HL : Hid (pl.length = pn) := hlen
  have HDX : Hid (Ens w dp dl) := hdx
  have HDL : Hid (dl.length = dn) := hdn
  have HM : Hid (Dl.may ⟨4, ⟨dek, des, deg, dec⟩, dkey, dpg, ⟨dleaf, dlo, dhi, dr, dl⟩⟩ = true) := hmay
  clear hx hlen hdx hdn hmay
  obtain ⟨w0, hw0⟩ : ∃ w0, ((w.alloc (.cells #[.bool pf, .string plo, .string phi, .int .i64 pr, .slice pp pn pc] 24)).alloc (.cells #[.int .i64 4, .string dek, .int .i64 des, .int .i64 deg, .int .i64 dec, .string dkey, .int .i64 dpg, .bool dleaf, .string dlo, .string dhi, .int .i64 dr, .slice dp dn dc] 32)).alloc (.cells #[.bool false, .string ⟨#[]⟩, .string ⟨#[]⟩, .int .i64 0, .slice none 0 0] 24) = w0 := ⟨_, rfl⟩
  have HB0 : Hid (Below w.heap.size w w0) := by rw [← hw0]; exact (((Below.refl _ _).alloc (Nat.le_refl _) _).alloc (by simp) _).alloc (by simp; omega) _
  have HK0 : Hid (Bk w0 w.heap.size 24 #[.bool pf, .string plo, .string phi, .int .i64 pr, .slice pp pn pc]) := by rw [← hw0]; exact ((Bk.new _ _ _).alloc _).alloc _
  have HD0 : Hid (Bk w0 (w.heap.size + 1) 32 #[.int .i64 4, .string dek, .int .i64 des, .int .i64 deg, .int .i64 dec, .string dkey, .int .i64 dpg, .bool dleaf, .string dlo, .string dhi, .int .i64 dr, .slice dp dn dc]) := by rw [← hw0]; exact (Bk.new1 _ _ _ _).alloc _
  have HR0 : Hid (Bk w0 (w.heap.size + 1 + 1) 24 #[.bool false, .string ⟨#[]⟩, .string ⟨#[]⟩, .int .i64 0, .slice none 0 0]) := by rw [← hw0]; exact Bk.new2 _ _ _ _ _
  have x0 : w0.cell? ⟨w.heap.size + 1, 0, none⟩ = some (.int .i64 4) := HD0.out.cell 0
  have x1 : w0.cell? ⟨w.heap.size + 1, 1, none⟩ = some (.string dek) := HD0.out.cell 1
  have x2 : w0.cell? ⟨w.heap.size + 1, 2, none⟩ = some (.int .i64 des) := HD0.out.cell 2
  have x3 : w0.cell? ⟨w.heap.size + 1, 3, none⟩ = some (.int .i64 deg) := HD0.out.cell 3
  have x4 : w0.cell? ⟨w.heap.size + 1, 4, none⟩ = some (.int .i64 dec) := HD0.out.cell 4
  have x5 : w0.cell? ⟨w.heap.size + 1, 5, none⟩ = some (.string dkey) := HD0.out.cell 5
  have x6 : w0.cell? ⟨w.heap.size + 1, 6, none⟩ = some (.int .i64 dpg) := HD0.out.cell 6
  have x7 : w0.cell? ⟨w.heap.size + 1, 7, none⟩ = some (.bool dleaf) := HD0.out.cell 7
  have x8 : w0.cell? ⟨w.heap.size + 1, 8, none⟩ = some (.string dlo) := HD0.out.cell 8
  have x9 : w0.cell? ⟨w.heap.size + 1, 9, none⟩ = some (.string dhi) := HD0.out.cell 9
  have x10 : w0.cell? ⟨w.heap.size + 1, 10, none⟩ = some (.int .i64 dr) := HD0.out.cell 10
  have x11 : w0.cell? ⟨w.heap.size + 1, 11, none⟩ = some (.slice dp dn dc) := HD0.out.cell 11
  go_enter Tryz.func33, Tryz.ntmps33
  go_wp2_with fail
  clear hw0
  refine (dcheck_any ⟨4, ⟨dek, des, deg, dec⟩, dkey, dpg, ⟨dleaf, dlo, dhi, dr, dl⟩⟩ dp dn dc _ HDL.out (HDX.out.below HB0.out (Nat.le_refl _)) (by omega)).mono ?_
  rw [HM.out]
  rintro e w1 ⟨rfl, hb1⟩
  clear x0 x1 x2 x3 x4 x5 x6 x7 x8 x9 x10 x11
  have HB1 : Hid (Below w.heap.size w w1) := HB0.out.trans (hb1.mono HB0.out.size)
  have HK1 : Hid (Bk w1 w.heap.size 24 #[.bool pf, .string plo, .string phi, .int .i64 pr, .slice pp pn pc]) := HK0.out.below hb1 HK0.out.lt
  have HD1 : Hid (Bk w1 (w.heap.size + 1) 32 #[.int .i64 4, .string dek, .int .i64 des, .int .i64 deg, .int .i64 dec, .string dkey, .int .i64 dpg, .bool dleaf, .string dlo, .string dhi, .int .i64 dr, .slice dp dn dc]) := HD0.out.below hb1 HD0.out.lt
  have HR1 : Hid (Bk w1 (w.heap.size + 1 + 1) 24 #[.bool false, .string ⟨#[]⟩, .string ⟨#[]⟩, .int .i64 0, .slice none 0 0]) := HR0.out.below hb1 HR0.out.lt
  have HS1 : Hid (w.heap.size + 1 + 1 < w1.heap.size) := HR1.out.lt
  clear hb1
  simp only [if_true]
  go_wp2_with fail
  refine (refuse_ok _).mono ?_
  rintro e w2 ⟨rfl, hw2⟩
  have HB2 : Hid (Below w.heap.size w w2) := by rw [hw2]; exact HB1.out
  have HK2 : Hid (Bk w2 w.heap.size 24 #[.bool pf, .string plo, .string phi, .int .i64 pr, .slice pp pn pc]) := by rw [hw2]; exact HK1.out
  have HD2 : Hid (Bk w2 (w.heap.size + 1) 32 #[.int .i64 4, .string dek, .int .i64 des, .int .i64 deg, .int .i64 dec, .string dkey, .int .i64 dpg, .bool dleaf, .string dlo, .string dhi, .int .i64 dr, .slice dp dn dc]) := by rw [hw2]; exact HD1.out
  have HR2 : Hid (Bk w2 (w.heap.size + 1 + 1) 24 #[.bool false, .string ⟨#[]⟩, .string ⟨#[]⟩, .int .i64 0, .slice none 0 0]) := by rw [hw2]; exact HR1.out
  have HS1 : Hid (w.heap.size + 1 + 1 < w2.heap.size) := HR2.out.lt
  clear hw2 HB1 HK1 HD1 HR1
  have a0 : w2.cell? ⟨w.heap.size, 0, none⟩ = some (.bool pf) := HK2.out.cell 0
  have a1 : w2.cell? ⟨w.heap.size, 1, none⟩ = some (.string plo) := HK2.out.cell 1
  have a2 : w2.cell? ⟨w.heap.size, 2, none⟩ = some (.string phi) := HK2.out.cell 2
  have a3 : w2.cell? ⟨w.heap.size, 3, none⟩ = some (.int .i64 pr) := HK2.out.cell 3
  have a4 : w2.cell? ⟨w.heap.size, 4, none⟩ = some (.slice pp pn pc) := HK2.out.cell 4
  have x0 : w2.cell? ⟨w.heap.size + 1, 0, none⟩ = some (.int .i64 4) := HD2.out.cell 0
  have x1 : w2.cell? ⟨w.heap.size + 1, 1, none⟩ = some (.string dek) := HD2.out.cell 1
  have x2 : w2.cell? ⟨w.heap.size + 1, 2, none⟩ = some (.int .i64 des) := HD2.out.cell 2
  have x3 : w2.cell? ⟨w.heap.size + 1, 3, none⟩ = some (.int .i64 deg) := HD2.out.cell 3
  have x4 : w2.cell? ⟨w.heap.size + 1, 4, none⟩ = some (.int .i64 dec) := HD2.out.cell 4
  have x5 : w2.cell? ⟨w.heap.size + 1, 5, none⟩ = some (.string dkey) := HD2.out.cell 5
  have x6 : w2.cell? ⟨w.heap.size + 1, 6, none⟩ = some (.int .i64 dpg) := HD2.out.cell 6
  have x7 : w2.cell? ⟨w.heap.size + 1, 7, none⟩ = some (.bool dleaf) := HD2.out.cell 7
  have x8 : w2.cell? ⟨w.heap.size + 1, 8, none⟩ = some (.string dlo) := HD2.out.cell 8
  have x9 : w2.cell? ⟨w.heap.size + 1, 9, none⟩ = some (.string dhi) := HD2.out.cell 9
  have x10 : w2.cell? ⟨w.heap.size + 1, 10, none⟩ = some (.int .i64 dr) := HD2.out.cell 10
  have x11 : w2.cell? ⟨w.heap.size + 1, 11, none⟩ = some (.slice dp dn dc) := HD2.out.cell 11
  go_wp2_with fail
  refine (merge_any ⟨pf, plo, phi, pr, pl⟩ ⟨dleaf, dlo, dhi, dr, dl⟩ pp dp pn dn pc dc _ HL.out HDL.out (HX.out.below HB2.out (Nat.le_refl _)) (HDX.out.below HB2.out (Nat.le_refl _)) hp hdp hdl (by omega)).mono ?_
  obtain ⟨⟨G, kk⟩, hpt⟩ : ∃ o : Pp × Int, Pg.merge ⟨pf, plo, phi, pr, pl⟩ ⟨dleaf, dlo, dhi, dr, dl⟩ = o := ⟨_, rfl⟩
  rw [hpt]
  rintro e w3 ⟨v3, rfl, hg3, hb3⟩
  clear a0 a1 a2 a3 a4
  clear x0 x1 x2 x3 x4 x5 x6 x7 x8 x9 x10 x11
  have HF : Hid (out = (G, kk)) := by rw [Hid, ← HO.out, show Dl.apply ⟨pf, plo, phi, pr, pl⟩ ⟨4, ⟨dek, des, deg, dec⟩, dkey, dpg, ⟨dleaf, dlo, dhi, dr, dl⟩⟩ = _ from Dl.apply_4 HM.out, hpt]
  have HB3 : Hid (Below w.heap.size w w3) := HB2.out.trans (hb3.mono HB2.out.size)
  have HR3 : Hid (Bk w3 (w.heap.size + 1 + 1) 24 #[.bool false, .string ⟨#[]⟩, .string ⟨#[]⟩, .int .i64 0, .slice none 0 0]) := HR2.out.below hb3 HR2.out.lt
  have HBW3 : Hid (w2.heap.size ≤ w3.heap.size) := hb3.size
  obtain ⟨Gf, Glo, Ghi, Gr, Gl⟩ := G
  obtain ⟨Gp, Gc, rfl, hg4⟩ := hg3.pv
  simp only at hg4 ⊢
  obtain ⟨Gn, hGn⟩ : ∃ Gn, Gl.length = Gn := ⟨_, rfl⟩
  rw [hGn] at hg4 ⊢
  have HG3 : Hid (PgAt w3 w2.heap.size (pgv Gf Glo Ghi Gr Gp Gn Gc) ⟨Gf, Glo, Ghi, Gr, Gl⟩) := hg4
  clear hg3 hg4 hb3 hGn hpt
  by_cases hk0 : kk = 0
  · subst hk0
    go_wp2_with fail
    refine (sure_ok Gf Glo Ghi Gr Gp Gn Gc _).mono ?_
    rintro e w4 ⟨rfl, hb4⟩
    have HB4 : Hid (Below w.heap.size w w4) := HB3.out.trans (hb4.mono HB3.out.size)
    have HR4 : Hid (Bk w4 (w.heap.size + 1 + 1) 24 #[.bool false, .string ⟨#[]⟩, .string ⟨#[]⟩, .int .i64 0, .slice none 0 0]) := HR3.out.below hb4 HR3.out.lt
    have HG4 : Hid (PgAt w4 w2.heap.size (pgv Gf Glo Ghi Gr Gp Gn Gc) ⟨Gf, Glo, Ghi, Gr, Gl⟩) := HG3.out.below hb4 (Nat.le_refl _)
    clear hb4
    have b0 : w4.cell? ⟨w.heap.size + 1 + 1, 0, none⟩ = some (.bool false) := HR4.out.cell 0
    have bf0 : w4.frozen? ⟨w.heap.size + 1 + 1, 0, none⟩ = false := HR4.out.frozen 0
    have b1 : w4.cell? ⟨w.heap.size + 1 + 1, 1, none⟩ = some (.string ⟨#[]⟩) := HR4.out.cell 1
    have bf1 : w4.frozen? ⟨w.heap.size + 1 + 1, 1, none⟩ = false := HR4.out.frozen 1
    have b2 : w4.cell? ⟨w.heap.size + 1 + 1, 2, none⟩ = some (.string ⟨#[]⟩) := HR4.out.cell 2
    have bf2 : w4.frozen? ⟨w.heap.size + 1 + 1, 2, none⟩ = false := HR4.out.frozen 2
    have b3 : w4.cell? ⟨w.heap.size + 1 + 1, 3, none⟩ = some (.int .i64 0) := HR4.out.cell 3
    have bf3 : w4.frozen? ⟨w.heap.size + 1 + 1, 3, none⟩ = false := HR4.out.frozen 3
    have b4 : w4.cell? ⟨w.heap.size + 1 + 1, 4, none⟩ = some (.slice none 0 0) := HR4.out.cell 4
    have bf4 : w4.frozen? ⟨w.heap.size + 1 + 1, 4, none⟩ = false := HR4.out.frozen 4
    go_wp2
    clear b0 bf0 b1 bf1 b2 bf2 b3 bf3 b4 bf4
    have k1 := HR4.out.five (.bool Gf) (.string Glo) (.string Ghi) (.int .i64 Gr) (.slice Gp Gn Gc)
    have ht : Tn [w.heap.size + 1 + 1] w4 _ := (Tn.refl _ w4).five (R := w.heap.size + 1 + 1) (.inl (by simp)) (.bool Gf) (.string Glo) (.string Ghi) (.int .i64 Gr) (.slice Gp Gn Gc)
    refine bodyPost_ret (results_one (T' := 24) (cs := [.bool Gf, .string Glo, .string Ghi, .int .i64 Gr, .slice Gp Gn Gc]) rfl rfl pg_agg pg_size rfl k1) rfl ?_
    rw [HF.out]
    exact ⟨.inl ⟨rfl, _, rfl, (HG4.out.tn ht (by have := HS1.out; simp; omega)).mono HB2.out.size⟩, HB4.out.trans (ht.below HB4.out.size (by simp; omega))⟩
  · go_wp2_with fail
    refine (sure_no Gf Glo Ghi Gr Gp Gn Gc _ kk hk0).mono ?_
    rintro e w4 ⟨rfl, hb4⟩
    have HB4 : Hid (Below w.heap.size w w4) := HB3.out.trans (hb4.mono HB3.out.size)
    have HR4 : Hid (Bk w4 (w.heap.size + 1 + 1) 24 #[.bool false, .string ⟨#[]⟩, .string ⟨#[]⟩, .int .i64 0, .slice none 0 0]) := HR3.out.below hb4 HR3.out.lt
    refine ⟨rfl, ?_⟩
    rw [HF.out]
    exact ⟨.inr ⟨hk0, rfl⟩, HB4.out⟩

set_option maxHeartbeats 2000000 in
theorem applied_5 (pf : Bool) (plo phi : ByteArray) (pr : Int) (pp : Option Addr) (pn pc : Nat) (pl : List En) (dek : ByteArray) (des deg dec : Int) (dkey : ByteArray) (dpg : Int) (dleaf : Bool) (dlo dhi : ByteArray) (dr : Int) (dp : Option Addr) (dn dc : Nat) (dl : List En) (w : World) (hlen : pl.length = pn) (hx : Ens w pp pl) (hl : pn ≤ 3518437208780) (hp : pp = none → pn = 0 ∧ pc = 0) (hdn : dl.length = dn) (hdx : Ens w dp dl) (hdl : (pn + dn) * 40 ≤ 140737488355328) (hdp : dp = none → dn = 0 ∧ dc = 0) (hmay : Dl.may ⟨5, ⟨dek, des, deg, dec⟩, dkey, dpg, ⟨dleaf, dlo, dhi, dr, dl⟩⟩ = true) :
    Calls Tryz.prog 33 #[pgv pf plo phi pr pp pn pc, .agg #[.int .i64 5, .string dek, .int .i64 des, .int .i64 deg, .int .i64 dec, .string dkey, .int .i64 dpg, .bool dleaf, .string dlo, .string dhi, .int .i64 dr, .slice dp dn dc]] w fun e w' => Done w (Dl.apply ⟨pf, plo, phi, pr, pl⟩ ⟨5, ⟨dek, des, deg, dec⟩, dkey, dpg, ⟨dleaf, dlo, dhi, dr, dl⟩⟩) e w' := by
  obtain ⟨out, HO⟩ : ∃ out : Pp × Int, Hid (Dl.apply ⟨pf, plo, phi, pr, pl⟩ ⟨5, ⟨dek, des, deg, dec⟩, dkey, dpg, ⟨dleaf, dlo, dhi, dr, dl⟩⟩ = out) := ⟨_, rfl⟩
  rw [HO.out]
  have HX : Hid (Ens w pp pl) := hx
  have HL : Hid (pl.length = pn) := hlen
  have HDX : Hid (Ens w dp dl) := hdx
  have HDL : Hid (dl.length = dn) := hdn
  have HM : Hid (Dl.may ⟨5, ⟨dek, des, deg, dec⟩, dkey, dpg, ⟨dleaf, dlo, dhi, dr, dl⟩⟩ = true) := hmay
  clear hx hlen hdx hdn hmay
  obtain ⟨w0, hw0⟩ : ∃ w0, ((w.alloc (.cells #[.bool pf, .string plo, .string phi, .int .i64 pr, .slice pp pn pc] 24)).alloc (.cells #[.int .i64 5, .string dek, .int .i64 des, .int .i64 deg, .int .i64 dec, .string dkey, .int .i64 dpg, .bool dleaf, .string dlo, .string dhi, .int .i64 dr, .slice dp dn dc] 32)).alloc (.cells #[.bool false, .string ⟨#[]⟩, .string ⟨#[]⟩, .int .i64 0, .slice none 0 0] 24) = w0 := ⟨_, rfl⟩
  have HB0 : Hid (Below w.heap.size w w0) := by rw [← hw0]; exact (((Below.refl _ _).alloc (Nat.le_refl _) _).alloc (by simp) _).alloc (by simp; omega) _
  have HK0 : Hid (Bk w0 w.heap.size 24 #[.bool pf, .string plo, .string phi, .int .i64 pr, .slice pp pn pc]) := by rw [← hw0]; exact ((Bk.new _ _ _).alloc _).alloc _
  have HD0 : Hid (Bk w0 (w.heap.size + 1) 32 #[.int .i64 5, .string dek, .int .i64 des, .int .i64 deg, .int .i64 dec, .string dkey, .int .i64 dpg, .bool dleaf, .string dlo, .string dhi, .int .i64 dr, .slice dp dn dc]) := by rw [← hw0]; exact (Bk.new1 _ _ _ _).alloc _
  have HR0 : Hid (Bk w0 (w.heap.size + 1 + 1) 24 #[.bool false, .string ⟨#[]⟩, .string ⟨#[]⟩, .int .i64 0, .slice none 0 0]) := by rw [← hw0]; exact Bk.new2 _ _ _ _ _
  have x0 : w0.cell? ⟨w.heap.size + 1, 0, none⟩ = some (.int .i64 5) := HD0.out.cell 0
  have x1 : w0.cell? ⟨w.heap.size + 1, 1, none⟩ = some (.string dek) := HD0.out.cell 1
  have x2 : w0.cell? ⟨w.heap.size + 1, 2, none⟩ = some (.int .i64 des) := HD0.out.cell 2
  have x3 : w0.cell? ⟨w.heap.size + 1, 3, none⟩ = some (.int .i64 deg) := HD0.out.cell 3
  have x4 : w0.cell? ⟨w.heap.size + 1, 4, none⟩ = some (.int .i64 dec) := HD0.out.cell 4
  have x5 : w0.cell? ⟨w.heap.size + 1, 5, none⟩ = some (.string dkey) := HD0.out.cell 5
  have x6 : w0.cell? ⟨w.heap.size + 1, 6, none⟩ = some (.int .i64 dpg) := HD0.out.cell 6
  have x7 : w0.cell? ⟨w.heap.size + 1, 7, none⟩ = some (.bool dleaf) := HD0.out.cell 7
  have x8 : w0.cell? ⟨w.heap.size + 1, 8, none⟩ = some (.string dlo) := HD0.out.cell 8
  have x9 : w0.cell? ⟨w.heap.size + 1, 9, none⟩ = some (.string dhi) := HD0.out.cell 9
  have x10 : w0.cell? ⟨w.heap.size + 1, 10, none⟩ = some (.int .i64 dr) := HD0.out.cell 10
  have x11 : w0.cell? ⟨w.heap.size + 1, 11, none⟩ = some (.slice dp dn dc) := HD0.out.cell 11
  go_enter Tryz.func33, Tryz.ntmps33
  go_wp2_with fail
  clear hw0
  refine (dcheck_any ⟨5, ⟨dek, des, deg, dec⟩, dkey, dpg, ⟨dleaf, dlo, dhi, dr, dl⟩⟩ dp dn dc _ HDL.out (HDX.out.below HB0.out (Nat.le_refl _)) (by omega)).mono ?_
  rw [HM.out]
  rintro e w1 ⟨rfl, hb1⟩
  clear x0 x1 x2 x3 x4 x5 x6 x7 x8 x9 x10 x11
  have HB1 : Hid (Below w.heap.size w w1) := HB0.out.trans (hb1.mono HB0.out.size)
  have HK1 : Hid (Bk w1 w.heap.size 24 #[.bool pf, .string plo, .string phi, .int .i64 pr, .slice pp pn pc]) := HK0.out.below hb1 HK0.out.lt
  have HD1 : Hid (Bk w1 (w.heap.size + 1) 32 #[.int .i64 5, .string dek, .int .i64 des, .int .i64 deg, .int .i64 dec, .string dkey, .int .i64 dpg, .bool dleaf, .string dlo, .string dhi, .int .i64 dr, .slice dp dn dc]) := HD0.out.below hb1 HD0.out.lt
  have HR1 : Hid (Bk w1 (w.heap.size + 1 + 1) 24 #[.bool false, .string ⟨#[]⟩, .string ⟨#[]⟩, .int .i64 0, .slice none 0 0]) := HR0.out.below hb1 HR0.out.lt
  have HS1 : Hid (w.heap.size + 1 + 1 < w1.heap.size) := HR1.out.lt
  clear hb1
  simp only [if_true]
  go_wp2_with fail
  refine (refuse_ok _).mono ?_
  rintro e w2 ⟨rfl, hw2⟩
  have HB2 : Hid (Below w.heap.size w w2) := by rw [hw2]; exact HB1.out
  have HK2 : Hid (Bk w2 w.heap.size 24 #[.bool pf, .string plo, .string phi, .int .i64 pr, .slice pp pn pc]) := by rw [hw2]; exact HK1.out
  have HD2 : Hid (Bk w2 (w.heap.size + 1) 32 #[.int .i64 5, .string dek, .int .i64 des, .int .i64 deg, .int .i64 dec, .string dkey, .int .i64 dpg, .bool dleaf, .string dlo, .string dhi, .int .i64 dr, .slice dp dn dc]) := by rw [hw2]; exact HD1.out
  have HR2 : Hid (Bk w2 (w.heap.size + 1 + 1) 24 #[.bool false, .string ⟨#[]⟩, .string ⟨#[]⟩, .int .i64 0, .slice none 0 0]) := by rw [hw2]; exact HR1.out
  have HS1 : Hid (w.heap.size + 1 + 1 < w2.heap.size) := HR2.out.lt
  clear hw2 HB1 HK1 HD1 HR1
  have x0 : w2.cell? ⟨w.heap.size + 1, 0, none⟩ = some (.int .i64 5) := HD2.out.cell 0
  have x1 : w2.cell? ⟨w.heap.size + 1, 1, none⟩ = some (.string dek) := HD2.out.cell 1
  have x2 : w2.cell? ⟨w.heap.size + 1, 2, none⟩ = some (.int .i64 des) := HD2.out.cell 2
  have x3 : w2.cell? ⟨w.heap.size + 1, 3, none⟩ = some (.int .i64 deg) := HD2.out.cell 3
  have x4 : w2.cell? ⟨w.heap.size + 1, 4, none⟩ = some (.int .i64 dec) := HD2.out.cell 4
  have x5 : w2.cell? ⟨w.heap.size + 1, 5, none⟩ = some (.string dkey) := HD2.out.cell 5
  have x6 : w2.cell? ⟨w.heap.size + 1, 6, none⟩ = some (.int .i64 dpg) := HD2.out.cell 6
  have x7 : w2.cell? ⟨w.heap.size + 1, 7, none⟩ = some (.bool dleaf) := HD2.out.cell 7
  have x8 : w2.cell? ⟨w.heap.size + 1, 8, none⟩ = some (.string dlo) := HD2.out.cell 8
  have x9 : w2.cell? ⟨w.heap.size + 1, 9, none⟩ = some (.string dhi) := HD2.out.cell 9
  have x10 : w2.cell? ⟨w.heap.size + 1, 10, none⟩ = some (.int .i64 dr) := HD2.out.cell 10
  have x11 : w2.cell? ⟨w.heap.size + 1, 11, none⟩ = some (.slice dp dn dc) := HD2.out.cell 11
  go_wp2
  refine ⟨rfl, ?_⟩
  rw [← HO.out, Dl.apply_5 HM.out]
  exact ⟨.inr ⟨by decide, rfl⟩, HB2.out⟩

theorem Dl.apply_zero (g : Pp) (d : De) (h : (Dl.apply g d).2 ≠ 0) : (Dl.apply g d).1 = Pg.zero := by
  unfold Dl.apply at h ⊢
  by_cases hm : Dl.may d = true
  · rw [if_pos hm] at h ⊢
    by_cases h1 : d.k = 1
    · rw [if_pos h1] at h ⊢
      unfold Pg.put at h ⊢
      split
      · rename_i hh
        rw [if_pos hh] at h
        exact absurd rfl h
      · rfl
    · rw [if_neg h1] at h ⊢
      by_cases h2 : d.k = 2
      · rw [if_pos h2] at h ⊢
        split
        · rename_i hh
          rw [if_pos hh] at h
          exact absurd rfl h
        · rfl
      · rw [if_neg h2] at h ⊢
        by_cases h3 : d.k = 3
        · rw [if_pos h3] at h ⊢
          split
          · rename_i hh
            rw [if_pos hh] at h
            exact absurd rfl h
          · rfl
        · rw [if_neg h3] at h ⊢
          by_cases h4 : d.k = 4
          · rw [if_pos h4] at h ⊢
            unfold Pg.merge at h ⊢
            split
            · rename_i hh
              rw [if_pos hh] at h
              exact absurd rfl h
            · rfl
          · rw [if_neg h4]
  · rw [if_neg hm]

theorem applied_any (g : Pp) (d : De) (pp dp : Option Addr) (pn pc dn dc : Nat) (w : World) (hlen : g.l.length = pn) (hx : Ens w pp g.l) (hl : pn ≤ 3518437208780) (hp : pp = none → pn = 0 ∧ pc = 0) (hdn : d.rt.l.length = dn) (hdx : Ens w dp d.rt.l) (hdl : (pn + dn) * 40 ≤ 140737488355328) (hdp : dp = none → dn = 0 ∧ dc = 0) :
    Calls Tryz.prog 33 #[pgv g.leaf g.lo g.hi g.r pp pn pc, dlv d.k d.e d.key d.pg d.rt.leaf d.rt.lo d.rt.hi d.rt.r dp dn dc] w fun e w' => Done w (Dl.apply g d) e w' := by
  obtain ⟨pf, plo, phi, pr, pl⟩ := g
  obtain ⟨dk, ⟨dek, des, deg, dec⟩, dkey, dpg, ⟨dleaf, dlo, dhi, dr, dl⟩⟩ := d
  cases hm : Dl.may ⟨dk, ⟨dek, des, deg, dec⟩, dkey, dpg, ⟨dleaf, dlo, dhi, dr, dl⟩⟩ with
  | false => exact applied_not dk pf plo phi pr pp pn pc pl dek des deg dec dkey dpg dleaf dlo dhi dr dp dn dc dl w hlen hx hl hp hdn hdx hdl hdp hm
  | true =>
    rcases Dl.may_kind hm with h | h | h | h | h <;> simp only at h <;> subst h
    · exact applied_1 pf plo phi pr pp pn pc pl dek des deg dec dkey dpg dleaf dlo dhi dr dp dn dc dl w hlen hx hl hp hdn hdx hdl hdp hm
    · exact applied_2 pf plo phi pr pp pn pc pl dek des deg dec dkey dpg dleaf dlo dhi dr dp dn dc dl w hlen hx hl hp hdn hdx hdl hdp hm
    · exact applied_3 pf plo phi pr pp pn pc pl dek des deg dec dkey dpg dleaf dlo dhi dr dp dn dc dl w hlen hx hl hp hdn hdx hdl hdp hm
    · exact applied_4 pf plo phi pr pp pn pc pl dek des deg dec dkey dpg dleaf dlo dhi dr dp dn dc dl w hlen hx hl hp hdn hdx hdl hdp hm
    · exact applied_5 pf plo phi pr pp pn pc pl dek des deg dec dkey dpg dleaf dlo dhi dr dp dn dc dl w hlen hx hl hp hdn hdx hdl hdp hm

set_option maxHeartbeats 2000000 in
theorem apply1_any (g : Pp) (d : De) (pp dp : Option Addr) (pn pc dn dc B C : Nat) (w : World) (hB : Bk w B 24 (pgc g.leaf g.lo g.hi g.r pp pn pc)) (hC : Bk w C 32 (dlc d.k d.e d.key d.pg d.rt.leaf d.rt.lo d.rt.hi d.rt.r dp dn dc))
    (hlen : g.l.length = pn) (hx : Ens w pp g.l) (hl : pn ≤ 3518437208780) (hp : pp = none → pn = 0 ∧ pc = 0) (hdn : d.rt.l.length = dn) (hdx : Ens w dp d.rt.l) (hdl : (pn + dn) * 40 ≤ 140737488355328) (hdp : dp = none → dn = 0 ∧ dc = 0) :
    Calls Tryz.prog 32 #[.pointer (some ⟨B, 0, none⟩), .pointer (some ⟨C, 0, none⟩)] w fun e w' => Done w (Dl.apply g d) e w' := by
  have hq := fun (W : World) (h : Below w.heap.size w W) => applied_any g d pp dp pn pc dn dc W hlen (hx.below h (Nat.le_refl _)) hl hp hdn (hdx.below h (Nat.le_refl _)) hdl hdp
  have HQ : Hid _ := hq
  obtain ⟨out, HO⟩ : ∃ out : Pp × Int, Hid (Dl.apply g d = out) := ⟨_, rfl⟩
  rw [HO.out] at HQ
  rw [HO.out]
  clear hq hlen hx hdn hdx HO
  obtain ⟨pf, plo, phi, pr, pl⟩ := g
  obtain ⟨dk, ⟨dek, des, deg, dec⟩, dkey, dpg, ⟨dleaf, dlo, dhi, dr, dl⟩⟩ := d
  simp only at *
  obtain ⟨w0, hw0⟩ : ∃ w0, w.alloc (.cells #[.bool false, .string ⟨#[]⟩, .string ⟨#[]⟩, .int .i64 0, .slice none 0 0] 24) = w0 := ⟨_, rfl⟩
  have HB0 : Hid (Below w.heap.size w w0) := by rw [← hw0]; exact (Below.refl _ _).alloc (Nat.le_refl _) _
  have HK0 : Hid (Bk w0 B 24 #[.bool pf, .string plo, .string phi, .int .i64 pr, .slice pp pn pc]) := by rw [← hw0]; exact hB.alloc _
  have HD0 : Hid (Bk w0 C 32 #[.int .i64 dk, .string dek, .int .i64 des, .int .i64 deg, .int .i64 dec, .string dkey, .int .i64 dpg, .bool dleaf, .string dlo, .string dhi, .int .i64 dr, .slice dp dn dc]) := by rw [← hw0]; exact hC.alloc _
  have HR0 : Hid (Bk w0 w.heap.size 24 #[.bool false, .string ⟨#[]⟩, .string ⟨#[]⟩, .int .i64 0, .slice none 0 0]) := by rw [← hw0]; exact Bk.new _ _ _
  have HS0 : Hid (w.heap.size < w0.heap.size) := HR0.out.lt
  clear hB hC
  have a0 : w0.cell? ⟨B, 0, none⟩ = some (.bool pf) := HK0.out.cell 0
  have a1 : w0.cell? ⟨B, 1, none⟩ = some (.string plo) := HK0.out.cell 1
  have a2 : w0.cell? ⟨B, 2, none⟩ = some (.string phi) := HK0.out.cell 2
  have a3 : w0.cell? ⟨B, 3, none⟩ = some (.int .i64 pr) := HK0.out.cell 3
  have a4 : w0.cell? ⟨B, 4, none⟩ = some (.slice pp pn pc) := HK0.out.cell 4
  have x0 : w0.cell? ⟨C, 0, none⟩ = some (.int .i64 dk) := HD0.out.cell 0
  have x1 : w0.cell? ⟨C, 1, none⟩ = some (.string dek) := HD0.out.cell 1
  have x2 : w0.cell? ⟨C, 2, none⟩ = some (.int .i64 des) := HD0.out.cell 2
  have x3 : w0.cell? ⟨C, 3, none⟩ = some (.int .i64 deg) := HD0.out.cell 3
  have x4 : w0.cell? ⟨C, 4, none⟩ = some (.int .i64 dec) := HD0.out.cell 4
  have x5 : w0.cell? ⟨C, 5, none⟩ = some (.string dkey) := HD0.out.cell 5
  have x6 : w0.cell? ⟨C, 6, none⟩ = some (.int .i64 dpg) := HD0.out.cell 6
  have x7 : w0.cell? ⟨C, 7, none⟩ = some (.bool dleaf) := HD0.out.cell 7
  have x8 : w0.cell? ⟨C, 8, none⟩ = some (.string dlo) := HD0.out.cell 8
  have x9 : w0.cell? ⟨C, 9, none⟩ = some (.string dhi) := HD0.out.cell 9
  have x10 : w0.cell? ⟨C, 10, none⟩ = some (.int .i64 dr) := HD0.out.cell 10
  have x11 : w0.cell? ⟨C, 11, none⟩ = some (.slice dp dn dc) := HD0.out.cell 11
  go_enter Tryz.func32, Tryz.ntmps32
  go_wp2_with fail
  clear hw0
  refine (HQ.out _ HB0.out).mono ?_
  rintro e w1 ⟨hdone, hb1⟩
  clear a0 a1 a2 a3 a4
  clear x0 x1 x2 x3 x4 x5 x6 x7 x8 x9 x10 x11
  have HB1 : Hid (Below w.heap.size w w1) := HB0.out.trans (hb1.mono HB0.out.size)
  have HR1 : Hid (Bk w1 w.heap.size 24 #[.bool false, .string ⟨#[]⟩, .string ⟨#[]⟩, .int .i64 0, .slice none 0 0]) := HR0.out.below hb1 HR0.out.lt
  clear hb1
  rcases hdone with ⟨hk0, v3, rfl, hg3⟩ | ⟨hk0, rfl⟩
  · obtain ⟨⟨Gf, Glo, Ghi, Gr, Gl⟩, kk⟩ := out
    simp only at hk0 hg3
    subst hk0
    obtain ⟨Gp, Gc, rfl, hg4⟩ := hg3.pv
    simp only at hg4 ⊢
    obtain ⟨Gn, hGn⟩ : ∃ Gn, Gl.length = Gn := ⟨_, rfl⟩
    rw [hGn] at hg4 ⊢
    have HG3 : Hid (PgAt w1 w0.heap.size (pgv Gf Glo Ghi Gr Gp Gn Gc) ⟨Gf, Glo, Ghi, Gr, Gl⟩) := hg4
    clear hg3 hg4 hGn
    have b0 : w1.cell? ⟨w.heap.size, 0, none⟩ = some (.bool false) := HR1.out.cell 0
    have bf0 : w1.frozen? ⟨w.heap.size, 0, none⟩ = false := HR1.out.frozen 0
    have b1 : w1.cell? ⟨w.heap.size, 1, none⟩ = some (.string ⟨#[]⟩) := HR1.out.cell 1
    have bf1 : w1.frozen? ⟨w.heap.size, 1, none⟩ = false := HR1.out.frozen 1
    have b2 : w1.cell? ⟨w.heap.size, 2, none⟩ = some (.string ⟨#[]⟩) := HR1.out.cell 2
    have bf2 : w1.frozen? ⟨w.heap.size, 2, none⟩ = false := HR1.out.frozen 2
    have b3 : w1.cell? ⟨w.heap.size, 3, none⟩ = some (.int .i64 0) := HR1.out.cell 3
    have bf3 : w1.frozen? ⟨w.heap.size, 3, none⟩ = false := HR1.out.frozen 3
    have b4 : w1.cell? ⟨w.heap.size, 4, none⟩ = some (.slice none 0 0) := HR1.out.cell 4
    have bf4 : w1.frozen? ⟨w.heap.size, 4, none⟩ = false := HR1.out.frozen 4
    go_wp2
    clear b0 bf0 b1 bf1 b2 bf2 b3 bf3 b4 bf4
    have k1 := HR1.out.five (.bool Gf) (.string Glo) (.string Ghi) (.int .i64 Gr) (.slice Gp Gn Gc)
    have ht : Tn [w.heap.size] w1 _ := (Tn.refl _ w1).five (R := w.heap.size) (.inl (by simp)) (.bool Gf) (.string Glo) (.string Ghi) (.int .i64 Gr) (.slice Gp Gn Gc)
    refine bodyPost_ret (results_one (T' := 24) (cs := [.bool Gf, .string Glo, .string Ghi, .int .i64 Gr, .slice Gp Gn Gc]) rfl rfl pg_agg pg_size rfl k1) rfl ?_
    exact ⟨.inl ⟨rfl, _, rfl, (HG3.out.tn ht (by have := HS0.out; simp; omega)).mono HB0.out.size⟩, HB1.out.trans (ht.below HB1.out.size (by simp))⟩
  · refine ⟨rfl, ?_⟩
    exact ⟨.inr ⟨hk0, rfl⟩, HB1.out⟩

set_option maxHeartbeats 2000000 in
theorem apply_any (g : Pp) (d : De) (pp dp : Option Addr) (pn pc dn dc : Nat) (w : World) (hlen : g.l.length = pn) (hx : Ens w pp g.l) (hl : pn ≤ 3518437208780) (hp : pp = none → pn = 0 ∧ pc = 0) (hdn : d.rt.l.length = dn) (hdx : Ens w dp d.rt.l) (hdl : (pn + dn) * 40 ≤ 140737488355328) (hdp : dp = none → dn = 0 ∧ dc = 0) :
    Calls Tryz.prog 13 #[pgv g.leaf g.lo g.hi g.r pp pn pc, dlv d.k d.e d.key d.pg d.rt.leaf d.rt.lo d.rt.hi d.rt.r dp dn dc] w fun e w' => ∃ v, e = .returned (.tuple #[v, .int .i64 (Dl.apply g d).2]) ∧ PgAt w' w.heap.size v (Dl.apply g d).1 ∧ Below w.heap.size w w' := by
  have hmf : ∀ (fn : Fn) (first cap : Array Value) (w : World), (Instr.makeFunc fn first cap).run Tryz.prog w = .ok (.func fn first cap) w := fun _ _ _ _ => rfl
  have eg : ∀ args w, (callFunc 32 args).run Tryz.prog w = .ok (.enter 32 args) w := enters_of Tryz.func32 (by kernel_rfl) rfl
  obtain ⟨w0, hw0⟩ : ∃ w0, ((w.alloc (.cells (pgc g.leaf g.lo g.hi g.r pp pn pc) 24)).alloc (.cells (dlc d.k d.e d.key d.pg d.rt.leaf d.rt.lo d.rt.hi d.rt.r dp dn dc) 32)).alloc (.cells #[.bool false, .string ⟨#[]⟩, .string ⟨#[]⟩, .int .i64 0, .slice none 0 0] 24) = w0 := ⟨_, rfl⟩
  have HB0 : Hid (Below w.heap.size w w0) := by rw [← hw0]; exact (((Below.refl _ _).alloc (Nat.le_refl _) _).alloc (by simp) _).alloc (by simp; omega) _
  have HR0 : Hid (Bk w0 (w.heap.size + 1 + 1) 24 #[.bool false, .string ⟨#[]⟩, .string ⟨#[]⟩, .int .i64 0, .slice none 0 0]) := by rw [← hw0]; exact Bk.new2 _ _ _ _ _
  have HS0 : Hid (w.heap.size + 1 + 1 < w0.heap.size) := HR0.out.lt
  have hk0 : Bk w0 w.heap.size 24 (pgc g.leaf g.lo g.hi g.r pp pn pc) := by rw [← hw0]; exact ((Bk.new _ _ _).alloc _).alloc _
  have hd0 : Bk w0 (w.heap.size + 1) 32 (dlc d.k d.e d.key d.pg d.rt.leaf d.rt.lo d.rt.hi d.rt.r dp dn dc) := by rw [← hw0]; exact (Bk.new1 _ _ _ _).alloc _
  have hbb : Below w.heap.size w ((w0.alloc (.cells zc 24)).alloc (.cells #[.int .i64 0] 34)) := (HB0.out.alloc HB0.out.size _).alloc (by have := HB0.out.size; simp; omega) _
  have hq := apply1_any g d pp dp pn pc dn dc w.heap.size (w.heap.size + 1) ((w0.alloc (.cells zc 24)).alloc (.cells #[.int .i64 0] 34)) ((hk0.alloc _).alloc _) ((hd0.alloc _).alloc _) hlen (hx.below hbb (Nat.le_refl _)) hl hp hdn (hdx.below hbb (Nat.le_refl _)) hdl hdp
  have hz := Dl.apply_zero g d
  have hcc : Calls Tryz.prog 28 #[.func (.func 32) #[] #[.pointer (some ⟨w.heap.size, 0, none⟩), .pointer (some ⟨w.heap.size + 1, 0, none⟩)]] w0 fun e w' => ∃ v, e = .returned (.tuple #[v, .int .i64 (Dl.apply g d).2]) ∧ PgAt w' w0.heap.size v (Dl.apply g d).1 ∧ Below w0.heap.size w0 w' := by
    by_cases h0 : (Dl.apply g d).2 = 0
    · rw [h0]
      refine caughtP_ok _ _ eg (Dl.apply g d).1 w0 (hq.mono ?_)
      rintro e w' ⟨hdone, hb⟩
      rcases hdone with ⟨-, v, rfl, hg⟩ | ⟨h1, -⟩
      · exact ⟨v, rfl, by simpa using hg, by simpa using hb⟩
      · exact absurd h0 h1
    · rw [hz h0]
      refine (caughtP_err _ _ eg (Dl.apply g d).2 w0 (hq.mono ?_)).mono ?_
      · rintro e w' ⟨hdone, hb⟩
        rcases hdone with ⟨h1, -⟩ | ⟨-, rfl⟩
        · exact absurd h1 h0
        · exact ⟨rfl, by simpa using hb⟩
      · rintro e w' ⟨rfl, hb⟩
        exact ⟨_, rfl, PgAt.zero _ _, hb⟩
  have HQ : Hid _ := hcc
  obtain ⟨⟨⟨Gf, Glo, Ghi, Gr, Gl⟩, kk⟩, HO⟩ : ∃ out : Pp × Int, Hid (Dl.apply g d = out) := ⟨_, rfl⟩
  rw [HO.out] at HQ
  rw [HO.out]
  clear hq hz hcc hlen hx hdn hdx HO hk0 hd0 hbb
  obtain ⟨pf, plo, phi, pr, pl⟩ := g
  obtain ⟨dk, ⟨dek, des, deg, dec⟩, dkey, dpg, ⟨dleaf, dlo, dhi, dr, dl⟩⟩ := d
  simp only at *
  go_enter Tryz.func13, Tryz.ntmps13
  go_wp2_with fail
  clear hw0
  refine Calls.mono HQ.out ?_
  rintro e w1 ⟨v, rfl, hg3, hb1⟩
  obtain ⟨Gp, Gc, rfl, hg4⟩ := hg3.pv
  simp only at hg4 ⊢
  obtain ⟨Gn, hGn⟩ : ∃ Gn, Gl.length = Gn := ⟨_, rfl⟩
  rw [hGn] at hg4 ⊢
  have HG3 : Hid (PgAt w1 w0.heap.size (pgv Gf Glo Ghi Gr Gp Gn Gc) ⟨Gf, Glo, Ghi, Gr, Gl⟩) := hg4
  have HB1 : Hid (Below w.heap.size w w1) := HB0.out.trans (hb1.mono HB0.out.size)
  have HR1 : Hid (Bk w1 (w.heap.size + 1 + 1) 24 #[.bool false, .string ⟨#[]⟩, .string ⟨#[]⟩, .int .i64 0, .slice none 0 0]) := HR0.out.below hb1 HR0.out.lt
  clear hg3 hg4 hb1 hGn
  have b0 : w1.cell? ⟨w.heap.size + 1 + 1, 0, none⟩ = some (.bool false) := HR1.out.cell 0
  have bf0 : w1.frozen? ⟨w.heap.size + 1 + 1, 0, none⟩ = false := HR1.out.frozen 0
  have b1 : w1.cell? ⟨w.heap.size + 1 + 1, 1, none⟩ = some (.string ⟨#[]⟩) := HR1.out.cell 1
  have bf1 : w1.frozen? ⟨w.heap.size + 1 + 1, 1, none⟩ = false := HR1.out.frozen 1
  have b2 : w1.cell? ⟨w.heap.size + 1 + 1, 2, none⟩ = some (.string ⟨#[]⟩) := HR1.out.cell 2
  have bf2 : w1.frozen? ⟨w.heap.size + 1 + 1, 2, none⟩ = false := HR1.out.frozen 2
  have b3 : w1.cell? ⟨w.heap.size + 1 + 1, 3, none⟩ = some (.int .i64 0) := HR1.out.cell 3
  have bf3 : w1.frozen? ⟨w.heap.size + 1 + 1, 3, none⟩ = false := HR1.out.frozen 3
  have b4 : w1.cell? ⟨w.heap.size + 1 + 1, 4, none⟩ = some (.slice none 0 0) := HR1.out.cell 4
  have bf4 : w1.frozen? ⟨w.heap.size + 1 + 1, 4, none⟩ = false := HR1.out.frozen 4
  go_wp2
  clear b0 bf0 b1 bf1 b2 bf2 b3 bf3 b4 bf4
  have k1 := HR1.out.five (.bool Gf) (.string Glo) (.string Ghi) (.int .i64 Gr) (.slice Gp Gn Gc)
  have ht : Tn [w.heap.size + 1 + 1] w1 _ := (Tn.refl _ w1).five (R := w.heap.size + 1 + 1) (.inl (by simp)) (.bool Gf) (.string Glo) (.string Ghi) (.int .i64 Gr) (.slice Gp Gn Gc)
  refine bodyPost_ret (results_two (T' := 24) (cs := [.bool Gf, .string Glo, .string Ghi, .int .i64 Gr, .slice Gp Gn Gc]) rfl rfl pg_agg pg_size rfl k1) rfl ?_
  exact ⟨_, rfl, (HG3.out.tn ht (by have := HS0.out; simp; omega)).mono HB0.out.size, HB1.out.trans (ht.below HB1.out.size (by simp; omega))⟩

end Go.Proofs.YtlcbideongbmeaaGreat

namespace Go.Proofs.YtlcbideongbmeaaGreat
open Go.RowKit Go.Shelf Go.Sort
attribute [local go_sem] Oper.semAt_some
set_option linter.unusedVariables false
set_option maxRecDepth 100000

/-- A delta as it lies in memory: with where its page's entries lie. -/
structure Dm where
  d : De
  p : Option Addr
  n : Nat
  c : Nat

def Dm.cells (m : Dm) : List Value := [.int .i64 m.d.k, .string m.d.e.key, .int .i64 m.d.e.s, .int .i64 m.d.e.g, .int .i64 m.d.e.c, .string m.d.key, .int .i64 m.d.pg, .bool m.d.rt.leaf, .string m.d.rt.lo, .string m.d.rt.hi, .int .i64 m.d.rt.r, .slice m.p m.n m.c]
abbrev Dm.val (m : Dm) : Value := dlv m.d.k m.d.e m.d.key m.d.pg m.d.rt.leaf m.d.rt.lo m.d.rt.hi m.d.rt.r m.p m.n m.c

/-- What a delta in memory leads to. -/
structure Dm.Ok (w : World) (m : Dm) : Prop where
  len : m.d.rt.l.length = m.n
  ens : Ens w m.p m.d.rt.l
  nil : m.p = none → m.n = 0 ∧ m.c = 0
  le : m.n ≤ m.c
  room : m.n ≤ 3518437208780

/-- Deltas that a slice leads to. -/
def Des (w : World) (p : Option Addr) (L : List Dm) : Prop :=
  0 < L.length → ∃ b o, p = some ⟨b, o, none⟩ ∧ ∀ (i : Nat) m, L[i]? = some m → (∀ t v, m.cells[t]? = some v → w.cell? ⟨b, o + i * 12 + t, none⟩ = some v) ∧ m.Ok w

/-- Two worlds whose blocks below a number are alike. -/
def Alike (B : Nat) (w w' : World) : Prop := ∀ k, k < B → w'.heap[k]? = w.heap[k]?

theorem Alike.cell {B : Nat} {w w' : World} (h : Alike B w w') {b o : Nat} (hb : b < B) : w'.cell? ⟨b, o, none⟩ = w.cell? ⟨b, o, none⟩ := by simp [World.cell?, h b hb]
theorem Alike.t {B : Nat} {X Y Z : World} (h : Alike B X Y) (k : Alike B Y Z) : Alike B X Z := fun j hj => (k j hj).trans (h j hj)
theorem Alike.refl (B : Nat) (w : World) : Alike B w w := fun _ _ => rfl
theorem Alike.of_below {B : Nat} {w w' : World} (h : Below B w w') : Alike B w w' := fun k hk => h.block k hk
theorem Alike.mono {B B' : Nat} {w w' : World} (h : Alike B w w') (hB : B' ≤ B) : Alike B' w w' := fun k hk => h k (by omega)

theorem Ens.alike {w w' : World} {p : Option Addr} {l : List En} (h : Ens w p l) (hs : Alike w.heap.size w w') : Ens w' p l := by
  intro hl
  obtain ⟨b, o, rfl, hc⟩ := h hl
  refine ⟨b, o, rfl, fun i g hi => ?_⟩
  obtain ⟨h0, h1, h2, h3⟩ := hc i g hi
  have k : b < w.heap.size := World.block_lt_of_cell? w _ h0
  rw [hs.cell k, hs.cell k, hs.cell k, hs.cell k]
  exact ⟨h0, h1, h2, h3⟩

theorem Dm.Ok.alike {w w' : World} {m : Dm} (h : m.Ok w) (hs : Alike w.heap.size w w') : m.Ok w' := { h with ens := h.ens.alike hs }

theorem Des.alike {w w' : World} {p : Option Addr} {L : List Dm} (h : Des w p L) (hs : Alike w.heap.size w w') : Des w' p L := by
  intro hl
  obtain ⟨b, o, rfl, hc⟩ := h hl
  refine ⟨b, o, rfl, fun i m hi => ⟨fun t v hv => ?_, (hc i m hi).2.alike hs⟩⟩
  have h0 := (hc i m hi).1 t v hv
  rw [hs.cell (World.block_lt_of_cell? w _ h0)]
  exact h0

theorem Des.below {w w' : World} {p : Option Addr} {L : List Dm} (h : Des w p L) {B : Nat} (hb : Below B w w') (hB : w.heap.size ≤ B) : Des w' p L := h.alike ((Alike.of_below hb).mono hB)

theorem Des.nil (w : World) (p : Option Addr) : Des w p [] := fun h => absurd h (Nat.lt_irrefl 0)

/-- Deltas with their places, from the last to the first. -/
def Dl.bw (L : List Dm) : List (Nat × Dm) := (List.range L.length).map fun i => (L.length - 1 - i, (L[L.length - 1 - i]?).getD ⟨Dl.zero, none, 0, 0⟩)

theorem Dl.bw_len (L : List Dm) : (Dl.bw L).length = L.length := by simp [Dl.bw]

theorem Dl.bw_at {L : List Dm} {k : Nat} {x : Dm} (hk : k < L.length) (hx : L[k]? = some x) : (Dl.bw L)[L.length - 1 - k]? = some (k, x) := by
  have h1 : L.length - 1 - k < L.length := by omega
  simp only [Dl.bw, List.getElem?_map, List.getElem?_range h1, Option.map_some]
  rw [show L.length - 1 - (L.length - 1 - k) = k by omega, hx]
  rfl

/-- The deltas alone, from the last to the first. -/
theorem Dl.bw_map (L : List Dm) : (Dl.bw L).map (fun x => x.2.d) = (L.map (·.d)).reverse := by
  apply List.ext_getElem?
  intro i
  by_cases h : i < L.length
  · have hk : L.length - 1 - i < L.length := by omega
    have hx := List.getElem?_eq_getElem hk
    have := Dl.bw_at hk hx
    rw [show L.length - 1 - (L.length - 1 - i) = i by omega] at this
    rw [List.getElem?_map, this, List.getElem?_reverse (by simpa using h)]
    simp only [Option.map_some, List.length_map, List.getElem?_map]
    rw [hx]
    rfl
  · rw [List.getElem?_eq_none (by simp [Dl.bw]; omega), List.getElem?_eq_none (by simp; omega)]

theorem Dl.bw_mem {L : List Dm} {pre : List (Nat × Dm)} {x : Nat × Dm} (h : pre ++ [x] <+: Dl.bw L) : L[x.1]? = some x.2 := by
  obtain ⟨t, ht⟩ := h
  have hn : pre.length < L.length := by rw [← Dl.bw_len, ← ht]; simp
  have h0 : (Dl.bw L)[pre.length]? = some x := by rw [← ht]; simp
  have hx0 : L[L.length - 1 - pre.length]? = some L[L.length - 1 - pre.length] := List.getElem?_eq_getElem (by omega)
  have h1 := Dl.bw_at (k := L.length - 1 - pre.length) (by omega) hx0
  rw [show L.length - 1 - (L.length - 1 - pre.length) = pre.length by omega, h0] at h1
  cases h1
  exact hx0

abbrev encD (x : Nat × Dm) : Array Value := #[.int .i64 (x.1 : Int), x.2.val]

/-- What a round leaves as it was: what lay below a number, and one block more. -/
def KpB (B b : Nat) (W W' : World) : Prop := Alike B W W' ∧ W'.heap[b]? = W.heap[b]?
theorem KpB.refl (B b : Nat) (W : World) : KpB B b W W := ⟨Alike.refl _ _, rfl⟩
theorem KpB.t {B b : Nat} {X Y Z : World} (h : KpB B b X Y) (k : KpB B b Y Z) : KpB B b X Z := ⟨h.1.t k.1, k.2.trans h.2⟩

set_option maxHeartbeats 2000000 in
theorem backD_in (l b : Nat) (p : Option Addr) (len cap : Nat) (L : List Dm) (w0 : World) (hL : L.length = len) (hl : len ≤ 4398046511104) (hD : Des w0 p L) (J Jx : List (Nat × Dm) → World → Prop) (Jp : List PanicEntry → List (Nat × Dm) → World → Prop)
    (hY : ∀ pre x W, J pre W → pre ++ [x] <+: Dl.bw L → YieldAt Fence.wide 7 Tryz.prog l (encD x) W fun r W' =>
      (r = .returned (.bool true) ∧ J (pre ++ [x]) W' ∧ KpB w0.heap.size b W W') ∨ (r = .returned (.bool false) ∧ Jx (pre ++ [x]) W') ∨ (∃ chain, r = .panicked chain ∧ Jp chain (pre ++ [x]) W'))
    (W : World) (hB : Bk W b 25 #[.slice p len cap]) (hA : Alike w0.heap.size w0 W) (h0 : J [] W) :
    CallsIn Fence.wide 8 Tryz.prog 93 #[.func (.yield l) #[] #[], .pointer (some ⟨b, 0, none⟩)] W fun r W' => ((∃ v, r = .returned v) ∧
      ((∃ ys, ys = Dl.bw L ∧ J ys W') ∨ (∃ pre, pre <+: Dl.bw L ∧ Jx pre W'))) ∨ ∃ chain pre, r = .panicked chain ∧ pre <+: Dl.bw L ∧ Jp chain pre W' := by
  refine callsIn_of_wp Tryz.func93 rfl trivial ?_ rfl
  simp only [Tryz.ntmps93, List.size_toArray, List.length_cons, List.length_nil, Nat.reduceAdd, Nat.reduceSub, Array.replicate_succ, Array.replicate_zero, List.push_toArray, List.append_toArray, List.nil_append, List.cons_append]
  have HL : Hid (L.length = len) := hL
  have HY : Hid _ := hY
  have HBX : Hid (∀ W', KpB w0.heap.size b W W' → W'.cell? ⟨b, 0, none⟩ = some (.slice p len cap)) := fun W' hk => (show Bk W' b _ _ from hk.2.trans hB).cell 0
  have HD : Hid (∀ W', KpB w0.heap.size b W W' → Des W' p L) := fun W' hk => hD.alike (hA.t hk.1)
  have hbx := HBX.out W (KpB.refl _ _ _)
  clear hL hY hB hA hD
  gi_wp2
  gi_loopw [3] (fun i wr => ∃ k : Nat, k ≤ len ∧ i = .int .i64 ((k : Int) - 1) ∧ J ((Dl.bw L).take (len - k)) wr ∧ KpB w0.heap.size b W wr) (fun i _ => (intOf i + 1).toNat)
  case atStart => exact ⟨len, Nat.le_refl _, by go_num, by simpa using h0, KpB.refl _ _ _⟩
  case round =>
    obtain ⟨k', hk, rfl, hJs, hK⟩ := hrel
    cases k' with
    | succ k =>
      rw [show ((k + 1 : Nat) : Int) - 1 = (k : Int) by omega]
      have hkL : k < L.length := by rw [HL.out]; omega
      obtain ⟨x, hx⟩ : ∃ x, L[k]? = some x := ⟨_, List.getElem?_eq_getElem hkL⟩
      have hki : (k : Int) < (len : Int) := by omega
      have hk0 : (0 : Int) ≤ (k : Int) := by omega
      have hb0 := HBX.out wr hK
      obtain ⟨g, o, rfl, hc⟩ := HD.out wr hK (by omega)
      have hcx := (hc k x hx).1
      have z0 := hcx 0 _ rfl
      have z1 := hcx 1 _ rfl
      have z2 := hcx 2 _ rfl
      have z3 := hcx 3 _ rfl
      have z4 := hcx 4 _ rfl
      have z5 := hcx 5 _ rfl
      have z6 := hcx 6 _ rfl
      have z7 := hcx 7 _ rfl
      have z8 := hcx 8 _ rfl
      have z9 := hcx 9 _ rfl
      have z10 := hcx 10 _ rfl
      have z11 := hcx 11 _ rfl
      simp only [Nat.add_zero] at z0
      have hbw := Dl.bw_at hkL hx
      rw [HL.out, show len - 1 - k = len - (k + 1) by omega] at hbw
      have HT : Hid ((Dl.bw L).take (len - k) = (Dl.bw L).take (len - (k + 1)) ++ [(k, x)]) := by
        rw [Hid, show len - k = len - (k + 1) + 1 by omega]
        exact take_snoc hbw
      obtain ⟨fn, tmps, assign, body, hy, hR⟩ := HY.out ((Dl.bw L).take (len - (k + 1))) (k, x) wr hJs (by rw [← HT.out]; exact List.take_prefix _ _)
      simp only [encD, Dm.val, dlv] at hy
      clear hx hbw hc hcx
      gi_wp2
      refine hR.mono ?_
      rintro e W4 (⟨rfl, hJ4, hk4⟩ | ⟨rfl, hJx4⟩ | ⟨chain, rfl, hJp4⟩)
      · gi_wp2
        go_roundw
        case rel => exact ⟨k, by omega, by go_num, by rw [HT.out]; exact hJ4, hK.t hk4⟩
        case measure => simp [intOf]
      · gi_wp2
        refine bodyPost_ret (results_none rfl _ _ _) rfl ?_
        exact .inl ⟨⟨_, rfl⟩, .inr ⟨_, by rw [← HT.out]; exact List.take_prefix _ _, hJx4⟩⟩
      · refine ⟨rfl, ?_⟩
        exact .inr ⟨chain, _, rfl, by rw [← HT.out]; exact List.take_prefix _ _, hJp4⟩
    | zero =>
      rw [show ((0 : Nat) : Int) - 1 = -1 by omega]
      gi_wp2
      go_end0
      refine .inl ⟨⟨_, rfl⟩, .inl ⟨_, rfl, ?_⟩⟩
      rw [List.take_of_length_le (by rw [Dl.bw_len, HL.out]; exact Nat.le_refl _)] at hJs
      exact hJs

theorem backD_stops {w w0 : World} {b : Nat} {p : Option Addr} {len cap : Nat} {L : List Dm} (hL : L.length = len) (hl : len ≤ 4398046511104) (hD : Des w0 p L) (hB : Bk w b 25 #[.slice p len cap]) (hA : Alike w0.heap.size w0 w) (hle : w0.heap.size ≤ w.heap.size) :
    SeqStopsP 8 Tryz.prog 93 #[.pointer (some ⟨b, 0, none⟩)] encD (KpB w0.heap.size b) (fun ys => ys = Dl.bw L) (fun pre => pre <+: Dl.bw L) w := fun l J Jx Jp W hW hY h0 =>
  backD_in l b p len cap L w0 hL hl hD J Jx Jp hY W ((hW.block b hB.lt).trans hB) (hA.t ((Alike.of_below hW).mono hle)) h0

theorem backD_any (p : Option Addr) (len cap : Nat) (w : World) :
    Calls Tryz.prog 71 #[.slice p len cap] w fun e w' => e = .returned (.func (.func 93) #[] #[.pointer (some ⟨w.heap.size, 0, none⟩)]) ∧ w' = w.alloc (.cells #[.slice p len cap] 25) := by
  go_enter Tryz.func71, Tryz.ntmps71
  go_wp2
  go_ret
  exact ⟨rfl, rfl⟩

end Go.Proofs.YtlcbideongbmeaaGreat

namespace Go.Proofs.YtlcbideongbmeaaGreat
open Go.RowKit Go.Sort
set_option linter.unusedVariables false
set_option maxRecDepth 100000

/-- An append whose run is known, in a drawn region. -/
theorem step_appR {ops : Array Oper} {o : Oper} {a : Act} {w : World} {K : Act → World → Prop} {Q : Exit → Act → World → Prop} {E : Prop}
    (hg : o.guard = none) (s x : Operand) (t : TypeId) (hop : o.op = Op.call { callee := Callee.builtin Builtin.append, args := #[s, x], argTypes := #[t, t] })
    (v u : Value) (hs : a.eval s = v) (hx : a.eval x = u) {v' : Value} {w' : World} (hr : (Builtin.append_ #[t, t] o.type #[v, u]).run Tryz.prog w = .ok v' w') (hK : K (a.put o.dst v') w') :
    if Region.wanted o (yielded ops a.tmps) = true then Oper.wp Tryz.prog o a w K Q else E := by
  have hw : Region.wanted o (yielded ops a.tmps) = true := by simp [Region.wanted, hg]
  rw [if_pos hw]
  unfold Oper.wp
  simp [execOp, hop, resolve, invoke, builtin, hs, hx, hr, Result.andThen]
  exact hK

theorem findIdx_hit {α : Type} {l : List α} {p : α → Bool} {j : Nat} {x : α} (hj : j ≤ l.findIdx p) (hx : l[j]? = some x) (hp : p x = true) : l.findIdx p = j := by
  rcases Nat.lt_or_ge j (l.findIdx p) with h | h
  · have hl := (List.getElem?_eq_some_iff.1 hx)
    obtain ⟨h1, h2⟩ := hl
    have := List.not_of_lt_findIdx h
    rw [h2] at this
    simp [hp] at this
  · omega

theorem findIdx_miss {α : Type} {l : List α} {p : α → Bool} {j : Nat} {x : α} (hj : j ≤ l.findIdx p) (hx : l[j]? = some x) (hp : p x = false) : j + 1 ≤ l.findIdx p := by
  rcases Nat.lt_or_ge j (l.findIdx p) with h | h
  · omega
  · have e : l.findIdx p = j := by omega
    obtain ⟨h1, h2⟩ := List.getElem?_eq_some_iff.1 hx
    have h3 : l.findIdx p < l.length := by omega
    have := List.findIdx_getElem (w := h3)
    simp only [e, h2, hp] at this
    cases this

theorem findIdx_none {α : Type} {l : List α} {p : α → Bool} (h : l.length ≤ l.findIdx p) : l.any p = false := by
  rw [List.any_eq_false]
  intro x hx
  obtain ⟨i, hi, rfl⟩ := List.getElem_of_mem hx
  have := List.not_of_lt_findIdx (p := p) (xs := l) (i := i) (by omega)
  simpa using this

theorem any_hit {α : Type} {l : List α} {p : α → Bool} {j : Nat} {x : α} (hx : l[j]? = some x) (hp : p x = true) : l.any p = true :=
  List.any_eq_true.2 ⟨x, List.mem_of_getElem? hx, hp⟩

set_option maxHeartbeats 8000000 in
theorem rremove_any (leaf : Bool) (lo hi : ByteArray) (r : Int) (p : Option Addr) (len cap : Nat) (l : List En) (key : ByteArray) (w : World) (hlen : l.length = len) (hx : Ens w p l) (hl : len ≤ 3518437208782) (hc : len ≤ cap) :
    Calls Tryz.prog 45 #[pgv leaf lo hi r p len cap, .string key] w fun e w' => ∃ v, e = .returned (.tuple #[v, .int .i64 (Pg.remove ⟨leaf, lo, hi, r, l⟩ key).2]) ∧ PgAt w' w.heap.size v (Pg.remove ⟨leaf, lo, hi, r, l⟩ key).1 ∧ Below w.heap.size w w' := by
  obtain ⟨w0, hw0⟩ : ∃ w0, (w.alloc (.cells #[.bool leaf, .string lo, .string hi, .int .i64 r, .slice p len cap] 24)).alloc (.cells zc 24) = w0 := ⟨_, rfl⟩
  have HB0 : Hid (Below w.heap.size w w0) := by rw [← hw0]; exact ((Below.refl _ _).alloc (Nat.le_refl _) _).alloc (by simp) _
  have HK0 : Hid (Bk w0 w.heap.size 24 #[.bool leaf, .string lo, .string hi, .int .i64 r, .slice p len cap]) := by rw [← hw0]; exact (Bk.new _ _ _).alloc _
  have HR0 : Hid (Bk w0 (w.heap.size + 1) 24 zc) := by rw [← hw0]; exact Bk.new1 _ _ _ _
  have HX : Hid (Ens w0 p l) := hx.below HB0.out (Nat.le_refl _)
  have HL : Hid (l.length = len) := hlen
  clear hx hlen
  obtain ⟨out, hout⟩ : ∃ out, Pg.remove ⟨leaf, lo, hi, r, l⟩ key = out := ⟨_, rfl⟩
  rw [hout]
  have HO : Hid (out = if l.any (Pg.is key) then (⟨leaf, lo, hi, r, Pg.del l (l.findIdx (Pg.is key))⟩, 0) else (Pg.zero, 4)) := hout.symm
  clear hout
  have a4 : w0.cell? ⟨w.heap.size, 4, none⟩ = some (.slice p len cap) := HK0.out.cell 4
  go_enter Tryz.func45, Tryz.ntmps45
  go_wp2_with fail
  clear hw0
  go_loopw [6] (fun iv wr => ∃ j : Nat, j ≤ len ∧ iv = .int .i64 j ∧ wr = w0 ∧ Hid (j ≤ l.findIdx (Pg.is key))) (fun iv _ => len - (intOf iv).toNat)
  case atStart => exact ⟨0, Nat.zero_le _, rfl, by trivial, Nat.zero_le _⟩
  case round =>
    obtain ⟨j, hj, rfl, rfl, HF⟩ := hrel
    by_cases hlt : j < len
    · have hli : (j : Int) < (len : Int) := by omega
      have hj0 : (0 : Int) ≤ (j : Int) := by omega
      obtain ⟨b, o, x, rfl, hgx, -, x0, -, -, -⟩ := HX.out.at (j := j) (by have := HL.out; omega)
      have HG : Hid (l[j]? = some x) := hgx
      clear hgx
      cases hq : Pg.is key x with
      | true =>
        have hqs : (x.key.toList == key.toList) = true := hq
        have HQ : Hid (out = (⟨leaf, lo, hi, r, Pg.del l j⟩, 0)) := by
          have := HO.out
          rw [any_hit HG.out hq, findIdx_hit HF.out HG.out hq] at this
          exact this
        clear hq HO HF
        obtain ⟨a7, ha7⟩ : ∃ a7 : Addr, (if cap = j + 1 then some (⟨b, o, none⟩ : Addr) else some ⟨b, o + (j + 1) * 4, none⟩) = some a7 := by split <;> exact ⟨_, rfl⟩
        have HE7 : Hid (∀ W, Below wr.heap.size wr W → Ens W (some a7) (l.drop (j + 1))) := fun W hW => by
          by_cases hlast : len = j + 1
          · rw [List.drop_of_length_le (by have := HL.out; omega)]
            exact Ens.nil _ _
          · rw [if_neg (by omega)] at ha7
            obtain rfl := Option.some.inj ha7
            exact ((HX.out.below hW (Nat.le_refl _)).drop (j + 1))
        have HE5 : Hid (∀ W, Below wr.heap.size wr W → Ens W (some ⟨b, o, none⟩) (l.take j)) := fun W hW => (HX.out.below hW (Nat.le_refl _)).take j
        have E7 : Hid ((if cap = j + 1 then some (⟨b, o, none⟩ : Addr) else some ⟨b, o + (j + 1) * 4, none⟩) = some a7) := ha7
        have e6 : (0 : Int) ≤ (j : Int) + 1 := by omega
        have HS : Hid (∀ W, Below wr.heap.size wr W → W.cell? ⟨w.heap.size, 4, none⟩ = some (.slice (some ⟨b, o, none⟩) len cap)) := fun W hW => (HK0.out.below hW HK0.out.lt).cell 4
        have e1 : (j : Int) ≤ (len : Int) := by omega
        have e2 : (j : Int) ≤ (cap : Int) := by omega
        have e4 : (j : Int) + 1 ≤ (len : Int) := by omega
        clear ha7
        go_wp2_with fail
        obtain ⟨v1, w6, hr1, ho1, hg1, hk1⟩ := run_appE wr.drew wr.heap.size 22 (.slice none 0 0) [] (l.take j) (some ⟨b, o, none⟩) j cap (by rw [List.length_take]; have := HL.out; omega) (HE5.out _ (Below.refl _ _).drew) (fun h => by cases h) (OwnE.nil _ _) (by simp; omega) (Nat.le_refl _)
        have hb6 : Below wr.heap.size wr w6 := ((Below.refl _ _).drew).grown hg1 (Nat.le_refl _) (fun k hk => by cases hk)
        rw [List.nil_append] at ho1
        obtain ⟨v2, w7, hr2, ho2, hg2, hk2⟩ := run_appE w6 wr.heap.size 22 v1 (l.take j) (l.drop (j + 1)) (some a7) (len - (j + 1)) (cap - (j + 1)) (by rw [List.length_drop, HL.out]) (HE7.out _ hb6) (fun h => by cases h) ho1 (by rw [List.length_take]; have := HL.out; omega) hb6.size
        have hb7 : Below wr.heap.size wr w7 := hb6.grown hg2 hb6.size (fun k hk => (World.ownsRow.lt ho1 k hk).1)
        obtain ⟨q2, c2, hv2, -, -⟩ := ho2.ens
        rw [hv2] at ho2 hr2
        have hlen2 : (l.take j ++ l.drop (j + 1)).length = len - 1 := by simp; have := HL.out; omega
        rw [hlen2] at ho2 hr2
        have HO2 : Hid (OwnE w7 wr.heap.size (.slice q2 (len - 1) c2) (Pg.del l j)) := ho2
        have HB7 : Hid (Below wr.heap.size wr w7) := hb7
        have HR1 : Hid _ := hr1
        have HR2 : Hid _ := hr2
        have HB6 : Hid (Below wr.heap.size wr w6) := hb6
        have HK7 : Hid (Bk w7 w.heap.size 24 #[.bool leaf, .string lo, .string hi, .int .i64 r, .slice (some ⟨b, o, none⟩) len cap]) := HK0.out.below hb7 HK0.out.lt
        have HZ7 : Hid (Bk w7 (w.heap.size + 1) 24 zc) := HR0.out.below hb7 HR0.out.lt
        clear hr1 ho1 hg1 hk1 hr2 ho2 hg2 hk2 hb6 hb7 hv2 hlen2
        have hS := HS.out wr.drew (Below.refl _ _).drew
        refine wp_region_mid (S := (fun w' => w'.cell? ⟨w.heap.size, 4, none⟩ = some (.slice (some ⟨b, o, none⟩) len cap))) 13 (by kernel_rfl) ?_
        refine wpAnyM_take (i := 0) [] (oi := { dst := some 23, op := Op.move (Operand.tmp 7), type := 22, pos := _, after := #[], guard := none }) (v := .slice none 0 0) rfl (by kernel_rfl) (by kernel_rfl) (by kernel_rfl) (by kernel_rfl) (fun _ _ _ h => h) (Or.inl ⟨by rfl, ?_⟩) hS ?_
        · (intro w' hSw; have k0 := hSw; go_simp; try with_reducible rfl)
        try simp only [Act.put, List.setIfInBounds_toArray, List.set_cons_zero, List.set_cons_succ]
        refine wpAnyM_take (i := 1) [] (oi := { dst := some 24, op := Op.fieldAddr 24 (Operand.tmp 2) 4, type := 0, pos := _, after := #[], guard := none }) (v := ?_) rfl (by kernel_rfl) (by kernel_rfl) (by kernel_rfl) (by kernel_rfl) (fun _ _ _ h => h) (Or.inl ⟨by rfl, ?_⟩) hS ?_
        rotate_left
        · (intro w' hSw; have k0 := hSw; go_simp; try with_reducible rfl)
        try simp only [Act.put, List.setIfInBounds_toArray, List.set_cons_zero, List.set_cons_succ]
        refine wpAnyM_take (i := 2) [] (oi := { dst := some 25, op := Op.load 22 (Operand.tmp 24), type := 22, pos := _, after := #[{ on := 1, ground := Ground.data }], guard := none }) (v := .slice (some ⟨b, o, none⟩) len cap) rfl (by kernel_rfl) (by kernel_rfl) (by kernel_rfl) (by kernel_rfl) (fun _ _ _ h => h) (Or.inl ⟨by rfl, ?_⟩) hS ?_
        · (intro w' hSw; have k0 := hSw; go_simp; try with_reducible rfl)
        try simp only [Act.put, List.setIfInBounds_toArray, List.set_cons_zero, List.set_cons_succ]
        refine wpAnyM_take (i := 3) [] (oi := { dst := some 26, op := Op.move (Operand.tmp 6), type := 3, pos := _, after := #[], guard := none }) (v := .int .i64 (j : Int)) rfl (by kernel_rfl) (by kernel_rfl) (by kernel_rfl) (by kernel_rfl) (fun _ _ _ h => h) (Or.inl ⟨by rfl, ?_⟩) hS ?_
        · (intro w' hSw; have k0 := hSw; go_simp; try with_reducible rfl)
        try simp only [Act.put, List.setIfInBounds_toArray, List.set_cons_zero, List.set_cons_succ]
        refine wpAnyM_take (i := 4) [] (oi := { dst := some 27, op := Op.slice 22 (Operand.tmp 25) none (some (Operand.tmp 26)) none, type := 22, pos := _, after := #[{ on := 2, ground := Ground.data }, { on := 3, ground := Ground.data }], guard := none }) (v := .slice (some ⟨b, o, none⟩) j cap) rfl (by kernel_rfl) (by kernel_rfl) (by kernel_rfl) (by kernel_rfl) (fun _ _ _ h => h) (Or.inl ⟨by rfl, ?_⟩) hS ?_
        · (intro w' hSw; have k0 := hSw; go_simp; try with_reducible rfl)
        try simp only [Act.put, List.setIfInBounds_toArray, List.set_cons_zero, List.set_cons_succ]
        refine wpAnyM_take (i := 6) [] (oi := { dst := some 29, op := Op.fieldAddr 24 (Operand.tmp 2) 4, type := 0, pos := _, after := #[], guard := none }) (v := ?_) rfl (by kernel_rfl) (by kernel_rfl) (by kernel_rfl) (by kernel_rfl) (fun _ _ _ h => h) (Or.inl ⟨by rfl, ?_⟩) hS ?_
        rotate_left
        · (intro w' hSw; have k0 := hSw; go_simp; try with_reducible rfl)
        try simp only [Act.put, List.setIfInBounds_toArray, List.set_cons_zero, List.set_cons_succ]
        refine wpAnyM_take (i := 7) [] (oi := { dst := some 30, op := Op.load 22 (Operand.tmp 29), type := 22, pos := _, after := #[{ on := 6, ground := Ground.data }], guard := none }) (v := .slice (some ⟨b, o, none⟩) len cap) rfl (by kernel_rfl) (by kernel_rfl) (by kernel_rfl) (by kernel_rfl) (fun _ _ _ h => h) (Or.inl ⟨by rfl, ?_⟩) hS ?_
        · (intro w' hSw; have k0 := hSw; go_simp; try with_reducible rfl)
        try simp only [Act.put, List.setIfInBounds_toArray, List.set_cons_zero, List.set_cons_succ]
        refine wpAnyM_take (i := 8) [] (oi := { dst := some 31, op := Op.move (Operand.tmp 6), type := 3, pos := _, after := #[], guard := none }) (v := .int .i64 (j : Int)) rfl (by kernel_rfl) (by kernel_rfl) (by kernel_rfl) (by kernel_rfl) (fun _ _ _ h => h) (Or.inl ⟨by rfl, ?_⟩) hS ?_
        · (intro w' hSw; have k0 := hSw; go_simp; try with_reducible rfl)
        try simp only [Act.put, List.setIfInBounds_toArray, List.set_cons_zero, List.set_cons_succ]
        refine wpAnyM_take (i := 9) [] (oi := { dst := some 32, op := Op.binOp BinOp.add 3 (Operand.tmp 31) (Operand.const (Value.int IntKind.i64 1)) 3, type := 3, pos := _, after := #[{ on := 8, ground := Ground.data }], guard := none }) (v := .int .i64 ((j : Int) + 1)) rfl (by kernel_rfl) (by kernel_rfl) (by kernel_rfl) (by kernel_rfl) (fun _ _ _ h => h) (Or.inl ⟨by rfl, ?_⟩) hS ?_
        · (intro w' hSw; have k0 := hSw; go_simp; exact wrap_id9 (by omega))
        try simp only [Act.put, List.setIfInBounds_toArray, List.set_cons_zero, List.set_cons_succ]
        refine wpAnyM_take (i := 10) [] (oi := { dst := some 33, op := Op.slice 22 (Operand.tmp 30) (some (Operand.tmp 32)) none none, type := 22, pos := _, after := #[{ on := 7, ground := Ground.data }, { on := 9, ground := Ground.data }], guard := none }) (v := .slice (some a7) (len - (j + 1)) (cap - (j + 1))) rfl (by kernel_rfl) (by kernel_rfl) (by kernel_rfl) (by kernel_rfl) (fun _ _ _ h => h) (Or.inl ⟨by rfl, ?_⟩) hS ?_
        · (intro w' hSw; have k0 := hSw; go_simp; exact E7.out)
        try simp only [Act.put, List.setIfInBounds_toArray, List.set_cons_zero, List.set_cons_succ]
        refine wpAnyM_ready (rs := [5]) (by kernel_rfl) (by simp) ?_
        refine AllReadyM.cons (o := { dst := some 28, op := Op.call { callee := Callee.builtin Builtin.append, args := #[Operand.tmp 23, Operand.tmp 27], argTypes := #[22, 22] }, type := 22, pos := _, after := #[{ on := 0, ground := Ground.data }, { on := 4, ground := Ground.data }], guard := none }) rfl (fun K hK => ?_) AllReadyM.nil
        have HK9 : Hid (∀ a w, _ → K a w) := hK
        clear hK
        refine step_appR rfl _ _ _ rfl _ _ rfl rfl HR1.out ?_
        refine HK9.out _ _ ⟨fun _ => HS.out _ HB6.out, ?_⟩
        clear HK9 K
        try simp only [Act.put, List.setIfInBounds_toArray, List.set_cons_zero, List.set_cons_succ]
        refine wpAnyM_ready (rs := [11]) (by kernel_rfl) (by simp) ?_
        refine AllReadyM.cons (o := { dst := some 34, op := Op.call { callee := Callee.builtin Builtin.append, args := #[Operand.tmp 28, Operand.tmp 33], argTypes := #[22, 22] }, type := 22, pos := _, after := #[{ on := 5, ground := Ground.data }, { on := 10, ground := Ground.data }, { on := 5, ground := Ground.chain }], guard := none }) rfl (fun K hK => ?_) AllReadyM.nil
        have HK9 : Hid (∀ a w, _ → K a w) := hK
        clear hK
        refine step_appR rfl _ _ _ rfl _ _ rfl rfl HR2.out ?_
        refine HK9.out _ _ ⟨fun _ => HS.out _ HB7.out, ?_⟩
        clear HK9 K
        try simp only [Act.put, List.setIfInBounds_toArray, List.set_cons_zero, List.set_cons_succ]
        have a4' : w7.cell? ⟨w.heap.size, 4, none⟩ = some (.slice (some ⟨b, o, none⟩) len cap) := HK7.out.cell 4
        have z4' : w7.frozen? ⟨w.heap.size, 4, none⟩ = false := HK7.out.frozen 4
        refine wpAnyM_ready (rs := [12]) (by kernel_rfl) (by simp) ?_
        refine AllReadyM.cons (o := { dst := some 35, op := Op.fieldAddr 24 (Operand.tmp 2) 4, type := 0, pos := _, after := #[{ on := 0, ground := Ground.phase }, { on := 1, ground := Ground.phase }, { on := 2, ground := Ground.phase }, { on := 3, ground := Ground.phase }, { on := 4, ground := Ground.phase }, { on := 5, ground := Ground.phase }, { on := 6, ground := Ground.phase }, { on := 7, ground := Ground.phase }, { on := 8, ground := Ground.phase }, { on := 9, ground := Ground.phase }, { on := 10, ground := Ground.phase }, { on := 11, ground := Ground.phase }], guard := none }) rfl (fun K hK => ?_) AllReadyM.nil
        have HK9 : Hid (∀ a w, _ → K a w) := hK
        clear hK
        go_simp
        refine HK9.out _ _ ⟨fun _ => a4', ?_⟩
        clear HK9 K
        try simp only [Act.put, List.setIfInBounds_toArray, List.set_cons_zero, List.set_cons_succ]
        refine wpAnyM_ready (rs := [13]) (by kernel_rfl) (by simp) ?_
        refine AllReadyM.cons (o := { dst := none, op := Op.store 22 (Operand.tmp 35) (Operand.tmp 34), type := 0, pos := _, after := #[{ on := 12, ground := Ground.data }, { on := 11, ground := Ground.data }, { on := 11, ground := Ground.chain }, { on := 0, ground := Ground.phase }, { on := 1, ground := Ground.phase }, { on := 2, ground := Ground.phase }, { on := 3, ground := Ground.phase }, { on := 4, ground := Ground.phase }, { on := 5, ground := Ground.phase }, { on := 6, ground := Ground.phase }, { on := 7, ground := Ground.phase }, { on := 8, ground := Ground.phase }, { on := 9, ground := Ground.phase }, { on := 10, ground := Ground.phase }, { on := 11, ground := Ground.phase }], guard := none }) rfl (fun K hK => ?_) AllReadyM.nil
        have HK9 : Hid (∀ a w, _ → K a w) := hK
        clear hK
        go_simp
        refine HK9.out _ _ ⟨fun h => absurd h (by omega), ?_⟩
        clear HK9 K
        try simp only [Act.put, List.setIfInBounds_toArray, List.set_cons_zero, List.set_cons_succ]
        refine wpAnyM_done (by kernel_rfl) ?_ _
        obtain ⟨w8, hw8⟩ : ∃ w8, w7.setCell ⟨w.heap.size, 4, none⟩ (.slice q2 (len - 1) c2) = w8 := ⟨_, rfl⟩
        have hk8 : Bk w8 w.heap.size 24 #[.bool leaf, .string lo, .string hi, .int .i64 r, .slice q2 (len - 1) c2] := by rw [← hw8]; exact HK7.out.set 4 _
        have hr8 : Bk w8 (w.heap.size + 1) 24 zc := by rw [← hw8]; exact HZ7.out.other (by simp) _
        have ht8 : Tn [w.heap.size] w7 w8 := by rw [← hw8]; exact (Tn.refl _ _).setCell (.inl (by simp)) _
        rw [hw8]
        clear hw8 a4' z4' hS
        have a0 : w8.cell? ⟨w.heap.size, 0, none⟩ = some (.bool leaf) := hk8.cell 0
        have a1 : w8.cell? ⟨w.heap.size, 1, none⟩ = some (.string lo) := hk8.cell 1
        have a2 : w8.cell? ⟨w.heap.size, 2, none⟩ = some (.string hi) := hk8.cell 2
        have a3 : w8.cell? ⟨w.heap.size, 3, none⟩ = some (.int .i64 r) := hk8.cell 3
        have a4 : w8.cell? ⟨w.heap.size, 4, none⟩ = some (.slice q2 (len - 1) c2) := hk8.cell 4
        have b0 : w8.cell? ⟨w.heap.size + 1, 0, none⟩ = some (.bool false) := hr8.cell 0
        have f0 : w8.frozen? ⟨w.heap.size + 1, 0, none⟩ = false := hr8.frozen 0
        have b1 : w8.cell? ⟨w.heap.size + 1, 1, none⟩ = some (.string ⟨#[]⟩) := hr8.cell 1
        have f1 : w8.frozen? ⟨w.heap.size + 1, 1, none⟩ = false := hr8.frozen 1
        have b2 : w8.cell? ⟨w.heap.size + 1, 2, none⟩ = some (.string ⟨#[]⟩) := hr8.cell 2
        have f2 : w8.frozen? ⟨w.heap.size + 1, 2, none⟩ = false := hr8.frozen 2
        have b3 : w8.cell? ⟨w.heap.size + 1, 3, none⟩ = some (.int .i64 0) := hr8.cell 3
        have f3 : w8.frozen? ⟨w.heap.size + 1, 3, none⟩ = false := hr8.frozen 3
        have b4 : w8.cell? ⟨w.heap.size + 1, 4, none⟩ = some (.slice none 0 0) := hr8.cell 4
        have f4 : w8.frozen? ⟨w.heap.size + 1, 4, none⟩ = false := hr8.frozen 4
        have HR8 : Hid (Bk w8 (w.heap.size + 1) 24 zc) := hr8
        have HT8 : Hid (Tn [w.heap.size] w7 w8) := ht8
        clear hk8 hr8 ht8
        go_wp2
        obtain ⟨we, hwe⟩ : ∃ we, we = put5 w8 (w.heap.size + 1) (.bool leaf) (.string lo) (.string hi) (.int .i64 r) (.slice q2 (len - 1) c2) := ⟨_, rfl⟩
        have hA : Bk we (w.heap.size + 1) 24 #[.bool leaf, .string lo, .string hi, .int .i64 r, .slice q2 (len - 1) c2] := by rw [hwe]; exact Bk.five HR8.out _ _ _ _ _
        have ht : Tn [w.heap.size + 1] w8 we := by rw [hwe]; exact (Tn.refl _ _).five (.inl (by simp)) _ _ _ _ _
        unfold put5 at hwe
        rw [← hwe]
        clear hwe
        refine bodyPost_ret (results_two (cs := [.bool leaf, .string lo, .string hi, .int .i64 r, .slice q2 (len - 1) c2]) rfl rfl pg_agg pg_size rfl hA) rfl ?_
        rw [HQ.out]
        have hs0 := HR0.out.lt
        have t7 : Tn [w.heap.size, w.heap.size + 1] w7 we := (HT8.out.mono (by simp)).trans ht (by simp)
        have hB7 := HB0.out.trans (HB7.out.mono HB0.out.size)
        have hdl : (Pg.del l j).length = len - 1 := by unfold Pg.del; simp; have := HL.out; omega
        refine ⟨_, rfl, ⟨q2, c2, by simp only [hdl], ?_⟩, hB7.trans (t7.below hB7.size (by simp))⟩
        simp only [hdl]
        exact ((HO2.out.seg).tn t7 (by simp; omega)).mono HB0.out.size
      | false =>
        have hqs : (x.key.toList == key.toList) = false := hq
        have HF2 : Hid (j + 1 ≤ l.findIdx (Pg.is key)) := findIdx_miss HF.out HG.out hq
        clear hq
        go_wp2
        go_roundw
        case rel => exact ⟨j + 1, by omega, by go_num, by trivial, HF2⟩
        case measure => simp [intOf]; omega
    · have hli : ¬ (j : Int) < (len : Int) := by omega
      have HQ : Hid (out = (Pg.zero, 4)) := by
        have := HO.out
        rw [findIdx_none (by have := HF.out; have := HL.out; omega)] at this
        exact this
      clear HO HF
      have b0 : wr.cell? ⟨w.heap.size + 1, 0, none⟩ = some (.bool false) := HR0.out.cell 0
      have f0 : wr.frozen? ⟨w.heap.size + 1, 0, none⟩ = false := HR0.out.frozen 0
      have b1 : wr.cell? ⟨w.heap.size + 1, 1, none⟩ = some (.string ⟨#[]⟩) := HR0.out.cell 1
      have f1 : wr.frozen? ⟨w.heap.size + 1, 1, none⟩ = false := HR0.out.frozen 1
      have b2 : wr.cell? ⟨w.heap.size + 1, 2, none⟩ = some (.string ⟨#[]⟩) := HR0.out.cell 2
      have f2 : wr.frozen? ⟨w.heap.size + 1, 2, none⟩ = false := HR0.out.frozen 2
      have b3 : wr.cell? ⟨w.heap.size + 1, 3, none⟩ = some (.int .i64 0) := HR0.out.cell 3
      have f3 : wr.frozen? ⟨w.heap.size + 1, 3, none⟩ = false := HR0.out.frozen 3
      have b4 : wr.cell? ⟨w.heap.size + 1, 4, none⟩ = some (.slice none 0 0) := HR0.out.cell 4
      have f4 : wr.frozen? ⟨w.heap.size + 1, 4, none⟩ = false := HR0.out.frozen 4
      go_wp2
      obtain ⟨we, hwe⟩ : ∃ we, we = put5 wr (w.heap.size + 1) (.bool false) (.string ⟨#[]⟩) (.string ⟨#[]⟩) (.int .i64 0) (.slice none 0 0) := ⟨_, rfl⟩
      have hA : Bk we (w.heap.size + 1) 24 #[.bool false, .string ⟨#[]⟩, .string ⟨#[]⟩, .int .i64 0, .slice none 0 0] := by rw [hwe]; exact Bk.five HR0.out _ _ _ _ _
      have ht : Tn [w.heap.size + 1] wr we := by rw [hwe]; exact (Tn.refl _ _).five (.inl (by simp)) _ _ _ _ _
      unfold put5 at hwe
      rw [← hwe]
      clear hwe
      refine bodyPost_ret (results_two (cs := [.bool false, .string ⟨#[]⟩, .string ⟨#[]⟩, .int .i64 0, .slice none 0 0]) rfl rfl pg_agg pg_size rfl hA) rfl ?_
      rw [HQ.out]
      exact ⟨_, rfl, PgAt.zero _ _, HB0.out.trans (ht.below HB0.out.size (by simp))⟩
end Go.Proofs.YtlcbideongbmeaaGreat

namespace Go.Proofs.YtlcbideongbmeaaGreat
open Go.RowKit Go.Lib Go.Shelf Dr
attribute [local go_sem] Oper.semAt_some
set_option linter.unusedVariables false
set_option maxRecDepth 100000

theorem enc_key (key : ByteArray) : encStr key.toList = .string key := by
  rw [ByteArray.toList_eq]

section
variable {w w' : World} {base B : Nat} {T : TypeId} {vals : Array Value} {rows : List Rs}

/-- A row has grown. -/
theorem Cl.app (h : Cl w base B T vals rows) {i : Nat} {r : Rs} {v' : Value} {n' : Nat} {xs' : List Value} (hi : rows[i]? = some r) (hg : w.grownBy w' r.v.ownBlock) (ho : w'.ownsRow base r.t r.sz v' n' xs') (hv : v'.ownBlock = r.v.ownBlock ∨ v'.ownBlock = some w.heap.size) : Cl w' base B T vals (rows.set i ⟨r.t, r.sz, v', n', xs'⟩) := by
  have hil : i < rows.length := (List.getElem?_eq_some_iff.1 hi).1
  have ht := tn_grown hg
  have hold : ∀ (j : Nat) q k, rows[j]? = some q → q.v.ownBlock = some k → k < w.heap.size := fun j q k hj hk => ((h.row j q hj).lt k hk).2
  have key : ∀ (j : Nat) q, (rows.set i ⟨r.t, r.sz, v', n', xs'⟩)[j]? = some q → (j ≠ i ∧ rows[j]? = some q) ∨ (j = i ∧ q = ⟨r.t, r.sz, v', n', xs'⟩) := by
    intro j q hq
    by_cases hj : j = i
    · subst hj
      rw [List.getElem?_set_self hil] at hq
      cases hq
      exact .inr ⟨rfl, rfl⟩
    · rw [List.getElem?_set_ne (Ne.symm hj)] at hq
      exact .inl ⟨hj, hq⟩
  have hnot : ∀ k, k ∈ r.v.ownBlock.toList → r.v.ownBlock = some k := fun k hk => by
    cases hb : r.v.ownBlock with
    | none => rw [hb] at hk; simp at hk
    | some x => rw [hb] at hk; simp at hk; rw [hk]
  have hap : ∀ (j : Nat) q k, j ≠ i → rows[j]? = some q → q.v.ownBlock = some k → v'.ownBlock ≠ some k := by
    intro j q k hj hq hk hc
    rcases hv with h1 | h1
    · rw [h1] at hc
      exact hj (h.apart j i q r k hq hi hk hc)
    · rw [h1] at hc
      cases hc
      have := hold j q _ hq hk
      omega
  refine ⟨h.blk.tn ht (fun hm => h.ne i r hi (hnot _ hm)), h.ge, fun j q hq => ?_, fun j q hq => ?_, fun j k q p x hq hp h1 h2 => ?_⟩
  · rcases key j q hq with ⟨hj, h0⟩ | ⟨rfl, rfl⟩
    · exact row_tn (h.row j q h0) ht fun k hk hm => hj (h.apart j i q r k h0 hi hk (hnot k hm))
    · exact ho
  · rcases key j q hq with ⟨hj, h0⟩ | ⟨rfl, rfl⟩
    · exact h.ne j q h0
    · intro hc
      rcases hv with h1 | h1
      · rw [show (⟨r.t, r.sz, v', n', xs'⟩ : Rs).v = v' from rfl, h1] at hc
        exact h.ne _ r hi hc
      · rw [show (⟨r.t, r.sz, v', n', xs'⟩ : Rs).v = v' from rfl, h1] at hc
        cases hc
        have := h.blk.lt
        omega
  · rcases key j q hq with ⟨hj, h0⟩ | ⟨hj, rfl⟩
    · rcases key k p hp with ⟨hk, h3⟩ | ⟨hk, rfl⟩
      · exact h.apart j k q p x h0 h3 h1 h2
      · exact absurd h2 (hap j q x hj h0 h1)
    · rcases key k p hp with ⟨hk, h3⟩ | ⟨hk, rfl⟩
      · exact absurd h1 (hap k p x hk h3 h2)
      · omega
end

theorem strinfoD : (Tryz.prog.info? 9).map (fun i => (i.zero, i.size, i.bytes)) = some (some (.string ⟨#[]⟩), 1, 16) := by kernel_rfl

/-- 'append' of texts to a row of the call's own. -/
theorem run_appS (w : World) (base : Nat) (ty : TypeId) (v : Value) (ss news : List (List UInt8)) (E m : Nat) (hm : news.length = m) (hc : ∀ j u, (news.map encStr)[j]? = some u → w.cell? ((⟨E, 0, none⟩ : Addr).add j) = some u) (hown : w.ownsRow base 9 1 v ss.length (ss.map encStr)) (hb : (ss.length + m) * 16 ≤ 140737488355328) (hbase : base ≤ w.heap.size) :
    ∃ v' w', (Builtin.append_ #[114, 114] ty #[v, .slice (some ⟨E, 0, none⟩) m m]).run Tryz.prog w = .ok v' w' ∧ w'.ownsRow base 9 1 v' (ss ++ news).length ((ss ++ news).map encStr) ∧ w.grownBy w' v.ownBlock ∧ (v'.ownBlock = v.ownBlock ∨ v'.ownBlock = some w.heap.size) := by
  obtain ⟨i0, hi0, hz0, hz1, hz2⟩ := info_parts strinfoD
  obtain ⟨v', w', hr, h2, h3, h4, h5⟩ := run_append_own_at (P := Tryz.prog) w base 114 ty 9 i0 _ 1 16 Tryz.underlying114 hi0 hz0 hz1 hz2 rfl (by decide) v ss.length (ss.map encStr) hown ⟨E, 0, none⟩ m m (news.map encStr) (by simp [hm]) hc (fun u hu => by
    obtain ⟨x, _, rfl⟩ := List.mem_map.1 hu
    rfl) (by unfold maxLen; omega) hb hbase
  refine ⟨v', w', hr, ?_, h3, h5⟩
  rw [List.length_append, hm, List.map_append]
  exact h2

def ndVals (vK vR : Value) : Array Value := #[vK, vR, .int .i64 0, nilS, nilS, nilS, nilS, nilS, nilS, nilS]
def ndRows (ss : List (List UInt8)) (rl : List En) (vK vR : Value) : List Rs := [⟨9, 1, vK, ss.length, ss.map encStr⟩, ⟨30, 4, vR, rl.length, flatE rl⟩]

/-- A draft while its rows are gathered. -/
structure Nd (w W : World) (B P m : Nat) (ss : List (List UInt8)) (rl : List En) (vK vR : Value) : Prop where
  cl : Cl W w.heap.size B 118 (ndVals vK vR) (ndRows ss rl vK vR)
  bx : Bk W P 99 #[.pointer (some ⟨B, 0, none⟩)]
  np : B ≠ P ∧ ∀ k, vK.ownBlock = some k ∨ vR.ownBlock = some k → k ≠ P
  below : Below w.heap.size w W
  sz : m ≤ W.heap.size

theorem Nd.abides {w W W' : World} {B P m : Nat} {ss : List (List UInt8)} {rl : List En} {vK vR : Value} {rw' : Option Nat} {k : Nat} (h : Nd w W B P m ss rl vK vR) (hm : w.heap.size ≤ k) (hg : W.grownBy W' rw') (hr : ∀ r, rw' = some r → k ≤ r ∧ ∃ o : Obj, W.heap[r]? = some o ∧ o.isCells = false) : Nd w W' B P m ss rl vK vR where
  cl := h.cl.abides hg hr
  bx := bk_from h.bx hg hr
  np := h.np
  below := h.below.grown hg h.below.size (fun k hk => by have := (hr k hk).1; omega)
  sz := Nat.le_trans h.sz hg.size
theorem Nd.still {w W W' : World} {B P m : Nat} {ss : List (List UInt8)} {rl : List En} {vK vR : Value} (h : Nd w W B P m ss rl vK vR) (ht : Tn [] W W') : Nd w W' B P m ss rl vK vR where
  cl := h.cl.still ht
  bx := h.bx.tn ht (by simp)
  np := h.np
  below := h.below.trans (ht.below h.below.size (by simp))
  sz := Nat.le_trans h.sz ht.size

/-- The row of entries has grown, and is noted. -/
theorem Nd.appR {w W W1 : World} {B P m : Nat} {ss : List (List UInt8)} {rl rl' : List En} {vK vR v' : Value} (h : Nd w W B P m ss rl vK vR) (hg : W.grownBy W1 vR.ownBlock) (ho : OwnE W1 w.heap.size v' rl') (hv : v'.ownBlock = vR.ownBlock ∨ v'.ownBlock = some W.heap.size) :
    Nd w (W1.setCell ⟨B, 1, none⟩ v') B P m ss rl' vK v' ∧ Tn (B :: vR.ownBlock.toList) W (W1.setCell ⟨B, 1, none⟩ v') ∧ Bk W1 B 118 (ndVals vK vR) := by
  have h1 := h.cl.app (i := 1) rfl hg ho hv
  have ht := tn_grown hg
  obtain ⟨h2, ht2⟩ := h1.put 1 v'
  have ht3 : Tn (B :: vR.ownBlock.toList) W (W1.setCell ⟨B, 1, none⟩ v') := (ht.mono (fun x hx => List.mem_cons_of_mem _ hx)).trans ht2 (fun x hx => .inl (by simp at hx; subst hx; simp))
  have hown : ∀ k, k ∈ vR.ownBlock.toList → vR.ownBlock = some k := fun k hk => by
    cases hb : vR.ownBlock with
    | none => rw [hb] at hk; simp at hk
    | some x => rw [hb] at hk; simp at hk; rw [hk]
  have hP := h.bx.lt
  refine ⟨⟨h2, h.bx.tn ht3 ?_, ⟨h.np.1, fun k hk => ?_⟩, h.below.trans (ht3.below h.below.size ?_), Nat.le_trans h.sz ht3.size⟩, ht3, h1.blk⟩
  · intro hm
    rcases List.mem_cons.1 hm with h3 | h3
    · exact h.np.1 h3.symm
    · exact h.np.2 P (.inr (hown P h3)) rfl
  · rcases hk with h3 | h3
    · exact h.np.2 k (.inl h3)
    · rcases hv with h4 | h4
      · rw [h4] at h3; exact h.np.2 k (.inr h3)
      · rw [h4] at h3; cases h3; omega
  · intro x hx
    rcases List.mem_cons.1 hx with rfl | h3
    · exact h.cl.ge
    · exact ((h.cl.row 1 _ rfl).lt x (hown x h3)).1

/-- The row of keys has grown, and is noted. -/
theorem Nd.appK {w W W1 : World} {B P m : Nat} {ss ss' : List (List UInt8)} {rl : List En} {vK vR v' : Value} (h : Nd w W B P m ss rl vK vR) (hg : W.grownBy W1 vK.ownBlock) (ho : W1.ownsRow w.heap.size 9 1 v' ss'.length (ss'.map encStr)) (hv : v'.ownBlock = vK.ownBlock ∨ v'.ownBlock = some W.heap.size) :
    Nd w (W1.setCell ⟨B, 0, none⟩ v') B P m ss' rl v' vR ∧ Tn (B :: vK.ownBlock.toList) W (W1.setCell ⟨B, 0, none⟩ v') ∧ Bk W1 B 118 (ndVals vK vR) := by
  have h1 := h.cl.app (i := 0) rfl hg ho hv
  have ht := tn_grown hg
  obtain ⟨h2, ht2⟩ := h1.put 0 v'
  have ht3 : Tn (B :: vK.ownBlock.toList) W (W1.setCell ⟨B, 0, none⟩ v') := (ht.mono (fun x hx => List.mem_cons_of_mem _ hx)).trans ht2 (fun x hx => .inl (by simp at hx; subst hx; simp))
  have hown : ∀ k, k ∈ vK.ownBlock.toList → vK.ownBlock = some k := fun k hk => by
    cases hb : vK.ownBlock with
    | none => rw [hb] at hk; simp at hk
    | some x => rw [hb] at hk; simp at hk; rw [hk]
  have hP := h.bx.lt
  refine ⟨⟨h2, h.bx.tn ht3 ?_, ⟨h.np.1, fun k hk => ?_⟩, h.below.trans (ht3.below h.below.size ?_), Nat.le_trans h.sz ht3.size⟩, ht3, h1.blk⟩
  · intro hm
    rcases List.mem_cons.1 hm with h3 | h3
    · exact h.np.1 h3.symm
    · exact h.np.2 P (.inl (hown P h3)) rfl
  · rcases hk with h3 | h3
    · rcases hv with h4 | h4
      · rw [h4] at h3; exact h.np.2 k (.inl h3)
      · rw [h4] at h3; cases h3; omega
    · exact h.np.2 k (.inr h3)
  · intro x hx
    rcases List.mem_cons.1 hx with rfl | h3
    · exact h.cl.ge
    · exact ((h.cl.row 0 _ rfl).lt x (hown x h3)).1

/-- What the deltas bring: entries; keys. -/
def rowsOf (ds : List De) : List En := (ds.map fun d => d.rt.l).flatten
def textsOf (ds : List De) : List (List UInt8) := (ds.map fun d => [d.key.toList, d.e.key.toList]).flatten

theorem rowsOf_snoc (ds : List De) (d : De) : rowsOf (ds ++ [d]) = rowsOf ds ++ d.rt.l := by simp [rowsOf]
theorem textsOf_snoc (ds : List De) (d : De) : textsOf (ds ++ [d]) = textsOf ds ++ [d.key.toList, d.e.key.toList] := by simp [textsOf]

section
variable {P : Program} {Q : Exit → Act → World → Prop} {S : World → Prop} {l n : Nat}
theorem wpIn_mid {id : Nat} {os : List Oper} {a : Act} {w : World} (m : Nat) (hm : P.follows .mixedOrders = true) (hd : noDefer os = true) (hq : ¬ LetsOut Q)
    (h : wpAnyM P .any os.toArray Q S m os.toArray.size (Array.replicate os.toArray.size false) a w.drew) : (Code.region id os.toArray true).wpIn (Fence.wide.inRound l) n P Q a w :=
  wpIn_region_any hm (wpAnyIn_of_any (noDefer_out hd) hq _ _ _ _ (wpAny_of_mid _ _ _ _ h))
end
end Go.Proofs.YtlcbideongbmeaaGreat

namespace Go.Proofs.YtlcbideongbmeaaGreat
open Go.RowKit Go.Lib Go.Shelf Go.Sort Dr
set_option linter.unusedVariables false
set_option maxRecDepth 100000

theorem dsort_any {w : World} {base : Nat} {v : Value} {ss : List (List UInt8)} (h : w.ownsRow base 9 1 v ss.length (ss.map encStr)) (hb : ss.length ≤ 8796093022207) :
    Calls Tryz.prog 94 #[v] w fun e w' => e = .returned (.tuple #[]) ∧ w'.ownsRow base 9 1 v ss.length ((ss.mergeSort fun x y => decide (x ≤ y)).map encStr) ∧ w.grownBy w' v.ownBlock := by
  rcases h.2 with ⟨hv, hn⟩ | ⟨g, cap, cur, hv, hbase, hbk, h1, h2, h3, h4⟩
  · subst hv
    have hs : ss = [] := List.eq_nil_of_length_eq_zero hn
    subst hs
    refine (AnyM.slices_Sort_string_none Tryz.drSort none 0 w).mono ?_
    rintro e w' ⟨rfl, rfl⟩
    refine ⟨rfl, ?_, ?_⟩
    · simp
      exact World.ownsRow_nil _ _ _ _
    · exact ⟨rfl, rfl, rfl, Nat.le_refl _, fun _ _ _ => rfl⟩
  · subst hv
    refine (AnyM.slices_Sort_string Tryz.drSort g 0 cap ss w (holds_of_block hbk (by simpa using h4)) (Array.getElem?_eq_some_iff.1 hbk).1 (by omega)).mono ?_
    rintro e w' ⟨rfl, n, os, rfl⟩
    exact ⟨rfl, ownsRow_sorted (by simp) hbase hbk h1 h2 h3, grownBy_sorted _⟩

theorem dcompact_any {w : World} {base : Nat} {v : Value} {ss : List (List UInt8)} (h : w.ownsRow base 9 1 v ss.length (ss.map encStr)) (hb : ss.length ≤ 8796093022207) :
    Calls Tryz.prog 95 #[v] w fun e w' => ∃ v', e = .returned v' ∧ w'.ownsRow base 9 1 v' (compact ss).length ((compact ss).map encStr) ∧ w.grownBy w' v.ownBlock ∧ v'.ownBlock = v.ownBlock := by
  rcases h.2 with ⟨hv, hn⟩ | ⟨g, cap, cur, hv, hbase, hbk, h1, h2, h3, h4⟩
  · subst hv
    have hs : ss = [] := List.eq_nil_of_length_eq_zero hn
    subst hs
    refine (AnyG.slices_Compact_string_empty Tryz.drCompact none 0 w).mono ?_
    rintro e w' ⟨rfl, rfl⟩
    exact ⟨_, rfl, World.ownsRow_nil _ _ _ _, ⟨rfl, rfl, rfl, Nat.le_refl _, fun _ _ _ => rfl⟩, rfl⟩
  · subst hv
    refine (AnyG.slices_Compact_string Tryz.drCompact g 0 cap ss w (holds_of_block hbk (by simpa using h4)) (by omega) h1).mono ?_
    rintro e w' ⟨rfl, q, rfl⟩
    have hle := compact_length_le ss
    refine ⟨_, rfl, ?_, ?_, rfl⟩
    · have := ownsRow_putRow (enc := encStr) (q := q) (k := (compact ss).length) (ys := compact ss ++ List.replicate (ss.length - (compact ss).length) []) h (by simp; omega) hle
      rw [List.take_left' rfl] at this
      exact this
    · have := grownBy_sorted (w := w) (g := g) (n := q) (os := #[]) (compact ss ++ List.replicate (ss.length - (compact ss).length) []).toArray
      rw [grow_empty] at this
      exact this

/-- A draft while its rows are laid. -/
structure Nwd (w W : World) (B P D : Nat) (vals : Array Value) (rows : List Rs) : Prop where
  cl : Cl W w.heap.size B 118 vals rows
  bx : Bk W P 99 #[.pointer (some ⟨B, 0, none⟩)]
  np : B ≠ P ∧ ∀ (i : Nat) r, rows[i]? = some r → r.v.ownBlock ≠ some P
  dd : W.heap[D]? = some (.deferred (some []))
  below : Below w.heap.size w W

section
variable {w W W' : World} {B P D : Nat} {vals : Array Value} {rows : List Rs}
theorem dd_ne {k : Nat} (hd : W.heap[D]? = some (.deferred (some []))) {o : Obj} (ho : W.heap[k]? = some o) (hc : o.isCells = true) : D ≠ k := fun e => by
  rw [← e, hd] at ho
  cases ho
  cases hc

theorem Nwd.still (h : Nwd w W B P D vals rows) (ht : Tn [] W W') : Nwd w W' B P D vals rows :=
  ⟨h.cl.still ht, h.bx.tn ht (by simp), h.np, (ht.block D (Array.getElem?_eq_some_iff.1 h.dd).1 (by simp)).trans h.dd, h.below.trans (ht.below h.below.size (by simp))⟩

theorem Nwd.put (h : Nwd w W B P D vals rows) (j : Nat) (u : Value) : Nwd w (W.setCell ⟨B, j, none⟩ u) B P D (vals.setIfInBounds j u) rows := by
  obtain ⟨h1, ht⟩ := h.cl.put j u
  exact ⟨h1, h.bx.tn ht (by simp; exact Ne.symm h.np.1), h.np, (ht.block D (Array.getElem?_eq_some_iff.1 h.dd).1 (by simp; exact dd_ne h.dd h.cl.blk rfl)).trans h.dd, h.below.trans (ht.below h.below.size (by simp; exact h.cl.ge))⟩

theorem Nwd.app (h : Nwd w W B P D vals rows) {i : Nat} {r : Rs} {v' : Value} {n' : Nat} {xs' : List Value} (hi : rows[i]? = some r) (hg : W.grownBy W' r.v.ownBlock) (ho : W'.ownsRow w.heap.size r.t r.sz v' n' xs') (hv : v'.ownBlock = r.v.ownBlock ∨ v'.ownBlock = some W.heap.size) : Nwd w W' B P D vals (rows.set i ⟨r.t, r.sz, v', n', xs'⟩) := by
  have hil : i < rows.length := (List.getElem?_eq_some_iff.1 hi).1
  have ht := tn_grown hg
  have hnm : ∀ k, k ∈ r.v.ownBlock.toList → r.v.ownBlock = some k := fun k hk => by
    cases hb : r.v.ownBlock with
    | none => rw [hb] at hk; simp at hk
    | some x => rw [hb] at hk; simp at hk; rw [hk]
  refine ⟨h.cl.app hi hg ho hv, h.bx.tn ht (fun hm => h.np.2 i r hi (hnm _ hm)), ⟨h.np.1, fun j q hq => ?_⟩, (ht.block D (Array.getElem?_eq_some_iff.1 h.dd).1 (fun hm => ?_)).trans h.dd, h.below.trans (ht.below h.below.size (fun x hx => ((h.cl.row i r hi).lt x (hnm x hx)).1))⟩
  · by_cases hj : j = i
    · subst hj
      rw [List.getElem?_set_self hil] at hq
      cases hq
      rcases hv with h1 | h1
      · show v'.ownBlock ≠ some P
        rw [h1]; exact h.np.2 _ r hi
      · show v'.ownBlock ≠ some P
        rw [h1]
        have := h.bx.lt
        intro e; cases e; omega
    · rw [List.getElem?_set_ne (Ne.symm hj)] at hq
      exact h.np.2 j q hq
  · obtain ⟨o, ho', hc⟩ := row_kind (h.cl.row i r hi) (hnm _ hm)
    exact dd_ne h.dd ho' hc rfl

theorem Nwd.add (h : Nwd w W B P D vals rows) (ht : Tn [] W W') {r : Rs} {g : Nat} (ho : W'.ownsRow w.heap.size r.t r.sz r.v r.n r.xs) (hv : r.v.ownBlock = some g) (hg : W.heap.size ≤ g) : Nwd w W' B P D vals (rows ++ [r]) := by
  have h1 := h.still ht
  refine ⟨h.cl.add ht ho hv hg, h1.bx, ⟨h.np.1, fun i q hi => ?_⟩, h1.dd, h1.below⟩
  by_cases hl : i < rows.length
  · rw [List.getElem?_append_left hl] at hi
    exact h.np.2 i q hi
  · rw [List.getElem?_append_right (by omega)] at hi
    have h0 : i - rows.length = 0 := by have := (List.getElem?_eq_some_iff.1 hi).1; simp at this; omega
    rw [h0] at hi
    simp at hi
    rw [← hi, hv]
    have := h.bx.lt
    intro e; cases e; omega

theorem bk_ne_row {t e : TypeId} {cs : Array Value} {base size n k : Nat} {v : Value} {xs : List Value} (h : Bk W P t cs) (hr : W.ownsRow base e size v n xs) (hv : v.ownBlock = some k) (hte : t ≠ e) : v.ownBlock ≠ some P := fun hP => by
  rcases hr.2 with ⟨h1, _⟩ | ⟨g, c, cur, h1, _, h2, _⟩
  · rw [h1] at hv; cases hv
  · rw [h1] at hP
    have hgx : g = P := Option.some.inj hP
    rw [hgx, show W.heap[P]? = _ from h] at h2
    cases h2
    exact hte rfl

theorem made_ens (n : Nat) : (madeCells (Value.agg #[.string ⟨#[]⟩, .int .i64 0, .int .i64 0, .int .i64 0]).cells (n * 4)).toList = flatE (List.replicate n En.zero) := by
  apply List.ext_getElem?
  intro j
  by_cases hj : j < n * 4
  · have hi : j / 4 < n := by omega
    have he : (List.replicate n En.zero)[j / 4]? = some En.zero := by simp [hi]
    obtain ⟨h0, h1, h2, h3⟩ := flatE_at (List.replicate n En.zero) (j / 4) _ he
    have hm : j = j / 4 * 4 + j % 4 := by omega
    have hlhs : (madeCells (Value.agg #[.string ⟨#[]⟩, .int .i64 0, .int .i64 0, .int .i64 0]).cells (n * 4)).toList[j]? = some ((#[Value.string ⟨#[]⟩, .int .i64 0, .int .i64 0, .int .i64 0] : Array Value).getD (j % 4) undef) := by
      have h4 : j % 4 = 0 ∨ j % 4 = 1 ∨ j % 4 = 2 ∨ j % 4 = 3 := by omega
      rcases h4 with h | h | h | h <;> simp [madeCells, Value.cells, hj, h]
    rw [hlhs]
    have h4 : j % 4 = 0 ∨ j % 4 = 1 ∨ j % 4 = 2 ∨ j % 4 = 3 := by omega
    rcases h4 with h | h | h | h
    · rw [h]; rw [h] at hm; rw [hm]; simp only [Nat.add_zero]; rw [h0]; rfl
    · rw [h]; rw [h] at hm; rw [hm]; rw [h1]; rfl
    · rw [h]; rw [h] at hm; rw [hm]; rw [h2]; rfl
    · rw [h]; rw [h] at hm; rw [hm]; rw [h3]; rfl
  · rw [List.getElem?_eq_none (by simp [madeCells]; omega), List.getElem?_eq_none (by rw [flatE_len]; simp; omega)]

/-- A row of entries is made. -/
theorem Nwd.makeE (h : Nwd w W B P D vals rows) (n : Nat) (hn : n ≤ 7036874417766) :
    ∃ W1, (Instr.makeSlice 22 (.int .i64 (n : Int)) (.int .i64 (n : Int))).run Tryz.prog W.drew = .ok (.slice (some ⟨W.heap.size, 0, none⟩) n n) W1 ∧ Nwd w W1 B P D vals (rows ++ [⟨30, 4, sl W.heap.size n n, n, flatE (List.replicate n En.zero)⟩]) := by
  obtain ⟨i0, hi, hz0, hz1, hz2⟩ := en_info
  obtain ⟨W1, h1, h2, h3⟩ := run_make_full (P := Tryz.prog) W.drew w.heap.size 22 30 i0 _ 4 Tryz.underlying22 hi hz0 hz1 .i64 .i64 n (by rw [hz2]; omega) (by unfold maxLen; omega) h.below.size
  have ht : Tn [] W W1 := (Tn.drew (Tn.refl [] W)).trans (T := []) ⟨h3.os, h3.tape, h3.output, h3.size, fun k hk _ => h3.block k hk (by simp)⟩ (by simp)
  refine ⟨W1, h1, h.add ht (r := ⟨30, 4, sl W.heap.size n n, n, flatE (List.replicate n En.zero)⟩) (g := W.heap.size) ?_ rfl (Nat.le_refl _)⟩
  rw [made_ens] at h2
  exact h2

theorem Nwd.makeI (h : Nwd w W B P D vals rows) (n : Nat) (hn : n ≤ 35184372088832) :
    ∃ W1, (Instr.makeSlice 115 (.int .i64 (n : Int)) (.int .i64 (n : Int))).run Tryz.prog W.drew = .ok (.slice (some ⟨W.heap.size, 0, none⟩) n n) W1 ∧ Nwd w W1 B P D vals (rows ++ [⟨3, 1, sl W.heap.size n n, n, ints (List.replicate n 0)⟩]) := by
  obtain ⟨W1, h1, hI, hB⟩ := make_ints 115 Tryz.underlying115 n hn W.drew
  have ht : Tn [] W W1 := (Tn.drew (Tn.refl [] W)).trans (Tn.of_below hB []) (by simp)
  refine ⟨W1, h1, h.add ht (r := ⟨3, 1, sl W.heap.size n n, n, ints (List.replicate n 0)⟩) (g := W.heap.size) ?_ rfl (Nat.le_refl _)⟩
  have h2 := hI
  unfold Ir at h2
  rw [List.length_replicate] at h2
  exact row_mono h2 h.below.size
end
end Go.Proofs.YtlcbideongbmeaaGreat

namespace Go.Proofs.YtlcbideongbmeaaGreat
open Go.RowKit Go.Lib Go.Shelf Dr
attribute [local go_sem] Oper.semAt_some
set_option linter.unusedVariables false
set_option maxRecDepth 100000

/-- All texts that a draft knows. -/
def allTexts (pl : List En) (ds : List De) : List (List UInt8) := textsOf ds ++ (pl ++ rowsOf ds).map fun e => e.key.toList

/-- A new draft that is answered. -/
def Ndr (w : World) (pl : List En) (ds : List De) (e : Ending) (w' : World) : Prop :=
  ∃ B V, e = .returned (.pointer (some ⟨B, 0, none⟩)) ∧ Drn w' w.heap.size B (keysOf (allTexts pl ds)) (fx0 (keysOf (allTexts pl ds)) (pl ++ rowsOf ds)) (df0 (keysOf (allTexts pl ds)) (pl ++ rowsOf ds)) V ∧ Below w.heap.size w w'

set_option maxHeartbeats 16000000 in
theorem newDraft_any (pf : Bool) (plo phi : ByteArray) (pr : Int) (pp : Option Addr) (pn pc : Nat) (pl : List En) (p : Option Addr) (len cap : Nat) (L : List Dm) (w : World) (hlen : pl.length = pn) (hx : Ens w pp pl) (hp : pp = none → pn = 0) (hL : L.length = len) (hD : Des w p L)
    (hRt : (pl ++ rowsOf (L.map (·.d)).reverse).length ≤ 3518437208782) (hKt : (allTexts pl (L.map (·.d)).reverse).length ≤ 7036874417766) :
    Calls Tryz.prog 72 #[pgv pf plo phi pr pp pn pc, .slice p len cap] w fun e w' => Ndr w pl (L.map (·.d)).reverse e w' := by
  have hll : len ≤ 4398046511104 := by
    have h1 : (textsOf (L.map (·.d)).reverse).length = 2 * len := by
      have : ∀ ds : List De, (textsOf ds).length = 2 * ds.length := fun ds => by
        induction ds with
        | nil => rfl
        | cons d r ih => simp only [textsOf, List.map_cons, List.flatten_cons, List.length_append, List.length_cons, List.length_nil] at ih ⊢; omega
      rw [this]; simp [hL]
    unfold allTexts at hKt
    rw [List.length_append] at hKt
    omega
  have hpl : pn ≤ 3518437208782 := by
    rw [List.length_append] at hRt
    omega
  refine calls_of_wpAt Tryz.func72 rfl ?_
  simp only [Tryz.ntmps72, List.size_toArray, List.length_cons, List.length_nil, Nat.reduceAdd, Nat.reduceSub, Array.replicate_succ, Array.replicate_zero, List.push_toArray, List.append_toArray, List.nil_append, List.cons_append]
  have HX : Hid (Ens w pp pl) := hx
  have HLn : Hid (pl.length = pn) := hlen
  have HPN : Hid (pp = none → pn = 0) := hp
  have HD : Hid (Des w p L) := hD
  have HL : Hid (L.length = len) := hL
  have HRT : Hid ((pl ++ rowsOf (L.map (·.d)).reverse).length ≤ 3518437208782) := hRt
  have HKT : Hid ((allTexts pl (L.map (·.d)).reverse).length ≤ 7036874417766) := hKt
  clear hx hlen hp hD hL hRt hKt
  obtain ⟨w0, hw0⟩ : ∃ w0, w0 = w.alloc (.cells #[.bool pf, .string plo, .string phi, .int .i64 pr, .slice pp pn pc] 24) := ⟨_, rfl⟩
  have HB0 : Hid (Below w.heap.size w w0) := by rw [hw0]; exact (Below.refl _ _).alloc (Nat.le_refl _) _
  have HK0 : Hid (Bk w0 w.heap.size 24 #[.bool pf, .string plo, .string phi, .int .i64 pr, .slice pp pn pc]) := by rw [hw0]; exact Bk.new _ _ _
  have a4 : w0.cell? ⟨w.heap.size, 4, none⟩ = some (.slice pp pn pc) := HK0.out.cell 4
  refine wpAt_seq_k fun K hK => wpAt_of_wp ?_
  go_wp2
  rw [← hw0]
  clear hw0
  refine wpAt_seq_k fun K hK => wpAt_of_wp ?_
  go_wp2_with fail
  refine (eclone_any pp pn pc pl w0 HLn.out (HX.out.below HB0.out (Nat.le_refl _)) hpl HPN.out).mono ?_
  rintro e w1 ⟨v1, rfl, ho1, hb1⟩
  obtain ⟨q1, c1, hv1⟩ : ∃ q c, v1 = .slice q pn c := by
    obtain ⟨q, c, hv, _, _⟩ := ho1.ens
    rw [HLn.out] at hv
    exact ⟨q, c, hv⟩
  obtain ⟨B, hB⟩ : ∃ B, w1.heap.size = B := ⟨_, rfl⟩
  obtain ⟨PP, hPP⟩ : ∃ PP, B + 1 = PP := ⟨_, rfl⟩
  obtain ⟨w2, hw2⟩ : ∃ w2, w2 = (w1.alloc (.cells #[nilS, v1, .int .i64 0, nilS, nilS, nilS, nilS, nilS, nilS, nilS] 118)).alloc (.cells #[.pointer (some ⟨B, 0, none⟩)] 99) := ⟨_, rfl⟩
  have HN2 : Hid (Nd w w2 B PP 0 [] pl nilS v1) := by
    have hb01 : Below w.heap.size w w1 := HB0.out.trans (hb1.mono HB0.out.size)
    have hv1b : ∀ k, v1.ownBlock = some k → w.heap.size ≤ k ∧ k < w1.heap.size := fun k hk => by
      have h1 := World.ownsRow.lt ho1 k hk
      have h2 := HB0.out.size
      omega
    have ht : Tn [] w1 w2 := by rw [hw2]; exact ((Tn.refl [] w1).alloc _).alloc _
    have hblk : Bk w2 B 118 #[nilS, v1, .int .i64 0, nilS, nilS, nilS, nilS, nilS, nilS, nilS] := by rw [hw2, ← hB]; exact (Bk.new _ _ _).alloc _
    have hbp : Bk w2 PP 99 #[.pointer (some ⟨B, 0, none⟩)] := by
      have := Bk.new (w1.alloc (.cells #[nilS, v1, .int .i64 0, nilS, nilS, nilS, nilS, nilS, nilS, nilS] 118)) 99 #[.pointer (some ⟨B, 0, none⟩)]
      have e : PP = w1.heap.size + 1 := by omega
      rw [hw2, e]
      simpa using this
    refine ⟨⟨hblk, ?_, fun i r hi => ?_, fun i r hi => ?_, fun i j r q k hi hj h1 h2 => ?_⟩, hbp, ⟨by omega, fun k hk => ?_⟩, hb01.trans (ht.below hb01.size (by simp)), Nat.zero_le _⟩
    · have := hb01.size; omega
    · match i, hi with
      | 0, hi => cases hi; exact World.ownsRow_nil _ _ _ _
      | 1, hi => cases hi; exact row_tn (row_mono ho1 HB0.out.size) ht (by simp)
      | n + 2, hi => simp [ndRows] at hi
    · match i, hi with
      | 0, hi => cases hi; intro h; cases h
      | 1, hi => cases hi; intro h; have := hv1b B h; omega
      | n + 2, hi => simp [ndRows] at hi
    · match i, hi, j, hj with
      | 0, hi, _, _ => cases hi; cases h1
      | 1, hi, 0, hj => cases hj; cases h2
      | 1, hi, 1, hj => rfl
      | 1, hi, n + 2, hj => simp [ndRows] at hj
      | n + 2, hi, _, _ => simp [ndRows] at hi
    · rcases hk with h | h
      · cases h
      · have := hv1b k h; omega
  clear ho1 hb1
  rw [hv1] at hw2 ⊢
  go_wp2
  rw [← hw2]
  clear hw2
  refine wpAt_seq_k fun K hK => ?_
  have HK : Hid _ := hK
  clear hK
  refine wpAt_seq_k fun K2 hK2 => wpAt_of_wp ?_
  go_wp2_with fail
  refine (backD_any p len cap w2).mono ?_
  rintro e w3 ⟨rfl, hw3⟩
  have ht3 : Tn [] w2 w3 := by rw [hw3]; exact (Tn.refl _ _).alloc _
  have hN3 : Nd w w3 B PP w3.heap.size [] pl nilS v1 := { HN2.out.still ht3 with sz := Nat.le_refl _ }
  have hk3 : Bk w3 w2.heap.size 25 #[.slice p len cap] := by rw [hw3]; exact Bk.new _ _ _
  have hs3 : w2.heap.size < w3.heap.size := hk3.lt
  have hseq := backD_stops HL.out hll HD.out hk3 (Alike.of_below hN3.below) hN3.below.size
  have HDS : Hid (∀ W, Below w.heap.size w W → Des W p L) := fun W hW => HD.out.below hW (Nat.le_refl _)
  have hws := hN3.below.size
  have hPl : PP < w2.heap.size := HN2.out.bx.lt
  have hBl : B < w2.heap.size := HN2.out.cl.blk.lt
  have hBg := HN2.out.cl.ge
  have hI3 : ∃ vK vR, Nd w w3 B PP w3.heap.size (textsOf []) (pl ++ rowsOf []) vK vR ∧ ∀ k, vK.ownBlock = some k ∨ vR.ownBlock = some k → k ≠ w2.heap.size := by
    refine ⟨nilS, v1, ?_, fun k hk => ?_⟩
    · have e : pl ++ rowsOf [] = pl := by simp [rowsOf]
      rw [e]
      exact hN3
    · rcases hk with h | h
      · cases h
      · have := ((HN2.out.cl.row 1 _ rfl).lt k h).2
        omega
  clear hw3 ht3 hk3
  go_wp2
  refine wpAt_block ?_
  refine wpAt_boxed ?A Tryz.func72 (gf := 93) (lb := #[.pointer (some ⟨w2.heap.size, 0, none⟩)]) rfl (enters_of Tryz.func93 (by kernel_rfl) rfl)
    hseq KpB.t (fun W l o o' hl _ _ _ => ⟨fun k hk => World.putObj_heap_other (by omega), World.putObj_heap_other (by omega)⟩) (Below.refl _ _) (fun _ => rfl)
    (fun pre W => ∃ vK vR, Nd w W B PP w3.heap.size (textsOf (pre.map (·.2.d))) (pl ++ rowsOf (pre.map (·.2.d))) vK vR ∧ ∀ k, vK.ownBlock = some k ∨ vR.ownBlock = some k → k ≠ w2.heap.size)
    (fun _ _ _ => False)
    (fun _ _ _ => False)
    (fun s A B' row hs hg hr => by
      obtain ⟨vK, vR, h1, h2⟩ := hs
      exact ⟨vK, vR, h1.abides (k := w3.heap.size) (by omega) hg hr, h2⟩)
    (fun cc s A B row hs hg hr => hs.elim)
    hI3
    (fun x bx W => w3.heap.size ≤ bx ∧ Bk W bx 32 x.2.cells.toArray)
    (fun x bx _ A B' row hs hg hr => ⟨hs.1, bk_from hs.2 hg hr⟩)
    ?assign ?body ?done (fun D cc pre W _ _ h _ => h.elim) (fun D cc pre W _ _ h _ => h.elim)
  case assign =>
    rintro l pre x W K hL hK
    obtain ⟨vK, vR, hL, hnb⟩ := hL
    gi_wp2
    have ht : Tn [] W (W.alloc (.cells x.2.cells.toArray 32)) := (Tn.refl _ _).alloc _
    obtain ⟨bx, hbx⟩ : ∃ bx, W.heap.size = bx := ⟨_, rfl⟩
    have kx : Bk (W.alloc (.cells x.2.cells.toArray 32)) bx 32 x.2.cells.toArray := by rw [← hbx]; exact Bk.new _ _ _
    have hle : w3.heap.size ≤ bx := by have := hL.sz; omega
    rw [hbx]
    refine hK bx _ ((keeps_tn ht (by simp)).from _) ⟨fun k hk => ht.block k (by omega) (by simp), ht.block _ (by omega) (by simp)⟩ ⟨vK, vR, hL.still ht, hnb⟩ ⟨hle, kx⟩
  case done =>
    rintro D zs W hD rfl hT hK2
    obtain ⟨vK, vR, hN, -⟩ := hT
    rw [Dl.bw_map] at hN
    obtain ⟨ds, hds⟩ : ∃ ds : List De, (L.map (·.d)).reverse = ds := ⟨_, rfl⟩
    have HRT2 := HRT.out
    have HKT2 := HKT.out
    rw [hds] at hN HRT2 HKT2 ⊢
    have HR0 : Hid ((pl ++ rowsOf ds).length ≤ 3518437208782 ∧ (allTexts pl ds).length ≤ 7036874417766) := ⟨HRT2, HKT2⟩
    have HDSE : Hid ((L.map (·.d)).reverse = ds) := hds
    clear HRT2 HKT2 hds
    obtain ⟨row, hrow⟩ : ∃ row, pl ++ rowsOf ds = row := ⟨_, rfl⟩
    rw [hrow] at hN
    have HROW : Hid (pl ++ rowsOf ds = row) := hrow
    obtain ⟨pR, nR, cR, hvR, hnRl⟩ : ∃ p n c, vR = .slice p n c ∧ row.length = n := by
      have h1 : OwnE W w.heap.size vR row := hN.cl.row 1 _ rfl
      obtain ⟨q, c, hv, _, _⟩ := h1.ens
      exact ⟨q, _, c, hv, rfl⟩
    have hnb : nR ≤ 3518437208782 := by have := HR0.out.1; rw [hrow] at this; omega
    subst hvR
    have HS0 : Hid (∃ vK, Nd w W B PP 0 (textsOf ds ++ (row.take 0).map fun e => e.key.toList) row vK (.slice pR nR cR)) := ⟨vK, by simpa using { hN with sz := Nat.zero_le _ }⟩
    have p0 : W.cell? ⟨PP, 0, none⟩ = some (.pointer (some ⟨B, 0, none⟩)) := hN.bx.cell 0
    have x1 : W.cell? ⟨B, 1, none⟩ = some (.slice pR nR cR) := hN.cl.blk.cell 1
    have HDD : Hid (D < W.heap.size ∧ w.heap.size ≤ D) := ⟨(Array.getElem?_eq_some_iff.1 hK2).1, by omega⟩
    clear hN
    refine HK.out _ _ (wpAt_of_wp ?_)
    clear HK K
    go_wp2_with fail
    clear p0 x1
    have HDW : Hid (W.heap[D]? = some (.deferred (some []))) := hK2
    clear hK2
    go_loopw [49] (fun iv wr => ∃ j : Nat, j ≤ nR ∧ iv = .int .i64 (j : Int) ∧ Hid (∃ vK, Nd w wr B PP 0 (textsOf ds ++ (row.take j).map fun e => e.key.toList) row vK (.slice pR nR cR)) ∧ Hid (wr.heap[D]? = some (.deferred (some [])))) (fun iv _ => nR - (intOf iv).toNat)
    case atStart => exact ⟨0, Nat.zero_le _, rfl, HS0, HDW⟩
    case round =>
      obtain ⟨j, hj, rfl, HW, HDr⟩ := hrel
      clear HS0 HDW
      by_cases hlt : j < nR
      · have hli : (j : Int) < (nR : Int) := by omega
        have hj0 : (0 : Int) ≤ (j : Int) := by omega
        obtain ⟨vK, hN⟩ := HW.out
        have hrr : wr.ownsRow w.heap.size 30 4 (.slice pR nR cR) nR (flatE row) := by have := hN.cl.row 1 _ rfl; simp only [hnRl] at this; exact this
        obtain ⟨gR, hpR⟩ : ∃ g, pR = some ⟨g, 0, none⟩ := by
          rcases hrr.2 with ⟨h1, h2⟩ | ⟨g, cap, cur, hv, _⟩
          · omega
          · cases hv; exact ⟨g, rfl⟩
        subst hpR
        obtain ⟨z0, z1, z2, z3⟩ := row_en hrr j hlt
        obtain ⟨xe, hxe⟩ : ∃ e, row.getD j En.zero = e := ⟨_, rfl⟩
        rw [hxe] at z0 z1 z2 z3
        obtain ⟨ss, hss⟩ : ∃ ss, textsOf ds ++ (row.take j).map (fun e => e.key.toList) = ss := ⟨_, rfl⟩
        rw [hss] at hN
        have hss2 : textsOf ds ++ (row.take (j + 1)).map (fun e => e.key.toList) = ss ++ [xe.key.toList] := by
          have hjl : j < row.length := by omega
          have : row[j]? = some xe := by rw [← hxe]; simp [List.getD, hjl]
          rw [List.take_add_one, this, List.map_append, ← List.append_assoc, hss]
          rfl
        have hsl : ss.length + 1 ≤ 8796093022207 := by
          have h1 := HR0.out.2
          unfold allTexts at h1
          rw [HROW.out] at h1
          rw [← hss]
          simp only [List.length_append, List.length_map, List.length_take] at h1 ⊢
          omega
        obtain ⟨w4, hw4⟩ : ∃ w4, wr.alloc (.cells #[.string xe.key, .int .i64 xe.s, .int .i64 xe.g, .int .i64 xe.c] 30) = w4 := ⟨_, rfl⟩
        obtain ⟨bx, hbx⟩ : ∃ bx, wr.heap.size = bx := ⟨_, rfl⟩
        have ht4 : Tn [] wr w4 := by rw [← hw4]; exact (Tn.refl [] wr).alloc _
        have hkx : Bk w4 bx 30 #[.string xe.key, .int .i64 xe.s, .int .i64 xe.g, .int .i64 xe.c] := by rw [← hw4, ← hbx]; exact Bk.new _ _ _
        have hN4 := (hN.still ht4).still (Tn.drew (Tn.refl [] w4))
        have hnK : ∀ k, vK.ownBlock = some k → k ≠ bx := fun k hk => by have := ((hN.cl.row 0 _ rfl).lt k hk).2; omega
        have hBx : B ≠ bx := by have := hN.cl.blk.lt; omega
        obtain ⟨pK, nK, cK, hvK⟩ : ∃ p n c, vK = .slice p n c := by
          rcases (hN.cl.row 0 _ rfl).2 with ⟨h1, h2⟩ | ⟨g, c, cur, h1, _⟩
          · exact ⟨none, 0, 0, h1⟩
          · exact ⟨_, _, c, h1⟩
        obtain ⟨W3, hW3⟩ : ∃ W3, w4.drew.alloc (.cells #[.string xe.key] 9) = W3 := ⟨_, rfl⟩
        have ht3 : Tn [] w4.drew W3 := by rw [← hW3]; exact (Tn.refl [] _).alloc _
        have hN3 := hN4.still ht3
        have hE3 : Bk W3 w4.heap.size 9 #[.string xe.key] := by rw [← hW3]; exact Bk.new w4.drew _ _
        have hkx3 : Bk W3 bx 30 _ := (show Bk w4.drew bx 30 _ from hkx).tn ht3 (by simp)
        obtain ⟨v5, W4, hr5, ho5, hg5, hb5⟩ := run_appS W3 w.heap.size 114 vK ss [xe.key.toList] w4.heap.size 1 rfl (fun q u hu => by
          have hq : q = 0 := by have := (List.getElem?_eq_some_iff.1 hu).1; simp at this; omega
          subst hq
          have e1 := enc_key xe.key
          simp only [List.map_cons, List.map_nil, List.getElem?_cons_zero, Option.some.injEq] at hu
          rw [← hu, e1]
          exact hE3.cell 0) (hN3.cl.row 0 _ rfl) (by omega) hN3.below.size
        obtain ⟨p5, n5, c5, hv5⟩ : ∃ p n c, v5 = .slice p n c := by
          rcases ho5.2 with ⟨h1, h2⟩ | ⟨g, c, cur, h1, _⟩
          · exact ⟨none, 0, 0, h1⟩
          · exact ⟨_, _, c, h1⟩
        subst hv5
        obtain ⟨hN5, ht5, hblk4⟩ := hN3.appK hg5 ho5 hb5
        have hnm : ∀ y, y ∈ vK.ownBlock.toList → vK.ownBlock = some y := fun y hk => by
          cases hb : vK.ownBlock with
          | none => rw [hb] at hk; simp at hk
          | some x => rw [hb] at hk; simp at hk; rw [hk]
        have hkx4 : Bk W4 bx 30 _ := hkx3.tn (tn_grown hg5) (fun hm => hnK _ (hnm _ hm) rfl)
        have hbx4 : Bk W4 PP 99 #[.pointer (some ⟨B, 0, none⟩)] := hN3.bx.tn (tn_grown hg5) (fun hm => hN.np.2 _ (.inl (hnm _ hm)) rfl)
        have HT4 : Hid (w4.drew.cell? ⟨PP, 0, none⟩ = some (.pointer (some ⟨B, 0, none⟩)) ∧ w4.drew.cell? ⟨B, 0, none⟩ = some (.slice pK nK cK) ∧ w4.drew.cell? ⟨bx, 0, none⟩ = some (.string xe.key)) := ⟨hN4.bx.cell 0, by rw [← hvK]; exact hN4.cl.blk.cell 0, hkx.cell 0⟩
        have HT5 : Hid (W3.cell? ⟨PP, 0, none⟩ = some (.pointer (some ⟨B, 0, none⟩)) ∧ W3.cell? ⟨B, 0, none⟩ = some (.slice pK nK cK) ∧ W3.cell? ⟨bx, 0, none⟩ = some (.string xe.key)) := ⟨hN3.bx.cell 0, by rw [← hvK]; exact hN3.cl.blk.cell 0, hkx3.cell 0⟩
        have HT6 : Hid (W4.cell? ⟨PP, 0, none⟩ = some (.pointer (some ⟨B, 0, none⟩)) ∧ W4.cell? ⟨B, 0, none⟩ = some (.slice pK nK cK) ∧ W4.cell? ⟨bx, 0, none⟩ = some (.string xe.key)) := ⟨hbx4.cell 0, by rw [← hvK]; exact hblk4.cell 0, hkx4.cell 0⟩
        have y0 : W4.cell? ⟨B, 0, none⟩ = some (.slice pK nK cK) := HT6.out.2.1
        have f0 : W4.frozen? ⟨B, 0, none⟩ = false := hblk4.frozen 0
        obtain ⟨W5, hW5⟩ : ∃ W5, W4.setCell ⟨B, 0, none⟩ (.slice p5 n5 c5) = W5 := ⟨_, rfl⟩
        rw [hW5] at hN5 ht5
        have HE : Hid ((∃ vK, Nd w W5 B PP 0 (textsOf ds ++ (row.take (j + 1)).map fun e => e.key.toList) row vK (.slice (some ⟨gR, 0, none⟩) nR cR)) ∧ W5.heap[D]? = some (.deferred (some []))) := by
          refine ⟨⟨_, by rw [hss2]; exact hN5⟩, ?_⟩
          have h1 : W3.heap[D]? = some (.deferred (some [])) := (ht3.block D (by have := (Array.getElem?_eq_some_iff.1 (show w4.heap[D]? = _ from (ht4.block D (Array.getElem?_eq_some_iff.1 HDr.out).1 (by simp)).trans HDr.out)).1; exact this) (by simp)).trans ((ht4.block D (Array.getElem?_eq_some_iff.1 HDr.out).1 (by simp)).trans HDr.out)
          refine (ht5.block D (Array.getElem?_eq_some_iff.1 h1).1 (fun hm => ?_)).trans h1
          rcases List.mem_cons.1 hm with h2 | h2
          · have h5 : W3.heap[B]? = _ := hN3.cl.blk
            rw [← h2, h1] at h5
            cases h5
          · obtain ⟨o, ho, hc⟩ := row_kind (hN3.cl.row 0 _ rfl) (hnm _ h2)
            rw [h1] at ho
            cases ho
            cases hc
        rw [hvK] at hr5
        have HR5 : Hid _ := hr5
        clear hr5 ho5 hg5 hb5 hN hN3 hN4 hN5 ht3 ht4 ht5 hblk4 hkx hkx3 hkx4 hbx4 hE3 hrr hss hss2 hxe hvK hnK hnm HW
        go_wp2_with fail
        refine wp_mono (Q := NoPanic _) ?_ NoPanic.imp
        refine wp_region_mid (S := (fun w' => w'.cell? ⟨PP, 0, none⟩ = some (.pointer (some ⟨B, 0, none⟩)) ∧ w'.cell? ⟨B, 0, none⟩ = some (.slice pK nK cK) ∧ w'.cell? ⟨bx, 0, none⟩ = some (.string xe.key))) 11 (by kernel_rfl) ?_
        refine wpAnyM_take (i := 0) [] (oi := { dst := some 53, op := Op.load 99 (Operand.tmp 5), type := 99, pos := _, after := #[], guard := none }) (v := .pointer (some ⟨B, 0, none⟩)) rfl (by kernel_rfl) (by kernel_rfl) (by kernel_rfl) (by kernel_rfl) (fun _ _ _ h => h) (Or.inl ⟨by rfl, ?_⟩) HT4.out ?_
        · (intro w' hSw; obtain ⟨m0, m1, m2⟩ := hSw; go_simp; try with_reducible rfl)
        try simp only [Act.put, List.setIfInBounds_toArray, List.set_cons_zero, List.set_cons_succ]
        refine wpAnyM_take (i := 1) [] (oi := { dst := some 54, op := Op.load 99 (Operand.tmp 5), type := 99, pos := _, after := #[], guard := none }) (v := .pointer (some ⟨B, 0, none⟩)) rfl (by kernel_rfl) (by kernel_rfl) (by kernel_rfl) (by kernel_rfl) (fun _ _ _ h => h) (Or.inl ⟨by rfl, ?_⟩) HT4.out ?_
        · (intro w' hSw; obtain ⟨m0, m1, m2⟩ := hSw; go_simp; try with_reducible rfl)
        try simp only [Act.put, List.setIfInBounds_toArray, List.set_cons_zero, List.set_cons_succ]
        refine wpAnyM_take (i := 2) [] (oi := { dst := some 55, op := Op.nilCheck (Operand.tmp 54), type := 0, pos := _, after := #[{ on := 1, ground := Ground.data }], guard := none }) (v := .pointer (some ⟨B, 0, none⟩)) rfl (by kernel_rfl) (by kernel_rfl) (by kernel_rfl) (by kernel_rfl) (fun _ _ _ h => h) (Or.inl ⟨by rfl, ?_⟩) HT4.out ?_
        · (intro w' hSw; obtain ⟨m0, m1, m2⟩ := hSw; go_simp; try with_reducible rfl)
        try simp only [Act.put, List.setIfInBounds_toArray, List.set_cons_zero, List.set_cons_succ]
        refine wpAnyM_take (i := 3) [] (oi := { dst := some 56, op := Op.fieldAddr 118 (Operand.tmp 55) 0, type := 0, pos := _, after := #[{ on := 2, ground := Ground.data }], guard := none }) (v := .pointer (some ⟨B, 0, none⟩)) rfl (by kernel_rfl) (by kernel_rfl) (by kernel_rfl) (by kernel_rfl) (fun _ _ _ h => h) (Or.inl ⟨by rfl, ?_⟩) HT4.out ?_
        · (intro w' hSw; obtain ⟨m0, m1, m2⟩ := hSw; go_simp; try with_reducible rfl)
        try simp only [Act.put, List.setIfInBounds_toArray, List.set_cons_zero, List.set_cons_succ]
        refine wpAnyM_take (i := 4) [] (oi := { dst := some 57, op := Op.load 114 (Operand.tmp 56), type := 114, pos := _, after := #[{ on := 3, ground := Ground.data }], guard := none }) (v := .slice pK nK cK) rfl (by kernel_rfl) (by kernel_rfl) (by kernel_rfl) (by kernel_rfl) (fun _ _ _ h => h) (Or.inl ⟨by rfl, ?_⟩) HT4.out ?_
        · (intro w' hSw; obtain ⟨m0, m1, m2⟩ := hSw; go_simp; try with_reducible rfl)
        try simp only [Act.put, List.setIfInBounds_toArray, List.set_cons_zero, List.set_cons_succ]
        refine wpAnyM_take (i := 5) [] (oi := { dst := some 58, op := Op.fieldAddr 30 (Operand.tmp 9) 0, type := 0, pos := _, after := #[], guard := none }) (v := .pointer (some ⟨bx, 0, none⟩)) rfl (by kernel_rfl) (by kernel_rfl) (by kernel_rfl) (by kernel_rfl) (fun _ _ _ h => h) (Or.inl ⟨by rfl, ?_⟩) HT4.out ?_
        · (intro w' hSw; obtain ⟨m0, m1, m2⟩ := hSw; go_simp; try with_reducible rfl)
        try simp only [Act.put, List.setIfInBounds_toArray, List.set_cons_zero, List.set_cons_succ]
        refine wpAnyM_take (i := 6) [] (oi := { dst := some 59, op := Op.load 9 (Operand.tmp 58), type := 9, pos := _, after := #[{ on := 5, ground := Ground.data }], guard := none }) (v := .string xe.key) rfl (by kernel_rfl) (by kernel_rfl) (by kernel_rfl) (by kernel_rfl) (fun _ _ _ h => h) (Or.inl ⟨by rfl, ?_⟩) HT4.out ?_
        · (intro w' hSw; obtain ⟨m0, m1, m2⟩ := hSw; go_simp; try with_reducible rfl)
        try simp only [Act.put, List.setIfInBounds_toArray, List.set_cons_zero, List.set_cons_succ]
        refine wpAnyM_ready (rs := [7]) (by kernel_rfl) (by simp) ?_
        refine AllReadyM.cons (o := { dst := some 60, op := Op.buildSlice 114 1 #[(0, Operand.tmp 59)], type := 114, pos := _, after := #[{ on := 6, ground := Ground.data }], guard := none }) rfl (fun K hK => ?_) AllReadyM.nil
        have HK9 : Hid (∀ a w, _ → K a w) := hK
        clear hK
        go_simp
        refine HK9.out _ _ ⟨fun _ => HT5.out, ?_⟩
        clear HK9 K
        try simp only [Act.put, List.setIfInBounds_toArray, List.set_cons_zero, List.set_cons_succ]
        refine wpAnyM_ready (rs := [8]) (by kernel_rfl) (by simp) ?_
        refine AllReadyM.cons (o := { dst := some 61, op := Op.call { callee := Callee.builtin Builtin.append, args := #[Operand.tmp 57, Operand.tmp 60], argTypes := #[114, 114] }, type := 114, pos := _, after := #[{ on := 4, ground := Ground.data }, { on := 7, ground := Ground.data }], guard := none }) rfl (fun K hK => ?_) AllReadyM.nil
        have HK9 : Hid (∀ a w, _ → K a w) := hK
        clear hK
        refine step_appR rfl _ _ _ rfl _ _ rfl rfl HR5.out ?_
        refine HK9.out _ _ ⟨fun _ => HT6.out, ?_⟩
        clear HK9 K
        try simp only [Act.put, List.setIfInBounds_toArray, List.set_cons_zero, List.set_cons_succ]
        refine wpAnyM_take (i := 9) [10] (oi := { dst := some 62, op := Op.nilCheck (Operand.tmp 53), type := 0, pos := _, after := #[{ on := 0, ground := Ground.data }, { on := 0, ground := Ground.phase }, { on := 1, ground := Ground.phase }, { on := 2, ground := Ground.phase }, { on := 3, ground := Ground.phase }, { on := 4, ground := Ground.phase }, { on := 5, ground := Ground.phase }, { on := 6, ground := Ground.phase }, { on := 7, ground := Ground.phase }, { on := 8, ground := Ground.phase }], guard := none }) (v := .pointer (some ⟨B, 0, none⟩)) rfl (by kernel_rfl) (by kernel_rfl) (by kernel_rfl) (by kernel_rfl) (fun _ _ _ h => h) (Or.inl ⟨by rfl, ?_⟩) HT6.out ?_
        · (intro w' hSw; obtain ⟨m0, m1, m2⟩ := hSw; go_simp; try with_reducible rfl)
        try simp only [Act.put, List.setIfInBounds_toArray, List.set_cons_zero, List.set_cons_succ]
        refine wpAnyM_take (i := 10) [] (oi := { dst := some 63, op := Op.fieldAddr 118 (Operand.tmp 62) 0, type := 0, pos := _, after := #[{ on := 9, ground := Ground.data }, { on := 0, ground := Ground.phase }, { on := 1, ground := Ground.phase }, { on := 2, ground := Ground.phase }, { on := 3, ground := Ground.phase }, { on := 4, ground := Ground.phase }, { on := 5, ground := Ground.phase }, { on := 6, ground := Ground.phase }, { on := 7, ground := Ground.phase }, { on := 8, ground := Ground.phase }], guard := none }) (v := .pointer (some ⟨B, 0, none⟩)) rfl (by kernel_rfl) (by kernel_rfl) (by kernel_rfl) (by kernel_rfl) (fun _ _ _ h => h) (Or.inl ⟨by rfl, ?_⟩) HT6.out ?_
        · (intro w' hSw; obtain ⟨m0, m1, m2⟩ := hSw; go_simp; try with_reducible rfl)
        try simp only [Act.put, List.setIfInBounds_toArray, List.set_cons_zero, List.set_cons_succ]
        refine wpAnyM_ready (rs := [11]) (by kernel_rfl) (by simp) ?_
        refine AllReadyM.cons (o := { dst := none, op := Op.store 114 (Operand.tmp 63) (Operand.tmp 61), type := 0, pos := _, after := #[{ on := 10, ground := Ground.data }, { on := 8, ground := Ground.data }, { on := 8, ground := Ground.chain }, { on := 0, ground := Ground.phase }, { on := 1, ground := Ground.phase }, { on := 2, ground := Ground.phase }, { on := 3, ground := Ground.phase }, { on := 4, ground := Ground.phase }, { on := 5, ground := Ground.phase }, { on := 6, ground := Ground.phase }, { on := 7, ground := Ground.phase }, { on := 8, ground := Ground.phase }], guard := none }) rfl (fun K hK => ?_) AllReadyM.nil
        have HK9 : Hid (∀ a w, _ → K a w) := hK
        clear hK
        go_simp
        refine HK9.out _ _ ⟨fun h => absurd h (by decide), ?_⟩
        clear HK9 K
        try simp only [Act.put, List.setIfInBounds_toArray, List.set_cons_zero, List.set_cons_succ]
        refine wpAnyM_done (by kernel_rfl) ?_ _
        refine NoPanic.normal ?_
        go_wp2
        exact ⟨⟨j + 1, by omega, by go_num, HE.out.1, HE.out.2⟩, by simp [intOf]; omega⟩
      · have hli : ¬ (j : Int) < (nR : Int) := by omega
        obtain ⟨vK, hN⟩ := HW.out
        have hjE : j = nR := by omega
        rw [hjE, List.take_of_length_le (by omega)] at hN
        have hss : textsOf ds ++ row.map (fun e => e.key.toList) = allTexts pl ds := by unfold allTexts; rw [HROW.out]
        rw [hss] at hN
        have hb2 : (allTexts pl ds).length ≤ 8796093022207 := by have := HR0.out.2; omega
        have hb3 := HR0.out.2
        obtain ⟨pK, nK, cK, hvK⟩ : ∃ p n c, vK = .slice p n c := by
          rcases (hN.cl.row 0 _ rfl).2 with ⟨h1, h2⟩ | ⟨g, c, cur, h1, _⟩
          · exact ⟨none, 0, 0, h1⟩
          · exact ⟨_, _, c, h1⟩
        subst hvK
        have p0 : wr.cell? ⟨PP, 0, none⟩ = some (.pointer (some ⟨B, 0, none⟩)) := hN.bx.cell 0
        have x0 : wr.cell? ⟨B, 0, none⟩ = some (.slice pK nK cK) := hN.cl.blk.cell 0
        have HN : Hid (Nd w wr B PP 0 (allTexts pl ds) row (.slice pK nK cK) (.slice pR nR cR)) := hN
        clear hN HW hlt hj hjE hss
        go_wp2_with fail
        refine (dsort_any (HN.out.cl.row 0 _ rfl) hb2).mono ?_
        rintro e w4 ⟨rfl, ho4, hg4⟩
        have hNw0 : Nwd w wr B PP D (ndVals (.slice pK nK cK) (.slice pR nR cR)) (ndRows (allTexts pl ds) row (.slice pK nK cK) (.slice pR nR cR)) := ⟨HN.out.cl, HN.out.bx, ⟨HN.out.np.1, fun i r hi => by
          match i, hi with
          | 0, hi => cases hi; exact fun e => HN.out.np.2 PP (.inl e) rfl
          | 1, hi => cases hi; exact fun e => HN.out.np.2 PP (.inr e) rfl
          | n + 2, hi => simp [ndRows] at hi⟩, HDr.out, HN.out.below⟩
        have hNw4 := hNw0.app (i := 0) rfl hg4 ho4 (.inl rfl)
        obtain ⟨ts, hts⟩ : ∃ ts, (allTexts pl ds).mergeSort (fun x y => decide (x ≤ y)) = ts := ⟨_, rfl⟩
        have htl : ts.length = (allTexts pl ds).length := by rw [← hts]; simp
        have hks : compact ts = keysOf (allTexts pl ds) := by rw [← hts]; rfl
        rw [hts] at hNw4
        have HN4 : Hid (Nwd w w4 B PP D (ndVals (.slice pK nK cK) (.slice pR nR cR)) [⟨9, 1, .slice pK nK cK, ts.length, ts.map encStr⟩, ⟨30, 4, .slice pR nR cR, row.length, flatE row⟩]) := by rw [htl]; exact hNw4
        have hN4d := HN4.out.still (Tn.drew (Tn.refl [] w4))
        have HC4 : Hid (w4.drew.cell? ⟨PP, 0, none⟩ = some (.pointer (some ⟨B, 0, none⟩)) ∧ w4.drew.cell? ⟨B, 0, none⟩ = some (.slice pK nK cK)) := ⟨hN4d.bx.cell 0, hN4d.cl.blk.cell 0⟩
        have HD4 : Hid (Nwd w w4.drew B PP D (ndVals (.slice pK nK cK) (.slice pR nR cR)) [⟨9, 1, .slice pK nK cK, ts.length, ts.map encStr⟩, ⟨30, 4, .slice pR nR cR, row.length, flatE row⟩]) := hN4d
        clear hNw0 hNw4 ho4 hg4 p0 x0 hN4d hts
        go_wp2_with fail
        refine wp_mono (Q := NoPanic _) ?_ NoPanic.imp
        refine wp_region_mid (S := (fun w' => w'.cell? ⟨PP, 0, none⟩ = some (.pointer (some ⟨B, 0, none⟩)) ∧ w'.cell? ⟨B, 0, none⟩ = some (.slice pK nK cK))) 8 (by kernel_rfl) ?_
        refine wpAnyM_take (i := 0) [] (oi := { dst := some 70, op := Op.load 99 (Operand.tmp 5), type := 99, pos := _, after := #[], guard := none }) (v := .pointer (some ⟨B, 0, none⟩)) rfl (by kernel_rfl) (by kernel_rfl) (by kernel_rfl) (by kernel_rfl) (fun _ _ _ h => h) (Or.inl ⟨by rfl, ?_⟩) HC4.out ?_
        · (intro w' hSw; obtain ⟨m0, m1⟩ := hSw; go_simp; try with_reducible rfl)
        try simp only [Act.put, List.setIfInBounds_toArray, List.set_cons_zero, List.set_cons_succ]
        refine wpAnyM_take (i := 1) [] (oi := { dst := some 71, op := Op.load 99 (Operand.tmp 5), type := 99, pos := _, after := #[], guard := none }) (v := .pointer (some ⟨B, 0, none⟩)) rfl (by kernel_rfl) (by kernel_rfl) (by kernel_rfl) (by kernel_rfl) (fun _ _ _ h => h) (Or.inl ⟨by rfl, ?_⟩) HC4.out ?_
        · (intro w' hSw; obtain ⟨m0, m1⟩ := hSw; go_simp; try with_reducible rfl)
        try simp only [Act.put, List.setIfInBounds_toArray, List.set_cons_zero, List.set_cons_succ]
        refine wpAnyM_take (i := 2) [] (oi := { dst := some 72, op := Op.nilCheck (Operand.tmp 71), type := 0, pos := _, after := #[{ on := 1, ground := Ground.data }], guard := none }) (v := .pointer (some ⟨B, 0, none⟩)) rfl (by kernel_rfl) (by kernel_rfl) (by kernel_rfl) (by kernel_rfl) (fun _ _ _ h => h) (Or.inl ⟨by rfl, ?_⟩) HC4.out ?_
        · (intro w' hSw; obtain ⟨m0, m1⟩ := hSw; go_simp; try with_reducible rfl)
        try simp only [Act.put, List.setIfInBounds_toArray, List.set_cons_zero, List.set_cons_succ]
        refine wpAnyM_take (i := 3) [] (oi := { dst := some 73, op := Op.fieldAddr 118 (Operand.tmp 72) 0, type := 0, pos := _, after := #[{ on := 2, ground := Ground.data }], guard := none }) (v := .pointer (some ⟨B, 0, none⟩)) rfl (by kernel_rfl) (by kernel_rfl) (by kernel_rfl) (by kernel_rfl) (fun _ _ _ h => h) (Or.inl ⟨by rfl, ?_⟩) HC4.out ?_
        · (intro w' hSw; obtain ⟨m0, m1⟩ := hSw; go_simp; try with_reducible rfl)
        try simp only [Act.put, List.setIfInBounds_toArray, List.set_cons_zero, List.set_cons_succ]
        refine wpAnyM_take (i := 4) [] (oi := { dst := some 74, op := Op.load 114 (Operand.tmp 73), type := 114, pos := _, after := #[{ on := 3, ground := Ground.data }], guard := none }) (v := .slice pK nK cK) rfl (by kernel_rfl) (by kernel_rfl) (by kernel_rfl) (by kernel_rfl) (fun _ _ _ h => h) (Or.inl ⟨by rfl, ?_⟩) HC4.out ?_
        · (intro w' hSw; obtain ⟨m0, m1⟩ := hSw; go_simp; try with_reducible rfl)
        try simp only [Act.put, List.setIfInBounds_toArray, List.set_cons_zero, List.set_cons_succ]
        refine wpAnyM_ready (rs := [5]) (by kernel_rfl) (by simp) ?_
        refine AllReadyM.cons (o := { dst := some 75, op := Op.call { callee := Callee.value (Operand.func 95), args := #[Operand.tmp 74], argTypes := #[114] }, type := 114, pos := _, after := #[{ on := 4, ground := Ground.data }], guard := none }) rfl (fun K hK => ?_) AllReadyM.nil
        have HK9 : Hid (∀ a w, _ → K a w) := hK
        clear hK
        go_simp
        refine (dcompact_any (HD4.out.cl.row 0 _ rfl) (by rw [htl]; exact hb2)).mono ?_
        rintro e w5 ⟨v5, rfl, ho5, hg5, hv5⟩
        obtain ⟨p5, n5, c5, hv5e⟩ : ∃ p n c, v5 = .slice p n c := by
          rcases ho5.2 with ⟨h1, h2⟩ | ⟨g, c, cur, h1, _⟩
          · exact ⟨none, 0, 0, h1⟩
          · exact ⟨_, _, c, h1⟩
        subst hv5e
        have hN5 := HD4.out.app (i := 0) rfl hg5 ho5 (.inl hv5)
        rw [hks] at hN5
        have HC5 : Hid (w5.cell? ⟨PP, 0, none⟩ = some (.pointer (some ⟨B, 0, none⟩)) ∧ w5.cell? ⟨B, 0, none⟩ = some (.slice pK nK cK)) := ⟨hN5.bx.cell 0, hN5.cl.blk.cell 0⟩
        have y0 : w5.cell? ⟨B, 0, none⟩ = some (.slice pK nK cK) := HC5.out.2
        have f0 : w5.frozen? ⟨B, 0, none⟩ = false := hN5.cl.blk.frozen 0
        have HN6 : Hid (Nwd w (w5.setCell ⟨B, 0, none⟩ (.slice p5 n5 c5)) B PP D #[.slice p5 n5 c5, .slice pR nR cR, .int .i64 0, nilS, nilS, nilS, nilS, nilS, nilS, nilS] [⟨9, 1, .slice p5 n5 c5, (keysOf (allTexts pl ds)).length, (keysOf (allTexts pl ds)).map encStr⟩, ⟨30, 4, .slice pR nR cR, row.length, flatE row⟩]) := hN5.put 0 (.slice p5 n5 c5)
        clear hN5 ho5 hg5 hv5
        refine HK9.out _ _ ⟨fun _ => HC5.out, ?_⟩
        clear HK9 K
        try simp only [Act.put, List.setIfInBounds_toArray, List.set_cons_zero, List.set_cons_succ]
        refine wpAnyM_take (i := 6) [7] (oi := { dst := some 76, op := Op.nilCheck (Operand.tmp 70), type := 0, pos := _, after := #[{ on := 0, ground := Ground.data }, { on := 0, ground := Ground.phase }, { on := 1, ground := Ground.phase }, { on := 2, ground := Ground.phase }, { on := 3, ground := Ground.phase }, { on := 4, ground := Ground.phase }, { on := 5, ground := Ground.phase }], guard := none }) (v := .pointer (some ⟨B, 0, none⟩)) rfl (by kernel_rfl) (by kernel_rfl) (by kernel_rfl) (by kernel_rfl) (fun _ _ _ h => h) (Or.inl ⟨by rfl, ?_⟩) HC5.out ?_
        · (intro w' hSw; obtain ⟨m0, m1⟩ := hSw; go_simp; try with_reducible rfl)
        try simp only [Act.put, List.setIfInBounds_toArray, List.set_cons_zero, List.set_cons_succ]
        refine wpAnyM_take (i := 7) [] (oi := { dst := some 77, op := Op.fieldAddr 118 (Operand.tmp 76) 0, type := 0, pos := _, after := #[{ on := 6, ground := Ground.data }, { on := 0, ground := Ground.phase }, { on := 1, ground := Ground.phase }, { on := 2, ground := Ground.phase }, { on := 3, ground := Ground.phase }, { on := 4, ground := Ground.phase }, { on := 5, ground := Ground.phase }], guard := none }) (v := .pointer (some ⟨B, 0, none⟩)) rfl (by kernel_rfl) (by kernel_rfl) (by kernel_rfl) (by kernel_rfl) (fun _ _ _ h => h) (Or.inl ⟨by rfl, ?_⟩) HC5.out ?_
        · (intro w' hSw; obtain ⟨m0, m1⟩ := hSw; go_simp; try with_reducible rfl)
        try simp only [Act.put, List.setIfInBounds_toArray, List.set_cons_zero, List.set_cons_succ]
        refine wpAnyM_ready (rs := [8]) (by kernel_rfl) (by simp) ?_
        refine AllReadyM.cons (o := { dst := none, op := Op.store 114 (Operand.tmp 77) (Operand.tmp 75), type := 0, pos := _, after := #[{ on := 7, ground := Ground.data }, { on := 5, ground := Ground.data }, { on := 5, ground := Ground.chain }, { on := 0, ground := Ground.phase }, { on := 1, ground := Ground.phase }, { on := 2, ground := Ground.phase }, { on := 3, ground := Ground.phase }, { on := 4, ground := Ground.phase }, { on := 5, ground := Ground.phase }], guard := none }) rfl (fun K hK => ?_) AllReadyM.nil
        have HK9 : Hid (∀ a w, _ → K a w) := hK
        clear hK
        go_simp
        refine HK9.out _ _ ⟨fun h => absurd h (by decide), ?_⟩
        clear HK9 K
        try simp only [Act.put, List.setIfInBounds_toArray, List.set_cons_zero, List.set_cons_succ]
        refine wpAnyM_done (by kernel_rfl) ?_ _
        refine NoPanic.normal ?_
        obtain ⟨ks, hksE⟩ : ∃ ks, keysOf (allTexts pl ds) = ks := ⟨_, rfl⟩
        have hrise : Rise ks := by rw [← hksE]; exact (keysOf_facts _).1
        have hkmem : ∀ e ∈ row, kw ks e.key := fun e he => by
          rw [← hksE]
          refine (keysOf_facts _).2 _ ?_
          unfold allTexts
          rw [HROW.out]
          exact List.mem_append_right _ (List.mem_map.2 ⟨e, he, rfl⟩)
        have hklen : ks.length ≤ 7036874417766 := by
          have := keysOf_len (allTexts pl ds)
          rw [hksE] at this
          omega
        rw [hksE] at HN6
        have HKS : Hid (keysOf (allTexts pl ds) = ks) := hksE
        clear hksE hks htl HD4 HN4 HC4 HC5 y0 f0
        obtain ⟨K, hK⟩ : ∃ K, ks.length = K := ⟨_, rfl⟩
        rw [hK] at HN6 hklen
        rw [hnRl] at HN6
        obtain ⟨w6, hw6⟩ : ∃ w6, w5.setCell ⟨B, 0, none⟩ (.slice p5 n5 c5) = w6 := ⟨_, rfl⟩
        rw [hw6] at HN6
        obtain ⟨pR5, hn5⟩ : ∃ p, Value.slice p5 n5 c5 = .slice p K c5 := by
          rcases (HN6.out.cl.row 0 _ rfl).2 with ⟨h1, h2⟩ | ⟨g, c, cur, h1, _⟩
          · simp only at h1 h2; cases h1; exact ⟨none, by rw [h2]⟩
          · simp only at h1; cases h1; exact ⟨_, rfl⟩
        simp only [Value.slice.injEq] at hn5
        obtain ⟨hp5, hn5, -⟩ := hn5
        subst hp5
        subst hn5
        have q0 : w6.cell? ⟨PP, 0, none⟩ = some (.pointer (some ⟨B, 0, none⟩)) := HN6.out.bx.cell 0
        go_wp2_with fail
        refine (link_any HN6.out.cl hK hnRl hrise hkmem (by omega) (by omega)).mono ?_
        rintro e w7 ⟨rfl, ⟨gk, gn, gf, hc7⟩, ht7⟩
        have HN7 : Hid (Nwd w w7 B PP D #[.slice p5 n5 c5, .slice pR nR cR, .int .i64 0, sl gk nR nR, sl gn nR nR, sl gf n5 n5, nilS, nilS, nilS, nilS] [⟨9, 1, .slice p5 n5 c5, n5, ks.map encStr⟩, ⟨30, 4, .slice pR nR cR, nR, flatE row⟩, ⟨3, 1, sl gk nR nR, nR, ints (ofs (knOf ks row))⟩, ⟨3, 1, sl gn nR nR, nR, ints (ofs (nxOf (knOf ks row)))⟩, ⟨3, 1, sl gf n5 n5, n5, ints (ofs (fsOf (knOf ks row) n5 0))⟩]) := by
          have hbx7 := HN6.out.bx.tn ht7 (by simp; exact Ne.symm HN6.out.np.1)
          refine ⟨hc7, hbx7, ⟨HN6.out.np.1, fun i r hi => ?_⟩, (ht7.block D (Array.getElem?_eq_some_iff.1 HN6.out.dd).1 (by simp; exact dd_ne HN6.out.dd HN6.out.cl.blk rfl)).trans HN6.out.dd, HN6.out.below.trans (ht7.below HN6.out.below.size (by simp; exact HN6.out.cl.ge))⟩
          have hrow := hc7.row i r hi
          cases hv : r.v.ownBlock with
          | none => simp
          | some k =>
            rw [← hv]
            refine bk_ne_row hbx7 hrow hv ?_
            match i, hi with
            | 0, hi => cases hi; show (99 : Nat) ≠ 9; decide
            | 1, hi => cases hi; show (99 : Nat) ≠ 30; decide
            | 2, hi => cases hi; show (99 : Nat) ≠ 3; decide
            | 3, hi => cases hi; show (99 : Nat) ≠ 3; decide
            | 4, hi => cases hi; show (99 : Nat) ≠ 3; decide
            | n + 5, hi => simp at hi
        clear hc7 ht7 q0 hw6 HN6
        have p0 : w7.cell? ⟨PP, 0, none⟩ = some (.pointer (some ⟨B, 0, none⟩)) := HN7.out.bx.cell 0
        have x1 : w7.cell? ⟨B, 1, none⟩ = some (.slice pR nR cR) := HN7.out.cl.blk.cell 1
        have hN9 := HN7.out.still (Tn.drew (Tn.refl [] w7))
        have HNd : Hid (Nwd w w7.drew B PP D #[.slice p5 n5 c5, .slice pR nR cR, .int .i64 0, sl gk nR nR, sl gn nR nR, sl gf n5 n5, nilS, nilS, nilS, nilS] [⟨9, 1, .slice p5 n5 c5, n5, ks.map encStr⟩, ⟨30, 4, .slice pR nR cR, nR, flatE row⟩, ⟨3, 1, sl gk nR nR, nR, ints (ofs (knOf ks row))⟩, ⟨3, 1, sl gn nR nR, nR, ints (ofs (nxOf (knOf ks row)))⟩, ⟨3, 1, sl gf n5 n5, n5, ints (ofs (fsOf (knOf ks row) n5 0))⟩]) := hN9
        clear hN9
        go_wp2_with fail
        refine wp_mono (Q := NoPanic _) ?_ NoPanic.imp
        go_region_held3 (fun w' => w'.cell? ⟨PP, 0, none⟩ = some (.pointer (some ⟨B, 0, none⟩)) ∧ w'.cell? ⟨B, 1, none⟩ = some (.slice pR nR cR)) (go_keep) (first | (go_at_call 97; refine (newPeaks_any nR (by omega) w7.drew).mono ?_; rintro e w9 ⟨n1, t1, D1, rfl, hI9, hl9, hi9, hr9, hb9, hB9⟩; have hN9 := HNd.out.add (Tn.of_below hB9 []) (r := ⟨3, 1, sl w7.heap.size n1 n1, n1, ints t1⟩) (g := w7.heap.size) (by (have h2 := hI9; unfold Ir at h2; rw [hl9] at h2; exact row_mono h2 HNd.out.below.size)) rfl (Nat.le_refl _); have q0 : w9.cell? ⟨PP, 0, none⟩ = some (.pointer (some ⟨B, 0, none⟩)) := hN9.bx.cell 0; have q1 : w9.cell? ⟨B, 1, none⟩ = some (.slice pR nR cR) := hN9.cl.blk.cell 1; have y6 : w9.cell? ⟨B, 6, none⟩ = some nilS := hN9.cl.blk.cell 6; have f6 : w9.frozen? ⟨B, 6, none⟩ = false := hN9.cl.blk.frozen 6; have r0 : ∀ u, (w9.setCell ⟨B, 6, none⟩ u).cell? ⟨PP, 0, none⟩ = some (.pointer (some ⟨B, 0, none⟩)) := fun u => (hN9.put 6 u).bx.cell 0; have r1 : ∀ u, (w9.setCell ⟨B, 6, none⟩ u).cell? ⟨B, 1, none⟩ = some (.slice pR nR cR) := fun u => (hN9.put 6 u).cl.blk.cell 1))
        refine NoPanic.normal ?_
        have hN10 := hN9.put 6 (sl w7.heap.size n1 n1)
        obtain ⟨gt, hgt⟩ : ∃ g, w7.heap.size = g := ⟨_, rfl⟩
        obtain ⟨w8, hW2⟩ : ∃ W2, w9.setCell ⟨B, 6, none⟩ (sl w7.heap.size n1 n1) = W2 := ⟨_, rfl⟩
        rw [hW2] at hN10 ⊢
        rw [hgt] at hN10 ⊢
        have HN8 : Hid (Nwd w w8 B PP D #[.slice p5 n5 c5, .slice pR nR cR, .int .i64 0, sl gk nR nR, sl gn nR nR, sl gf n5 n5, sl gt n1 n1, nilS, nilS, nilS] [⟨9, 1, .slice p5 n5 c5, n5, ks.map encStr⟩, ⟨30, 4, .slice pR nR cR, nR, flatE row⟩, ⟨3, 1, sl gk nR nR, nR, ints (ofs (knOf ks row))⟩, ⟨3, 1, sl gn nR nR, nR, ints (ofs (nxOf (knOf ks row)))⟩, ⟨3, 1, sl gf n5 n5, n5, ints (ofs (fsOf (knOf ks row) n5 0))⟩, ⟨3, 1, sl gt n1 n1, n1, ints t1⟩]) := hN10
        have HP1 : Hid (t1.length = n1 ∧ Pk.Is t1 D1 (Pk.upd (fun _ => 0) nR 9223372036854775807) ∧ nR < 2 ^ D1 ∧ n1 ≤ 35184372088832) := ⟨hl9, hi9, hr9, hb9⟩
        clear hN9 hN10 hI9 hl9 hi9 hr9 hb9 hB9 q0 q1 y6 f6 r0 r1 p0 x1 hW2 hgt HNd HN7
        have p0 : w8.cell? ⟨PP, 0, none⟩ = some (.pointer (some ⟨B, 0, none⟩)) := HN8.out.bx.cell 0
        have x1 : w8.cell? ⟨B, 0, none⟩ = some (.slice p5 n5 c5) := HN8.out.cl.blk.cell 0
        obtain ⟨w9, hmk, hN9⟩ := HN8.out.makeE n5 (by omega)
        have q0 : w9.cell? ⟨PP, 0, none⟩ = some (.pointer (some ⟨B, 0, none⟩)) := hN9.bx.cell 0
        have q1 : w9.cell? ⟨B, 0, none⟩ = some (.slice p5 n5 c5) := hN9.cl.blk.cell 0
        have y6 : w9.cell? ⟨B, 7, none⟩ = some nilS := hN9.cl.blk.cell 7
        have f6 : w9.frozen? ⟨B, 7, none⟩ = false := hN9.cl.blk.frozen 7
        go_wp2_with fail
        refine wp_mono (Q := NoPanic _) ?_ NoPanic.imp
        go_region
        refine NoPanic.normal ?_
        have hN10 := hN9.put 7 (sl w8.heap.size n5 n5)
        obtain ⟨ga, hga⟩ : ∃ g, w8.heap.size = g := ⟨_, rfl⟩
        obtain ⟨w10, hW2⟩ : ∃ W2, w9.setCell ⟨B, 7, none⟩ (sl w8.heap.size n5 n5) = W2 := ⟨_, rfl⟩
        rw [hW2] at hN10 ⊢
        rw [hga] at hN10 ⊢
        have HN10 : Hid (Nwd w w10 B PP D #[.slice p5 n5 c5, .slice pR nR cR, .int .i64 0, sl gk nR nR, sl gn nR nR, sl gf n5 n5, sl gt n1 n1, sl ga n5 n5, nilS, nilS] [⟨9, 1, .slice p5 n5 c5, n5, ks.map encStr⟩, ⟨30, 4, .slice pR nR cR, nR, flatE row⟩, ⟨3, 1, sl gk nR nR, nR, ints (ofs (knOf ks row))⟩, ⟨3, 1, sl gn nR nR, nR, ints (ofs (nxOf (knOf ks row)))⟩, ⟨3, 1, sl gf n5 n5, n5, ints (ofs (fsOf (knOf ks row) n5 0))⟩, ⟨3, 1, sl gt n1 n1, n1, ints t1⟩, ⟨30, 4, sl ga n5 n5, n5, flatE (List.replicate n5 En.zero)⟩]) := hN10
        clear hN9 hN10 hmk p0 x1 q0 q1 y6 f6 hW2 hga
        have p0 : w10.cell? ⟨PP, 0, none⟩ = some (.pointer (some ⟨B, 0, none⟩)) := HN10.out.bx.cell 0
        have x1 : w10.cell? ⟨B, 0, none⟩ = some (.slice p5 n5 c5) := HN10.out.cl.blk.cell 0
        obtain ⟨w9, hmk, hN9⟩ := HN10.out.makeI n5 (by omega)
        have q0 : w9.cell? ⟨PP, 0, none⟩ = some (.pointer (some ⟨B, 0, none⟩)) := hN9.bx.cell 0
        have q1 : w9.cell? ⟨B, 0, none⟩ = some (.slice p5 n5 c5) := hN9.cl.blk.cell 0
        have y6 : w9.cell? ⟨B, 8, none⟩ = some nilS := hN9.cl.blk.cell 8
        have f6 : w9.frozen? ⟨B, 8, none⟩ = false := hN9.cl.blk.frozen 8
        go_wp2_with fail
        refine wp_mono (Q := NoPanic _) ?_ NoPanic.imp
        go_region
        refine NoPanic.normal ?_
        have hN10 := hN9.put 8 (sl w10.heap.size n5 n5)
        obtain ⟨gg, hgg⟩ : ∃ g, w10.heap.size = g := ⟨_, rfl⟩
        obtain ⟨w11, hW2⟩ : ∃ W2, w9.setCell ⟨B, 8, none⟩ (sl w10.heap.size n5 n5) = W2 := ⟨_, rfl⟩
        rw [hW2] at hN10 ⊢
        rw [hgg] at hN10 ⊢
        have HN11 : Hid (Nwd w w11 B PP D #[.slice p5 n5 c5, .slice pR nR cR, .int .i64 0, sl gk nR nR, sl gn nR nR, sl gf n5 n5, sl gt n1 n1, sl ga n5 n5, sl gg n5 n5, nilS] [⟨9, 1, .slice p5 n5 c5, n5, ks.map encStr⟩, ⟨30, 4, .slice pR nR cR, nR, flatE row⟩, ⟨3, 1, sl gk nR nR, nR, ints (ofs (knOf ks row))⟩, ⟨3, 1, sl gn nR nR, nR, ints (ofs (nxOf (knOf ks row)))⟩, ⟨3, 1, sl gf n5 n5, n5, ints (ofs (fsOf (knOf ks row) n5 0))⟩, ⟨3, 1, sl gt n1 n1, n1, ints t1⟩, ⟨30, 4, sl ga n5 n5, n5, flatE (List.replicate n5 En.zero)⟩, ⟨3, 1, sl gg n5 n5, n5, ints (List.replicate n5 0)⟩]) := hN10
        clear hN9 hN10 hmk p0 x1 q0 q1 y6 f6 hW2 hgg
        have p0 : w11.cell? ⟨PP, 0, none⟩ = some (.pointer (some ⟨B, 0, none⟩)) := HN11.out.bx.cell 0
        have x1 : w11.cell? ⟨B, 0, none⟩ = some (.slice p5 n5 c5) := HN11.out.cl.blk.cell 0
        have hN9 := HN11.out.still (Tn.drew (Tn.refl [] w11))
        have HNd : Hid (Nwd w w11.drew B PP D #[.slice p5 n5 c5, .slice pR nR cR, .int .i64 0, sl gk nR nR, sl gn nR nR, sl gf n5 n5, sl gt n1 n1, sl ga n5 n5, sl gg n5 n5, nilS] [⟨9, 1, .slice p5 n5 c5, n5, ks.map encStr⟩, ⟨30, 4, .slice pR nR cR, nR, flatE row⟩, ⟨3, 1, sl gk nR nR, nR, ints (ofs (knOf ks row))⟩, ⟨3, 1, sl gn nR nR, nR, ints (ofs (nxOf (knOf ks row)))⟩, ⟨3, 1, sl gf n5 n5, n5, ints (ofs (fsOf (knOf ks row) n5 0))⟩, ⟨3, 1, sl gt n1 n1, n1, ints t1⟩, ⟨30, 4, sl ga n5 n5, n5, flatE (List.replicate n5 En.zero)⟩, ⟨3, 1, sl gg n5 n5, n5, ints (List.replicate n5 0)⟩]) := hN9
        clear hN9
        go_wp2_with fail
        refine wp_mono (Q := NoPanic _) ?_ NoPanic.imp
        go_region_held3 (fun w' => w'.cell? ⟨PP, 0, none⟩ = some (.pointer (some ⟨B, 0, none⟩)) ∧ w'.cell? ⟨B, 0, none⟩ = some (.slice p5 n5 c5)) (go_keep) (first | (go_at_call 97; refine (newPeaks_any n5 (by omega) w11.drew).mono ?_; rintro e w9 ⟨n2, t2, D2, rfl, hI9, hl9, hi9, hr9, hb9, hB9⟩; have hN9 := HNd.out.add (Tn.of_below hB9 []) (r := ⟨3, 1, sl w11.heap.size n2 n2, n2, ints t2⟩) (g := w11.heap.size) (by (have h2 := hI9; unfold Ir at h2; rw [hl9] at h2; exact row_mono h2 HNd.out.below.size)) rfl (Nat.le_refl _); have q0 : w9.cell? ⟨PP, 0, none⟩ = some (.pointer (some ⟨B, 0, none⟩)) := hN9.bx.cell 0; have q1 : w9.cell? ⟨B, 0, none⟩ = some (.slice p5 n5 c5) := hN9.cl.blk.cell 0; have y6 : w9.cell? ⟨B, 9, none⟩ = some nilS := hN9.cl.blk.cell 9; have f6 : w9.frozen? ⟨B, 9, none⟩ = false := hN9.cl.blk.frozen 9; have r0 : ∀ u, (w9.setCell ⟨B, 9, none⟩ u).cell? ⟨PP, 0, none⟩ = some (.pointer (some ⟨B, 0, none⟩)) := fun u => (hN9.put 9 u).bx.cell 0; have r1 : ∀ u, (w9.setCell ⟨B, 9, none⟩ u).cell? ⟨B, 0, none⟩ = some (.slice p5 n5 c5) := fun u => (hN9.put 9 u).cl.blk.cell 0))
        refine NoPanic.normal ?_
        have hN10 := hN9.put 9 (sl w11.heap.size n2 n2)
        obtain ⟨gs, hgs⟩ : ∃ g, w11.heap.size = g := ⟨_, rfl⟩
        obtain ⟨w12, hW2⟩ : ∃ W2, w9.setCell ⟨B, 9, none⟩ (sl w11.heap.size n2 n2) = W2 := ⟨_, rfl⟩
        rw [hW2] at hN10 ⊢
        rw [hgs] at hN10 ⊢
        have HN12 : Hid (Nwd w w12 B PP D #[.slice p5 n5 c5, .slice pR nR cR, .int .i64 0, sl gk nR nR, sl gn nR nR, sl gf n5 n5, sl gt n1 n1, sl ga n5 n5, sl gg n5 n5, sl gs n2 n2] [⟨9, 1, .slice p5 n5 c5, n5, ks.map encStr⟩, ⟨30, 4, .slice pR nR cR, nR, flatE row⟩, ⟨3, 1, sl gk nR nR, nR, ints (ofs (knOf ks row))⟩, ⟨3, 1, sl gn nR nR, nR, ints (ofs (nxOf (knOf ks row)))⟩, ⟨3, 1, sl gf n5 n5, n5, ints (ofs (fsOf (knOf ks row) n5 0))⟩, ⟨3, 1, sl gt n1 n1, n1, ints t1⟩, ⟨30, 4, sl ga n5 n5, n5, flatE (List.replicate n5 En.zero)⟩, ⟨3, 1, sl gg n5 n5, n5, ints (List.replicate n5 0)⟩, ⟨3, 1, sl gs n2 n2, n2, ints t2⟩]) := hN10
        have HP2 : Hid (t2.length = n2 ∧ Pk.Is t2 D2 (Pk.upd (fun _ => 0) n5 9223372036854775807) ∧ n5 < 2 ^ D2 ∧ n2 ≤ 35184372088832) := ⟨hl9, hi9, hr9, hb9⟩
        clear hN9 hN10 hI9 hl9 hi9 hr9 hb9 hB9 q0 q1 y6 f6 r0 r1 p0 x1 hW2 hgs HNd HN11
        have p0 : w12.cell? ⟨PP, 0, none⟩ = some (.pointer (some ⟨B, 0, none⟩)) := HN12.out.bx.cell 0
        go_wp2
        have hD12 := HN12.out.dd
        refine ⟨by simp, .inl ⟨_, _, rfl, run_takeDeferred hD12, ?_⟩⟩
        have hg : w12.grownBy (w12.putObj D (.deferred none)) (some D) := ⟨rfl, rfl, rfl, by simp, fun k _ hk => World.putObj_heap_other (fun e => hk (by rw [e]))⟩
        have hcl := HN12.out.cl.abides (m := 0) hg (fun r hr => by cases hr; exact ⟨Nat.zero_le _, _, hD12, rfl⟩)
        refine ⟨.pointer (some ⟨B, 0, none⟩), ?_, B, ⟨.slice p5 n5 c5, .slice pR nR cR, gk, nR, gn, nR, gf, n5, gt, n1, ga, n5, gg, n5, gs, n2⟩, rfl, ⟨t1, t2, n1, n2, D1, D2, ?_⟩, ?_⟩
        · exact results_tmp (fn := Tryz.f72) (t := 4) rfl _ _ _
        · rw [HDSE.out, HKS.out, HROW.out]
          have hF : fx0 ks row = ⟨n5, nR, knOf ks row, nxOf (knOf ks row)⟩ := by unfold fx0; rw [hK, hnRl]
          have e0 : ints (List.replicate n5 0) = ints (ofs (List.replicate n5 0)) := by simp [ofs]
          refine { cl := ?_, inv := inv0 hrise hkmem, rise := hrise, kl := rfl, l1 := HP1.out.1, l2 := HP2.out.1, i1 := ?_, i2 := ?_, r1 := ?_, r2 := ?_, b1 := HP1.out.2.2.2, b2 := HP2.out.2.2.2, bR := ?_, bK := ?_ }
          · unfold drVals drRows df0
            rw [hF, hK]
            simp only [← e0]
            exact hcl
          · have : xT (fx0 ks row) (df0 ks row) = Pk.upd (fun _ => 0) nR 9223372036854775807 := by
              funext a
              unfold xT Pk.upd th
              rw [hF]
              simp [df0]
            rw [this]
            exact HP1.out.2.1
          · have : xS (fx0 ks row) (df0 ks row) = Pk.upd (fun _ => 0) n5 9223372036854775807 := by
              funext a
              unfold xS Pk.upd
              rw [hF]
              simp [df0]
            rw [this]
            exact HP2.out.2.1
          · rw [hF]; exact HP1.out.2.2.1
          · rw [hF]; exact HP2.out.2.2.1
          · rw [hF]; show nR ≤ _; omega
          · rw [hF]; show n5 ≤ _; omega
        · refine HN12.out.below.trans ⟨rfl, rfl, rfl, by simp, fun k hk => World.putObj_heap_other (by have := HDD.out.2; omega)⟩
  case body =>
    rintro l pre x bx W hl2 hT ⟨hbx, kx⟩ hpre
    obtain ⟨vK, vR, hN, hnb⟩ := hT
    have hOk : x.2.Ok W := by
      have hx := Dl.bw_mem hpre
      obtain ⟨b, o, -, hc⟩ := HDS.out W hN.below (by have := (List.getElem?_eq_some_iff.1 hx).1; omega)
      exact (hc _ _ hx).2
    obtain ⟨xi, ⟨⟨dk, ⟨dek, des, deg, dec⟩, dkey, dpg, ⟨dleaf, dlo, dhi, dr, dl⟩⟩, dp, dn, dc⟩⟩ := x
    obtain ⟨ds, hds⟩ : ∃ ds : List De, pre.map (·.2.d) = ds := ⟨_, rfl⟩
    have hds2 : (pre ++ [(xi, (⟨⟨dk, ⟨dek, des, deg, dec⟩, dkey, dpg, ⟨dleaf, dlo, dhi, dr, dl⟩⟩, dp, dn, dc⟩ : Dm))]).map (·.2.d) = ds ++ [⟨dk, ⟨dek, des, deg, dec⟩, dkey, dpg, ⟨dleaf, dlo, dhi, dr, dl⟩⟩] := by rw [List.map_append, hds]; rfl
    have hlens : (pl ++ rowsOf ds ++ dl).length ≤ 3518437208782 ∧ (textsOf ds).length + 2 ≤ 8796093022207 := by
      obtain ⟨tl, htl⟩ := hpre
      have h1 : (L.map (·.d)).reverse = ds ++ [⟨dk, ⟨dek, des, deg, dec⟩, dkey, dpg, ⟨dleaf, dlo, dhi, dr, dl⟩⟩] ++ tl.map (·.2.d) := by
        rw [← Dl.bw_map, ← htl, List.map_append, hds2]
      have h2 := HRT.out
      have h3 := HKT.out
      unfold allTexts at h3
      rw [h1] at h2 h3
      simp only [rowsOf, textsOf, List.map_append, List.flatten_append, List.length_append, List.map_cons, List.map_nil, List.flatten_cons, List.flatten_nil, List.length_cons, List.length_nil] at h2 h3 ⊢
      omega
    rw [hds] at hN
    have hnR : ∀ k, vR.ownBlock = some k → k ≠ bx := fun k hk e => by
      rw [e] at hk
      rcases (hN.cl.row 1 _ rfl).2 with ⟨h1, _⟩ | ⟨g, c, cur, h1, _, h2, _⟩
      · have : vR = nilS := h1
        rw [this] at hk; cases hk
      · have : vR = _ := h1
        rw [this] at hk
        have hgx : g = bx := Option.some.inj hk
        rw [hgx, show W.heap[bx]? = _ from kx] at h2
        cases h2
    have hnK : ∀ k, vK.ownBlock = some k → k ≠ bx := fun k hk e => by
      rw [e] at hk
      rcases (hN.cl.row 0 _ rfl).2 with ⟨h1, _⟩ | ⟨g, c, cur, h1, _, h2, _⟩
      · have : vK = nilS := h1
        rw [this] at hk; cases hk
      · have : vK = _ := h1
        rw [this] at hk
        have hgx : g = bx := Option.some.inj hk
        rw [hgx, show W.heap[bx]? = _ from kx] at h2
        cases h2
    have hBx : B ≠ bx := by omega
    have hPx : PP ≠ bx := by omega
    obtain ⟨pR, nR, cR, hvR, hnRl⟩ : ∃ p n c, vR = .slice p n c ∧ n = (pl ++ rowsOf ds).length := by
      have h1 : OwnE W w.heap.size vR (pl ++ rowsOf ds) := hN.cl.row 1 _ rfl
      obtain ⟨q, c, hv, _, _⟩ := h1.ens
      exact ⟨q, _, c, hv, rfl⟩
    obtain ⟨pK, nK, cK, hvK, hnKl⟩ : ∃ p n c, vK = .slice p n c ∧ n = (textsOf ds).length := by
      rcases (hN.cl.row 0 _ rfl).2 with ⟨h1, h2⟩ | ⟨g, c, cur, h1, _⟩
      · exact ⟨none, 0, 0, h1, h2.symm⟩
      · exact ⟨_, _, c, h1, rfl⟩
    -- the row
    have hNd := hN.still (Tn.drew (Tn.refl [] W))
    have hkxd : Bk W.drew bx 32 #[.int .i64 dk, .string dek, .int .i64 des, .int .i64 deg, .int .i64 dec, .string dkey, .int .i64 dpg, .bool dleaf, .string dlo, .string dhi, .int .i64 dr, .slice dp dn dc] := kx
    have hensd : Ens W.drew dp dl := hOk.ens.alike (fun k hk => rfl)
    obtain ⟨v4, W1, hr4, ho4, hg4, hb4⟩ := run_appE W.drew w.heap.size 22 vR (pl ++ rowsOf ds) dl dp dn dc hOk.len hensd hOk.nil (hNd.cl.row 1 _ rfl) (by
      have h1 := hlens.1
      have h2 := hOk.len
      simp only at h2
      rw [List.length_append] at h1
      omega) hNd.below.size
    obtain ⟨p4, n4, c4, hv4⟩ : ∃ p n c, v4 = .slice p n c := by
      obtain ⟨q, c, hv, _, _⟩ := ho4.ens
      exact ⟨q, _, c, hv⟩
    subst hv4
    obtain ⟨hN2, ht2, hblk1⟩ := hNd.appR hg4 ho4 hb4
    have hkx1 : Bk W1 bx 32 #[.int .i64 dk, .string dek, .int .i64 des, .int .i64 deg, .int .i64 dec, .string dkey, .int .i64 dpg, .bool dleaf, .string dlo, .string dhi, .int .i64 dr, .slice dp dn dc] := hkxd.tn (tn_grown hg4) (fun hm => by
      cases hb : vR.ownBlock with
      | none => rw [hb] at hm; simp at hm
      | some y => rw [hb] at hm; simp at hm; exact hnR y hb hm.symm)
    have hbx1 : Bk W1 PP 99 #[.pointer (some ⟨B, 0, none⟩)] := hNd.bx.tn (tn_grown hg4) (fun hm => by
      cases hb : vR.ownBlock with
      | none => rw [hb] at hm; simp at hm
      | some y => rw [hb] at hm; simp at hm; exact hN.np.2 y (.inr hb) hm.symm)
    have hnb2 : ∀ k, vK.ownBlock = some k ∨ (Value.slice p4 n4 c4).ownBlock = some k → k ≠ w2.heap.size := fun k hk => by
      rcases hk with h | h
      · exact hnb k (.inl h)
      · rcases hb4 with h5 | h5
        · rw [h5] at h; exact hnb k (.inr h)
        · rw [h5] at h
          cases h
          have := hN.sz
          show W.drew.heap.size ≠ _
          show W.heap.size ≠ _
          omega
    have HS4 : Hid (W.drew.cell? ⟨PP, 0, none⟩ = some (.pointer (some ⟨B, 0, none⟩)) ∧ W.drew.cell? ⟨B, 1, none⟩ = some (.slice pR nR cR) ∧ W.drew.cell? ⟨bx, 11, none⟩ = some (.slice dp dn dc)) := ⟨hNd.bx.cell 0, by rw [← hvR]; exact hNd.cl.blk.cell 1, hkxd.cell 11⟩
    have HS5 : Hid (W1.cell? ⟨PP, 0, none⟩ = some (.pointer (some ⟨B, 0, none⟩)) ∧ W1.cell? ⟨B, 1, none⟩ = some (.slice pR nR cR) ∧ W1.cell? ⟨bx, 11, none⟩ = some (.slice dp dn dc)) := ⟨hbx1.cell 0, by rw [← hvR]; exact hblk1.cell 1, hkx1.cell 11⟩
    have y1 : W1.cell? ⟨B, 1, none⟩ = some (.slice pR nR cR) := HS5.out.2.1
    have f1 : W1.frozen? ⟨B, 1, none⟩ = false := hblk1.frozen 1
    rw [hvR] at hr4
    have HR4 : Hid _ := hr4
    -- the keys
    obtain ⟨W2, hW2⟩ : ∃ W2, W1.setCell ⟨B, 1, none⟩ (.slice p4 n4 c4) = W2 := ⟨_, rfl⟩
    rw [hW2] at hN2 ht2
    have ht2' : Tn (B :: vR.ownBlock.toList) W W2 := ⟨ht2.os, ht2.tape, ht2.output, ht2.size, ht2.block⟩
    have hkx2 : Bk W2 bx 32 #[.int .i64 dk, .string dek, .int .i64 des, .int .i64 deg, .int .i64 dec, .string dkey, .int .i64 dpg, .bool dleaf, .string dlo, .string dhi, .int .i64 dr, .slice dp dn dc] := by rw [← hW2]; exact hkx1.other (p := ⟨B, 1, none⟩) (Ne.symm hBx) _
    have hN2d := hN2.still (Tn.drew (Tn.refl [] W2))
    obtain ⟨W3, hW3⟩ : ∃ W3, W2.drew.alloc (.cells #[.string dkey, .string dek] 9) = W3 := ⟨_, rfl⟩
    have ht3 : Tn [] W2.drew W3 := by rw [← hW3]; exact (Tn.refl [] _).alloc _
    have hN3 := hN2d.still ht3
    have hE3 : Bk W3 W2.heap.size 9 #[.string dkey, .string dek] := by rw [← hW3]; exact Bk.new W2.drew _ _
    have hkx3 : Bk W3 bx 32 _ := (show Bk W2.drew bx 32 _ from hkx2).tn ht3 (by simp)
    obtain ⟨v5, W4, hr5, ho5, hg5, hb5⟩ := run_appS W3 w.heap.size 114 vK (textsOf ds) [dkey.toList, dek.toList] W2.heap.size 2 rfl (fun j u hu => by
      have hj : j < 2 := by have := (List.getElem?_eq_some_iff.1 hu).1; simpa using this
      rw [show (⟨W2.heap.size, 0, none⟩ : Addr).add j = ⟨W2.heap.size, j, none⟩ by unfold Addr.add; split <;> simp_all]
      rw [hE3.cell j]
      have e1 := enc_key dkey
      have e2 := enc_key dek
      match j, hj, hu with
      | 0, _, hu => simp only [List.map_cons, List.getElem?_cons_zero, Option.some.injEq] at hu; rw [← hu, e1]; rfl
      | 1, _, hu => simp only [List.map_cons, List.map_nil, List.getElem?_cons_succ, List.getElem?_cons_zero, Option.some.injEq] at hu; rw [← hu, e2]; rfl) (hN3.cl.row 0 _ rfl) (by have := hlens.2; omega) hN3.below.size
    obtain ⟨p5, n5, c5, hv5⟩ : ∃ p n c, v5 = .slice p n c := by
      rcases ho5.2 with ⟨h1, h2⟩ | ⟨g, c, cur, h1, _⟩
      · exact ⟨none, 0, 0, h1⟩
      · exact ⟨_, _, c, h1⟩
    subst hv5
    obtain ⟨hN5, ht5, hblk4⟩ := hN3.appK hg5 ho5 hb5
    have hkx4 : Bk W4 bx 32 _ := hkx3.tn (tn_grown hg5) (fun hm => by
      cases hb : vK.ownBlock with
      | none => rw [hb] at hm; simp at hm
      | some y => rw [hb] at hm; simp at hm; exact hnK y hb hm.symm)
    have hbx4 : Bk W4 PP 99 #[.pointer (some ⟨B, 0, none⟩)] := hN3.bx.tn (tn_grown hg5) (fun hm => by
      cases hb : vK.ownBlock with
      | none => rw [hb] at hm; simp at hm
      | some y => rw [hb] at hm; simp at hm; exact hN.np.2 y (.inl hb) hm.symm)
    have hnb5 : ∀ k, (Value.slice p5 n5 c5).ownBlock = some k ∨ (Value.slice p4 n4 c4).ownBlock = some k → k ≠ w2.heap.size := fun k hk => by
      rcases hk with h | h
      · rcases hb5 with h5 | h5
        · rw [h5] at h; exact hnb k (.inl h)
        · rw [h5] at h
          cases h
          have := hN3.sz
          omega
      · exact hnb2 k (.inr h)
    have HT4 : Hid (W2.drew.cell? ⟨PP, 0, none⟩ = some (.pointer (some ⟨B, 0, none⟩)) ∧ W2.drew.cell? ⟨B, 0, none⟩ = some (.slice pK nK cK) ∧ W2.drew.cell? ⟨bx, 5, none⟩ = some (.string dkey) ∧ W2.drew.cell? ⟨bx, 1, none⟩ = some (.string dek)) := ⟨hN2d.bx.cell 0, by rw [← hvK]; exact hN2d.cl.blk.cell 0, hkx2.cell 5, hkx2.cell 1⟩
    have HT5 : Hid (W3.cell? ⟨PP, 0, none⟩ = some (.pointer (some ⟨B, 0, none⟩)) ∧ W3.cell? ⟨B, 0, none⟩ = some (.slice pK nK cK) ∧ W3.cell? ⟨bx, 5, none⟩ = some (.string dkey) ∧ W3.cell? ⟨bx, 1, none⟩ = some (.string dek)) := ⟨hN3.bx.cell 0, by rw [← hvK]; exact hN3.cl.blk.cell 0, hkx3.cell 5, hkx3.cell 1⟩
    have HT6 : Hid (W4.cell? ⟨PP, 0, none⟩ = some (.pointer (some ⟨B, 0, none⟩)) ∧ W4.cell? ⟨B, 0, none⟩ = some (.slice pK nK cK) ∧ W4.cell? ⟨bx, 5, none⟩ = some (.string dkey) ∧ W4.cell? ⟨bx, 1, none⟩ = some (.string dek)) := ⟨hbx4.cell 0, by rw [← hvK]; exact hblk4.cell 0, hkx4.cell 5, hkx4.cell 1⟩
    have y0 : W4.cell? ⟨B, 0, none⟩ = some (.slice pK nK cK) := HT6.out.2.1
    have f0 : W4.frozen? ⟨B, 0, none⟩ = false := hblk4.frozen 0
    rw [hvK] at hr5
    have HR5 : Hid _ := hr5
    obtain ⟨W5, hW5⟩ : ∃ W5, W4.setCell ⟨B, 0, none⟩ (.slice p5 n5 c5) = W5 := ⟨_, rfl⟩
    rw [hW5] at hN5 ht5
    have HE : Hid ((∃ vK vR, Nd w W5 B PP w3.heap.size (textsOf (ds ++ [⟨dk, ⟨dek, des, deg, dec⟩, dkey, dpg, ⟨dleaf, dlo, dhi, dr, dl⟩⟩])) (pl ++ rowsOf (ds ++ [⟨dk, ⟨dek, des, deg, dec⟩, dkey, dpg, ⟨dleaf, dlo, dhi, dr, dl⟩⟩])) vK vR ∧ ∀ k, vK.ownBlock = some k ∨ vR.ownBlock = some k → k ≠ w2.heap.size) ∧ Tn (B :: (vR.ownBlock.toList ++ vK.ownBlock.toList)) W W5) := by
      refine ⟨⟨.slice p5 n5 c5, .slice p4 n4 c4, ?_, hnb5⟩, ?_⟩
      · rw [textsOf_snoc, rowsOf_snoc, ← List.append_assoc]
        exact hN5
      · refine Tn.trans (ht2'.mono (by intro x hx; simp only [List.mem_cons, List.mem_append] at hx ⊢; rcases hx with h | h; exact .inl h; exact .inr (.inl h))) (T := B :: (vR.ownBlock.toList ++ vK.ownBlock.toList)) ?_ (fun x hx => .inl hx)
        refine Tn.trans ((Tn.drew (Tn.refl [] W2)).mono (by simp)) (T := B :: (vR.ownBlock.toList ++ vK.ownBlock.toList)) ?_ (fun x hx => .inl hx)
        refine Tn.trans (ht3.mono (by simp)) (T := B :: (vR.ownBlock.toList ++ vK.ownBlock.toList)) ?_ (fun x hx => .inl hx)
        exact ht5.mono (by intro x hx; simp only [List.mem_cons, List.mem_append] at hx ⊢; rcases hx with h | h; exact .inl h; exact .inr (.inr h))
    have HCK : Hid (∀ y ∈ B :: (vR.ownBlock.toList ++ vK.ownBlock.toList), (∃ o : Obj, W.heap[y]? = some o ∧ o.isCells = true) ∧ w.heap.size ≤ y ∧ y ≠ w2.heap.size) := by
      intro y hy
      simp only [List.mem_cons, List.mem_append] at hy
      have hmem : ∀ (v : Value), y ∈ v.ownBlock.toList → v.ownBlock = some y := fun v hk => by
        cases hb : v.ownBlock with
        | none => rw [hb] at hk; simp at hk
        | some x => rw [hb] at hk; simp at hk; rw [hk]
      rcases hy with rfl | h | h
      · exact ⟨⟨_, hN.cl.blk, rfl⟩, hN.cl.ge, by omega⟩
      · have h1 := hmem vR h
        exact ⟨row_kind (hN.cl.row 1 _ rfl) h1, ((hN.cl.row 1 _ rfl).lt y h1).1, hnb y (.inr h1)⟩
      · have h1 := hmem vK h
        exact ⟨row_kind (hN.cl.row 0 _ rfl) h1, ((hN.cl.row 0 _ rfl).lt y h1).1, hnb y (.inl h1)⟩
    have HWS : Hid (w3.heap.size ≤ W.heap.size) := hN.sz
    have x11 : W.cell? ⟨bx, 11, none⟩ = some (.slice dp dn dc) := kx.cell 11
    clear hOk hN hNd hkxd hensd hr4 ho4 hg4 hb4 hN2 ht2 hblk1 hkx1 hbx1 ht2' hkx2 hN2d ht3 hN3 hE3 hkx3 hr5 ho5 hg5 hb5 hN5 ht5 hblk4 hkx4 hbx4 hnb2 hnb5 hnb kx hvR hvK hnRl hnKl hnR hnK x11
    gi_wp2_with fail
    refine wpIn_mid (S := (fun w' => w'.cell? ⟨PP, 0, none⟩ = some (.pointer (some ⟨B, 0, none⟩)) ∧ w'.cell? ⟨B, 1, none⟩ = some (.slice pR nR cR) ∧ w'.cell? ⟨bx, 11, none⟩ = some (.slice dp dn dc))) 11 (by kernel_rfl) (by rfl) (by rintro ⟨a, w, h⟩; exact h) ?_
    refine wpAnyM_take (i := 0) [] (oi := { dst := some 19, op := Op.load 99 (Operand.tmp 5), type := 99, pos := _, after := #[], guard := none }) (v := .pointer (some ⟨B, 0, none⟩)) rfl (by kernel_rfl) (by kernel_rfl) (by kernel_rfl) (by kernel_rfl) (fun _ _ _ h => h) (Or.inl ⟨by rfl, ?_⟩) HS4.out ?_
    · (intro w' hSw; obtain ⟨m0, m1, m2⟩ := hSw; go_simp; try with_reducible rfl)
    try simp only [Act.put, List.setIfInBounds_toArray, List.set_cons_zero, List.set_cons_succ]
    refine wpAnyM_take (i := 1) [] (oi := { dst := some 20, op := Op.load 99 (Operand.tmp 5), type := 99, pos := _, after := #[], guard := none }) (v := .pointer (some ⟨B, 0, none⟩)) rfl (by kernel_rfl) (by kernel_rfl) (by kernel_rfl) (by kernel_rfl) (fun _ _ _ h => h) (Or.inl ⟨by rfl, ?_⟩) HS4.out ?_
    · (intro w' hSw; obtain ⟨m0, m1, m2⟩ := hSw; go_simp; try with_reducible rfl)
    try simp only [Act.put, List.setIfInBounds_toArray, List.set_cons_zero, List.set_cons_succ]
    refine wpAnyM_take (i := 2) [] (oi := { dst := some 21, op := Op.nilCheck (Operand.tmp 20), type := 0, pos := _, after := #[{ on := 1, ground := Ground.data }], guard := none }) (v := .pointer (some ⟨B, 0, none⟩)) rfl (by kernel_rfl) (by kernel_rfl) (by kernel_rfl) (by kernel_rfl) (fun _ _ _ h => h) (Or.inl ⟨by rfl, ?_⟩) HS4.out ?_
    · (intro w' hSw; obtain ⟨m0, m1, m2⟩ := hSw; go_simp; try with_reducible rfl)
    try simp only [Act.put, List.setIfInBounds_toArray, List.set_cons_zero, List.set_cons_succ]
    refine wpAnyM_take (i := 3) [] (oi := { dst := some 22, op := Op.fieldAddr 118 (Operand.tmp 21) 1, type := 0, pos := _, after := #[{ on := 2, ground := Ground.data }], guard := none }) (v := .pointer (some ⟨B, 1, none⟩)) rfl (by kernel_rfl) (by kernel_rfl) (by kernel_rfl) (by kernel_rfl) (fun _ _ _ h => h) (Or.inl ⟨by rfl, ?_⟩) HS4.out ?_
    · (intro w' hSw; obtain ⟨m0, m1, m2⟩ := hSw; go_simp; try with_reducible rfl)
    try simp only [Act.put, List.setIfInBounds_toArray, List.set_cons_zero, List.set_cons_succ]
    refine wpAnyM_take (i := 4) [] (oi := { dst := some 23, op := Op.load 22 (Operand.tmp 22), type := 22, pos := _, after := #[{ on := 3, ground := Ground.data }], guard := none }) (v := .slice pR nR cR) rfl (by kernel_rfl) (by kernel_rfl) (by kernel_rfl) (by kernel_rfl) (fun _ _ _ h => h) (Or.inl ⟨by rfl, ?_⟩) HS4.out ?_
    · (intro w' hSw; obtain ⟨m0, m1, m2⟩ := hSw; go_simp; try with_reducible rfl)
    try simp only [Act.put, List.setIfInBounds_toArray, List.set_cons_zero, List.set_cons_succ]
    refine wpAnyM_take (i := 5) [] (oi := { dst := some 24, op := Op.fieldAddr 32 (Operand.tmp 7) 4, type := 0, pos := _, after := #[], guard := none }) (v := .pointer (some ⟨bx, 7, none⟩)) rfl (by kernel_rfl) (by kernel_rfl) (by kernel_rfl) (by kernel_rfl) (fun _ _ _ h => h) (Or.inl ⟨by rfl, ?_⟩) HS4.out ?_
    · (intro w' hSw; obtain ⟨m0, m1, m2⟩ := hSw; go_simp; try with_reducible rfl)
    try simp only [Act.put, List.setIfInBounds_toArray, List.set_cons_zero, List.set_cons_succ]
    refine wpAnyM_take (i := 6) [] (oi := { dst := some 25, op := Op.fieldAddr 24 (Operand.tmp 24) 4, type := 0, pos := _, after := #[{ on := 5, ground := Ground.data }], guard := none }) (v := .pointer (some ⟨bx, 11, none⟩)) rfl (by kernel_rfl) (by kernel_rfl) (by kernel_rfl) (by kernel_rfl) (fun _ _ _ h => h) (Or.inl ⟨by rfl, ?_⟩) HS4.out ?_
    · (intro w' hSw; obtain ⟨m0, m1, m2⟩ := hSw; go_simp; try with_reducible rfl)
    try simp only [Act.put, List.setIfInBounds_toArray, List.set_cons_zero, List.set_cons_succ]
    refine wpAnyM_take (i := 7) [] (oi := { dst := some 26, op := Op.load 22 (Operand.tmp 25), type := 22, pos := _, after := #[{ on := 6, ground := Ground.data }], guard := none }) (v := .slice dp dn dc) rfl (by kernel_rfl) (by kernel_rfl) (by kernel_rfl) (by kernel_rfl) (fun _ _ _ h => h) (Or.inl ⟨by rfl, ?_⟩) HS4.out ?_
    · (intro w' hSw; obtain ⟨m0, m1, m2⟩ := hSw; go_simp; try with_reducible rfl)
    try simp only [Act.put, List.setIfInBounds_toArray, List.set_cons_zero, List.set_cons_succ]
    refine wpAnyM_ready (rs := [8]) (by kernel_rfl) (by simp) ?_
    refine AllReadyM.cons (o := { dst := some 27, op := Op.call { callee := Callee.builtin Builtin.append, args := #[Operand.tmp 23, Operand.tmp 26], argTypes := #[22, 22] }, type := 22, pos := _, after := #[{ on := 4, ground := Ground.data }, { on := 7, ground := Ground.data }], guard := none }) rfl (fun K hK => ?_) AllReadyM.nil
    have HK9 : Hid (∀ a w, _ → K a w) := hK
    clear hK
    refine step_appR rfl _ _ _ rfl _ _ rfl rfl HR4.out ?_
    refine HK9.out _ _ ⟨fun _ => HS5.out, ?_⟩
    clear HK9 K
    try simp only [Act.put, List.setIfInBounds_toArray, List.set_cons_zero, List.set_cons_succ]
    refine wpAnyM_take (i := 9) [10] (oi := { dst := some 28, op := Op.nilCheck (Operand.tmp 19), type := 0, pos := _, after := #[{ on := 0, ground := Ground.data }, { on := 0, ground := Ground.phase }, { on := 1, ground := Ground.phase }, { on := 2, ground := Ground.phase }, { on := 3, ground := Ground.phase }, { on := 4, ground := Ground.phase }, { on := 5, ground := Ground.phase }, { on := 6, ground := Ground.phase }, { on := 7, ground := Ground.phase }, { on := 8, ground := Ground.phase }], guard := none }) (v := .pointer (some ⟨B, 0, none⟩)) rfl (by kernel_rfl) (by kernel_rfl) (by kernel_rfl) (by kernel_rfl) (fun _ _ _ h => h) (Or.inl ⟨by rfl, ?_⟩) HS5.out ?_
    · (intro w' hSw; obtain ⟨m0, m1, m2⟩ := hSw; go_simp; try with_reducible rfl)
    try simp only [Act.put, List.setIfInBounds_toArray, List.set_cons_zero, List.set_cons_succ]
    refine wpAnyM_take (i := 10) [] (oi := { dst := some 29, op := Op.fieldAddr 118 (Operand.tmp 28) 1, type := 0, pos := _, after := #[{ on := 9, ground := Ground.data }, { on := 0, ground := Ground.phase }, { on := 1, ground := Ground.phase }, { on := 2, ground := Ground.phase }, { on := 3, ground := Ground.phase }, { on := 4, ground := Ground.phase }, { on := 5, ground := Ground.phase }, { on := 6, ground := Ground.phase }, { on := 7, ground := Ground.phase }, { on := 8, ground := Ground.phase }], guard := none }) (v := .pointer (some ⟨B, 1, none⟩)) rfl (by kernel_rfl) (by kernel_rfl) (by kernel_rfl) (by kernel_rfl) (fun _ _ _ h => h) (Or.inl ⟨by rfl, ?_⟩) HS5.out ?_
    · (intro w' hSw; obtain ⟨m0, m1, m2⟩ := hSw; go_simp; try with_reducible rfl)
    try simp only [Act.put, List.setIfInBounds_toArray, List.set_cons_zero, List.set_cons_succ]
    refine wpAnyM_ready (rs := [11]) (by kernel_rfl) (by simp) ?_
    refine AllReadyM.cons (o := { dst := none, op := Op.store 22 (Operand.tmp 29) (Operand.tmp 27), type := 0, pos := _, after := #[{ on := 10, ground := Ground.data }, { on := 8, ground := Ground.data }, { on := 8, ground := Ground.chain }, { on := 0, ground := Ground.phase }, { on := 1, ground := Ground.phase }, { on := 2, ground := Ground.phase }, { on := 3, ground := Ground.phase }, { on := 4, ground := Ground.phase }, { on := 5, ground := Ground.phase }, { on := 6, ground := Ground.phase }, { on := 7, ground := Ground.phase }, { on := 8, ground := Ground.phase }], guard := none }) rfl (fun K hK => ?_) AllReadyM.nil
    have HK9 : Hid (∀ a w, _ → K a w) := hK
    clear hK
    go_simp
    refine HK9.out _ _ ⟨fun h => absurd h (by decide), ?_⟩
    clear HK9 K
    try simp only [Act.put, List.setIfInBounds_toArray, List.set_cons_zero, List.set_cons_succ]
    refine wpAnyM_done (by kernel_rfl) ?_ _
    gi_wp2_with fail
    clear HS4 HS5 HR4 hW2 y1 f1
    refine wpIn_mid (S := (fun w' => w'.cell? ⟨PP, 0, none⟩ = some (.pointer (some ⟨B, 0, none⟩)) ∧ w'.cell? ⟨B, 0, none⟩ = some (.slice pK nK cK) ∧ w'.cell? ⟨bx, 5, none⟩ = some (.string dkey) ∧ w'.cell? ⟨bx, 1, none⟩ = some (.string dek))) 14 (by kernel_rfl) (by rfl) (by rintro ⟨a, w, h⟩; exact h) ?_
    refine wpAnyM_take (i := 0) [] (oi := { dst := some 30, op := Op.load 99 (Operand.tmp 5), type := 99, pos := _, after := #[], guard := none }) (v := .pointer (some ⟨B, 0, none⟩)) rfl (by kernel_rfl) (by kernel_rfl) (by kernel_rfl) (by kernel_rfl) (fun _ _ _ h => h) (Or.inl ⟨by rfl, ?_⟩) HT4.out ?_
    · (intro w' hSw; obtain ⟨m0, m1, m2, m3⟩ := hSw; go_simp; try with_reducible rfl)
    try simp only [Act.put, List.setIfInBounds_toArray, List.set_cons_zero, List.set_cons_succ]
    refine wpAnyM_take (i := 1) [] (oi := { dst := some 31, op := Op.load 99 (Operand.tmp 5), type := 99, pos := _, after := #[], guard := none }) (v := .pointer (some ⟨B, 0, none⟩)) rfl (by kernel_rfl) (by kernel_rfl) (by kernel_rfl) (by kernel_rfl) (fun _ _ _ h => h) (Or.inl ⟨by rfl, ?_⟩) HT4.out ?_
    · (intro w' hSw; obtain ⟨m0, m1, m2, m3⟩ := hSw; go_simp; try with_reducible rfl)
    try simp only [Act.put, List.setIfInBounds_toArray, List.set_cons_zero, List.set_cons_succ]
    refine wpAnyM_take (i := 2) [] (oi := { dst := some 32, op := Op.nilCheck (Operand.tmp 31), type := 0, pos := _, after := #[{ on := 1, ground := Ground.data }], guard := none }) (v := .pointer (some ⟨B, 0, none⟩)) rfl (by kernel_rfl) (by kernel_rfl) (by kernel_rfl) (by kernel_rfl) (fun _ _ _ h => h) (Or.inl ⟨by rfl, ?_⟩) HT4.out ?_
    · (intro w' hSw; obtain ⟨m0, m1, m2, m3⟩ := hSw; go_simp; try with_reducible rfl)
    try simp only [Act.put, List.setIfInBounds_toArray, List.set_cons_zero, List.set_cons_succ]
    refine wpAnyM_take (i := 3) [] (oi := { dst := some 33, op := Op.fieldAddr 118 (Operand.tmp 32) 0, type := 0, pos := _, after := #[{ on := 2, ground := Ground.data }], guard := none }) (v := .pointer (some ⟨B, 0, none⟩)) rfl (by kernel_rfl) (by kernel_rfl) (by kernel_rfl) (by kernel_rfl) (fun _ _ _ h => h) (Or.inl ⟨by rfl, ?_⟩) HT4.out ?_
    · (intro w' hSw; obtain ⟨m0, m1, m2, m3⟩ := hSw; go_simp; try with_reducible rfl)
    try simp only [Act.put, List.setIfInBounds_toArray, List.set_cons_zero, List.set_cons_succ]
    refine wpAnyM_take (i := 4) [] (oi := { dst := some 34, op := Op.load 114 (Operand.tmp 33), type := 114, pos := _, after := #[{ on := 3, ground := Ground.data }], guard := none }) (v := .slice pK nK cK) rfl (by kernel_rfl) (by kernel_rfl) (by kernel_rfl) (by kernel_rfl) (fun _ _ _ h => h) (Or.inl ⟨by rfl, ?_⟩) HT4.out ?_
    · (intro w' hSw; obtain ⟨m0, m1, m2, m3⟩ := hSw; go_simp; try with_reducible rfl)
    try simp only [Act.put, List.setIfInBounds_toArray, List.set_cons_zero, List.set_cons_succ]
    refine wpAnyM_take (i := 5) [] (oi := { dst := some 35, op := Op.fieldAddr 32 (Operand.tmp 7) 2, type := 0, pos := _, after := #[], guard := none }) (v := .pointer (some ⟨bx, 5, none⟩)) rfl (by kernel_rfl) (by kernel_rfl) (by kernel_rfl) (by kernel_rfl) (fun _ _ _ h => h) (Or.inl ⟨by rfl, ?_⟩) HT4.out ?_
    · (intro w' hSw; obtain ⟨m0, m1, m2, m3⟩ := hSw; go_simp; try with_reducible rfl)
    try simp only [Act.put, List.setIfInBounds_toArray, List.set_cons_zero, List.set_cons_succ]
    refine wpAnyM_take (i := 6) [] (oi := { dst := some 36, op := Op.load 9 (Operand.tmp 35), type := 9, pos := _, after := #[{ on := 5, ground := Ground.data }], guard := none }) (v := .string dkey) rfl (by kernel_rfl) (by kernel_rfl) (by kernel_rfl) (by kernel_rfl) (fun _ _ _ h => h) (Or.inl ⟨by rfl, ?_⟩) HT4.out ?_
    · (intro w' hSw; obtain ⟨m0, m1, m2, m3⟩ := hSw; go_simp; try with_reducible rfl)
    try simp only [Act.put, List.setIfInBounds_toArray, List.set_cons_zero, List.set_cons_succ]
    refine wpAnyM_take (i := 7) [] (oi := { dst := some 37, op := Op.fieldAddr 32 (Operand.tmp 7) 1, type := 0, pos := _, after := #[], guard := none }) (v := .pointer (some ⟨bx, 1, none⟩)) rfl (by kernel_rfl) (by kernel_rfl) (by kernel_rfl) (by kernel_rfl) (fun _ _ _ h => h) (Or.inl ⟨by rfl, ?_⟩) HT4.out ?_
    · (intro w' hSw; obtain ⟨m0, m1, m2, m3⟩ := hSw; go_simp; try with_reducible rfl)
    try simp only [Act.put, List.setIfInBounds_toArray, List.set_cons_zero, List.set_cons_succ]
    refine wpAnyM_take (i := 8) [] (oi := { dst := some 38, op := Op.fieldAddr 30 (Operand.tmp 37) 0, type := 0, pos := _, after := #[{ on := 7, ground := Ground.data }], guard := none }) (v := .pointer (some ⟨bx, 1, none⟩)) rfl (by kernel_rfl) (by kernel_rfl) (by kernel_rfl) (by kernel_rfl) (fun _ _ _ h => h) (Or.inl ⟨by rfl, ?_⟩) HT4.out ?_
    · (intro w' hSw; obtain ⟨m0, m1, m2, m3⟩ := hSw; go_simp; try with_reducible rfl)
    try simp only [Act.put, List.setIfInBounds_toArray, List.set_cons_zero, List.set_cons_succ]
    refine wpAnyM_take (i := 9) [] (oi := { dst := some 39, op := Op.load 9 (Operand.tmp 38), type := 9, pos := _, after := #[{ on := 8, ground := Ground.data }], guard := none }) (v := .string dek) rfl (by kernel_rfl) (by kernel_rfl) (by kernel_rfl) (by kernel_rfl) (fun _ _ _ h => h) (Or.inl ⟨by rfl, ?_⟩) HT4.out ?_
    · (intro w' hSw; obtain ⟨m0, m1, m2, m3⟩ := hSw; go_simp; try with_reducible rfl)
    try simp only [Act.put, List.setIfInBounds_toArray, List.set_cons_zero, List.set_cons_succ]
    refine wpAnyM_ready (rs := [10]) (by kernel_rfl) (by simp) ?_
    refine AllReadyM.cons (o := { dst := some 40, op := Op.buildSlice 114 2 #[(0, Operand.tmp 36), (1, Operand.tmp 39)], type := 114, pos := _, after := #[{ on := 6, ground := Ground.data }, { on := 9, ground := Ground.data }], guard := none }) rfl (fun K hK => ?_) AllReadyM.nil
    have HK9 : Hid (∀ a w, _ → K a w) := hK
    clear hK
    go_simp
    refine HK9.out _ _ ⟨fun _ => HT5.out, ?_⟩
    clear HK9 K
    try simp only [Act.put, List.setIfInBounds_toArray, List.set_cons_zero, List.set_cons_succ]
    refine wpAnyM_ready (rs := [11]) (by kernel_rfl) (by simp) ?_
    refine AllReadyM.cons (o := { dst := some 41, op := Op.call { callee := Callee.builtin Builtin.append, args := #[Operand.tmp 34, Operand.tmp 40], argTypes := #[114, 114] }, type := 114, pos := _, after := #[{ on := 4, ground := Ground.data }, { on := 10, ground := Ground.data }], guard := none }) rfl (fun K hK => ?_) AllReadyM.nil
    have HK9 : Hid (∀ a w, _ → K a w) := hK
    clear hK
    refine step_appR rfl _ _ _ rfl _ _ rfl rfl HR5.out ?_
    refine HK9.out _ _ ⟨fun _ => HT6.out, ?_⟩
    clear HK9 K
    try simp only [Act.put, List.setIfInBounds_toArray, List.set_cons_zero, List.set_cons_succ]
    refine wpAnyM_take (i := 12) [13] (oi := { dst := some 42, op := Op.nilCheck (Operand.tmp 30), type := 0, pos := _, after := #[{ on := 0, ground := Ground.data }, { on := 0, ground := Ground.phase }, { on := 1, ground := Ground.phase }, { on := 2, ground := Ground.phase }, { on := 3, ground := Ground.phase }, { on := 4, ground := Ground.phase }, { on := 5, ground := Ground.phase }, { on := 6, ground := Ground.phase }, { on := 7, ground := Ground.phase }, { on := 8, ground := Ground.phase }, { on := 9, ground := Ground.phase }, { on := 10, ground := Ground.phase }, { on := 11, ground := Ground.phase }], guard := none }) (v := .pointer (some ⟨B, 0, none⟩)) rfl (by kernel_rfl) (by kernel_rfl) (by kernel_rfl) (by kernel_rfl) (fun _ _ _ h => h) (Or.inl ⟨by rfl, ?_⟩) HT6.out ?_
    · (intro w' hSw; obtain ⟨m0, m1, m2, m3⟩ := hSw; go_simp; try with_reducible rfl)
    try simp only [Act.put, List.setIfInBounds_toArray, List.set_cons_zero, List.set_cons_succ]
    refine wpAnyM_take (i := 13) [] (oi := { dst := some 43, op := Op.fieldAddr 118 (Operand.tmp 42) 0, type := 0, pos := _, after := #[{ on := 12, ground := Ground.data }, { on := 0, ground := Ground.phase }, { on := 1, ground := Ground.phase }, { on := 2, ground := Ground.phase }, { on := 3, ground := Ground.phase }, { on := 4, ground := Ground.phase }, { on := 5, ground := Ground.phase }, { on := 6, ground := Ground.phase }, { on := 7, ground := Ground.phase }, { on := 8, ground := Ground.phase }, { on := 9, ground := Ground.phase }, { on := 10, ground := Ground.phase }, { on := 11, ground := Ground.phase }], guard := none }) (v := .pointer (some ⟨B, 0, none⟩)) rfl (by kernel_rfl) (by kernel_rfl) (by kernel_rfl) (by kernel_rfl) (fun _ _ _ h => h) (Or.inl ⟨by rfl, ?_⟩) HT6.out ?_
    · (intro w' hSw; obtain ⟨m0, m1, m2, m3⟩ := hSw; go_simp; try with_reducible rfl)
    try simp only [Act.put, List.setIfInBounds_toArray, List.set_cons_zero, List.set_cons_succ]
    refine wpAnyM_ready (rs := [14]) (by kernel_rfl) (by simp) ?_
    refine AllReadyM.cons (o := { dst := none, op := Op.store 114 (Operand.tmp 43) (Operand.tmp 41), type := 0, pos := _, after := #[{ on := 13, ground := Ground.data }, { on := 11, ground := Ground.data }, { on := 11, ground := Ground.chain }, { on := 0, ground := Ground.phase }, { on := 1, ground := Ground.phase }, { on := 2, ground := Ground.phase }, { on := 3, ground := Ground.phase }, { on := 4, ground := Ground.phase }, { on := 5, ground := Ground.phase }, { on := 6, ground := Ground.phase }, { on := 7, ground := Ground.phase }, { on := 8, ground := Ground.phase }, { on := 9, ground := Ground.phase }, { on := 10, ground := Ground.phase }, { on := 11, ground := Ground.phase }], guard := none }) rfl (fun K hK => ?_) AllReadyM.nil
    have HK9 : Hid (∀ a w, _ → K a w) := hK
    clear hK
    go_simp
    refine HK9.out _ _ ⟨fun h => absurd h (by decide), ?_⟩
    clear HK9 K
    try simp only [Act.put, List.setIfInBounds_toArray, List.set_cons_zero, List.set_cons_succ]
    refine wpAnyM_done (by kernel_rfl) ?_ _
    gi_wp2_with fail
    have hws3 := HWS.out
    refine ⟨(keeps_tn HE.out.2 (fun y hy => (HCK.out y hy).1)).from _, ⟨fun k hk => HE.out.2.block k (by omega) (fun hm => by have := (HCK.out k hm).2.1; omega), HE.out.2.block _ (by omega) (fun hm => (HCK.out _ hm).2.2 rfl)⟩, ?_⟩
    show ∃ vK vR, Nd w _ B PP w3.heap.size (textsOf (List.map _ _)) (pl ++ rowsOf (List.map _ _)) vK vR ∧ _
    rw [hds2]
    exact HE.out.1
end Go.Proofs.YtlcbideongbmeaaGreat

namespace Go.Proofs.YtlcbideongbmeaaGreat
open Go.RowKit Go.Lib Go.Shelf Dr
set_option linter.unusedVariables false
set_option maxRecDepth 100000

section
variable {w : World} {base B : Nat} {ks : List (List UInt8)} {F : Fx} {s : Df} {V : Dv}

theorem xT_gt (h : Inv F (num ks) (kw ks) s) {a : Nat} {x : Int} (hx : 0 ≤ x) (hgt : x < xT F s a) (ha : a < F.R) : th F s a = true ∧ x ≤ (F.k a : Int) := by
  unfold xT at hgt
  rw [if_neg (by omega)] at hgt
  cases ht : th F s a with
  | true => rw [ht] at hgt; simp at hgt; exact ⟨rfl, by omega⟩
  | false => rw [ht] at hgt; simp at hgt; omega

theorem xT_le {a : Nat} {x : Int} (hle : xT F s a ≤ x) (ht : th F s a = true) (ha : a < F.R) : (F.k a : Int) + 1 ≤ x := by
  unfold xT at hle
  rw [if_neg (by omega), ht] at hle
  simpa using hle

theorem th_lt (h : Inv F (num ks) (kw ks) s) {a : Nat} (ht : th F s a = true) : a < s.came ∧ a < F.R ∧ s.f (F.k a) ≤ a := by
  unfold th at ht
  simp only [Bool.and_eq_true, decide_eq_true_eq] at ht
  have := h.came
  exact ⟨ht.1, by omega, ht.2⟩

theorem gap_of (h : Inv F (num ks) (kw ks) s) {n r r2 g0 : Nat} (hn : n < F.K) (h1 : Pk.Fst (xT F s) 0 ((n : Int) + 1) r) (hr : r ≤ F.R) (h2 : Pk.Fst (xS F s) (n + 1) 0 r2) (hr2 : r2 ≤ F.K) (hg0 : g0 = min s.came r) :
    (r2 < F.K → Gap F s n (min g0 (s.g r2))) ∧ (¬ r2 < F.K → Gap F s n g0) := by
  have hrow : ∀ a, th F s a = true → n < F.k a → g0 ≤ a := by
    intro a ht hlt
    obtain ⟨_, haR, _⟩ := th_lt h ht
    by_cases hc : a < r
    · have := xT_le (h1.le a (Nat.zero_le _) hc) ht haR
      omega
    · omega
  have hone : g0 = s.came ∨ (th F s g0 = true ∧ n < F.k g0) := by
    by_cases hc : s.came ≤ r
    · left; omega
    · right
      have e : g0 = r := by omega
      rw [e]
      have := xT_gt h (by omega) h1.gt (by have := h.came; omega)
      exact ⟨this.1, by omega⟩
  have hst : ∀ m, s.st m = true → n < m → r2 ≤ m := by
    intro m hm hnm
    by_cases hc : m < r2
    · have hmK := (h.st m hm).1
      have := h2.le m (by omega) hc
      unfold xS at this
      rw [if_neg (by omega), hm] at this
      simp at this
    · omega
  constructor
  · intro hlt
    have hs2 : s.st r2 = true := by
      have := h2.gt
      unfold xS at this
      rw [if_neg (by omega)] at this
      cases hh : s.st r2 with
      | true => rfl
      | false => rw [hh] at this; simp at this
    have hge := h2.ge
    refine ⟨by omega, fun a ht hna => by have := hrow a ht hna; omega, fun m hm hnm => ?_, ?_⟩
    · have := hst m hm hnm
      by_cases he : m = r2
      · subst he; omega
      · have := h.rise r2 m hs2 hm (by omega)
        omega
    · by_cases hc : g0 ≤ s.g r2
      · rw [show min g0 (s.g r2) = g0 by omega]
        rcases hone with h3 | h3
        · exact .inl h3
        · exact .inr (.inl h3)
      · rw [show min g0 (s.g r2) = s.g r2 by omega]
        exact .inr (.inr ⟨r2, hs2, by omega, rfl⟩)
  · intro hge
    refine ⟨by omega, hrow, fun m hm hnm => ?_, ?_⟩
    · have := hst m hm hnm
      have := (h.st m hm).1
      omega
    · rcases hone with h3 | h3
      · exact .inl h3
      · exact .inr (.inl h3)

theorem first_ex {xs : Nat → Int} {a : Int} : ∀ (k f : Nat), a < xs (f + k) → ∃ r, Pk.Fst xs f a r ∧ r ≤ f + k := by
  intro k
  induction k with
  | zero => exact fun f h => ⟨f, ⟨Nat.le_refl _, h, fun i h1 h2 => by omega⟩, Nat.le_refl _⟩
  | succ k ih =>
    intro f h
    by_cases hf : a < xs f
    · exact ⟨f, ⟨Nat.le_refl _, hf, fun i h1 h2 => by omega⟩, by omega⟩
    · obtain ⟨r, hr, hle⟩ := ih (f + 1) (by rw [show f + 1 + k = f + (k + 1) by omega]; exact h)
      refine ⟨r, ⟨by have := hr.ge; omega, hr.gt, fun i h1 h2 => ?_⟩, by omega⟩
      by_cases hi : i = f
      · subst hi; omega
      · exact hr.le i (by omega) h2

theorem pfirst_eq {g c n : Nat} {t : List Int} {D : Nat} {xs : Nat → Int} (h : Ir w base (.slice (some ⟨g, 0, none⟩) n c) t) (hn : t.length = n) (hI : Pk.Is t D xs) (hb : n ≤ 35184372088832) (f P : Nat) (a : Int) (hP : P < 2 ^ D) {r : Nat} (hr : Pk.Fst xs f a r) (hrP : r ≤ P) :
    Calls Tryz.prog 103 #[.slice (some ⟨g, 0, none⟩) n c, .int .i64 (f : Int), .int .i64 a] w fun e w' => e = .returned (.int .i64 (r : Int)) ∧ w' = w := by
  refine (pfirst_any h hn hI hb f r a hr.ge (by omega) hr.gt).mono ?_
  rintro e w' ⟨⟨r', rfl, h1, _⟩, rfl⟩
  rw [h1.one hr]
  exact ⟨rfl, rfl⟩

theorem Drc.first1 {t1 t2 : List Int} {n1 n2 D1 D2 : Nat} (h : Drc w base B ks F s V t1 t2 n1 n2 D1 D2) (f : Nat) (x : Int) (hf : f ≤ F.R) (hx : x < 9223372036854775807) : ∃ r, Pk.Fst (xT F s) f x r ∧ r ≤ F.R := by
  obtain ⟨r, h1, h2⟩ := first_ex (xs := xT F s) (a := x) (F.R - f) f (by rw [show f + (F.R - f) = F.R by omega]; unfold xT; rw [if_pos rfl]; exact hx)
  exact ⟨r, h1, by omega⟩
theorem Drc.first2 {t1 t2 : List Int} {n1 n2 D1 D2 : Nat} (h : Drc w base B ks F s V t1 t2 n1 n2 D1 D2) (f : Nat) (x : Int) (hf : f ≤ F.K) (hx : x < 9223372036854775807) : ∃ r, Pk.Fst (xS F s) f x r ∧ r ≤ F.K := by
  obtain ⟨r, h1, h2⟩ := first_ex (xs := xS F s) (a := x) (F.K - f) f (by rw [show f + (F.K - f) = F.K by omega]; unfold xS; rw [if_pos rfl]; exact hx)
  exact ⟨r, h1, by omega⟩

set_option maxHeartbeats 4000000 in
theorem gapOf_any (h : Drn w base B ks F s V) (n : Nat) (hn : n < F.K) :
    Calls Tryz.prog 101 #[.pointer (some ⟨B, 0, none⟩), .int .i64 (n : Int)] w fun e w' => (∃ g : Nat, e = .returned (.int .i64 (g : Int)) ∧ Gap F s n g) ∧ Tn [] w w' := by
  obtain ⟨t1, t2, n1, n2, D1, D2, h⟩ := h
  have hbK := h.bK
  have hbR := h.bR
  have hcR := h.inv.came
  obtain ⟨c, hc⟩ : ∃ c : Nat, s.came = c := ⟨_, rfl⟩
  have x2 : w.cell? ⟨B, 2, none⟩ = some (.int .i64 (c : Int)) := by rw [← hc]; exact h.at 2
  have x6 : w.cell? ⟨B, 6, none⟩ = some (sl V.gt n1 V.ct) := h.at 6
  have x9 : w.cell? ⟨B, 9, none⟩ = some (sl V.gs n2 V.cs) := h.at 9
  have x8 : w.cell? ⟨B, 8, none⟩ = some (sl V.gg F.K V.cg) := h.at 8
  have x0 : w.cell? ⟨B, 0, none⟩ = some V.vK := h.at 0
  obtain ⟨pK, cK, hvK⟩ : ∃ p c, V.vK = .slice p F.K c := by
    rcases h.srow.2 with ⟨hv, hn⟩ | ⟨g, cap, cur, hv, _⟩
    · exact ⟨none, 0, by rw [hv, hn]⟩
    · exact ⟨_, cap, hv⟩
  rw [hvK] at x0
  obtain ⟨r, hF, hrR⟩ := h.first1 0 ((n : Int) + 1) (Nat.zero_le _) (by omega)
  obtain ⟨r2, hF2, hr2⟩ := h.first2 (n + 1) 0 (by omega) (by omega)
  obtain ⟨g0, hg0⟩ : ∃ g0 : Nat, g0 = min c r := ⟨_, rfl⟩
  have HG := gap_of h.inv hn hF hrR hF2 hr2 (show g0 = min s.came r by rw [hc]; exact hg0)
  have HH : Hid (Drc w base B ks F s V t1 t2 n1 n2 D1 D2) := h
  have HD : Hid (∀ k, Drc (w.drewN k) base B ks F s V t1 t2 n1 n2 D1 D2) := fun k => h.still (Tn.of_below (below_drewN (Below.refl _ _) _) _)
  have HF : Hid (Pk.Fst (xT F s) 0 ((n : Int) + 1) r ∧ r ≤ F.R) := ⟨hF, hrR⟩
  have HF2 : Hid (Pk.Fst (xS F s) (n + 1) 0 r2 ∧ r2 ≤ F.K) := ⟨hF2, hr2⟩
  have HG0 : Hid (g0 = min c r) := hg0
  have hcb : c ≤ 8796093022207 := by omega
  have hrb : r ≤ 8796093022207 := by omega
  clear h hvK hcR hc hF hrR hF2 hg0
  go_enter Tryz.func101, Tryz.ntmps101
  go_wp2_with fail
  go_quiet (first | (go_at_call 103; refine Calls.quiet_of_same (pfirst_eq (HD.out _).trow HH.out.l1 HH.out.i1 HH.out.b1 0 F.R ((n : Int) + 1) HH.out.r1 HF.out.1 HF.out.2)))
  go_wp2_with fail
  refine (pfirst_eq (HD.out _).irow HH.out.l2 HH.out.i2 HH.out.b2 (n + 1) F.K 0 HH.out.r2 HF2.out.1 HF2.out.2).mono ?_
  rintro e w1 ⟨rfl, rfl⟩
  by_cases hlt : r2 < F.K
  · have hli : (r2 : Int) < (F.K : Int) := by omega
    have hl0 : (0 : Int) ≤ (r2 : Int) := by omega
    have gc := HH.out.gcell hlt
    have HG1 : Hid (Gap F s n (min g0 (s.g r2))) := HG.1 hlt
    obtain ⟨y, hy⟩ : ∃ y : Nat, s.g r2 = y := ⟨_, rfl⟩
    obtain ⟨g, hg⟩ : ∃ g : Nat, g = min g0 y := ⟨_, rfl⟩
    rw [hy] at gc HG1
    rw [← hg] at HG1
    have HGG : Hid (g = min g0 y) := hg
    clear HG hy hg
    go_wp2
    go_ret
    exact ⟨⟨g, ret_int (by have := HGG.out; have := HG0.out; omega), HG1.out⟩, Tn.of_below (below_drewN (Below.refl _ _) _) _⟩
  · have hli : ¬ (r2 : Int) < (F.K : Int) := by omega
    have HG1 : Hid (Gap F s n g0) := HG.2 hlt
    clear HG
    go_wp2
    go_ret
    exact ⟨⟨g0, ret_int (by have := HG0.out; omega), HG1.out⟩, Tn.of_below (below_drewN (Below.refl _ _) _) _⟩
end
end Go.Proofs.YtlcbideongbmeaaGreat
