/- slices.DeleteFunc of entries, in a row of the call's own, by whatever test. -/
import Derived.Test.YtoehlgigidgfpaaGreatPgF1
import Derived.Test.YtoehlgigidgfpaaGreatPgB
import Derived.Test.YtoehlgigidgfpaaGreatPgDel
namespace Go.Proofs.YtoehlgigidgfpaaGreat
open Go.RowKit Go.Sort
set_option linter.unusedVariables false
set_option maxRecDepth 100000

theorem flatE_set4 : ∀ (l : List En) (i : Nat) (x y : En), l[i]? = some y → flatE (l.set i x) = ((((flatE l).set (i * 4) (.string x.key)).set (i * 4 + 1) (.int .i64 x.s)).set (i * 4 + 2) (.int .i64 x.g)).set (i * 4 + 3) (.int .i64 x.c)
  | [], i, x, y, h => by simp at h
  | z :: r, 0, x, y, h => by
    simp [flatE, En.cells]
  | z :: r, i + 1, x, y, h => by
    simp only [List.getElem?_cons_succ] at h
    have := flatE_set4 r i x y h
    unfold flatE at this ⊢
    simp only [List.set_cons_succ, List.map_cons, List.flatten_cons, this]
    rw [List.set_append_right _ _ (by simp [En.cells]; omega), List.set_append_right _ _ (by simp [En.cells]; omega), List.set_append_right _ _ (by simp [En.cells]; omega), List.set_append_right _ _ (by simp [En.cells]; omega)]
    simp only [En.cells, List.length_cons, List.length_nil]
    rw [show (i + 1) * 4 - (0 + 1 + 1 + 1 + 1) = i * 4 by omega, show (i + 1) * 4 + 1 - (0 + 1 + 1 + 1 + 1) = i * 4 + 1 by omega, show (i + 1) * 4 + 2 - (0 + 1 + 1 + 1 + 1) = i * 4 + 2 by omega, show (i + 1) * 4 + 3 - (0 + 1 + 1 + 1 + 1) = i * 4 + 3 by omega]

/-- Four cells of a row written. -/
abbrev put4r (w : World) (g o : Nat) (a b c d : Value) : World := (((w.setCell ⟨g, o, none⟩ a).setCell ⟨g, o + 1, none⟩ b).setCell ⟨g, o + 2, none⟩ c).setCell ⟨g, o + 3, none⟩ d

theorem OwnE.set {w : World} {base g n c : Nat} {l : List En} (h : OwnE w base (.slice (some ⟨g, 0, none⟩) n c) l) (hn : l.length = n) (i : Nat) (x y : En) (hy : l[i]? = some y) :
    OwnE (put4r w g (i * 4) (.string x.key) (.int .i64 x.s) (.int .i64 x.g) (.int .i64 x.c)) base (.slice (some ⟨g, 0, none⟩) n c) (l.set i x) := by
  unfold OwnE at h ⊢
  rw [List.length_set, hn, flatE_set4 l i x y hy]
  rw [hn] at h
  exact ((((h.stored (i * 4) (.string x.key)).1.stored (i * 4 + 1) (.int .i64 x.s)).1.stored (i * 4 + 2) (.int .i64 x.g)).1.stored (i * 4 + 3) (.int .i64 x.c)).1

theorem OwnE.frozen {w : World} {base g n c : Nat} {l : List En} (h : OwnE w base (.slice (some ⟨g, 0, none⟩) n c) l) (k : Nat) : w.frozen? ⟨g, k, none⟩ = false := by
  rcases h.2 with ⟨hv, _⟩ | ⟨g', cap, cur, hv, hb, hg, _⟩
  · cases hv
  · cases hv
    simp [World.frozen?, hg]

theorem OwnE.base_le {w : World} {base g n c : Nat} {l : List En} (h : OwnE w base (.slice (some ⟨g, 0, none⟩) n c) l) : base ≤ g ∧ g < w.heap.size := by
  rcases h.2 with ⟨hv, _⟩ | ⟨g', cap, cur, hv, hb, hg, _⟩
  · cases hv
  · cases hv
    exact ⟨hb, (Array.getElem?_eq_some_iff.1 hg).1⟩

theorem OwnE.ensG {w : World} {base n c : Nat} {p : Option Addr} {l : List En} (h : OwnE w base (.slice p n c) l) : Ens w p l := by
  obtain ⟨q, c', hv, he, -⟩ := h.ens
  simp only [Value.slice.injEq] at hv
  obtain ⟨rfl, -, -⟩ := hv
  exact he

/-- How the row stands when j were looked at, and i of them kept. -/
structure DelE (pr : En → Bool) (l : List En) (i j : Nat) (cur : List En) : Prop where
  len : cur.length = l.length
  lt : i < j
  low : cur.take i = (l.take j).filter fun x => !pr x
  high : cur.drop j = l.drop j

section
variable {pr : En → Bool} {l cur : List En} {i j : Nat}
theorem DelE.at (h : DelE pr l i j cur) (hj : j < l.length) : ∃ x, l[j]? = some x ∧ cur[j]? = some x := by
  refine ⟨l[j], List.getElem?_eq_getElem hj, ?_⟩
  have := congrArg (fun m => m[0]?) h.high
  simp only [List.getElem?_drop, Nat.add_zero] at this
  rw [this, List.getElem?_eq_getElem hj]

theorem keep_at {x : En} (h : l[j]? = some x) : ((l.take (j + 1)).filter fun x => !pr x) = if pr x then (l.take j).filter (fun x => !pr x) else (l.take j).filter (fun x => !pr x) ++ [x] := by
  rw [List.take_add_one, h, List.filter_append]
  cases he : pr x <;> simp [he]

theorem DelE.skip (h : DelE pr l i j cur) {x : En} (hx : l[j]? = some x) (he : pr x = true) : DelE pr l i (j + 1) cur := by
  refine ⟨h.len, by have := h.lt; omega, ?_, ?_⟩
  · rw [keep_at hx, he, if_pos rfl]
    exact h.low
  · have := congrArg (List.drop 1) h.high
    simpa [List.drop_drop, Nat.add_comm] using this

theorem DelE.keep (h : DelE pr l i j cur) {x : En} (hx : l[j]? = some x) (he : pr x = false) : DelE pr l (i + 1) (j + 1) (cur.set i x) := by
  have hlt := h.lt
  have hjl : j < l.length := (List.getElem?_eq_some_iff.1 hx).1
  have hl := h.len
  refine ⟨by rw [List.length_set]; exact h.len, by omega, ?_, ?_⟩
  · rw [keep_at hx, he]
    simp only [Bool.false_eq_true, if_false]
    rw [← h.low, List.take_add_one, List.getElem?_set_self (by omega), List.take_set_of_le (Nat.le_refl _)]
    rfl
  · rw [List.drop_set_of_lt (by omega)]
    have := congrArg (List.drop 1) h.high
    simpa [List.drop_drop, Nat.add_comm] using this

theorem keep_none (h : l.any pr = false) : (l.filter fun x => !pr x) = l := by
  rw [List.filter_eq_self]
  intro x hx
  rw [List.any_eq_false] at h
  have := h x hx
  simpa using this

theorem DelE.start (h : l.any pr = true) : DelE pr l (l.findIdx pr) (l.findIdx pr + 1) l ∧ l.findIdx pr < l.length := by
  have hlt : l.findIdx pr < l.length := by
    rw [List.findIdx_lt_length]
    rw [List.any_eq_true] at h
    exact h
  refine ⟨⟨rfl, by omega, ?_, rfl⟩, hlt⟩
  have hx := List.getElem?_eq_getElem hlt
  have hp : pr l[l.findIdx pr] = true := List.findIdx_getElem
  rw [keep_at hx, hp, if_pos rfl, keep_none]
  rw [List.any_eq_false]
  intro x hm
  obtain ⟨k, hk, rfl⟩ := List.getElem_of_mem hm
  rw [List.getElem_take]
  have hk' : k < l.findIdx pr := by rw [List.length_take] at hk; omega
  have := List.not_of_lt_findIdx hk'
  simpa using this
end

/-- 'clear(s[i:])' and 's[:i]' of a row of the call's own. -/
theorem OwnE.cut {w : World} {base g n c : Nat} {l : List En} (h : OwnE w base (.slice (some ⟨g, 0, none⟩) n c) l) (hn : l.length = n) (i : Nat) (hi : i < n) (cc : Nat) :
    ∃ w', (∀ ty, (Builtin.clear_ #[27] ty #[.slice (some ⟨g, i * 4, none⟩) (n - i) cc]).run Tryz.prog w = .ok (.tuple #[]) w') ∧ OwnE w' base (.slice (some ⟨g, 0, none⟩) i c) (l.take i) ∧ Below base w w' := by
  obtain ⟨i0, hi1, hz0, hz1, hz2⟩ := en_info
  rcases h.2 with ⟨hv, _⟩ | ⟨g', cap, cur, hv, hb, hg, hle, hcm, hcur, htake⟩
  · cases hv
  · simp only [Value.slice.injEq, Option.some.injEq, Addr.mk.injEq, and_true] at hv
    obtain ⟨rfl, -, rfl⟩ := hv
    rw [hn] at htake hle
    obtain ⟨Z, hZ⟩ : ∃ Z, (Builtin.zeroCells (Value.agg #[.string ⟨#[]⟩, .int .i64 0, .int .i64 0, .int .i64 0]).cells (n - i)).toList = Z := ⟨_, rfl⟩
    have hzl : Z.length = (n - i) * 4 := by rw [← hZ]; simp [Builtin.zeroCells, Value.cells]
    have hzo : ∀ v ∈ Z, v.oneCell' = true := by
      intro v hv
      rw [← hZ] at hv
      simp only [Builtin.zeroCells, Value.cells, Array.toList_map, List.mem_map] at hv
      obtain ⟨t, -, rfl⟩ := hv
      have ht : t % 4 < 4 := Nat.mod_lt _ (by decide)
      show (#[Value.string ⟨#[]⟩, .int .i64 0, .int .i64 0, .int .i64 0][t % 4]!).oneCell' = true
      have : t % 4 = 0 ∨ t % 4 = 1 ∨ t % 4 = 2 ∨ t % 4 = 3 := by omega
      rcases this with e | e | e | e <;> rw [e] <;> rfl
    have hst := run_storeCells_at Tryz.prog g (i * 4) 33 Z 0 cur w hg (by rw [hzl, hcur]; omega) hzo
    refine ⟨w.setRow g (cur.toList.take (i * 4 + 0) ++ Z ++ cur.toList.drop (i * 4 + 0 + Z.length)).toArray, fun ty => ?_, ?_, ?_⟩
    · obtain ⟨m, hm⟩ : ∃ m, n - i = m + 1 := ⟨n - i - 1, by omega⟩
      rw [hm] at hZ ⊢
      simp only [Builtin.clear_]
      simp [run_underlying Tryz.underlying27, zeroValue, typeInfo, hi1, hz0, hZ]
      have hst' := hst
      simp only [Nat.add_zero] at hst'
      rw [hst', List.append_assoc]
      rfl
    · have hg2 := Bk.setRow (w := w) hg (cur.toList.take (i * 4 + 0) ++ Z ++ cur.toList.drop (i * 4 + 0 + Z.length)).toArray
      have hli : (l.take i).length = i := by rw [List.length_take]; omega
      refine ⟨by rw [hli, flatE_len, hli], .inr ⟨g, c, _, by rw [hli], hb, hg2, by rw [hli]; omega, hcm, ?_, ?_⟩⟩
      · simp [hzl, hcur]
        omega
      · have ht4 : (cur.toList.take (i * 4)).length = i * 4 := by rw [List.length_take, Array.length_toList, hcur]; omega
        rw [hli, List.append_assoc]
        simp only [Nat.add_zero]
        rw [List.take_append_of_le_length (by omega), List.take_of_length_le (by omega)]
        have := congrArg (List.take (i * 4)) htake
        rw [List.take_take, show min (i * 4) (n * 4) = i * 4 by omega, flatE_split l i, List.take_append_of_le_length (by rw [flatE_len, hli]; exact Nat.le_refl _)] at this
        rw [this]
        exact List.take_of_length_le (by rw [flatE_len, hli]; exact Nat.le_refl _)
    · have hbs : base ≤ w.heap.size := Nat.le_trans hb (Nat.le_of_lt (Array.getElem?_eq_some_iff.1 hg).1)
      exact (Tn.setRow (S := [g]) (g := g) (Tn.refl _ w) (.inl (by simp)) _).below hbs (by simpa using hb)

set_option maxHeartbeats 2000000 in
theorem deleteE_any (gf : Nat) (lb : Array Value) (pr : En → Bool) (eg : ∀ args w, (callFunc gf args).run Tryz.prog w = .ok (.enter gf args) w) (p : Option Addr) (n c : Nat) (l : List En) (base : Nat) (w : World) (hn : l.length = n) (ho : OwnE w base (.slice p n c) l) (hbase : base ≤ w.heap.size) (hl : n ≤ 4398046511104)
    (hT : ∀ (W : World) (x : En), Below base w W → Calls Tryz.prog gf (#[x.val] ++ lb) W fun e w' => e = .returned (.bool (pr x)) ∧ Below W.heap.size W w') :
    Calls Tryz.prog 165 #[.slice p n c, .func (.func gf) #[] lb] w fun e w' => ∃ v', e = .returned v' ∧ OwnE w' base v' (l.filter fun x => !pr x) ∧ Below base w w' := by
  have HT : Hid _ := hT
  have hens : Ens w p l := ho.ensG
  have hidx := idxE_any gf lb pr eg p n c l w (fun W x hb => hT W x (hb.mono hbase)) hn hens (by omega)
  have HIDX : Hid _ := hidx
  have HO : Hid (OwnE w base (.slice p n c) l) := ho
  have HN : Hid (l.length = n) := hn
  clear hT hidx ho hn hens
  obtain ⟨out, HOUT⟩ : ∃ out, Hid ((l.filter fun x => !pr x) = out) := ⟨_, rfl⟩
  rw [HOUT.out]
  cases hany : l.any pr with
  | false =>
    have HF : Hid (out = l) := by rw [Hid, ← HOUT.out]; exact keep_none hany
    have hi : Pg.idx pr l = -1 := by unfold Pg.idx; rw [hany]; rfl
    rw [hi] at HIDX
    go_enter Tryz.func165, Tryz.ntmps165
    go_wp2_with fail
    refine Calls.mono HIDX.out ?_
    rintro e w1 ⟨rfl, hb1⟩
    have HB1 : Hid (Below w.heap.size w w1) := hb1
    clear hb1
    go_wp2
    go_ret
    refine ⟨_, rfl, ?_, HB1.out.mono hbase⟩
    rw [HF.out]
    exact HO.out.below HB1.out (Nat.le_refl _)
  | true =>
    obtain ⟨hst, hk0⟩ := DelE.start hany
    have hi : Pg.idx pr l = (l.findIdx pr : Nat) := by unfold Pg.idx; rw [hany]; rfl
    rw [hi] at HIDX
    generalize l.findIdx pr = k0 at hst hk0 HIDX
    have HST : Hid (DelE pr l k0 (k0 + 1) l) := hst
    obtain ⟨g, rfl⟩ : ∃ g, p = some ⟨g, 0, none⟩ := by
      rcases HO.out.2 with ⟨hv, h0⟩ | ⟨g', cap, cur, hv, _⟩
      · omega
      · simp only [Value.slice.injEq] at hv
        exact ⟨g', hv.1⟩
    rw [HN.out] at hk0
    have hne1 : ((k0 : Int) == -1) = false := beq_eq_false_iff_ne.2 (by omega)
    have hcap : c ≤ 9223372036854775807 := by
      rcases HO.out.2 with ⟨hv, h0⟩ | ⟨g', cap, cur, hv, hb, hg, hle, hcm, hcur, htake⟩
      · cases hv
      · simp only [Value.slice.injEq] at hv
        have := hv.2.2
        unfold maxLen at hcm
        omega
    have hnc : n ≤ c := by
      rcases HO.out.2 with ⟨hv, h0⟩ | ⟨g', cap, cur, hv, hb, hg, hle, hcm, hcur, htake⟩
      · cases hv
      · simp only [Value.slice.injEq] at hv
        have := hv.2.2
        rw [HN.out] at hle
        omega
    clear hst hi
    go_enter Tryz.func165, Tryz.ntmps165
    go_wp2_with fail
    refine Calls.mono HIDX.out ?_
    rintro e w1 ⟨rfl, hb1⟩
    have HB1 : Hid (Below base w w1) := hb1.mono hbase
    have HO1 : Hid (OwnE w1 base (.slice (some ⟨g, 0, none⟩) n c) l) := HO.out.below hb1 (Nat.le_refl _)
    clear hb1 HIDX
    go_wp2_with fail
    go_loopw [5, 6, 7] (fun s5 s6 _ wr => ∃ (i j : Nat) (cur : List En), s5 = .int .i64 i ∧ s6 = .int .i64 j ∧ j ≤ n ∧ i < j ∧ Hid (DelE pr l i j cur) ∧ Hid (OwnE wr base (.slice (some ⟨g, 0, none⟩) n c) cur) ∧ Hid (Below base w wr)) (fun _ s6 _ _ => n - (intOf s6).toNat)
    case atStart => exact ⟨k0, k0 + 1, l, rfl, by go_num, by omega, by omega, HST, HO1, HB1⟩
    case round =>
      obtain ⟨i, j, cur, rfl, rfl, hj, hij, HD, HRW, HTW⟩ := hrel
      have HCN : Hid (cur.length = n) := HD.out.len.trans HN.out
      by_cases hlt : j < n
      · have hli : (j : Int) < (n : Int) := by omega
        have hjl : j < l.length := by have := HN.out; omega
        obtain ⟨x, hx1, hx2⟩ := HD.out.at hjl
        have hens := HRW.out.ensG
        obtain ⟨b, o, x', hbo, hx3, hblt, c0, c1, c2, c3⟩ := hens.at (j := j) (by have := HCN.out; omega)
        cases hbo
        rw [hx2] at hx3
        cases hx3
        simp only [Nat.zero_add] at c0 c1 c2 c3
        have HX : Hid (l[j]? = some x) := hx1
        obtain ⟨w5, hw5⟩ : ∃ w5, wr.alloc (.cells #[.string x.key, .int .i64 x.s, .int .i64 x.g, .int .i64 x.c] 33) = w5 := ⟨_, rfl⟩
        have HK5 : Hid (Bk w5 wr.heap.size 33 #[.string x.key, .int .i64 x.s, .int .i64 x.g, .int .i64 x.c]) := by rw [← hw5]; exact Bk.new _ _ _
        have HT5 : Hid (Below base w w5) := by rw [← hw5]; exact HTW.out.alloc (Nat.le_trans hbase HTW.out.size) _
        have HRW5 : Hid (OwnE w5 base (.slice (some ⟨g, 0, none⟩) n c) cur) := by rw [← hw5]; exact HRW.out.below ((Below.refl _ _).alloc (Nat.le_refl _) _) (Nat.le_refl _)
        have HGX : Hid (g ≠ wr.heap.size) := by have := HRW.out.base_le.2; unfold Hid; omega
        have e0 : w5.cell? ⟨wr.heap.size, 0, none⟩ = some (.string x.key) := HK5.out.cell 0
        have e1 : w5.cell? ⟨wr.heap.size, 1, none⟩ = some (.int .i64 x.s) := HK5.out.cell 1
        have e2 : w5.cell? ⟨wr.heap.size, 2, none⟩ = some (.int .i64 x.g) := HK5.out.cell 2
        have e3 : w5.cell? ⟨wr.heap.size, 3, none⟩ = some (.int .i64 x.c) := HK5.out.cell 3
        clear hx1 hx2 hens hblt
        go_wp2_with (go_at_fn gf; refine (HT.out w5 x HT5.out).mono ?_; rintro e w6 ⟨rfl, hb6⟩; refine Hid.out ?_)
        unfold Hid
        clear hw5
        have HT6 : Hid (Below base w w6) := HT5.out.trans (hb6.mono (Nat.le_trans hbase HT5.out.size))
        have HRW6 : Hid (OwnE w6 base (.slice (some ⟨g, 0, none⟩) n c) cur) := HRW5.out.below hb6 (Nat.le_refl _)
        have HK6 : Hid (Bk w6 wr.heap.size 33 #[.string x.key, .int .i64 x.s, .int .i64 x.g, .int .i64 x.c]) := HK5.out.below hb6 HK5.out.lt
        clear hb6 HK5 HT5 HRW5 c0 c1 c2 c3 e0 e1 e2 e3
        cases he : pr x with
        | true =>
          go_wp2
          go_roundw
          case rel => exact ⟨i, j + 1, cur, rfl, by go_num, by omega, by omega, HD.out.skip HX.out he, HRW6, HT6⟩
          case measure => simp [intOf]; omega
        | false =>
          have hil : i < cur.length := by have := HCN.out; omega
          obtain ⟨y, hy⟩ : ∃ y, cur[i]? = some y := ⟨_, List.getElem?_eq_getElem hil⟩
          have hens := HRW6.out.ensG
          obtain ⟨b, o, y', hbo, hy3, -, d0, d1, d2, d3⟩ := hens.at (j := i) hil
          cases hbo
          rw [hy] at hy3
          cases hy3
          simp only [Nat.zero_add] at d0 d1 d2 d3
          have z0 := HRW6.out.frozen (i * 4)
          have z1 := HRW6.out.frozen (i * 4 + 1)
          have z2 := HRW6.out.frozen (i * 4 + 2)
          have z3 := HRW6.out.frozen (i * 4 + 3)
          have HRS : Hid (OwnE (put4r w6 g (i * 4) (.string x.key) (.int .i64 x.s) (.int .i64 x.g) (.int .i64 x.c)) base (.slice (some ⟨g, 0, none⟩) n c) (cur.set i x)) := HRW6.out.set HCN.out i x y hy
          have hbg := HRW6.out.base_le.1
          have HTS : Hid (Below base w (put4r w6 g (i * 4) (.string x.key) (.int .i64 x.s) (.int .i64 x.g) (.int .i64 x.c))) := (((HT6.out.setCell hbg _).setCell hbg _).setCell hbg _).setCell hbg _
          have e0 : w6.cell? ⟨wr.heap.size, 0, none⟩ = some (.string x.key) := HK6.out.cell 0
          have e1 : w6.cell? ⟨wr.heap.size, 1, none⟩ = some (.int .i64 x.s) := HK6.out.cell 1
          have e2 : w6.cell? ⟨wr.heap.size, 2, none⟩ = some (.int .i64 x.g) := HK6.out.cell 2
          have e3 : w6.cell? ⟨wr.heap.size, 3, none⟩ = some (.int .i64 x.c) := HK6.out.cell 3
          have hin : (i : Int) < (n : Int) := by omega
          clear hy hil hens hbg
          go_wp2
          go_roundw
          case rel => exact ⟨i + 1, j + 1, cur.set i x, by go_num, by go_num, by omega, by omega, HD.out.keep HX.out he, HRS, HTS⟩
          case measure => simp [intOf]; omega
      · have hjn : j = n := by omega
        have hli : ¬ ((j : Int) < (n : Int)) := by omega
        subst hjn
        obtain ⟨w7, hcl, ho7, hb7⟩ := HRW.out.cut HCN.out i hij (c - i)
        have HLOW : Hid (cur.take i = out) := by
          rw [Hid, HD.out.low, List.take_of_length_le (by have := HN.out; omega)]
          exact HOUT.out
        have HO7 : Hid (OwnE w7 base (.slice (some ⟨g, 0, none⟩) i c) (cur.take i)) := ho7
        have HB7 : Hid (Below base w w7) := HTW.out.trans hb7
        clear ho7 hb7
        go_wp2
        go_ret
        refine ⟨_, rfl, ?_, HB7.out⟩
        rw [← HLOW.out]
        exact HO7.out

end Go.Proofs.YtoehlgigidgfpaaGreat
