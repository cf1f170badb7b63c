/- slices.DeleteFunc of the empty ranges: the walk. -/
import Derived.Test.YtgppnbcneknpdaaKyD
namespace Go.Proofs.Ytgppnbcneknpdaa
open Go.RowKit
set_option linter.unusedVariables false
set_option maxRecDepth 100000

/-- The ranges that are not empty. -/
def Ky.full (l : List Rg) : List Rg := l.filter fun x => !Ky.emp x

/-- How the row stands when j were looked at, and i of them kept. -/
structure DelInv (l : List Rg) (i j : Nat) (cur : List Rg) : Prop where
  len : cur.length = l.length
  lt : i < j
  low : cur.take i = Ky.full (l.take j)
  high : cur.drop j = l.drop j

theorem DelInv.at {l : List Rg} {i j : Nat} {cur : List Rg} (h : DelInv l i j cur) (hj : j < l.length) : ∃ x, l[j]? = some x ∧ cur[j]? = some x := by
  refine ⟨l[j], List.getElem?_eq_getElem hj, ?_⟩
  have := congrArg (fun m => m[0]?) h.high
  simp only [List.getElem?_drop, Nat.add_zero] at this
  rw [this, List.getElem?_eq_getElem hj]

theorem Ky.full_at {l : List Rg} {j : Nat} {x : Rg} (h : l[j]? = some x) : Ky.full (l.take (j + 1)) = if Ky.emp x then Ky.full (l.take j) else Ky.full (l.take j) ++ [x] := by
  unfold Ky.full
  rw [List.take_add_one, h, List.filter_append]
  cases he : Ky.emp x <;> simp [he]

theorem DelInv.skip {l : List Rg} {i j : Nat} {cur : List Rg} (h : DelInv l i j cur) {x : Rg} (hx : l[j]? = some x) (he : Ky.emp x = true) : DelInv l i (j + 1) cur := by
  refine ⟨h.len, by have := h.lt; omega, ?_, ?_⟩
  · rw [Ky.full_at hx, he, if_pos rfl]
    exact h.low
  · have := congrArg (List.drop 1) h.high
    simpa [List.drop_drop, Nat.add_comm] using this

theorem DelInv.keep {l : List Rg} {i j : Nat} {cur : List Rg} (h : DelInv l i j cur) {x : Rg} (hx : l[j]? = some x) (he : Ky.emp x = false) : DelInv l (i + 1) (j + 1) (cur.set i x) := by
  have hlt := h.lt
  have hjl : j < l.length := (List.getElem?_eq_some_iff.1 hx).1
  have hl := h.len
  refine ⟨by rw [List.length_set]; exact h.len, by omega, ?_, ?_⟩
  · rw [Ky.full_at hx, he]
    simp only [Bool.false_eq_true, if_false]
    rw [← h.low, List.take_add_one, List.getElem?_set_self (by omega), List.take_set_of_le (Nat.le_refl _)]
    rfl
  · rw [List.drop_set_of_lt (by omega)]
    have := congrArg (List.drop 1) h.high
    simpa [List.drop_drop, Nat.add_comm] using this

theorem Ky.full_none {l : List Rg} (h : l.any Ky.emp = false) : Ky.full l = l := by
  unfold Ky.full
  rw [List.filter_eq_self]
  intro x hx
  rw [List.any_eq_false] at h
  have := h x hx
  simpa using this

theorem DelInv.start {l : List Rg} (h : l.any Ky.emp = true) : DelInv l (l.findIdx Ky.emp) (l.findIdx Ky.emp + 1) l ∧ l.findIdx Ky.emp < l.length := by
  have hlt : l.findIdx Ky.emp < l.length := by
    rw [List.findIdx_lt_length]
    rw [List.any_eq_true] at h
    exact h
  refine ⟨⟨rfl, by omega, ?_, rfl⟩, hlt⟩
  have hx := List.getElem?_eq_getElem hlt
  have hp : Ky.emp l[l.findIdx Ky.emp] = true := List.findIdx_getElem
  rw [Ky.full_at hx, hp, if_pos rfl, Ky.full_none]
  rw [List.any_eq_false]
  intro x hm
  obtain ⟨k, hk, rfl⟩ := List.getElem_of_mem hm
  rw [List.getElem_take]
  have hk' : k < l.findIdx Ky.emp := by rw [List.length_take] at hk; omega
  have := List.not_of_lt_findIdx hk'
  simpa using this

theorem tn_setCells {a : World} {g : Nat} : ∀ {w : World} (h : Tn [g] a w) (o : Nat) (vs : List Value), Tn [g] a (w.setCells g o vs)
  | w, h, o, [] => h
  | w, h, o, v :: r => tn_setCells (h.setCell (p := ⟨g, o, none⟩) (.inl (by simp)) v) (o + 1) r

set_option maxHeartbeats 1000000 in
theorem delete_any (v : Value) (l : List Rg) (base : Nat) (w : World) (ho : OwnR w base v l) (hl : l.length ≤ 4398046511104) :
    Calls Try.prog 43 #[v, .func (.func 13) #[] #[]] w fun e w' =>
      (e = .returned (.slice none 0 0) ∧ Ky.full l = [] ∧ Tn [] w w') ∨
      ∃ g cap, e = .returned (.slice (some ⟨g, 0, none⟩) (Ky.full l).length cap) ∧ base ≤ g ∧ g < w.heap.size ∧ (Ky.full l).length ≤ cap ∧ Row w' g (Ky.full l) ∧ Tn [g] w w' := by
  have eg : ∀ args w, (callFunc 13 args).run Try.prog w = .ok (.enter 13 args) w := enters_of Try.func13 (by kernel_rfl) rfl
  have hT : Tst 13 #[] Ky.emp w := fun W x _ => empty_any x W
  obtain ⟨p, c, rfl, hr, hpn⟩ := ho.rgs
  have hidx := idx_any 13 #[] Ky.emp eg p l.length c l w hT rfl hr (by omega)
  cases hany : l.any Ky.emp with
  | false =>
    have HF : Hid (Ky.full l = l) := Ky.full_none hany
    have hi : Ky.idx Ky.emp l = -1 := by unfold Ky.idx; rw [hany]; rfl
    rw [hi] at hidx
    have HO : Hid (OwnR w base (.slice p l.length c) l) := ho
    clear ho hr hT
    go_enter Try.func43, Try.ntmps43
    go_wp2_with fail
    refine hidx.mono ?_
    rintro e w1 ⟨rfl, hb1⟩
    go_wp2
    go_ret
    rw [HF.out]
    rcases HO.out.row with ⟨h1, h2⟩ | ⟨g, cap, h1, h2, h3, h4, h5, h6⟩
    · simp only [Value.slice.injEq] at h1
      obtain ⟨rfl, -, rfl⟩ := h1
      subst h2
      exact .inl ⟨rfl, rfl, Tn.of_below hb1 _⟩
    · simp only [Value.slice.injEq] at h1
      obtain ⟨rfl, -, rfl⟩ := h1
      exact .inr ⟨g, _, rfl, h2, h3, h4, h6.same (hb1.block g h3), Tn.of_below hb1 _⟩
  | true =>
    obtain ⟨hst, hk0⟩ := DelInv.start hany
    have hi : Ky.idx Ky.emp l = (l.findIdx Ky.emp : Nat) := by unfold Ky.idx; rw [hany]; rfl
    rw [hi] at hidx
    generalize l.findIdx Ky.emp = k0 at hst hk0 hidx
    have HST : Hid (DelInv l k0 (k0 + 1) l) := hst
    rcases ho.row with ⟨h1, h2⟩ | ⟨g, cap, h1, h2, h3, h4, h5, h6⟩
    · subst h2
      simp at hk0
    · simp only [Value.slice.injEq] at h1
      obtain ⟨rfl, -, rfl⟩ := h1
      have HR : Hid (Row w g l) := h6
      have HG : Hid (g < w.heap.size) := h3
      have hne1 : ((k0 : Int) == -1) = false := beq_eq_false_iff_ne.2 (by omega)
      obtain ⟨n, hn⟩ : ∃ n, n = l.length := ⟨_, rfl⟩
      rw [← hn] at hidx hk0 h4 hl ⊢
      have HN : Hid (n = l.length) := hn
      have h5' : c ≤ 9223372036854775807 := by unfold maxLen at h5; omega
      clear ho hr hT h6 hst hn h5 hi hpn
      go_enter Try.func43, Try.ntmps43
      go_wp2_with fail
      refine hidx.mono ?_
      rintro e w1 ⟨rfl, hb1⟩
      have HB1 : Hid (Tn [g] w w1) := Tn.of_below hb1 _
      have HR1 : Hid (Row w1 g l) := HR.out.same (hb1.block g HG.out)
      clear hb1 hidx
      go_wp2_with fail
      go_loopw [5, 6, 7] (fun s5 s6 _ wr => ∃ (i j : Nat) (cur : List Rg), s5 = .int .i64 i ∧ s6 = .int .i64 j ∧ j ≤ n ∧ i < j ∧ Hid (DelInv l i j cur) ∧ Hid (Row wr g cur) ∧ Hid (Tn [g] w wr)) (fun _ s6 _ _ => n - (intOf s6).toNat)
      case atStart => exact ⟨k0, k0 + 1, l, rfl, by go_num, by omega, by omega, HST, HR1, HB1⟩
      case round =>
        obtain ⟨i, j, cur, rfl, rfl, hj, hij, HD, HRW, HT⟩ := hrel
        by_cases hlt : j < n
        · have hli : (j : Int) < (n : Int) := by omega
          have hjl : j < l.length := by have := HN.out; omega
          obtain ⟨x, hx1, hx2⟩ := HD.out.at hjl
          obtain ⟨⟨c0, c1⟩, -, -⟩ := HRW.out j x hx2
          have HX : Hid (l[j]? = some x) := hx1
          have hgw : g < wr.heap.size := HRW.out.lt hx2
          have HK5 : Hid (Bk (wr.alloc (.cells #[.string x.lo, .string x.hi] 24)) wr.heap.size 24 #[.string x.lo, .string x.hi]) := Bk.new _ _ _
          have HT5 : Hid (Tn [g] w (wr.alloc (.cells #[.string x.lo, .string x.hi] 24))) := HT.out.alloc _
          have HRW5 : Hid (Row (wr.alloc (.cells #[.string x.lo, .string x.hi] 24)) g cur) := HRW.out.same (Below.heap_alloc _ _ _ hgw)
          clear hx1 hx2
          go_wp2_with (go_at_fn 13; refine (empty_any x _).mono ?_; rintro e w6 ⟨rfl, hb6⟩; refine Hid.out ?_)
          unfold Hid
          have HT6 : Hid (Tn [g] w w6) := HT5.out.trans (Tn.of_below hb6 []) (by simp)
          have HRW6 : Hid (Row w6 g cur) := HRW5.out.same (hb6.block g (by simp; omega))
          have HK6 : Hid (Bk w6 wr.heap.size 24 #[.string x.lo, .string x.hi]) := HK5.out.below hb6 HK5.out.lt
          clear hb6 HK5 HT5 HRW5 c0 c1
          cases he : Ky.emp x with
          | true =>
            go_wp2
            go_roundw
            case rel => exact ⟨i, j + 1, cur, rfl, by go_num, by omega, by omega, HD.out.skip HX.out he, HRW6, HT6⟩
            case measure => simp [intOf]; omega
          | false =>
            have hil : i < cur.length := by have := HD.out.len; have := HN.out; omega
            have hy := List.getElem?_eq_getElem hil
            obtain ⟨⟨d0, d1⟩, z0, z1⟩ := HRW6.out i _ hy
            have HRS : Hid (Row ((w6.setCell ⟨g, i * 2, none⟩ (.string x.lo)).setCell ⟨g, i * 2 + 1, none⟩ (.string x.hi)) g (cur.set i x)) := HRW6.out.set i x _ hy
            have HTS : Hid (Tn [g] w ((w6.setCell ⟨g, i * 2, none⟩ (.string x.lo)).setCell ⟨g, i * 2 + 1, none⟩ (.string x.hi))) := (HT6.out.setCell (.inl (by simp)) _).setCell (.inl (by simp)) _
            have e0 := HK6.out.cell 0
            have e1 := HK6.out.cell 1
            simp at e0 e1
            generalize cur[i] = y at d0 d1
            have hin : (i : Int) < (n : Int) := by omega
            clear hy hil
            go_wp2
            go_roundw
            case rel => exact ⟨i + 1, j + 1, cur.set i x, by go_num, by go_num, by omega, by omega, HD.out.keep HX.out he, HRS, HTS⟩
            case measure => simp [intOf]; omega
        · have hjn : j = n := by omega
          have hli : ¬ ((j : Int) < (n : Int)) := by omega
          subst hjn
          have hlen := HD.out.len
          have hnl := HN.out
          have hcl : ∀ ty, (Builtin.clear_ #[22] ty #[.slice (some ⟨g, i * 2, none⟩) (j - i) (c - i)]).run Try.prog wr = .ok (.tuple #[]) (wr.setCells g (i * 2) (List.replicate ((j - i) * 2) (.string ⟨#[]⟩))) := fun ty => by
            refine run_clear_rg wr ty g (i * 2) (j - i) (c - i) (by omega) (fun t ht => ?_) (fun t ht => ?_)
            · have hq : i + t / 2 < cur.length := by omega
              have := (HRW.out _ _ (List.getElem?_eq_getElem hq)).1
              by_cases e : t = t / 2 * 2
              · rw [show i * 2 + t = (i + t / 2) * 2 by omega, this.1]; rfl
              · rw [show i * 2 + t = (i + t / 2) * 2 + 1 by omega, this.2]; rfl
            · have hq : i + t / 2 < cur.length := by omega
              have := (HRW.out _ _ (List.getElem?_eq_getElem hq)).2
              by_cases e : t = t / 2 * 2
              · rw [show i * 2 + t = (i + t / 2) * 2 by omega, this.1]
              · rw [show i * 2 + t = (i + t / 2) * 2 + 1 by omega, this.2]
          have HLOW : Hid (cur.take i = Ky.full l) := by
            unfold Hid
            rw [HD.out.low, List.take_of_length_le (by omega)]
          have HLEN : Hid ((Ky.full l).length = i) := by
            unfold Hid
            rw [← HLOW.out, List.length_take]
            omega
          have HRE : Hid (Row (wr.setCells g (i * 2) (List.replicate ((j - i) * 2) (.string ⟨#[]⟩))) g (Ky.full l)) := by
            intro k x hk
            have hki : k < i := by
              have := (List.getElem?_eq_some_iff.1 hk).1
              have := HLEN.out
              omega
            rw [← HLOW.out, List.getElem?_take, if_pos hki] at hk
            have := HRW.out k x hk
            rw [World.frozen?_setCells, World.frozen?_setCells, World.cell?_setCells_out _ _ _ _ _ (by intro _ _; left; show k * 2 < i * 2; omega), World.cell?_setCells_out _ _ _ _ _ (by intro _ _; left; show k * 2 + 1 < i * 2; omega)]
            exact this
          have HTE : Hid (Tn [g] w (wr.setCells g (i * 2) (List.replicate ((j - i) * 2) (.string ⟨#[]⟩)))) := tn_setCells HT.out _ _
          clear hlen hnl
          go_wp2
          go_ret
          refine .inr ⟨g, c, ?_, h2, HG.out, by have := HLEN.out; omega, HRE.out, HTE.out⟩
          rw [HLEN.out]
          rfl
end Go.Proofs.Ytgppnbcneknpdaa
