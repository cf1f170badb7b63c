/- Halving: sort.Search, slices.BinarySearchFunc; the first entry whose key is such a one; the entry with a key (the code's). -/
import Derived.Test.YtoehlgigidgfpaaGreatPgF1
import Derived.Deep.LoopGhost
import Derived.WalkArith
import Derived.Laws.Shifts
import Derived.Lib.Walk
namespace Go.Proofs.YtoehlgigidgfpaaGreat
open Go.RowKit Go.Sort
set_option linter.unusedVariables false
set_option maxRecDepth 100000

/-- A test of places that lays memory of its own alone. -/
def TstN (g : Nat) (lb : Array Value) (n : Nat) (pr : Nat → Bool) (w : World) : Prop :=
  ∀ (W : World) (k : Nat), k < n → Below w.heap.size w W → Calls Tryz.prog g (#[.int .i64 k] ++ lb) W fun e w' => e = .returned (.bool (pr k)) ∧ Below W.heap.size W w'

set_option maxHeartbeats 1000000 in
theorem search_any (g : Nat) (lb : Array Value) (n : Nat) (pr : Nat → Bool) (eg : ∀ args w, (callFunc g args).run Tryz.prog w = .ok (.enter g args) w) (w : World) (hp : TstN g lb n pr w) (hn : n ≤ 4398046511104) (hm : ∀ i j, i ≤ j → j < n → pr i = true → pr j = true) :
    Calls Tryz.prog 181 #[.int .i64 n, .func (.func g) #[] lb] w fun e w' => ∃ k : Nat, e = .returned (.int .i64 k) ∧ k ≤ n ∧ (∀ i, i < k → pr i = false) ∧ (∀ i, k ≤ i → i < n → pr i = true) ∧ Below w.heap.size w w' := by
  have HP : Hid (TstN g lb n pr w) := hp
  have HM : Hid (∀ i j, i ≤ j → j < n → pr i = true → pr j = true) := hm
  clear hp hm
  go_enter Tryz.func181, Tryz.ntmps181
  go_wp2_with fail
  go_loopg [5, 6] n (fun kx s5 s6 wr => ∃ lo hi : Nat, s5 = .int .i64 lo ∧ s6 = .int .i64 hi ∧ lo ≤ hi ∧ hi ≤ n ∧ hi - lo ≤ kx ∧ Hid (Below w.heap.size w wr) ∧ Hid ((∀ t, t < lo → pr t = false) ∧ (∀ t, hi ≤ t → t < n → pr t = true)))
  case atStart => exact ⟨0, n, rfl, rfl, Nat.zero_le _, Nat.le_refl _, by omega, Below.refl _ _, ⟨fun t ht => absurd ht (Nat.not_lt_zero _), fun t h1 h2 => by omega⟩⟩
  case round =>
    obtain ⟨lo, hi, rfl, rfl, hlh, hin, hg, HW, I⟩ := hrel
    by_cases hlt : lo < hi
    · obtain ⟨m, hmm⟩ : ∃ m, m = (lo + hi) / 2 := ⟨_, rfl⟩
      have HMI : Hid (((lo : Int) + (hi : Int)) / 2 = (m : Int)) := by rw [Hid]; omega
      have HMM : Hid (m = (lo + hi) / 2) := hmm
      have hc0 := HP.out wr m (by omega) HW.out
      have hc : Calls Tryz.prog g (#[.int .i64 (((lo : Int) + (hi : Int)) / 2)] ++ lb) wr fun e w' => e = .returned (.bool (pr m)) ∧ Below wr.heap.size wr w' := by rw [HMI.out]; exact hc0
      clear hc0 hmm
      cases hq : pr m with
      | true =>
        rw [hq] at hc
        have HI : Hid ((∀ t, t < lo → pr t = false) ∧ (∀ t, m ≤ t → t < n → pr t = true)) := ⟨I.out.1, fun t h1 h2 => HM.out m t h1 h2 hq⟩
        go_wp2_with (go_at_fn g; refine hc.mono ?_; rintro e w' ⟨rfl, hb'⟩)
        go_roundg (m - lo)
        case measure => have := HMM.out; omega
        case rel => exact ⟨lo, m, rfl, by rw [HMI.out], by have := HMM.out; omega, by have := HMM.out; omega, Nat.le_refl _, HW.out.trans (hb'.mono HW.out.size), HI⟩
      | false =>
        rw [hq] at hc
        have HI : Hid ((∀ t, t < m + 1 → pr t = false) ∧ (∀ t, hi ≤ t → t < n → pr t = true)) := ⟨fun t ht => by
          cases h : pr t with
          | false => rfl
          | true =>
            have := HM.out t m (by omega) (by have := HMM.out; omega) h
            rw [hq] at this
            exact this.symm, I.out.2⟩
        go_wp2_with (go_at_fn g; refine hc.mono ?_; rintro e w' ⟨rfl, hb'⟩)
        go_roundg (hi - (m + 1))
        case measure => have := HMM.out; omega
        case rel => exact ⟨m + 1, hi, by rw [HMI.out]; rfl, rfl, by have := HMM.out; omega, hin, Nat.le_refl _, HW.out.trans (hb'.mono HW.out.size), HI⟩
    · have hlq : hi = lo := by omega
      subst hlq
      go_wp2
      go_ret
      exact ⟨hi, rfl, hin, I.out.1, I.out.2, HW.out⟩

/-- A test of keys that lays memory of its own alone. -/
def TstK (g : Nat) (lb : Array Value) (pr : ByteArray → Bool) (w : World) : Prop :=
  ∀ (W : World) (k : ByteArray), Below w.heap.size w W → Calls Tryz.prog g (#[.string k] ++ lb) W fun e w' => e = .returned (.bool (pr k)) ∧ Below W.heap.size W w'

theorem Pg.first_eq {l : List En} {pr : En → Bool} {k : Nat} (hk : k ≤ l.length) (h1 : ∀ i e, i < k → l[i]? = some e → pr e = false) (h2 : ∀ e, l[k]? = some e → pr e = true) : l.findIdx pr = k := by
  by_cases h : k < l.length
  · exact (List.findIdx_eq h).2 ⟨h2 _ (List.getElem?_eq_getElem h), fun j hj => h1 j _ hj (List.getElem?_eq_getElem (by omega))⟩
  · have : k = l.length := by omega
    subst this
    refine List.findIdx_eq_length.2 fun x hx => ?_
    obtain ⟨j, hj, rfl⟩ := List.getElem_of_mem hx
    exact h1 j _ hj (List.getElem?_eq_getElem hj)

set_option maxHeartbeats 2000000 in
theorem first1_any (gi : Nat) (lbi : Array Value) (pr : ByteArray → Bool) (egi : ∀ args w, (callFunc gi args).run Tryz.prog w = .ok (.enter gi args) w) (p : Option Addr) (len cap : Nat) (l : List En) (w : World) (B : Nat) (hlen : l.length = len) (hx : Ens w p l) (hl : len ≤ 4398046511104) (hp : TstK gi lbi pr w)
    (hk : Bk w B 27 #[.slice p len cap]) (hf : Bk w (B + 1) 224 #[.func (.func gi) #[] lbi]) :
    TstN 182 #[.pointer (some ⟨B + 1, 0, none⟩), .pointer (some ⟨B, 0, none⟩)] len (fun k => match l[k]? with | some e => pr e.key | none => false) w := by
  intro W k hkn hb
  obtain ⟨b, o, x, rfl, hg, -, c0, -, -, -⟩ := (hx.below hb (Nat.le_refl _)).at (j := k) (by omega)
  have hk' := hk.below hb hk.lt
  have hf' := hf.below hb hf.lt
  have k0 := cell_regrown (show W.cell? ⟨B, 0, none⟩ = some (.slice (some ⟨b, o, none⟩) len cap) from hk'.cell 0)
  have f0 := cell_regrown (show W.cell? ⟨B + 1, 0, none⟩ = some (.func (.func gi) #[] lbi) from hf'.cell 0)
  have m0 := cell_regrown c0
  have hc := fun d os => hp (grow (redrawn W d) os) x.key (hb.trans ((below_regrown W d os).mono hb.size))
  simp only [hg]
  have cC : ∀ d os, Calls Tryz.prog gi (#[.string x.key] ++ lbi) (grow (redrawn W d) os) fun e w'' => e = .returned (.bool (pr x.key)) ∧ ∃ p : Regrown, w'' = grow (redrawn W p.d) p.os := fun d os => Calls.regrown_of (hc d os)
  have hki : (k : Int) < (len : Int) := by omega
  clear hc hp hk hf hk' hf' hb hx hg c0
  obtain ⟨t, ht⟩ : ∃ t, pr x.key = t := ⟨_, rfl⟩
  rw [ht] at cC ⊢
  show Calls Tryz.prog 182 #[.int .i64 k, .pointer (some ⟨B + 1, 0, none⟩), .pointer (some ⟨B, 0, none⟩)] W _
  go_enter Tryz.func182, Tryz.ntmps182
  go_wp2_with fail
  refine wp_region_quiet_below (by kernel_rfl) (by kernel_rfl) ?_
  repeat (go_big_quiet_step (first | (go_at_fn gi; exact cC _ _)))
  refine wpQuiet_nil ?_
  intro _ hw'
  obtain ⟨⟨dq, osq⟩, hw''⟩ := hw'
  subst hw''
  go_wp2
  go_ret
  exact ⟨rfl, below_regrown W dq osq⟩

set_option maxHeartbeats 1000000 in
theorem first2_any (gi : Nat) (lbi : Array Value) (pr : ByteArray → Bool) (egi : ∀ args w, (callFunc gi args).run Tryz.prog w = .ok (.enter gi args) w) (w : World) (B : Nat) (hp : TstK gi lbi pr w) (hf : Bk w (B + 1) 224 #[.func (.func gi) #[] lbi]) :
    TstE 183 #[.pointer (some ⟨B + 1, 0, none⟩)] (fun e => pr e.key) w := by
  intro W x hb
  have hf' := hf.below hb hf.lt
  obtain ⟨w0, hw0⟩ : ∃ w0, W.alloc (.cells #[.string x.key, .int .i64 x.s, .int .i64 x.g, .int .i64 x.c] 33) = w0 := ⟨_, rfl⟩
  have hb0 : Below W.heap.size W w0 := by rw [← hw0]; exact (Below.refl _ _).alloc (Nat.le_refl _) _
  have f0 : w0.cell? ⟨B + 1, 0, none⟩ = some (.func (.func gi) #[] lbi) := (hf'.below hb0 hf'.lt).cell 0
  have x0 : w0.cell? ⟨W.heap.size, 0, none⟩ = some (.string x.key) := by rw [← hw0]; exact (Bk.new W 33 #[.string x.key, .int .i64 x.s, .int .i64 x.g, .int .i64 x.c]).cell 0
  have hc := hp w0 x.key (hb.trans (hb0.mono hb.size))
  have HB0 : Hid (Below W.heap.size W w0) := hb0
  clear hp hf hf' hb hb0
  show Calls Tryz.prog 183 #[x.val, .pointer (some ⟨B + 1, 0, none⟩)] W _
  go_enter Tryz.func183, Tryz.ntmps183
  go_wp2_with (go_at_fn gi; refine hc.mono ?_; rintro e w' ⟨rfl, hb'⟩)
  go_ret
  exact ⟨rfl, HB0.out.trans (hb'.mono HB0.out.size)⟩

set_option maxHeartbeats 2000000 in
theorem first_any (gi : Nat) (lbi : Array Value) (pr : ByteArray → Bool) (egi : ∀ args w, (callFunc gi args).run Tryz.prog w = .ok (.enter gi args) w) (p : Option Addr) (len cap : Nat) (l : List En) (w : World) (hlen : l.length = len) (hx : Ens w p l) (hl : len ≤ 4398046511104) (hp : TstK gi lbi pr w)
    (hm : ∀ a b, Ky.lt b a = false → pr a = true → pr b = true) :
    Calls Tryz.prog 161 #[.slice p len cap, .func (.func gi) #[] lbi] w fun e w' => e = .returned (.int .i64 (l.findIdx fun e => pr e.key : Nat)) ∧ Below w.heap.size w w' := by
  have eg1 : ∀ args w, (callFunc 182 args).run Tryz.prog w = .ok (.enter 182 args) w := enters_of Tryz.func182 (by kernel_rfl) rfl
  have eg2 : ∀ args w, (callFunc 183 args).run Tryz.prog w = .ok (.enter 183 args) w := enters_of Tryz.func183 (by kernel_rfl) rfl
  obtain ⟨w0, hw0⟩ : ∃ w0, (w.alloc (.cells #[.slice p len cap] 27)).alloc (.cells #[.func (.func gi) #[] lbi] 224) = w0 := ⟨_, rfl⟩
  have HB0 : Hid (Below w.heap.size w w0) := by rw [← hw0]; exact ((Below.refl _ _).alloc (Nat.le_refl _) _).alloc (by simp) _
  have HK0 : Hid (Bk w0 w.heap.size 27 #[.slice p len cap]) := by rw [← hw0]; exact (Bk.new _ _ _).alloc _
  have HF0 : Hid (Bk w0 (w.heap.size + 1) 224 #[.func (.func gi) #[] lbi]) := by rw [← hw0]; exact Bk.new1 _ _ _ _
  have HX : Hid (Ens w p l) := hx
  have HL : Hid (l.length = len) := hlen
  have HP : Hid (TstK gi lbi pr w) := hp
  have HM : Hid (∀ a b, Ky.lt b a = false → pr a = true → pr b = true) := hm
  clear hx hlen hp hm
  have a0 : w0.cell? ⟨w.heap.size, 0, none⟩ = some (.slice p len cap) := HK0.out.cell 0
  obtain ⟨v, HV⟩ : ∃ v : Nat, Hid (l.findIdx (fun e => pr e.key) = v) := ⟨_, rfl⟩
  rw [HV.out]
  go_enter Tryz.func161, Tryz.ntmps161
  go_wp2_with fail
  refine (inOrder_any p len cap l _ HL.out (HX.out.below HB0.out (Nat.le_refl _)) hl).mono ?_
  rintro e w1 ⟨ro, rfl, hro, hb1⟩
  have HB1 : Hid (Below w.heap.size w w1) := HB0.out.trans (hb1.mono HB0.out.size)
  have HK1 : Hid (Bk w1 w.heap.size 27 #[.slice p len cap]) := HK0.out.below hb1 HK0.out.lt
  have HF1 : Hid (Bk w1 (w.heap.size + 1) 224 #[.func (.func gi) #[] lbi]) := HF0.out.below hb1 HF0.out.lt
  have HRO : Hid (ro = true ↔ Pg.Ord l) := hro
  clear a0 hb1 hro HK0 HF0 HB0 hw0
  have a0 : w1.cell? ⟨w.heap.size, 0, none⟩ = some (.slice p len cap) := HK1.out.cell 0
  have HP1 : Hid (TstK gi lbi pr w1) := fun W k hb => HP.out W k (HB1.out.trans (hb.mono HB1.out.size))
  have HX1 : Hid (Ens w1 p l) := HX.out.below HB1.out (Nat.le_refl _)
  cases ro with
  | true =>
    have HOR : Hid (Pg.Ord l) := HRO.out.1 rfl
    go_wp2_with fail
    refine (search_any 182 _ len _ eg1 _ (first1_any gi lbi pr egi p len cap l w1 w.heap.size HL.out HX1.out hl HP1.out HK1.out HF1.out) hl (fun i j hij hj h => ?_)).mono ?_
    · have hjl : j < l.length := by rw [HL.out]; exact hj
      rw [List.getElem?_eq_getElem (by omega : i < l.length)] at h
      rw [List.getElem?_eq_getElem hjl]
      obtain ⟨n, rfl⟩ : ∃ n, j = i + n := ⟨j - i, by omega⟩
      exact HM.out _ _ (HOR.out.le n i _ _ (List.getElem?_eq_getElem (by omega)) (List.getElem?_eq_getElem hjl)) h
    rintro e w2 ⟨k, rfl, hk, h1, h2, hb2⟩
    have HB2 : Hid (Below w.heap.size w w2) := HB1.out.trans (hb2.mono HB1.out.size)
    have HI : Hid (v = k) := by
      rw [Hid, ← HV.out]
      refine Pg.first_eq (by rw [HL.out]; exact hk) (fun i e hi he => ?_) (fun e he => ?_)
      · have := h1 i hi
        rw [he] at this
        exact this
      · have := h2 k (Nat.le_refl _) (by have := (List.getElem?_eq_some_iff.1 he).1; rw [HL.out] at this; exact this)
        rw [he] at this
        exact this
    clear h1 h2 hb2
    go_wp2
    go_ret
    exact ⟨by rw [HI.out]; rfl, HB2.out⟩
  | false =>
    go_wp2_with fail
    refine (idxE_any 183 _ (fun e => pr e.key) eg2 p len cap l _ (first2_any gi lbi pr egi w1 w.heap.size HP1.out HF1.out) HL.out HX1.out (by omega)).mono ?_
    rintro e w2 ⟨rfl, hb2⟩
    have HB2 : Hid (Below w.heap.size w w2) := HB1.out.trans (hb2.mono HB1.out.size)
    have HK2 : Hid (Bk w2 w.heap.size 27 #[.slice p len cap]) := HK1.out.below hb2 HK1.out.lt
    clear a0 hb2
    have a0 : w2.cell? ⟨w.heap.size, 0, none⟩ = some (.slice p len cap) := HK2.out.cell 0
    unfold Pg.idx
    cases hany : l.any (fun e => pr e.key) with
    | true =>
      rw [HV.out]
      simp only [if_true]
      have hv0 : ¬ (v : Int) < 0 := by omega
      clear hany
      go_wp2
      go_ret
      exact ⟨rfl, HB2.out⟩
    | false =>
      have HI : Hid (v = len) := by
        rw [Hid, ← HV.out, ← HL.out]
        refine List.findIdx_eq_length.2 fun x hx => ?_
        rw [List.any_eq_false] at hany
        simpa using hany x hx
      clear hany
      simp only [Bool.false_eq_true, if_false]
      go_wp2
      go_ret
      exact ⟨by rw [HI.out]; rfl, HB2.out⟩

end Go.Proofs.YtoehlgigidgfpaaGreat
