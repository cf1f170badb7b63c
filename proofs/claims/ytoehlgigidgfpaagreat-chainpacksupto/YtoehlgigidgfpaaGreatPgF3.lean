/- The entry with a key (the code's). -/
import Derived.Test.YtoehlgigidgfpaaGreatPgF2
namespace Go.Proofs.YtoehlgigidgfpaaGreat
open Go.RowKit Go.Sort
set_option linter.unusedVariables false
set_option maxRecDepth 100000

/-- Whether an entry has a key. -/
def Pg.is (key : ByteArray) (e : En) : Bool := e.key.toList == key.toList

theorem Pg.is_iff {key : ByteArray} {e : En} : Pg.is key e = true ↔ e.key = key := by
  unfold Pg.is
  rw [beq_iff_eq]
  exact ⟨Ky.toList_inj, fun h => by rw [h]⟩

theorem Pg.not_is_lt {key : ByteArray} {e : En} (h : Ky.lt e.key key = true) : Pg.is key e = false := by
  cases hq : Pg.is key e with
  | false => rfl
  | true => rw [Pg.is_iff.1 hq, Ky.lt_irrefl] at h; exact h.symm ▸ rfl
theorem Pg.not_is_gt {key : ByteArray} {e : En} (h : Ky.lt key e.key = true) : Pg.is key e = false := by
  cases hq : Pg.is key e with
  | false => rfl
  | true => rw [Pg.is_iff.1 hq, Ky.lt_irrefl] at h; exact h.symm ▸ rfl

theorem Ky.lt_of_le {a b k : ByteArray} (h1 : Ky.lt b a = false) (h2 : Ky.lt b k = true) : Ky.lt a k = true := by
  cases h : Ky.lt a k with
  | true => rfl
  | false => rw [Ky.le_trans h h1] at h2; exact h2
theorem Ky.lt_of_le' {a b k : ByteArray} (h1 : Ky.lt b a = false) (h2 : Ky.lt k a = true) : Ky.lt k b = true := by
  cases h : Ky.lt k b with
  | true => rfl
  | false => rw [Ky.le_trans h1 h] at h2; exact h2

set_option maxHeartbeats 2000000 in
theorem bsearch_any (p : Option Addr) (len cap : Nat) (l : List En) (key : ByteArray) (w : World) (hlen : l.length = len) (hx : Ens w p l) (hl : len ≤ 4398046511104) (ho : Pg.Ord l) :
    Calls Tryz.prog 176 #[.slice p len cap, .string key, .func (.func 177) #[] #[]] w fun e w' => ∃ k : Nat, e = .returned (.tuple #[.int .i64 k, .bool (l.any (Pg.is key))]) ∧ (l.any (Pg.is key) = true → k = l.findIdx (Pg.is key)) ∧ Below w.heap.size w w' := by
  have eg : ∀ args w, (callFunc 177 args).run Tryz.prog w = .ok (.enter 177 args) w := enters_of Tryz.func177 (by kernel_rfl) rfl
  have HX : Hid (Ens w p l) := hx
  have HL : Hid (l.length = len) := hlen
  have HO : Hid (Pg.Ord l) := ho
  clear hx hlen ho
  obtain ⟨v, HV⟩ : ∃ v, Hid (l.any (Pg.is key) = v) := ⟨_, rfl⟩
  rw [HV.out]
  go_enter Tryz.func176, Tryz.ntmps176
  go_wp2_with fail
  go_loopg [9, 10] len (fun kx s9 s10 wr => ∃ lo hi : Nat, s9 = .int .i64 lo ∧ s10 = .int .i64 hi ∧ lo ≤ hi ∧ hi ≤ len ∧ hi - lo ≤ kx ∧ Hid (Below w.heap.size w wr) ∧ Hid ((∀ t e, t < lo → l[t]? = some e → Ky.lt e.key key = true) ∧ (∀ t e, hi ≤ t → l[t]? = some e → Ky.lt e.key key = false)))
  case atStart => exact ⟨0, len, rfl, rfl, Nat.zero_le _, Nat.le_refl _, by omega, Below.refl _ _, ⟨fun t e ht => absurd ht (Nat.not_lt_zero _), fun t e h1 h2 => by have := (List.getElem?_eq_some_iff.1 h2).1; have := HL.out; omega⟩⟩
  case round =>
    obtain ⟨lo, hi, rfl, rfl, hlh, hin, hg, HW, I⟩ := hrel
    by_cases hlt : lo < hi
    · obtain ⟨m, hmm⟩ : ∃ m, m = (lo + hi) / 2 := ⟨_, rfl⟩
      have hmn : m < len := by omega
      have HMM : Hid (m = (lo + hi) / 2) := hmm
      have HMI : Hid (((lo : Int) + (hi : Int)) / 2 = (m : Int)) := by rw [Hid]; omega
      obtain ⟨b, o, x, rfl, hgx, -, c0, c1, c2, c3⟩ := (HX.out.below HW.out (Nat.le_refl _)).at (j := m) (by have := HL.out; omega)
      have hc := cmpk_any x key wr
      have hcl := Ky.cmp_lt x.key key
      have HGX : Hid (l[m]? = some x) := hgx
      have i1 : ((lo : Int) + (hi : Int)) / 2 < (len : Int) := by omega
      have i2 : (((lo : Int) + (hi : Int)) / 2).toNat = m := by omega
      have i3 : (0 : Int) ≤ ((lo : Int) + (hi : Int)) / 2 := by omega
      clear hgx hmm
      cases hq : Ky.lt x.key key with
      | true =>
        rw [hq] at hcl
        have hc2 : Calls Tryz.prog 177 (#[x.val, .string key] ++ #[]) wr fun e w' => e = .returned (.int .i64 (-1)) ∧ Below wr.heap.size wr w' := by rw [show Ky.cmp x.key key = -1 from hcl] at hc; exact hc
        have HI : Hid ((∀ t e, t < m + 1 → l[t]? = some e → Ky.lt e.key key = true) ∧ (∀ t e, hi ≤ t → l[t]? = some e → Ky.lt e.key key = false)) := by
          refine ⟨fun t e ht he => ?_, I.out.2⟩
          obtain ⟨n, rfl⟩ : ∃ n, m = t + n := ⟨m - t, by omega⟩
          exact Ky.lt_of_le (HO.out.le n t e x he HGX.out) hq
        clear hc hcl
        go_wp2_with (go_at_fn 177; refine hc2.mono ?_; rintro e w' ⟨rfl, hb'⟩)
        go_roundg (hi - (m + 1))
        case measure => have := HMM.out; omega
        case rel => exact ⟨m + 1, hi, by rw [HMI.out]; rfl, rfl, by have := HMM.out; omega, hin, Nat.le_refl _, HW.out.trans (hb'.mono HW.out.size), HI⟩
      | false =>
        rw [hq] at hcl
        obtain ⟨cv, hcv, hcn⟩ : ∃ cv : Int, Ky.cmp x.key key = cv ∧ ¬ cv < 0 := ⟨_, rfl, by rw [hcl]; simp; split <;> decide⟩
        have hc2 : Calls Tryz.prog 177 (#[x.val, .string key] ++ #[]) wr fun e w' => e = .returned (.int .i64 cv) ∧ Below wr.heap.size wr w' := by rw [hcv] at hc; exact hc
        have HI : Hid ((∀ t e, t < lo → l[t]? = some e → Ky.lt e.key key = true) ∧ (∀ t e, m ≤ t → l[t]? = some e → Ky.lt e.key key = false)) := by
          refine ⟨I.out.1, fun t e ht he => ?_⟩
          obtain ⟨n, rfl⟩ : ∃ n, t = m + n := ⟨t - m, by omega⟩
          exact Ky.le_trans hq (HO.out.le n m x e HGX.out he)
        clear hc hcl hcv
        go_wp2_with (go_at_fn 177; refine hc2.mono ?_; rintro e w' ⟨rfl, hb'⟩)
        go_roundg (m - lo)
        case measure => have := HMM.out; omega
        case rel => exact ⟨lo, m, rfl, by rw [HMI.out], by have := HMM.out; omega, by have := HMM.out; omega, Nat.le_refl _, HW.out.trans (hb'.mono HW.out.size), HI⟩
    · have hlq : hi = lo := by omega
      subst hlq
      by_cases hn : hi < len
      · obtain ⟨b, o, x, rfl, hgx, -, c0, c1, c2, c3⟩ := (HX.out.below HW.out (Nat.le_refl _)).at (j := hi) (by have := HL.out; omega)
        have hc := cmpk_any x key wr
        have hcl := Ky.cmp_lt x.key key
        rw [I.out.2 hi x (Nat.le_refl _) hgx] at hcl
        have hni : (hi : Int) < (len : Int) := by omega
        cases hq : Ky.lt key x.key with
        | true =>
          rw [hq] at hcl
          have hc2 : Calls Tryz.prog 177 (#[x.val, .string key] ++ #[]) wr fun e w' => e = .returned (.int .i64 1) ∧ Below wr.heap.size wr w' := by rw [show Ky.cmp x.key key = 1 from hcl] at hc; exact hc
          have HF : Hid (v = false) := by
            rw [Hid, ← HV.out]
            refine Pg.any_miss fun t e ht he => ?_
            by_cases htk : t < hi
            · exact Pg.not_is_lt (I.out.1 t e htk he)
            · obtain ⟨n, rfl⟩ : ∃ n, t = hi + n := ⟨t - hi, by omega⟩
              exact Pg.not_is_gt (Ky.lt_of_le' (HO.out.le n hi x e hgx he) hq)
          clear hc hcl hgx
          go_wp2_with (go_at_fn 177; refine hc2.mono ?_; rintro e w' ⟨rfl, hb'⟩)
          go_ret2
          exact ⟨hi, by rw [HF.out]; rfl, (fun h => by rw [HF.out] at h; cases h), HW.out.trans (hb'.mono HW.out.size)⟩
        | false =>
          rw [hq] at hcl
          have hc2 : Calls Tryz.prog 177 (#[x.val, .string key] ++ #[]) wr fun e w' => e = .returned (.int .i64 0) ∧ Below wr.heap.size wr w' := by rw [show Ky.cmp x.key key = 0 from hcl] at hc; exact hc
          have hxk : Pg.is key x = true := Pg.is_iff.2 (Ky.lt_total (I.out.2 hi x (Nat.le_refl _) hgx) hq)
          have HF : Hid (v = true) := by
            rw [Hid, ← HV.out]
            exact List.any_eq_true.2 ⟨x, List.mem_of_getElem? hgx, hxk⟩
          have HI : Hid (hi = l.findIdx (Pg.is key)) := by
            refine (Pg.first_eq (by have := HL.out; omega) (fun t e ht he => Pg.not_is_lt (I.out.1 t e ht he)) (fun e he => ?_)).symm
            rw [hgx] at he
            cases he
            exact hxk
          clear hc hcl hgx hxk
          go_wp2_with (go_at_fn 177; refine hc2.mono ?_; rintro e w' ⟨rfl, hb'⟩)
          go_ret2
          exact ⟨hi, by rw [HF.out]; rfl, fun _ => HI.out, HW.out.trans (hb'.mono HW.out.size)⟩
      · have hne : hi = len := by omega
        have hni : ¬ (hi : Int) < (len : Int) := by omega
        have HF : Hid (v = false) := by
          rw [Hid, ← HV.out]
          exact Pg.any_miss fun t e ht he => Pg.not_is_lt (I.out.1 t e (by have := HL.out; omega) he)
        go_wp2
        go_ret2
        exact ⟨_, by rw [HF.out]; rfl, (fun h => by rw [HF.out] at h; cases h), HW.out⟩

theorem with2_any (key : ByteArray) (w : World) (B : Nat) (hf : Bk w B 9 #[.string key]) : TstE 180 #[.pointer (some ⟨B, 0, none⟩)] (Pg.is key) w := by
  intro W x hb
  have hf' := hf.below hb hf.lt
  obtain ⟨w0, hw0⟩ : ∃ w0, W.alloc (.cells #[.string x.key, .int .i64 x.s, .int .i64 x.g, .int .i64 x.c] 33) = w0 := ⟨_, rfl⟩
  have hb0 : Below W.heap.size W w0 := by rw [← hw0]; exact (Below.refl _ _).alloc (Nat.le_refl _) _
  have f0 : w0.cell? ⟨B, 0, none⟩ = some (.string key) := (hf'.below hb0 hf'.lt).cell 0
  have x0 : w0.cell? ⟨W.heap.size, 0, none⟩ = some (.string x.key) := by rw [← hw0]; exact (Bk.new W 33 #[.string x.key, .int .i64 x.s, .int .i64 x.g, .int .i64 x.c]).cell 0
  have HB0 : Hid (Below W.heap.size W w0) := hb0
  clear hf hf' hb hb0
  show Calls Tryz.prog 180 #[x.val, .pointer (some ⟨B, 0, none⟩)] W _
  go_enter Tryz.func180, Tryz.ntmps180
  go_wp2
  go_ret
  exact ⟨rfl, HB0.out⟩

set_option maxHeartbeats 1000000 in
theorem withKey_any (p : Option Addr) (len cap : Nat) (l : List En) (key : ByteArray) (w : World) (hlen : l.length = len) (hx : Ens w p l) (hl : len ≤ 4398046511104) :
    Calls Tryz.prog 160 #[.slice p len cap, .string key] w fun e w' => ∃ k : Int, e = .returned (.tuple #[.int .i64 k, .bool (l.any (Pg.is key))]) ∧ (l.any (Pg.is key) = true → k = (l.findIdx (Pg.is key) : Nat)) ∧ Below w.heap.size w w' := by
  have eg2 : ∀ args w, (callFunc 180 args).run Tryz.prog w = .ok (.enter 180 args) w := enters_of Tryz.func180 (by kernel_rfl) rfl
  obtain ⟨w0, hw0⟩ : ∃ w0, w.alloc (.cells #[.string key] 9) = w0 := ⟨_, rfl⟩
  have HB0 : Hid (Below w.heap.size w w0) := by rw [← hw0]; exact (Below.refl _ _).alloc (Nat.le_refl _) _
  have HK0 : Hid (Bk w0 w.heap.size 9 #[.string key]) := by rw [← hw0]; exact Bk.new _ _ _
  have HX : Hid (Ens w p l) := hx
  have HL : Hid (l.length = len) := hlen
  clear hx hlen
  obtain ⟨v, HV⟩ : ∃ v, Hid (l.any (Pg.is key) = v) := ⟨_, rfl⟩
  rw [HV.out]
  go_enter Tryz.func160, Tryz.ntmps160
  go_wp2_with fail
  refine (inOrder_any p len cap l _ HL.out (HX.out.below HB0.out (Nat.le_refl _)) hl).mono ?_
  rintro e w1 ⟨ro, rfl, hro, hb1⟩
  have HB1 : Hid (Below w.heap.size w w1) := HB0.out.trans (hb1.mono HB0.out.size)
  have HK1 : Hid (Bk w1 w.heap.size 9 #[.string key]) := HK0.out.below hb1 HK0.out.lt
  have HRO : Hid (ro = true ↔ Pg.Ord l) := hro
  clear hb1 hro HK0 HB0 hw0
  have a0 : w1.cell? ⟨w.heap.size, 0, none⟩ = some (.string key) := HK1.out.cell 0
  have HX1 : Hid (Ens w1 p l) := HX.out.below HB1.out (Nat.le_refl _)
  cases ro with
  | true =>
    go_wp2_with fail
    refine (bsearch_any p len cap l key _ HL.out HX1.out hl (HRO.out.1 (by first | rfl | trivial))).mono ?_
    rw [HV.out]
    rintro e w2 ⟨k, rfl, hk, hb2⟩
    have HB2 : Hid (Below w.heap.size w w2) := HB1.out.trans (hb2.mono HB1.out.size)
    have HI : Hid (v = true → k = l.findIdx (Pg.is key)) := hk
    clear hk hb2
    go_wp2
    go_ret2
    exact ⟨k, rfl, fun h => by rw [HI.out h], HB2.out⟩
  | false =>
    go_wp2_with fail
    refine (idxE_any 180 _ (Pg.is key) eg2 p len cap l _ (with2_any key w1 w.heap.size HK1.out) HL.out HX1.out (by omega)).mono ?_
    rintro e w2 ⟨rfl, hb2⟩
    have HB2 : Hid (Below w.heap.size w w2) := HB1.out.trans (hb2.mono HB1.out.size)
    clear hb2 a0
    unfold Pg.idx
    rw [HV.out]
    cases v with
    | true =>
      simp only [if_true]
      obtain ⟨k, HK⟩ : ∃ k : Nat, Hid (l.findIdx (Pg.is key) = k) := ⟨_, rfl⟩
      rw [HK.out]
      have hk0 : (0 : Int) ≤ (k : Int) := by omega
      go_wp2
      go_ret2
      exact ⟨k, rfl, by first | exact (fun _ => by rw [HK.out]) | (rw [HK.out]), HB2.out⟩
    | false =>
      simp only [Bool.false_eq_true, if_false]
      go_wp2
      go_ret2
      exact ⟨-1, rfl, (fun h => by cases h), HB2.out⟩

end Go.Proofs.YtoehlgigidgfpaaGreat
