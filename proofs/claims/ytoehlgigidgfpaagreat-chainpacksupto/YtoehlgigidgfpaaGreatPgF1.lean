/- Whether entries are in order; the first entry that meets a test (the code's). -/
import Derived.Test.YtoehlgigidgfpaaGreatPgB
import Derived.Shelf.GgClosure.Gives
import Derived.Lib.QuietBelow
namespace Go.Proofs.YtoehlgigidgfpaaGreat
open Go.RowKit Go.Sort
set_option linter.unusedVariables false
set_option maxRecDepth 100000

theorem Ky.le_trans {a b c : ByteArray} (h1 : Ky.lt b a = false) (h2 : Ky.lt c b = false) : Ky.lt c a = false := by
  cases h : Ky.lt c a with
  | false => rfl
  | true =>
    cases h3 : Ky.lt a b with
    | true => rw [Ky.lt_trans h h3] at h2; exact h2
    | false => rw [Ky.lt_total h3 h1] at h; rw [h] at h2; exact h2

/-- No key is below the one ahead of it. -/
def Pg.Ord (l : List En) : Prop := ∀ i a b, l[i]? = some a → l[i + 1]? = some b → Ky.lt b.key a.key = false

theorem Pg.Ord.le {l : List En} (h : Pg.Ord l) : ∀ (n i : Nat) (a b : En), l[i]? = some a → l[i + n]? = some b → Ky.lt b.key a.key = false
  | 0, i, a, b, ha, hb => by rw [Nat.add_zero, ha] at hb; cases hb; exact Ky.lt_irrefl _
  | n + 1, i, a, b, ha, hb => by
    have hlt := (List.getElem?_eq_some_iff.1 hb).1
    have hc := List.getElem?_eq_getElem (l := l) (i := i + n) (by omega)
    exact Ky.le_trans (h.le n i a _ ha hc) (h (i + n) _ b hc hb)

theorem cmp1_any (a b : En) (w : World) : Calls Tryz.prog 203 #[a.val, b.val] w fun e w' => e = .returned (.int .i64 (Ky.cmp a.key b.key)) ∧ Below w.heap.size w w' := by
  have HB : Hid (Below w.heap.size w ((w.alloc (.cells #[.string a.key, .int .i64 a.s, .int .i64 a.g, .int .i64 a.c] 33)).alloc (.cells #[.string b.key, .int .i64 b.s, .int .i64 b.g, .int .i64 b.c] 33))) := ((Below.refl _ _).alloc (Nat.le_refl _) _).alloc (by simp) _
  go_enter Tryz.func203, Tryz.ntmps203
  go_wp2_with fail
  refine (compare_any a.key b.key _).mono ?_
  rintro e w1 ⟨rfl, rfl⟩
  go_wp2
  go_ret
  exact ⟨rfl, HB.out⟩

theorem cmpk_any (a : En) (k : ByteArray) (w : World) : Calls Tryz.prog 177 #[a.val, .string k] w fun e w' => e = .returned (.int .i64 (Ky.cmp a.key k)) ∧ Below w.heap.size w w' := by
  have HB : Hid (Below w.heap.size w (w.alloc (.cells #[.string a.key, .int .i64 a.s, .int .i64 a.g, .int .i64 a.c] 33))) := (Below.refl _ _).alloc (Nat.le_refl _) _
  go_enter Tryz.func177, Tryz.ntmps177
  go_wp2_with fail
  refine (compare_any a.key k _).mono ?_
  rintro e w1 ⟨rfl, rfl⟩
  go_wp2
  go_ret
  exact ⟨rfl, HB.out⟩

set_option maxHeartbeats 1000000 in
theorem sorted_any (p : Option Addr) (len cap : Nat) (l : List En) (w : World) (hlen : l.length = len) (hx : Ens w p l) (hl : len ≤ 4398046511104) :
    Calls Tryz.prog 202 #[.slice p len cap, .func (.func 203) #[] #[]] w fun e w' => ∃ r, e = .returned (.bool r) ∧ (r = true ↔ Pg.Ord l) ∧ Below w.heap.size w w' := by
  have eg : ∀ args w, (callFunc 203 args).run Tryz.prog w = .ok (.enter 203 args) w := enters_of Tryz.func203 (by kernel_rfl) rfl
  have HX : Hid (Ens w p l) := hx
  have HL : Hid (l.length = len) := hlen
  clear hx hlen
  go_enter Tryz.func202, Tryz.ntmps202
  go_wp2_with fail
  go_loopw [5] (fun iv wr => Hid (Below w.heap.size w wr) ∧ ((len = 0 ∧ iv = .int .i64 (-1)) ∨ ∃ k : Nat, iv = .int .i64 k ∧ k + 1 ≤ len ∧ Hid (∀ i a b, k ≤ i → l[i]? = some a → l[i + 1]? = some b → Ky.lt b.key a.key = false))) (fun iv _ => (intOf iv).toNat)
  case atStart =>
    refine ⟨Below.refl _ _, ?_⟩
    by_cases h0 : len = 0
    · exact .inl ⟨h0, by subst h0; rfl⟩
    · refine .inr ⟨len - 1, by congr 1; omega, by omega, fun i a b hi ha hb => ?_⟩
      have := (List.getElem?_eq_some_iff.1 hb).1
      have := HL.out
      omega
  case round =>
    obtain ⟨HW, ⟨h0, rfl⟩ | ⟨k, rfl, hk, HA⟩⟩ := hrel
    · have HO : Hid (Pg.Ord l) := fun i a b ha hb => by
        have := (List.getElem?_eq_some_iff.1 ha).1
        have := HL.out
        omega
      go_wp2
      go_ret
      exact ⟨true, rfl, by simp [HO.out], HW.out⟩
    · cases k with
      | zero =>
        have HO : Hid (Pg.Ord l) := fun i a b ha hb => HA.out i a b (Nat.zero_le _) ha hb
        go_wp2
        go_ret
        exact ⟨true, rfl, by simp [HO.out], HW.out⟩
      | succ i =>
        obtain ⟨b, o, x, rfl, hgx, -, c0, c1, c2, c3⟩ := (HX.out.below HW.out (Nat.le_refl _)).at (j := i + 1) (by have := HL.out; omega)
        obtain ⟨_, _, y, hpy, hgy, -, d0, d1, d2, d3⟩ := (HX.out.below HW.out (Nat.le_refl _)).at (j := i) (by have := HL.out; omega)
        cases hpy
        have HN : Hid (Ky.lt x.key y.key = false → ∀ j a b, i ≤ j → l[j]? = some a → l[j + 1]? = some b → Ky.lt b.key a.key = false) := by
          intro hf j a b hj ha hb
          by_cases hji : j = i
          · subst hji
            rw [hgy] at ha
            rw [hgx] at hb
            cases ha
            cases hb
            exact hf
          · exact HA.out j a b (by omega) ha hb
        have HY : Hid (Ky.lt x.key y.key = true → ¬ Pg.Ord l) := fun ht ho => by
          have := ho i y x hgy hgx
          rw [ht] at this
          cases this
        have k0 := cell_regrown c0
        have k1 := cell_regrown c1
        have k2 := cell_regrown c2
        have k3 := cell_regrown c3
        have m0 := cell_regrown d0
        have m1 := cell_regrown d1
        have m2 := cell_regrown d2
        have m3 := cell_regrown d3
        obtain ⟨xk, xs, xg, xc⟩ := x
        obtain ⟨yk, ys, yg, yc⟩ := y
        simp only at *
        have hc := fun d os => cmp1_any ⟨xk, xs, xg, xc⟩ ⟨yk, ys, yg, yc⟩ (grow (redrawn wr d) os)
        have hcl := Ky.cmp_lt xk yk
        have hi0 : (0 : Int) < (i : Int) + 1 := by omega
        have hi1 : (i : Int) < (len : Int) := by omega
        have hi2 : (i : Int) + 1 < (len : Int) := by omega
        have hj0 : (0 : Int) ≤ (i : Int) := by omega
        have hib : i + 1 ≤ 4611686018427387904 := by omega
        clear hgx hgy c0 c1 c2 c3 d0 d1 d2 d3 HA
        cases hq : Ky.lt xk yk with
        | true =>
          have HF := HY.out hq
          have HF : Hid (¬ Pg.Ord l) := HF
          rw [hq] at hcl
          have cC : ∀ d os, Calls Tryz.prog 203 #[.agg #[.string xk, .int .i64 xs, .int .i64 xg, .int .i64 xc], .agg #[.string yk, .int .i64 ys, .int .i64 yg, .int .i64 yc]] (grow (redrawn wr d) os) fun e w'' => e = .returned (.int .i64 (-1)) ∧ ∃ p : Regrown, w'' = grow (redrawn wr p.d) p.os := fun d os => Calls.regrown_of (by have := hc d os; rw [show Ky.cmp xk yk = -1 from hcl] at this; exact this)
          clear hc hcl HN HY hq
          go_wp2_with fail
          refine wp_region_quiet_below (by kernel_rfl) (by kernel_rfl) ?_
          repeat (go_big_quiet_step (first | (go_at_fn 203; exact cC _ _)))
          refine wpQuiet_nil ?_
          intro _ hw'
          obtain ⟨⟨dq, osq⟩, hw''⟩ := hw'
          subst hw''
          have HB : Hid (Below w.heap.size w (grow (redrawn wr dq) osq)) := HW.out.trans ((below_regrown wr dq osq).mono HW.out.size)
          go_wp2
          go_ret
          exact ⟨false, rfl, by simp [HF.out], HB.out⟩
        | false =>
          have HA2 := HN.out hq
          have HA2 : Hid (∀ j a b, i ≤ j → l[j]? = some a → l[j + 1]? = some b → Ky.lt b.key a.key = false) := HA2
          rw [hq] at hcl
          obtain ⟨cv, hcv, hcn⟩ : ∃ cv : Int, Ky.cmp xk yk = cv ∧ ¬ cv < 0 := ⟨_, rfl, by rw [hcl]; simp; split <;> decide⟩
          have cC : ∀ d os, Calls Tryz.prog 203 #[.agg #[.string xk, .int .i64 xs, .int .i64 xg, .int .i64 xc], .agg #[.string yk, .int .i64 ys, .int .i64 yg, .int .i64 yc]] (grow (redrawn wr d) os) fun e w'' => e = .returned (.int .i64 cv) ∧ ∃ p : Regrown, w'' = grow (redrawn wr p.d) p.os := fun d os => Calls.regrown_of (by have := hc d os; rw [show Ky.cmp xk yk = cv from hcv] at this; exact this)
          have hcd : decide (cv < 0) = false := decide_eq_false hcn
          clear hc hcl HN HY hq hcv
          go_wp2_with fail
          refine wp_region_quiet_below (by kernel_rfl) (by kernel_rfl) ?_
          repeat (go_big_quiet_step (first | (go_at_fn 203; exact cC _ _)))
          refine wpQuiet_nil ?_
          intro _ hw'
          obtain ⟨⟨dq, osq⟩, hw''⟩ := hw'
          subst hw''
          have HB : Hid (Below w.heap.size w (grow (redrawn wr dq) osq)) := HW.out.trans ((below_regrown wr dq osq).mono HW.out.size)
          go_wp2
          go_roundw
          case rel => exact ⟨HB, .inr ⟨i, by go_num, by omega, HA2⟩⟩
          case measure => simp [intOf]

theorem inOrder_any (p : Option Addr) (len cap : Nat) (l : List En) (w : World) (hlen : l.length = len) (hx : Ens w p l) (hl : len ≤ 4398046511104) :
    Calls Tryz.prog 174 #[.slice p len cap] w fun e w' => ∃ r, e = .returned (.bool r) ∧ (r = true ↔ Pg.Ord l) ∧ Below w.heap.size w w' := by
  go_enter Tryz.func174, Tryz.ntmps174
  go_wp2_with fail
  refine (sorted_any p len cap l _ hlen hx hl).mono ?_
  rintro e w1 ⟨r, rfl, hr, hb⟩
  have HR : Hid (r = true ↔ Pg.Ord l) := hr
  have HB : Hid (Below w.heap.size w w1) := hb
  clear hr hb
  go_wp2
  go_ret
  exact ⟨r, rfl, HR.out, HB.out⟩

/-- A test of entries that lays memory of its own alone. -/
def TstE (g : Nat) (lb : Array Value) (pr : En → Bool) (w : World) : Prop :=
  ∀ (W : World) (x : En), Below w.heap.size w W → Calls Tryz.prog g (#[x.val] ++ lb) W fun e w' => e = .returned (.bool (pr x)) ∧ Below W.heap.size W w'

/-- Where the first one stands that meets a test, or -1. -/
def Pg.idx (pr : En → Bool) (l : List En) : Int := if l.any pr then (l.findIdx pr : Nat) else -1

theorem Pg.idx_hit {pr : En → Bool} {l : List En} {k : Nat} {g : En} (hg : l[k]? = some g) (h : pr g = true) (hb : ∀ j x, j < k → l[j]? = some x → pr x = false) : Pg.idx pr l = k := by
  obtain ⟨hk, rfl⟩ := List.getElem?_eq_some_iff.1 hg
  unfold Pg.idx
  rw [if_pos (List.any_eq_true.2 ⟨_, List.getElem_mem hk, h⟩)]
  rw [(List.findIdx_eq hk).2 ⟨h, fun j hj => hb j _ hj (List.getElem?_eq_getElem (by omega))⟩]

theorem Pg.any_miss {pr : En → Bool} {l : List En} (hb : ∀ j x, j < l.length → l[j]? = some x → pr x = false) : l.any pr = false := by
  rw [List.any_eq_false]
  intro x hx
  obtain ⟨j, hj, rfl⟩ := List.getElem_of_mem hx
  rw [hb j _ hj (List.getElem?_eq_getElem hj)]
  simp

set_option maxHeartbeats 800000 in
theorem idxE_any (g : Nat) (lb : Array Value) (pr : En → Bool) (eg : ∀ args w, (callFunc g args).run Tryz.prog w = .ok (.enter g args) w) (p : Option Addr) (len cap : Nat) (l : List En) (w : World) (hp : TstE g lb pr w)
    (hlen : l.length = len) (hx : Ens w p l) (hl : len ≤ 4611686018427387904) :
    Calls Tryz.prog 179 #[.slice p len cap, .func (.func g) #[] lb] w fun e w' => e = .returned (.int .i64 (Pg.idx pr l)) ∧ Below w.heap.size w w' := by
  have HX : Hid (Ens w p l) := hx
  have HL : Hid (l.length = len) := hlen
  have HP : Hid (TstE g lb pr w) := hp
  clear hx hlen hp
  go_enter Tryz.func179, Tryz.ntmps179
  go_wp2_with fail
  go_loopw [8] (fun i wr => ∃ k : Nat, k ≤ len ∧ i = .int .i64 k ∧ Hid (Below w.heap.size w wr) ∧ Hid (∀ j x, j < k → l[j]? = some x → pr x = false)) (fun i _ => len - (intOf i).toNat)
  case atStart => exact ⟨0, Nat.zero_le _, rfl, Below.refl _ _, fun j x hj => absurd hj (Nat.not_lt_zero _)⟩
  case round =>
    obtain ⟨k, hk, rfl, HW, HA⟩ := hrel
    by_cases hlt : k < len
    · have hli : (k : Int) < (len : Int) := by omega
      obtain ⟨b, o, x, rfl, hg, hblt, c0, c1, c2, c3⟩ := (HX.out.below HW.out (Nat.le_refl _)).at (j := k) (by have := HL.out; omega)
      have hcall := HP.out wr x HW.out
      have HG : Hid (l[k]? = some x) := hg
      clear hg
      cases hq : pr x with
      | true =>
        rw [hq] at hcall
        have HI : Hid (Pg.idx pr l = k) := Pg.idx_hit HG.out hq HA.out
        go_wp2_with (go_at_fn g; refine hcall.mono ?_; rintro e w' ⟨rfl, hb'⟩)
        go_ret
        exact ⟨by rw [HI.out]; rfl, HW.out.trans (hb'.mono HW.out.size)⟩
      | false =>
        rw [hq] at hcall
        go_wp2_with (go_at_fn g; refine hcall.mono ?_; rintro e w' ⟨rfl, hb'⟩)
        go_roundw
        case rel =>
          refine ⟨k + 1, by omega, by go_num, HW.out.trans (hb'.mono HW.out.size), fun j y hj hy => ?_⟩
          by_cases e : j = k
          · subst e
            rw [HG.out] at hy
            cases hy
            exact hq
          · exact HA.out j y (by omega) hy
        case measure => simp [intOf]; omega
    · have hkk : k = len := by omega
      have hli : ¬ ((k : Int) < (len : Int)) := by omega
      have HI : Hid (Pg.idx pr l = -1) := by
        unfold Hid Pg.idx
        rw [Pg.any_miss (fun j x hj => HA.out j x (by have := HL.out; omega))]
        rfl
      go_wp2
      go_ret
      exact ⟨by rw [HI.out]; rfl, HW.out⟩

end Go.Proofs.YtoehlgigidgfpaaGreat
