/- An image's pairs are such that their chunks may be put together again: plain facts. -/
import Derived.Test.YtcoibnlecdemcaaImB
import Derived.Test.YtcoibnlecdemcaaImCf
import Derived.Test.YtcoibnlecdemcaaImCp
namespace Go.Proofs.Ytcoibnlecdemcaa
set_option linter.unusedVariables false
set_option maxRecDepth 100000

namespace Gd
/-- A pair that a record may have. -/
def pr (x : St) : Prop := Rk.Rc.pairE x.key x.val = 0 ∧ 1 ≤ x.ts ∧ x.ts ≤ 1099511627776
/-- Keys that rise. -/
def up (l : List St) : Prop := ∀ (i : Nat) x y, l[i]? = some x → l[i + 1]? = some y → Rk.Rc.le y.key x.key = false
end Gd

/-- What an image has. -/
structure Good (m : Im) : Prop where
  pr : ∀ x ∈ m.list, Gd.pr x
  up : Gd.up m.list
  last : ∀ x, m.list.getLast? = some x → Rk.Rc.le x.key m.last = true
  len : m.list.length ≤ 65536

theorem Good.new (ts : Int) : Good ⟨ts, ⟨#[]⟩, []⟩ := ⟨(fun x h => by cases h), (fun i x y h => by simp at h), (fun x h => by simp at h), Nat.zero_le _⟩

theorem Rk.Rc.le_lt (a b : ByteArray) : Rk.Rc.le a b = !Ky.lt b a := by
  unfold Rk.Rc.le
  show (Ky.lt a b || a.toList == b.toList) = _
  cases h1 : Ky.lt a b with
  | true =>
    cases h2 : Ky.lt b a with
    | true => have := Ky.lt_trans h1 h2; rw [Ky.lt_irrefl] at this; cases this
    | false => rfl
  | false =>
    cases h2 : Ky.lt b a with
    | true =>
      have : (a.toList == b.toList) = false := by
        simp only [beq_eq_false_iff_ne, ne_eq]
        intro e
        have := Ky.toList_inj e
        rw [this, Ky.lt_irrefl] at h2
        cases h2
      rw [this]; rfl
    | false =>
      have := Ky.lt_total h1 h2
      rw [this]
      simp

theorem Vr.chk_fits : ∀ (l : List Vs) (a : Int), Vr.chk a l = 0 → ∀ v ∈ l, Vr.fits v = true
  | [], _, _, v, h => by cases h
  | x :: r, a, h, v, hv => by
    unfold Vr.chk at h
    cases hf : Vr.fits x && decide (x.ts < a) with
    | false => rw [hf] at h; simp at h
    | true =>
      rw [hf] at h
      simp only [if_true] at h
      simp only [Bool.and_eq_true] at hf
      rcases List.mem_cons.1 hv with rfl | hv
      · exact hf.1
      · exact Vr.chk_fits r _ h v hv

theorem Good.added {m : Im} (h : Good m) (k : ByteArray) (l : List Vs) : Good (m.added k l) := by
  unfold Im.added
  by_cases h0 : m.addE k l = 0
  · rw [if_pos h0]
    have hm : m.mayE k l = 0 := by
      unfold Im.addE at h0
      split at h0
      · assumption
      · exact h0
    have hk : Rk.Rc.keyE k = 0 := by
      unfold Im.mayE at hm
      split at hm
      · assumption
      · exact hm
    have hl : Rk.Rc.le k m.last = false ∧ Vr.check l = 0 := by
      unfold Im.mayE at hm
      rw [if_pos hk] at hm
      split at hm
      · omega
      · rename_i h1
        exact ⟨by simpa using h1, hm⟩
    have hle : ∀ x, m.list.getLast? = some x → Rk.Rc.le x.key k = true ∧ Rk.Rc.le k x.key = false := fun x hx => by
      have h1 := h.last x hx
      have h2 := hl.1
      rw [Rk.Rc.le_lt] at h1 h2 ⊢
      simp only [Bool.not_eq_true', Bool.not_eq_false'] at h1 h2
      have h3 : Ky.lt x.key k = true := by
        cases e : Ky.lt x.key m.last with
        | true => exact Ky.lt_trans e h2
        | false => rw [Ky.lt_total e h1]; exact h2
      refine ⟨?_, by rw [Rk.Rc.le_lt, h3]; rfl⟩
      cases e : Ky.lt k x.key with
      | true => have := Ky.lt_trans h3 e; rw [Ky.lt_irrefl] at this; cases this
      | false => rfl
    cases hs : m.sees l with
    | none => exact ⟨h.pr, h.up, fun x hx => (hle x hx).1, h.len⟩
    | some v =>
      have hv : v ∈ l ∧ v.del = false := by
        unfold Im.sees at hs
        cases ha : Vr.at? l m.ts with
        | none => rw [ha] at hs; cases hs
        | some u =>
          rw [ha] at hs
          cases hd : u.del with
          | true => simp [hd] at hs
          | false =>
            simp [hd] at hs
            subst hs
            exact ⟨List.mem_of_find?_eq_some ha, hd⟩
      have hlen : m.list.length < 65536 := by
        unfold Im.addE at h0
        rw [if_pos hm, hs] at h0
        by_cases h1 : 65536 ≤ m.list.length
        · rw [if_pos ⟨rfl, h1⟩] at h0
          omega
        · omega
      have hc : Vr.chk 1099511627777 l = 0 := by
        have := hl.2
        unfold Vr.check at this
        split at this
        · omega
        · exact this
      have hf := Vr.chk_fits l _ hc v hv.1
      unfold Vr.fits at hf
      simp only [Bool.and_eq_true, decide_eq_true_eq] at hf
      refine ⟨fun x hx => ?_, fun i x y hx hy => ?_, fun x hx => ?_, by simp; omega⟩
      · rcases List.mem_append.1 hx with hx | hx
        · exact h.pr x hx
        · simp at hx
          subst hx
          refine ⟨?_, hf.1, hf.2.1⟩
          unfold Rk.Rc.pairE Rk.Rc.valE
          rw [if_pos hk, if_neg (show ¬ 256 < v.val.size by omega)]
      · by_cases hi : i + 1 < m.list.length
        · rw [List.getElem?_append_left (by omega)] at hx
          rw [List.getElem?_append_left hi] at hy
          exact h.up i x y hx hy
        · have hyl := (List.getElem?_eq_some_iff.1 hy).1
          simp at hyl
          have e : i + 1 = m.list.length := by omega
          rw [List.getElem?_append_right (by omega), e] at hy
          simp at hy
          subst hy
          rw [List.getElem?_append_left (by omega)] at hx
          exact (hle x (by rw [List.getLast?_eq_getElem?, ← hx]; congr 1; omega)).2
      · simp at hx
        subst hx
        rw [Rk.Rc.le_lt, Ky.lt_irrefl]
        rfl
  · rw [if_neg h0]
    exact h

theorem Gd.sts_ok : ∀ (s : List St) (a : ByteArray), (∀ x ∈ s, Gd.pr x) → Gd.up s → (∀ x, s[0]? = some x → Rk.Rc.le x.key a = false) → Rk.Rc.stsE a s = 0
  | [], _, _, _, _ => rfl
  | x :: r, a, hp, hu, ha => by
    obtain ⟨h1, h2, h3⟩ := hp x (by simp)
    unfold Rk.Rc.stsE
    rw [if_pos h1, if_neg (by rw [ha x rfl]; simp; omega)]
    exact Gd.sts_ok r _ (fun y hy => hp y (by simp [hy])) (fun i u v hu1 hv1 => hu (i + 1) u v (by simpa using hu1) (by simpa using hv1)) (fun y hy => hu 0 x y rfl (by simpa using hy))

/-- The pairs of the chunk number i. -/
def Gd.part (L : List St) (i : Nat) : List St := (L.drop (16 * i)).take 16
theorem Gd.part_at {L : List St} {i j : Nat} (hj : j < 16) : (Gd.part L i)[j]? = L[16 * i + j]? := by
  unfold Gd.part
  rw [List.getElem?_take, if_pos hj, List.getElem?_drop]

theorem Good.step {m : Im} (h : Good m) {k : Nat} {x : Ck} (hk : k < Cc.nch m.list) (hx : x.num = (k : Int) ∧ x.last = decide (k + 1 = Cc.nch m.list)) : Bl.stepE (Cc.nch m.list) k (m.list.take (16 * k)) x (Gd.part m.list k) = 0 := by
  have hn : k ≤ 4095 := by have := h.len; unfold Cc.nch at hk; omega
  have hpr : ∀ y ∈ Gd.part m.list k, Gd.pr y := fun y hy => h.pr y (List.mem_of_mem_drop (List.mem_of_mem_take hy))
  have hlen : (Gd.part m.list k).length ≤ 16 := by unfold Gd.part; rw [List.length_take]; omega
  have hup : Gd.up (Gd.part m.list k) := fun i u v hu hv => by
    have hv1 := (List.getElem?_eq_some_iff.1 hv).1
    rw [Gd.part_at (by omega)] at hu hv
    exact h.up (16 * k + i) u v hu (by rw [← hv]; rfl)
  have hc : Rk.Rc.chE x.num (Gd.part m.list k) = 0 := by
    rw [hx.1, Rk.Rc.chE_good (by omega)]
    refine Gd.sts_ok _ _ hpr hup (fun y hy => Rk.Rc.le_empty ?_)
    have := (hpr y (List.mem_of_getElem? hy)).1
    exact Rk.Rc.keyE_ne (Rk.Rc.pairE_key this).1
  rw [Bl.step_ord hc hx]
  unfold Bl.ordE
  cases hs : Gd.part m.list k with
  | nil => rfl
  | cons a r =>
    have ha : m.list[16 * k]? = some a := by
      have := Gd.part_at (L := m.list) (i := k) (j := 0) (by omega)
      rw [hs] at this
      simpa using this.symm
    have hkl := (List.getElem?_eq_some_iff.1 ha).1
    simp only
    by_cases h0 : k = 0
    · subst h0
      rw [Nat.mul_zero, List.take_zero, Bl.above_nil]
      rfl
    · have hb : ∃ b, m.list[16 * k - 1]? = some b := ⟨_, List.getElem?_eq_getElem (by omega)⟩
      obtain ⟨b, hb⟩ := hb
      have hbt : (m.list.take (16 * k))[16 * k - 1]? = some b := by rw [List.getElem?_take, if_pos (by omega)]; exact hb
      rw [Bl.above_last (j := 16 * k - 1) (by rw [List.length_take]; omega) hbt, Bl.gt_le, h.up (16 * k - 1) b a hb (by rw [show 16 * k - 1 + 1 = 16 * k by omega]; exact ha)]
      rfl

/-- The chunks of an image, put together, are its pairs. -/
theorem Good.back {m : Im} (h : Good m) {l : List Ck} (hl : l.length = Cc.nch m.list) (hx : ∀ (k : Nat) x, l[k]? = some x → x.num = (k : Int) ∧ x.last = decide (k + 1 = Cc.nch m.list)) :
    Bl.res (fun x => Gd.part m.list x.num.toNat) l = (0, m.list) := by
  have run : ∀ n k, n + k = l.length → Bl.run (fun x => Gd.part m.list x.num.toNat) (Cc.nch m.list) k (m.list.take (16 * k)) (l.drop k) = (0, m.list) := by
    intro n
    induction n with
    | zero =>
      intro k hk
      rw [List.drop_eq_nil_of_le (by omega)]
      unfold Bl.run
      rw [List.take_of_length_le]
      rw [hl] at hk
      unfold Cc.nch at hk
      omega
    | succ n ih =>
      intro k hk
      have hkl : k < l.length := by omega
      obtain ⟨x, hxk⟩ : ∃ x, l[k]? = some x := ⟨_, List.getElem?_eq_getElem hkl⟩
      have hd : l.drop k = x :: l.drop (k + 1) := by
        rw [List.drop_eq_getElem_cons hkl]
        rw [List.getElem?_eq_getElem hkl] at hxk
        rw [Option.some.inj hxk]
      have hxx := hx k x hxk
      have hnum : x.num.toNat = k := by rw [hxx.1]; rfl
      rw [hd, Bl.run_ok (by simp only [hnum]; exact h.step (by omega) hxx)]
      simp only [hnum]
      rw [show m.list.take (16 * k) ++ Gd.part m.list k = m.list.take (16 * (k + 1)) by unfold Gd.part; rw [show 16 * (k + 1) = 16 * k + 16 by omega, List.take_add]]
      exact ih (k + 1) (by omega)
  unfold Bl.res
  rw [if_neg (by rw [hl]; unfold Cc.nch; omega), hl]
  have := run l.length 0 (by omega)
  simpa using this
end Go.Proofs.Ytcoibnlecdemcaa
