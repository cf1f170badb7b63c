/- slices.Backward over entries, each round told what it is handed; what link makes, as plain data. -/
import Derived.Test.YtlcbideongbmeaaGreatPgBw
import Derived.Test.YtlcbideongbmeaaGreatRgP
import Derived.Test.YtlcbideongbmeaaGreatDrQ
namespace Go.Proofs.YtlcbideongbmeaaGreat
open Go.RowKit Go.Shelf Go.Sort
attribute [local go_sem] Oper.semAt_some
set_option linter.unusedVariables false
set_option maxRecDepth 100000

set_option maxHeartbeats 2000000 in
theorem backE_in (l b : Nat) (S : List Nat) (L : List En) (J Jx : List (Nat × En) → World → Prop) (Jp : List PanicEntry → List (Nat × En) → World → Prop)
    (hY : ∀ pre x W, J pre W → pre ++ [x] <+: Pg.bw L → YieldAt Fence.wide 7 Tryz.prog l (encB x) W fun r W' =>
      (r = .returned (.bool true) ∧ J (pre ++ [x]) W' ∧ KpP S W W') ∨ (r = .returned (.bool false) ∧ Jx (pre ++ [x]) W') ∨ (∃ chain, r = .panicked chain ∧ Jp chain (pre ++ [x]) W'))
    (W : World) (hL : Fm W b S L) (h0 : J [] W) :
    CallsIn Fence.wide 8 Tryz.prog 142 #[.func (.yield l) #[] #[], .pointer (some ⟨b, 0, none⟩)] W fun r W' => ((∃ v, r = .returned v) ∧
      ((∃ ys, ys = Pg.bw L ∧ J ys W') ∨ (∃ pre, pre <+: Pg.bw L ∧ Jx pre W'))) ∨ ∃ chain pre, r = .panicked chain ∧ pre <+: Pg.bw L ∧ Jp chain pre W' := by
  refine callsIn_of_wp Tryz.func142 rfl trivial ?_ rfl
  simp only [Tryz.ntmps142, List.size_toArray, List.length_cons, List.length_nil, Nat.reduceAdd, Nat.reduceSub, Array.replicate_succ, Array.replicate_zero, List.push_toArray, List.append_toArray, List.nil_append, List.cons_append]
  obtain ⟨p, c, k1, r1, s1⟩ := hL.ex
  obtain ⟨len, hlen⟩ : ∃ len, L.length = len := ⟨_, rfl⟩
  have hreach := hL.reach
  have HR : Hid (∀ W', KpP S W W' → ∀ j x, L[j]? = some x → ∃ g o, p = some ⟨g, o, none⟩ ∧ W'.cell? ⟨g, o + j * 4, none⟩ = some (.string x.key) ∧ W'.cell? ⟨g, o + j * 4 + 1, none⟩ = some (.int .i64 x.s) ∧ W'.cell? ⟨g, o + j * 4 + 2, none⟩ = some (.int .i64 x.g) ∧ W'.cell? ⟨g, o + j * 4 + 3, none⟩ = some (.int .i64 x.c)) := fun W' hk j x hx => by
    have hj : j < L.length := (List.getElem?_eq_some_iff.1 hx).1
    obtain ⟨g, o, e, rfl, he, -, h⟩ := (r1.kp hk (s1 (by omega))).at hj
    rw [hx] at he
    cases he
    exact ⟨g, o, rfl, h⟩
  rw [hlen] at hreach k1
  have HL : Hid (L.length = len) := hlen
  have HY : Hid _ := hY
  have HBX : Hid (∀ W', KpP S W W' → W'.cell? ⟨b, 0, none⟩ = some (.slice p len c)) := fun W' hk => (hk.bk k1 hL.h1).cell 0
  have hbx := HBX.out W (KpP.refl _ _)
  clear hlen hY hL k1 r1 s1
  gi_wp2
  gi_loopw [3] (fun i wr => ∃ k : Nat, k ≤ len ∧ i = .int .i64 ((k : Int) - 1) ∧ J ((Pg.bw L).take (len - k)) wr ∧ KpP S W wr) (fun i _ => (intOf i + 1).toNat)
  case atStart => exact ⟨len, Nat.le_refl _, by go_num, by simpa using h0, KpP.refl _ _⟩
  case round =>
    obtain ⟨k', hk, rfl, hJs, hK⟩ := hrel
    cases k' with
    | succ k =>
      rw [show ((k + 1 : Nat) : Int) - 1 = (k : Int) by omega]
      have hkL : k < L.length := by rw [HL.out]; omega
      obtain ⟨x, hx⟩ : ∃ x, L[k]? = some x := ⟨_, List.getElem?_eq_getElem hkL⟩
      have hli : (k : Int) < (len : Int) := by omega
      have hk0 : (0 : Int) ≤ (k : Int) := by omega
      have hb0 := HBX.out wr hK
      obtain ⟨g, o, rfl, z0, z1, z2, z3⟩ := HR.out wr hK k x hx
      have hbw := Pg.bw_at hkL hx
      rw [HL.out, show len - 1 - k = len - (k + 1) by omega] at hbw
      have HT : Hid ((Pg.bw L).take (len - k) = (Pg.bw L).take (len - (k + 1)) ++ [(k, x)]) := by
        rw [Hid, show len - k = len - (k + 1) + 1 by omega]
        exact take_snoc hbw
      obtain ⟨fn, tmps, assign, body, hy, hR⟩ := HY.out ((Pg.bw L).take (len - (k + 1))) (k, x) wr hJs (by rw [← HT.out]; exact List.take_prefix _ _)
      simp only [encB, En.val] at hy
      clear hx hbw
      gi_wp2
      refine hR.mono ?_
      rintro e W4 (⟨rfl, hJ4, hk4⟩ | ⟨rfl, hJx4⟩ | ⟨chain, rfl, hJp4⟩)
      · gi_wp2
        go_roundw
        case rel => exact ⟨k, by omega, by go_num, by rw [HT.out]; exact hJ4, hK.t hk4⟩
        case measure => simp [intOf]
      · gi_wp2
        refine bodyPost_ret (results_none rfl _ _ _) rfl ?_
        exact .inl ⟨⟨_, rfl⟩, .inr ⟨_, by rw [← HT.out]; exact List.take_prefix _ _, hJx4⟩⟩
      · refine ⟨rfl, ?_⟩
        exact .inr ⟨chain, _, rfl, by rw [← HT.out]; exact List.take_prefix _ _, hJp4⟩
    | zero =>
      rw [show ((0 : Nat) : Int) - 1 = -1 by omega]
      gi_wp2
      go_end0
      refine .inl ⟨⟨_, rfl⟩, .inl ⟨_, rfl, ?_⟩⟩
      rw [List.take_of_length_le (by rw [Pg.bw_len, HL.out]; exact Nat.le_refl _)] at hJs
      exact hJs

theorem backE_stops {w : World} {b : Nat} {S : List Nat} {L : List En} (hL : Fm w b S L) :
    SeqStopsP 8 Tryz.prog 142 #[.pointer (some ⟨b, 0, none⟩)] encB (KpP S) (fun ys => ys = Pg.bw L) (fun pre => pre <+: Pg.bw L) w := fun l J Jx Jp W hW hY h0 =>
  backE_in l b S L J Jx Jp hY W (hL.kp (KpP.of_below hW hL.lt)) h0

namespace Dr
/-- The first place from j on with a key's number. -/
def fsAt (kn : List Nat) (j n : Nat) : Nat := j + (kn.drop j).findIdx fun k => k == n

theorem fsAt_step {kn : List Nat} {j n : Nat} (hj : j < kn.length) : fsAt kn j n = if kn.getD j 0 = n then j else fsAt kn (j + 1) n := by
  unfold fsAt
  rw [List.drop_eq_getElem_cons hj, List.findIdx_cons]
  have : kn.getD j 0 = kn[j] := by simp [List.getD, hj]
  rw [this]
  by_cases h : kn[j] = n
  · simp [h]
  · rw [if_neg h]
    have : (kn[j] == n) = false := by simp [h]
    rw [this]
    simp only [cond_false]
    omega

theorem fsAt_le (kn : List Nat) (j n : Nat) (hj : j ≤ kn.length) : fsAt kn j n ≤ kn.length := by
  unfold fsAt
  have := List.findIdx_le_length (p := fun k => k == n) (xs := kn.drop j)
  rw [List.length_drop] at this
  omega

theorem fsAt_key {kn : List Nat} {j n : Nat} (h : fsAt kn j n < kn.length) : kn.getD (fsAt kn j n) 0 = n := by
  have hlt : (kn.drop j).findIdx (fun k => k == n) < (kn.drop j).length := by
    unfold fsAt at h
    rw [List.length_drop]; omega
  have := List.findIdx_getElem (p := fun k => k == n) (xs := kn.drop j) (w := hlt)
  rw [List.getElem_drop] at this
  unfold fsAt at h ⊢
  simp only [List.getD, List.getElem?_eq_getElem h, Option.getD_some]
  simpa using this

theorem fsAt_min {kn : List Nat} {j n b : Nat} (hj : j ≤ b) (hb : b < fsAt kn j n) (hl : b < kn.length) : kn.getD b 0 ≠ n := by
  unfold fsAt at hb
  have hlt : b - j < (kn.drop j).findIdx (fun k => k == n) := by omega
  have := List.not_of_lt_findIdx hlt
  rw [List.getElem_drop] at this
  simp only [show j + (b - j) = b by omega] at this
  simp only [List.getD, List.getElem?_eq_getElem hl, Option.getD_some]
  simpa using this

def nxOf (kn : List Nat) : List Nat := (List.range kn.length).map fun a => fsAt kn (a + 1) (kn.getD a 0)
def fsOf (kn : List Nat) (K j : Nat) : List Nat := (List.range K).map (fsAt kn j)
/-- A row that is filled from behind. -/
def upFrom (l : List Nat) (j : Nat) : List Nat := List.replicate j 0 ++ l.drop j

theorem upFrom_len (l : List Nat) (j : Nat) (h : j ≤ l.length) : (upFrom l j).length = l.length := by simp [upFrom]; omega
theorem upFrom_step {l : List Nat} {j : Nat} (h : j < l.length) : (upFrom l (j + 1)).set j (l.getD j 0) = upFrom l j := by
  unfold upFrom
  rw [List.drop_eq_getElem_cons h, List.replicate_succ', List.append_assoc, List.set_append_right _ _ (by simp)]
  simp [List.getD, h]
theorem fsOf_step {kn : List Nat} {K j : Nat} (hj : j < kn.length) (hn : kn.getD j 0 < K) : (fsOf kn K (j + 1)).set (kn.getD j 0) j = fsOf kn K j := by
  apply List.ext_getElem?
  intro m
  unfold fsOf
  by_cases hm : m < K
  · by_cases he : kn.getD j 0 = m
    · subst he
      rw [List.getElem?_set_self (by simpa using hn), List.getElem?_map, List.getElem?_range hm, Option.map_some, fsAt_step hj, if_pos rfl]
    · rw [List.getElem?_set_ne he, List.getElem?_map, List.getElem?_map, List.getElem?_range hm, Option.map_some, Option.map_some, fsAt_step hj, if_neg he]
  · rw [List.getElem?_eq_none (by simp; omega), List.getElem?_eq_none (by simp; omega)]

theorem nxOf_at {kn : List Nat} {a : Nat} (h : a < kn.length) : (nxOf kn).getD a 0 = fsAt kn (a + 1) (kn.getD a 0) := by
  simp [nxOf, List.getD, h]
theorem fsOf_at {kn : List Nat} {K j n : Nat} (h : n < K) : (fsOf kn K j).getD n 0 = fsAt kn j n := by
  simp [fsOf, List.getD, h]

/-- The keys' numbers of a row. -/
def knOf (ks : List (List UInt8)) (row : List En) : List Nat := row.map fun e => num ks e.key
def fx0 (ks : List (List UInt8)) (row : List En) : Fx := ⟨ks.length, row.length, knOf ks row, nxOf (knOf ks row)⟩
def df0 (ks : List (List UInt8)) (row : List En) : Df := ⟨0, row, fsOf (knOf ks row) ks.length 0, List.replicate ks.length En.zero, List.replicate ks.length 0, fun _ => false⟩

theorem knOf_len (ks : List (List UInt8)) (row : List En) : (knOf ks row).length = row.length := by simp [knOf]
theorem knOf_at {ks : List (List UInt8)} {row : List En} {a : Nat} (h : a < row.length) : (knOf ks row).getD a 0 = num ks (row.getD a En.zero).key := by
  simp [knOf, List.getD, h]

theorem inv0 {ks : List (List UInt8)} {row : List En} (hr : Rise ks) (hk : ∀ e ∈ row, kw ks e.key) : Inv (fx0 ks row) (num ks) (kw ks) (df0 ks row) := by
  have hl := knOf_len ks row
  have hkr : ∀ a, a < row.length → kw ks (row.getD a En.zero).key := fun a ha => by
    simp only [List.getD, List.getElem?_eq_getElem ha, Option.getD_some]
    exact hk _ (List.getElem_mem ha)
  have hlt : ∀ a, a < row.length → (knOf ks row).getD a 0 < ks.length := fun a ha => by
    rw [knOf_at ha]
    exact (num_nu hr).lt _ (hkr a ha)
  refine ⟨⟨hl, by simp [fx0, nxOf, hl], hlt, fun a ha => ?_, fun a ha => ?_, fun a ha h1 => ?_, fun a b ha h1 h2 => ?_⟩, num_nu hr, rfl, by simp [df0, fsOf, fx0], by simp [df0, fx0], by simp [df0, fx0], Nat.zero_le _, fun n h => (by cases h), fun m n h => (by cases h), fun m a h => (by cases h), fun n hn => ?_, fun n hn h1 => ?_, fun a h1 h2 => ?_, fun a ha => ?_, fun n h => (by cases h)⟩
  · show a < (nxOf (knOf ks row)).getD a 0
    rw [nxOf_at (by rw [hl]; exact ha)]
    unfold fsAt; omega
  · show (nxOf (knOf ks row)).getD a 0 ≤ row.length
    rw [nxOf_at (by rw [hl]; exact ha), ← hl]
    exact fsAt_le _ _ _ (by rw [hl]; exact ha)
  · show (knOf ks row).getD ((nxOf (knOf ks row)).getD a 0) 0 = (knOf ks row).getD a 0
    have h3 : (nxOf (knOf ks row)).getD a 0 < row.length := h1
    rw [nxOf_at (by rw [hl]; exact ha)] at h3 ⊢
    exact fsAt_key (by rw [hl]; exact h3)
  · show (knOf ks row).getD b 0 ≠ (knOf ks row).getD a 0
    have h3 : b < (nxOf (knOf ks row)).getD a 0 := h2
    rw [nxOf_at (by rw [hl]; exact ha)] at h3
    have h4 := fsAt_le (knOf ks row) (a + 1) ((knOf ks row).getD a 0) (by rw [hl]; exact ha)
    exact fsAt_min (by omega) h3 (by omega)
  · show (fsOf (knOf ks row) ks.length 0).getD n 0 ≤ row.length
    rw [fsOf_at (show n < ks.length from hn), ← hl]
    exact fsAt_le _ _ _ (Nat.zero_le _)
  · show (knOf ks row).getD ((fsOf (knOf ks row) ks.length 0).getD n 0) 0 = n
    have h3 : (fsOf (knOf ks row) ks.length 0).getD n 0 < row.length := h1
    rw [fsOf_at (show n < ks.length from hn)] at h3 ⊢
    exact fsAt_key (by rw [hl]; exact h3)
  · show (fsOf (knOf ks row) ks.length 0).getD ((knOf ks row).getD a 0) 0 ≤ a
    rw [fsOf_at (hlt a h2)]
    by_cases hc : fsAt (knOf ks row) 0 ((knOf ks row).getD a 0) ≤ a
    · exact hc
    · have hmin := fsAt_min (kn := knOf ks row) (j := 0) (n := (knOf ks row).getD a 0) (b := a) (Nat.zero_le _) (by omega) (by rw [hl]; exact h2)
      exact absurd rfl hmin
  · exact ⟨hkr a ha, (knOf_at ha).symm⟩

theorem view0 (ks : List (List UInt8)) (row : List En) : view (fx0 ks row) (df0 ks row) = [] := by
  unfold view top
  rw [List.filterMap_eq_nil_iff]
  intro d hd
  cases hv : val (fx0 ks row) (df0 ks row) d with
  | none => rfl
  | some x =>
    rcases val_some hv with ⟨a, _, ht, _⟩ | ⟨n, _, _, hs, _⟩
    · unfold th at ht
      simp [df0] at ht
    · cases hs
end Dr
end Go.Proofs.YtlcbideongbmeaaGreat
