/- Ends held against each other; what ranges have in common; what covers (the code's). -/
import Derived.Test.YtgppnbcneknpdaaKyB
namespace Go.Proofs.Ytgppnbcneknpdaa
open Go.RowKit
set_option linter.unusedVariables false
set_option maxRecDepth 100000

theorem cmpStr_any (a b : ByteArray) (w : World) : Calls Try.prog 52 #[.string a, .string b] w fun e w' => e = .returned (.int .i64 (Ky.cmp a b)) ∧ w' = w := by
  go_enter Try.func52, Try.ntmps52
  go_wp2
  rw [run_callFunc_extern Try.func63 (by kernel_rfl) (by kernel_rfl) (by kernel_rfl) (e := Extern.BytealgCompare.compare) (by kernel_rfl), Lib.run_compareString]
  simp only [Result.andThen]
  rw [Oper.upon_value]
  go_wp2
  go_ret
  refine ⟨?_, rfl⟩
  unfold Ky.cmp
  rw [ByteArray.toList_eq, ByteArray.toList_eq]
  rfl

theorem compare_any (a b : ByteArray) (w : World) : Calls Try.prog 47 #[.string a, .string b] w fun e w' => e = .returned (.int .i64 (Ky.cmp a b)) ∧ w' = w := by
  go_enter Try.func47, Try.ntmps47
  go_wp2_with fail
  refine (cmpStr_any a b _).mono ?_
  rintro e w1 ⟨rfl, rfl⟩
  go_wp2
  go_ret
  exact ⟨rfl, rfl⟩

theorem ends_any (a b : ByteArray) (w : World) : Calls Try.prog 35 #[.string a, .string b] w fun e w' => e = .returned (.int .i64 (Ky.ends a b)) ∧ w' = w := by
  have HE : Hid (Ky.ends a b = if (!(a.toList.isEmpty == b.toList.isEmpty)) = true then Ky.cmp b a else Ky.cmp a b) := rfl
  cases h : (a.toList.isEmpty == b.toList.isEmpty) with
  | false =>
    rw [h, if_pos (by decide)] at HE
    go_enter Try.func35, Try.ntmps35
    go_wp2_with fail
    refine (compare_any b a _).mono ?_
    rintro e w1 ⟨rfl, rfl⟩
    go_wp2
    go_ret
    exact ⟨by rw [HE.out]; rfl, rfl⟩
  | true =>
    rw [h, if_neg (by decide)] at HE
    go_enter Try.func35, Try.ntmps35
    go_wp2_with fail
    refine (compare_any a b _).mono ?_
    rintro e w1 ⟨rfl, rfl⟩
    go_wp2
    go_ret
    exact ⟨by rw [HE.out]; rfl, rfl⟩

/-- Ranges that a slice leads to. -/
def Rgs (w : World) (p : Option Addr) (l : List Rg) : Prop :=
  0 < l.length → ∃ b o, p = some ⟨b, o, none⟩ ∧ ∀ (i : Nat) g, l[i]? = some g → w.cell? ⟨b, o + i * 2, none⟩ = some (.string g.lo) ∧ w.cell? ⟨b, o + i * 2 + 1, none⟩ = some (.string g.hi)

theorem Rgs.nil (w : World) (p : Option Addr) : Rgs w p [] := fun h => absurd h (Nat.lt_irrefl 0)

theorem Rgs.below {w w' : World} {p : Option Addr} {l : List Rg} (h : Rgs w p l) {B : Nat} (hb : Below B w w') (hB : w.heap.size ≤ B) : Rgs w' p l := by
  intro hl
  obtain ⟨b, o, rfl, hc⟩ := h hl
  refine ⟨b, o, rfl, fun i g hi => ?_⟩
  obtain ⟨h0, h1⟩ := hc i g hi
  rw [hb.cell (p := ⟨b, o + i * 2, none⟩) (Nat.lt_of_lt_of_le (World.block_lt_of_cell? w _ h0) hB), hb.cell (p := ⟨b, o + i * 2 + 1, none⟩) (Nat.lt_of_lt_of_le (World.block_lt_of_cell? w _ h1) hB)]
  exact ⟨h0, h1⟩

theorem Rgs.at {w : World} {p : Option Addr} {l : List Rg} (h : Rgs w p l) {j : Nat} (hj : j < l.length) : ∃ b o g, p = some ⟨b, o, none⟩ ∧ l[j]? = some g ∧ b < w.heap.size ∧ w.cell? ⟨b, o + j * 2, none⟩ = some (.string g.lo) ∧ w.cell? ⟨b, o + j * 2 + 1, none⟩ = some (.string g.hi) := by
  obtain ⟨b, o, rfl, hc⟩ := h (by omega)
  have hg := List.getElem?_eq_getElem hj
  have := hc j _ hg
  exact ⟨b, o, l[j], rfl, hg, World.block_lt_of_cell? w _ this.1, this⟩

theorem Ky.foldl_at {α : Type} (f : α → Rg → α) (a : α) {l : List Rg} {k : Nat} {g : Rg} (h : l[k]? = some g) : (l.take (k + 1)).foldl f a = f ((l.take k).foldl f a) g := by
  rw [List.take_add_one, h]
  simp

theorem Ky.maxS_most (a b : ByteArray) : Lib.maxS a b = Ky.most a b := by
  unfold Lib.maxS Ky.most Ky.lt
  rw [bytesLess_eq, ByteArray.toList_eq, ByteArray.toList_eq]
  simp

set_option maxHeartbeats 800000 in
theorem meet_any (p : Option Addr) (len cap : Nat) (l : List Rg) (w : World) (hlen : l.length = len) (hx : Rgs w p l) (hl : len ≤ 4611686018427387904) :
    Calls Try.prog 15 #[.slice p len cap] w fun e w' => e = .returned (Ky.meet l).val ∧ Below w.heap.size w w' := by
  obtain ⟨w1, hw1⟩ : ∃ w1, w1 = ((w.alloc (.cells #[.string ⟨#[]⟩, .string ⟨#[]⟩] 24)).alloc (.cells #[.string ⟨#[]⟩, .string ⟨#[]⟩] 24)) := ⟨_, rfl⟩
  have HB1 : Hid (Below w.heap.size w w1) := by rw [hw1]; exact ((Below.refl _ _).alloc (Nat.le_refl _) _).alloc (by simp) _
  have HK0 : Hid (Bk w1 w.heap.size 24 #[.string ⟨#[]⟩, .string ⟨#[]⟩]) := by rw [hw1]; exact (Bk.new _ _ _).alloc _
  have HK1 : Hid (Bk w1 (w.heap.size + 1) 24 #[.string ⟨#[]⟩, .string ⟨#[]⟩]) := by
    rw [hw1]
    have := Bk.new (w.alloc (.cells #[.string ⟨#[]⟩, .string ⟨#[]⟩] 24)) 24 #[.string ⟨#[]⟩, .string ⟨#[]⟩]
    simp at this
    exact this
  have HX : Hid (Rgs w p l) := hx
  have HL : Hid (l.length = len) := hlen
  clear hx hlen
  go_enter Try.func15, Try.ntmps15
  go_wp2_with fail
  rw [← hw1]
  clear hw1
  go_loopw [8] (fun i wr => ∃ (k : Nat) (m : Rg), k ≤ len ∧ i = .int .i64 k ∧ Hid (Below w.heap.size w wr) ∧ Hid (Bk wr w.heap.size 24 #[.string ⟨#[]⟩, .string ⟨#[]⟩]) ∧ Hid (Bk wr (w.heap.size + 1) 24 #[.string m.lo, .string m.hi]) ∧ Hid ((l.take k).foldl Ky.meet2 Ky.all = m)) (fun i _ => len - (intOf i).toNat)
  case atStart => exact ⟨0, Ky.all, Nat.zero_le _, rfl, HB1, HK0, HK1, rfl⟩
  case round =>
    obtain ⟨k, ⟨lo, hi⟩, hk, rfl, HW, HR, HM, HQ⟩ := hrel
    by_cases hlt : k < len
    · have hli : (k : Int) < (len : Int) := by omega
      obtain ⟨b, o, g, rfl, hg, hblt, c0, c1⟩ := (HX.out.below HW.out (Nat.le_refl _)).at (j := k) (by have := HL.out; omega)
      have HG : Hid ((l.take (k + 1)).foldl Ky.meet2 Ky.all = Ky.meet2 ⟨lo, hi⟩ g) := by unfold Hid; rw [Ky.foldl_at _ _ hg, HQ.out]
      obtain ⟨w5, hw5⟩ : ∃ w5, w5 = wr.alloc (.cells #[.string g.lo, .string g.hi] 24) := ⟨_, rfl⟩
      have HB5 : Hid (Below w.heap.size w w5) := by rw [hw5]; exact HW.out.alloc HW.out.size _
      have hr5 : Bk w5 w.heap.size 24 #[.string ⟨#[]⟩, .string ⟨#[]⟩] := by rw [hw5]; exact HR.out.alloc _
      have hm5 : Bk w5 (w.heap.size + 1) 24 #[.string lo, .string hi] := by rw [hw5]; exact HM.out.alloc _
      have hn5 : Bk w5 wr.heap.size 24 #[.string g.lo, .string g.hi] := by rw [hw5]; exact Bk.new _ _ _
      have a0 := hm5.cell 0
      have a1 := hm5.cell 1
      have a2 := hm5.frozen 0
      have b0 := hn5.cell 0
      have b1 := hn5.cell 1
      simp at a0 a1 b0 b1
      have hne : wr.heap.size ≠ w.heap.size + 1 := by have := HM.out.lt; omega
      have hmx := fun W ts t => Lib.run_max_strs (P := Try.prog) W ts t lo g.lo
      rw [Ky.maxS_most] at hmx
      have HM6 : Hid (Bk (w5.setCell ⟨w.heap.size + 1, 0, none⟩ (.string (Ky.most lo g.lo))) (w.heap.size + 1) 24 #[.string (Ky.most lo g.lo), .string hi]) := hm5.set 0 _
      have HR6 : Hid (Bk (w5.setCell ⟨w.heap.size + 1, 0, none⟩ (.string (Ky.most lo g.lo))) w.heap.size 24 #[.string ⟨#[]⟩, .string ⟨#[]⟩]) := hr5.other (by simp) _
      have HB6 : Hid (Below w.heap.size w (w5.setCell ⟨w.heap.size + 1, 0, none⟩ (.string (Ky.most lo g.lo)))) := HB5.out.setCell (by simp) _
      clear hr5 hm5 hn5 hg HR HM
      subst hw5
      go_wp2_with fail
      refine (ends_any g.hi hi _).mono ?_
      rintro e w6 ⟨rfl, rfl⟩
      have HN6 : Hid (Bk ((wr.alloc (.cells #[.string g.lo, .string g.hi] 24)).setCell ⟨w.heap.size + 1, 0, none⟩ (.string (Ky.most lo g.lo))) wr.heap.size 24 #[.string g.lo, .string g.hi]) := (Bk.new _ _ _).other (by simpa using hne) _
      clear a0 a1 a2 b0 b1 c0 c1 hmx hblt
      generalize (wr.alloc (.cells #[.string g.lo, .string g.hi] 24)).setCell ⟨w.heap.size + 1, 0, none⟩ (.string (Ky.most lo g.lo)) = w6 at HM6 HR6 HB6 HN6 ⊢
      by_cases hc : Ky.ends g.hi hi < 0
      · have b1 := HN6.out.cell 1
        have a1 := HM6.out.cell 1
        have a2 := HM6.out.frozen 1
        simp at a1 b1
        have HF : Hid (Ky.meet2 ⟨lo, hi⟩ g = ⟨Ky.most lo g.lo, g.hi⟩) := by unfold Hid Ky.meet2; rw [if_pos hc]
        go_wp2
        go_roundw
        case rel => exact ⟨k + 1, ⟨Ky.most lo g.lo, g.hi⟩, by omega, by go_num, HB6.out.setCell (by simp) _, HR6.out.other (by simp) _, HM6.out.set 1 _, HG.out.trans HF.out⟩
        case measure => simp [intOf]; omega
      · have HF : Hid (Ky.meet2 ⟨lo, hi⟩ g = ⟨Ky.most lo g.lo, hi⟩) := by unfold Hid Ky.meet2; rw [if_neg hc]
        go_wp2
        go_roundw
        case rel => exact ⟨k + 1, ⟨Ky.most lo g.lo, hi⟩, by omega, by go_num, HB6, HR6, HM6, HG.out.trans HF.out⟩
        case measure => simp [intOf]; omega
    · have hkk : k = len := by omega
      have hli : ¬ ((k : Int) < (len : Int)) := by omega
      have HF : Hid (Ky.meet l = ⟨lo, hi⟩) := by
        unfold Hid Ky.meet
        rw [← HQ.out, List.take_of_length_le (by have := HL.out; omega)]
      have a0 := HM.out.cell 0
      have a1 := HM.out.cell 1
      have b0 := HR.out.cell 0
      have b1 := HR.out.cell 1
      have b2 := HR.out.frozen 0
      have b3 := HR.out.frozen 1
      simp at a0 a1 b0 b1
      go_wp2
      refine bodyPost_ret (results_rg rfl rfl ((HR.out.set 0 _).set 1 _)) rfl ?_
      rw [HF.out]
      exact ⟨rfl, (HW.out.setCell (Nat.le_refl _) _).setCell (Nat.le_refl _) _⟩

theorem rgs_two (w : World) (a b : Rg) : Rgs (w.alloc (.cells #[.string a.lo, .string a.hi, .string b.lo, .string b.hi] 24)) (some ⟨w.heap.size, 0, none⟩) [a, b] := by
  intro _
  have hk := Bk.new w 24 #[.string a.lo, .string a.hi, .string b.lo, .string b.hi]
  refine ⟨w.heap.size, 0, rfl, fun i g hi => ?_⟩
  match i, hi with
  | 0, hi =>
    simp at hi
    subst hi
    exact ⟨hk.cell 0, hk.cell 1⟩
  | 1, hi =>
    simp at hi
    subst hi
    exact ⟨hk.cell 2, hk.cell 3⟩
  | n + 2, hi => simp at hi

set_option maxHeartbeats 800000 in
theorem overlap_any (a b : Rg) (w : World) : Calls Try.prog 23 #[a.val, b.val] w fun e w' => e = .returned (.bool (Ky.overlap a b)) ∧ Below w.heap.size w w' := by
  obtain ⟨w1, hw1⟩ : ∃ w1, w1 = ((w.alloc (.cells #[.string a.lo, .string a.hi] 24)).alloc (.cells #[.string b.lo, .string b.hi] 24)) := ⟨_, rfl⟩
  have HB1 : Hid (Below w.heap.size w w1) := by rw [hw1]; exact ((Below.refl _ _).alloc (Nat.le_refl _) _).alloc (by simp) _
  have hsz : w1.heap.size = w.heap.size + 1 + 1 := by rw [hw1]; simp
  have HX : Hid (Rgs (w1.alloc (.cells #[.string a.lo, .string a.hi, .string b.lo, .string b.hi] 24)) (some ⟨w.heap.size + 1 + 1, 0, none⟩) [a, b]) := by
    have := rgs_two w1 a b
    rw [hsz] at this
    exact this
  have HB2 : Hid (Below w.heap.size w (w1.alloc (.cells #[.string a.lo, .string a.hi, .string b.lo, .string b.hi] 24))) := HB1.out.alloc HB1.out.size _
  subst hw1
  clear hsz
  go_enter Try.func23, Try.ntmps23
  go_wp2_with fail
  refine (meet_any _ 2 2 [a, b] _ rfl HX.out (by decide)).mono ?_
  rintro e w3 ⟨rfl, hb3⟩
  have HB3 : Hid (Below w.heap.size w w3) := HB2.out.trans (hb3.mono HB2.out.size)
  clear hb3
  go_wp2_with fail
  refine (empty_any (Ky.meet [a, b]) _).mono ?_
  rintro e w4 ⟨rfl, hb4⟩
  have HB4 : Hid (Below w.heap.size w w4) := HB3.out.trans (hb4.mono HB3.out.size)
  clear hb4
  go_wp2
  go_ret
  exact ⟨rfl, HB4.out⟩

set_option maxHeartbeats 800000 in
theorem covers_any (a b : Rg) (w : World) : Calls Try.prog 21 #[a.val, b.val] w fun e w' => e = .returned (.bool (Ky.covers a b)) ∧ Below w.heap.size w w' := by
  obtain ⟨w1, hw1⟩ : ∃ w1, w1 = ((w.alloc (.cells #[.string a.lo, .string a.hi] 24)).alloc (.cells #[.string b.lo, .string b.hi] 24)) := ⟨_, rfl⟩
  have HB1 : Hid (Below w.heap.size w w1) := by rw [hw1]; exact ((Below.refl _ _).alloc (Nat.le_refl _) _).alloc (by simp) _
  have HKA : Hid (Bk w1 w.heap.size 24 #[.string a.lo, .string a.hi]) := by rw [hw1]; exact (Bk.new _ _ _).alloc _
  have HKB : Hid (Bk w1 (w.heap.size + 1) 24 #[.string b.lo, .string b.hi]) := by
    rw [hw1]
    have := Bk.new (w.alloc (.cells #[.string a.lo, .string a.hi] 24)) 24 #[.string b.lo, .string b.hi]
    simp at this
    exact this
  have HE : Hid (Ky.covers a b = (Ky.emp b || (!Op.bytesLess b.lo.toList a.lo.toList && decide (Ky.ends b.hi a.hi ≤ 0)))) := rfl
  have hle : (Op.bytesLess a.lo.toList b.lo.toList || a.lo.toList == b.lo.toList) = !Op.bytesLess b.lo.toList a.lo.toList := by
    have := Ky.gtr_iff a.lo.toList b.lo.toList
    rw [← this, Bool.not_and, Bool.not_not, Bool.not_not]
  go_enter Try.func21, Try.ntmps21
  go_wp2_with fail
  rw [← hw1]
  clear hw1
  refine (empty_any b _).mono ?_
  rintro e w3 ⟨rfl, hb3⟩
  have HB3 : Hid (Below w.heap.size w w3) := HB1.out.trans (hb3.mono HB1.out.size)
  have ka := HKA.out.below hb3 HKA.out.lt
  have kb := HKB.out.below hb3 HKB.out.lt
  have a0 := ka.cell 0
  have a1 := ka.cell 1
  have b0 := kb.cell 0
  have b1 := kb.cell 1
  simp at a0 a1 b0 b1
  clear ka kb hb3 HKA HKB
  cases he : Ky.emp b with
  | true =>
    rw [he] at HE
    go_wp2
    go_ret
    exact ⟨by rw [HE.out]; rfl, HB3.out⟩
  | false =>
    rw [he] at HE
    cases hc : Op.bytesLess b.lo.toList a.lo.toList with
    | true =>
      rw [hc] at HE hle
      go_wp2
      go_ret
      exact ⟨by rw [HE.out]; rfl, HB3.out⟩
    | false =>
      rw [hc] at HE hle
      go_wp2_with fail
      refine (ends_any b.hi a.hi _).mono ?_
      rintro e w4 ⟨rfl, rfl⟩
      go_wp2
      go_ret
      exact ⟨by rw [HE.out]; simp, HB3.out⟩
end Go.Proofs.Ytgppnbcneknpdaa
