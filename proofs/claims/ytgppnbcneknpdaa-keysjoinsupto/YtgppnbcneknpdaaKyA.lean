/- A text in a range; what is next; what parts two texts (the code's). -/
import Derived.Test.YtgppnbcneknpdaaKyM
import Derived.Laws.BytesArg
import Derived.Laws.IdiomStrings
namespace Go.Proofs.Ytgppnbcneknpdaa
open Go.RowKit
set_option linter.unusedVariables false
set_option maxRecDepth 100000

theorem isBelow_any (s e : ByteArray) (w : World) : Calls Try.prog 38 #[.string s, .string e] w fun r w' => r = .returned (.bool (Ky.below s e)) ∧ w' = w := by
  go_enter Try.func38, Try.ntmps38
  go_wp2
  all_goals go_ret
  all_goals (unfold Ky.below Ky.nil Ky.lt; simp_all)

theorem empty_any (r : Rg) (w : World) : Calls Try.prog 13 #[r.val] w fun e w' => e = .returned (.bool (Ky.emp r)) ∧ Below w.heap.size w w' := by
  obtain ⟨lo, hi⟩ := r
  go_enter Try.func13, Try.ntmps13
  go_wp2_with fail
  refine (isBelow_any lo hi _).mono ?_
  rintro e w1 ⟨rfl, rfl⟩
  go_wp2
  go_ret
  exact ⟨rfl, (Below.refl _ _).alloc (Nat.le_refl _) _⟩

theorem in_any (r : Rg) (k : ByteArray) (w : World) : Calls Try.prog 14 #[r.val, .string k] w fun e w' => e = .returned (.bool (Ky.inn r k)) ∧ Below w.heap.size w w' := by
  obtain ⟨lo, hi⟩ := r
  have HI : Hid (Ky.inn ⟨lo, hi⟩ k = (!Op.bytesLess k.toList lo.toList && Ky.below k hi)) := rfl
  cases h : Op.bytesLess k.toList lo.toList with
  | true =>
    rw [h] at HI
    go_enter Try.func14, Try.ntmps14
    go_wp2
    go_ret
    exact ⟨by rw [HI.out]; rfl, (Below.refl _ _).alloc (Nat.le_refl _) _⟩
  | false =>
    rw [h] at HI
    go_enter Try.func14, Try.ntmps14
    go_wp2_with fail
    refine (isBelow_any k hi _).mono ?_
    rintro e w1 ⟨rfl, rfl⟩
    go_wp2
    go_ret
    exact ⟨by rw [HI.out]; simp, (Below.refl _ _).alloc (Nat.le_refl _) _⟩

/-- What is next. -/
def Ky.next (k : ByteArray) : ByteArray := k ++ ⟨#[0]⟩

theorem next_any (k : ByteArray) (w : World) (hk : k.size ≤ 281474976710656) : Calls Try.prog 22 #[.string k] w fun e w' => e = .returned (.string (Ky.next k)) ∧ w' = w := by
  have hk1 : ¬ 9223372036854775807 < k.size + 1 := by omega
  go_enter Try.func22, Try.ntmps22
  go_wp2
  go_ret
  exact ⟨rfl, rfl⟩

/-- A range is answered. -/
theorem results_rg {fn : Func} {t : Tmp} (h : fn.results = #[.cell t 24]) {tmps : Array Value} {w : World} {b : Nat} (ht : tmps.getD t undef = .pointer (some ⟨b, 0, none⟩)) {s g : ByteArray} (hk : Bk w b 24 #[.string s, .string g]) :
    (results fn tmps).run Try.prog w = .ok (Rg.mk s g).val w := by
  have c0 : w.cell? ⟨b, 0, none⟩ = some (.string s) := hk.cell 0
  have c1 : w.cell? ⟨b, 1, none⟩ = some (.string g) := hk.cell 1
  have hz : ∀ w : World, (loadVar 24 ⟨b, 0, none⟩).run Try.prog w = (do let x ← load ⟨b, 0, none⟩; let y ← load ⟨b, 1, none⟩; pure (.agg #[x, y]) : Sem Value).run Try.prog w := fun w => by kernel_rfl
  have hl : (loadVar 24 ⟨b, 0, none⟩).run Try.prog w = .ok (.agg #[.string s, .string g]) w := by
    rw [hz]
    simp [c0, c1]
  have ht' : tmps[t]?.getD undef = .pointer (some ⟨b, 0, none⟩) := by simpa using ht
  simp [results, h, ht', asAddr, hl]

def Ky.one (k : ByteArray) : Rg := ⟨k, Ky.next k⟩

theorem one_any (k : ByteArray) (w : World) (hk : k.size ≤ 281474976710656) : Calls Try.prog 29 #[.string k] w fun e w' => e = .returned (Ky.one k).val ∧ Below w.heap.size w w' := by
  go_enter Try.func29, Try.ntmps29
  go_wp2_with fail
  refine (next_any k _ hk).mono ?_
  rintro e w1 ⟨rfl, rfl⟩
  go_wp2
  refine bodyPost_ret (results_rg rfl rfl (Bk.new _ _ _)) rfl ?_
  exact ⟨rfl, (Below.refl _ _).alloc (Nat.le_refl _) _⟩

/-- How many bytes two texts begin with in common. -/
def Ky.com : List UInt8 → List UInt8 → Nat
  | a :: x, b :: y => if a = b then Ky.com x y + 1 else 0
  | _, _ => 0

theorem Ky.com_le : ∀ a b : List UInt8, Ky.com a b ≤ a.length ∧ Ky.com a b ≤ b.length
  | [], _ => by simp [Ky.com]
  | _ :: _, [] => by simp [Ky.com]
  | a :: x, b :: y => by
    have := Ky.com_le x y
    simp only [Ky.com]
    split <;> simp <;> omega

theorem Ky.size_list (s : ByteArray) : s.toList.length = s.size := by rw [ByteArray.toList_eq]; rfl

theorem Ky.at_drop (s : ByteArray) {k : Nat} (h : k < s.size) : s.toList.drop k = s[k] :: s.toList.drop (k + 1) := by
  rw [ByteArray.toList_eq]
  have hl : k < s.data.toList.length := h
  rw [List.drop_eq_getElem_cons hl]
  rfl

set_option maxHeartbeats 400000 in
theorem shared_any (s e : ByteArray) (w : World) (hs : s.size ≤ 140737488351232) (he : e.size ≤ 140737488351232) : Calls Try.prog 48 #[.string s, .string e] w fun r w' => r = .returned (.int .i64 (Ky.com s.toList e.toList : Nat)) ∧ Below w.heap.size w w' := by
  obtain ⟨m, hm⟩ : ∃ m, m = min s.size e.size := ⟨_, rfl⟩
  have hm1 : m ≤ s.size := by omega
  have hm2 : m ≤ e.size := by omega
  have HM : Hid (m = min s.size e.size) := hm
  clear hm
  go_enter Try.func48, Try.ntmps48
  go_wp2_with fail
  rw [show min (s.size : Int) (e.size : Int) = ((m : Nat) : Int) by have := HM.out; omega]
  go_loopw [13] (fun i wr => ∃ k : Nat, k ≤ m ∧ i = .int .i64 k ∧ Hid (Below w.heap.size w wr) ∧ Hid (Ky.com s.toList e.toList = k + Ky.com (s.toList.drop k) (e.toList.drop k))) (fun i _ => m - (intOf i).toNat)
  case atStart => exact ⟨0, Nat.zero_le _, rfl, Below.refl _ _, by simp [Hid]⟩
  case round =>
    obtain ⟨k, hk, rfl, HW, HC⟩ := hrel
    by_cases hlt : k < m
    · have hli : (k : Int) < (m : Int) := by omega
      have h1 : k < s.size := by omega
      have h2 : k < e.size := by omega
      go_wp2_with fail
      go_region
      all_goals go_wp2_with fail
      case roundEnd =>
        rename_i hq
        have hq' : s[k] = e[k] := by
          have : (s[k].toNat : Int) = e[k].toNat := by simpa using hq
          exact UInt8.toNat_inj.1 (by omega)
        refine ⟨⟨k + 1, by omega, by go_num, HW.out.drew, ?_⟩, by simp [intOf]; omega⟩
        unfold Hid
        rw [HC.out, Ky.at_drop s h1, Ky.at_drop e h2, Ky.com, if_pos hq']
        omega
      · rename_i hq
        have hq' : ¬ s[k] = e[k] := by
          intro h
          rw [h] at hq
          simp at hq
        have HF : Ky.com s.toList e.toList = k := by
          rw [HC.out, Ky.at_drop s h1, Ky.at_drop e h2, Ky.com, if_neg hq']
          rfl
        go_ret
        exact ⟨by rw [HF]; rfl, HW.out.drew⟩
    · have hkk : k = m := by omega
      have hli : ¬ ((k : Int) < (m : Int)) := by omega
      have HF : Hid (Ky.com s.toList e.toList = m) := by
        unfold Hid
        have h0 := HM.out
        have h1 := Ky.size_list s
        have h2 := Ky.size_list e
        rw [HC.out]
        subst hkk
        by_cases h : k = s.size
        · have e0 : s.toList.drop k = [] := List.drop_eq_nil_of_le (by omega)
          rw [e0]
          simp [Ky.com]
        · have e0 : e.toList.drop k = [] := List.drop_eq_nil_of_le (by omega)
          rw [e0]
          cases s.toList.drop k <;> rfl
      go_wp2
      go_ret
      exact ⟨by rw [HF.out]; rfl, HW.out⟩

end Go.Proofs.Ytgppnbcneknpdaa
