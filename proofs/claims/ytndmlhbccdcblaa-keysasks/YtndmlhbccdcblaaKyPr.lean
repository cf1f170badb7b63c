/- The range of the texts that begin with one: the document's. -/
import Derived.Test.YtndmlhbccdcblaaKyP
namespace Go.Proofs.Ytndmlhbccdcblaa
open Go.RowKit
set_option linter.unusedVariables false
set_option maxRecDepth 100000

set_option maxHeartbeats 800000 in
theorem rprefix_any (s : ByteArray) (w : World) (hs : s.size ≤ 140737488351232) : Calls Try.prog 23 #[.string s] w fun r w' => r = .returned (Ky.pre s).val ∧ Below w.heap.size w w' := by
  obtain ⟨w1, hw1⟩ : ∃ w1, w1 = w.alloc (.cells #[.string ⟨#[]⟩, .string ⟨#[]⟩] 23) := ⟨_, rfl⟩
  have HW1 : Hid (Below w.heap.size w w1) := by rw [hw1]; exact (Below.refl _ _).alloc (Nat.le_refl _) _
  have hk := Bk.new w 23 #[.string ⟨#[]⟩, .string ⟨#[]⟩]
  rw [← hw1] at hk
  have HK : Hid (Bk w1 w.heap.size 23 #[.string ⟨#[]⟩, .string ⟨#[]⟩]) := hk
  have c0 := hk.cell 0
  have c1 := hk.cell 1
  have z0 := hk.frozen 0
  have z1 := hk.frozen 1
  simp at c0 c1
  clear hk
  go_enter Try.func23, Try.ntmps23
  go_wp2_with fail
  rw [← hw1]
  clear hw1
  go_loopw [3] (fun v wr => ∃ k : Nat, k ≤ s.size ∧ v = .int .i64 k ∧ wr = w1 ∧ Hid (Ky.bump s.toList = Ky.bump (s.toList.take k))) (fun v _ => (intOf v).toNat)
  case atStart => exact ⟨s.size, Nat.le_refl _, rfl, rfl, by unfold Hid; rw [Ky.take_all]⟩
  case round =>
    obtain ⟨k, hk, rfl, rfl, HC⟩ := hrel
    cases k with
    | zero =>
      have HF : Hid (Ky.bump s.toList = []) := by unfold Hid; rw [HC.out]; rfl
      go_wp2
      refine bodyPost_ret (results_rg rfl rfl ((HK.out.set 0 _).set 1 _)) rfl ?_
      unfold Ky.pre
      rw [HF.out]
      exact ⟨rfl, (HW1.out.setCell (Nat.le_refl _) _).setCell (Nat.le_refl _) _⟩
    | succ k =>
      have HT := Ky.take_snoc s hk
      have hks : k < s.size := by omega
      by_cases h255 : s[k] = 255
      · have hc2 : (s[k].toNat : Int) = 255 := by rw [h255]; rfl
        have HF : Hid (Ky.bump s.toList = Ky.bump (s.toList.take k)) := by unfold Hid; rw [HC.out, HT, Ky.bump_snoc, if_pos h255]
        clear h255 HT
        go_wp2
        go_roundw
        case rel => exact ⟨k, by omega, by go_num, by simp, HF⟩
        case measure => simp [intOf]
      · have hu2 : s[k].toNat < 255 := by
          have h1 := UInt8.toNat_lt s[k]
          have h2 : s[k].toNat ≠ 255 := fun h => h255 (UInt8.toNat_inj.1 (by simpa using h))
          omega
        have HF : Hid (Ky.bump s.toList = s.toList.take k ++ [s[k] + 1]) := by unfold Hid; rw [HC.out, HT, Ky.bump_snoc, if_neg h255]
        have hne : ((s[k].toNat : Int) == 255) = false := by simp; omega
        clear h255 HT
        have hz := Ky.conv_row (wr.alloc (.cells #[.int .u8 ((s[k].toNat : Int) + 1)] 5)).drew wr.heap.size 1 1 [s[k] + 1] rfl (fun i hi => by
          have hi0 : i = 0 := by omega
          subst hi0
          have : (s[k] + 1).toNat = s[k].toNat + 1 := by
            rw [UInt8.toNat_add]
            simp
            omega
          have hb : Bk (wr.alloc (.cells #[.int .u8 ((s[k].toNat : Int) + 1)] 5)).drew wr.heap.size 5 #[.int .u8 ((s[k].toNat : Int) + 1)] := (Bk.new _ _ _).drew
          rw [hb.cell 0]
          simp [this])
        have hsz : ¬ 9223372036854775807 < (s.extract 0 k).size + 1 := by
          have : (s.extract 0 k).size ≤ s.size := by simp; omega
          omega
        have HK3 : Hid (Bk (wr.alloc (.cells #[.int .u8 ((s[k].toNat : Int) + 1)] 5)).drew w.heap.size 23 #[.string ⟨#[]⟩, .string ⟨#[]⟩]) := (HK.out.alloc _).drew
        have HB3 : Hid (Below w.heap.size w (wr.alloc (.cells #[.int .u8 ((s[k].toNat : Int) + 1)] 5)).drew) := (HW1.out.alloc HW1.out.size _).drew
        have d0 := HK3.out.cell 0
        have d1 := HK3.out.cell 1
        have y0 := HK3.out.frozen 0
        have y1 := HK3.out.frozen 1
        simp only [List.getElem?_toArray, List.getElem?_cons_zero, List.getElem?_cons_succ] at d0 d1
        have HK4 : Hid (Bk (wr.alloc (.cells #[.int .u8 ((s[k].toNat : Int) + 1)] 5)) w.heap.size 23 #[.string ⟨#[]⟩, .string ⟨#[]⟩]) := (HK.out.alloc _)
        have x0 := HK4.out.cell 0
        have x1 := HK4.out.cell 1
        have v0 := HK4.out.frozen 0
        have v1 := HK4.out.frozen 1
        simp only [List.getElem?_toArray, List.getElem?_cons_zero, List.getElem?_cons_succ] at x0 x1
        have hlt3 : w.heap.size < wr.heap.size := HK.out.lt
        have hne3 : w.heap.size ≠ wr.heap.size := by omega
        have hne2 : ((k : Int) + 1 == 0) = false := by simp; omega
        go_wp2_with fail
        go_region
        go_wp2_with fail
        refine bodyPost_ret (results_rg rfl rfl (((HK.out.set 0 _).set 1 _).alloc _).drew) rfl ?_
        refine ⟨?_, ?_⟩
        rotate_left
        · have hb := (HW1.out.setCell (p := ⟨w.heap.size, 0, none⟩) (Nat.le_refl _) (.string s)).setCell (p := ⟨w.heap.size, 1, none⟩) (Nat.le_refl _) (.string (s.extract 0 k ++ ⟨#[s[k] + 1]⟩))
          exact (hb.alloc hb.size _).drew
        unfold Ky.pre
        rw [HF.out]
        have e : (s.extract 0 k ++ ⟨#[s[k] + 1]⟩ : ByteArray) = ⟨(s.toList.take k ++ [s[k] + 1]).toArray⟩ := by
          apply Ky.toList_inj
          rw [ByteArray.toList_eq, ByteArray.toList_eq, ByteArray.data_append, ByteArray.data_extract, ByteArray.toList_eq]
          simp
        rw [e]
end Go.Proofs.Ytndmlhbccdcblaa
