/- The range of the texts that begin with one: the code's. -/
import Derived.Test.YtgppnbcneknpdaaKyB
namespace Go.Proofs.Ytgppnbcneknpdaa
open Go.RowKit
set_option linter.unusedVariables false
set_option maxRecDepth 100000

namespace Ky
/-- The end behind all texts that begin with one, read from its last byte on. -/
def bumpR : List UInt8 → List UInt8
  | [] => []
  | a :: r => if a = 255 then bumpR r else (a + 1) :: r
def bump (l : List UInt8) : List UInt8 := (bumpR l.reverse).reverse

theorem bump_nil : bump [] = [] := rfl
theorem bump_snoc (l : List UInt8) (a : UInt8) : bump (l ++ [a]) = if a = 255 then bump l else l ++ [a + 1] := by
  unfold bump
  rw [List.reverse_append]
  simp only [List.reverse_singleton, List.singleton_append, bumpR]
  split <;> simp

theorem take_snoc (s : ByteArray) {k : Nat} (h : k < s.size) : s.toList.take (k + 1) = s.toList.take k ++ [s[k]] := by
  rw [ByteArray.toList_eq]
  have hl : k < s.data.toList.length := h
  rw [List.take_add_one, List.getElem?_eq_getElem hl]
  rfl

theorem take_all (s : ByteArray) : s.toList.take s.size = s.toList := List.take_of_length_le (by rw [size_list]; exact Nat.le_refl _)

/-- 'string(b)'. -/
theorem conv_row (w : World) (b n c : Nat) (l : List UInt8) (hn : l.length = n) (hc : ∀ i, i < n → w.cell? ⟨b, i, none⟩ = some (.int .u8 ((l.getD i 0).toNat : Int))) :
    (convert 50 9 (.slice (some ⟨b, 0, none⟩) n c)).run Try.prog w = .ok (.string ⟨l.toArray⟩) w := by
  have := run_convert_bytes_arg (P := Try.prog) w 50 5 Try.underlying50 Try.underlying5 b 0 n c (l.map fun x => (x.toNat : Int)) (by simpa using hn) (fun i hi => by
    rw [Nat.zero_add, hc i hi]
    have : i < l.length := by omega
    simp [List.getD, this]) 9 Try.underlying9
  rw [this]
  have e : strOfNums (l.map fun x => (x.toNat : Int)) = ⟨l.toArray⟩ := by
    unfold strOfNums
    rw [List.map_map]
    congr 2
    conv => rhs; rw [← List.map_id l]
    apply List.map_congr_left
    intro a _
    simp
  rw [e]

/-- The range of the texts that begin with one. -/
def pre (s : ByteArray) : Rg := ⟨s, ⟨(bump s.toList).toArray⟩⟩
end Ky

set_option maxHeartbeats 800000 in
theorem behind_any (s : ByteArray) (w : World) (hs : s.size ≤ 140737488351232) : Calls Try.prog 42 #[.string s] w fun r w' => r = .returned (.string ⟨(Ky.bump s.toList).toArray⟩) ∧ Below w.heap.size w w' := by
  have hconv := run_bytes_of_string (P := Try.prog) w 9 50 5 s Try.underlying9 Try.underlying50 Try.underlying5
  have hcb : s.size ≤ grownCap w s.size 0 5 := grownCap_ge _ _ _ _
  generalize hcap : grownCap w s.size 0 5 = cap at hconv hcb
  clear hcap
  have HB : Hid (∀ j, (hj : j < s.size) → (bytesRow s cap)[j]? = some (.int .u8 (s[j].toNat : Int))) := fun j hj => bytesRow_at s cap j hj
  have HZ : Hid (s.size ≤ (bytesRow s cap).size) := by
    unfold Hid
    by_cases h : s.size = 0
    · omega
    · have := HB.out (s.size - 1) (by omega)
      have := (Array.getElem?_eq_some_iff.1 this).1
      omega
  generalize bytesRow s cap = row at hconv HB HZ
  obtain ⟨w1, hw1⟩ : ∃ w1, w1 = (w.drew.alloc (.cells row 5 (row.size, row.size + 1))) := ⟨_, rfl⟩
  rw [← hw1] at hconv
  have HW1 : Hid (Below w.heap.size w w1) := by rw [hw1]; exact ((Below.refl _ _).drew).alloc (Nat.le_refl _) _
  have HR : Hid (w1.heap[w.heap.size]? = some (.cells row 5 (row.size, row.size + 1))) := by rw [hw1]; exact heap_alloc_new w.drew _
  clear hw1
  have HCE : Hid (∀ j, (hj : j < s.size) → w1.cell? ⟨w.heap.size, j, none⟩ = some (.int .u8 (s[j].toNat : Int)) ∧ w1.frozen? ⟨w.heap.size, j, none⟩ = false) := by
    intro j hj
    refine ⟨by simp [World.cell?, HR.out, HB.out j hj], ?_⟩
    have := HZ.out
    simp [World.frozen?, HR.out]
    omega
  clear HB HR HZ
  go_enter Try.func42, Try.ntmps42
  go_wp2_with fail
  go_loopw [3] (fun v wr => ∃ k : Nat, k ≤ s.size ∧ v = .slice (some ⟨w.heap.size, 0, none⟩) k cap ∧ wr = w1 ∧ Hid (Ky.bump s.toList = Ky.bump (s.toList.take k))) (fun v _ => match v with | .slice _ n _ => n | _ => 0)
  case atStart => exact ⟨s.size, Nat.le_refl _, rfl, rfl, by unfold Hid; rw [Ky.take_all]⟩
  case round =>
    obtain ⟨k, hk, rfl, rfl, HC⟩ := hrel
    cases k with
    | zero =>
      have HF : Hid (Ky.bump s.toList = []) := by unfold Hid; rw [HC.out]; rfl
      have hz := Ky.conv_row wr w.heap.size 0 cap [] rfl (fun i hi => by simp at hi)
      go_wp2
      go_ret
      rw [HF.out]
      exact ⟨rfl, HW1.out⟩
    | succ k =>
      obtain ⟨hc, hfz⟩ := HCE.out k hk
      have HT := Ky.take_snoc s hk
      by_cases h255 : s[k] = 255
      · have hc2 : wr.cell? ⟨w.heap.size, k, none⟩ = some (.int .u8 255) := by rw [hc, h255]; rfl
        have HF : Hid (Ky.bump s.toList = Ky.bump (s.toList.take k)) := by unfold Hid; rw [HC.out, HT, Ky.bump_snoc, if_pos h255]
        clear hc h255 HT
        go_wp2
        go_roundw
        case rel => exact ⟨k, by omega, by simp, by simp, HF⟩
        case measure => simp
      · have hu2 : s[k].toNat < 255 := by
          have h1 := UInt8.toNat_lt s[k]
          have h2 : s[k].toNat ≠ 255 := fun h => h255 (UInt8.toNat_inj.1 (by simpa using h))
          omega
        have HF : Hid (Ky.bump s.toList = s.toList.take k ++ [s[k] + 1]) := by unfold Hid; rw [HC.out, HT, Ky.bump_snoc, if_neg h255]
        have hz := Ky.conv_row (wr.setCell ⟨w.heap.size, k, none⟩ (.int .u8 ((s[k].toNat : Int) + 1))) w.heap.size (k + 1) cap (s.toList.take k ++ [s[k] + 1]) (by
          simp [Ky.size_list]; omega) (fun i hi => by
          by_cases h : i = k
          · subst h
            have e1 : (s.toList.take i ++ [s[i] + 1])[i]? = some (s[i] + 1) := by
              have hl : (s.toList.take i).length = i := by rw [List.length_take, Ky.size_list]; omega
              rw [List.getElem?_append_right (by omega), hl]
              simp
            rw [World.cell?_setCell_same (h := hc)]
            have : (s[i] + 1).toNat = s[i].toNat + 1 := by
              rw [UInt8.toNat_add]
              simp
              omega
            simp only [List.getD, e1, Option.getD_some, this]
            rfl
          · have hik : i < k := by omega
            rw [World.cell?_setCell_other (h := by intro e; simp only [Addr.mk.injEq] at e; omega), (HCE.out i (by omega)).1]
            have e1 : (s.toList.take k ++ [s[k] + 1])[i]? = some s[i] := by
              have hl : (s.toList.take k).length = k := by rw [List.length_take, Ky.size_list]; omega
              rw [List.getElem?_append_left (by omega), List.getElem?_take, if_pos hik, ByteArray.toList_eq]
              rw [List.getElem?_eq_getElem (by show i < s.data.size; exact (by have : s.data.size = s.size := rfl; omega))]
              rfl
            simp only [List.getD, e1, Option.getD_some])
        have HB2 : Hid (Below w.heap.size w (wr.setCell ⟨w.heap.size, k, none⟩ (.int .u8 ((s[k].toNat : Int) + 1)))) := HW1.out.setCell (Nat.le_refl _) _
        have hne : ((s[k].toNat : Int) == 255) = false := by simp; omega
        clear h255 HT
        go_wp2_with fail
        go_ret
        rw [HF.out]
        exact ⟨rfl, HB2.out⟩

theorem prefix_any (s : ByteArray) (w : World) (hs : s.size ≤ 140737488351232) : Calls Try.prog 31 #[.string s] w fun r w' => r = .returned (Ky.pre s).val ∧ Below w.heap.size w w' := by
  obtain ⟨w1, hw1⟩ : ∃ w1, w1 = w.alloc (.cells #[.string ⟨#[]⟩, .string ⟨#[]⟩] 24) := ⟨_, rfl⟩
  have HW1 : Hid (Below w.heap.size w w1) := by rw [hw1]; exact (Below.refl _ _).alloc (Nat.le_refl _) _
  have HK : Hid (Bk w1 w.heap.size 24 #[.string ⟨#[]⟩, .string ⟨#[]⟩]) := by rw [hw1]; exact Bk.new _ _ _
  go_enter Try.func31, Try.ntmps31
  go_wp2_with fail
  rw [← hw1]
  clear hw1
  refine (behind_any s _ hs).mono ?_
  rintro e w2 ⟨rfl, hb2⟩
  have hk2 := HK.out.below hb2 HK.out.lt
  have c0 := hk2.cell 0
  have c1 := hk2.cell 1
  have z0 := hk2.frozen 0
  have z1 := hk2.frozen 1
  simp at c0 c1
  have HK2 : Hid (Bk w2 w.heap.size 24 #[.string ⟨#[]⟩, .string ⟨#[]⟩]) := hk2
  have HB2 : Hid (Below w.heap.size w w2) := HW1.out.trans (hb2.mono HW1.out.size)
  clear hk2 hb2
  go_wp2
  refine bodyPost_ret (results_rg rfl rfl ((HK2.out.set 0 _).set 1 _)) rfl ?_
  exact ⟨rfl, (HB2.out.setCell (Nat.le_refl _) _).setCell (Nat.le_refl _) _⟩

end Go.Proofs.Ytgppnbcneknpdaa
