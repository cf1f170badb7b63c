/- What a delta names; whether it may be (the document's). -/
import Derived.Test.YtkmlholjglmfnaaGreatDlC
import Derived.Test.YtkmlholjglmfnaaGreatPgCr
import Derived.Test.YtkmlholjglmfnaaGreatRgM
namespace Go.Proofs.YtkmlholjglmfnaaGreat
open Go.RowKit Go.Sort
set_option linter.unusedVariables false
set_option linter.unusedSimpArgs false
set_option maxRecDepth 100000

set_option maxHeartbeats 4000000 in
theorem rbare_1 (aek : ByteArray) (aes aeg aec : Int) (akey : ByteArray) (apg : Int) (aleaf : Bool) (alo ahi : ByteArray) (ar : Int) (ap : Option Addr) (an ac : Nat) (w : World) :
    Calls Tryz.prog 36 #[.agg #[.int .i64 1, .string aek, .int .i64 aes, .int .i64 aeg, .int .i64 aec, .string akey, .int .i64 apg, .bool aleaf, .string alo, .string ahi, .int .i64 ar, .slice ap an ac]] w fun r w' => r = .returned (.tuple #[.agg #[.int .i64 1, .string aek, .int .i64 aes, .int .i64 aeg, .int .i64 aec, .string ⟨#[]⟩, .int .i64 0, .bool false, .string ⟨#[]⟩, .string ⟨#[]⟩, .int .i64 0, .slice none 0 0], .bool true]) ∧ Below w.heap.size w w' := by
  go_enter Tryz.func36, Tryz.ntmps36
  go_wp2
  refine bodyPost_ret (results_two (T' := 30) (cs := [.int .i64 1, .string aek, .int .i64 aes, .int .i64 aeg, .int .i64 aec, .string ⟨#[]⟩, .int .i64 0, .bool false, .string ⟨#[]⟩, .string ⟨#[]⟩, .int .i64 0, .slice none 0 0]) rfl rfl dl_agg dl_size rfl ((Bk.new1 _ _ _ _).alloc _)) rfl ?_
  exact ⟨rfl, (((Below.refl _ _).alloc (Nat.le_refl _) _).alloc (by simp) _).alloc (by simp; omega) _⟩

set_option maxHeartbeats 4000000 in
theorem rbare_2 (aek : ByteArray) (aes aeg aec : Int) (akey : ByteArray) (apg : Int) (aleaf : Bool) (alo ahi : ByteArray) (ar : Int) (ap : Option Addr) (an ac : Nat) (w : World) :
    Calls Tryz.prog 36 #[.agg #[.int .i64 2, .string aek, .int .i64 aes, .int .i64 aeg, .int .i64 aec, .string akey, .int .i64 apg, .bool aleaf, .string alo, .string ahi, .int .i64 ar, .slice ap an ac]] w fun r w' => r = .returned (.tuple #[.agg #[.int .i64 2, .string ⟨#[]⟩, .int .i64 0, .int .i64 0, .int .i64 0, .string akey, .int .i64 0, .bool false, .string ⟨#[]⟩, .string ⟨#[]⟩, .int .i64 0, .slice none 0 0], .bool true]) ∧ Below w.heap.size w w' := by
  go_enter Tryz.func36, Tryz.ntmps36
  go_wp2
  refine bodyPost_ret (results_two (T' := 30) (cs := [.int .i64 2, .string ⟨#[]⟩, .int .i64 0, .int .i64 0, .int .i64 0, .string akey, .int .i64 0, .bool false, .string ⟨#[]⟩, .string ⟨#[]⟩, .int .i64 0, .slice none 0 0]) rfl rfl dl_agg dl_size rfl ((Bk.new1 _ _ _ _).alloc _)) rfl ?_
  exact ⟨rfl, (((Below.refl _ _).alloc (Nat.le_refl _) _).alloc (by simp) _).alloc (by simp; omega) _⟩

set_option maxHeartbeats 4000000 in
theorem rbare_3 (aek : ByteArray) (aes aeg aec : Int) (akey : ByteArray) (apg : Int) (aleaf : Bool) (alo ahi : ByteArray) (ar : Int) (ap : Option Addr) (an ac : Nat) (w : World) :
    Calls Tryz.prog 36 #[.agg #[.int .i64 3, .string aek, .int .i64 aes, .int .i64 aeg, .int .i64 aec, .string akey, .int .i64 apg, .bool aleaf, .string alo, .string ahi, .int .i64 ar, .slice ap an ac]] w fun r w' => r = .returned (.tuple #[.agg #[.int .i64 3, .string ⟨#[]⟩, .int .i64 0, .int .i64 0, .int .i64 0, .string akey, .int .i64 apg, .bool false, .string ⟨#[]⟩, .string ⟨#[]⟩, .int .i64 0, .slice none 0 0], .bool (decide (1 ≤ apg) && !akey.toList.isEmpty)]) ∧ Below w.heap.size w w' := by
  cases h : akey.toList.isEmpty with
  | true =>
    cases hg : decide (1 ≤ apg) with
    | true =>
      go_enter Tryz.func36, Tryz.ntmps36
      go_wp2_with fail
      go_region
      go_wp2_with fail
      go_region
      go_wp2
      refine bodyPost_ret (results_two (T' := 30) (cs := [.int .i64 3, .string ⟨#[]⟩, .int .i64 0, .int .i64 0, .int .i64 0, .string akey, .int .i64 apg, .bool false, .string ⟨#[]⟩, .string ⟨#[]⟩, .int .i64 0, .slice none 0 0]) rfl rfl dl_agg dl_size rfl ((Bk.new1 _ _ _ _).alloc _)) rfl ?_
      exact ⟨by first | rfl | simp, (((((Below.refl _ _).alloc (Nat.le_refl _) _).alloc (by simp) _).alloc (by simp; omega) _).drew).drew⟩
    | false =>
      go_enter Tryz.func36, Tryz.ntmps36
      go_wp2_with fail
      go_region
      go_wp2_with fail
      go_region
      go_wp2
      refine bodyPost_ret (results_two (T' := 30) (cs := [.int .i64 3, .string ⟨#[]⟩, .int .i64 0, .int .i64 0, .int .i64 0, .string akey, .int .i64 apg, .bool false, .string ⟨#[]⟩, .string ⟨#[]⟩, .int .i64 0, .slice none 0 0]) rfl rfl dl_agg dl_size rfl ((Bk.new1 _ _ _ _).alloc _)) rfl ?_
      exact ⟨by first | rfl | simp, (((((Below.refl _ _).alloc (Nat.le_refl _) _).alloc (by simp) _).alloc (by simp; omega) _).drew).drew⟩
  | false =>
    cases hg : decide (1 ≤ apg) with
    | true =>
      go_enter Tryz.func36, Tryz.ntmps36
      go_wp2_with fail
      go_region
      go_wp2_with fail
      go_region
      go_wp2
      refine bodyPost_ret (results_two (T' := 30) (cs := [.int .i64 3, .string ⟨#[]⟩, .int .i64 0, .int .i64 0, .int .i64 0, .string akey, .int .i64 apg, .bool false, .string ⟨#[]⟩, .string ⟨#[]⟩, .int .i64 0, .slice none 0 0]) rfl rfl dl_agg dl_size rfl ((Bk.new1 _ _ _ _).alloc _)) rfl ?_
      exact ⟨by first | rfl | simp, (((((Below.refl _ _).alloc (Nat.le_refl _) _).alloc (by simp) _).alloc (by simp; omega) _).drew).drew⟩
    | false =>
      go_enter Tryz.func36, Tryz.ntmps36
      go_wp2_with fail
      go_region
      go_wp2_with fail
      go_region
      go_wp2
      refine bodyPost_ret (results_two (T' := 30) (cs := [.int .i64 3, .string ⟨#[]⟩, .int .i64 0, .int .i64 0, .int .i64 0, .string akey, .int .i64 apg, .bool false, .string ⟨#[]⟩, .string ⟨#[]⟩, .int .i64 0, .slice none 0 0]) rfl rfl dl_agg dl_size rfl ((Bk.new1 _ _ _ _).alloc _)) rfl ?_
      exact ⟨by first | rfl | simp, (((((Below.refl _ _).alloc (Nat.le_refl _) _).alloc (by simp) _).alloc (by simp; omega) _).drew).drew⟩

set_option maxHeartbeats 4000000 in
theorem rbare_4 (aek : ByteArray) (aes aeg aec : Int) (akey : ByteArray) (apg : Int) (aleaf : Bool) (alo ahi : ByteArray) (ar : Int) (ap : Option Addr) (an ac : Nat) (w : World) (t : Bool) (c : Int) (hct : (c == 0) = t) (hq : ∀ W, Below w.heap.size w W → Calls Tryz.prog 25 #[.agg #[.bool aleaf, .string alo, .string ahi, .int .i64 ar, .slice ap an ac]] W fun e w' => e = .returned (.int .i64 c) ∧ Below W.heap.size W w') :
    Calls Tryz.prog 36 #[.agg #[.int .i64 4, .string aek, .int .i64 aes, .int .i64 aeg, .int .i64 aec, .string akey, .int .i64 apg, .bool aleaf, .string alo, .string ahi, .int .i64 ar, .slice ap an ac]] w fun r w' => r = .returned (.tuple #[.agg #[.int .i64 4, .string ⟨#[]⟩, .int .i64 0, .int .i64 0, .int .i64 0, .string ⟨#[]⟩, .int .i64 0, .bool aleaf, .string alo, .string ahi, .int .i64 ar, .slice ap an ac], .bool t]) ∧ Below w.heap.size w w' := by
  have HQ : Hid _ := hq
  clear hq
  go_enter Tryz.func36, Tryz.ntmps36
  go_wp2_with fail
  obtain ⟨w0, hw0⟩ : ∃ w0, (((w.alloc (.cells #[.int .i64 4, .string aek, .int .i64 aes, .int .i64 aeg, .int .i64 aec, .string akey, .int .i64 apg, .bool aleaf, .string alo, .string ahi, .int .i64 ar, .slice ap an ac] 30)).alloc (.cells #[.int .i64 0, .string ⟨#[]⟩, .int .i64 0, .int .i64 0, .int .i64 0, .string ⟨#[]⟩, .int .i64 0, .bool false, .string ⟨#[]⟩, .string ⟨#[]⟩, .int .i64 0, .slice none 0 0] 30)).alloc (.cells #[.int .i64 4, .string ⟨#[]⟩, .int .i64 0, .int .i64 0, .int .i64 0, .string ⟨#[]⟩, .int .i64 0, .bool aleaf, .string alo, .string ahi, .int .i64 ar, .slice ap an ac] 30)) = w0 := ⟨_, rfl⟩
  have hs0 : Bk w0.drew w.heap.size 30 #[.int .i64 4, .string aek, .int .i64 aes, .int .i64 aeg, .int .i64 aec, .string akey, .int .i64 apg, .bool aleaf, .string alo, .string ahi, .int .i64 ar, .slice ap an ac] ∧ Bk w0.drew (w.heap.size + 1 + 1) 30 #[.int .i64 4, .string ⟨#[]⟩, .int .i64 0, .int .i64 0, .int .i64 0, .string ⟨#[]⟩, .int .i64 0, .bool aleaf, .string alo, .string ahi, .int .i64 ar, .slice ap an ac] ∧ Below w.heap.size w w0.drew := by
    rw [← hw0]
    exact ⟨(((Bk.new _ _ _).alloc _).alloc _).drew, (Bk.new2 _ _ _ _ _).drew, ((((Below.refl _ _).alloc (Nat.le_refl _) _).alloc (by simp) _).alloc (by simp; omega) _).drew⟩
  have hz0 : Bk w0.drew (w.heap.size + 1) 30 #[.int .i64 0, .string ⟨#[]⟩, .int .i64 0, .int .i64 0, .int .i64 0, .string ⟨#[]⟩, .int .i64 0, .bool false, .string ⟨#[]⟩, .string ⟨#[]⟩, .int .i64 0, .slice none 0 0] := by rw [← hw0]; exact ((Bk.new1 _ _ _ _).alloc _).drew
  rw [hw0]
  clear hw0
  refine wp_region_mid (S := (fun w' => Bk w' w.heap.size 30 #[.int .i64 4, .string aek, .int .i64 aes, .int .i64 aeg, .int .i64 aec, .string akey, .int .i64 apg, .bool aleaf, .string alo, .string ahi, .int .i64 ar, .slice ap an ac] ∧ Bk w' (w.heap.size + 1 + 1) 30 #[.int .i64 4, .string ⟨#[]⟩, .int .i64 0, .int .i64 0, .int .i64 0, .string ⟨#[]⟩, .int .i64 0, .bool aleaf, .string alo, .string ahi, .int .i64 ar, .slice ap an ac] ∧ Below w.heap.size w w')) 7 (by kernel_rfl) ?_
  refine wpAnyM_take (i := 0) [] (oi := { dst := some 43, op := Op.load 30 (Operand.tmp 4), type := 30, pos := _, after := #[], guard := none }) (v := .agg #[.int .i64 4, .string ⟨#[]⟩, .int .i64 0, .int .i64 0, .int .i64 0, .string ⟨#[]⟩, .int .i64 0, .bool aleaf, .string alo, .string ahi, .int .i64 ar, .slice ap an ac]) rfl (by kernel_rfl) (by kernel_rfl) (by kernel_rfl) (by kernel_rfl) (fun _ _ _ h => h) (Or.inl ⟨by rfl, ?_⟩) hs0 ?_
  · (intro w' hSw; have m0 : w'.cell? ⟨w.heap.size, 0, none⟩ = some (.int .i64 4) := hSw.1.cell 0; have m1 : w'.cell? ⟨w.heap.size, 1, none⟩ = some (.string aek) := hSw.1.cell 1; have m2 : w'.cell? ⟨w.heap.size, 2, none⟩ = some (.int .i64 aes) := hSw.1.cell 2; have m3 : w'.cell? ⟨w.heap.size, 3, none⟩ = some (.int .i64 aeg) := hSw.1.cell 3; have m4 : w'.cell? ⟨w.heap.size, 4, none⟩ = some (.int .i64 aec) := hSw.1.cell 4; have m5 : w'.cell? ⟨w.heap.size, 5, none⟩ = some (.string akey) := hSw.1.cell 5; have m6 : w'.cell? ⟨w.heap.size, 6, none⟩ = some (.int .i64 apg) := hSw.1.cell 6; have m7 : w'.cell? ⟨w.heap.size, 7, none⟩ = some (.bool aleaf) := hSw.1.cell 7; have m8 : w'.cell? ⟨w.heap.size, 8, none⟩ = some (.string alo) := hSw.1.cell 8; have m9 : w'.cell? ⟨w.heap.size, 9, none⟩ = some (.string ahi) := hSw.1.cell 9; have m10 : w'.cell? ⟨w.heap.size, 10, none⟩ = some (.int .i64 ar) := hSw.1.cell 10; have m11 : w'.cell? ⟨w.heap.size, 11, none⟩ = some (.slice ap an ac) := hSw.1.cell 11; have n0 : w'.cell? ⟨w.heap.size + 1 + 1, 0, none⟩ = some (.int .i64 4) := hSw.2.1.cell 0; have n1 : w'.cell? ⟨w.heap.size + 1 + 1, 1, none⟩ = some (.string ⟨#[]⟩) := hSw.2.1.cell 1; have n2 : w'.cell? ⟨w.heap.size + 1 + 1, 2, none⟩ = some (.int .i64 0) := hSw.2.1.cell 2; have n3 : w'.cell? ⟨w.heap.size + 1 + 1, 3, none⟩ = some (.int .i64 0) := hSw.2.1.cell 3; have n4 : w'.cell? ⟨w.heap.size + 1 + 1, 4, none⟩ = some (.int .i64 0) := hSw.2.1.cell 4; have n5 : w'.cell? ⟨w.heap.size + 1 + 1, 5, none⟩ = some (.string ⟨#[]⟩) := hSw.2.1.cell 5; have n6 : w'.cell? ⟨w.heap.size + 1 + 1, 6, none⟩ = some (.int .i64 0) := hSw.2.1.cell 6; have n7 : w'.cell? ⟨w.heap.size + 1 + 1, 7, none⟩ = some (.bool aleaf) := hSw.2.1.cell 7; have n8 : w'.cell? ⟨w.heap.size + 1 + 1, 8, none⟩ = some (.string alo) := hSw.2.1.cell 8; have n9 : w'.cell? ⟨w.heap.size + 1 + 1, 9, none⟩ = some (.string ahi) := hSw.2.1.cell 9; have n10 : w'.cell? ⟨w.heap.size + 1 + 1, 10, none⟩ = some (.int .i64 ar) := hSw.2.1.cell 10; have n11 : w'.cell? ⟨w.heap.size + 1 + 1, 11, none⟩ = some (.slice ap an ac) := hSw.2.1.cell 11; go_simp; try with_reducible rfl)
  try simp only [Act.put, List.setIfInBounds_toArray, List.set_cons_zero, List.set_cons_succ]
  refine wpAnyM_take (i := 1) [] (oi := { dst := some 44, op := Op.fieldAddr 30 (Operand.tmp 1) 4, type := 0, pos := _, after := #[], guard := none }) (v := .pointer (some ⟨w.heap.size, 7, none⟩)) rfl (by kernel_rfl) (by kernel_rfl) (by kernel_rfl) (by kernel_rfl) (fun _ _ _ h => h) (Or.inl ⟨by rfl, ?_⟩) hs0 ?_
  · (intro w' hSw; go_simp; try with_reducible rfl)
  try simp only [Act.put, List.setIfInBounds_toArray, List.set_cons_zero, List.set_cons_succ]
  refine wpAnyM_take (i := 2) [] (oi := { dst := some 45, op := Op.load 24 (Operand.tmp 44), type := 24, pos := _, after := #[{ on := 1, ground := Ground.data }], guard := none }) (v := .agg #[.bool aleaf, .string alo, .string ahi, .int .i64 ar, .slice ap an ac]) rfl (by kernel_rfl) (by kernel_rfl) (by kernel_rfl) (by kernel_rfl) (fun _ _ _ h => h) (Or.inl ⟨by rfl, ?_⟩) hs0 ?_
  · (intro w' hSw; have m0 : w'.cell? ⟨w.heap.size, 0, none⟩ = some (.int .i64 4) := hSw.1.cell 0; have m1 : w'.cell? ⟨w.heap.size, 1, none⟩ = some (.string aek) := hSw.1.cell 1; have m2 : w'.cell? ⟨w.heap.size, 2, none⟩ = some (.int .i64 aes) := hSw.1.cell 2; have m3 : w'.cell? ⟨w.heap.size, 3, none⟩ = some (.int .i64 aeg) := hSw.1.cell 3; have m4 : w'.cell? ⟨w.heap.size, 4, none⟩ = some (.int .i64 aec) := hSw.1.cell 4; have m5 : w'.cell? ⟨w.heap.size, 5, none⟩ = some (.string akey) := hSw.1.cell 5; have m6 : w'.cell? ⟨w.heap.size, 6, none⟩ = some (.int .i64 apg) := hSw.1.cell 6; have m7 : w'.cell? ⟨w.heap.size, 7, none⟩ = some (.bool aleaf) := hSw.1.cell 7; have m8 : w'.cell? ⟨w.heap.size, 8, none⟩ = some (.string alo) := hSw.1.cell 8; have m9 : w'.cell? ⟨w.heap.size, 9, none⟩ = some (.string ahi) := hSw.1.cell 9; have m10 : w'.cell? ⟨w.heap.size, 10, none⟩ = some (.int .i64 ar) := hSw.1.cell 10; have m11 : w'.cell? ⟨w.heap.size, 11, none⟩ = some (.slice ap an ac) := hSw.1.cell 11; have n0 : w'.cell? ⟨w.heap.size + 1 + 1, 0, none⟩ = some (.int .i64 4) := hSw.2.1.cell 0; have n1 : w'.cell? ⟨w.heap.size + 1 + 1, 1, none⟩ = some (.string ⟨#[]⟩) := hSw.2.1.cell 1; have n2 : w'.cell? ⟨w.heap.size + 1 + 1, 2, none⟩ = some (.int .i64 0) := hSw.2.1.cell 2; have n3 : w'.cell? ⟨w.heap.size + 1 + 1, 3, none⟩ = some (.int .i64 0) := hSw.2.1.cell 3; have n4 : w'.cell? ⟨w.heap.size + 1 + 1, 4, none⟩ = some (.int .i64 0) := hSw.2.1.cell 4; have n5 : w'.cell? ⟨w.heap.size + 1 + 1, 5, none⟩ = some (.string ⟨#[]⟩) := hSw.2.1.cell 5; have n6 : w'.cell? ⟨w.heap.size + 1 + 1, 6, none⟩ = some (.int .i64 0) := hSw.2.1.cell 6; have n7 : w'.cell? ⟨w.heap.size + 1 + 1, 7, none⟩ = some (.bool aleaf) := hSw.2.1.cell 7; have n8 : w'.cell? ⟨w.heap.size + 1 + 1, 8, none⟩ = some (.string alo) := hSw.2.1.cell 8; have n9 : w'.cell? ⟨w.heap.size + 1 + 1, 9, none⟩ = some (.string ahi) := hSw.2.1.cell 9; have n10 : w'.cell? ⟨w.heap.size + 1 + 1, 10, none⟩ = some (.int .i64 ar) := hSw.2.1.cell 10; have n11 : w'.cell? ⟨w.heap.size + 1 + 1, 11, none⟩ = some (.slice ap an ac) := hSw.2.1.cell 11; go_simp; try with_reducible rfl)
  try simp only [Act.put, List.setIfInBounds_toArray, List.set_cons_zero, List.set_cons_succ]
  refine wpAnyM_ready (rs := [3]) (by kernel_rfl) (by simp) ?_
  refine AllReadyM.cons (o := { dst := some 46, op := Op.call { callee := Callee.value (Operand.func 25), args := #[Operand.tmp 45], argTypes := #[24] }, type := 31, pos := _, after := #[{ on := 2, ground := Ground.data }], guard := none }) rfl (fun K hK => ?_) AllReadyM.nil
  have HK9 : Hid (∀ a w, _ → K a w) := hK
  clear hK
  go_simp
  refine (HQ.out _ hs0.2.2).mono ?_
  rintro e w1 ⟨rfl, hb⟩
  have hs1 : Bk w1 w.heap.size 30 #[.int .i64 4, .string aek, .int .i64 aes, .int .i64 aeg, .int .i64 aec, .string akey, .int .i64 apg, .bool aleaf, .string alo, .string ahi, .int .i64 ar, .slice ap an ac] ∧ Bk w1 (w.heap.size + 1 + 1) 30 #[.int .i64 4, .string ⟨#[]⟩, .int .i64 0, .int .i64 0, .int .i64 0, .string ⟨#[]⟩, .int .i64 0, .bool aleaf, .string alo, .string ahi, .int .i64 ar, .slice ap an ac] ∧ Below w.heap.size w w1 := ⟨hs0.1.below hb hs0.1.lt, hs0.2.1.below hb hs0.2.1.lt, hs0.2.2.trans (hb.mono hs0.2.2.size)⟩
  have hz1 := hz0.below hb hz0.lt
  clear hb
  refine HK9.out _ _ ⟨fun _ => hs1, ?_⟩
  clear HK9 K
  try simp only [Act.put, List.setIfInBounds_toArray, List.set_cons_zero, List.set_cons_succ]
  refine wpAnyM_take (i := 4) [] (oi := { dst := some 47, op := Op.binOp BinOp.eql 31 (Operand.tmp 46) (Operand.const (Value.int IntKind.i64 0)) 31, type := 4, pos := _, after := #[{ on := 3, ground := Ground.data }, { on := 5, ground := Ground.gcOnly Departure.lateStores }], guard := none }) (v := .bool t) rfl (by kernel_rfl) (by kernel_rfl) (by kernel_rfl) (by kernel_rfl) (fun _ _ _ h => h) (Or.inl ⟨by rfl, ?_⟩) hs1 ?_
  · (intro w' hSw; go_simp; try with_reducible rfl)
  try simp only [Act.put, List.setIfInBounds_toArray, List.set_cons_zero, List.set_cons_succ]
  have z0 : w1.cell? ⟨w.heap.size + 1, 0, none⟩ = some (.int .i64 0) := hz1.cell 0
  have zf0 : w1.frozen? ⟨w.heap.size + 1, 0, none⟩ = false := hz1.frozen 0
  have z1 : w1.cell? ⟨w.heap.size + 1, 1, none⟩ = some (.string ⟨#[]⟩) := hz1.cell 1
  have zf1 : w1.frozen? ⟨w.heap.size + 1, 1, none⟩ = false := hz1.frozen 1
  have z2 : w1.cell? ⟨w.heap.size + 1, 2, none⟩ = some (.int .i64 0) := hz1.cell 2
  have zf2 : w1.frozen? ⟨w.heap.size + 1, 2, none⟩ = false := hz1.frozen 2
  have z3 : w1.cell? ⟨w.heap.size + 1, 3, none⟩ = some (.int .i64 0) := hz1.cell 3
  have zf3 : w1.frozen? ⟨w.heap.size + 1, 3, none⟩ = false := hz1.frozen 3
  have z4 : w1.cell? ⟨w.heap.size + 1, 4, none⟩ = some (.int .i64 0) := hz1.cell 4
  have zf4 : w1.frozen? ⟨w.heap.size + 1, 4, none⟩ = false := hz1.frozen 4
  have z5 : w1.cell? ⟨w.heap.size + 1, 5, none⟩ = some (.string ⟨#[]⟩) := hz1.cell 5
  have zf5 : w1.frozen? ⟨w.heap.size + 1, 5, none⟩ = false := hz1.frozen 5
  have z6 : w1.cell? ⟨w.heap.size + 1, 6, none⟩ = some (.int .i64 0) := hz1.cell 6
  have zf6 : w1.frozen? ⟨w.heap.size + 1, 6, none⟩ = false := hz1.frozen 6
  have z7 : w1.cell? ⟨w.heap.size + 1, 7, none⟩ = some (.bool false) := hz1.cell 7
  have zf7 : w1.frozen? ⟨w.heap.size + 1, 7, none⟩ = false := hz1.frozen 7
  have z8 : w1.cell? ⟨w.heap.size + 1, 8, none⟩ = some (.string ⟨#[]⟩) := hz1.cell 8
  have zf8 : w1.frozen? ⟨w.heap.size + 1, 8, none⟩ = false := hz1.frozen 8
  have z9 : w1.cell? ⟨w.heap.size + 1, 9, none⟩ = some (.string ⟨#[]⟩) := hz1.cell 9
  have zf9 : w1.frozen? ⟨w.heap.size + 1, 9, none⟩ = false := hz1.frozen 9
  have z10 : w1.cell? ⟨w.heap.size + 1, 10, none⟩ = some (.int .i64 0) := hz1.cell 10
  have zf10 : w1.frozen? ⟨w.heap.size + 1, 10, none⟩ = false := hz1.frozen 10
  have z11 : w1.cell? ⟨w.heap.size + 1, 11, none⟩ = some (.slice none 0 0) := hz1.cell 11
  have zf11 : w1.frozen? ⟨w.heap.size + 1, 11, none⟩ = false := hz1.frozen 11
  refine wpAnyM_ready (rs := [5]) (by kernel_rfl) (by simp) ?_
  refine AllReadyM.cons (o := { dst := none, op := Op.store 30 (Operand.tmp 2) (Operand.tmp 43), type := 0, pos := _, after := #[{ on := 0, ground := Ground.data }, { on := 3, ground := Ground.chain }, { on := 0, ground := Ground.phase }, { on := 1, ground := Ground.textOnly Departure.lateStores }, { on := 2, ground := Ground.textOnly Departure.lateStores }, { on := 3, ground := Ground.textOnly Departure.lateStoresUnsure }, { on := 4, ground := Ground.textOnly Departure.lateStores }], guard := none }) rfl (fun K hK => ?_) AllReadyM.nil
  have HK9 : Hid (∀ a w, _ → K a w) := hK
  clear hK
  go_simp
  clear z0 zf0 z1 zf1 z2 zf2 z3 zf3 z4 zf4 z5 zf5 z6 zf6 z7 zf7 z8 zf8 z9 zf9 z10 zf10 z11 zf11
  have k1 := hz1.twelve (.int .i64 4) (.string ⟨#[]⟩) (.int .i64 0) (.int .i64 0) (.int .i64 0) (.string ⟨#[]⟩) (.int .i64 0) (.bool aleaf) (.string alo) (.string ahi) (.int .i64 ar) (.slice ap an ac)
  have ht : Tn [w.heap.size + 1] w1 _ := (Tn.refl _ w1).twelve (R := w.heap.size + 1) (.inl (by simp)) (.int .i64 4) (.string ⟨#[]⟩) (.int .i64 0) (.int .i64 0) (.int .i64 0) (.string ⟨#[]⟩) (.int .i64 0) (.bool aleaf) (.string alo) (.string ahi) (.int .i64 ar) (.slice ap an ac)
  have hbe := hs1.2.2.trans (ht.below hs1.2.2.size (by simp))
  obtain ⟨w2, hw2, k1, hbe, hs2⟩ : ∃ w2, ((((((((((((w1.setCell ⟨w.heap.size + 1, 0, none⟩ (.int .i64 4)).setCell ⟨w.heap.size + 1, 1, none⟩ (.string ⟨#[]⟩)).setCell ⟨w.heap.size + 1, 2, none⟩ (.int .i64 0)).setCell ⟨w.heap.size + 1, 3, none⟩ (.int .i64 0)).setCell ⟨w.heap.size + 1, 4, none⟩ (.int .i64 0)).setCell ⟨w.heap.size + 1, 5, none⟩ (.string ⟨#[]⟩)).setCell ⟨w.heap.size + 1, 6, none⟩ (.int .i64 0)).setCell ⟨w.heap.size + 1, 7, none⟩ (.bool aleaf)).setCell ⟨w.heap.size + 1, 8, none⟩ (.string alo)).setCell ⟨w.heap.size + 1, 9, none⟩ (.string ahi)).setCell ⟨w.heap.size + 1, 10, none⟩ (.int .i64 ar)).setCell ⟨w.heap.size + 1, 11, none⟩ (.slice ap an ac)) = w2 ∧ Bk w2 (w.heap.size + 1) 30 #[.int .i64 4, .string ⟨#[]⟩, .int .i64 0, .int .i64 0, .int .i64 0, .string ⟨#[]⟩, .int .i64 0, .bool aleaf, .string alo, .string ahi, .int .i64 ar, .slice ap an ac] ∧ Below w.heap.size w w2 ∧ (Bk w2 w.heap.size 30 #[.int .i64 4, .string aek, .int .i64 aes, .int .i64 aeg, .int .i64 aec, .string akey, .int .i64 apg, .bool aleaf, .string alo, .string ahi, .int .i64 ar, .slice ap an ac] ∧ Bk w2 (w.heap.size + 1 + 1) 30 #[.int .i64 4, .string ⟨#[]⟩, .int .i64 0, .int .i64 0, .int .i64 0, .string ⟨#[]⟩, .int .i64 0, .bool aleaf, .string alo, .string ahi, .int .i64 ar, .slice ap an ac] ∧ Below w.heap.size w w2) := ⟨_, rfl, k1, hbe, hs1.1.tn ht (by simp), hs1.2.1.tn ht (by simp), hbe⟩
  rw [hw2]
  clear hw2 ht
  refine HK9.out _ _ ⟨fun _ => hs2, ?_⟩
  clear HK9 K
  try simp only [Act.put, List.setIfInBounds_toArray, List.set_cons_zero, List.set_cons_succ]
  refine wpAnyM_ready (rs := [6]) (by kernel_rfl) (by simp) ?_
  refine AllReadyM.cons (o := { dst := some 3, op := Op.assign (Operand.tmp 47), type := 4, pos := _, after := #[{ on := 4, ground := Ground.data }, { on := 5, ground := Ground.chain }, { on := 0, ground := Ground.phase }, { on := 1, ground := Ground.phase }, { on := 2, ground := Ground.phase }, { on := 3, ground := Ground.phase }, { on := 4, ground := Ground.phase }, { on := 5, ground := Ground.phase }], guard := none }) rfl (fun K hK => ?_) AllReadyM.nil
  have HK9 : Hid (∀ a w, _ → K a w) := hK
  clear hK
  go_simp
  refine HK9.out _ _ ⟨fun _ => hs2, ?_⟩
  clear HK9 K
  try simp only [Act.put, List.setIfInBounds_toArray, List.set_cons_zero, List.set_cons_succ]
  refine wpAnyM_done (by kernel_rfl) ?_ _
  have HK1 : Hid _ := k1
  have HBE : Hid _ := hbe
  clear k1 hbe hs0 hs1 hs2 hz0 hz1 HQ hct
  go_wp2
  refine bodyPost_ret (results_two (T' := 30) (cs := [.int .i64 4, .string ⟨#[]⟩, .int .i64 0, .int .i64 0, .int .i64 0, .string ⟨#[]⟩, .int .i64 0, .bool aleaf, .string alo, .string ahi, .int .i64 ar, .slice ap an ac]) rfl rfl dl_agg dl_size rfl HK1.out) rfl ?_
  exact ⟨rfl, HBE.out⟩

set_option maxHeartbeats 4000000 in
theorem rbare_5 (aek : ByteArray) (aes aeg aec : Int) (akey : ByteArray) (apg : Int) (aleaf : Bool) (alo ahi : ByteArray) (ar : Int) (ap : Option Addr) (an ac : Nat) (w : World) :
    Calls Tryz.prog 36 #[.agg #[.int .i64 5, .string aek, .int .i64 aes, .int .i64 aeg, .int .i64 aec, .string akey, .int .i64 apg, .bool aleaf, .string alo, .string ahi, .int .i64 ar, .slice ap an ac]] w fun r w' => r = .returned (.tuple #[.agg #[.int .i64 5, .string ⟨#[]⟩, .int .i64 0, .int .i64 0, .int .i64 0, .string ⟨#[]⟩, .int .i64 apg, .bool false, .string ⟨#[]⟩, .string ⟨#[]⟩, .int .i64 0, .slice none 0 0], .bool (decide (1 ≤ apg))]) ∧ Below w.heap.size w w' := by
  go_enter Tryz.func36, Tryz.ntmps36
  go_wp2_with fail
  go_region
  go_wp2
  refine bodyPost_ret (results_two (T' := 30) (cs := [.int .i64 5, .string ⟨#[]⟩, .int .i64 0, .int .i64 0, .int .i64 0, .string ⟨#[]⟩, .int .i64 apg, .bool false, .string ⟨#[]⟩, .string ⟨#[]⟩, .int .i64 0, .slice none 0 0]) rfl rfl dl_agg dl_size rfl ((Bk.new1 _ _ _ _).alloc _)) rfl ?_
  exact ⟨by simp, ((((Below.refl _ _).alloc (Nat.le_refl _) _).alloc (by simp) _).alloc (by simp; omega) _).drew⟩

set_option maxHeartbeats 4000000 in
theorem rbare_0 (ak : Int) (k1 : (ak == 1) = false) (k2 : (ak == 2) = false) (k3 : (ak == 3) = false) (k4 : (ak == 4) = false) (k5 : (ak == 5) = false) (aek : ByteArray) (aes aeg aec : Int) (akey : ByteArray) (apg : Int) (aleaf : Bool) (alo ahi : ByteArray) (ar : Int) (ap : Option Addr) (an ac : Nat) (w : World) :
    Calls Tryz.prog 36 #[.agg #[.int .i64 ak, .string aek, .int .i64 aes, .int .i64 aeg, .int .i64 aec, .string akey, .int .i64 apg, .bool aleaf, .string alo, .string ahi, .int .i64 ar, .slice ap an ac]] w fun r w' => r = .returned (.tuple #[.agg #[.int .i64 ak, .string ⟨#[]⟩, .int .i64 0, .int .i64 0, .int .i64 0, .string ⟨#[]⟩, .int .i64 0, .bool false, .string ⟨#[]⟩, .string ⟨#[]⟩, .int .i64 0, .slice none 0 0], .bool false]) ∧ Below w.heap.size w w' := by
  go_enter Tryz.func36, Tryz.ntmps36
  go_wp2
  refine bodyPost_ret (results_two (T' := 30) (cs := [.int .i64 ak, .string ⟨#[]⟩, .int .i64 0, .int .i64 0, .int .i64 0, .string ⟨#[]⟩, .int .i64 0, .bool false, .string ⟨#[]⟩, .string ⟨#[]⟩, .int .i64 0, .slice none 0 0]) rfl rfl dl_agg dl_size rfl ((Bk.new1 _ _ _ _).alloc _)) rfl ?_
  exact ⟨rfl, (((Below.refl _ _).alloc (Nat.le_refl _) _).alloc (by simp) _).alloc (by simp; omega) _⟩

theorem rbare_any (a : De) (ap : Option Addr) (an ac : Nat) (w : World) (hna : a.rt.l.length = an) (ha : Ens w ap a.rt.l) (hl : an ≤ 4398046511104) :
    Calls Tryz.prog 36 #[dlv a.k a.e a.key a.pg a.rt.leaf a.rt.lo a.rt.hi a.rt.r ap an ac] w fun r w' => r = .returned (.tuple #[Dl.nv a ap an ac, .bool (Dl.fits a)]) ∧ Below w.heap.size w w' := by
  obtain ⟨ak, ⟨aek, aes, aeg, aec⟩, akey, apg, ⟨aleaf, alo, ahi, ar, al⟩⟩ := a
  simp only at *
  by_cases h1 : ak = 1
  · subst h1
    exact rbare_1 aek aes aeg aec akey apg aleaf alo ahi ar ap an ac w
  · by_cases h2 : ak = 2
    · subst h2
      exact rbare_2 aek aes aeg aec akey apg aleaf alo ahi ar ap an ac w
    · by_cases h3 : ak = 3
      · subst h3
        have := rbare_3 aek aes aeg aec akey apg aleaf alo ahi ar ap an ac w
        rw [Bool.and_comm] at this
        exact this
      · by_cases h4 : ak = 4
        · subst h4
          have hq := fun (W : World) (h : Below w.heap.size w W) => rcheck_any aleaf alo ahi ar ap an ac al W hna (ha.below h (Nat.le_refl _)) hl
          exact rbare_4 aek aes aeg aec akey apg aleaf alo ahi ar ap an ac w (Pg.may aleaf ⟨alo, ahi⟩ ar al) _ (by cases Pg.may aleaf ⟨alo, ahi⟩ ar al <;> rfl) hq
        · by_cases h5 : ak = 5
          · subst h5
            exact rbare_5 aek aes aeg aec akey apg aleaf alo ahi ar ap an ac w
          · have := rbare_0 ak (by simp [h1]) (by simp [h2]) (by simp [h3]) (by simp [h4]) (by simp [h5]) aek aes aeg aec akey apg aleaf alo ahi ar ap an ac w
            unfold Dl.nv Dl.named Dl.fits
            simp only [h1, h2, h3, h4, h5, if_false]
            exact this

theorem Pg.same_comm (a b : Pp) : Pg.same a b = Pg.same b a := by
  have h1 : Pg.eqL a.l b.l = Pg.eqL b.l a.l := by
    rw [Bool.eq_iff_iff, Pg.eqL_iff, Pg.eqL_iff]
    exact ⟨Eq.symm, Eq.symm⟩
  unfold Pg.same
  rw [h1, Bool.beq_comm (a := a.leaf), Bool.beq_comm (a := a.lo.toList), Bool.beq_comm (a := a.hi.toList), Bool.beq_comm (a := a.r)]

theorem Dl.same_comm (a b : De) : Dl.same a b = Dl.same b a := by
  have h1 : En.eqb a.e b.e = En.eqb b.e a.e := by
    rw [Bool.eq_iff_iff, En.eqb_iff, En.eqb_iff]
    exact ⟨Eq.symm, Eq.symm⟩
  unfold Dl.same
  rw [Pg.same_comm, h1, Bool.beq_comm (a := a.k), Bool.beq_comm (a := a.key.toList), Bool.beq_comm (a := a.pg)]

set_option maxHeartbeats 2000000 in
theorem rdcheck_any (a : De) (ap : Option Addr) (an ac : Nat) (w : World) (hna : a.rt.l.length = an) (ha : Ens w ap a.rt.l) (hl : an ≤ 4398046511104) :
    Calls Tryz.prog 15 #[dlv a.k a.e a.key a.pg a.rt.leaf a.rt.lo a.rt.hi a.rt.r ap an ac] w fun r w' => r = .returned (.int .i64 (if Dl.may a then 0 else 90)) ∧ Below w.heap.size w w' := by
  have hq := fun (W : World) (h : Below w.heap.size w W) => rbare_any a ap an ac W hna (ha.below h (Nat.le_refl _)) hl
  have hs := fun (W : World) (h : Below w.heap.size w W) => drsame_any (Dl.named a) a (if a.k = 4 then ap else none) ap (if a.k = 4 then an else 0) an (if a.k = 4 then ac else 0) ac W (Dl.named_len hna) hna (Dl.named_ens (ha.below h (Nat.le_refl _))) (ha.below h (Nat.le_refl _)) (by split <;> omega)
  rw [Dl.same_comm] at hs
  obtain ⟨v, HM⟩ : ∃ v : Int, Hid ((if (Dl.same a (Dl.named a) && Dl.fits a) then 0 else 90 : Int) = v) := ⟨_, rfl⟩
  rw [show (if Dl.may a then 0 else 90 : Int) = v from HM.out]
  generalize Dl.same a (Dl.named a) = s at *
  generalize Dl.fits a = t at *
  unfold Dl.nv at hq
  obtain ⟨⟨nk, ⟨nek, nes, neg, nec⟩, nkey, npg, ⟨nleaf, nlo, nhi, nr, nl⟩⟩, hn⟩ : ∃ n, Dl.named a = n := ⟨_, rfl⟩
  rw [hn] at hq hs
  clear hn
  obtain ⟨np, hnp⟩ : ∃ np, (if a.k = 4 then ap else none) = np := ⟨_, rfl⟩
  obtain ⟨nn, hnn⟩ : ∃ nn, (if a.k = 4 then an else 0) = nn := ⟨_, rfl⟩
  obtain ⟨nc, hnc⟩ : ∃ nc, (if a.k = 4 then ac else 0) = nc := ⟨_, rfl⟩
  rw [hnp, hnn, hnc] at hq hs
  clear hnp hnn hnc
  have HQ : Hid _ := hq
  have HS : Hid _ := hs
  clear hq hs ha hna
  obtain ⟨ak, ⟨aek, aes, aeg, aec⟩, akey, apg, ⟨aleaf, alo, ahi, ar, al⟩⟩ := a
  simp only at *
  obtain ⟨w0, hw0⟩ : ∃ w0, w.alloc (.cells #[.int .i64 ak, .string aek, .int .i64 aes, .int .i64 aeg, .int .i64 aec, .string akey, .int .i64 apg, .bool aleaf, .string alo, .string ahi, .int .i64 ar, .slice ap an ac] 30) = w0 := ⟨_, rfl⟩
  have HB0 : Hid (Below w.heap.size w w0) := by rw [← hw0]; exact (Below.refl _ _).alloc (Nat.le_refl _) _
  have HK0 : Hid (Bk w0 w.heap.size 30 #[.int .i64 ak, .string aek, .int .i64 aes, .int .i64 aeg, .int .i64 aec, .string akey, .int .i64 apg, .bool aleaf, .string alo, .string ahi, .int .i64 ar, .slice ap an ac]) := by rw [← hw0]; exact Bk.new _ _ _
  have a0 : w0.cell? ⟨w.heap.size, 0, none⟩ = some (.int .i64 ak) := HK0.out.cell 0
  have a1 : w0.cell? ⟨w.heap.size, 1, none⟩ = some (.string aek) := HK0.out.cell 1
  have a2 : w0.cell? ⟨w.heap.size, 2, none⟩ = some (.int .i64 aes) := HK0.out.cell 2
  have a3 : w0.cell? ⟨w.heap.size, 3, none⟩ = some (.int .i64 aeg) := HK0.out.cell 3
  have a4 : w0.cell? ⟨w.heap.size, 4, none⟩ = some (.int .i64 aec) := HK0.out.cell 4
  have a5 : w0.cell? ⟨w.heap.size, 5, none⟩ = some (.string akey) := HK0.out.cell 5
  have a6 : w0.cell? ⟨w.heap.size, 6, none⟩ = some (.int .i64 apg) := HK0.out.cell 6
  have a7 : w0.cell? ⟨w.heap.size, 7, none⟩ = some (.bool aleaf) := HK0.out.cell 7
  have a8 : w0.cell? ⟨w.heap.size, 8, none⟩ = some (.string alo) := HK0.out.cell 8
  have a9 : w0.cell? ⟨w.heap.size, 9, none⟩ = some (.string ahi) := HK0.out.cell 9
  have a10 : w0.cell? ⟨w.heap.size, 10, none⟩ = some (.int .i64 ar) := HK0.out.cell 10
  have a11 : w0.cell? ⟨w.heap.size, 11, none⟩ = some (.slice ap an ac) := HK0.out.cell 11
  go_enter Tryz.func15, Tryz.ntmps15
  go_wp2_with fail
  refine (HQ.out _ HB0.out).mono ?_
  rintro e w1 ⟨rfl, hb1⟩
  clear a0 a1 a2 a3 a4 a5 a6 a7 a8 a9 a10 a11
  have HB1 : Hid (Below w.heap.size w w1) := HB0.out.trans (hb1.mono HB0.out.size)
  have HK1 : Hid (Bk w1 w.heap.size 30 #[.int .i64 ak, .string aek, .int .i64 aes, .int .i64 aeg, .int .i64 aec, .string akey, .int .i64 apg, .bool aleaf, .string alo, .string ahi, .int .i64 ar, .slice ap an ac]) := HK0.out.below hb1 HK0.out.lt
  clear hb1 hw0 HK0 HB0 HQ
  obtain ⟨w2, hw2⟩ : ∃ w2, w1.alloc (.cells #[.int .i64 nk, .string nek, .int .i64 nes, .int .i64 neg, .int .i64 nec, .string nkey, .int .i64 npg, .bool nleaf, .string nlo, .string nhi, .int .i64 nr, .slice np nn nc] 30) = w2 := ⟨_, rfl⟩
  have hb2 : Below w1.heap.size w1 w2 := by rw [← hw2]; exact (Below.refl _ _).alloc (Nat.le_refl _) _
  have HB2 : Hid (Below w.heap.size w w2) := HB1.out.trans (hb2.mono HB1.out.size)
  have HK2 : Hid (Bk w2 w.heap.size 30 #[.int .i64 ak, .string aek, .int .i64 aes, .int .i64 aeg, .int .i64 aec, .string akey, .int .i64 apg, .bool aleaf, .string alo, .string ahi, .int .i64 ar, .slice ap an ac]) := HK1.out.below hb2 HK1.out.lt
  have HN2 : Hid (Bk w2 w1.heap.size 30 #[.int .i64 nk, .string nek, .int .i64 nes, .int .i64 neg, .int .i64 nec, .string nkey, .int .i64 npg, .bool nleaf, .string nlo, .string nhi, .int .i64 nr, .slice np nn nc]) := by rw [← hw2]; exact Bk.new _ _ _
  clear hb2 HB1 HK1
  have a0 : w2.cell? ⟨w.heap.size, 0, none⟩ = some (.int .i64 ak) := HK2.out.cell 0
  have a1 : w2.cell? ⟨w.heap.size, 1, none⟩ = some (.string aek) := HK2.out.cell 1
  have a2 : w2.cell? ⟨w.heap.size, 2, none⟩ = some (.int .i64 aes) := HK2.out.cell 2
  have a3 : w2.cell? ⟨w.heap.size, 3, none⟩ = some (.int .i64 aeg) := HK2.out.cell 3
  have a4 : w2.cell? ⟨w.heap.size, 4, none⟩ = some (.int .i64 aec) := HK2.out.cell 4
  have a5 : w2.cell? ⟨w.heap.size, 5, none⟩ = some (.string akey) := HK2.out.cell 5
  have a6 : w2.cell? ⟨w.heap.size, 6, none⟩ = some (.int .i64 apg) := HK2.out.cell 6
  have a7 : w2.cell? ⟨w.heap.size, 7, none⟩ = some (.bool aleaf) := HK2.out.cell 7
  have a8 : w2.cell? ⟨w.heap.size, 8, none⟩ = some (.string alo) := HK2.out.cell 8
  have a9 : w2.cell? ⟨w.heap.size, 9, none⟩ = some (.string ahi) := HK2.out.cell 9
  have a10 : w2.cell? ⟨w.heap.size, 10, none⟩ = some (.int .i64 ar) := HK2.out.cell 10
  have a11 : w2.cell? ⟨w.heap.size, 11, none⟩ = some (.slice ap an ac) := HK2.out.cell 11
  have n0 : w2.cell? ⟨w1.heap.size, 0, none⟩ = some (.int .i64 nk) := HN2.out.cell 0
  have n1 : w2.cell? ⟨w1.heap.size, 1, none⟩ = some (.string nek) := HN2.out.cell 1
  have n2 : w2.cell? ⟨w1.heap.size, 2, none⟩ = some (.int .i64 nes) := HN2.out.cell 2
  have n3 : w2.cell? ⟨w1.heap.size, 3, none⟩ = some (.int .i64 neg) := HN2.out.cell 3
  have n4 : w2.cell? ⟨w1.heap.size, 4, none⟩ = some (.int .i64 nec) := HN2.out.cell 4
  have n5 : w2.cell? ⟨w1.heap.size, 5, none⟩ = some (.string nkey) := HN2.out.cell 5
  have n6 : w2.cell? ⟨w1.heap.size, 6, none⟩ = some (.int .i64 npg) := HN2.out.cell 6
  have n7 : w2.cell? ⟨w1.heap.size, 7, none⟩ = some (.bool nleaf) := HN2.out.cell 7
  have n8 : w2.cell? ⟨w1.heap.size, 8, none⟩ = some (.string nlo) := HN2.out.cell 8
  have n9 : w2.cell? ⟨w1.heap.size, 9, none⟩ = some (.string nhi) := HN2.out.cell 9
  have n10 : w2.cell? ⟨w1.heap.size, 10, none⟩ = some (.int .i64 nr) := HN2.out.cell 10
  have n11 : w2.cell? ⟨w1.heap.size, 11, none⟩ = some (.slice np nn nc) := HN2.out.cell 11
  cases t with
  | false =>
    have HF : Hid (v = 90) := by rw [Hid, ← HM.out, Bool.and_false]; rfl
    go_wp2
    go_ret
    exact ⟨by rw [HF.out]; rfl, HB2.out⟩
  | true =>
    go_wp2_with fail
    refine (HS.out _ HB2.out).mono ?_
    rintro e w3 ⟨rfl, hb3⟩
    have HB3 : Hid (Below w.heap.size w w3) := HB2.out.trans (hb3.mono HB2.out.size)
    clear hb3 hw2
    clear a0 a1 a2 a3 a4 a5 a6 a7 a8 a9 a10 a11
    clear n0 n1 n2 n3 n4 n5 n6 n7 n8 n9 n10 n11
    cases s with
    | false =>
      have HF : Hid (v = 90) := HM.out.symm
      go_wp2
      go_ret
      exact ⟨by rw [HF.out]; rfl, HB3.out⟩
    | true =>
      have HF : Hid (v = 0) := HM.out.symm
      go_wp2
      go_ret
      exact ⟨by rw [HF.out]; rfl, HB3.out⟩

end Go.Proofs.YtkmlholjglmfnaaGreat
