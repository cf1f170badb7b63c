/- DeltaSame: which deltas are the same: as the document has it. -/
import Derived.Test.YtkmlholjglmfnaaGreatDlV
import Derived.Test.YtkmlholjglmfnaaGreatDlS
import Derived.Test.YtkmlholjglmfnaaGreatDlOpen
import Derived.Test.YtkmlholjglmfnaaGreatRgM
namespace Go.Proofs.YtkmlholjglmfnaaGreat
open Go.ChangeShapes Go.WideShapes Go.ChangeAt Go.RowKit Go.Sort
open Go.ChangeMaps (open_string shut_string)
set_option linter.unusedVariables false
set_option linter.unusedSimpArgs false
set_option maxRecDepth 100000

theorem down_at {w : World} {base : Nat} {p : Option Addr} {len cap : Nat} {l : List En} (h : OwnE w base (.slice p len cap) l) : Ens w p l := by
  obtain ⟨q, c, hv, he, -⟩ := h.ens
  cases hv
  exact he

set_option maxHeartbeats 8000000 in
theorem walkd_deltaSame (ak : Int) (aek : ByteArray) (aes aeg aec : Int) (akey : ByteArray) (apg : Int) (aleaf : Bool) (alo ahi : ByteArray) (ar : Int) (al : List En) (ap : Option Addr) (an ac : Nat) (bk : Int) (bek : ByteArray) (bes beg bec : Int) (bkey : ByteArray) (bpg : Int) (bleaf : Bool) (blo bhi : ByteArray) (br : Int) (bl : List En) (bp : Option Addr) (bn bc : Nat) (w : World) (ha : InE 3518437208780 w ap an ac al) (hb : InE 3518437208780 w bp bn bc bl) :
    Calls Tryz.prog 5 #[.agg #[.int .i64 ak, .string aek, .int .i64 aes, .int .i64 aeg, .int .i64 aec, .string akey, .int .i64 apg, .bool aleaf, .string alo, .string ahi, .int .i64 ar, .slice ap an ac], .agg #[.int .i64 bk, .string bek, .int .i64 bes, .int .i64 beg, .int .i64 bec, .string bkey, .int .i64 bpg, .bool bleaf, .string blo, .string bhi, .int .i64 br, .slice bp bn bc]] w fun e w' => e = .returned (.bool true) ∧ Below w.heap.size w w' := by
  obtain ⟨w0, hw0⟩ : ∃ w0, (w.alloc (.cells #[.int .i64 ak, .string aek, .int .i64 aes, .int .i64 aeg, .int .i64 aec, .string akey, .int .i64 apg, .bool aleaf, .string alo, .string ahi, .int .i64 ar, .slice ap an ac] 30)).alloc (.cells #[.int .i64 bk, .string bek, .int .i64 bes, .int .i64 beg, .int .i64 bec, .string bkey, .int .i64 bpg, .bool bleaf, .string blo, .string bhi, .int .i64 br, .slice bp bn bc] 30) = w0 := ⟨_, rfl⟩
  have hB : Below w.heap.size w w0 := by rw [← hw0]; exact ((Below.refl _ _).alloc (Nat.le_refl _) _).alloc (by simp) _
  have hz : w.heap.size + 2 ≤ w0.heap.size := by rw [← hw0]; simp
  have hka : Bk w0 w.heap.size 30 #[.int .i64 ak, .string aek, .int .i64 aes, .int .i64 aeg, .int .i64 aec, .string akey, .int .i64 apg, .bool aleaf, .string alo, .string ahi, .int .i64 ar, .slice ap an ac] := by rw [← hw0]; exact (Bk.new _ _ _).alloc _
  have hkb : Bk w0 (w.heap.size + 1) 30 #[.int .i64 bk, .string bek, .int .i64 bes, .int .i64 beg, .int .i64 bec, .string bkey, .int .i64 bpg, .bool bleaf, .string blo, .string bhi, .int .i64 br, .slice bp bn bc] := by rw [← hw0]; exact Bk.new1 _ _ _ _
  have HX : Hid (∀ W, Below w0.heap.size w0 W → Ens W ap al ∧ Ens W bp bl ∧ w0.heap.size ≤ W.heap.size ∧ (Bk W w.heap.size 30 #[.int .i64 ak, .string aek, .int .i64 aes, .int .i64 aeg, .int .i64 aec, .string akey, .int .i64 apg, .bool aleaf, .string alo, .string ahi, .int .i64 ar, .slice ap an ac] ∧ Bk W (w.heap.size + 1) 30 #[.int .i64 bk, .string bek, .int .i64 bes, .int .i64 beg, .int .i64 bec, .string bkey, .int .i64 bpg, .bool bleaf, .string blo, .string bhi, .int .i64 br, .slice bp bn bc])) := fun W h => ⟨(ha.ens.below hB (Nat.le_refl _)).below h (Nat.le_refl _), (hb.ens.below hB (Nat.le_refl _)).below h (Nat.le_refl _), h.size, hka.below h hka.lt, hkb.below h hkb.lt⟩
  have HNa : Hid (al.length = an) := ha.lenq
  have HNb : Hid (bl.length = bn) := hb.lenq
  have HPa : Hid (ap = none → an = 0) := fun h => (ha.nil h).1
  have hl : an ≤ 4398046511104 := by have := ha.room; omega
  have hl2 : an ≤ 3518437208782 := by have := ha.room; omega
  have HB0 : Hid (Below w.heap.size w w0) := hB
  obtain ⟨sv, HV⟩ : ∃ sv, Hid (Dl.same ⟨ak, ⟨aek, aes, aeg, aec⟩, akey, apg, ⟨aleaf, alo, ahi, ar, al⟩⟩ ⟨bk, ⟨bek, bes, beg, bec⟩, bkey, bpg, ⟨bleaf, blo, bhi, br, bl⟩⟩ = sv) := ⟨_, rfl⟩
  clear ha hb hka hkb hB
  have hB : Below w0.heap.size w0 w0.drew := (Below.refl _ _).drew
  go_enter Tryz.func5, Tryz.ntmps5
  go_wp2_with fail
  refine wp_region_mid (S := (fun w' => Bk w' w.heap.size 30 #[.int .i64 ak, .string aek, .int .i64 aes, .int .i64 aeg, .int .i64 aec, .string akey, .int .i64 apg, .bool aleaf, .string alo, .string ahi, .int .i64 ar, .slice ap an ac] ∧ Bk w' (w.heap.size + 1) 30 #[.int .i64 bk, .string bek, .int .i64 bes, .int .i64 beg, .int .i64 bec, .string bkey, .int .i64 bpg, .bool bleaf, .string blo, .string bhi, .int .i64 br, .slice bp bn bc])) 22 (by kernel_rfl) ?_
  refine wpAnyM_ready (rs := [0]) (by kernel_rfl) (by simp) ?_
  refine AllReadyM.cons (o := { dst := some 5, op := Op.call { callee := Callee.value (Operand.func 13), args := #[], argTypes := #[] }, type := 4, pos := _, after := #[], guard := none }) rfl (fun K hK => ?_) AllReadyM.nil
  have HK9 : Hid (∀ a w, _ → K a w) := hK
  clear hK
  go_simp
  refine (live_any _).mono ?_
  rintro e w1 ⟨rfl, hb⟩
  have hB1 := hB.trans (hb.mono (HX.out _ hB).2.2.1)
  clear hb
  refine HK9.out _ _ ⟨fun _ => (HX.out _ hB1).2.2.2, ?_⟩
  clear HK9 K
  try simp only [Act.put, List.setIfInBounds_toArray, List.set_cons_zero, List.set_cons_succ]
  refine wpAnyM_take (i := 1) [] (oi := { dst := some 6, op := Op.move (Operand.tmp 5), type := 4, pos := _, after := #[{ on := 0, ground := Ground.data }, { on := 0, ground := Ground.chain }], guard := none }) (v := .bool true) rfl (by kernel_rfl) (by kernel_rfl) (by kernel_rfl) (by kernel_rfl) (fun _ _ _ h => h) (Or.inl ⟨by rfl, ?_⟩) (HX.out _ hB1).2.2.2 ?_
  · (intro w' hSw; go_simp; try with_reducible rfl)
  try simp only [Act.put, List.setIfInBounds_toArray, List.set_cons_zero, List.set_cons_succ]
  refine wpAnyM_take (i := 2) [] (oi := { dst := some 7, op := Op.load 30 (Operand.tmp 2), type := 30, pos := _, after := #[{ on := 1, ground := Ground.guard }], guard := some (1, true) }) (v := .agg #[.int .i64 ak, .string aek, .int .i64 aes, .int .i64 aeg, .int .i64 aec, .string akey, .int .i64 apg, .bool aleaf, .string alo, .string ahi, .int .i64 ar, .slice ap an ac]) rfl (by kernel_rfl) (by kernel_rfl) (by kernel_rfl) (by kernel_rfl) (fun _ _ _ h => h) (Or.inl ⟨by rfl, ?_⟩) (HX.out _ hB1).2.2.2 ?_
  · (intro w' hSw; have m0 : w'.cell? ⟨w.heap.size, 0, none⟩ = some (.int .i64 ak) := hSw.1.cell 0; have m1 : w'.cell? ⟨w.heap.size, 1, none⟩ = some (.string aek) := hSw.1.cell 1; have m2 : w'.cell? ⟨w.heap.size, 2, none⟩ = some (.int .i64 aes) := hSw.1.cell 2; have m3 : w'.cell? ⟨w.heap.size, 3, none⟩ = some (.int .i64 aeg) := hSw.1.cell 3; have m4 : w'.cell? ⟨w.heap.size, 4, none⟩ = some (.int .i64 aec) := hSw.1.cell 4; have m5 : w'.cell? ⟨w.heap.size, 5, none⟩ = some (.string akey) := hSw.1.cell 5; have m6 : w'.cell? ⟨w.heap.size, 6, none⟩ = some (.int .i64 apg) := hSw.1.cell 6; have m7 : w'.cell? ⟨w.heap.size, 7, none⟩ = some (.bool aleaf) := hSw.1.cell 7; have m8 : w'.cell? ⟨w.heap.size, 8, none⟩ = some (.string alo) := hSw.1.cell 8; have m9 : w'.cell? ⟨w.heap.size, 9, none⟩ = some (.string ahi) := hSw.1.cell 9; have m10 : w'.cell? ⟨w.heap.size, 10, none⟩ = some (.int .i64 ar) := hSw.1.cell 10; have m11 : w'.cell? ⟨w.heap.size, 11, none⟩ = some (.slice ap an ac) := hSw.1.cell 11; have n0 : w'.cell? ⟨w.heap.size + 1, 0, none⟩ = some (.int .i64 bk) := hSw.2.cell 0; have n1 : w'.cell? ⟨w.heap.size + 1, 1, none⟩ = some (.string bek) := hSw.2.cell 1; have n2 : w'.cell? ⟨w.heap.size + 1, 2, none⟩ = some (.int .i64 bes) := hSw.2.cell 2; have n3 : w'.cell? ⟨w.heap.size + 1, 3, none⟩ = some (.int .i64 beg) := hSw.2.cell 3; have n4 : w'.cell? ⟨w.heap.size + 1, 4, none⟩ = some (.int .i64 bec) := hSw.2.cell 4; have n5 : w'.cell? ⟨w.heap.size + 1, 5, none⟩ = some (.string bkey) := hSw.2.cell 5; have n6 : w'.cell? ⟨w.heap.size + 1, 6, none⟩ = some (.int .i64 bpg) := hSw.2.cell 6; have n7 : w'.cell? ⟨w.heap.size + 1, 7, none⟩ = some (.bool bleaf) := hSw.2.cell 7; have n8 : w'.cell? ⟨w.heap.size + 1, 8, none⟩ = some (.string blo) := hSw.2.cell 8; have n9 : w'.cell? ⟨w.heap.size + 1, 9, none⟩ = some (.string bhi) := hSw.2.cell 9; have n10 : w'.cell? ⟨w.heap.size + 1, 10, none⟩ = some (.int .i64 br) := hSw.2.cell 10; have n11 : w'.cell? ⟨w.heap.size + 1, 11, none⟩ = some (.slice bp bn bc) := hSw.2.cell 11; go_simp; try with_reducible rfl)
  try simp only [Act.put, List.setIfInBounds_toArray, List.set_cons_zero, List.set_cons_succ]
  refine wpAnyM_take (i := 3) [] (oi := { dst := some 8, op := Op.load 30 (Operand.tmp 3), type := 30, pos := _, after := #[{ on := 1, ground := Ground.guard }], guard := some (1, true) }) (v := .agg #[.int .i64 bk, .string bek, .int .i64 bes, .int .i64 beg, .int .i64 bec, .string bkey, .int .i64 bpg, .bool bleaf, .string blo, .string bhi, .int .i64 br, .slice bp bn bc]) rfl (by kernel_rfl) (by kernel_rfl) (by kernel_rfl) (by kernel_rfl) (fun _ _ _ h => h) (Or.inl ⟨by rfl, ?_⟩) (HX.out _ hB1).2.2.2 ?_
  · (intro w' hSw; have m0 : w'.cell? ⟨w.heap.size, 0, none⟩ = some (.int .i64 ak) := hSw.1.cell 0; have m1 : w'.cell? ⟨w.heap.size, 1, none⟩ = some (.string aek) := hSw.1.cell 1; have m2 : w'.cell? ⟨w.heap.size, 2, none⟩ = some (.int .i64 aes) := hSw.1.cell 2; have m3 : w'.cell? ⟨w.heap.size, 3, none⟩ = some (.int .i64 aeg) := hSw.1.cell 3; have m4 : w'.cell? ⟨w.heap.size, 4, none⟩ = some (.int .i64 aec) := hSw.1.cell 4; have m5 : w'.cell? ⟨w.heap.size, 5, none⟩ = some (.string akey) := hSw.1.cell 5; have m6 : w'.cell? ⟨w.heap.size, 6, none⟩ = some (.int .i64 apg) := hSw.1.cell 6; have m7 : w'.cell? ⟨w.heap.size, 7, none⟩ = some (.bool aleaf) := hSw.1.cell 7; have m8 : w'.cell? ⟨w.heap.size, 8, none⟩ = some (.string alo) := hSw.1.cell 8; have m9 : w'.cell? ⟨w.heap.size, 9, none⟩ = some (.string ahi) := hSw.1.cell 9; have m10 : w'.cell? ⟨w.heap.size, 10, none⟩ = some (.int .i64 ar) := hSw.1.cell 10; have m11 : w'.cell? ⟨w.heap.size, 11, none⟩ = some (.slice ap an ac) := hSw.1.cell 11; have n0 : w'.cell? ⟨w.heap.size + 1, 0, none⟩ = some (.int .i64 bk) := hSw.2.cell 0; have n1 : w'.cell? ⟨w.heap.size + 1, 1, none⟩ = some (.string bek) := hSw.2.cell 1; have n2 : w'.cell? ⟨w.heap.size + 1, 2, none⟩ = some (.int .i64 bes) := hSw.2.cell 2; have n3 : w'.cell? ⟨w.heap.size + 1, 3, none⟩ = some (.int .i64 beg) := hSw.2.cell 3; have n4 : w'.cell? ⟨w.heap.size + 1, 4, none⟩ = some (.int .i64 bec) := hSw.2.cell 4; have n5 : w'.cell? ⟨w.heap.size + 1, 5, none⟩ = some (.string bkey) := hSw.2.cell 5; have n6 : w'.cell? ⟨w.heap.size + 1, 6, none⟩ = some (.int .i64 bpg) := hSw.2.cell 6; have n7 : w'.cell? ⟨w.heap.size + 1, 7, none⟩ = some (.bool bleaf) := hSw.2.cell 7; have n8 : w'.cell? ⟨w.heap.size + 1, 8, none⟩ = some (.string blo) := hSw.2.cell 8; have n9 : w'.cell? ⟨w.heap.size + 1, 9, none⟩ = some (.string bhi) := hSw.2.cell 9; have n10 : w'.cell? ⟨w.heap.size + 1, 10, none⟩ = some (.int .i64 br) := hSw.2.cell 10; have n11 : w'.cell? ⟨w.heap.size + 1, 11, none⟩ = some (.slice bp bn bc) := hSw.2.cell 11; go_simp; try with_reducible rfl)
  try simp only [Act.put, List.setIfInBounds_toArray, List.set_cons_zero, List.set_cons_succ]
  refine wpAnyM_take (i := 5) [] (oi := { dst := some 10, op := Op.load 30 (Operand.tmp 2), type := 30, pos := _, after := #[{ on := 1, ground := Ground.guard }], guard := some (1, true) }) (v := .agg #[.int .i64 ak, .string aek, .int .i64 aes, .int .i64 aeg, .int .i64 aec, .string akey, .int .i64 apg, .bool aleaf, .string alo, .string ahi, .int .i64 ar, .slice ap an ac]) rfl (by kernel_rfl) (by kernel_rfl) (by kernel_rfl) (by kernel_rfl) (fun _ _ _ h => h) (Or.inl ⟨by rfl, ?_⟩) (HX.out _ hB1).2.2.2 ?_
  · (intro w' hSw; have m0 : w'.cell? ⟨w.heap.size, 0, none⟩ = some (.int .i64 ak) := hSw.1.cell 0; have m1 : w'.cell? ⟨w.heap.size, 1, none⟩ = some (.string aek) := hSw.1.cell 1; have m2 : w'.cell? ⟨w.heap.size, 2, none⟩ = some (.int .i64 aes) := hSw.1.cell 2; have m3 : w'.cell? ⟨w.heap.size, 3, none⟩ = some (.int .i64 aeg) := hSw.1.cell 3; have m4 : w'.cell? ⟨w.heap.size, 4, none⟩ = some (.int .i64 aec) := hSw.1.cell 4; have m5 : w'.cell? ⟨w.heap.size, 5, none⟩ = some (.string akey) := hSw.1.cell 5; have m6 : w'.cell? ⟨w.heap.size, 6, none⟩ = some (.int .i64 apg) := hSw.1.cell 6; have m7 : w'.cell? ⟨w.heap.size, 7, none⟩ = some (.bool aleaf) := hSw.1.cell 7; have m8 : w'.cell? ⟨w.heap.size, 8, none⟩ = some (.string alo) := hSw.1.cell 8; have m9 : w'.cell? ⟨w.heap.size, 9, none⟩ = some (.string ahi) := hSw.1.cell 9; have m10 : w'.cell? ⟨w.heap.size, 10, none⟩ = some (.int .i64 ar) := hSw.1.cell 10; have m11 : w'.cell? ⟨w.heap.size, 11, none⟩ = some (.slice ap an ac) := hSw.1.cell 11; have n0 : w'.cell? ⟨w.heap.size + 1, 0, none⟩ = some (.int .i64 bk) := hSw.2.cell 0; have n1 : w'.cell? ⟨w.heap.size + 1, 1, none⟩ = some (.string bek) := hSw.2.cell 1; have n2 : w'.cell? ⟨w.heap.size + 1, 2, none⟩ = some (.int .i64 bes) := hSw.2.cell 2; have n3 : w'.cell? ⟨w.heap.size + 1, 3, none⟩ = some (.int .i64 beg) := hSw.2.cell 3; have n4 : w'.cell? ⟨w.heap.size + 1, 4, none⟩ = some (.int .i64 bec) := hSw.2.cell 4; have n5 : w'.cell? ⟨w.heap.size + 1, 5, none⟩ = some (.string bkey) := hSw.2.cell 5; have n6 : w'.cell? ⟨w.heap.size + 1, 6, none⟩ = some (.int .i64 bpg) := hSw.2.cell 6; have n7 : w'.cell? ⟨w.heap.size + 1, 7, none⟩ = some (.bool bleaf) := hSw.2.cell 7; have n8 : w'.cell? ⟨w.heap.size + 1, 8, none⟩ = some (.string blo) := hSw.2.cell 8; have n9 : w'.cell? ⟨w.heap.size + 1, 9, none⟩ = some (.string bhi) := hSw.2.cell 9; have n10 : w'.cell? ⟨w.heap.size + 1, 10, none⟩ = some (.int .i64 br) := hSw.2.cell 10; have n11 : w'.cell? ⟨w.heap.size + 1, 11, none⟩ = some (.slice bp bn bc) := hSw.2.cell 11; go_simp; try with_reducible rfl)
  try simp only [Act.put, List.setIfInBounds_toArray, List.set_cons_zero, List.set_cons_succ]
  refine wpAnyM_take (i := 6) [] (oi := { dst := some 11, op := Op.load 30 (Operand.tmp 3), type := 30, pos := _, after := #[{ on := 1, ground := Ground.guard }], guard := some (1, true) }) (v := .agg #[.int .i64 bk, .string bek, .int .i64 bes, .int .i64 beg, .int .i64 bec, .string bkey, .int .i64 bpg, .bool bleaf, .string blo, .string bhi, .int .i64 br, .slice bp bn bc]) rfl (by kernel_rfl) (by kernel_rfl) (by kernel_rfl) (by kernel_rfl) (fun _ _ _ h => h) (Or.inl ⟨by rfl, ?_⟩) (HX.out _ hB1).2.2.2 ?_
  · (intro w' hSw; have m0 : w'.cell? ⟨w.heap.size, 0, none⟩ = some (.int .i64 ak) := hSw.1.cell 0; have m1 : w'.cell? ⟨w.heap.size, 1, none⟩ = some (.string aek) := hSw.1.cell 1; have m2 : w'.cell? ⟨w.heap.size, 2, none⟩ = some (.int .i64 aes) := hSw.1.cell 2; have m3 : w'.cell? ⟨w.heap.size, 3, none⟩ = some (.int .i64 aeg) := hSw.1.cell 3; have m4 : w'.cell? ⟨w.heap.size, 4, none⟩ = some (.int .i64 aec) := hSw.1.cell 4; have m5 : w'.cell? ⟨w.heap.size, 5, none⟩ = some (.string akey) := hSw.1.cell 5; have m6 : w'.cell? ⟨w.heap.size, 6, none⟩ = some (.int .i64 apg) := hSw.1.cell 6; have m7 : w'.cell? ⟨w.heap.size, 7, none⟩ = some (.bool aleaf) := hSw.1.cell 7; have m8 : w'.cell? ⟨w.heap.size, 8, none⟩ = some (.string alo) := hSw.1.cell 8; have m9 : w'.cell? ⟨w.heap.size, 9, none⟩ = some (.string ahi) := hSw.1.cell 9; have m10 : w'.cell? ⟨w.heap.size, 10, none⟩ = some (.int .i64 ar) := hSw.1.cell 10; have m11 : w'.cell? ⟨w.heap.size, 11, none⟩ = some (.slice ap an ac) := hSw.1.cell 11; have n0 : w'.cell? ⟨w.heap.size + 1, 0, none⟩ = some (.int .i64 bk) := hSw.2.cell 0; have n1 : w'.cell? ⟨w.heap.size + 1, 1, none⟩ = some (.string bek) := hSw.2.cell 1; have n2 : w'.cell? ⟨w.heap.size + 1, 2, none⟩ = some (.int .i64 bes) := hSw.2.cell 2; have n3 : w'.cell? ⟨w.heap.size + 1, 3, none⟩ = some (.int .i64 beg) := hSw.2.cell 3; have n4 : w'.cell? ⟨w.heap.size + 1, 4, none⟩ = some (.int .i64 bec) := hSw.2.cell 4; have n5 : w'.cell? ⟨w.heap.size + 1, 5, none⟩ = some (.string bkey) := hSw.2.cell 5; have n6 : w'.cell? ⟨w.heap.size + 1, 6, none⟩ = some (.int .i64 bpg) := hSw.2.cell 6; have n7 : w'.cell? ⟨w.heap.size + 1, 7, none⟩ = some (.bool bleaf) := hSw.2.cell 7; have n8 : w'.cell? ⟨w.heap.size + 1, 8, none⟩ = some (.string blo) := hSw.2.cell 8; have n9 : w'.cell? ⟨w.heap.size + 1, 9, none⟩ = some (.string bhi) := hSw.2.cell 9; have n10 : w'.cell? ⟨w.heap.size + 1, 10, none⟩ = some (.int .i64 br) := hSw.2.cell 10; have n11 : w'.cell? ⟨w.heap.size + 1, 11, none⟩ = some (.slice bp bn bc) := hSw.2.cell 11; go_simp; try with_reducible rfl)
  try simp only [Act.put, List.setIfInBounds_toArray, List.set_cons_zero, List.set_cons_succ]
  refine wpAnyM_ready (rs := [4]) (by kernel_rfl) (by simp) ?_
  refine AllReadyM.cons (o := { dst := some 9, op := Op.call { callee := Callee.value (Operand.func 23), args := #[Operand.tmp 7, Operand.tmp 8], argTypes := #[30, 30] }, type := 4, pos := _, after := #[{ on := 2, ground := Ground.data }, { on := 3, ground := Ground.data }, { on := 1, ground := Ground.chain }, { on := 1, ground := Ground.guard }], guard := some (1, true) }) rfl (fun K hK => ?_) AllReadyM.nil
  have HK9 : Hid (∀ a w, _ → K a w) := hK
  clear hK
  go_simp
  refine (dsame_any ⟨ak, ⟨aek, aes, aeg, aec⟩, akey, apg, ⟨aleaf, alo, ahi, ar, al⟩⟩ ⟨bk, ⟨bek, bes, beg, bec⟩, bkey, bpg, ⟨bleaf, blo, bhi, br, bl⟩⟩ ap bp an bn ac bc _ HNa.out HNb.out (HX.out _ hB1).1 (HX.out _ hB1).2.1 hl).mono ?_
  rw [HV.out]
  rintro e w2 ⟨rfl, hb⟩
  have hB2 := hB1.trans (hb.mono (HX.out _ hB1).2.2.1)
  clear hb
  refine HK9.out _ _ ⟨fun _ => (HX.out _ hB2).2.2.2, ?_⟩
  clear HK9 K
  try simp only [Act.put, List.setIfInBounds_toArray, List.set_cons_zero, List.set_cons_succ]
  refine wpAnyM_ready (rs := [7]) (by kernel_rfl) (by simp) ?_
  refine AllReadyM.cons (o := { dst := some 12, op := Op.call { callee := Callee.value (Operand.func 17), args := #[Operand.tmp 10, Operand.tmp 11], argTypes := #[30, 30] }, type := 4, pos := _, after := #[{ on := 5, ground := Ground.data }, { on := 6, ground := Ground.data }, { on := 4, ground := Ground.chain }, { on := 1, ground := Ground.guard }], guard := some (1, true) }) rfl (fun K hK => ?_) AllReadyM.nil
  have HK9 : Hid (∀ a w, _ → K a w) := hK
  clear hK
  go_simp
  refine (drsame_any ⟨ak, ⟨aek, aes, aeg, aec⟩, akey, apg, ⟨aleaf, alo, ahi, ar, al⟩⟩ ⟨bk, ⟨bek, bes, beg, bec⟩, bkey, bpg, ⟨bleaf, blo, bhi, br, bl⟩⟩ ap bp an bn ac bc _ HNa.out HNb.out (HX.out _ hB2).1 (HX.out _ hB2).2.1 hl).mono ?_
  rw [HV.out]
  rintro e w3 ⟨rfl, hb⟩
  have hB3 := hB2.trans (hb.mono (HX.out _ hB2).2.2.1)
  clear hb
  refine HK9.out _ _ ⟨fun _ => (HX.out _ hB3).2.2.2, ?_⟩
  clear HK9 K
  try simp only [Act.put, List.setIfInBounds_toArray, List.set_cons_zero, List.set_cons_succ]
  refine wpAnyM_take (i := 8) [] (oi := { dst := some 13, op := Op.binOp BinOp.eql 4 (Operand.tmp 9) (Operand.tmp 12) 4, type := 4, pos := _, after := #[{ on := 4, ground := Ground.data }, { on := 7, ground := Ground.data }, { on := 1, ground := Ground.guard }], guard := some (1, true) }) (v := .bool true) rfl (by kernel_rfl) (by kernel_rfl) (by kernel_rfl) (by kernel_rfl) (fun _ _ _ h => h) (Or.inl ⟨by rfl, ?_⟩) (HX.out _ hB3).2.2.2 ?_
  · (intro w' hSw; go_simp; try with_reducible rfl)
  try simp only [Act.put, List.setIfInBounds_toArray, List.set_cons_zero, List.set_cons_succ]
  refine wpAnyM_take (i := 9) [] (oi := { dst := some 14, op := Op.pick (Operand.tmp 6) (Operand.tmp 13) (Operand.const (Value.bool false)), type := 4, pos := _, after := #[{ on := 1, ground := Ground.data }, { on := 8, ground := Ground.data }], guard := none }) (v := .bool true) rfl (by kernel_rfl) (by kernel_rfl) (by kernel_rfl) (by kernel_rfl) (fun _ _ _ h => h) (Or.inl ⟨by rfl, ?_⟩) (HX.out _ hB3).2.2.2 ?_
  · (intro w' hSw; go_simp; try with_reducible rfl)
  try simp only [Act.put, List.setIfInBounds_toArray, List.set_cons_zero, List.set_cons_succ]
  refine wpAnyM_take (i := 10) [] (oi := { dst := some 15, op := Op.move (Operand.tmp 14), type := 4, pos := _, after := #[{ on := 9, ground := Ground.data }, { on := 7, ground := Ground.chain }], guard := none }) (v := .bool true) rfl (by kernel_rfl) (by kernel_rfl) (by kernel_rfl) (by kernel_rfl) (fun _ _ _ h => h) (Or.inl ⟨by rfl, ?_⟩) (HX.out _ hB3).2.2.2 ?_
  · (intro w' hSw; go_simp; try with_reducible rfl)
  try simp only [Act.put, List.setIfInBounds_toArray, List.set_cons_zero, List.set_cons_succ]
  refine wpAnyM_take (i := 11) [] (oi := { dst := some 16, op := Op.load 30 (Operand.tmp 2), type := 30, pos := _, after := #[{ on := 10, ground := Ground.guard }], guard := some (10, true) }) (v := .agg #[.int .i64 ak, .string aek, .int .i64 aes, .int .i64 aeg, .int .i64 aec, .string akey, .int .i64 apg, .bool aleaf, .string alo, .string ahi, .int .i64 ar, .slice ap an ac]) rfl (by kernel_rfl) (by kernel_rfl) (by kernel_rfl) (by kernel_rfl) (fun _ _ _ h => h) (Or.inl ⟨by rfl, ?_⟩) (HX.out _ hB3).2.2.2 ?_
  · (intro w' hSw; have m0 : w'.cell? ⟨w.heap.size, 0, none⟩ = some (.int .i64 ak) := hSw.1.cell 0; have m1 : w'.cell? ⟨w.heap.size, 1, none⟩ = some (.string aek) := hSw.1.cell 1; have m2 : w'.cell? ⟨w.heap.size, 2, none⟩ = some (.int .i64 aes) := hSw.1.cell 2; have m3 : w'.cell? ⟨w.heap.size, 3, none⟩ = some (.int .i64 aeg) := hSw.1.cell 3; have m4 : w'.cell? ⟨w.heap.size, 4, none⟩ = some (.int .i64 aec) := hSw.1.cell 4; have m5 : w'.cell? ⟨w.heap.size, 5, none⟩ = some (.string akey) := hSw.1.cell 5; have m6 : w'.cell? ⟨w.heap.size, 6, none⟩ = some (.int .i64 apg) := hSw.1.cell 6; have m7 : w'.cell? ⟨w.heap.size, 7, none⟩ = some (.bool aleaf) := hSw.1.cell 7; have m8 : w'.cell? ⟨w.heap.size, 8, none⟩ = some (.string alo) := hSw.1.cell 8; have m9 : w'.cell? ⟨w.heap.size, 9, none⟩ = some (.string ahi) := hSw.1.cell 9; have m10 : w'.cell? ⟨w.heap.size, 10, none⟩ = some (.int .i64 ar) := hSw.1.cell 10; have m11 : w'.cell? ⟨w.heap.size, 11, none⟩ = some (.slice ap an ac) := hSw.1.cell 11; have n0 : w'.cell? ⟨w.heap.size + 1, 0, none⟩ = some (.int .i64 bk) := hSw.2.cell 0; have n1 : w'.cell? ⟨w.heap.size + 1, 1, none⟩ = some (.string bek) := hSw.2.cell 1; have n2 : w'.cell? ⟨w.heap.size + 1, 2, none⟩ = some (.int .i64 bes) := hSw.2.cell 2; have n3 : w'.cell? ⟨w.heap.size + 1, 3, none⟩ = some (.int .i64 beg) := hSw.2.cell 3; have n4 : w'.cell? ⟨w.heap.size + 1, 4, none⟩ = some (.int .i64 bec) := hSw.2.cell 4; have n5 : w'.cell? ⟨w.heap.size + 1, 5, none⟩ = some (.string bkey) := hSw.2.cell 5; have n6 : w'.cell? ⟨w.heap.size + 1, 6, none⟩ = some (.int .i64 bpg) := hSw.2.cell 6; have n7 : w'.cell? ⟨w.heap.size + 1, 7, none⟩ = some (.bool bleaf) := hSw.2.cell 7; have n8 : w'.cell? ⟨w.heap.size + 1, 8, none⟩ = some (.string blo) := hSw.2.cell 8; have n9 : w'.cell? ⟨w.heap.size + 1, 9, none⟩ = some (.string bhi) := hSw.2.cell 9; have n10 : w'.cell? ⟨w.heap.size + 1, 10, none⟩ = some (.int .i64 br) := hSw.2.cell 10; have n11 : w'.cell? ⟨w.heap.size + 1, 11, none⟩ = some (.slice bp bn bc) := hSw.2.cell 11; go_simp; try with_reducible rfl)
  try simp only [Act.put, List.setIfInBounds_toArray, List.set_cons_zero, List.set_cons_succ]
  refine wpAnyM_take (i := 12) [] (oi := { dst := some 17, op := Op.load 30 (Operand.tmp 2), type := 30, pos := _, after := #[{ on := 10, ground := Ground.guard }], guard := some (10, true) }) (v := .agg #[.int .i64 ak, .string aek, .int .i64 aes, .int .i64 aeg, .int .i64 aec, .string akey, .int .i64 apg, .bool aleaf, .string alo, .string ahi, .int .i64 ar, .slice ap an ac]) rfl (by kernel_rfl) (by kernel_rfl) (by kernel_rfl) (by kernel_rfl) (fun _ _ _ h => h) (Or.inl ⟨by rfl, ?_⟩) (HX.out _ hB3).2.2.2 ?_
  · (intro w' hSw; have m0 : w'.cell? ⟨w.heap.size, 0, none⟩ = some (.int .i64 ak) := hSw.1.cell 0; have m1 : w'.cell? ⟨w.heap.size, 1, none⟩ = some (.string aek) := hSw.1.cell 1; have m2 : w'.cell? ⟨w.heap.size, 2, none⟩ = some (.int .i64 aes) := hSw.1.cell 2; have m3 : w'.cell? ⟨w.heap.size, 3, none⟩ = some (.int .i64 aeg) := hSw.1.cell 3; have m4 : w'.cell? ⟨w.heap.size, 4, none⟩ = some (.int .i64 aec) := hSw.1.cell 4; have m5 : w'.cell? ⟨w.heap.size, 5, none⟩ = some (.string akey) := hSw.1.cell 5; have m6 : w'.cell? ⟨w.heap.size, 6, none⟩ = some (.int .i64 apg) := hSw.1.cell 6; have m7 : w'.cell? ⟨w.heap.size, 7, none⟩ = some (.bool aleaf) := hSw.1.cell 7; have m8 : w'.cell? ⟨w.heap.size, 8, none⟩ = some (.string alo) := hSw.1.cell 8; have m9 : w'.cell? ⟨w.heap.size, 9, none⟩ = some (.string ahi) := hSw.1.cell 9; have m10 : w'.cell? ⟨w.heap.size, 10, none⟩ = some (.int .i64 ar) := hSw.1.cell 10; have m11 : w'.cell? ⟨w.heap.size, 11, none⟩ = some (.slice ap an ac) := hSw.1.cell 11; have n0 : w'.cell? ⟨w.heap.size + 1, 0, none⟩ = some (.int .i64 bk) := hSw.2.cell 0; have n1 : w'.cell? ⟨w.heap.size + 1, 1, none⟩ = some (.string bek) := hSw.2.cell 1; have n2 : w'.cell? ⟨w.heap.size + 1, 2, none⟩ = some (.int .i64 bes) := hSw.2.cell 2; have n3 : w'.cell? ⟨w.heap.size + 1, 3, none⟩ = some (.int .i64 beg) := hSw.2.cell 3; have n4 : w'.cell? ⟨w.heap.size + 1, 4, none⟩ = some (.int .i64 bec) := hSw.2.cell 4; have n5 : w'.cell? ⟨w.heap.size + 1, 5, none⟩ = some (.string bkey) := hSw.2.cell 5; have n6 : w'.cell? ⟨w.heap.size + 1, 6, none⟩ = some (.int .i64 bpg) := hSw.2.cell 6; have n7 : w'.cell? ⟨w.heap.size + 1, 7, none⟩ = some (.bool bleaf) := hSw.2.cell 7; have n8 : w'.cell? ⟨w.heap.size + 1, 8, none⟩ = some (.string blo) := hSw.2.cell 8; have n9 : w'.cell? ⟨w.heap.size + 1, 9, none⟩ = some (.string bhi) := hSw.2.cell 9; have n10 : w'.cell? ⟨w.heap.size + 1, 10, none⟩ = some (.int .i64 br) := hSw.2.cell 10; have n11 : w'.cell? ⟨w.heap.size + 1, 11, none⟩ = some (.slice bp bn bc) := hSw.2.cell 11; go_simp; try with_reducible rfl)
  try simp only [Act.put, List.setIfInBounds_toArray, List.set_cons_zero, List.set_cons_succ]
  refine wpAnyM_ready (rs := [13]) (by kernel_rfl) (by simp) ?_
  refine AllReadyM.cons (o := { dst := some 18, op := Op.call { callee := Callee.value (Operand.func 23), args := #[Operand.tmp 16, Operand.tmp 17], argTypes := #[30, 30] }, type := 4, pos := _, after := #[{ on := 11, ground := Ground.data }, { on := 12, ground := Ground.data }, { on := 10, ground := Ground.chain }, { on := 10, ground := Ground.guard }], guard := some (10, true) }) rfl (fun K hK => ?_) AllReadyM.nil
  have HK9 : Hid (∀ a w, _ → K a w) := hK
  clear hK
  go_simp
  refine (dsame_any ⟨ak, ⟨aek, aes, aeg, aec⟩, akey, apg, ⟨aleaf, alo, ahi, ar, al⟩⟩ ⟨ak, ⟨aek, aes, aeg, aec⟩, akey, apg, ⟨aleaf, alo, ahi, ar, al⟩⟩ ap ap an an ac ac _ HNa.out HNa.out (HX.out _ hB3).1 (HX.out _ hB3).1 hl).mono ?_
  rw [Dl.same_self]
  rintro e w4 ⟨rfl, hb⟩
  have hB4 := hB3.trans (hb.mono (HX.out _ hB3).2.2.1)
  clear hb
  refine HK9.out _ _ ⟨fun _ => (HX.out _ hB4).2.2.2, ?_⟩
  clear HK9 K
  try simp only [Act.put, List.setIfInBounds_toArray, List.set_cons_zero, List.set_cons_succ]
  refine wpAnyM_take (i := 14) [] (oi := { dst := some 19, op := Op.pick (Operand.tmp 15) (Operand.tmp 18) (Operand.const (Value.bool false)), type := 4, pos := _, after := #[{ on := 10, ground := Ground.data }, { on := 13, ground := Ground.data }], guard := none }) (v := .bool true) rfl (by kernel_rfl) (by kernel_rfl) (by kernel_rfl) (by kernel_rfl) (fun _ _ _ h => h) (Or.inl ⟨by rfl, ?_⟩) (HX.out _ hB4).2.2.2 ?_
  · (intro w' hSw; go_simp; try with_reducible rfl)
  try simp only [Act.put, List.setIfInBounds_toArray, List.set_cons_zero, List.set_cons_succ]
  refine wpAnyM_take (i := 15) [] (oi := { dst := some 20, op := Op.move (Operand.tmp 19), type := 4, pos := _, after := #[{ on := 14, ground := Ground.data }, { on := 13, ground := Ground.chain }], guard := none }) (v := .bool true) rfl (by kernel_rfl) (by kernel_rfl) (by kernel_rfl) (by kernel_rfl) (fun _ _ _ h => h) (Or.inl ⟨by rfl, ?_⟩) (HX.out _ hB4).2.2.2 ?_
  · (intro w' hSw; go_simp; try with_reducible rfl)
  try simp only [Act.put, List.setIfInBounds_toArray, List.set_cons_zero, List.set_cons_succ]
  refine wpAnyM_take (i := 16) [] (oi := { dst := some 21, op := Op.load 30 (Operand.tmp 2), type := 30, pos := _, after := #[{ on := 15, ground := Ground.guard }], guard := some (15, true) }) (v := .agg #[.int .i64 ak, .string aek, .int .i64 aes, .int .i64 aeg, .int .i64 aec, .string akey, .int .i64 apg, .bool aleaf, .string alo, .string ahi, .int .i64 ar, .slice ap an ac]) rfl (by kernel_rfl) (by kernel_rfl) (by kernel_rfl) (by kernel_rfl) (fun _ _ _ h => h) (Or.inl ⟨by rfl, ?_⟩) (HX.out _ hB4).2.2.2 ?_
  · (intro w' hSw; have m0 : w'.cell? ⟨w.heap.size, 0, none⟩ = some (.int .i64 ak) := hSw.1.cell 0; have m1 : w'.cell? ⟨w.heap.size, 1, none⟩ = some (.string aek) := hSw.1.cell 1; have m2 : w'.cell? ⟨w.heap.size, 2, none⟩ = some (.int .i64 aes) := hSw.1.cell 2; have m3 : w'.cell? ⟨w.heap.size, 3, none⟩ = some (.int .i64 aeg) := hSw.1.cell 3; have m4 : w'.cell? ⟨w.heap.size, 4, none⟩ = some (.int .i64 aec) := hSw.1.cell 4; have m5 : w'.cell? ⟨w.heap.size, 5, none⟩ = some (.string akey) := hSw.1.cell 5; have m6 : w'.cell? ⟨w.heap.size, 6, none⟩ = some (.int .i64 apg) := hSw.1.cell 6; have m7 : w'.cell? ⟨w.heap.size, 7, none⟩ = some (.bool aleaf) := hSw.1.cell 7; have m8 : w'.cell? ⟨w.heap.size, 8, none⟩ = some (.string alo) := hSw.1.cell 8; have m9 : w'.cell? ⟨w.heap.size, 9, none⟩ = some (.string ahi) := hSw.1.cell 9; have m10 : w'.cell? ⟨w.heap.size, 10, none⟩ = some (.int .i64 ar) := hSw.1.cell 10; have m11 : w'.cell? ⟨w.heap.size, 11, none⟩ = some (.slice ap an ac) := hSw.1.cell 11; have n0 : w'.cell? ⟨w.heap.size + 1, 0, none⟩ = some (.int .i64 bk) := hSw.2.cell 0; have n1 : w'.cell? ⟨w.heap.size + 1, 1, none⟩ = some (.string bek) := hSw.2.cell 1; have n2 : w'.cell? ⟨w.heap.size + 1, 2, none⟩ = some (.int .i64 bes) := hSw.2.cell 2; have n3 : w'.cell? ⟨w.heap.size + 1, 3, none⟩ = some (.int .i64 beg) := hSw.2.cell 3; have n4 : w'.cell? ⟨w.heap.size + 1, 4, none⟩ = some (.int .i64 bec) := hSw.2.cell 4; have n5 : w'.cell? ⟨w.heap.size + 1, 5, none⟩ = some (.string bkey) := hSw.2.cell 5; have n6 : w'.cell? ⟨w.heap.size + 1, 6, none⟩ = some (.int .i64 bpg) := hSw.2.cell 6; have n7 : w'.cell? ⟨w.heap.size + 1, 7, none⟩ = some (.bool bleaf) := hSw.2.cell 7; have n8 : w'.cell? ⟨w.heap.size + 1, 8, none⟩ = some (.string blo) := hSw.2.cell 8; have n9 : w'.cell? ⟨w.heap.size + 1, 9, none⟩ = some (.string bhi) := hSw.2.cell 9; have n10 : w'.cell? ⟨w.heap.size + 1, 10, none⟩ = some (.int .i64 br) := hSw.2.cell 10; have n11 : w'.cell? ⟨w.heap.size + 1, 11, none⟩ = some (.slice bp bn bc) := hSw.2.cell 11; go_simp; try with_reducible rfl)
  try simp only [Act.put, List.setIfInBounds_toArray, List.set_cons_zero, List.set_cons_succ]
  refine wpAnyM_take (i := 18) [] (oi := { dst := some 23, op := Op.load 30 (Operand.tmp 2), type := 30, pos := _, after := #[{ on := 15, ground := Ground.guard }], guard := some (15, true) }) (v := .agg #[.int .i64 ak, .string aek, .int .i64 aes, .int .i64 aeg, .int .i64 aec, .string akey, .int .i64 apg, .bool aleaf, .string alo, .string ahi, .int .i64 ar, .slice ap an ac]) rfl (by kernel_rfl) (by kernel_rfl) (by kernel_rfl) (by kernel_rfl) (fun _ _ _ h => h) (Or.inl ⟨by rfl, ?_⟩) (HX.out _ hB4).2.2.2 ?_
  · (intro w' hSw; have m0 : w'.cell? ⟨w.heap.size, 0, none⟩ = some (.int .i64 ak) := hSw.1.cell 0; have m1 : w'.cell? ⟨w.heap.size, 1, none⟩ = some (.string aek) := hSw.1.cell 1; have m2 : w'.cell? ⟨w.heap.size, 2, none⟩ = some (.int .i64 aes) := hSw.1.cell 2; have m3 : w'.cell? ⟨w.heap.size, 3, none⟩ = some (.int .i64 aeg) := hSw.1.cell 3; have m4 : w'.cell? ⟨w.heap.size, 4, none⟩ = some (.int .i64 aec) := hSw.1.cell 4; have m5 : w'.cell? ⟨w.heap.size, 5, none⟩ = some (.string akey) := hSw.1.cell 5; have m6 : w'.cell? ⟨w.heap.size, 6, none⟩ = some (.int .i64 apg) := hSw.1.cell 6; have m7 : w'.cell? ⟨w.heap.size, 7, none⟩ = some (.bool aleaf) := hSw.1.cell 7; have m8 : w'.cell? ⟨w.heap.size, 8, none⟩ = some (.string alo) := hSw.1.cell 8; have m9 : w'.cell? ⟨w.heap.size, 9, none⟩ = some (.string ahi) := hSw.1.cell 9; have m10 : w'.cell? ⟨w.heap.size, 10, none⟩ = some (.int .i64 ar) := hSw.1.cell 10; have m11 : w'.cell? ⟨w.heap.size, 11, none⟩ = some (.slice ap an ac) := hSw.1.cell 11; have n0 : w'.cell? ⟨w.heap.size + 1, 0, none⟩ = some (.int .i64 bk) := hSw.2.cell 0; have n1 : w'.cell? ⟨w.heap.size + 1, 1, none⟩ = some (.string bek) := hSw.2.cell 1; have n2 : w'.cell? ⟨w.heap.size + 1, 2, none⟩ = some (.int .i64 bes) := hSw.2.cell 2; have n3 : w'.cell? ⟨w.heap.size + 1, 3, none⟩ = some (.int .i64 beg) := hSw.2.cell 3; have n4 : w'.cell? ⟨w.heap.size + 1, 4, none⟩ = some (.int .i64 bec) := hSw.2.cell 4; have n5 : w'.cell? ⟨w.heap.size + 1, 5, none⟩ = some (.string bkey) := hSw.2.cell 5; have n6 : w'.cell? ⟨w.heap.size + 1, 6, none⟩ = some (.int .i64 bpg) := hSw.2.cell 6; have n7 : w'.cell? ⟨w.heap.size + 1, 7, none⟩ = some (.bool bleaf) := hSw.2.cell 7; have n8 : w'.cell? ⟨w.heap.size + 1, 8, none⟩ = some (.string blo) := hSw.2.cell 8; have n9 : w'.cell? ⟨w.heap.size + 1, 9, none⟩ = some (.string bhi) := hSw.2.cell 9; have n10 : w'.cell? ⟨w.heap.size + 1, 10, none⟩ = some (.int .i64 br) := hSw.2.cell 10; have n11 : w'.cell? ⟨w.heap.size + 1, 11, none⟩ = some (.slice bp bn bc) := hSw.2.cell 11; go_simp; try with_reducible rfl)
  try simp only [Act.put, List.setIfInBounds_toArray, List.set_cons_zero, List.set_cons_succ]
  refine wpAnyM_ready (rs := [17]) (by kernel_rfl) (by simp) ?_
  refine AllReadyM.cons (o := { dst := some 22, op := Op.call { callee := Callee.value (Operand.func 24), args := #[Operand.tmp 21], argTypes := #[30] }, type := 30, pos := _, after := #[{ on := 16, ground := Ground.data }, { on := 15, ground := Ground.chain }, { on := 15, ground := Ground.guard }], guard := some (15, true) }) rfl (fun K hK => ?_) AllReadyM.nil
  have HK9 : Hid (∀ a w, _ → K a w) := hK
  clear hK
  go_simp
  refine (dclone_any ⟨ak, ⟨aek, aes, aeg, aec⟩, akey, apg, ⟨aleaf, alo, ahi, ar, al⟩⟩ ap an ac _ HNa.out (HX.out _ hB4).1 hl2 HPa.out).mono ?_
  rintro e w5 ⟨q, qc, rfl, ho, hb⟩
  have hB5 := hB4.trans (hb.mono (HX.out _ hB4).2.2.1)
  have hens := down_at ho
  clear ho
  clear hb
  refine HK9.out _ _ ⟨fun _ => (HX.out _ hB5).2.2.2, ?_⟩
  clear HK9 K
  try simp only [Act.put, List.setIfInBounds_toArray, List.set_cons_zero, List.set_cons_succ]
  refine wpAnyM_ready (rs := [19]) (by kernel_rfl) (by simp) ?_
  refine AllReadyM.cons (o := { dst := some 24, op := Op.call { callee := Callee.value (Operand.func 23), args := #[Operand.tmp 22, Operand.tmp 23], argTypes := #[30, 30] }, type := 4, pos := _, after := #[{ on := 17, ground := Ground.data }, { on := 18, ground := Ground.data }, { on := 17, ground := Ground.chain }, { on := 15, ground := Ground.guard }], guard := some (15, true) }) rfl (fun K hK => ?_) AllReadyM.nil
  have HK9 : Hid (∀ a w, _ → K a w) := hK
  clear hK
  go_simp
  refine (dsame_any ⟨ak, ⟨aek, aes, aeg, aec⟩, akey, apg, ⟨aleaf, alo, ahi, ar, al⟩⟩ ⟨ak, ⟨aek, aes, aeg, aec⟩, akey, apg, ⟨aleaf, alo, ahi, ar, al⟩⟩ q ap an an qc ac _ HNa.out HNa.out hens (HX.out _ hB5).1 hl).mono ?_
  rw [Dl.same_self]
  rintro e w6 ⟨rfl, hb⟩
  have hB6 := hB5.trans (hb.mono (HX.out _ hB5).2.2.1)
  clear hb
  refine HK9.out _ _ ⟨fun _ => (HX.out _ hB6).2.2.2, ?_⟩
  clear HK9 K
  try simp only [Act.put, List.setIfInBounds_toArray, List.set_cons_zero, List.set_cons_succ]
  refine wpAnyM_take (i := 20) [] (oi := { dst := some 25, op := Op.pick (Operand.tmp 20) (Operand.tmp 24) (Operand.const (Value.bool false)), type := 4, pos := _, after := #[{ on := 15, ground := Ground.data }, { on := 19, ground := Ground.data }], guard := none }) (v := .bool true) rfl (by kernel_rfl) (by kernel_rfl) (by kernel_rfl) (by kernel_rfl) (fun _ _ _ h => h) (Or.inl ⟨by rfl, ?_⟩) (HX.out _ hB6).2.2.2 ?_
  · (intro w' hSw; go_simp; try with_reducible rfl)
  try simp only [Act.put, List.setIfInBounds_toArray, List.set_cons_zero, List.set_cons_succ]
  refine wpAnyM_ready (rs := [21]) (by kernel_rfl) (by simp) ?_
  refine AllReadyM.cons (o := { dst := some 4, op := Op.assign (Operand.tmp 25), type := 4, pos := _, after := #[{ on := 20, ground := Ground.data }, { on := 19, ground := Ground.chain }, { on := 0, ground := Ground.phase }, { on := 1, ground := Ground.phase }, { on := 2, ground := Ground.phase }, { on := 3, ground := Ground.phase }, { on := 4, ground := Ground.phase }, { on := 5, ground := Ground.phase }, { on := 6, ground := Ground.phase }, { on := 7, ground := Ground.phase }, { on := 8, ground := Ground.phase }, { on := 9, ground := Ground.phase }, { on := 10, ground := Ground.phase }, { on := 11, ground := Ground.phase }, { on := 12, ground := Ground.phase }, { on := 13, ground := Ground.phase }, { on := 14, ground := Ground.phase }, { on := 15, ground := Ground.phase }, { on := 16, ground := Ground.phase }, { on := 17, ground := Ground.phase }, { on := 18, ground := Ground.phase }, { on := 19, ground := Ground.phase }, { on := 20, ground := Ground.phase }], guard := none }) rfl (fun K hK => ?_) AllReadyM.nil
  have HK9 : Hid (∀ a w, _ → K a w) := hK
  clear hK
  go_simp
  refine HK9.out _ _ ⟨fun _ => (HX.out _ hB6).2.2.2, ?_⟩
  clear HK9 K
  try simp only [Act.put, List.setIfInBounds_toArray, List.set_cons_zero, List.set_cons_succ]
  refine wpAnyM_done (by kernel_rfl) ?_ _
  go_wp2
  go_ret
  exact ⟨rfl, HB0.out.trans (hB6.mono HB0.out.size)⟩

theorem walk_deltaSame (a : De) (ap : Option Addr) (an ac : Nat) (b : De) (bp : Option Addr) (bn bc : Nat) (w : World) (ha : InD 3518437208780 w a ap an ac) (hb : InD 3518437208780 w b bp bn bc) :
    Calls Tryz.prog 5 #[dlv a.k a.e a.key a.pg a.rt.leaf a.rt.lo a.rt.hi a.rt.r ap an ac, dlv b.k b.e b.key b.pg b.rt.leaf b.rt.lo b.rt.hi b.rt.r bp bn bc] w fun e w' => e = .returned (.bool true) ∧ Below w.heap.size w w' :=
  walkd_deltaSame a.k a.e.key a.e.s a.e.g a.e.c a.key a.pg a.rt.leaf a.rt.lo a.rt.hi a.rt.r a.rt.l ap an ac b.k b.e.key b.e.s b.e.g b.e.c b.key b.pg b.rt.leaf b.rt.lo b.rt.hi b.rt.r b.rt.l bp bn bc w ha.right hb.right


set_option maxRecDepth 100000 in
set_option maxHeartbeats 2000000 in
theorem lifted_deltaSame (os : Os) (started : os.Started) (H : Type) (enc : TypeId × Value → H) :
    ReturnsInHanded {} Tryz.checked os 5 .any (Rows.deltaSameSpec.pre6 enc Tryz.prog Tryz.f5 Rows.deltaSameRow.domain false) (Rows.deltaSameSpec.post enc Tryz.prog Tryz.f5 false true false false) := by
  refine returnsInHanded_of_change_sized (C := Tryz.checked) own started (by kernel_rfl) Tryz.func5
    (ChangeSpec.witness6 (enc := enc) (C := Tryz.checked) false ⟨#[], #[.agg #[.int .i64 0, .string .empty, .int .i64 0, .int .i64 0, .int .i64 0, .string .empty, .int .i64 0, .bool false, .string .empty, .string .empty, .int .i64 0, .slice none 0 0], .agg #[.int .i64 0, .string .empty, .int .i64 0, .int .i64 0, .int .i64 0, .string .empty, .int .i64 0, .bool false, .string .empty, .string .empty, .int .i64 0, .slice none 0 0]], []⟩ 8 (by kernel_rfl) (by kernel_rfl) (by kernel_rfl) (by kernel_rfl)) ?_
  intro W base args ds gs before hval0 hW _ hsz0 _
  have hsz : (DataW.weightsEach Tryz.prog (Tryz.f5.params.toList ++ Rows.deltaSameSpec.plain.varTypes Tryz.prog) (ds ++ gs)).all (· ≤ reachBytes) = true := hsz0
  clear hsz0
  have hval : ∀ (j : Nat) t v, Tryz.f5.params[j]? = some t → args[j]? = some v → Value.okWide Tryz.prog W .any base t v := hval0
  have hW' := hW
  obtain ⟨p, q, hA0, hV, rfl, hfz, hnd⟩ := hW
  have hA : DataW.TrodAll enc Tryz.prog W 0 (fun _ => true) true Tryz.f5.params.toList args.toList ds p := hA0
  rw [Tryz.params5] at hA hval hsz
  obtain ⟨v0, vs0, d0, ds0, p0, q0, hargs, rfl, rfl, h0, r0⟩ := trodAll_cons hA
  obtain ⟨v1, vs1, d1, ds1, p1, q1, rfl, rfl, rfl, h1, r1⟩ := trodAll_cons r0
  obtain ⟨rfl, rfl, rfl⟩ := trodAll_nil r1
  obtain rfl : args = #[v0, v1] := by cases args; simp_all
  obtain ⟨rfl, rfl⟩ := trodVars_none hV
  have k0 := h0
  have lt0 : ∀ x ∈ p0, x.block < W.heap.size := by obtain ⟨m, hm⟩ := k0; exact DataW.trod_lt m _ _ _ hm
  obtain ⟨g0, a0, len0, cap0, e0, w0⟩ : ∃ (d : De) (a : Option Addr) (len cap : Nat), v0 = dlv d.k d.e d.key d.pg d.rt.leaf d.rt.lo d.rt.hi d.rt.r a len cap ∧ InD 3518437208780 W d a len cap := by
    obtain ⟨cs, hcs, _⟩ := okWide_struct Tryz.underlying30 (hval 0 30 v0 rfl rfl)
    obtain ⟨fuel, hf⟩ := h0
    obtain ⟨d, a, len, cap, hg, ho⟩ := in_delta (M := 3518437208780) hf (delta_said (x := (d0, p0)) (Nat.le_refl _) (fun n hn => by
      have := of_decide_eq_true (List.all_eq_true.1 hsz _ (DataW.weights_mem_each (j := 0) (t := 30) rfl rfl n hn))
      simp only [reachBytes] at this
      omega))
    refine ⟨d, a, len, cap, ?_, ho⟩
    rw [hcs] at hg ⊢
    congr 1
    apply Array.ext'
    simpa [Value.cells] using hg
  subst e0
  have k1 := h1
  have lt1 : ∀ x ∈ p1, x.block < W.heap.size := by obtain ⟨m, hm⟩ := k1; exact DataW.trod_lt m _ _ _ hm
  obtain ⟨g1, a1, len1, cap1, e1, w1⟩ : ∃ (d : De) (a : Option Addr) (len cap : Nat), v1 = dlv d.k d.e d.key d.pg d.rt.leaf d.rt.lo d.rt.hi d.rt.r a len cap ∧ InD 3518437208780 W d a len cap := by
    obtain ⟨cs, hcs, _⟩ := okWide_struct Tryz.underlying30 (hval 1 30 v1 rfl rfl)
    obtain ⟨fuel, hf⟩ := h1
    obtain ⟨d, a, len, cap, hg, ho⟩ := in_delta (M := 3518437208780) hf (delta_said (x := (d1, p1)) (Nat.le_refl _) (fun n hn => by
      have := of_decide_eq_true (List.all_eq_true.1 hsz _ (DataW.weights_mem_each (j := 1) (t := 30) rfl rfl n hn))
      simp only [reachBytes] at this
      omega))
    refine ⟨d, a, len, cap, ?_, ho⟩
    rw [hcs] at hg ⊢
    congr 1
    apply Array.ext'
    simpa [Value.cells] using hg
  subst e1
  clear hA0 hval0
  refine (walk_deltaSame g0 a0 len0 cap0 g1 a1 len1 cap1 W w0 w1).mono fun e W' ⟨he, bel⟩ => ?_
  subst he
  exact ⟨_, rfl, _, _, _, [], _, [], hW', trodAll_mk1 (shut_bool Tryz.underlying4 _), (trodAll_cons_mk (Below.trod laidOut (by kernel_rfl) (of_decide_eq_true (by kernel_rfl)) k0 bel lt0) (trodAll_cons_mk (Below.trod laidOut (by kernel_rfl) (of_decide_eq_true (by kernel_rfl)) k1 bel lt1) trodAll_mk0)), rfl, bel.frame _, fun h => by cases h⟩

/-- The statement. -/
theorem deltaSame_holds : Rows.DeltaSameSaid :=
  OpenClaim.holds_of_wide 5 Tryz.f5 rfl rfl rfl rfl rfl rfl rfl ⟨rfl, rfl, rfl, rfl, rfl⟩ rfl rfl rfl rfl rfl (by kernel_rfl) Tryz.func5 (by kernel_rfl)
    (of_decide_eq_true (by kernel_rfl)) (by unfold Func.isWrapper; first | (rw [if_pos (by decide +kernel)]; kernel_rfl) | (rw [if_neg (by decide +kernel)]; exact ⟨rfl, rfl⟩))
    (fun os started H enc _ => lifted_deltaSame os started H enc)
#print axioms deltaSame_holds
end Go.Proofs.YtkmlholjglmfnaaGreat
