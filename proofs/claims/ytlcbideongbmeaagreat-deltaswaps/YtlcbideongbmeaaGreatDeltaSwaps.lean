/- DeltaSwaps: two changes of different keys, in either order. -/
import Derived.Test.YtlcbideongbmeaaGreatDeltaSwapsB
import Derived.Test.YtlcbideongbmeaaGreatDeltaSwapsC
namespace Go.Proofs.YtlcbideongbmeaaGreat
open Go.ChangeShapes Go.WideShapes Go.ChangeAt Go.RowKit Go.Sort
open Go.ChangeMaps (open_string shut_string)
set_option linter.unusedVariables false
set_option linter.unusedSimpArgs false
set_option maxRecDepth 100000

/-- Fold by two changes. -/
theorem fold_two (pf : Bool) (plo phi : ByteArray) (pr : Int) (pp : Option Addr) (pn pc : Nat) (pl : List En) (ka kb : Int) (aek : ByteArray) (aes aeg aec : Int) (akey : ByteArray) (apg : Int) (aleaf : Bool) (alo ahi : ByteArray) (ar : Int) (al : List En) (ap : Option Addr) (an ac : Nat) (bek : ByteArray) (bes beg bec : Int) (bkey : ByteArray) (bpg : Int) (bleaf : Bool) (blo bhi : ByteArray) (br : Int) (bl : List En) (bp : Option Addr) (bn bc : Nat) (w : World) (hka : ka = 1 ∨ ka = 2) (hkb : kb = 1 ∨ kb = 2) (hp : InE 3518437208780 w pp pn pc pl) (ha : InE 3518437208780 w ap an ac al) (hb : InE 3518437208780 w bp bn bc bl) (W : World) (b : Nat) (hW : Below w.heap.size w W) (hk : Bk W b 32 ((⟨⟨ka, ⟨aek, aes, aeg, aec⟩, akey, apg, ⟨aleaf, alo, ahi, ar, al⟩⟩, ap, an, ac⟩ : Dm).cells ++ (⟨⟨kb, ⟨bek, bes, beg, bec⟩, bkey, bpg, ⟨bleaf, blo, bhi, br, bl⟩⟩, bp, bn, bc⟩ : Dm).cells).toArray) :
    Calls Tryz.prog 11 #[pgv pf plo phi pr pp pn pc, .slice (some ⟨b, 0, none⟩) 2 2] W fun e w' => ∃ v, e = .returned (.tuple #[v, .int .i64 (Dl.fo ⟨pf, plo, phi, pr, pl⟩ [⟨kb, ⟨bek, bes, beg, bec⟩, bkey, bpg, ⟨bleaf, blo, bhi, br, bl⟩⟩, ⟨ka, ⟨aek, aes, aeg, aec⟩, akey, apg, ⟨aleaf, alo, ahi, ar, al⟩⟩]).2]) ∧ PgAt w' W.heap.size v (Dl.fo ⟨pf, plo, phi, pr, pl⟩ [⟨kb, ⟨bek, bes, beg, bec⟩, bkey, bpg, ⟨bleaf, blo, bhi, br, bl⟩⟩, ⟨ka, ⟨aek, aes, aeg, aec⟩, akey, apg, ⟨aleaf, alo, ahi, ar, al⟩⟩]).1 ∧ Below W.heap.size W w' := by
  have hds : (([⟨⟨ka, ⟨aek, aes, aeg, aec⟩, akey, apg, ⟨aleaf, alo, ahi, ar, al⟩⟩, ap, an, ac⟩, ⟨⟨kb, ⟨bek, bes, beg, bec⟩, bkey, bpg, ⟨bleaf, blo, bhi, br, bl⟩⟩, bp, bn, bc⟩] : List Dm).map (·.d)).reverse = [⟨kb, ⟨bek, bes, beg, bec⟩, bkey, bpg, ⟨bleaf, blo, bhi, br, bl⟩⟩, ⟨ka, ⟨aek, aes, aeg, aec⟩, akey, apg, ⟨aleaf, alo, ahi, ar, al⟩⟩] := rfl
  have h1 := ha.room
  have h2 := hb.room
  have h3 := hp.room
  have h4 := hp.lenq
  have hdes : Des W (some ⟨b, 0, none⟩) [⟨⟨ka, ⟨aek, aes, aeg, aec⟩, akey, apg, ⟨aleaf, alo, ahi, ar, al⟩⟩, ap, an, ac⟩, ⟨⟨kb, ⟨bek, bes, beg, bec⟩, bkey, bpg, ⟨bleaf, blo, bhi, br, bl⟩⟩, bp, bn, bc⟩] := des_two hk ⟨ha.lenq, ha.ens.below hW (Nat.le_refl _), ha.nil, ha.le, h1⟩ ⟨hb.lenq, hb.ens.below hW (Nat.le_refl _), hb.nil, hb.le, h2⟩
  have := fold_any pf plo phi pr pp pn pc pl (some ⟨b, 0, none⟩) 2 2 [⟨⟨ka, ⟨aek, aes, aeg, aec⟩, akey, apg, ⟨aleaf, alo, ahi, ar, al⟩⟩, ap, an, ac⟩, ⟨⟨kb, ⟨bek, bes, beg, bec⟩, bkey, bpg, ⟨bleaf, blo, bhi, br, bl⟩⟩, bp, bn, bc⟩] W hp.lenq (hp.ens.below hW (Nat.le_refl _)) (fun h => (hp.nil h).1) rfl (by decide) hdes (fun h0 => ?_)
  · rw [hds] at this
    exact this
  · rw [hds] at h0 ⊢
    have hok := Dl.fo_ok _ _ h0
    have ra : al = [] := Dl.may_rt (hok.2 ⟨ka, ⟨aek, aes, aeg, aec⟩, akey, apg, ⟨aleaf, alo, ahi, ar, al⟩⟩ (by simp)).1 (by show ka ≠ 4; omega)
    have rb : bl = [] := Dl.may_rt (hok.2 ⟨kb, ⟨bek, bes, beg, bec⟩, bkey, bpg, ⟨bleaf, blo, bhi, br, bl⟩⟩ (by simp)).1 (by show kb ≠ 4; omega)
    have hrow : (pl ++ rowsOf [⟨kb, ⟨bek, bes, beg, bec⟩, bkey, bpg, ⟨bleaf, blo, bhi, br, bl⟩⟩, ⟨ka, ⟨aek, aes, aeg, aec⟩, akey, apg, ⟨aleaf, alo, ahi, ar, al⟩⟩]).length = pl.length := by simp [rowsOf, ra, rb]
    refine ⟨by omega, ?_, ?_⟩
    · unfold allTexts
      rw [List.length_append, List.length_map]
      have : (textsOf [⟨kb, ⟨bek, bes, beg, bec⟩, bkey, bpg, ⟨bleaf, blo, bhi, br, bl⟩⟩, ⟨ka, ⟨aek, aes, aeg, aec⟩, akey, apg, ⟨aleaf, alo, ahi, ar, al⟩⟩]).length = 4 := rfl
      omega
    · show (entS (entS pl ⟨kb, ⟨bek, bes, beg, bec⟩, bkey, bpg, ⟨bleaf, blo, bhi, br, bl⟩⟩) ⟨ka, ⟨aek, aes, aeg, aec⟩, akey, apg, ⟨aleaf, alo, ahi, ar, al⟩⟩).length ≤ _
      have e1 := Dl.entS_le pl ⟨kb, ⟨bek, bes, beg, bec⟩, bkey, bpg, ⟨bleaf, blo, bhi, br, bl⟩⟩
      have e2 := Dl.entS_le (entS pl ⟨kb, ⟨bek, bes, beg, bec⟩, bkey, bpg, ⟨bleaf, blo, bhi, br, bl⟩⟩) ⟨ka, ⟨aek, aes, aeg, aec⟩, akey, apg, ⟨aleaf, alo, ahi, ar, al⟩⟩
      simp only [ra, rb, List.length_nil] at e1 e2 ⊢
      omega

set_option maxHeartbeats 16000000 in
theorem walkd_deltaSwaps_11 (pf : Bool) (plo phi : ByteArray) (pr : Int) (pp : Option Addr) (pn pc : Nat) (pl : List En) (aek : ByteArray) (aes aeg aec : Int) (akey : ByteArray) (apg : Int) (aleaf : Bool) (alo ahi : ByteArray) (ar : Int) (al : List En) (ap : Option Addr) (an ac : Nat) (bek : ByteArray) (bes beg bec : Int) (bkey : ByteArray) (bpg : Int) (bleaf : Bool) (blo bhi : ByteArray) (br : Int) (bl : List En) (bp : Option Addr) (bn bc : Nat) (w : World) (hp : InE 3518437208780 w pp pn pc pl) (ha : InE 3518437208780 w ap an ac al) (hb : InE 3518437208780 w bp bn bc bl) (sa1 : aek.size ≤ 140737488351232) (sa2 : akey.size ≤ 140737488351232) (sb1 : bek.size ≤ 140737488351232) (sb2 : bkey.size ≤ 140737488351232) :
    Calls Tryz.prog 5 #[.agg #[.bool pf, .string plo, .string phi, .int .i64 pr, .slice pp pn pc], .agg #[.int .i64 1, .string aek, .int .i64 aes, .int .i64 aeg, .int .i64 aec, .string akey, .int .i64 apg, .bool aleaf, .string alo, .string ahi, .int .i64 ar, .slice ap an ac], .agg #[.int .i64 1, .string bek, .int .i64 bes, .int .i64 beg, .int .i64 bec, .string bkey, .int .i64 bpg, .bool bleaf, .string blo, .string bhi, .int .i64 br, .slice bp bn bc]] w fun e w' => e = .returned (.bool true) ∧ Below w.heap.size w w' := by
  have hr1 := hp.room
  have hC := fun (W : World) (h : Below w.heap.size w W) => rcheck_any pf plo phi pr pp pn pc pl W hp.lenq (hp.ens.below h (Nat.le_refl _)) (by omega)
  have hF1 := fun (W : World) (b : Nat) (h : Below w.heap.size w W) => fold_two pf plo phi pr pp pn pc pl 1 1 aek aes aeg aec akey apg aleaf alo ahi ar al ap an ac bek bes beg bec bkey bpg bleaf blo bhi br bl bp bn bc w (by decide) (by decide) hp ha hb W b h
  have hF2 := fun (W : World) (b : Nat) (h : Below w.heap.size w W) => fold_two pf plo phi pr pp pn pc pl 1 1 bek bes beg bec bkey bpg bleaf blo bhi br bl bp bn bc aek aes aeg aec akey apg aleaf alo ahi ar al ap an ac w (by decide) (by decide) hp hb ha W b h
  have hsw := fun hm hne => Dl.swap (g := ⟨pf, plo, phi, pr, pl⟩) hm (a := ⟨1, ⟨bek, bes, beg, bec⟩, bkey, bpg, ⟨bleaf, blo, bhi, br, bl⟩⟩) (b := ⟨1, ⟨aek, aes, aeg, aec⟩, akey, apg, ⟨aleaf, alo, ahi, ar, al⟩⟩) (.inl rfl) (.inl rfl) hne
  have hxl : (Dl.fo ⟨pf, plo, phi, pr, pl⟩ [⟨1, ⟨bek, bes, beg, bec⟩, bkey, bpg, ⟨bleaf, blo, bhi, br, bl⟩⟩, ⟨1, ⟨aek, aes, aeg, aec⟩, akey, apg, ⟨aleaf, alo, ahi, ar, al⟩⟩]).2 = 0 → (Dl.fo ⟨pf, plo, phi, pr, pl⟩ [⟨1, ⟨bek, bes, beg, bec⟩, bkey, bpg, ⟨bleaf, blo, bhi, br, bl⟩⟩, ⟨1, ⟨aek, aes, aeg, aec⟩, akey, apg, ⟨aleaf, alo, ahi, ar, al⟩⟩]).1.l.length ≤ 4398046511104 := fun h0 => by
    have hok := Dl.fo_ok _ _ h0
    have ra : al = [] := Dl.may_rt (hok.2 ⟨1, ⟨aek, aes, aeg, aec⟩, akey, apg, ⟨aleaf, alo, ahi, ar, al⟩⟩ (by simp)).1 (show (1 : Int) ≠ 4 by decide)
    have rb : bl = [] := Dl.may_rt (hok.2 ⟨1, ⟨bek, bes, beg, bec⟩, bkey, bpg, ⟨bleaf, blo, bhi, br, bl⟩⟩ (by simp)).1 (show (1 : Int) ≠ 4 by decide)
    rw [hok.1]
    show (entS (entS pl ⟨1, ⟨bek, bes, beg, bec⟩, bkey, bpg, ⟨bleaf, blo, bhi, br, bl⟩⟩) ⟨1, ⟨aek, aes, aeg, aec⟩, akey, apg, ⟨aleaf, alo, ahi, ar, al⟩⟩).length ≤ _
    have e1 := Dl.entS_le pl ⟨1, ⟨bek, bes, beg, bec⟩, bkey, bpg, ⟨bleaf, blo, bhi, br, bl⟩⟩
    have e2 := Dl.entS_le (entS pl ⟨1, ⟨bek, bes, beg, bec⟩, bkey, bpg, ⟨bleaf, blo, bhi, br, bl⟩⟩) ⟨1, ⟨aek, aes, aeg, aec⟩, akey, apg, ⟨aleaf, alo, ahi, ar, al⟩⟩
    have := hp.lenq
    simp only [ra, rb, List.length_nil] at e1 e2 ⊢
    omega
  generalize Dl.fo ⟨pf, plo, phi, pr, pl⟩ [⟨1, ⟨bek, bes, beg, bec⟩, bkey, bpg, ⟨bleaf, blo, bhi, br, bl⟩⟩, ⟨1, ⟨aek, aes, aeg, aec⟩, akey, apg, ⟨aleaf, alo, ahi, ar, al⟩⟩] = ox at hF1 hsw hxl
  generalize Dl.fo ⟨pf, plo, phi, pr, pl⟩ [⟨1, ⟨aek, aes, aeg, aec⟩, akey, apg, ⟨aleaf, alo, ahi, ar, al⟩⟩, ⟨1, ⟨bek, bes, beg, bec⟩, bkey, bpg, ⟨bleaf, blo, bhi, br, bl⟩⟩] = oy at hF2 hsw
  obtain ⟨⟨xf, xlo, xhi, xr, xl⟩, xe⟩ := ox
  obtain ⟨⟨yf, ylo, yhi, yr, yl⟩, ye⟩ := oy
  simp only at hF1 hF2 hsw hxl
  have HF1 : Hid (∀ (W : World) (b : Nat), Below w.heap.size w W → Bk W b 32 #[.int .i64 1, .string aek, .int .i64 aes, .int .i64 aeg, .int .i64 aec, .string akey, .int .i64 apg, .bool aleaf, .string alo, .string ahi, .int .i64 ar, .slice ap an ac, .int .i64 1, .string bek, .int .i64 bes, .int .i64 beg, .int .i64 bec, .string bkey, .int .i64 bpg, .bool bleaf, .string blo, .string bhi, .int .i64 br, .slice bp bn bc] → Calls Tryz.prog 11 #[pgv pf plo phi pr pp pn pc, .slice (some ⟨b, 0, none⟩) 2 2] W fun e w' => ∃ v, e = .returned (.tuple #[v, .int .i64 xe]) ∧ PgAt w' W.heap.size v ⟨xf, xlo, xhi, xr, xl⟩ ∧ Below W.heap.size W w') := hF1
  have HF2 : Hid (∀ (W : World) (b : Nat), Below w.heap.size w W → Bk W b 32 #[.int .i64 1, .string bek, .int .i64 bes, .int .i64 beg, .int .i64 bec, .string bkey, .int .i64 bpg, .bool bleaf, .string blo, .string bhi, .int .i64 br, .slice bp bn bc, .int .i64 1, .string aek, .int .i64 aes, .int .i64 aeg, .int .i64 aec, .string akey, .int .i64 apg, .bool aleaf, .string alo, .string ahi, .int .i64 ar, .slice ap an ac] → Calls Tryz.prog 11 #[pgv pf plo phi pr pp pn pc, .slice (some ⟨b, 0, none⟩) 2 2] W fun e w' => ∃ v, e = .returned (.tuple #[v, .int .i64 ye]) ∧ PgAt w' W.heap.size v ⟨yf, ylo, yhi, yr, yl⟩ ∧ Below W.heap.size W w') := hF2
  have HCK : Hid (∀ W, Below w.heap.size w W → Calls Tryz.prog 21 #[pgv pf plo phi pr pp pn pc] W fun e w' => e = .returned (.int .i64 (if Pg.may pf ⟨plo, phi⟩ pr pl then 0 else 70)) ∧ Below W.heap.size W w') := hC
  have HSW : Hid _ := hsw
  have HXL : Hid (xe = 0 → xl.length ≤ 4398046511104) := hxl
  clear hF1 hF2 hC hsw hxl hp ha hb hr1
  obtain ⟨w0, hw0⟩ : ∃ w0, ((w.alloc (.cells #[.bool pf, .string plo, .string phi, .int .i64 pr, .slice pp pn pc] 24)).alloc (.cells #[.int .i64 1, .string aek, .int .i64 aes, .int .i64 aeg, .int .i64 aec, .string akey, .int .i64 apg, .bool aleaf, .string alo, .string ahi, .int .i64 ar, .slice ap an ac] 32)).alloc (.cells #[.int .i64 1, .string bek, .int .i64 bes, .int .i64 beg, .int .i64 bec, .string bkey, .int .i64 bpg, .bool bleaf, .string blo, .string bhi, .int .i64 br, .slice bp bn bc] 32) = w0 := ⟨_, rfl⟩
  have HB0 : Hid (Below w.heap.size w w0) := by rw [← hw0]; exact (((Below.refl _ _).alloc (Nat.le_refl _) _).alloc (by simp) _).alloc (by simp; omega) _
  have HP0 : Hid (Bk w0 w.heap.size 24 #[.bool pf, .string plo, .string phi, .int .i64 pr, .slice pp pn pc]) := by rw [← hw0]; exact ((Bk.new _ _ _).alloc _).alloc _
  have HA0 : Hid (Bk w0 (w.heap.size + 1) 32 #[.int .i64 1, .string aek, .int .i64 aes, .int .i64 aeg, .int .i64 aec, .string akey, .int .i64 apg, .bool aleaf, .string alo, .string ahi, .int .i64 ar, .slice ap an ac]) := by rw [← hw0]; exact (Bk.new1 _ _ _ _).alloc _
  have HD0 : Hid (Bk w0 (w.heap.size + 1 + 1) 32 #[.int .i64 1, .string bek, .int .i64 bes, .int .i64 beg, .int .i64 bec, .string bkey, .int .i64 bpg, .bool bleaf, .string blo, .string bhi, .int .i64 br, .slice bp bn bc]) := by rw [← hw0]; exact Bk.new2 _ _ _ _ _
  go_enter Tryz.func5, Tryz.ntmps5
  have a0 : w0.cell? ⟨w.heap.size, 0, none⟩ = some (.bool pf) := HP0.out.cell 0
  have a1 : w0.cell? ⟨w.heap.size, 1, none⟩ = some (.string plo) := HP0.out.cell 1
  have a2 : w0.cell? ⟨w.heap.size, 2, none⟩ = some (.string phi) := HP0.out.cell 2
  have a3 : w0.cell? ⟨w.heap.size, 3, none⟩ = some (.int .i64 pr) := HP0.out.cell 3
  have a4 : w0.cell? ⟨w.heap.size, 4, none⟩ = some (.slice pp pn pc) := HP0.out.cell 4
  have y0 : w0.cell? ⟨w.heap.size + 1, 0, none⟩ = some (.int .i64 1) := HA0.out.cell 0
  have y1 : w0.cell? ⟨w.heap.size + 1, 1, none⟩ = some (.string aek) := HA0.out.cell 1
  have y2 : w0.cell? ⟨w.heap.size + 1, 2, none⟩ = some (.int .i64 aes) := HA0.out.cell 2
  have y3 : w0.cell? ⟨w.heap.size + 1, 3, none⟩ = some (.int .i64 aeg) := HA0.out.cell 3
  have y4 : w0.cell? ⟨w.heap.size + 1, 4, none⟩ = some (.int .i64 aec) := HA0.out.cell 4
  have y5 : w0.cell? ⟨w.heap.size + 1, 5, none⟩ = some (.string akey) := HA0.out.cell 5
  have y6 : w0.cell? ⟨w.heap.size + 1, 6, none⟩ = some (.int .i64 apg) := HA0.out.cell 6
  have y7 : w0.cell? ⟨w.heap.size + 1, 7, none⟩ = some (.bool aleaf) := HA0.out.cell 7
  have y8 : w0.cell? ⟨w.heap.size + 1, 8, none⟩ = some (.string alo) := HA0.out.cell 8
  have y9 : w0.cell? ⟨w.heap.size + 1, 9, none⟩ = some (.string ahi) := HA0.out.cell 9
  have y10 : w0.cell? ⟨w.heap.size + 1, 10, none⟩ = some (.int .i64 ar) := HA0.out.cell 10
  have y11 : w0.cell? ⟨w.heap.size + 1, 11, none⟩ = some (.slice ap an ac) := HA0.out.cell 11
  have z0 : w0.cell? ⟨w.heap.size + 1 + 1, 0, none⟩ = some (.int .i64 1) := HD0.out.cell 0
  have z1 : w0.cell? ⟨w.heap.size + 1 + 1, 1, none⟩ = some (.string bek) := HD0.out.cell 1
  have z2 : w0.cell? ⟨w.heap.size + 1 + 1, 2, none⟩ = some (.int .i64 bes) := HD0.out.cell 2
  have z3 : w0.cell? ⟨w.heap.size + 1 + 1, 3, none⟩ = some (.int .i64 beg) := HD0.out.cell 3
  have z4 : w0.cell? ⟨w.heap.size + 1 + 1, 4, none⟩ = some (.int .i64 bec) := HD0.out.cell 4
  have z5 : w0.cell? ⟨w.heap.size + 1 + 1, 5, none⟩ = some (.string bkey) := HD0.out.cell 5
  have z6 : w0.cell? ⟨w.heap.size + 1 + 1, 6, none⟩ = some (.int .i64 bpg) := HD0.out.cell 6
  have z7 : w0.cell? ⟨w.heap.size + 1 + 1, 7, none⟩ = some (.bool bleaf) := HD0.out.cell 7
  have z8 : w0.cell? ⟨w.heap.size + 1 + 1, 8, none⟩ = some (.string blo) := HD0.out.cell 8
  have z9 : w0.cell? ⟨w.heap.size + 1 + 1, 9, none⟩ = some (.string bhi) := HD0.out.cell 9
  have z10 : w0.cell? ⟨w.heap.size + 1 + 1, 10, none⟩ = some (.int .i64 br) := HD0.out.cell 10
  have z11 : w0.cell? ⟨w.heap.size + 1 + 1, 11, none⟩ = some (.slice bp bn bc) := HD0.out.cell 11
  have hc1 : ¬ (aek.size + akey.size > 9223372036854775807) := by omega
  have hc2 : ¬ (bek.size + bkey.size > 9223372036854775807) := by omega
  by_cases hcat : (aek.toList ++ akey.toList) = (bek.toList ++ bkey.toList)
  · have hq : ((aek ++ akey).toList == (bek ++ bkey).toList) = true := by rw [cat_list, cat_list, hcat]; simp
    clear HF1 HF2 HSW HXL HCK
    go_wp2_with fail
    refine (live_any _).mono ?_
    rintro e wl ⟨rfl, hbl⟩
    have hBl : Below w.heap.size w wl := HB0.out.trans (hbl.mono HB0.out.size)
    go_wp2
    go_ret
    exact ⟨rfl, hBl⟩
  · have hq : ((aek ++ akey).toList == (bek ++ bkey).toList) = false := by rw [cat_list, cat_list]; simpa using hcat
    go_wp2_with fail
    refine (HCK.out _ HB0.out).mono ?_
    rintro e w1 ⟨rfl, hb⟩
    clear hw0 hc1 hc2 hq sa1 sa2 sb1 sb2
    clear a0 a1 a2 a3 a4
    clear y0 y1 y2 y3 y4 y5 y6 y7 y8 y9 y10 y11
    clear z0 z1 z2 z3 z4 z5 z6 z7 z8 z9 z10 z11
    have HB1 : Hid (Below w.heap.size w w1) := HB0.out.trans (hb.mono HB0.out.size)
    have HP1 : Hid (Bk w1 w.heap.size 24 #[.bool pf, .string plo, .string phi, .int .i64 pr, .slice pp pn pc]) := HP0.out.below hb HP0.out.lt
    have HA1 : Hid (Bk w1 (w.heap.size + 1) 32 #[.int .i64 1, .string aek, .int .i64 aes, .int .i64 aeg, .int .i64 aec, .string akey, .int .i64 apg, .bool aleaf, .string alo, .string ahi, .int .i64 ar, .slice ap an ac]) := HA0.out.below hb HA0.out.lt
    have HD1 : Hid (Bk w1 (w.heap.size + 1 + 1) 32 #[.int .i64 1, .string bek, .int .i64 bes, .int .i64 beg, .int .i64 bec, .string bkey, .int .i64 bpg, .bool bleaf, .string blo, .string bhi, .int .i64 br, .slice bp bn bc]) := HD0.out.below hb HD0.out.lt
    clear hb HB0 HP0 HA0 HD0
    cases hm : Pg.may pf ⟨plo, phi⟩ pr pl with
    | false =>
      clear HF1 HF2 HSW HXL HCK
      simp only [Bool.false_eq_true, if_false]
      go_wp2_with fail
      refine (live_any _).mono ?_
      rintro e wl ⟨rfl, hbl⟩
      have hBl : Below w.heap.size w wl := HB1.out.trans (hbl.mono HB1.out.size)
      go_wp2
      go_ret
      exact ⟨rfl, hBl⟩
    | true =>
    have hsw2 := HSW.out hm (fun e => hcat e.symm)
    have HSV : Hid ((xe = 0 ↔ ye = 0) ∧ (xe = 0 → (⟨xf, xlo, xhi, xr, xl⟩ : Pp) = ⟨yf, ylo, yhi, yr, yl⟩)) := hsw2
    clear HSW hsw2 hm hcat HCK
    simp only [if_true]
    go_wp2_with fail
    refine (live_any _).mono ?_
    rintro e w2 ⟨rfl, hb⟩
    have HB2 : Hid (Below w.heap.size w w2) := HB1.out.trans (hb.mono HB1.out.size)
    have HP2 : Hid (Bk w2 w.heap.size 24 #[.bool pf, .string plo, .string phi, .int .i64 pr, .slice pp pn pc]) := HP1.out.below hb HP1.out.lt
    have HA2 : Hid (Bk w2 (w.heap.size + 1) 32 #[.int .i64 1, .string aek, .int .i64 aes, .int .i64 aeg, .int .i64 aec, .string akey, .int .i64 apg, .bool aleaf, .string alo, .string ahi, .int .i64 ar, .slice ap an ac]) := HA1.out.below hb HA1.out.lt
    have HD2 : Hid (Bk w2 (w.heap.size + 1 + 1) 32 #[.int .i64 1, .string bek, .int .i64 bes, .int .i64 beg, .int .i64 bec, .string bkey, .int .i64 bpg, .bool bleaf, .string blo, .string bhi, .int .i64 br, .slice bp bn bc]) := HD1.out.below hb HD1.out.lt
    clear hb HB1 HP1 HA1 HD1
    have HB3 : Hid (Below w.heap.size w (w2.alloc (.cells #[.int .i64 1, .string aek, .int .i64 aes, .int .i64 aeg, .int .i64 aec, .string akey, .int .i64 apg, .bool aleaf, .string alo, .string ahi, .int .i64 ar, .slice ap an ac, .int .i64 1, .string bek, .int .i64 bes, .int .i64 beg, .int .i64 bec, .string bkey, .int .i64 bpg, .bool bleaf, .string blo, .string bhi, .int .i64 br, .slice bp bn bc] 32))) := HB2.out.alloc HB2.out.size _
    have HP3 : Hid (Bk (w2.alloc (.cells #[.int .i64 1, .string aek, .int .i64 aes, .int .i64 aeg, .int .i64 aec, .string akey, .int .i64 apg, .bool aleaf, .string alo, .string ahi, .int .i64 ar, .slice ap an ac, .int .i64 1, .string bek, .int .i64 bes, .int .i64 beg, .int .i64 bec, .string bkey, .int .i64 bpg, .bool bleaf, .string blo, .string bhi, .int .i64 br, .slice bp bn bc] 32)) w.heap.size 24 #[.bool pf, .string plo, .string phi, .int .i64 pr, .slice pp pn pc]) := HP2.out.alloc _
    have HA3 : Hid (Bk (w2.alloc (.cells #[.int .i64 1, .string aek, .int .i64 aes, .int .i64 aeg, .int .i64 aec, .string akey, .int .i64 apg, .bool aleaf, .string alo, .string ahi, .int .i64 ar, .slice ap an ac, .int .i64 1, .string bek, .int .i64 bes, .int .i64 beg, .int .i64 bec, .string bkey, .int .i64 bpg, .bool bleaf, .string blo, .string bhi, .int .i64 br, .slice bp bn bc] 32)) (w.heap.size + 1) 32 #[.int .i64 1, .string aek, .int .i64 aes, .int .i64 aeg, .int .i64 aec, .string akey, .int .i64 apg, .bool aleaf, .string alo, .string ahi, .int .i64 ar, .slice ap an ac]) := HA2.out.alloc _
    have HD3 : Hid (Bk (w2.alloc (.cells #[.int .i64 1, .string aek, .int .i64 aes, .int .i64 aeg, .int .i64 aec, .string akey, .int .i64 apg, .bool aleaf, .string alo, .string ahi, .int .i64 ar, .slice ap an ac, .int .i64 1, .string bek, .int .i64 bes, .int .i64 beg, .int .i64 bec, .string bkey, .int .i64 bpg, .bool bleaf, .string blo, .string bhi, .int .i64 br, .slice bp bn bc] 32)) (w.heap.size + 1 + 1) 32 #[.int .i64 1, .string bek, .int .i64 bes, .int .i64 beg, .int .i64 bec, .string bkey, .int .i64 bpg, .bool bleaf, .string blo, .string bhi, .int .i64 br, .slice bp bn bc]) := HD2.out.alloc _
    have HL3 : Hid (Bk (w2.alloc (.cells #[.int .i64 1, .string aek, .int .i64 aes, .int .i64 aeg, .int .i64 aec, .string akey, .int .i64 apg, .bool aleaf, .string alo, .string ahi, .int .i64 ar, .slice ap an ac, .int .i64 1, .string bek, .int .i64 bes, .int .i64 beg, .int .i64 bec, .string bkey, .int .i64 bpg, .bool bleaf, .string blo, .string bhi, .int .i64 br, .slice bp bn bc] 32)) w2.heap.size 32 #[.int .i64 1, .string aek, .int .i64 aes, .int .i64 aeg, .int .i64 aec, .string akey, .int .i64 apg, .bool aleaf, .string alo, .string ahi, .int .i64 ar, .slice ap an ac, .int .i64 1, .string bek, .int .i64 bes, .int .i64 beg, .int .i64 bec, .string bkey, .int .i64 bpg, .bool bleaf, .string blo, .string bhi, .int .i64 br, .slice bp bn bc]) := Bk.new _ _ _
    have a0 : w2.cell? ⟨w.heap.size, 0, none⟩ = some (.bool pf) := HP2.out.cell 0
    have a1 : w2.cell? ⟨w.heap.size, 1, none⟩ = some (.string plo) := HP2.out.cell 1
    have a2 : w2.cell? ⟨w.heap.size, 2, none⟩ = some (.string phi) := HP2.out.cell 2
    have a3 : w2.cell? ⟨w.heap.size, 3, none⟩ = some (.int .i64 pr) := HP2.out.cell 3
    have a4 : w2.cell? ⟨w.heap.size, 4, none⟩ = some (.slice pp pn pc) := HP2.out.cell 4
    have y0 : w2.cell? ⟨w.heap.size + 1, 0, none⟩ = some (.int .i64 1) := HA2.out.cell 0
    have y1 : w2.cell? ⟨w.heap.size + 1, 1, none⟩ = some (.string aek) := HA2.out.cell 1
    have y2 : w2.cell? ⟨w.heap.size + 1, 2, none⟩ = some (.int .i64 aes) := HA2.out.cell 2
    have y3 : w2.cell? ⟨w.heap.size + 1, 3, none⟩ = some (.int .i64 aeg) := HA2.out.cell 3
    have y4 : w2.cell? ⟨w.heap.size + 1, 4, none⟩ = some (.int .i64 aec) := HA2.out.cell 4
    have y5 : w2.cell? ⟨w.heap.size + 1, 5, none⟩ = some (.string akey) := HA2.out.cell 5
    have y6 : w2.cell? ⟨w.heap.size + 1, 6, none⟩ = some (.int .i64 apg) := HA2.out.cell 6
    have y7 : w2.cell? ⟨w.heap.size + 1, 7, none⟩ = some (.bool aleaf) := HA2.out.cell 7
    have y8 : w2.cell? ⟨w.heap.size + 1, 8, none⟩ = some (.string alo) := HA2.out.cell 8
    have y9 : w2.cell? ⟨w.heap.size + 1, 9, none⟩ = some (.string ahi) := HA2.out.cell 9
    have y10 : w2.cell? ⟨w.heap.size + 1, 10, none⟩ = some (.int .i64 ar) := HA2.out.cell 10
    have y11 : w2.cell? ⟨w.heap.size + 1, 11, none⟩ = some (.slice ap an ac) := HA2.out.cell 11
    have z0 : w2.cell? ⟨w.heap.size + 1 + 1, 0, none⟩ = some (.int .i64 1) := HD2.out.cell 0
    have z1 : w2.cell? ⟨w.heap.size + 1 + 1, 1, none⟩ = some (.string bek) := HD2.out.cell 1
    have z2 : w2.cell? ⟨w.heap.size + 1 + 1, 2, none⟩ = some (.int .i64 bes) := HD2.out.cell 2
    have z3 : w2.cell? ⟨w.heap.size + 1 + 1, 3, none⟩ = some (.int .i64 beg) := HD2.out.cell 3
    have z4 : w2.cell? ⟨w.heap.size + 1 + 1, 4, none⟩ = some (.int .i64 bec) := HD2.out.cell 4
    have z5 : w2.cell? ⟨w.heap.size + 1 + 1, 5, none⟩ = some (.string bkey) := HD2.out.cell 5
    have z6 : w2.cell? ⟨w.heap.size + 1 + 1, 6, none⟩ = some (.int .i64 bpg) := HD2.out.cell 6
    have z7 : w2.cell? ⟨w.heap.size + 1 + 1, 7, none⟩ = some (.bool bleaf) := HD2.out.cell 7
    have z8 : w2.cell? ⟨w.heap.size + 1 + 1, 8, none⟩ = some (.string blo) := HD2.out.cell 8
    have z9 : w2.cell? ⟨w.heap.size + 1 + 1, 9, none⟩ = some (.string bhi) := HD2.out.cell 9
    have z10 : w2.cell? ⟨w.heap.size + 1 + 1, 10, none⟩ = some (.int .i64 br) := HD2.out.cell 10
    have z11 : w2.cell? ⟨w.heap.size + 1 + 1, 11, none⟩ = some (.slice bp bn bc) := HD2.out.cell 11
    go_wp2_with fail
    refine (HF1.out _ _ HB3.out HL3.out).mono ?_
    rintro e w4 ⟨v, rfl, hv, hb⟩
    clear a0 a1 a2 a3 a4
    clear y0 y1 y2 y3 y4 y5 y6 y7 y8 y9 y10 y11
    clear z0 z1 z2 z3 z4 z5 z6 z7 z8 z9 z10 z11
    clear HL3 HP2 HA2 HD2 HB2 HF1
    obtain ⟨xp, xc, rfl, hs⟩ := hv
    simp only
    obtain ⟨xn, HXN⟩ : ∃ xn, Hid (xl.length = xn) := ⟨_, rfl⟩
    rw [HXN.out]
    have HX4 : Hid (Ens w4 xp xl) := hs.ens
    clear hs
    have HB4 : Hid (Below w.heap.size w w4) := HB3.out.trans (hb.mono HB3.out.size)
    have HP4 : Hid (Bk w4 w.heap.size 24 #[.bool pf, .string plo, .string phi, .int .i64 pr, .slice pp pn pc]) := HP3.out.below hb HP3.out.lt
    have HA4 : Hid (Bk w4 (w.heap.size + 1) 32 #[.int .i64 1, .string aek, .int .i64 aes, .int .i64 aeg, .int .i64 aec, .string akey, .int .i64 apg, .bool aleaf, .string alo, .string ahi, .int .i64 ar, .slice ap an ac]) := HA3.out.below hb HA3.out.lt
    have HD4 : Hid (Bk w4 (w.heap.size + 1 + 1) 32 #[.int .i64 1, .string bek, .int .i64 bes, .int .i64 beg, .int .i64 bec, .string bkey, .int .i64 bpg, .bool bleaf, .string blo, .string bhi, .int .i64 br, .slice bp bn bc]) := HD3.out.below hb HD3.out.lt
    clear hb HB3 HP3 HA3 HD3
    obtain ⟨w5, hw5⟩ : ∃ w5, w5 = (w4.alloc (.cells #[.bool xf, .string xlo, .string xhi, .int .i64 xr, .slice xp xn xc] 24)) := ⟨_, rfl⟩
    have hbx : Below w4.heap.size w4 w5 := by rw [hw5]; exact (Below.refl _ _).alloc (Nat.le_refl _) _
    have HB5 : Hid (Below w.heap.size w w5) := HB4.out.trans (hbx.mono HB4.out.size)
    have HP5 : Hid (Bk w5 w.heap.size 24 #[.bool pf, .string plo, .string phi, .int .i64 pr, .slice pp pn pc]) := HP4.out.below hbx HP4.out.lt
    have HA5 : Hid (Bk w5 (w.heap.size + 1) 32 #[.int .i64 1, .string aek, .int .i64 aes, .int .i64 aeg, .int .i64 aec, .string akey, .int .i64 apg, .bool aleaf, .string alo, .string ahi, .int .i64 ar, .slice ap an ac]) := HA4.out.below hbx HA4.out.lt
    have HD5 : Hid (Bk w5 (w.heap.size + 1 + 1) 32 #[.int .i64 1, .string bek, .int .i64 bes, .int .i64 beg, .int .i64 bec, .string bkey, .int .i64 bpg, .bool bleaf, .string blo, .string bhi, .int .i64 br, .slice bp bn bc]) := HD4.out.below hbx HD4.out.lt
    have HXB5 : Hid (Bk w5 w4.heap.size 24 #[.bool xf, .string xlo, .string xhi, .int .i64 xr, .slice xp xn xc]) := by rw [hw5]; exact Bk.new _ _ _
    have HX5 : Hid (Ens w5 xp xl) := HX4.out.below hbx (Nat.le_refl _)
    have hnP : w.heap.size ≠ w4.heap.size := by have := HD4.out.lt; omega
    have hnA : w.heap.size + 1 ≠ w4.heap.size := by have := HD4.out.lt; omega
    have hnD : w.heap.size + 1 + 1 ≠ w4.heap.size := by have := HD4.out.lt; omega
    clear hbx
    have a0 : (w4.alloc (.cells #[.bool xf, .string xlo, .string xhi, .int .i64 xr, .slice xp xn xc] 24)).cell? ⟨w.heap.size, 0, none⟩ = some (.bool pf) := (HP4.out.alloc _).cell 0
    have a1 : (w4.alloc (.cells #[.bool xf, .string xlo, .string xhi, .int .i64 xr, .slice xp xn xc] 24)).cell? ⟨w.heap.size, 1, none⟩ = some (.string plo) := (HP4.out.alloc _).cell 1
    have a2 : (w4.alloc (.cells #[.bool xf, .string xlo, .string xhi, .int .i64 xr, .slice xp xn xc] 24)).cell? ⟨w.heap.size, 2, none⟩ = some (.string phi) := (HP4.out.alloc _).cell 2
    have a3 : (w4.alloc (.cells #[.bool xf, .string xlo, .string xhi, .int .i64 xr, .slice xp xn xc] 24)).cell? ⟨w.heap.size, 3, none⟩ = some (.int .i64 pr) := (HP4.out.alloc _).cell 3
    have a4 : (w4.alloc (.cells #[.bool xf, .string xlo, .string xhi, .int .i64 xr, .slice xp xn xc] 24)).cell? ⟨w.heap.size, 4, none⟩ = some (.slice pp pn pc) := (HP4.out.alloc _).cell 4
    have y0 : (w4.alloc (.cells #[.bool xf, .string xlo, .string xhi, .int .i64 xr, .slice xp xn xc] 24)).cell? ⟨w.heap.size + 1, 0, none⟩ = some (.int .i64 1) := (HA4.out.alloc _).cell 0
    have y1 : (w4.alloc (.cells #[.bool xf, .string xlo, .string xhi, .int .i64 xr, .slice xp xn xc] 24)).cell? ⟨w.heap.size + 1, 1, none⟩ = some (.string aek) := (HA4.out.alloc _).cell 1
    have y2 : (w4.alloc (.cells #[.bool xf, .string xlo, .string xhi, .int .i64 xr, .slice xp xn xc] 24)).cell? ⟨w.heap.size + 1, 2, none⟩ = some (.int .i64 aes) := (HA4.out.alloc _).cell 2
    have y3 : (w4.alloc (.cells #[.bool xf, .string xlo, .string xhi, .int .i64 xr, .slice xp xn xc] 24)).cell? ⟨w.heap.size + 1, 3, none⟩ = some (.int .i64 aeg) := (HA4.out.alloc _).cell 3
    have y4 : (w4.alloc (.cells #[.bool xf, .string xlo, .string xhi, .int .i64 xr, .slice xp xn xc] 24)).cell? ⟨w.heap.size + 1, 4, none⟩ = some (.int .i64 aec) := (HA4.out.alloc _).cell 4
    have y5 : (w4.alloc (.cells #[.bool xf, .string xlo, .string xhi, .int .i64 xr, .slice xp xn xc] 24)).cell? ⟨w.heap.size + 1, 5, none⟩ = some (.string akey) := (HA4.out.alloc _).cell 5
    have y6 : (w4.alloc (.cells #[.bool xf, .string xlo, .string xhi, .int .i64 xr, .slice xp xn xc] 24)).cell? ⟨w.heap.size + 1, 6, none⟩ = some (.int .i64 apg) := (HA4.out.alloc _).cell 6
    have y7 : (w4.alloc (.cells #[.bool xf, .string xlo, .string xhi, .int .i64 xr, .slice xp xn xc] 24)).cell? ⟨w.heap.size + 1, 7, none⟩ = some (.bool aleaf) := (HA4.out.alloc _).cell 7
    have y8 : (w4.alloc (.cells #[.bool xf, .string xlo, .string xhi, .int .i64 xr, .slice xp xn xc] 24)).cell? ⟨w.heap.size + 1, 8, none⟩ = some (.string alo) := (HA4.out.alloc _).cell 8
    have y9 : (w4.alloc (.cells #[.bool xf, .string xlo, .string xhi, .int .i64 xr, .slice xp xn xc] 24)).cell? ⟨w.heap.size + 1, 9, none⟩ = some (.string ahi) := (HA4.out.alloc _).cell 9
    have y10 : (w4.alloc (.cells #[.bool xf, .string xlo, .string xhi, .int .i64 xr, .slice xp xn xc] 24)).cell? ⟨w.heap.size + 1, 10, none⟩ = some (.int .i64 ar) := (HA4.out.alloc _).cell 10
    have y11 : (w4.alloc (.cells #[.bool xf, .string xlo, .string xhi, .int .i64 xr, .slice xp xn xc] 24)).cell? ⟨w.heap.size + 1, 11, none⟩ = some (.slice ap an ac) := (HA4.out.alloc _).cell 11
    have z0 : (w4.alloc (.cells #[.bool xf, .string xlo, .string xhi, .int .i64 xr, .slice xp xn xc] 24)).cell? ⟨w.heap.size + 1 + 1, 0, none⟩ = some (.int .i64 1) := (HD4.out.alloc _).cell 0
    have z1 : (w4.alloc (.cells #[.bool xf, .string xlo, .string xhi, .int .i64 xr, .slice xp xn xc] 24)).cell? ⟨w.heap.size + 1 + 1, 1, none⟩ = some (.string bek) := (HD4.out.alloc _).cell 1
    have z2 : (w4.alloc (.cells #[.bool xf, .string xlo, .string xhi, .int .i64 xr, .slice xp xn xc] 24)).cell? ⟨w.heap.size + 1 + 1, 2, none⟩ = some (.int .i64 bes) := (HD4.out.alloc _).cell 2
    have z3 : (w4.alloc (.cells #[.bool xf, .string xlo, .string xhi, .int .i64 xr, .slice xp xn xc] 24)).cell? ⟨w.heap.size + 1 + 1, 3, none⟩ = some (.int .i64 beg) := (HD4.out.alloc _).cell 3
    have z4 : (w4.alloc (.cells #[.bool xf, .string xlo, .string xhi, .int .i64 xr, .slice xp xn xc] 24)).cell? ⟨w.heap.size + 1 + 1, 4, none⟩ = some (.int .i64 bec) := (HD4.out.alloc _).cell 4
    have z5 : (w4.alloc (.cells #[.bool xf, .string xlo, .string xhi, .int .i64 xr, .slice xp xn xc] 24)).cell? ⟨w.heap.size + 1 + 1, 5, none⟩ = some (.string bkey) := (HD4.out.alloc _).cell 5
    have z6 : (w4.alloc (.cells #[.bool xf, .string xlo, .string xhi, .int .i64 xr, .slice xp xn xc] 24)).cell? ⟨w.heap.size + 1 + 1, 6, none⟩ = some (.int .i64 bpg) := (HD4.out.alloc _).cell 6
    have z7 : (w4.alloc (.cells #[.bool xf, .string xlo, .string xhi, .int .i64 xr, .slice xp xn xc] 24)).cell? ⟨w.heap.size + 1 + 1, 7, none⟩ = some (.bool bleaf) := (HD4.out.alloc _).cell 7
    have z8 : (w4.alloc (.cells #[.bool xf, .string xlo, .string xhi, .int .i64 xr, .slice xp xn xc] 24)).cell? ⟨w.heap.size + 1 + 1, 8, none⟩ = some (.string blo) := (HD4.out.alloc _).cell 8
    have z9 : (w4.alloc (.cells #[.bool xf, .string xlo, .string xhi, .int .i64 xr, .slice xp xn xc] 24)).cell? ⟨w.heap.size + 1 + 1, 9, none⟩ = some (.string bhi) := (HD4.out.alloc _).cell 9
    have z10 : (w4.alloc (.cells #[.bool xf, .string xlo, .string xhi, .int .i64 xr, .slice xp xn xc] 24)).cell? ⟨w.heap.size + 1 + 1, 10, none⟩ = some (.int .i64 br) := (HD4.out.alloc _).cell 10
    have z11 : (w4.alloc (.cells #[.bool xf, .string xlo, .string xhi, .int .i64 xr, .slice xp xn xc] 24)).cell? ⟨w.heap.size + 1 + 1, 11, none⟩ = some (.slice bp bn bc) := (HD4.out.alloc _).cell 11
    go_wp2_with fail
    rw [← hw5]
    have HB6 : Hid (Below w.heap.size w (w5.alloc (.cells #[.int .i64 1, .string bek, .int .i64 bes, .int .i64 beg, .int .i64 bec, .string bkey, .int .i64 bpg, .bool bleaf, .string blo, .string bhi, .int .i64 br, .slice bp bn bc, .int .i64 1, .string aek, .int .i64 aes, .int .i64 aeg, .int .i64 aec, .string akey, .int .i64 apg, .bool aleaf, .string alo, .string ahi, .int .i64 ar, .slice ap an ac] 32))) := HB5.out.alloc HB5.out.size _
    have HL6 : Hid (Bk (w5.alloc (.cells #[.int .i64 1, .string bek, .int .i64 bes, .int .i64 beg, .int .i64 bec, .string bkey, .int .i64 bpg, .bool bleaf, .string blo, .string bhi, .int .i64 br, .slice bp bn bc, .int .i64 1, .string aek, .int .i64 aes, .int .i64 aeg, .int .i64 aec, .string akey, .int .i64 apg, .bool aleaf, .string alo, .string ahi, .int .i64 ar, .slice ap an ac] 32)) w5.heap.size 32 #[.int .i64 1, .string bek, .int .i64 bes, .int .i64 beg, .int .i64 bec, .string bkey, .int .i64 bpg, .bool bleaf, .string blo, .string bhi, .int .i64 br, .slice bp bn bc, .int .i64 1, .string aek, .int .i64 aes, .int .i64 aeg, .int .i64 aec, .string akey, .int .i64 apg, .bool aleaf, .string alo, .string ahi, .int .i64 ar, .slice ap an ac]) := Bk.new _ _ _
    have HX6 : Hid (Ens (w5.alloc (.cells #[.int .i64 1, .string bek, .int .i64 bes, .int .i64 beg, .int .i64 bec, .string bkey, .int .i64 bpg, .bool bleaf, .string blo, .string bhi, .int .i64 br, .slice bp bn bc, .int .i64 1, .string aek, .int .i64 aes, .int .i64 aeg, .int .i64 aec, .string akey, .int .i64 apg, .bool aleaf, .string alo, .string ahi, .int .i64 ar, .slice ap an ac] 32)) xp xl) := HX5.out.below ((Below.refl _ _).alloc (Nat.le_refl _) _) (Nat.le_refl _)
    have HXB6 : Hid (Bk (w5.alloc (.cells #[.int .i64 1, .string bek, .int .i64 bes, .int .i64 beg, .int .i64 bec, .string bkey, .int .i64 bpg, .bool bleaf, .string blo, .string bhi, .int .i64 br, .slice bp bn bc, .int .i64 1, .string aek, .int .i64 aes, .int .i64 aeg, .int .i64 aec, .string akey, .int .i64 apg, .bool aleaf, .string alo, .string ahi, .int .i64 ar, .slice ap an ac] 32)) w4.heap.size 24 #[.bool xf, .string xlo, .string xhi, .int .i64 xr, .slice xp xn xc]) := HXB5.out.alloc _
    have hs5 : w5.heap.size = w4.heap.size + 1 := by rw [hw5]; simp
    first | rw [← hs5] | skip
    refine (HF2.out _ _ HB6.out HL6.out).mono ?_
    rintro e w7 ⟨v, rfl, hv, hb⟩
    clear a0 a1 a2 a3 a4
    clear y0 y1 y2 y3 y4 y5 y6 y7 y8 y9 y10 y11
    clear z0 z1 z2 z3 z4 z5 z6 z7 z8 z9 z10 z11
    clear hw5 hs5 hnP hnA hnD
    obtain ⟨yp, yc, rfl, hs⟩ := hv
    simp only
    obtain ⟨yn, HYN⟩ : ∃ yn, Hid (yl.length = yn) := ⟨_, rfl⟩
    rw [HYN.out]
    have HY7 : Hid (Ens w7 yp yl) := hs.ens
    have HX7 : Hid (Ens w7 xp xl) := HX6.out.below hb (Nat.le_refl _)
    have HB7 : Hid (Below w.heap.size w w7) := HB6.out.trans (hb.mono HB6.out.size)
    have HXB7 : Hid (Bk w7 w4.heap.size 24 #[.bool xf, .string xlo, .string xhi, .int .i64 xr, .slice xp xn xc]) := HXB6.out.below hb HXB6.out.lt
    clear hs hb HL6 HX6 HB6 HXB6 HF2
    have HB8 : Hid (Below w.heap.size w (w7.alloc (.cells #[.bool yf, .string ylo, .string yhi, .int .i64 yr, .slice yp yn yc] 24))) := HB7.out.alloc HB7.out.size _
    have HXB8 : Hid (Bk (w7.alloc (.cells #[.bool yf, .string ylo, .string yhi, .int .i64 yr, .slice yp yn yc] 24)) w4.heap.size 24 #[.bool xf, .string xlo, .string xhi, .int .i64 xr, .slice xp xn xc]) := HXB7.out.alloc _
    have HYB8 : Hid (Bk (w7.alloc (.cells #[.bool yf, .string ylo, .string yhi, .int .i64 yr, .slice yp yn yc] 24)) w7.heap.size 24 #[.bool yf, .string ylo, .string yhi, .int .i64 yr, .slice yp yn yc]) := Bk.new _ _ _
    have HX8 : Hid (Ens (w7.alloc (.cells #[.bool yf, .string ylo, .string yhi, .int .i64 yr, .slice yp yn yc] 24)) xp xl) := HX7.out.below ((Below.refl _ _).alloc (Nat.le_refl _) _) (Nat.le_refl _)
    have HY8 : Hid (Ens (w7.alloc (.cells #[.bool yf, .string ylo, .string yhi, .int .i64 yr, .slice yp yn yc] 24)) yp yl) := HY7.out.below ((Below.refl _ _).alloc (Nat.le_refl _) _) (Nat.le_refl _)
    have hn8 : w4.heap.size ≠ w7.heap.size := by have := HXB7.out.lt; omega
    have a0 : (w7.alloc (.cells #[.bool yf, .string ylo, .string yhi, .int .i64 yr, .slice yp yn yc] 24)).cell? ⟨w4.heap.size, 0, none⟩ = some (.bool xf) := HXB8.out.cell 0
    have a1 : (w7.alloc (.cells #[.bool yf, .string ylo, .string yhi, .int .i64 yr, .slice yp yn yc] 24)).cell? ⟨w4.heap.size, 1, none⟩ = some (.string xlo) := HXB8.out.cell 1
    have a2 : (w7.alloc (.cells #[.bool yf, .string ylo, .string yhi, .int .i64 yr, .slice yp yn yc] 24)).cell? ⟨w4.heap.size, 2, none⟩ = some (.string xhi) := HXB8.out.cell 2
    have a3 : (w7.alloc (.cells #[.bool yf, .string ylo, .string yhi, .int .i64 yr, .slice yp yn yc] 24)).cell? ⟨w4.heap.size, 3, none⟩ = some (.int .i64 xr) := HXB8.out.cell 3
    have a4 : (w7.alloc (.cells #[.bool yf, .string ylo, .string yhi, .int .i64 yr, .slice yp yn yc] 24)).cell? ⟨w4.heap.size, 4, none⟩ = some (.slice xp xn xc) := HXB8.out.cell 4
    have y0 : (w7.alloc (.cells #[.bool yf, .string ylo, .string yhi, .int .i64 yr, .slice yp yn yc] 24)).cell? ⟨w7.heap.size, 0, none⟩ = some (.bool yf) := HYB8.out.cell 0
    have y1 : (w7.alloc (.cells #[.bool yf, .string ylo, .string yhi, .int .i64 yr, .slice yp yn yc] 24)).cell? ⟨w7.heap.size, 1, none⟩ = some (.string ylo) := HYB8.out.cell 1
    have y2 : (w7.alloc (.cells #[.bool yf, .string ylo, .string yhi, .int .i64 yr, .slice yp yn yc] 24)).cell? ⟨w7.heap.size, 2, none⟩ = some (.string yhi) := HYB8.out.cell 2
    have y3 : (w7.alloc (.cells #[.bool yf, .string ylo, .string yhi, .int .i64 yr, .slice yp yn yc] 24)).cell? ⟨w7.heap.size, 3, none⟩ = some (.int .i64 yr) := HYB8.out.cell 3
    have y4 : (w7.alloc (.cells #[.bool yf, .string ylo, .string yhi, .int .i64 yr, .slice yp yn yc] 24)).cell? ⟨w7.heap.size, 4, none⟩ = some (.slice yp yn yc) := HYB8.out.cell 4
    by_cases he : xe = 0
    · have hye : ye = 0 := HSV.out.1.1 he
      have HQ : Hid ((⟨xf, xlo, xhi, xr, xl⟩ : Pp) = ⟨yf, ylo, yhi, yr, yl⟩) := HSV.out.2 he
      have HLX : Hid (xn ≤ 4398046511104) := by have := HXL.out he; rw [HXN.out] at this; exact this
      clear HSV HXL
      subst he hye
      go_wp2_with fail
      refine (rsame_any ⟨xf, xlo, xhi, xr, xl⟩ ⟨yf, ylo, yhi, yr, yl⟩ xp yp xn yn xc yc _ HXN.out HYN.out HX8.out HY8.out HLX.out).mono ?_
      rw [← HQ.out, Pg.same_self]
      rintro e w9 ⟨rfl, hb⟩
      have hB9 : Below w.heap.size w w9 := HB8.out.trans (hb.mono HB8.out.size)
      clear a0 a1 a2 a3 a4
      clear y0 y1 y2 y3 y4
      go_wp2
      go_ret
      exact ⟨rfl, hB9⟩
    · have hye : ye ≠ 0 := fun h => he (HSV.out.1.2 h)
      clear HSV HXL
      have h1 : (xe != 0) = true := by simpa using he
      have h2 : (ye != 0) = true := by simpa using hye
      go_wp2
      go_ret
      exact ⟨rfl, HB8.out⟩

set_option maxHeartbeats 16000000 in
theorem walkd_deltaSwaps_12 (pf : Bool) (plo phi : ByteArray) (pr : Int) (pp : Option Addr) (pn pc : Nat) (pl : List En) (aek : ByteArray) (aes aeg aec : Int) (akey : ByteArray) (apg : Int) (aleaf : Bool) (alo ahi : ByteArray) (ar : Int) (al : List En) (ap : Option Addr) (an ac : Nat) (bek : ByteArray) (bes beg bec : Int) (bkey : ByteArray) (bpg : Int) (bleaf : Bool) (blo bhi : ByteArray) (br : Int) (bl : List En) (bp : Option Addr) (bn bc : Nat) (w : World) (hp : InE 3518437208780 w pp pn pc pl) (ha : InE 3518437208780 w ap an ac al) (hb : InE 3518437208780 w bp bn bc bl) (sa1 : aek.size ≤ 140737488351232) (sa2 : akey.size ≤ 140737488351232) (sb1 : bek.size ≤ 140737488351232) (sb2 : bkey.size ≤ 140737488351232) :
    Calls Tryz.prog 5 #[.agg #[.bool pf, .string plo, .string phi, .int .i64 pr, .slice pp pn pc], .agg #[.int .i64 1, .string aek, .int .i64 aes, .int .i64 aeg, .int .i64 aec, .string akey, .int .i64 apg, .bool aleaf, .string alo, .string ahi, .int .i64 ar, .slice ap an ac], .agg #[.int .i64 2, .string bek, .int .i64 bes, .int .i64 beg, .int .i64 bec, .string bkey, .int .i64 bpg, .bool bleaf, .string blo, .string bhi, .int .i64 br, .slice bp bn bc]] w fun e w' => e = .returned (.bool true) ∧ Below w.heap.size w w' := by
  have hr1 := hp.room
  have hC := fun (W : World) (h : Below w.heap.size w W) => rcheck_any pf plo phi pr pp pn pc pl W hp.lenq (hp.ens.below h (Nat.le_refl _)) (by omega)
  have hF1 := fun (W : World) (b : Nat) (h : Below w.heap.size w W) => fold_two pf plo phi pr pp pn pc pl 1 2 aek aes aeg aec akey apg aleaf alo ahi ar al ap an ac bek bes beg bec bkey bpg bleaf blo bhi br bl bp bn bc w (by decide) (by decide) hp ha hb W b h
  have hF2 := fun (W : World) (b : Nat) (h : Below w.heap.size w W) => fold_two pf plo phi pr pp pn pc pl 2 1 bek bes beg bec bkey bpg bleaf blo bhi br bl bp bn bc aek aes aeg aec akey apg aleaf alo ahi ar al ap an ac w (by decide) (by decide) hp hb ha W b h
  have hsw := fun hm hne => Dl.swap (g := ⟨pf, plo, phi, pr, pl⟩) hm (a := ⟨2, ⟨bek, bes, beg, bec⟩, bkey, bpg, ⟨bleaf, blo, bhi, br, bl⟩⟩) (b := ⟨1, ⟨aek, aes, aeg, aec⟩, akey, apg, ⟨aleaf, alo, ahi, ar, al⟩⟩) (.inr rfl) (.inl rfl) hne
  have hxl : (Dl.fo ⟨pf, plo, phi, pr, pl⟩ [⟨2, ⟨bek, bes, beg, bec⟩, bkey, bpg, ⟨bleaf, blo, bhi, br, bl⟩⟩, ⟨1, ⟨aek, aes, aeg, aec⟩, akey, apg, ⟨aleaf, alo, ahi, ar, al⟩⟩]).2 = 0 → (Dl.fo ⟨pf, plo, phi, pr, pl⟩ [⟨2, ⟨bek, bes, beg, bec⟩, bkey, bpg, ⟨bleaf, blo, bhi, br, bl⟩⟩, ⟨1, ⟨aek, aes, aeg, aec⟩, akey, apg, ⟨aleaf, alo, ahi, ar, al⟩⟩]).1.l.length ≤ 4398046511104 := fun h0 => by
    have hok := Dl.fo_ok _ _ h0
    have ra : al = [] := Dl.may_rt (hok.2 ⟨1, ⟨aek, aes, aeg, aec⟩, akey, apg, ⟨aleaf, alo, ahi, ar, al⟩⟩ (by simp)).1 (show (1 : Int) ≠ 4 by decide)
    have rb : bl = [] := Dl.may_rt (hok.2 ⟨2, ⟨bek, bes, beg, bec⟩, bkey, bpg, ⟨bleaf, blo, bhi, br, bl⟩⟩ (by simp)).1 (show (2 : Int) ≠ 4 by decide)
    rw [hok.1]
    show (entS (entS pl ⟨2, ⟨bek, bes, beg, bec⟩, bkey, bpg, ⟨bleaf, blo, bhi, br, bl⟩⟩) ⟨1, ⟨aek, aes, aeg, aec⟩, akey, apg, ⟨aleaf, alo, ahi, ar, al⟩⟩).length ≤ _
    have e1 := Dl.entS_le pl ⟨2, ⟨bek, bes, beg, bec⟩, bkey, bpg, ⟨bleaf, blo, bhi, br, bl⟩⟩
    have e2 := Dl.entS_le (entS pl ⟨2, ⟨bek, bes, beg, bec⟩, bkey, bpg, ⟨bleaf, blo, bhi, br, bl⟩⟩) ⟨1, ⟨aek, aes, aeg, aec⟩, akey, apg, ⟨aleaf, alo, ahi, ar, al⟩⟩
    have := hp.lenq
    simp only [ra, rb, List.length_nil] at e1 e2 ⊢
    omega
  generalize Dl.fo ⟨pf, plo, phi, pr, pl⟩ [⟨2, ⟨bek, bes, beg, bec⟩, bkey, bpg, ⟨bleaf, blo, bhi, br, bl⟩⟩, ⟨1, ⟨aek, aes, aeg, aec⟩, akey, apg, ⟨aleaf, alo, ahi, ar, al⟩⟩] = ox at hF1 hsw hxl
  generalize Dl.fo ⟨pf, plo, phi, pr, pl⟩ [⟨1, ⟨aek, aes, aeg, aec⟩, akey, apg, ⟨aleaf, alo, ahi, ar, al⟩⟩, ⟨2, ⟨bek, bes, beg, bec⟩, bkey, bpg, ⟨bleaf, blo, bhi, br, bl⟩⟩] = oy at hF2 hsw
  obtain ⟨⟨xf, xlo, xhi, xr, xl⟩, xe⟩ := ox
  obtain ⟨⟨yf, ylo, yhi, yr, yl⟩, ye⟩ := oy
  simp only at hF1 hF2 hsw hxl
  have HF1 : Hid (∀ (W : World) (b : Nat), Below w.heap.size w W → Bk W b 32 #[.int .i64 1, .string aek, .int .i64 aes, .int .i64 aeg, .int .i64 aec, .string akey, .int .i64 apg, .bool aleaf, .string alo, .string ahi, .int .i64 ar, .slice ap an ac, .int .i64 2, .string bek, .int .i64 bes, .int .i64 beg, .int .i64 bec, .string bkey, .int .i64 bpg, .bool bleaf, .string blo, .string bhi, .int .i64 br, .slice bp bn bc] → Calls Tryz.prog 11 #[pgv pf plo phi pr pp pn pc, .slice (some ⟨b, 0, none⟩) 2 2] W fun e w' => ∃ v, e = .returned (.tuple #[v, .int .i64 xe]) ∧ PgAt w' W.heap.size v ⟨xf, xlo, xhi, xr, xl⟩ ∧ Below W.heap.size W w') := hF1
  have HF2 : Hid (∀ (W : World) (b : Nat), Below w.heap.size w W → Bk W b 32 #[.int .i64 2, .string bek, .int .i64 bes, .int .i64 beg, .int .i64 bec, .string bkey, .int .i64 bpg, .bool bleaf, .string blo, .string bhi, .int .i64 br, .slice bp bn bc, .int .i64 1, .string aek, .int .i64 aes, .int .i64 aeg, .int .i64 aec, .string akey, .int .i64 apg, .bool aleaf, .string alo, .string ahi, .int .i64 ar, .slice ap an ac] → Calls Tryz.prog 11 #[pgv pf plo phi pr pp pn pc, .slice (some ⟨b, 0, none⟩) 2 2] W fun e w' => ∃ v, e = .returned (.tuple #[v, .int .i64 ye]) ∧ PgAt w' W.heap.size v ⟨yf, ylo, yhi, yr, yl⟩ ∧ Below W.heap.size W w') := hF2
  have HCK : Hid (∀ W, Below w.heap.size w W → Calls Tryz.prog 21 #[pgv pf plo phi pr pp pn pc] W fun e w' => e = .returned (.int .i64 (if Pg.may pf ⟨plo, phi⟩ pr pl then 0 else 70)) ∧ Below W.heap.size W w') := hC
  have HSW : Hid _ := hsw
  have HXL : Hid (xe = 0 → xl.length ≤ 4398046511104) := hxl
  clear hF1 hF2 hC hsw hxl hp ha hb hr1
  obtain ⟨w0, hw0⟩ : ∃ w0, ((w.alloc (.cells #[.bool pf, .string plo, .string phi, .int .i64 pr, .slice pp pn pc] 24)).alloc (.cells #[.int .i64 1, .string aek, .int .i64 aes, .int .i64 aeg, .int .i64 aec, .string akey, .int .i64 apg, .bool aleaf, .string alo, .string ahi, .int .i64 ar, .slice ap an ac] 32)).alloc (.cells #[.int .i64 2, .string bek, .int .i64 bes, .int .i64 beg, .int .i64 bec, .string bkey, .int .i64 bpg, .bool bleaf, .string blo, .string bhi, .int .i64 br, .slice bp bn bc] 32) = w0 := ⟨_, rfl⟩
  have HB0 : Hid (Below w.heap.size w w0) := by rw [← hw0]; exact (((Below.refl _ _).alloc (Nat.le_refl _) _).alloc (by simp) _).alloc (by simp; omega) _
  have HP0 : Hid (Bk w0 w.heap.size 24 #[.bool pf, .string plo, .string phi, .int .i64 pr, .slice pp pn pc]) := by rw [← hw0]; exact ((Bk.new _ _ _).alloc _).alloc _
  have HA0 : Hid (Bk w0 (w.heap.size + 1) 32 #[.int .i64 1, .string aek, .int .i64 aes, .int .i64 aeg, .int .i64 aec, .string akey, .int .i64 apg, .bool aleaf, .string alo, .string ahi, .int .i64 ar, .slice ap an ac]) := by rw [← hw0]; exact (Bk.new1 _ _ _ _).alloc _
  have HD0 : Hid (Bk w0 (w.heap.size + 1 + 1) 32 #[.int .i64 2, .string bek, .int .i64 bes, .int .i64 beg, .int .i64 bec, .string bkey, .int .i64 bpg, .bool bleaf, .string blo, .string bhi, .int .i64 br, .slice bp bn bc]) := by rw [← hw0]; exact Bk.new2 _ _ _ _ _
  go_enter Tryz.func5, Tryz.ntmps5
  have a0 : w0.cell? ⟨w.heap.size, 0, none⟩ = some (.bool pf) := HP0.out.cell 0
  have a1 : w0.cell? ⟨w.heap.size, 1, none⟩ = some (.string plo) := HP0.out.cell 1
  have a2 : w0.cell? ⟨w.heap.size, 2, none⟩ = some (.string phi) := HP0.out.cell 2
  have a3 : w0.cell? ⟨w.heap.size, 3, none⟩ = some (.int .i64 pr) := HP0.out.cell 3
  have a4 : w0.cell? ⟨w.heap.size, 4, none⟩ = some (.slice pp pn pc) := HP0.out.cell 4
  have y0 : w0.cell? ⟨w.heap.size + 1, 0, none⟩ = some (.int .i64 1) := HA0.out.cell 0
  have y1 : w0.cell? ⟨w.heap.size + 1, 1, none⟩ = some (.string aek) := HA0.out.cell 1
  have y2 : w0.cell? ⟨w.heap.size + 1, 2, none⟩ = some (.int .i64 aes) := HA0.out.cell 2
  have y3 : w0.cell? ⟨w.heap.size + 1, 3, none⟩ = some (.int .i64 aeg) := HA0.out.cell 3
  have y4 : w0.cell? ⟨w.heap.size + 1, 4, none⟩ = some (.int .i64 aec) := HA0.out.cell 4
  have y5 : w0.cell? ⟨w.heap.size + 1, 5, none⟩ = some (.string akey) := HA0.out.cell 5
  have y6 : w0.cell? ⟨w.heap.size + 1, 6, none⟩ = some (.int .i64 apg) := HA0.out.cell 6
  have y7 : w0.cell? ⟨w.heap.size + 1, 7, none⟩ = some (.bool aleaf) := HA0.out.cell 7
  have y8 : w0.cell? ⟨w.heap.size + 1, 8, none⟩ = some (.string alo) := HA0.out.cell 8
  have y9 : w0.cell? ⟨w.heap.size + 1, 9, none⟩ = some (.string ahi) := HA0.out.cell 9
  have y10 : w0.cell? ⟨w.heap.size + 1, 10, none⟩ = some (.int .i64 ar) := HA0.out.cell 10
  have y11 : w0.cell? ⟨w.heap.size + 1, 11, none⟩ = some (.slice ap an ac) := HA0.out.cell 11
  have z0 : w0.cell? ⟨w.heap.size + 1 + 1, 0, none⟩ = some (.int .i64 2) := HD0.out.cell 0
  have z1 : w0.cell? ⟨w.heap.size + 1 + 1, 1, none⟩ = some (.string bek) := HD0.out.cell 1
  have z2 : w0.cell? ⟨w.heap.size + 1 + 1, 2, none⟩ = some (.int .i64 bes) := HD0.out.cell 2
  have z3 : w0.cell? ⟨w.heap.size + 1 + 1, 3, none⟩ = some (.int .i64 beg) := HD0.out.cell 3
  have z4 : w0.cell? ⟨w.heap.size + 1 + 1, 4, none⟩ = some (.int .i64 bec) := HD0.out.cell 4
  have z5 : w0.cell? ⟨w.heap.size + 1 + 1, 5, none⟩ = some (.string bkey) := HD0.out.cell 5
  have z6 : w0.cell? ⟨w.heap.size + 1 + 1, 6, none⟩ = some (.int .i64 bpg) := HD0.out.cell 6
  have z7 : w0.cell? ⟨w.heap.size + 1 + 1, 7, none⟩ = some (.bool bleaf) := HD0.out.cell 7
  have z8 : w0.cell? ⟨w.heap.size + 1 + 1, 8, none⟩ = some (.string blo) := HD0.out.cell 8
  have z9 : w0.cell? ⟨w.heap.size + 1 + 1, 9, none⟩ = some (.string bhi) := HD0.out.cell 9
  have z10 : w0.cell? ⟨w.heap.size + 1 + 1, 10, none⟩ = some (.int .i64 br) := HD0.out.cell 10
  have z11 : w0.cell? ⟨w.heap.size + 1 + 1, 11, none⟩ = some (.slice bp bn bc) := HD0.out.cell 11
  have hc1 : ¬ (aek.size + akey.size > 9223372036854775807) := by omega
  have hc2 : ¬ (bek.size + bkey.size > 9223372036854775807) := by omega
  by_cases hcat : (aek.toList ++ akey.toList) = (bek.toList ++ bkey.toList)
  · have hq : ((aek ++ akey).toList == (bek ++ bkey).toList) = true := by rw [cat_list, cat_list, hcat]; simp
    clear HF1 HF2 HSW HXL HCK
    go_wp2_with fail
    refine (live_any _).mono ?_
    rintro e wl ⟨rfl, hbl⟩
    have hBl : Below w.heap.size w wl := HB0.out.trans (hbl.mono HB0.out.size)
    go_wp2
    go_ret
    exact ⟨rfl, hBl⟩
  · have hq : ((aek ++ akey).toList == (bek ++ bkey).toList) = false := by rw [cat_list, cat_list]; simpa using hcat
    go_wp2_with fail
    refine (HCK.out _ HB0.out).mono ?_
    rintro e w1 ⟨rfl, hb⟩
    clear hw0 hc1 hc2 hq sa1 sa2 sb1 sb2
    clear a0 a1 a2 a3 a4
    clear y0 y1 y2 y3 y4 y5 y6 y7 y8 y9 y10 y11
    clear z0 z1 z2 z3 z4 z5 z6 z7 z8 z9 z10 z11
    have HB1 : Hid (Below w.heap.size w w1) := HB0.out.trans (hb.mono HB0.out.size)
    have HP1 : Hid (Bk w1 w.heap.size 24 #[.bool pf, .string plo, .string phi, .int .i64 pr, .slice pp pn pc]) := HP0.out.below hb HP0.out.lt
    have HA1 : Hid (Bk w1 (w.heap.size + 1) 32 #[.int .i64 1, .string aek, .int .i64 aes, .int .i64 aeg, .int .i64 aec, .string akey, .int .i64 apg, .bool aleaf, .string alo, .string ahi, .int .i64 ar, .slice ap an ac]) := HA0.out.below hb HA0.out.lt
    have HD1 : Hid (Bk w1 (w.heap.size + 1 + 1) 32 #[.int .i64 2, .string bek, .int .i64 bes, .int .i64 beg, .int .i64 bec, .string bkey, .int .i64 bpg, .bool bleaf, .string blo, .string bhi, .int .i64 br, .slice bp bn bc]) := HD0.out.below hb HD0.out.lt
    clear hb HB0 HP0 HA0 HD0
    cases hm : Pg.may pf ⟨plo, phi⟩ pr pl with
    | false =>
      clear HF1 HF2 HSW HXL HCK
      simp only [Bool.false_eq_true, if_false]
      go_wp2_with fail
      refine (live_any _).mono ?_
      rintro e wl ⟨rfl, hbl⟩
      have hBl : Below w.heap.size w wl := HB1.out.trans (hbl.mono HB1.out.size)
      go_wp2
      go_ret
      exact ⟨rfl, hBl⟩
    | true =>
    have hsw2 := HSW.out hm (fun e => hcat e.symm)
    have HSV : Hid ((xe = 0 ↔ ye = 0) ∧ (xe = 0 → (⟨xf, xlo, xhi, xr, xl⟩ : Pp) = ⟨yf, ylo, yhi, yr, yl⟩)) := hsw2
    clear HSW hsw2 hm hcat HCK
    simp only [if_true]
    go_wp2_with fail
    refine (live_any _).mono ?_
    rintro e w2 ⟨rfl, hb⟩
    have HB2 : Hid (Below w.heap.size w w2) := HB1.out.trans (hb.mono HB1.out.size)
    have HP2 : Hid (Bk w2 w.heap.size 24 #[.bool pf, .string plo, .string phi, .int .i64 pr, .slice pp pn pc]) := HP1.out.below hb HP1.out.lt
    have HA2 : Hid (Bk w2 (w.heap.size + 1) 32 #[.int .i64 1, .string aek, .int .i64 aes, .int .i64 aeg, .int .i64 aec, .string akey, .int .i64 apg, .bool aleaf, .string alo, .string ahi, .int .i64 ar, .slice ap an ac]) := HA1.out.below hb HA1.out.lt
    have HD2 : Hid (Bk w2 (w.heap.size + 1 + 1) 32 #[.int .i64 2, .string bek, .int .i64 bes, .int .i64 beg, .int .i64 bec, .string bkey, .int .i64 bpg, .bool bleaf, .string blo, .string bhi, .int .i64 br, .slice bp bn bc]) := HD1.out.below hb HD1.out.lt
    clear hb HB1 HP1 HA1 HD1
    have HB3 : Hid (Below w.heap.size w (w2.alloc (.cells #[.int .i64 1, .string aek, .int .i64 aes, .int .i64 aeg, .int .i64 aec, .string akey, .int .i64 apg, .bool aleaf, .string alo, .string ahi, .int .i64 ar, .slice ap an ac, .int .i64 2, .string bek, .int .i64 bes, .int .i64 beg, .int .i64 bec, .string bkey, .int .i64 bpg, .bool bleaf, .string blo, .string bhi, .int .i64 br, .slice bp bn bc] 32))) := HB2.out.alloc HB2.out.size _
    have HP3 : Hid (Bk (w2.alloc (.cells #[.int .i64 1, .string aek, .int .i64 aes, .int .i64 aeg, .int .i64 aec, .string akey, .int .i64 apg, .bool aleaf, .string alo, .string ahi, .int .i64 ar, .slice ap an ac, .int .i64 2, .string bek, .int .i64 bes, .int .i64 beg, .int .i64 bec, .string bkey, .int .i64 bpg, .bool bleaf, .string blo, .string bhi, .int .i64 br, .slice bp bn bc] 32)) w.heap.size 24 #[.bool pf, .string plo, .string phi, .int .i64 pr, .slice pp pn pc]) := HP2.out.alloc _
    have HA3 : Hid (Bk (w2.alloc (.cells #[.int .i64 1, .string aek, .int .i64 aes, .int .i64 aeg, .int .i64 aec, .string akey, .int .i64 apg, .bool aleaf, .string alo, .string ahi, .int .i64 ar, .slice ap an ac, .int .i64 2, .string bek, .int .i64 bes, .int .i64 beg, .int .i64 bec, .string bkey, .int .i64 bpg, .bool bleaf, .string blo, .string bhi, .int .i64 br, .slice bp bn bc] 32)) (w.heap.size + 1) 32 #[.int .i64 1, .string aek, .int .i64 aes, .int .i64 aeg, .int .i64 aec, .string akey, .int .i64 apg, .bool aleaf, .string alo, .string ahi, .int .i64 ar, .slice ap an ac]) := HA2.out.alloc _
    have HD3 : Hid (Bk (w2.alloc (.cells #[.int .i64 1, .string aek, .int .i64 aes, .int .i64 aeg, .int .i64 aec, .string akey, .int .i64 apg, .bool aleaf, .string alo, .string ahi, .int .i64 ar, .slice ap an ac, .int .i64 2, .string bek, .int .i64 bes, .int .i64 beg, .int .i64 bec, .string bkey, .int .i64 bpg, .bool bleaf, .string blo, .string bhi, .int .i64 br, .slice bp bn bc] 32)) (w.heap.size + 1 + 1) 32 #[.int .i64 2, .string bek, .int .i64 bes, .int .i64 beg, .int .i64 bec, .string bkey, .int .i64 bpg, .bool bleaf, .string blo, .string bhi, .int .i64 br, .slice bp bn bc]) := HD2.out.alloc _
    have HL3 : Hid (Bk (w2.alloc (.cells #[.int .i64 1, .string aek, .int .i64 aes, .int .i64 aeg, .int .i64 aec, .string akey, .int .i64 apg, .bool aleaf, .string alo, .string ahi, .int .i64 ar, .slice ap an ac, .int .i64 2, .string bek, .int .i64 bes, .int .i64 beg, .int .i64 bec, .string bkey, .int .i64 bpg, .bool bleaf, .string blo, .string bhi, .int .i64 br, .slice bp bn bc] 32)) w2.heap.size 32 #[.int .i64 1, .string aek, .int .i64 aes, .int .i64 aeg, .int .i64 aec, .string akey, .int .i64 apg, .bool aleaf, .string alo, .string ahi, .int .i64 ar, .slice ap an ac, .int .i64 2, .string bek, .int .i64 bes, .int .i64 beg, .int .i64 bec, .string bkey, .int .i64 bpg, .bool bleaf, .string blo, .string bhi, .int .i64 br, .slice bp bn bc]) := Bk.new _ _ _
    have a0 : w2.cell? ⟨w.heap.size, 0, none⟩ = some (.bool pf) := HP2.out.cell 0
    have a1 : w2.cell? ⟨w.heap.size, 1, none⟩ = some (.string plo) := HP2.out.cell 1
    have a2 : w2.cell? ⟨w.heap.size, 2, none⟩ = some (.string phi) := HP2.out.cell 2
    have a3 : w2.cell? ⟨w.heap.size, 3, none⟩ = some (.int .i64 pr) := HP2.out.cell 3
    have a4 : w2.cell? ⟨w.heap.size, 4, none⟩ = some (.slice pp pn pc) := HP2.out.cell 4
    have y0 : w2.cell? ⟨w.heap.size + 1, 0, none⟩ = some (.int .i64 1) := HA2.out.cell 0
    have y1 : w2.cell? ⟨w.heap.size + 1, 1, none⟩ = some (.string aek) := HA2.out.cell 1
    have y2 : w2.cell? ⟨w.heap.size + 1, 2, none⟩ = some (.int .i64 aes) := HA2.out.cell 2
    have y3 : w2.cell? ⟨w.heap.size + 1, 3, none⟩ = some (.int .i64 aeg) := HA2.out.cell 3
    have y4 : w2.cell? ⟨w.heap.size + 1, 4, none⟩ = some (.int .i64 aec) := HA2.out.cell 4
    have y5 : w2.cell? ⟨w.heap.size + 1, 5, none⟩ = some (.string akey) := HA2.out.cell 5
    have y6 : w2.cell? ⟨w.heap.size + 1, 6, none⟩ = some (.int .i64 apg) := HA2.out.cell 6
    have y7 : w2.cell? ⟨w.heap.size + 1, 7, none⟩ = some (.bool aleaf) := HA2.out.cell 7
    have y8 : w2.cell? ⟨w.heap.size + 1, 8, none⟩ = some (.string alo) := HA2.out.cell 8
    have y9 : w2.cell? ⟨w.heap.size + 1, 9, none⟩ = some (.string ahi) := HA2.out.cell 9
    have y10 : w2.cell? ⟨w.heap.size + 1, 10, none⟩ = some (.int .i64 ar) := HA2.out.cell 10
    have y11 : w2.cell? ⟨w.heap.size + 1, 11, none⟩ = some (.slice ap an ac) := HA2.out.cell 11
    have z0 : w2.cell? ⟨w.heap.size + 1 + 1, 0, none⟩ = some (.int .i64 2) := HD2.out.cell 0
    have z1 : w2.cell? ⟨w.heap.size + 1 + 1, 1, none⟩ = some (.string bek) := HD2.out.cell 1
    have z2 : w2.cell? ⟨w.heap.size + 1 + 1, 2, none⟩ = some (.int .i64 bes) := HD2.out.cell 2
    have z3 : w2.cell? ⟨w.heap.size + 1 + 1, 3, none⟩ = some (.int .i64 beg) := HD2.out.cell 3
    have z4 : w2.cell? ⟨w.heap.size + 1 + 1, 4, none⟩ = some (.int .i64 bec) := HD2.out.cell 4
    have z5 : w2.cell? ⟨w.heap.size + 1 + 1, 5, none⟩ = some (.string bkey) := HD2.out.cell 5
    have z6 : w2.cell? ⟨w.heap.size + 1 + 1, 6, none⟩ = some (.int .i64 bpg) := HD2.out.cell 6
    have z7 : w2.cell? ⟨w.heap.size + 1 + 1, 7, none⟩ = some (.bool bleaf) := HD2.out.cell 7
    have z8 : w2.cell? ⟨w.heap.size + 1 + 1, 8, none⟩ = some (.string blo) := HD2.out.cell 8
    have z9 : w2.cell? ⟨w.heap.size + 1 + 1, 9, none⟩ = some (.string bhi) := HD2.out.cell 9
    have z10 : w2.cell? ⟨w.heap.size + 1 + 1, 10, none⟩ = some (.int .i64 br) := HD2.out.cell 10
    have z11 : w2.cell? ⟨w.heap.size + 1 + 1, 11, none⟩ = some (.slice bp bn bc) := HD2.out.cell 11
    go_wp2_with fail
    refine (HF1.out _ _ HB3.out HL3.out).mono ?_
    rintro e w4 ⟨v, rfl, hv, hb⟩
    clear a0 a1 a2 a3 a4
    clear y0 y1 y2 y3 y4 y5 y6 y7 y8 y9 y10 y11
    clear z0 z1 z2 z3 z4 z5 z6 z7 z8 z9 z10 z11
    clear HL3 HP2 HA2 HD2 HB2 HF1
    obtain ⟨xp, xc, rfl, hs⟩ := hv
    simp only
    obtain ⟨xn, HXN⟩ : ∃ xn, Hid (xl.length = xn) := ⟨_, rfl⟩
    rw [HXN.out]
    have HX4 : Hid (Ens w4 xp xl) := hs.ens
    clear hs
    have HB4 : Hid (Below w.heap.size w w4) := HB3.out.trans (hb.mono HB3.out.size)
    have HP4 : Hid (Bk w4 w.heap.size 24 #[.bool pf, .string plo, .string phi, .int .i64 pr, .slice pp pn pc]) := HP3.out.below hb HP3.out.lt
    have HA4 : Hid (Bk w4 (w.heap.size + 1) 32 #[.int .i64 1, .string aek, .int .i64 aes, .int .i64 aeg, .int .i64 aec, .string akey, .int .i64 apg, .bool aleaf, .string alo, .string ahi, .int .i64 ar, .slice ap an ac]) := HA3.out.below hb HA3.out.lt
    have HD4 : Hid (Bk w4 (w.heap.size + 1 + 1) 32 #[.int .i64 2, .string bek, .int .i64 bes, .int .i64 beg, .int .i64 bec, .string bkey, .int .i64 bpg, .bool bleaf, .string blo, .string bhi, .int .i64 br, .slice bp bn bc]) := HD3.out.below hb HD3.out.lt
    clear hb HB3 HP3 HA3 HD3
    obtain ⟨w5, hw5⟩ : ∃ w5, w5 = (w4.alloc (.cells #[.bool xf, .string xlo, .string xhi, .int .i64 xr, .slice xp xn xc] 24)) := ⟨_, rfl⟩
    have hbx : Below w4.heap.size w4 w5 := by rw [hw5]; exact (Below.refl _ _).alloc (Nat.le_refl _) _
    have HB5 : Hid (Below w.heap.size w w5) := HB4.out.trans (hbx.mono HB4.out.size)
    have HP5 : Hid (Bk w5 w.heap.size 24 #[.bool pf, .string plo, .string phi, .int .i64 pr, .slice pp pn pc]) := HP4.out.below hbx HP4.out.lt
    have HA5 : Hid (Bk w5 (w.heap.size + 1) 32 #[.int .i64 1, .string aek, .int .i64 aes, .int .i64 aeg, .int .i64 aec, .string akey, .int .i64 apg, .bool aleaf, .string alo, .string ahi, .int .i64 ar, .slice ap an ac]) := HA4.out.below hbx HA4.out.lt
    have HD5 : Hid (Bk w5 (w.heap.size + 1 + 1) 32 #[.int .i64 2, .string bek, .int .i64 bes, .int .i64 beg, .int .i64 bec, .string bkey, .int .i64 bpg, .bool bleaf, .string blo, .string bhi, .int .i64 br, .slice bp bn bc]) := HD4.out.below hbx HD4.out.lt
    have HXB5 : Hid (Bk w5 w4.heap.size 24 #[.bool xf, .string xlo, .string xhi, .int .i64 xr, .slice xp xn xc]) := by rw [hw5]; exact Bk.new _ _ _
    have HX5 : Hid (Ens w5 xp xl) := HX4.out.below hbx (Nat.le_refl _)
    have hnP : w.heap.size ≠ w4.heap.size := by have := HD4.out.lt; omega
    have hnA : w.heap.size + 1 ≠ w4.heap.size := by have := HD4.out.lt; omega
    have hnD : w.heap.size + 1 + 1 ≠ w4.heap.size := by have := HD4.out.lt; omega
    clear hbx
    have a0 : (w4.alloc (.cells #[.bool xf, .string xlo, .string xhi, .int .i64 xr, .slice xp xn xc] 24)).cell? ⟨w.heap.size, 0, none⟩ = some (.bool pf) := (HP4.out.alloc _).cell 0
    have a1 : (w4.alloc (.cells #[.bool xf, .string xlo, .string xhi, .int .i64 xr, .slice xp xn xc] 24)).cell? ⟨w.heap.size, 1, none⟩ = some (.string plo) := (HP4.out.alloc _).cell 1
    have a2 : (w4.alloc (.cells #[.bool xf, .string xlo, .string xhi, .int .i64 xr, .slice xp xn xc] 24)).cell? ⟨w.heap.size, 2, none⟩ = some (.string phi) := (HP4.out.alloc _).cell 2
    have a3 : (w4.alloc (.cells #[.bool xf, .string xlo, .string xhi, .int .i64 xr, .slice xp xn xc] 24)).cell? ⟨w.heap.size, 3, none⟩ = some (.int .i64 pr) := (HP4.out.alloc _).cell 3
    have a4 : (w4.alloc (.cells #[.bool xf, .string xlo, .string xhi, .int .i64 xr, .slice xp xn xc] 24)).cell? ⟨w.heap.size, 4, none⟩ = some (.slice pp pn pc) := (HP4.out.alloc _).cell 4
    have y0 : (w4.alloc (.cells #[.bool xf, .string xlo, .string xhi, .int .i64 xr, .slice xp xn xc] 24)).cell? ⟨w.heap.size + 1, 0, none⟩ = some (.int .i64 1) := (HA4.out.alloc _).cell 0
    have y1 : (w4.alloc (.cells #[.bool xf, .string xlo, .string xhi, .int .i64 xr, .slice xp xn xc] 24)).cell? ⟨w.heap.size + 1, 1, none⟩ = some (.string aek) := (HA4.out.alloc _).cell 1
    have y2 : (w4.alloc (.cells #[.bool xf, .string xlo, .string xhi, .int .i64 xr, .slice xp xn xc] 24)).cell? ⟨w.heap.size + 1, 2, none⟩ = some (.int .i64 aes) := (HA4.out.alloc _).cell 2
    have y3 : (w4.alloc (.cells #[.bool xf, .string xlo, .string xhi, .int .i64 xr, .slice xp xn xc] 24)).cell? ⟨w.heap.size + 1, 3, none⟩ = some (.int .i64 aeg) := (HA4.out.alloc _).cell 3
    have y4 : (w4.alloc (.cells #[.bool xf, .string xlo, .string xhi, .int .i64 xr, .slice xp xn xc] 24)).cell? ⟨w.heap.size + 1, 4, none⟩ = some (.int .i64 aec) := (HA4.out.alloc _).cell 4
    have y5 : (w4.alloc (.cells #[.bool xf, .string xlo, .string xhi, .int .i64 xr, .slice xp xn xc] 24)).cell? ⟨w.heap.size + 1, 5, none⟩ = some (.string akey) := (HA4.out.alloc _).cell 5
    have y6 : (w4.alloc (.cells #[.bool xf, .string xlo, .string xhi, .int .i64 xr, .slice xp xn xc] 24)).cell? ⟨w.heap.size + 1, 6, none⟩ = some (.int .i64 apg) := (HA4.out.alloc _).cell 6
    have y7 : (w4.alloc (.cells #[.bool xf, .string xlo, .string xhi, .int .i64 xr, .slice xp xn xc] 24)).cell? ⟨w.heap.size + 1, 7, none⟩ = some (.bool aleaf) := (HA4.out.alloc _).cell 7
    have y8 : (w4.alloc (.cells #[.bool xf, .string xlo, .string xhi, .int .i64 xr, .slice xp xn xc] 24)).cell? ⟨w.heap.size + 1, 8, none⟩ = some (.string alo) := (HA4.out.alloc _).cell 8
    have y9 : (w4.alloc (.cells #[.bool xf, .string xlo, .string xhi, .int .i64 xr, .slice xp xn xc] 24)).cell? ⟨w.heap.size + 1, 9, none⟩ = some (.string ahi) := (HA4.out.alloc _).cell 9
    have y10 : (w4.alloc (.cells #[.bool xf, .string xlo, .string xhi, .int .i64 xr, .slice xp xn xc] 24)).cell? ⟨w.heap.size + 1, 10, none⟩ = some (.int .i64 ar) := (HA4.out.alloc _).cell 10
    have y11 : (w4.alloc (.cells #[.bool xf, .string xlo, .string xhi, .int .i64 xr, .slice xp xn xc] 24)).cell? ⟨w.heap.size + 1, 11, none⟩ = some (.slice ap an ac) := (HA4.out.alloc _).cell 11
    have z0 : (w4.alloc (.cells #[.bool xf, .string xlo, .string xhi, .int .i64 xr, .slice xp xn xc] 24)).cell? ⟨w.heap.size + 1 + 1, 0, none⟩ = some (.int .i64 2) := (HD4.out.alloc _).cell 0
    have z1 : (w4.alloc (.cells #[.bool xf, .string xlo, .string xhi, .int .i64 xr, .slice xp xn xc] 24)).cell? ⟨w.heap.size + 1 + 1, 1, none⟩ = some (.string bek) := (HD4.out.alloc _).cell 1
    have z2 : (w4.alloc (.cells #[.bool xf, .string xlo, .string xhi, .int .i64 xr, .slice xp xn xc] 24)).cell? ⟨w.heap.size + 1 + 1, 2, none⟩ = some (.int .i64 bes) := (HD4.out.alloc _).cell 2
    have z3 : (w4.alloc (.cells #[.bool xf, .string xlo, .string xhi, .int .i64 xr, .slice xp xn xc] 24)).cell? ⟨w.heap.size + 1 + 1, 3, none⟩ = some (.int .i64 beg) := (HD4.out.alloc _).cell 3
    have z4 : (w4.alloc (.cells #[.bool xf, .string xlo, .string xhi, .int .i64 xr, .slice xp xn xc] 24)).cell? ⟨w.heap.size + 1 + 1, 4, none⟩ = some (.int .i64 bec) := (HD4.out.alloc _).cell 4
    have z5 : (w4.alloc (.cells #[.bool xf, .string xlo, .string xhi, .int .i64 xr, .slice xp xn xc] 24)).cell? ⟨w.heap.size + 1 + 1, 5, none⟩ = some (.string bkey) := (HD4.out.alloc _).cell 5
    have z6 : (w4.alloc (.cells #[.bool xf, .string xlo, .string xhi, .int .i64 xr, .slice xp xn xc] 24)).cell? ⟨w.heap.size + 1 + 1, 6, none⟩ = some (.int .i64 bpg) := (HD4.out.alloc _).cell 6
    have z7 : (w4.alloc (.cells #[.bool xf, .string xlo, .string xhi, .int .i64 xr, .slice xp xn xc] 24)).cell? ⟨w.heap.size + 1 + 1, 7, none⟩ = some (.bool bleaf) := (HD4.out.alloc _).cell 7
    have z8 : (w4.alloc (.cells #[.bool xf, .string xlo, .string xhi, .int .i64 xr, .slice xp xn xc] 24)).cell? ⟨w.heap.size + 1 + 1, 8, none⟩ = some (.string blo) := (HD4.out.alloc _).cell 8
    have z9 : (w4.alloc (.cells #[.bool xf, .string xlo, .string xhi, .int .i64 xr, .slice xp xn xc] 24)).cell? ⟨w.heap.size + 1 + 1, 9, none⟩ = some (.string bhi) := (HD4.out.alloc _).cell 9
    have z10 : (w4.alloc (.cells #[.bool xf, .string xlo, .string xhi, .int .i64 xr, .slice xp xn xc] 24)).cell? ⟨w.heap.size + 1 + 1, 10, none⟩ = some (.int .i64 br) := (HD4.out.alloc _).cell 10
    have z11 : (w4.alloc (.cells #[.bool xf, .string xlo, .string xhi, .int .i64 xr, .slice xp xn xc] 24)).cell? ⟨w.heap.size + 1 + 1, 11, none⟩ = some (.slice bp bn bc) := (HD4.out.alloc _).cell 11
    go_wp2_with fail
    rw [← hw5]
    have HB6 : Hid (Below w.heap.size w (w5.alloc (.cells #[.int .i64 2, .string bek, .int .i64 bes, .int .i64 beg, .int .i64 bec, .string bkey, .int .i64 bpg, .bool bleaf, .string blo, .string bhi, .int .i64 br, .slice bp bn bc, .int .i64 1, .string aek, .int .i64 aes, .int .i64 aeg, .int .i64 aec, .string akey, .int .i64 apg, .bool aleaf, .string alo, .string ahi, .int .i64 ar, .slice ap an ac] 32))) := HB5.out.alloc HB5.out.size _
    have HL6 : Hid (Bk (w5.alloc (.cells #[.int .i64 2, .string bek, .int .i64 bes, .int .i64 beg, .int .i64 bec, .string bkey, .int .i64 bpg, .bool bleaf, .string blo, .string bhi, .int .i64 br, .slice bp bn bc, .int .i64 1, .string aek, .int .i64 aes, .int .i64 aeg, .int .i64 aec, .string akey, .int .i64 apg, .bool aleaf, .string alo, .string ahi, .int .i64 ar, .slice ap an ac] 32)) w5.heap.size 32 #[.int .i64 2, .string bek, .int .i64 bes, .int .i64 beg, .int .i64 bec, .string bkey, .int .i64 bpg, .bool bleaf, .string blo, .string bhi, .int .i64 br, .slice bp bn bc, .int .i64 1, .string aek, .int .i64 aes, .int .i64 aeg, .int .i64 aec, .string akey, .int .i64 apg, .bool aleaf, .string alo, .string ahi, .int .i64 ar, .slice ap an ac]) := Bk.new _ _ _
    have HX6 : Hid (Ens (w5.alloc (.cells #[.int .i64 2, .string bek, .int .i64 bes, .int .i64 beg, .int .i64 bec, .string bkey, .int .i64 bpg, .bool bleaf, .string blo, .string bhi, .int .i64 br, .slice bp bn bc, .int .i64 1, .string aek, .int .i64 aes, .int .i64 aeg, .int .i64 aec, .string akey, .int .i64 apg, .bool aleaf, .string alo, .string ahi, .int .i64 ar, .slice ap an ac] 32)) xp xl) := HX5.out.below ((Below.refl _ _).alloc (Nat.le_refl _) _) (Nat.le_refl _)
    have HXB6 : Hid (Bk (w5.alloc (.cells #[.int .i64 2, .string bek, .int .i64 bes, .int .i64 beg, .int .i64 bec, .string bkey, .int .i64 bpg, .bool bleaf, .string blo, .string bhi, .int .i64 br, .slice bp bn bc, .int .i64 1, .string aek, .int .i64 aes, .int .i64 aeg, .int .i64 aec, .string akey, .int .i64 apg, .bool aleaf, .string alo, .string ahi, .int .i64 ar, .slice ap an ac] 32)) w4.heap.size 24 #[.bool xf, .string xlo, .string xhi, .int .i64 xr, .slice xp xn xc]) := HXB5.out.alloc _
    have hs5 : w5.heap.size = w4.heap.size + 1 := by rw [hw5]; simp
    first | rw [← hs5] | skip
    refine (HF2.out _ _ HB6.out HL6.out).mono ?_
    rintro e w7 ⟨v, rfl, hv, hb⟩
    clear a0 a1 a2 a3 a4
    clear y0 y1 y2 y3 y4 y5 y6 y7 y8 y9 y10 y11
    clear z0 z1 z2 z3 z4 z5 z6 z7 z8 z9 z10 z11
    clear hw5 hs5 hnP hnA hnD
    obtain ⟨yp, yc, rfl, hs⟩ := hv
    simp only
    obtain ⟨yn, HYN⟩ : ∃ yn, Hid (yl.length = yn) := ⟨_, rfl⟩
    rw [HYN.out]
    have HY7 : Hid (Ens w7 yp yl) := hs.ens
    have HX7 : Hid (Ens w7 xp xl) := HX6.out.below hb (Nat.le_refl _)
    have HB7 : Hid (Below w.heap.size w w7) := HB6.out.trans (hb.mono HB6.out.size)
    have HXB7 : Hid (Bk w7 w4.heap.size 24 #[.bool xf, .string xlo, .string xhi, .int .i64 xr, .slice xp xn xc]) := HXB6.out.below hb HXB6.out.lt
    clear hs hb HL6 HX6 HB6 HXB6 HF2
    have HB8 : Hid (Below w.heap.size w (w7.alloc (.cells #[.bool yf, .string ylo, .string yhi, .int .i64 yr, .slice yp yn yc] 24))) := HB7.out.alloc HB7.out.size _
    have HXB8 : Hid (Bk (w7.alloc (.cells #[.bool yf, .string ylo, .string yhi, .int .i64 yr, .slice yp yn yc] 24)) w4.heap.size 24 #[.bool xf, .string xlo, .string xhi, .int .i64 xr, .slice xp xn xc]) := HXB7.out.alloc _
    have HYB8 : Hid (Bk (w7.alloc (.cells #[.bool yf, .string ylo, .string yhi, .int .i64 yr, .slice yp yn yc] 24)) w7.heap.size 24 #[.bool yf, .string ylo, .string yhi, .int .i64 yr, .slice yp yn yc]) := Bk.new _ _ _
    have HX8 : Hid (Ens (w7.alloc (.cells #[.bool yf, .string ylo, .string yhi, .int .i64 yr, .slice yp yn yc] 24)) xp xl) := HX7.out.below ((Below.refl _ _).alloc (Nat.le_refl _) _) (Nat.le_refl _)
    have HY8 : Hid (Ens (w7.alloc (.cells #[.bool yf, .string ylo, .string yhi, .int .i64 yr, .slice yp yn yc] 24)) yp yl) := HY7.out.below ((Below.refl _ _).alloc (Nat.le_refl _) _) (Nat.le_refl _)
    have hn8 : w4.heap.size ≠ w7.heap.size := by have := HXB7.out.lt; omega
    have a0 : (w7.alloc (.cells #[.bool yf, .string ylo, .string yhi, .int .i64 yr, .slice yp yn yc] 24)).cell? ⟨w4.heap.size, 0, none⟩ = some (.bool xf) := HXB8.out.cell 0
    have a1 : (w7.alloc (.cells #[.bool yf, .string ylo, .string yhi, .int .i64 yr, .slice yp yn yc] 24)).cell? ⟨w4.heap.size, 1, none⟩ = some (.string xlo) := HXB8.out.cell 1
    have a2 : (w7.alloc (.cells #[.bool yf, .string ylo, .string yhi, .int .i64 yr, .slice yp yn yc] 24)).cell? ⟨w4.heap.size, 2, none⟩ = some (.string xhi) := HXB8.out.cell 2
    have a3 : (w7.alloc (.cells #[.bool yf, .string ylo, .string yhi, .int .i64 yr, .slice yp yn yc] 24)).cell? ⟨w4.heap.size, 3, none⟩ = some (.int .i64 xr) := HXB8.out.cell 3
    have a4 : (w7.alloc (.cells #[.bool yf, .string ylo, .string yhi, .int .i64 yr, .slice yp yn yc] 24)).cell? ⟨w4.heap.size, 4, none⟩ = some (.slice xp xn xc) := HXB8.out.cell 4
    have y0 : (w7.alloc (.cells #[.bool yf, .string ylo, .string yhi, .int .i64 yr, .slice yp yn yc] 24)).cell? ⟨w7.heap.size, 0, none⟩ = some (.bool yf) := HYB8.out.cell 0
    have y1 : (w7.alloc (.cells #[.bool yf, .string ylo, .string yhi, .int .i64 yr, .slice yp yn yc] 24)).cell? ⟨w7.heap.size, 1, none⟩ = some (.string ylo) := HYB8.out.cell 1
    have y2 : (w7.alloc (.cells #[.bool yf, .string ylo, .string yhi, .int .i64 yr, .slice yp yn yc] 24)).cell? ⟨w7.heap.size, 2, none⟩ = some (.string yhi) := HYB8.out.cell 2
    have y3 : (w7.alloc (.cells #[.bool yf, .string ylo, .string yhi, .int .i64 yr, .slice yp yn yc] 24)).cell? ⟨w7.heap.size, 3, none⟩ = some (.int .i64 yr) := HYB8.out.cell 3
    have y4 : (w7.alloc (.cells #[.bool yf, .string ylo, .string yhi, .int .i64 yr, .slice yp yn yc] 24)).cell? ⟨w7.heap.size, 4, none⟩ = some (.slice yp yn yc) := HYB8.out.cell 4
    by_cases he : xe = 0
    · have hye : ye = 0 := HSV.out.1.1 he
      have HQ : Hid ((⟨xf, xlo, xhi, xr, xl⟩ : Pp) = ⟨yf, ylo, yhi, yr, yl⟩) := HSV.out.2 he
      have HLX : Hid (xn ≤ 4398046511104) := by have := HXL.out he; rw [HXN.out] at this; exact this
      clear HSV HXL
      subst he hye
      go_wp2_with fail
      refine (rsame_any ⟨xf, xlo, xhi, xr, xl⟩ ⟨yf, ylo, yhi, yr, yl⟩ xp yp xn yn xc yc _ HXN.out HYN.out HX8.out HY8.out HLX.out).mono ?_
      rw [← HQ.out, Pg.same_self]
      rintro e w9 ⟨rfl, hb⟩
      have hB9 : Below w.heap.size w w9 := HB8.out.trans (hb.mono HB8.out.size)
      clear a0 a1 a2 a3 a4
      clear y0 y1 y2 y3 y4
      go_wp2
      go_ret
      exact ⟨rfl, hB9⟩
    · have hye : ye ≠ 0 := fun h => he (HSV.out.1.2 h)
      clear HSV HXL
      have h1 : (xe != 0) = true := by simpa using he
      have h2 : (ye != 0) = true := by simpa using hye
      go_wp2
      go_ret
      exact ⟨rfl, HB8.out⟩

set_option maxHeartbeats 16000000 in
theorem walkd_deltaSwaps_21 (pf : Bool) (plo phi : ByteArray) (pr : Int) (pp : Option Addr) (pn pc : Nat) (pl : List En) (aek : ByteArray) (aes aeg aec : Int) (akey : ByteArray) (apg : Int) (aleaf : Bool) (alo ahi : ByteArray) (ar : Int) (al : List En) (ap : Option Addr) (an ac : Nat) (bek : ByteArray) (bes beg bec : Int) (bkey : ByteArray) (bpg : Int) (bleaf : Bool) (blo bhi : ByteArray) (br : Int) (bl : List En) (bp : Option Addr) (bn bc : Nat) (w : World) (hp : InE 3518437208780 w pp pn pc pl) (ha : InE 3518437208780 w ap an ac al) (hb : InE 3518437208780 w bp bn bc bl) (sa1 : aek.size ≤ 140737488351232) (sa2 : akey.size ≤ 140737488351232) (sb1 : bek.size ≤ 140737488351232) (sb2 : bkey.size ≤ 140737488351232) :
    Calls Tryz.prog 5 #[.agg #[.bool pf, .string plo, .string phi, .int .i64 pr, .slice pp pn pc], .agg #[.int .i64 2, .string aek, .int .i64 aes, .int .i64 aeg, .int .i64 aec, .string akey, .int .i64 apg, .bool aleaf, .string alo, .string ahi, .int .i64 ar, .slice ap an ac], .agg #[.int .i64 1, .string bek, .int .i64 bes, .int .i64 beg, .int .i64 bec, .string bkey, .int .i64 bpg, .bool bleaf, .string blo, .string bhi, .int .i64 br, .slice bp bn bc]] w fun e w' => e = .returned (.bool true) ∧ Below w.heap.size w w' := by
  have hr1 := hp.room
  have hC := fun (W : World) (h : Below w.heap.size w W) => rcheck_any pf plo phi pr pp pn pc pl W hp.lenq (hp.ens.below h (Nat.le_refl _)) (by omega)
  have hF1 := fun (W : World) (b : Nat) (h : Below w.heap.size w W) => fold_two pf plo phi pr pp pn pc pl 2 1 aek aes aeg aec akey apg aleaf alo ahi ar al ap an ac bek bes beg bec bkey bpg bleaf blo bhi br bl bp bn bc w (by decide) (by decide) hp ha hb W b h
  have hF2 := fun (W : World) (b : Nat) (h : Below w.heap.size w W) => fold_two pf plo phi pr pp pn pc pl 1 2 bek bes beg bec bkey bpg bleaf blo bhi br bl bp bn bc aek aes aeg aec akey apg aleaf alo ahi ar al ap an ac w (by decide) (by decide) hp hb ha W b h
  have hsw := fun hm hne => Dl.swap (g := ⟨pf, plo, phi, pr, pl⟩) hm (a := ⟨1, ⟨bek, bes, beg, bec⟩, bkey, bpg, ⟨bleaf, blo, bhi, br, bl⟩⟩) (b := ⟨2, ⟨aek, aes, aeg, aec⟩, akey, apg, ⟨aleaf, alo, ahi, ar, al⟩⟩) (.inl rfl) (.inr rfl) hne
  have hxl : (Dl.fo ⟨pf, plo, phi, pr, pl⟩ [⟨1, ⟨bek, bes, beg, bec⟩, bkey, bpg, ⟨bleaf, blo, bhi, br, bl⟩⟩, ⟨2, ⟨aek, aes, aeg, aec⟩, akey, apg, ⟨aleaf, alo, ahi, ar, al⟩⟩]).2 = 0 → (Dl.fo ⟨pf, plo, phi, pr, pl⟩ [⟨1, ⟨bek, bes, beg, bec⟩, bkey, bpg, ⟨bleaf, blo, bhi, br, bl⟩⟩, ⟨2, ⟨aek, aes, aeg, aec⟩, akey, apg, ⟨aleaf, alo, ahi, ar, al⟩⟩]).1.l.length ≤ 4398046511104 := fun h0 => by
    have hok := Dl.fo_ok _ _ h0
    have ra : al = [] := Dl.may_rt (hok.2 ⟨2, ⟨aek, aes, aeg, aec⟩, akey, apg, ⟨aleaf, alo, ahi, ar, al⟩⟩ (by simp)).1 (show (2 : Int) ≠ 4 by decide)
    have rb : bl = [] := Dl.may_rt (hok.2 ⟨1, ⟨bek, bes, beg, bec⟩, bkey, bpg, ⟨bleaf, blo, bhi, br, bl⟩⟩ (by simp)).1 (show (1 : Int) ≠ 4 by decide)
    rw [hok.1]
    show (entS (entS pl ⟨1, ⟨bek, bes, beg, bec⟩, bkey, bpg, ⟨bleaf, blo, bhi, br, bl⟩⟩) ⟨2, ⟨aek, aes, aeg, aec⟩, akey, apg, ⟨aleaf, alo, ahi, ar, al⟩⟩).length ≤ _
    have e1 := Dl.entS_le pl ⟨1, ⟨bek, bes, beg, bec⟩, bkey, bpg, ⟨bleaf, blo, bhi, br, bl⟩⟩
    have e2 := Dl.entS_le (entS pl ⟨1, ⟨bek, bes, beg, bec⟩, bkey, bpg, ⟨bleaf, blo, bhi, br, bl⟩⟩) ⟨2, ⟨aek, aes, aeg, aec⟩, akey, apg, ⟨aleaf, alo, ahi, ar, al⟩⟩
    have := hp.lenq
    simp only [ra, rb, List.length_nil] at e1 e2 ⊢
    omega
  generalize Dl.fo ⟨pf, plo, phi, pr, pl⟩ [⟨1, ⟨bek, bes, beg, bec⟩, bkey, bpg, ⟨bleaf, blo, bhi, br, bl⟩⟩, ⟨2, ⟨aek, aes, aeg, aec⟩, akey, apg, ⟨aleaf, alo, ahi, ar, al⟩⟩] = ox at hF1 hsw hxl
  generalize Dl.fo ⟨pf, plo, phi, pr, pl⟩ [⟨2, ⟨aek, aes, aeg, aec⟩, akey, apg, ⟨aleaf, alo, ahi, ar, al⟩⟩, ⟨1, ⟨bek, bes, beg, bec⟩, bkey, bpg, ⟨bleaf, blo, bhi, br, bl⟩⟩] = oy at hF2 hsw
  obtain ⟨⟨xf, xlo, xhi, xr, xl⟩, xe⟩ := ox
  obtain ⟨⟨yf, ylo, yhi, yr, yl⟩, ye⟩ := oy
  simp only at hF1 hF2 hsw hxl
  have HF1 : Hid (∀ (W : World) (b : Nat), Below w.heap.size w W → Bk W b 32 #[.int .i64 2, .string aek, .int .i64 aes, .int .i64 aeg, .int .i64 aec, .string akey, .int .i64 apg, .bool aleaf, .string alo, .string ahi, .int .i64 ar, .slice ap an ac, .int .i64 1, .string bek, .int .i64 bes, .int .i64 beg, .int .i64 bec, .string bkey, .int .i64 bpg, .bool bleaf, .string blo, .string bhi, .int .i64 br, .slice bp bn bc] → Calls Tryz.prog 11 #[pgv pf plo phi pr pp pn pc, .slice (some ⟨b, 0, none⟩) 2 2] W fun e w' => ∃ v, e = .returned (.tuple #[v, .int .i64 xe]) ∧ PgAt w' W.heap.size v ⟨xf, xlo, xhi, xr, xl⟩ ∧ Below W.heap.size W w') := hF1
  have HF2 : Hid (∀ (W : World) (b : Nat), Below w.heap.size w W → Bk W b 32 #[.int .i64 1, .string bek, .int .i64 bes, .int .i64 beg, .int .i64 bec, .string bkey, .int .i64 bpg, .bool bleaf, .string blo, .string bhi, .int .i64 br, .slice bp bn bc, .int .i64 2, .string aek, .int .i64 aes, .int .i64 aeg, .int .i64 aec, .string akey, .int .i64 apg, .bool aleaf, .string alo, .string ahi, .int .i64 ar, .slice ap an ac] → Calls Tryz.prog 11 #[pgv pf plo phi pr pp pn pc, .slice (some ⟨b, 0, none⟩) 2 2] W fun e w' => ∃ v, e = .returned (.tuple #[v, .int .i64 ye]) ∧ PgAt w' W.heap.size v ⟨yf, ylo, yhi, yr, yl⟩ ∧ Below W.heap.size W w') := hF2
  have HCK : Hid (∀ W, Below w.heap.size w W → Calls Tryz.prog 21 #[pgv pf plo phi pr pp pn pc] W fun e w' => e = .returned (.int .i64 (if Pg.may pf ⟨plo, phi⟩ pr pl then 0 else 70)) ∧ Below W.heap.size W w') := hC
  have HSW : Hid _ := hsw
  have HXL : Hid (xe = 0 → xl.length ≤ 4398046511104) := hxl
  clear hF1 hF2 hC hsw hxl hp ha hb hr1
  obtain ⟨w0, hw0⟩ : ∃ w0, ((w.alloc (.cells #[.bool pf, .string plo, .string phi, .int .i64 pr, .slice pp pn pc] 24)).alloc (.cells #[.int .i64 2, .string aek, .int .i64 aes, .int .i64 aeg, .int .i64 aec, .string akey, .int .i64 apg, .bool aleaf, .string alo, .string ahi, .int .i64 ar, .slice ap an ac] 32)).alloc (.cells #[.int .i64 1, .string bek, .int .i64 bes, .int .i64 beg, .int .i64 bec, .string bkey, .int .i64 bpg, .bool bleaf, .string blo, .string bhi, .int .i64 br, .slice bp bn bc] 32) = w0 := ⟨_, rfl⟩
  have HB0 : Hid (Below w.heap.size w w0) := by rw [← hw0]; exact (((Below.refl _ _).alloc (Nat.le_refl _) _).alloc (by simp) _).alloc (by simp; omega) _
  have HP0 : Hid (Bk w0 w.heap.size 24 #[.bool pf, .string plo, .string phi, .int .i64 pr, .slice pp pn pc]) := by rw [← hw0]; exact ((Bk.new _ _ _).alloc _).alloc _
  have HA0 : Hid (Bk w0 (w.heap.size + 1) 32 #[.int .i64 2, .string aek, .int .i64 aes, .int .i64 aeg, .int .i64 aec, .string akey, .int .i64 apg, .bool aleaf, .string alo, .string ahi, .int .i64 ar, .slice ap an ac]) := by rw [← hw0]; exact (Bk.new1 _ _ _ _).alloc _
  have HD0 : Hid (Bk w0 (w.heap.size + 1 + 1) 32 #[.int .i64 1, .string bek, .int .i64 bes, .int .i64 beg, .int .i64 bec, .string bkey, .int .i64 bpg, .bool bleaf, .string blo, .string bhi, .int .i64 br, .slice bp bn bc]) := by rw [← hw0]; exact Bk.new2 _ _ _ _ _
  go_enter Tryz.func5, Tryz.ntmps5
  have a0 : w0.cell? ⟨w.heap.size, 0, none⟩ = some (.bool pf) := HP0.out.cell 0
  have a1 : w0.cell? ⟨w.heap.size, 1, none⟩ = some (.string plo) := HP0.out.cell 1
  have a2 : w0.cell? ⟨w.heap.size, 2, none⟩ = some (.string phi) := HP0.out.cell 2
  have a3 : w0.cell? ⟨w.heap.size, 3, none⟩ = some (.int .i64 pr) := HP0.out.cell 3
  have a4 : w0.cell? ⟨w.heap.size, 4, none⟩ = some (.slice pp pn pc) := HP0.out.cell 4
  have y0 : w0.cell? ⟨w.heap.size + 1, 0, none⟩ = some (.int .i64 2) := HA0.out.cell 0
  have y1 : w0.cell? ⟨w.heap.size + 1, 1, none⟩ = some (.string aek) := HA0.out.cell 1
  have y2 : w0.cell? ⟨w.heap.size + 1, 2, none⟩ = some (.int .i64 aes) := HA0.out.cell 2
  have y3 : w0.cell? ⟨w.heap.size + 1, 3, none⟩ = some (.int .i64 aeg) := HA0.out.cell 3
  have y4 : w0.cell? ⟨w.heap.size + 1, 4, none⟩ = some (.int .i64 aec) := HA0.out.cell 4
  have y5 : w0.cell? ⟨w.heap.size + 1, 5, none⟩ = some (.string akey) := HA0.out.cell 5
  have y6 : w0.cell? ⟨w.heap.size + 1, 6, none⟩ = some (.int .i64 apg) := HA0.out.cell 6
  have y7 : w0.cell? ⟨w.heap.size + 1, 7, none⟩ = some (.bool aleaf) := HA0.out.cell 7
  have y8 : w0.cell? ⟨w.heap.size + 1, 8, none⟩ = some (.string alo) := HA0.out.cell 8
  have y9 : w0.cell? ⟨w.heap.size + 1, 9, none⟩ = some (.string ahi) := HA0.out.cell 9
  have y10 : w0.cell? ⟨w.heap.size + 1, 10, none⟩ = some (.int .i64 ar) := HA0.out.cell 10
  have y11 : w0.cell? ⟨w.heap.size + 1, 11, none⟩ = some (.slice ap an ac) := HA0.out.cell 11
  have z0 : w0.cell? ⟨w.heap.size + 1 + 1, 0, none⟩ = some (.int .i64 1) := HD0.out.cell 0
  have z1 : w0.cell? ⟨w.heap.size + 1 + 1, 1, none⟩ = some (.string bek) := HD0.out.cell 1
  have z2 : w0.cell? ⟨w.heap.size + 1 + 1, 2, none⟩ = some (.int .i64 bes) := HD0.out.cell 2
  have z3 : w0.cell? ⟨w.heap.size + 1 + 1, 3, none⟩ = some (.int .i64 beg) := HD0.out.cell 3
  have z4 : w0.cell? ⟨w.heap.size + 1 + 1, 4, none⟩ = some (.int .i64 bec) := HD0.out.cell 4
  have z5 : w0.cell? ⟨w.heap.size + 1 + 1, 5, none⟩ = some (.string bkey) := HD0.out.cell 5
  have z6 : w0.cell? ⟨w.heap.size + 1 + 1, 6, none⟩ = some (.int .i64 bpg) := HD0.out.cell 6
  have z7 : w0.cell? ⟨w.heap.size + 1 + 1, 7, none⟩ = some (.bool bleaf) := HD0.out.cell 7
  have z8 : w0.cell? ⟨w.heap.size + 1 + 1, 8, none⟩ = some (.string blo) := HD0.out.cell 8
  have z9 : w0.cell? ⟨w.heap.size + 1 + 1, 9, none⟩ = some (.string bhi) := HD0.out.cell 9
  have z10 : w0.cell? ⟨w.heap.size + 1 + 1, 10, none⟩ = some (.int .i64 br) := HD0.out.cell 10
  have z11 : w0.cell? ⟨w.heap.size + 1 + 1, 11, none⟩ = some (.slice bp bn bc) := HD0.out.cell 11
  have hc1 : ¬ (aek.size + akey.size > 9223372036854775807) := by omega
  have hc2 : ¬ (bek.size + bkey.size > 9223372036854775807) := by omega
  by_cases hcat : (aek.toList ++ akey.toList) = (bek.toList ++ bkey.toList)
  · have hq : ((aek ++ akey).toList == (bek ++ bkey).toList) = true := by rw [cat_list, cat_list, hcat]; simp
    clear HF1 HF2 HSW HXL HCK
    go_wp2_with fail
    refine (live_any _).mono ?_
    rintro e wl ⟨rfl, hbl⟩
    have hBl : Below w.heap.size w wl := HB0.out.trans (hbl.mono HB0.out.size)
    go_wp2
    go_ret
    exact ⟨rfl, hBl⟩
  · have hq : ((aek ++ akey).toList == (bek ++ bkey).toList) = false := by rw [cat_list, cat_list]; simpa using hcat
    go_wp2_with fail
    refine (HCK.out _ HB0.out).mono ?_
    rintro e w1 ⟨rfl, hb⟩
    clear hw0 hc1 hc2 hq sa1 sa2 sb1 sb2
    clear a0 a1 a2 a3 a4
    clear y0 y1 y2 y3 y4 y5 y6 y7 y8 y9 y10 y11
    clear z0 z1 z2 z3 z4 z5 z6 z7 z8 z9 z10 z11
    have HB1 : Hid (Below w.heap.size w w1) := HB0.out.trans (hb.mono HB0.out.size)
    have HP1 : Hid (Bk w1 w.heap.size 24 #[.bool pf, .string plo, .string phi, .int .i64 pr, .slice pp pn pc]) := HP0.out.below hb HP0.out.lt
    have HA1 : Hid (Bk w1 (w.heap.size + 1) 32 #[.int .i64 2, .string aek, .int .i64 aes, .int .i64 aeg, .int .i64 aec, .string akey, .int .i64 apg, .bool aleaf, .string alo, .string ahi, .int .i64 ar, .slice ap an ac]) := HA0.out.below hb HA0.out.lt
    have HD1 : Hid (Bk w1 (w.heap.size + 1 + 1) 32 #[.int .i64 1, .string bek, .int .i64 bes, .int .i64 beg, .int .i64 bec, .string bkey, .int .i64 bpg, .bool bleaf, .string blo, .string bhi, .int .i64 br, .slice bp bn bc]) := HD0.out.below hb HD0.out.lt
    clear hb HB0 HP0 HA0 HD0
    cases hm : Pg.may pf ⟨plo, phi⟩ pr pl with
    | false =>
      clear HF1 HF2 HSW HXL HCK
      simp only [Bool.false_eq_true, if_false]
      go_wp2_with fail
      refine (live_any _).mono ?_
      rintro e wl ⟨rfl, hbl⟩
      have hBl : Below w.heap.size w wl := HB1.out.trans (hbl.mono HB1.out.size)
      go_wp2
      go_ret
      exact ⟨rfl, hBl⟩
    | true =>
    have hsw2 := HSW.out hm (fun e => hcat e.symm)
    have HSV : Hid ((xe = 0 ↔ ye = 0) ∧ (xe = 0 → (⟨xf, xlo, xhi, xr, xl⟩ : Pp) = ⟨yf, ylo, yhi, yr, yl⟩)) := hsw2
    clear HSW hsw2 hm hcat HCK
    simp only [if_true]
    go_wp2_with fail
    refine (live_any _).mono ?_
    rintro e w2 ⟨rfl, hb⟩
    have HB2 : Hid (Below w.heap.size w w2) := HB1.out.trans (hb.mono HB1.out.size)
    have HP2 : Hid (Bk w2 w.heap.size 24 #[.bool pf, .string plo, .string phi, .int .i64 pr, .slice pp pn pc]) := HP1.out.below hb HP1.out.lt
    have HA2 : Hid (Bk w2 (w.heap.size + 1) 32 #[.int .i64 2, .string aek, .int .i64 aes, .int .i64 aeg, .int .i64 aec, .string akey, .int .i64 apg, .bool aleaf, .string alo, .string ahi, .int .i64 ar, .slice ap an ac]) := HA1.out.below hb HA1.out.lt
    have HD2 : Hid (Bk w2 (w.heap.size + 1 + 1) 32 #[.int .i64 1, .string bek, .int .i64 bes, .int .i64 beg, .int .i64 bec, .string bkey, .int .i64 bpg, .bool bleaf, .string blo, .string bhi, .int .i64 br, .slice bp bn bc]) := HD1.out.below hb HD1.out.lt
    clear hb HB1 HP1 HA1 HD1
    have HB3 : Hid (Below w.heap.size w (w2.alloc (.cells #[.int .i64 2, .string aek, .int .i64 aes, .int .i64 aeg, .int .i64 aec, .string akey, .int .i64 apg, .bool aleaf, .string alo, .string ahi, .int .i64 ar, .slice ap an ac, .int .i64 1, .string bek, .int .i64 bes, .int .i64 beg, .int .i64 bec, .string bkey, .int .i64 bpg, .bool bleaf, .string blo, .string bhi, .int .i64 br, .slice bp bn bc] 32))) := HB2.out.alloc HB2.out.size _
    have HP3 : Hid (Bk (w2.alloc (.cells #[.int .i64 2, .string aek, .int .i64 aes, .int .i64 aeg, .int .i64 aec, .string akey, .int .i64 apg, .bool aleaf, .string alo, .string ahi, .int .i64 ar, .slice ap an ac, .int .i64 1, .string bek, .int .i64 bes, .int .i64 beg, .int .i64 bec, .string bkey, .int .i64 bpg, .bool bleaf, .string blo, .string bhi, .int .i64 br, .slice bp bn bc] 32)) w.heap.size 24 #[.bool pf, .string plo, .string phi, .int .i64 pr, .slice pp pn pc]) := HP2.out.alloc _
    have HA3 : Hid (Bk (w2.alloc (.cells #[.int .i64 2, .string aek, .int .i64 aes, .int .i64 aeg, .int .i64 aec, .string akey, .int .i64 apg, .bool aleaf, .string alo, .string ahi, .int .i64 ar, .slice ap an ac, .int .i64 1, .string bek, .int .i64 bes, .int .i64 beg, .int .i64 bec, .string bkey, .int .i64 bpg, .bool bleaf, .string blo, .string bhi, .int .i64 br, .slice bp bn bc] 32)) (w.heap.size + 1) 32 #[.int .i64 2, .string aek, .int .i64 aes, .int .i64 aeg, .int .i64 aec, .string akey, .int .i64 apg, .bool aleaf, .string alo, .string ahi, .int .i64 ar, .slice ap an ac]) := HA2.out.alloc _
    have HD3 : Hid (Bk (w2.alloc (.cells #[.int .i64 2, .string aek, .int .i64 aes, .int .i64 aeg, .int .i64 aec, .string akey, .int .i64 apg, .bool aleaf, .string alo, .string ahi, .int .i64 ar, .slice ap an ac, .int .i64 1, .string bek, .int .i64 bes, .int .i64 beg, .int .i64 bec, .string bkey, .int .i64 bpg, .bool bleaf, .string blo, .string bhi, .int .i64 br, .slice bp bn bc] 32)) (w.heap.size + 1 + 1) 32 #[.int .i64 1, .string bek, .int .i64 bes, .int .i64 beg, .int .i64 bec, .string bkey, .int .i64 bpg, .bool bleaf, .string blo, .string bhi, .int .i64 br, .slice bp bn bc]) := HD2.out.alloc _
    have HL3 : Hid (Bk (w2.alloc (.cells #[.int .i64 2, .string aek, .int .i64 aes, .int .i64 aeg, .int .i64 aec, .string akey, .int .i64 apg, .bool aleaf, .string alo, .string ahi, .int .i64 ar, .slice ap an ac, .int .i64 1, .string bek, .int .i64 bes, .int .i64 beg, .int .i64 bec, .string bkey, .int .i64 bpg, .bool bleaf, .string blo, .string bhi, .int .i64 br, .slice bp bn bc] 32)) w2.heap.size 32 #[.int .i64 2, .string aek, .int .i64 aes, .int .i64 aeg, .int .i64 aec, .string akey, .int .i64 apg, .bool aleaf, .string alo, .string ahi, .int .i64 ar, .slice ap an ac, .int .i64 1, .string bek, .int .i64 bes, .int .i64 beg, .int .i64 bec, .string bkey, .int .i64 bpg, .bool bleaf, .string blo, .string bhi, .int .i64 br, .slice bp bn bc]) := Bk.new _ _ _
    have a0 : w2.cell? ⟨w.heap.size, 0, none⟩ = some (.bool pf) := HP2.out.cell 0
    have a1 : w2.cell? ⟨w.heap.size, 1, none⟩ = some (.string plo) := HP2.out.cell 1
    have a2 : w2.cell? ⟨w.heap.size, 2, none⟩ = some (.string phi) := HP2.out.cell 2
    have a3 : w2.cell? ⟨w.heap.size, 3, none⟩ = some (.int .i64 pr) := HP2.out.cell 3
    have a4 : w2.cell? ⟨w.heap.size, 4, none⟩ = some (.slice pp pn pc) := HP2.out.cell 4
    have y0 : w2.cell? ⟨w.heap.size + 1, 0, none⟩ = some (.int .i64 2) := HA2.out.cell 0
    have y1 : w2.cell? ⟨w.heap.size + 1, 1, none⟩ = some (.string aek) := HA2.out.cell 1
    have y2 : w2.cell? ⟨w.heap.size + 1, 2, none⟩ = some (.int .i64 aes) := HA2.out.cell 2
    have y3 : w2.cell? ⟨w.heap.size + 1, 3, none⟩ = some (.int .i64 aeg) := HA2.out.cell 3
    have y4 : w2.cell? ⟨w.heap.size + 1, 4, none⟩ = some (.int .i64 aec) := HA2.out.cell 4
    have y5 : w2.cell? ⟨w.heap.size + 1, 5, none⟩ = some (.string akey) := HA2.out.cell 5
    have y6 : w2.cell? ⟨w.heap.size + 1, 6, none⟩ = some (.int .i64 apg) := HA2.out.cell 6
    have y7 : w2.cell? ⟨w.heap.size + 1, 7, none⟩ = some (.bool aleaf) := HA2.out.cell 7
    have y8 : w2.cell? ⟨w.heap.size + 1, 8, none⟩ = some (.string alo) := HA2.out.cell 8
    have y9 : w2.cell? ⟨w.heap.size + 1, 9, none⟩ = some (.string ahi) := HA2.out.cell 9
    have y10 : w2.cell? ⟨w.heap.size + 1, 10, none⟩ = some (.int .i64 ar) := HA2.out.cell 10
    have y11 : w2.cell? ⟨w.heap.size + 1, 11, none⟩ = some (.slice ap an ac) := HA2.out.cell 11
    have z0 : w2.cell? ⟨w.heap.size + 1 + 1, 0, none⟩ = some (.int .i64 1) := HD2.out.cell 0
    have z1 : w2.cell? ⟨w.heap.size + 1 + 1, 1, none⟩ = some (.string bek) := HD2.out.cell 1
    have z2 : w2.cell? ⟨w.heap.size + 1 + 1, 2, none⟩ = some (.int .i64 bes) := HD2.out.cell 2
    have z3 : w2.cell? ⟨w.heap.size + 1 + 1, 3, none⟩ = some (.int .i64 beg) := HD2.out.cell 3
    have z4 : w2.cell? ⟨w.heap.size + 1 + 1, 4, none⟩ = some (.int .i64 bec) := HD2.out.cell 4
    have z5 : w2.cell? ⟨w.heap.size + 1 + 1, 5, none⟩ = some (.string bkey) := HD2.out.cell 5
    have z6 : w2.cell? ⟨w.heap.size + 1 + 1, 6, none⟩ = some (.int .i64 bpg) := HD2.out.cell 6
    have z7 : w2.cell? ⟨w.heap.size + 1 + 1, 7, none⟩ = some (.bool bleaf) := HD2.out.cell 7
    have z8 : w2.cell? ⟨w.heap.size + 1 + 1, 8, none⟩ = some (.string blo) := HD2.out.cell 8
    have z9 : w2.cell? ⟨w.heap.size + 1 + 1, 9, none⟩ = some (.string bhi) := HD2.out.cell 9
    have z10 : w2.cell? ⟨w.heap.size + 1 + 1, 10, none⟩ = some (.int .i64 br) := HD2.out.cell 10
    have z11 : w2.cell? ⟨w.heap.size + 1 + 1, 11, none⟩ = some (.slice bp bn bc) := HD2.out.cell 11
    go_wp2_with fail
    refine (HF1.out _ _ HB3.out HL3.out).mono ?_
    rintro e w4 ⟨v, rfl, hv, hb⟩
    clear a0 a1 a2 a3 a4
    clear y0 y1 y2 y3 y4 y5 y6 y7 y8 y9 y10 y11
    clear z0 z1 z2 z3 z4 z5 z6 z7 z8 z9 z10 z11
    clear HL3 HP2 HA2 HD2 HB2 HF1
    obtain ⟨xp, xc, rfl, hs⟩ := hv
    simp only
    obtain ⟨xn, HXN⟩ : ∃ xn, Hid (xl.length = xn) := ⟨_, rfl⟩
    rw [HXN.out]
    have HX4 : Hid (Ens w4 xp xl) := hs.ens
    clear hs
    have HB4 : Hid (Below w.heap.size w w4) := HB3.out.trans (hb.mono HB3.out.size)
    have HP4 : Hid (Bk w4 w.heap.size 24 #[.bool pf, .string plo, .string phi, .int .i64 pr, .slice pp pn pc]) := HP3.out.below hb HP3.out.lt
    have HA4 : Hid (Bk w4 (w.heap.size + 1) 32 #[.int .i64 2, .string aek, .int .i64 aes, .int .i64 aeg, .int .i64 aec, .string akey, .int .i64 apg, .bool aleaf, .string alo, .string ahi, .int .i64 ar, .slice ap an ac]) := HA3.out.below hb HA3.out.lt
    have HD4 : Hid (Bk w4 (w.heap.size + 1 + 1) 32 #[.int .i64 1, .string bek, .int .i64 bes, .int .i64 beg, .int .i64 bec, .string bkey, .int .i64 bpg, .bool bleaf, .string blo, .string bhi, .int .i64 br, .slice bp bn bc]) := HD3.out.below hb HD3.out.lt
    clear hb HB3 HP3 HA3 HD3
    obtain ⟨w5, hw5⟩ : ∃ w5, w5 = (w4.alloc (.cells #[.bool xf, .string xlo, .string xhi, .int .i64 xr, .slice xp xn xc] 24)) := ⟨_, rfl⟩
    have hbx : Below w4.heap.size w4 w5 := by rw [hw5]; exact (Below.refl _ _).alloc (Nat.le_refl _) _
    have HB5 : Hid (Below w.heap.size w w5) := HB4.out.trans (hbx.mono HB4.out.size)
    have HP5 : Hid (Bk w5 w.heap.size 24 #[.bool pf, .string plo, .string phi, .int .i64 pr, .slice pp pn pc]) := HP4.out.below hbx HP4.out.lt
    have HA5 : Hid (Bk w5 (w.heap.size + 1) 32 #[.int .i64 2, .string aek, .int .i64 aes, .int .i64 aeg, .int .i64 aec, .string akey, .int .i64 apg, .bool aleaf, .string alo, .string ahi, .int .i64 ar, .slice ap an ac]) := HA4.out.below hbx HA4.out.lt
    have HD5 : Hid (Bk w5 (w.heap.size + 1 + 1) 32 #[.int .i64 1, .string bek, .int .i64 bes, .int .i64 beg, .int .i64 bec, .string bkey, .int .i64 bpg, .bool bleaf, .string blo, .string bhi, .int .i64 br, .slice bp bn bc]) := HD4.out.below hbx HD4.out.lt
    have HXB5 : Hid (Bk w5 w4.heap.size 24 #[.bool xf, .string xlo, .string xhi, .int .i64 xr, .slice xp xn xc]) := by rw [hw5]; exact Bk.new _ _ _
    have HX5 : Hid (Ens w5 xp xl) := HX4.out.below hbx (Nat.le_refl _)
    have hnP : w.heap.size ≠ w4.heap.size := by have := HD4.out.lt; omega
    have hnA : w.heap.size + 1 ≠ w4.heap.size := by have := HD4.out.lt; omega
    have hnD : w.heap.size + 1 + 1 ≠ w4.heap.size := by have := HD4.out.lt; omega
    clear hbx
    have a0 : (w4.alloc (.cells #[.bool xf, .string xlo, .string xhi, .int .i64 xr, .slice xp xn xc] 24)).cell? ⟨w.heap.size, 0, none⟩ = some (.bool pf) := (HP4.out.alloc _).cell 0
    have a1 : (w4.alloc (.cells #[.bool xf, .string xlo, .string xhi, .int .i64 xr, .slice xp xn xc] 24)).cell? ⟨w.heap.size, 1, none⟩ = some (.string plo) := (HP4.out.alloc _).cell 1
    have a2 : (w4.alloc (.cells #[.bool xf, .string xlo, .string xhi, .int .i64 xr, .slice xp xn xc] 24)).cell? ⟨w.heap.size, 2, none⟩ = some (.string phi) := (HP4.out.alloc _).cell 2
    have a3 : (w4.alloc (.cells #[.bool xf, .string xlo, .string xhi, .int .i64 xr, .slice xp xn xc] 24)).cell? ⟨w.heap.size, 3, none⟩ = some (.int .i64 pr) := (HP4.out.alloc _).cell 3
    have a4 : (w4.alloc (.cells #[.bool xf, .string xlo, .string xhi, .int .i64 xr, .slice xp xn xc] 24)).cell? ⟨w.heap.size, 4, none⟩ = some (.slice pp pn pc) := (HP4.out.alloc _).cell 4
    have y0 : (w4.alloc (.cells #[.bool xf, .string xlo, .string xhi, .int .i64 xr, .slice xp xn xc] 24)).cell? ⟨w.heap.size + 1, 0, none⟩ = some (.int .i64 2) := (HA4.out.alloc _).cell 0
    have y1 : (w4.alloc (.cells #[.bool xf, .string xlo, .string xhi, .int .i64 xr, .slice xp xn xc] 24)).cell? ⟨w.heap.size + 1, 1, none⟩ = some (.string aek) := (HA4.out.alloc _).cell 1
    have y2 : (w4.alloc (.cells #[.bool xf, .string xlo, .string xhi, .int .i64 xr, .slice xp xn xc] 24)).cell? ⟨w.heap.size + 1, 2, none⟩ = some (.int .i64 aes) := (HA4.out.alloc _).cell 2
    have y3 : (w4.alloc (.cells #[.bool xf, .string xlo, .string xhi, .int .i64 xr, .slice xp xn xc] 24)).cell? ⟨w.heap.size + 1, 3, none⟩ = some (.int .i64 aeg) := (HA4.out.alloc _).cell 3
    have y4 : (w4.alloc (.cells #[.bool xf, .string xlo, .string xhi, .int .i64 xr, .slice xp xn xc] 24)).cell? ⟨w.heap.size + 1, 4, none⟩ = some (.int .i64 aec) := (HA4.out.alloc _).cell 4
    have y5 : (w4.alloc (.cells #[.bool xf, .string xlo, .string xhi, .int .i64 xr, .slice xp xn xc] 24)).cell? ⟨w.heap.size + 1, 5, none⟩ = some (.string akey) := (HA4.out.alloc _).cell 5
    have y6 : (w4.alloc (.cells #[.bool xf, .string xlo, .string xhi, .int .i64 xr, .slice xp xn xc] 24)).cell? ⟨w.heap.size + 1, 6, none⟩ = some (.int .i64 apg) := (HA4.out.alloc _).cell 6
    have y7 : (w4.alloc (.cells #[.bool xf, .string xlo, .string xhi, .int .i64 xr, .slice xp xn xc] 24)).cell? ⟨w.heap.size + 1, 7, none⟩ = some (.bool aleaf) := (HA4.out.alloc _).cell 7
    have y8 : (w4.alloc (.cells #[.bool xf, .string xlo, .string xhi, .int .i64 xr, .slice xp xn xc] 24)).cell? ⟨w.heap.size + 1, 8, none⟩ = some (.string alo) := (HA4.out.alloc _).cell 8
    have y9 : (w4.alloc (.cells #[.bool xf, .string xlo, .string xhi, .int .i64 xr, .slice xp xn xc] 24)).cell? ⟨w.heap.size + 1, 9, none⟩ = some (.string ahi) := (HA4.out.alloc _).cell 9
    have y10 : (w4.alloc (.cells #[.bool xf, .string xlo, .string xhi, .int .i64 xr, .slice xp xn xc] 24)).cell? ⟨w.heap.size + 1, 10, none⟩ = some (.int .i64 ar) := (HA4.out.alloc _).cell 10
    have y11 : (w4.alloc (.cells #[.bool xf, .string xlo, .string xhi, .int .i64 xr, .slice xp xn xc] 24)).cell? ⟨w.heap.size + 1, 11, none⟩ = some (.slice ap an ac) := (HA4.out.alloc _).cell 11
    have z0 : (w4.alloc (.cells #[.bool xf, .string xlo, .string xhi, .int .i64 xr, .slice xp xn xc] 24)).cell? ⟨w.heap.size + 1 + 1, 0, none⟩ = some (.int .i64 1) := (HD4.out.alloc _).cell 0
    have z1 : (w4.alloc (.cells #[.bool xf, .string xlo, .string xhi, .int .i64 xr, .slice xp xn xc] 24)).cell? ⟨w.heap.size + 1 + 1, 1, none⟩ = some (.string bek) := (HD4.out.alloc _).cell 1
    have z2 : (w4.alloc (.cells #[.bool xf, .string xlo, .string xhi, .int .i64 xr, .slice xp xn xc] 24)).cell? ⟨w.heap.size + 1 + 1, 2, none⟩ = some (.int .i64 bes) := (HD4.out.alloc _).cell 2
    have z3 : (w4.alloc (.cells #[.bool xf, .string xlo, .string xhi, .int .i64 xr, .slice xp xn xc] 24)).cell? ⟨w.heap.size + 1 + 1, 3, none⟩ = some (.int .i64 beg) := (HD4.out.alloc _).cell 3
    have z4 : (w4.alloc (.cells #[.bool xf, .string xlo, .string xhi, .int .i64 xr, .slice xp xn xc] 24)).cell? ⟨w.heap.size + 1 + 1, 4, none⟩ = some (.int .i64 bec) := (HD4.out.alloc _).cell 4
    have z5 : (w4.alloc (.cells #[.bool xf, .string xlo, .string xhi, .int .i64 xr, .slice xp xn xc] 24)).cell? ⟨w.heap.size + 1 + 1, 5, none⟩ = some (.string bkey) := (HD4.out.alloc _).cell 5
    have z6 : (w4.alloc (.cells #[.bool xf, .string xlo, .string xhi, .int .i64 xr, .slice xp xn xc] 24)).cell? ⟨w.heap.size + 1 + 1, 6, none⟩ = some (.int .i64 bpg) := (HD4.out.alloc _).cell 6
    have z7 : (w4.alloc (.cells #[.bool xf, .string xlo, .string xhi, .int .i64 xr, .slice xp xn xc] 24)).cell? ⟨w.heap.size + 1 + 1, 7, none⟩ = some (.bool bleaf) := (HD4.out.alloc _).cell 7
    have z8 : (w4.alloc (.cells #[.bool xf, .string xlo, .string xhi, .int .i64 xr, .slice xp xn xc] 24)).cell? ⟨w.heap.size + 1 + 1, 8, none⟩ = some (.string blo) := (HD4.out.alloc _).cell 8
    have z9 : (w4.alloc (.cells #[.bool xf, .string xlo, .string xhi, .int .i64 xr, .slice xp xn xc] 24)).cell? ⟨w.heap.size + 1 + 1, 9, none⟩ = some (.string bhi) := (HD4.out.alloc _).cell 9
    have z10 : (w4.alloc (.cells #[.bool xf, .string xlo, .string xhi, .int .i64 xr, .slice xp xn xc] 24)).cell? ⟨w.heap.size + 1 + 1, 10, none⟩ = some (.int .i64 br) := (HD4.out.alloc _).cell 10
    have z11 : (w4.alloc (.cells #[.bool xf, .string xlo, .string xhi, .int .i64 xr, .slice xp xn xc] 24)).cell? ⟨w.heap.size + 1 + 1, 11, none⟩ = some (.slice bp bn bc) := (HD4.out.alloc _).cell 11
    go_wp2_with fail
    rw [← hw5]
    have HB6 : Hid (Below w.heap.size w (w5.alloc (.cells #[.int .i64 1, .string bek, .int .i64 bes, .int .i64 beg, .int .i64 bec, .string bkey, .int .i64 bpg, .bool bleaf, .string blo, .string bhi, .int .i64 br, .slice bp bn bc, .int .i64 2, .string aek, .int .i64 aes, .int .i64 aeg, .int .i64 aec, .string akey, .int .i64 apg, .bool aleaf, .string alo, .string ahi, .int .i64 ar, .slice ap an ac] 32))) := HB5.out.alloc HB5.out.size _
    have HL6 : Hid (Bk (w5.alloc (.cells #[.int .i64 1, .string bek, .int .i64 bes, .int .i64 beg, .int .i64 bec, .string bkey, .int .i64 bpg, .bool bleaf, .string blo, .string bhi, .int .i64 br, .slice bp bn bc, .int .i64 2, .string aek, .int .i64 aes, .int .i64 aeg, .int .i64 aec, .string akey, .int .i64 apg, .bool aleaf, .string alo, .string ahi, .int .i64 ar, .slice ap an ac] 32)) w5.heap.size 32 #[.int .i64 1, .string bek, .int .i64 bes, .int .i64 beg, .int .i64 bec, .string bkey, .int .i64 bpg, .bool bleaf, .string blo, .string bhi, .int .i64 br, .slice bp bn bc, .int .i64 2, .string aek, .int .i64 aes, .int .i64 aeg, .int .i64 aec, .string akey, .int .i64 apg, .bool aleaf, .string alo, .string ahi, .int .i64 ar, .slice ap an ac]) := Bk.new _ _ _
    have HX6 : Hid (Ens (w5.alloc (.cells #[.int .i64 1, .string bek, .int .i64 bes, .int .i64 beg, .int .i64 bec, .string bkey, .int .i64 bpg, .bool bleaf, .string blo, .string bhi, .int .i64 br, .slice bp bn bc, .int .i64 2, .string aek, .int .i64 aes, .int .i64 aeg, .int .i64 aec, .string akey, .int .i64 apg, .bool aleaf, .string alo, .string ahi, .int .i64 ar, .slice ap an ac] 32)) xp xl) := HX5.out.below ((Below.refl _ _).alloc (Nat.le_refl _) _) (Nat.le_refl _)
    have HXB6 : Hid (Bk (w5.alloc (.cells #[.int .i64 1, .string bek, .int .i64 bes, .int .i64 beg, .int .i64 bec, .string bkey, .int .i64 bpg, .bool bleaf, .string blo, .string bhi, .int .i64 br, .slice bp bn bc, .int .i64 2, .string aek, .int .i64 aes, .int .i64 aeg, .int .i64 aec, .string akey, .int .i64 apg, .bool aleaf, .string alo, .string ahi, .int .i64 ar, .slice ap an ac] 32)) w4.heap.size 24 #[.bool xf, .string xlo, .string xhi, .int .i64 xr, .slice xp xn xc]) := HXB5.out.alloc _
    have hs5 : w5.heap.size = w4.heap.size + 1 := by rw [hw5]; simp
    first | rw [← hs5] | skip
    refine (HF2.out _ _ HB6.out HL6.out).mono ?_
    rintro e w7 ⟨v, rfl, hv, hb⟩
    clear a0 a1 a2 a3 a4
    clear y0 y1 y2 y3 y4 y5 y6 y7 y8 y9 y10 y11
    clear z0 z1 z2 z3 z4 z5 z6 z7 z8 z9 z10 z11
    clear hw5 hs5 hnP hnA hnD
    obtain ⟨yp, yc, rfl, hs⟩ := hv
    simp only
    obtain ⟨yn, HYN⟩ : ∃ yn, Hid (yl.length = yn) := ⟨_, rfl⟩
    rw [HYN.out]
    have HY7 : Hid (Ens w7 yp yl) := hs.ens
    have HX7 : Hid (Ens w7 xp xl) := HX6.out.below hb (Nat.le_refl _)
    have HB7 : Hid (Below w.heap.size w w7) := HB6.out.trans (hb.mono HB6.out.size)
    have HXB7 : Hid (Bk w7 w4.heap.size 24 #[.bool xf, .string xlo, .string xhi, .int .i64 xr, .slice xp xn xc]) := HXB6.out.below hb HXB6.out.lt
    clear hs hb HL6 HX6 HB6 HXB6 HF2
    have HB8 : Hid (Below w.heap.size w (w7.alloc (.cells #[.bool yf, .string ylo, .string yhi, .int .i64 yr, .slice yp yn yc] 24))) := HB7.out.alloc HB7.out.size _
    have HXB8 : Hid (Bk (w7.alloc (.cells #[.bool yf, .string ylo, .string yhi, .int .i64 yr, .slice yp yn yc] 24)) w4.heap.size 24 #[.bool xf, .string xlo, .string xhi, .int .i64 xr, .slice xp xn xc]) := HXB7.out.alloc _
    have HYB8 : Hid (Bk (w7.alloc (.cells #[.bool yf, .string ylo, .string yhi, .int .i64 yr, .slice yp yn yc] 24)) w7.heap.size 24 #[.bool yf, .string ylo, .string yhi, .int .i64 yr, .slice yp yn yc]) := Bk.new _ _ _
    have HX8 : Hid (Ens (w7.alloc (.cells #[.bool yf, .string ylo, .string yhi, .int .i64 yr, .slice yp yn yc] 24)) xp xl) := HX7.out.below ((Below.refl _ _).alloc (Nat.le_refl _) _) (Nat.le_refl _)
    have HY8 : Hid (Ens (w7.alloc (.cells #[.bool yf, .string ylo, .string yhi, .int .i64 yr, .slice yp yn yc] 24)) yp yl) := HY7.out.below ((Below.refl _ _).alloc (Nat.le_refl _) _) (Nat.le_refl _)
    have hn8 : w4.heap.size ≠ w7.heap.size := by have := HXB7.out.lt; omega
    have a0 : (w7.alloc (.cells #[.bool yf, .string ylo, .string yhi, .int .i64 yr, .slice yp yn yc] 24)).cell? ⟨w4.heap.size, 0, none⟩ = some (.bool xf) := HXB8.out.cell 0
    have a1 : (w7.alloc (.cells #[.bool yf, .string ylo, .string yhi, .int .i64 yr, .slice yp yn yc] 24)).cell? ⟨w4.heap.size, 1, none⟩ = some (.string xlo) := HXB8.out.cell 1
    have a2 : (w7.alloc (.cells #[.bool yf, .string ylo, .string yhi, .int .i64 yr, .slice yp yn yc] 24)).cell? ⟨w4.heap.size, 2, none⟩ = some (.string xhi) := HXB8.out.cell 2
    have a3 : (w7.alloc (.cells #[.bool yf, .string ylo, .string yhi, .int .i64 yr, .slice yp yn yc] 24)).cell? ⟨w4.heap.size, 3, none⟩ = some (.int .i64 xr) := HXB8.out.cell 3
    have a4 : (w7.alloc (.cells #[.bool yf, .string ylo, .string yhi, .int .i64 yr, .slice yp yn yc] 24)).cell? ⟨w4.heap.size, 4, none⟩ = some (.slice xp xn xc) := HXB8.out.cell 4
    have y0 : (w7.alloc (.cells #[.bool yf, .string ylo, .string yhi, .int .i64 yr, .slice yp yn yc] 24)).cell? ⟨w7.heap.size, 0, none⟩ = some (.bool yf) := HYB8.out.cell 0
    have y1 : (w7.alloc (.cells #[.bool yf, .string ylo, .string yhi, .int .i64 yr, .slice yp yn yc] 24)).cell? ⟨w7.heap.size, 1, none⟩ = some (.string ylo) := HYB8.out.cell 1
    have y2 : (w7.alloc (.cells #[.bool yf, .string ylo, .string yhi, .int .i64 yr, .slice yp yn yc] 24)).cell? ⟨w7.heap.size, 2, none⟩ = some (.string yhi) := HYB8.out.cell 2
    have y3 : (w7.alloc (.cells #[.bool yf, .string ylo, .string yhi, .int .i64 yr, .slice yp yn yc] 24)).cell? ⟨w7.heap.size, 3, none⟩ = some (.int .i64 yr) := HYB8.out.cell 3
    have y4 : (w7.alloc (.cells #[.bool yf, .string ylo, .string yhi, .int .i64 yr, .slice yp yn yc] 24)).cell? ⟨w7.heap.size, 4, none⟩ = some (.slice yp yn yc) := HYB8.out.cell 4
    by_cases he : xe = 0
    · have hye : ye = 0 := HSV.out.1.1 he
      have HQ : Hid ((⟨xf, xlo, xhi, xr, xl⟩ : Pp) = ⟨yf, ylo, yhi, yr, yl⟩) := HSV.out.2 he
      have HLX : Hid (xn ≤ 4398046511104) := by have := HXL.out he; rw [HXN.out] at this; exact this
      clear HSV HXL
      subst he hye
      go_wp2_with fail
      refine (rsame_any ⟨xf, xlo, xhi, xr, xl⟩ ⟨yf, ylo, yhi, yr, yl⟩ xp yp xn yn xc yc _ HXN.out HYN.out HX8.out HY8.out HLX.out).mono ?_
      rw [← HQ.out, Pg.same_self]
      rintro e w9 ⟨rfl, hb⟩
      have hB9 : Below w.heap.size w w9 := HB8.out.trans (hb.mono HB8.out.size)
      clear a0 a1 a2 a3 a4
      clear y0 y1 y2 y3 y4
      go_wp2
      go_ret
      exact ⟨rfl, hB9⟩
    · have hye : ye ≠ 0 := fun h => he (HSV.out.1.2 h)
      clear HSV HXL
      have h1 : (xe != 0) = true := by simpa using he
      have h2 : (ye != 0) = true := by simpa using hye
      go_wp2
      go_ret
      exact ⟨rfl, HB8.out⟩

set_option maxHeartbeats 16000000 in
theorem walkd_deltaSwaps_22 (pf : Bool) (plo phi : ByteArray) (pr : Int) (pp : Option Addr) (pn pc : Nat) (pl : List En) (aek : ByteArray) (aes aeg aec : Int) (akey : ByteArray) (apg : Int) (aleaf : Bool) (alo ahi : ByteArray) (ar : Int) (al : List En) (ap : Option Addr) (an ac : Nat) (bek : ByteArray) (bes beg bec : Int) (bkey : ByteArray) (bpg : Int) (bleaf : Bool) (blo bhi : ByteArray) (br : Int) (bl : List En) (bp : Option Addr) (bn bc : Nat) (w : World) (hp : InE 3518437208780 w pp pn pc pl) (ha : InE 3518437208780 w ap an ac al) (hb : InE 3518437208780 w bp bn bc bl) (sa1 : aek.size ≤ 140737488351232) (sa2 : akey.size ≤ 140737488351232) (sb1 : bek.size ≤ 140737488351232) (sb2 : bkey.size ≤ 140737488351232) :
    Calls Tryz.prog 5 #[.agg #[.bool pf, .string plo, .string phi, .int .i64 pr, .slice pp pn pc], .agg #[.int .i64 2, .string aek, .int .i64 aes, .int .i64 aeg, .int .i64 aec, .string akey, .int .i64 apg, .bool aleaf, .string alo, .string ahi, .int .i64 ar, .slice ap an ac], .agg #[.int .i64 2, .string bek, .int .i64 bes, .int .i64 beg, .int .i64 bec, .string bkey, .int .i64 bpg, .bool bleaf, .string blo, .string bhi, .int .i64 br, .slice bp bn bc]] w fun e w' => e = .returned (.bool true) ∧ Below w.heap.size w w' := by
  have hr1 := hp.room
  have hC := fun (W : World) (h : Below w.heap.size w W) => rcheck_any pf plo phi pr pp pn pc pl W hp.lenq (hp.ens.below h (Nat.le_refl _)) (by omega)
  have hF1 := fun (W : World) (b : Nat) (h : Below w.heap.size w W) => fold_two pf plo phi pr pp pn pc pl 2 2 aek aes aeg aec akey apg aleaf alo ahi ar al ap an ac bek bes beg bec bkey bpg bleaf blo bhi br bl bp bn bc w (by decide) (by decide) hp ha hb W b h
  have hF2 := fun (W : World) (b : Nat) (h : Below w.heap.size w W) => fold_two pf plo phi pr pp pn pc pl 2 2 bek bes beg bec bkey bpg bleaf blo bhi br bl bp bn bc aek aes aeg aec akey apg aleaf alo ahi ar al ap an ac w (by decide) (by decide) hp hb ha W b h
  have hsw := fun hm hne => Dl.swap (g := ⟨pf, plo, phi, pr, pl⟩) hm (a := ⟨2, ⟨bek, bes, beg, bec⟩, bkey, bpg, ⟨bleaf, blo, bhi, br, bl⟩⟩) (b := ⟨2, ⟨aek, aes, aeg, aec⟩, akey, apg, ⟨aleaf, alo, ahi, ar, al⟩⟩) (.inr rfl) (.inr rfl) hne
  have hxl : (Dl.fo ⟨pf, plo, phi, pr, pl⟩ [⟨2, ⟨bek, bes, beg, bec⟩, bkey, bpg, ⟨bleaf, blo, bhi, br, bl⟩⟩, ⟨2, ⟨aek, aes, aeg, aec⟩, akey, apg, ⟨aleaf, alo, ahi, ar, al⟩⟩]).2 = 0 → (Dl.fo ⟨pf, plo, phi, pr, pl⟩ [⟨2, ⟨bek, bes, beg, bec⟩, bkey, bpg, ⟨bleaf, blo, bhi, br, bl⟩⟩, ⟨2, ⟨aek, aes, aeg, aec⟩, akey, apg, ⟨aleaf, alo, ahi, ar, al⟩⟩]).1.l.length ≤ 4398046511104 := fun h0 => by
    have hok := Dl.fo_ok _ _ h0
    have ra : al = [] := Dl.may_rt (hok.2 ⟨2, ⟨aek, aes, aeg, aec⟩, akey, apg, ⟨aleaf, alo, ahi, ar, al⟩⟩ (by simp)).1 (show (2 : Int) ≠ 4 by decide)
    have rb : bl = [] := Dl.may_rt (hok.2 ⟨2, ⟨bek, bes, beg, bec⟩, bkey, bpg, ⟨bleaf, blo, bhi, br, bl⟩⟩ (by simp)).1 (show (2 : Int) ≠ 4 by decide)
    rw [hok.1]
    show (entS (entS pl ⟨2, ⟨bek, bes, beg, bec⟩, bkey, bpg, ⟨bleaf, blo, bhi, br, bl⟩⟩) ⟨2, ⟨aek, aes, aeg, aec⟩, akey, apg, ⟨aleaf, alo, ahi, ar, al⟩⟩).length ≤ _
    have e1 := Dl.entS_le pl ⟨2, ⟨bek, bes, beg, bec⟩, bkey, bpg, ⟨bleaf, blo, bhi, br, bl⟩⟩
    have e2 := Dl.entS_le (entS pl ⟨2, ⟨bek, bes, beg, bec⟩, bkey, bpg, ⟨bleaf, blo, bhi, br, bl⟩⟩) ⟨2, ⟨aek, aes, aeg, aec⟩, akey, apg, ⟨aleaf, alo, ahi, ar, al⟩⟩
    have := hp.lenq
    simp only [ra, rb, List.length_nil] at e1 e2 ⊢
    omega
  generalize Dl.fo ⟨pf, plo, phi, pr, pl⟩ [⟨2, ⟨bek, bes, beg, bec⟩, bkey, bpg, ⟨bleaf, blo, bhi, br, bl⟩⟩, ⟨2, ⟨aek, aes, aeg, aec⟩, akey, apg, ⟨aleaf, alo, ahi, ar, al⟩⟩] = ox at hF1 hsw hxl
  generalize Dl.fo ⟨pf, plo, phi, pr, pl⟩ [⟨2, ⟨aek, aes, aeg, aec⟩, akey, apg, ⟨aleaf, alo, ahi, ar, al⟩⟩, ⟨2, ⟨bek, bes, beg, bec⟩, bkey, bpg, ⟨bleaf, blo, bhi, br, bl⟩⟩] = oy at hF2 hsw
  obtain ⟨⟨xf, xlo, xhi, xr, xl⟩, xe⟩ := ox
  obtain ⟨⟨yf, ylo, yhi, yr, yl⟩, ye⟩ := oy
  simp only at hF1 hF2 hsw hxl
  have HF1 : Hid (∀ (W : World) (b : Nat), Below w.heap.size w W → Bk W b 32 #[.int .i64 2, .string aek, .int .i64 aes, .int .i64 aeg, .int .i64 aec, .string akey, .int .i64 apg, .bool aleaf, .string alo, .string ahi, .int .i64 ar, .slice ap an ac, .int .i64 2, .string bek, .int .i64 bes, .int .i64 beg, .int .i64 bec, .string bkey, .int .i64 bpg, .bool bleaf, .string blo, .string bhi, .int .i64 br, .slice bp bn bc] → Calls Tryz.prog 11 #[pgv pf plo phi pr pp pn pc, .slice (some ⟨b, 0, none⟩) 2 2] W fun e w' => ∃ v, e = .returned (.tuple #[v, .int .i64 xe]) ∧ PgAt w' W.heap.size v ⟨xf, xlo, xhi, xr, xl⟩ ∧ Below W.heap.size W w') := hF1
  have HF2 : Hid (∀ (W : World) (b : Nat), Below w.heap.size w W → Bk W b 32 #[.int .i64 2, .string bek, .int .i64 bes, .int .i64 beg, .int .i64 bec, .string bkey, .int .i64 bpg, .bool bleaf, .string blo, .string bhi, .int .i64 br, .slice bp bn bc, .int .i64 2, .string aek, .int .i64 aes, .int .i64 aeg, .int .i64 aec, .string akey, .int .i64 apg, .bool aleaf, .string alo, .string ahi, .int .i64 ar, .slice ap an ac] → Calls Tryz.prog 11 #[pgv pf plo phi pr pp pn pc, .slice (some ⟨b, 0, none⟩) 2 2] W fun e w' => ∃ v, e = .returned (.tuple #[v, .int .i64 ye]) ∧ PgAt w' W.heap.size v ⟨yf, ylo, yhi, yr, yl⟩ ∧ Below W.heap.size W w') := hF2
  have HCK : Hid (∀ W, Below w.heap.size w W → Calls Tryz.prog 21 #[pgv pf plo phi pr pp pn pc] W fun e w' => e = .returned (.int .i64 (if Pg.may pf ⟨plo, phi⟩ pr pl then 0 else 70)) ∧ Below W.heap.size W w') := hC
  have HSW : Hid _ := hsw
  have HXL : Hid (xe = 0 → xl.length ≤ 4398046511104) := hxl
  clear hF1 hF2 hC hsw hxl hp ha hb hr1
  obtain ⟨w0, hw0⟩ : ∃ w0, ((w.alloc (.cells #[.bool pf, .string plo, .string phi, .int .i64 pr, .slice pp pn pc] 24)).alloc (.cells #[.int .i64 2, .string aek, .int .i64 aes, .int .i64 aeg, .int .i64 aec, .string akey, .int .i64 apg, .bool aleaf, .string alo, .string ahi, .int .i64 ar, .slice ap an ac] 32)).alloc (.cells #[.int .i64 2, .string bek, .int .i64 bes, .int .i64 beg, .int .i64 bec, .string bkey, .int .i64 bpg, .bool bleaf, .string blo, .string bhi, .int .i64 br, .slice bp bn bc] 32) = w0 := ⟨_, rfl⟩
  have HB0 : Hid (Below w.heap.size w w0) := by rw [← hw0]; exact (((Below.refl _ _).alloc (Nat.le_refl _) _).alloc (by simp) _).alloc (by simp; omega) _
  have HP0 : Hid (Bk w0 w.heap.size 24 #[.bool pf, .string plo, .string phi, .int .i64 pr, .slice pp pn pc]) := by rw [← hw0]; exact ((Bk.new _ _ _).alloc _).alloc _
  have HA0 : Hid (Bk w0 (w.heap.size + 1) 32 #[.int .i64 2, .string aek, .int .i64 aes, .int .i64 aeg, .int .i64 aec, .string akey, .int .i64 apg, .bool aleaf, .string alo, .string ahi, .int .i64 ar, .slice ap an ac]) := by rw [← hw0]; exact (Bk.new1 _ _ _ _).alloc _
  have HD0 : Hid (Bk w0 (w.heap.size + 1 + 1) 32 #[.int .i64 2, .string bek, .int .i64 bes, .int .i64 beg, .int .i64 bec, .string bkey, .int .i64 bpg, .bool bleaf, .string blo, .string bhi, .int .i64 br, .slice bp bn bc]) := by rw [← hw0]; exact Bk.new2 _ _ _ _ _
  go_enter Tryz.func5, Tryz.ntmps5
  have a0 : w0.cell? ⟨w.heap.size, 0, none⟩ = some (.bool pf) := HP0.out.cell 0
  have a1 : w0.cell? ⟨w.heap.size, 1, none⟩ = some (.string plo) := HP0.out.cell 1
  have a2 : w0.cell? ⟨w.heap.size, 2, none⟩ = some (.string phi) := HP0.out.cell 2
  have a3 : w0.cell? ⟨w.heap.size, 3, none⟩ = some (.int .i64 pr) := HP0.out.cell 3
  have a4 : w0.cell? ⟨w.heap.size, 4, none⟩ = some (.slice pp pn pc) := HP0.out.cell 4
  have y0 : w0.cell? ⟨w.heap.size + 1, 0, none⟩ = some (.int .i64 2) := HA0.out.cell 0
  have y1 : w0.cell? ⟨w.heap.size + 1, 1, none⟩ = some (.string aek) := HA0.out.cell 1
  have y2 : w0.cell? ⟨w.heap.size + 1, 2, none⟩ = some (.int .i64 aes) := HA0.out.cell 2
  have y3 : w0.cell? ⟨w.heap.size + 1, 3, none⟩ = some (.int .i64 aeg) := HA0.out.cell 3
  have y4 : w0.cell? ⟨w.heap.size + 1, 4, none⟩ = some (.int .i64 aec) := HA0.out.cell 4
  have y5 : w0.cell? ⟨w.heap.size + 1, 5, none⟩ = some (.string akey) := HA0.out.cell 5
  have y6 : w0.cell? ⟨w.heap.size + 1, 6, none⟩ = some (.int .i64 apg) := HA0.out.cell 6
  have y7 : w0.cell? ⟨w.heap.size + 1, 7, none⟩ = some (.bool aleaf) := HA0.out.cell 7
  have y8 : w0.cell? ⟨w.heap.size + 1, 8, none⟩ = some (.string alo) := HA0.out.cell 8
  have y9 : w0.cell? ⟨w.heap.size + 1, 9, none⟩ = some (.string ahi) := HA0.out.cell 9
  have y10 : w0.cell? ⟨w.heap.size + 1, 10, none⟩ = some (.int .i64 ar) := HA0.out.cell 10
  have y11 : w0.cell? ⟨w.heap.size + 1, 11, none⟩ = some (.slice ap an ac) := HA0.out.cell 11
  have z0 : w0.cell? ⟨w.heap.size + 1 + 1, 0, none⟩ = some (.int .i64 2) := HD0.out.cell 0
  have z1 : w0.cell? ⟨w.heap.size + 1 + 1, 1, none⟩ = some (.string bek) := HD0.out.cell 1
  have z2 : w0.cell? ⟨w.heap.size + 1 + 1, 2, none⟩ = some (.int .i64 bes) := HD0.out.cell 2
  have z3 : w0.cell? ⟨w.heap.size + 1 + 1, 3, none⟩ = some (.int .i64 beg) := HD0.out.cell 3
  have z4 : w0.cell? ⟨w.heap.size + 1 + 1, 4, none⟩ = some (.int .i64 bec) := HD0.out.cell 4
  have z5 : w0.cell? ⟨w.heap.size + 1 + 1, 5, none⟩ = some (.string bkey) := HD0.out.cell 5
  have z6 : w0.cell? ⟨w.heap.size + 1 + 1, 6, none⟩ = some (.int .i64 bpg) := HD0.out.cell 6
  have z7 : w0.cell? ⟨w.heap.size + 1 + 1, 7, none⟩ = some (.bool bleaf) := HD0.out.cell 7
  have z8 : w0.cell? ⟨w.heap.size + 1 + 1, 8, none⟩ = some (.string blo) := HD0.out.cell 8
  have z9 : w0.cell? ⟨w.heap.size + 1 + 1, 9, none⟩ = some (.string bhi) := HD0.out.cell 9
  have z10 : w0.cell? ⟨w.heap.size + 1 + 1, 10, none⟩ = some (.int .i64 br) := HD0.out.cell 10
  have z11 : w0.cell? ⟨w.heap.size + 1 + 1, 11, none⟩ = some (.slice bp bn bc) := HD0.out.cell 11
  have hc1 : ¬ (aek.size + akey.size > 9223372036854775807) := by omega
  have hc2 : ¬ (bek.size + bkey.size > 9223372036854775807) := by omega
  by_cases hcat : (aek.toList ++ akey.toList) = (bek.toList ++ bkey.toList)
  · have hq : ((aek ++ akey).toList == (bek ++ bkey).toList) = true := by rw [cat_list, cat_list, hcat]; simp
    clear HF1 HF2 HSW HXL HCK
    go_wp2_with fail
    refine (live_any _).mono ?_
    rintro e wl ⟨rfl, hbl⟩
    have hBl : Below w.heap.size w wl := HB0.out.trans (hbl.mono HB0.out.size)
    go_wp2
    go_ret
    exact ⟨rfl, hBl⟩
  · have hq : ((aek ++ akey).toList == (bek ++ bkey).toList) = false := by rw [cat_list, cat_list]; simpa using hcat
    go_wp2_with fail
    refine (HCK.out _ HB0.out).mono ?_
    rintro e w1 ⟨rfl, hb⟩
    clear hw0 hc1 hc2 hq sa1 sa2 sb1 sb2
    clear a0 a1 a2 a3 a4
    clear y0 y1 y2 y3 y4 y5 y6 y7 y8 y9 y10 y11
    clear z0 z1 z2 z3 z4 z5 z6 z7 z8 z9 z10 z11
    have HB1 : Hid (Below w.heap.size w w1) := HB0.out.trans (hb.mono HB0.out.size)
    have HP1 : Hid (Bk w1 w.heap.size 24 #[.bool pf, .string plo, .string phi, .int .i64 pr, .slice pp pn pc]) := HP0.out.below hb HP0.out.lt
    have HA1 : Hid (Bk w1 (w.heap.size + 1) 32 #[.int .i64 2, .string aek, .int .i64 aes, .int .i64 aeg, .int .i64 aec, .string akey, .int .i64 apg, .bool aleaf, .string alo, .string ahi, .int .i64 ar, .slice ap an ac]) := HA0.out.below hb HA0.out.lt
    have HD1 : Hid (Bk w1 (w.heap.size + 1 + 1) 32 #[.int .i64 2, .string bek, .int .i64 bes, .int .i64 beg, .int .i64 bec, .string bkey, .int .i64 bpg, .bool bleaf, .string blo, .string bhi, .int .i64 br, .slice bp bn bc]) := HD0.out.below hb HD0.out.lt
    clear hb HB0 HP0 HA0 HD0
    cases hm : Pg.may pf ⟨plo, phi⟩ pr pl with
    | false =>
      clear HF1 HF2 HSW HXL HCK
      simp only [Bool.false_eq_true, if_false]
      go_wp2_with fail
      refine (live_any _).mono ?_
      rintro e wl ⟨rfl, hbl⟩
      have hBl : Below w.heap.size w wl := HB1.out.trans (hbl.mono HB1.out.size)
      go_wp2
      go_ret
      exact ⟨rfl, hBl⟩
    | true =>
    have hsw2 := HSW.out hm (fun e => hcat e.symm)
    have HSV : Hid ((xe = 0 ↔ ye = 0) ∧ (xe = 0 → (⟨xf, xlo, xhi, xr, xl⟩ : Pp) = ⟨yf, ylo, yhi, yr, yl⟩)) := hsw2
    clear HSW hsw2 hm hcat HCK
    simp only [if_true]
    go_wp2_with fail
    refine (live_any _).mono ?_
    rintro e w2 ⟨rfl, hb⟩
    have HB2 : Hid (Below w.heap.size w w2) := HB1.out.trans (hb.mono HB1.out.size)
    have HP2 : Hid (Bk w2 w.heap.size 24 #[.bool pf, .string plo, .string phi, .int .i64 pr, .slice pp pn pc]) := HP1.out.below hb HP1.out.lt
    have HA2 : Hid (Bk w2 (w.heap.size + 1) 32 #[.int .i64 2, .string aek, .int .i64 aes, .int .i64 aeg, .int .i64 aec, .string akey, .int .i64 apg, .bool aleaf, .string alo, .string ahi, .int .i64 ar, .slice ap an ac]) := HA1.out.below hb HA1.out.lt
    have HD2 : Hid (Bk w2 (w.heap.size + 1 + 1) 32 #[.int .i64 2, .string bek, .int .i64 bes, .int .i64 beg, .int .i64 bec, .string bkey, .int .i64 bpg, .bool bleaf, .string blo, .string bhi, .int .i64 br, .slice bp bn bc]) := HD1.out.below hb HD1.out.lt
    clear hb HB1 HP1 HA1 HD1
    have HB3 : Hid (Below w.heap.size w (w2.alloc (.cells #[.int .i64 2, .string aek, .int .i64 aes, .int .i64 aeg, .int .i64 aec, .string akey, .int .i64 apg, .bool aleaf, .string alo, .string ahi, .int .i64 ar, .slice ap an ac, .int .i64 2, .string bek, .int .i64 bes, .int .i64 beg, .int .i64 bec, .string bkey, .int .i64 bpg, .bool bleaf, .string blo, .string bhi, .int .i64 br, .slice bp bn bc] 32))) := HB2.out.alloc HB2.out.size _
    have HP3 : Hid (Bk (w2.alloc (.cells #[.int .i64 2, .string aek, .int .i64 aes, .int .i64 aeg, .int .i64 aec, .string akey, .int .i64 apg, .bool aleaf, .string alo, .string ahi, .int .i64 ar, .slice ap an ac, .int .i64 2, .string bek, .int .i64 bes, .int .i64 beg, .int .i64 bec, .string bkey, .int .i64 bpg, .bool bleaf, .string blo, .string bhi, .int .i64 br, .slice bp bn bc] 32)) w.heap.size 24 #[.bool pf, .string plo, .string phi, .int .i64 pr, .slice pp pn pc]) := HP2.out.alloc _
    have HA3 : Hid (Bk (w2.alloc (.cells #[.int .i64 2, .string aek, .int .i64 aes, .int .i64 aeg, .int .i64 aec, .string akey, .int .i64 apg, .bool aleaf, .string alo, .string ahi, .int .i64 ar, .slice ap an ac, .int .i64 2, .string bek, .int .i64 bes, .int .i64 beg, .int .i64 bec, .string bkey, .int .i64 bpg, .bool bleaf, .string blo, .string bhi, .int .i64 br, .slice bp bn bc] 32)) (w.heap.size + 1) 32 #[.int .i64 2, .string aek, .int .i64 aes, .int .i64 aeg, .int .i64 aec, .string akey, .int .i64 apg, .bool aleaf, .string alo, .string ahi, .int .i64 ar, .slice ap an ac]) := HA2.out.alloc _
    have HD3 : Hid (Bk (w2.alloc (.cells #[.int .i64 2, .string aek, .int .i64 aes, .int .i64 aeg, .int .i64 aec, .string akey, .int .i64 apg, .bool aleaf, .string alo, .string ahi, .int .i64 ar, .slice ap an ac, .int .i64 2, .string bek, .int .i64 bes, .int .i64 beg, .int .i64 bec, .string bkey, .int .i64 bpg, .bool bleaf, .string blo, .string bhi, .int .i64 br, .slice bp bn bc] 32)) (w.heap.size + 1 + 1) 32 #[.int .i64 2, .string bek, .int .i64 bes, .int .i64 beg, .int .i64 bec, .string bkey, .int .i64 bpg, .bool bleaf, .string blo, .string bhi, .int .i64 br, .slice bp bn bc]) := HD2.out.alloc _
    have HL3 : Hid (Bk (w2.alloc (.cells #[.int .i64 2, .string aek, .int .i64 aes, .int .i64 aeg, .int .i64 aec, .string akey, .int .i64 apg, .bool aleaf, .string alo, .string ahi, .int .i64 ar, .slice ap an ac, .int .i64 2, .string bek, .int .i64 bes, .int .i64 beg, .int .i64 bec, .string bkey, .int .i64 bpg, .bool bleaf, .string blo, .string bhi, .int .i64 br, .slice bp bn bc] 32)) w2.heap.size 32 #[.int .i64 2, .string aek, .int .i64 aes, .int .i64 aeg, .int .i64 aec, .string akey, .int .i64 apg, .bool aleaf, .string alo, .string ahi, .int .i64 ar, .slice ap an ac, .int .i64 2, .string bek, .int .i64 bes, .int .i64 beg, .int .i64 bec, .string bkey, .int .i64 bpg, .bool bleaf, .string blo, .string bhi, .int .i64 br, .slice bp bn bc]) := Bk.new _ _ _
    have a0 : w2.cell? ⟨w.heap.size, 0, none⟩ = some (.bool pf) := HP2.out.cell 0
    have a1 : w2.cell? ⟨w.heap.size, 1, none⟩ = some (.string plo) := HP2.out.cell 1
    have a2 : w2.cell? ⟨w.heap.size, 2, none⟩ = some (.string phi) := HP2.out.cell 2
    have a3 : w2.cell? ⟨w.heap.size, 3, none⟩ = some (.int .i64 pr) := HP2.out.cell 3
    have a4 : w2.cell? ⟨w.heap.size, 4, none⟩ = some (.slice pp pn pc) := HP2.out.cell 4
    have y0 : w2.cell? ⟨w.heap.size + 1, 0, none⟩ = some (.int .i64 2) := HA2.out.cell 0
    have y1 : w2.cell? ⟨w.heap.size + 1, 1, none⟩ = some (.string aek) := HA2.out.cell 1
    have y2 : w2.cell? ⟨w.heap.size + 1, 2, none⟩ = some (.int .i64 aes) := HA2.out.cell 2
    have y3 : w2.cell? ⟨w.heap.size + 1, 3, none⟩ = some (.int .i64 aeg) := HA2.out.cell 3
    have y4 : w2.cell? ⟨w.heap.size + 1, 4, none⟩ = some (.int .i64 aec) := HA2.out.cell 4
    have y5 : w2.cell? ⟨w.heap.size + 1, 5, none⟩ = some (.string akey) := HA2.out.cell 5
    have y6 : w2.cell? ⟨w.heap.size + 1, 6, none⟩ = some (.int .i64 apg) := HA2.out.cell 6
    have y7 : w2.cell? ⟨w.heap.size + 1, 7, none⟩ = some (.bool aleaf) := HA2.out.cell 7
    have y8 : w2.cell? ⟨w.heap.size + 1, 8, none⟩ = some (.string alo) := HA2.out.cell 8
    have y9 : w2.cell? ⟨w.heap.size + 1, 9, none⟩ = some (.string ahi) := HA2.out.cell 9
    have y10 : w2.cell? ⟨w.heap.size + 1, 10, none⟩ = some (.int .i64 ar) := HA2.out.cell 10
    have y11 : w2.cell? ⟨w.heap.size + 1, 11, none⟩ = some (.slice ap an ac) := HA2.out.cell 11
    have z0 : w2.cell? ⟨w.heap.size + 1 + 1, 0, none⟩ = some (.int .i64 2) := HD2.out.cell 0
    have z1 : w2.cell? ⟨w.heap.size + 1 + 1, 1, none⟩ = some (.string bek) := HD2.out.cell 1
    have z2 : w2.cell? ⟨w.heap.size + 1 + 1, 2, none⟩ = some (.int .i64 bes) := HD2.out.cell 2
    have z3 : w2.cell? ⟨w.heap.size + 1 + 1, 3, none⟩ = some (.int .i64 beg) := HD2.out.cell 3
    have z4 : w2.cell? ⟨w.heap.size + 1 + 1, 4, none⟩ = some (.int .i64 bec) := HD2.out.cell 4
    have z5 : w2.cell? ⟨w.heap.size + 1 + 1, 5, none⟩ = some (.string bkey) := HD2.out.cell 5
    have z6 : w2.cell? ⟨w.heap.size + 1 + 1, 6, none⟩ = some (.int .i64 bpg) := HD2.out.cell 6
    have z7 : w2.cell? ⟨w.heap.size + 1 + 1, 7, none⟩ = some (.bool bleaf) := HD2.out.cell 7
    have z8 : w2.cell? ⟨w.heap.size + 1 + 1, 8, none⟩ = some (.string blo) := HD2.out.cell 8
    have z9 : w2.cell? ⟨w.heap.size + 1 + 1, 9, none⟩ = some (.string bhi) := HD2.out.cell 9
    have z10 : w2.cell? ⟨w.heap.size + 1 + 1, 10, none⟩ = some (.int .i64 br) := HD2.out.cell 10
    have z11 : w2.cell? ⟨w.heap.size + 1 + 1, 11, none⟩ = some (.slice bp bn bc) := HD2.out.cell 11
    go_wp2_with fail
    refine (HF1.out _ _ HB3.out HL3.out).mono ?_
    rintro e w4 ⟨v, rfl, hv, hb⟩
    clear a0 a1 a2 a3 a4
    clear y0 y1 y2 y3 y4 y5 y6 y7 y8 y9 y10 y11
    clear z0 z1 z2 z3 z4 z5 z6 z7 z8 z9 z10 z11
    clear HL3 HP2 HA2 HD2 HB2 HF1
    obtain ⟨xp, xc, rfl, hs⟩ := hv
    simp only
    obtain ⟨xn, HXN⟩ : ∃ xn, Hid (xl.length = xn) := ⟨_, rfl⟩
    rw [HXN.out]
    have HX4 : Hid (Ens w4 xp xl) := hs.ens
    clear hs
    have HB4 : Hid (Below w.heap.size w w4) := HB3.out.trans (hb.mono HB3.out.size)
    have HP4 : Hid (Bk w4 w.heap.size 24 #[.bool pf, .string plo, .string phi, .int .i64 pr, .slice pp pn pc]) := HP3.out.below hb HP3.out.lt
    have HA4 : Hid (Bk w4 (w.heap.size + 1) 32 #[.int .i64 2, .string aek, .int .i64 aes, .int .i64 aeg, .int .i64 aec, .string akey, .int .i64 apg, .bool aleaf, .string alo, .string ahi, .int .i64 ar, .slice ap an ac]) := HA3.out.below hb HA3.out.lt
    have HD4 : Hid (Bk w4 (w.heap.size + 1 + 1) 32 #[.int .i64 2, .string bek, .int .i64 bes, .int .i64 beg, .int .i64 bec, .string bkey, .int .i64 bpg, .bool bleaf, .string blo, .string bhi, .int .i64 br, .slice bp bn bc]) := HD3.out.below hb HD3.out.lt
    clear hb HB3 HP3 HA3 HD3
    obtain ⟨w5, hw5⟩ : ∃ w5, w5 = (w4.alloc (.cells #[.bool xf, .string xlo, .string xhi, .int .i64 xr, .slice xp xn xc] 24)) := ⟨_, rfl⟩
    have hbx : Below w4.heap.size w4 w5 := by rw [hw5]; exact (Below.refl _ _).alloc (Nat.le_refl _) _
    have HB5 : Hid (Below w.heap.size w w5) := HB4.out.trans (hbx.mono HB4.out.size)
    have HP5 : Hid (Bk w5 w.heap.size 24 #[.bool pf, .string plo, .string phi, .int .i64 pr, .slice pp pn pc]) := HP4.out.below hbx HP4.out.lt
    have HA5 : Hid (Bk w5 (w.heap.size + 1) 32 #[.int .i64 2, .string aek, .int .i64 aes, .int .i64 aeg, .int .i64 aec, .string akey, .int .i64 apg, .bool aleaf, .string alo, .string ahi, .int .i64 ar, .slice ap an ac]) := HA4.out.below hbx HA4.out.lt
    have HD5 : Hid (Bk w5 (w.heap.size + 1 + 1) 32 #[.int .i64 2, .string bek, .int .i64 bes, .int .i64 beg, .int .i64 bec, .string bkey, .int .i64 bpg, .bool bleaf, .string blo, .string bhi, .int .i64 br, .slice bp bn bc]) := HD4.out.below hbx HD4.out.lt
    have HXB5 : Hid (Bk w5 w4.heap.size 24 #[.bool xf, .string xlo, .string xhi, .int .i64 xr, .slice xp xn xc]) := by rw [hw5]; exact Bk.new _ _ _
    have HX5 : Hid (Ens w5 xp xl) := HX4.out.below hbx (Nat.le_refl _)
    have hnP : w.heap.size ≠ w4.heap.size := by have := HD4.out.lt; omega
    have hnA : w.heap.size + 1 ≠ w4.heap.size := by have := HD4.out.lt; omega
    have hnD : w.heap.size + 1 + 1 ≠ w4.heap.size := by have := HD4.out.lt; omega
    clear hbx
    have a0 : (w4.alloc (.cells #[.bool xf, .string xlo, .string xhi, .int .i64 xr, .slice xp xn xc] 24)).cell? ⟨w.heap.size, 0, none⟩ = some (.bool pf) := (HP4.out.alloc _).cell 0
    have a1 : (w4.alloc (.cells #[.bool xf, .string xlo, .string xhi, .int .i64 xr, .slice xp xn xc] 24)).cell? ⟨w.heap.size, 1, none⟩ = some (.string plo) := (HP4.out.alloc _).cell 1
    have a2 : (w4.alloc (.cells #[.bool xf, .string xlo, .string xhi, .int .i64 xr, .slice xp xn xc] 24)).cell? ⟨w.heap.size, 2, none⟩ = some (.string phi) := (HP4.out.alloc _).cell 2
    have a3 : (w4.alloc (.cells #[.bool xf, .string xlo, .string xhi, .int .i64 xr, .slice xp xn xc] 24)).cell? ⟨w.heap.size, 3, none⟩ = some (.int .i64 pr) := (HP4.out.alloc _).cell 3
    have a4 : (w4.alloc (.cells #[.bool xf, .string xlo, .string xhi, .int .i64 xr, .slice xp xn xc] 24)).cell? ⟨w.heap.size, 4, none⟩ = some (.slice pp pn pc) := (HP4.out.alloc _).cell 4
    have y0 : (w4.alloc (.cells #[.bool xf, .string xlo, .string xhi, .int .i64 xr, .slice xp xn xc] 24)).cell? ⟨w.heap.size + 1, 0, none⟩ = some (.int .i64 2) := (HA4.out.alloc _).cell 0
    have y1 : (w4.alloc (.cells #[.bool xf, .string xlo, .string xhi, .int .i64 xr, .slice xp xn xc] 24)).cell? ⟨w.heap.size + 1, 1, none⟩ = some (.string aek) := (HA4.out.alloc _).cell 1
    have y2 : (w4.alloc (.cells #[.bool xf, .string xlo, .string xhi, .int .i64 xr, .slice xp xn xc] 24)).cell? ⟨w.heap.size + 1, 2, none⟩ = some (.int .i64 aes) := (HA4.out.alloc _).cell 2
    have y3 : (w4.alloc (.cells #[.bool xf, .string xlo, .string xhi, .int .i64 xr, .slice xp xn xc] 24)).cell? ⟨w.heap.size + 1, 3, none⟩ = some (.int .i64 aeg) := (HA4.out.alloc _).cell 3
    have y4 : (w4.alloc (.cells #[.bool xf, .string xlo, .string xhi, .int .i64 xr, .slice xp xn xc] 24)).cell? ⟨w.heap.size + 1, 4, none⟩ = some (.int .i64 aec) := (HA4.out.alloc _).cell 4
    have y5 : (w4.alloc (.cells #[.bool xf, .string xlo, .string xhi, .int .i64 xr, .slice xp xn xc] 24)).cell? ⟨w.heap.size + 1, 5, none⟩ = some (.string akey) := (HA4.out.alloc _).cell 5
    have y6 : (w4.alloc (.cells #[.bool xf, .string xlo, .string xhi, .int .i64 xr, .slice xp xn xc] 24)).cell? ⟨w.heap.size + 1, 6, none⟩ = some (.int .i64 apg) := (HA4.out.alloc _).cell 6
    have y7 : (w4.alloc (.cells #[.bool xf, .string xlo, .string xhi, .int .i64 xr, .slice xp xn xc] 24)).cell? ⟨w.heap.size + 1, 7, none⟩ = some (.bool aleaf) := (HA4.out.alloc _).cell 7
    have y8 : (w4.alloc (.cells #[.bool xf, .string xlo, .string xhi, .int .i64 xr, .slice xp xn xc] 24)).cell? ⟨w.heap.size + 1, 8, none⟩ = some (.string alo) := (HA4.out.alloc _).cell 8
    have y9 : (w4.alloc (.cells #[.bool xf, .string xlo, .string xhi, .int .i64 xr, .slice xp xn xc] 24)).cell? ⟨w.heap.size + 1, 9, none⟩ = some (.string ahi) := (HA4.out.alloc _).cell 9
    have y10 : (w4.alloc (.cells #[.bool xf, .string xlo, .string xhi, .int .i64 xr, .slice xp xn xc] 24)).cell? ⟨w.heap.size + 1, 10, none⟩ = some (.int .i64 ar) := (HA4.out.alloc _).cell 10
    have y11 : (w4.alloc (.cells #[.bool xf, .string xlo, .string xhi, .int .i64 xr, .slice xp xn xc] 24)).cell? ⟨w.heap.size + 1, 11, none⟩ = some (.slice ap an ac) := (HA4.out.alloc _).cell 11
    have z0 : (w4.alloc (.cells #[.bool xf, .string xlo, .string xhi, .int .i64 xr, .slice xp xn xc] 24)).cell? ⟨w.heap.size + 1 + 1, 0, none⟩ = some (.int .i64 2) := (HD4.out.alloc _).cell 0
    have z1 : (w4.alloc (.cells #[.bool xf, .string xlo, .string xhi, .int .i64 xr, .slice xp xn xc] 24)).cell? ⟨w.heap.size + 1 + 1, 1, none⟩ = some (.string bek) := (HD4.out.alloc _).cell 1
    have z2 : (w4.alloc (.cells #[.bool xf, .string xlo, .string xhi, .int .i64 xr, .slice xp xn xc] 24)).cell? ⟨w.heap.size + 1 + 1, 2, none⟩ = some (.int .i64 bes) := (HD4.out.alloc _).cell 2
    have z3 : (w4.alloc (.cells #[.bool xf, .string xlo, .string xhi, .int .i64 xr, .slice xp xn xc] 24)).cell? ⟨w.heap.size + 1 + 1, 3, none⟩ = some (.int .i64 beg) := (HD4.out.alloc _).cell 3
    have z4 : (w4.alloc (.cells #[.bool xf, .string xlo, .string xhi, .int .i64 xr, .slice xp xn xc] 24)).cell? ⟨w.heap.size + 1 + 1, 4, none⟩ = some (.int .i64 bec) := (HD4.out.alloc _).cell 4
    have z5 : (w4.alloc (.cells #[.bool xf, .string xlo, .string xhi, .int .i64 xr, .slice xp xn xc] 24)).cell? ⟨w.heap.size + 1 + 1, 5, none⟩ = some (.string bkey) := (HD4.out.alloc _).cell 5
    have z6 : (w4.alloc (.cells #[.bool xf, .string xlo, .string xhi, .int .i64 xr, .slice xp xn xc] 24)).cell? ⟨w.heap.size + 1 + 1, 6, none⟩ = some (.int .i64 bpg) := (HD4.out.alloc _).cell 6
    have z7 : (w4.alloc (.cells #[.bool xf, .string xlo, .string xhi, .int .i64 xr, .slice xp xn xc] 24)).cell? ⟨w.heap.size + 1 + 1, 7, none⟩ = some (.bool bleaf) := (HD4.out.alloc _).cell 7
    have z8 : (w4.alloc (.cells #[.bool xf, .string xlo, .string xhi, .int .i64 xr, .slice xp xn xc] 24)).cell? ⟨w.heap.size + 1 + 1, 8, none⟩ = some (.string blo) := (HD4.out.alloc _).cell 8
    have z9 : (w4.alloc (.cells #[.bool xf, .string xlo, .string xhi, .int .i64 xr, .slice xp xn xc] 24)).cell? ⟨w.heap.size + 1 + 1, 9, none⟩ = some (.string bhi) := (HD4.out.alloc _).cell 9
    have z10 : (w4.alloc (.cells #[.bool xf, .string xlo, .string xhi, .int .i64 xr, .slice xp xn xc] 24)).cell? ⟨w.heap.size + 1 + 1, 10, none⟩ = some (.int .i64 br) := (HD4.out.alloc _).cell 10
    have z11 : (w4.alloc (.cells #[.bool xf, .string xlo, .string xhi, .int .i64 xr, .slice xp xn xc] 24)).cell? ⟨w.heap.size + 1 + 1, 11, none⟩ = some (.slice bp bn bc) := (HD4.out.alloc _).cell 11
    go_wp2_with fail
    rw [← hw5]
    have HB6 : Hid (Below w.heap.size w (w5.alloc (.cells #[.int .i64 2, .string bek, .int .i64 bes, .int .i64 beg, .int .i64 bec, .string bkey, .int .i64 bpg, .bool bleaf, .string blo, .string bhi, .int .i64 br, .slice bp bn bc, .int .i64 2, .string aek, .int .i64 aes, .int .i64 aeg, .int .i64 aec, .string akey, .int .i64 apg, .bool aleaf, .string alo, .string ahi, .int .i64 ar, .slice ap an ac] 32))) := HB5.out.alloc HB5.out.size _
    have HL6 : Hid (Bk (w5.alloc (.cells #[.int .i64 2, .string bek, .int .i64 bes, .int .i64 beg, .int .i64 bec, .string bkey, .int .i64 bpg, .bool bleaf, .string blo, .string bhi, .int .i64 br, .slice bp bn bc, .int .i64 2, .string aek, .int .i64 aes, .int .i64 aeg, .int .i64 aec, .string akey, .int .i64 apg, .bool aleaf, .string alo, .string ahi, .int .i64 ar, .slice ap an ac] 32)) w5.heap.size 32 #[.int .i64 2, .string bek, .int .i64 bes, .int .i64 beg, .int .i64 bec, .string bkey, .int .i64 bpg, .bool bleaf, .string blo, .string bhi, .int .i64 br, .slice bp bn bc, .int .i64 2, .string aek, .int .i64 aes, .int .i64 aeg, .int .i64 aec, .string akey, .int .i64 apg, .bool aleaf, .string alo, .string ahi, .int .i64 ar, .slice ap an ac]) := Bk.new _ _ _
    have HX6 : Hid (Ens (w5.alloc (.cells #[.int .i64 2, .string bek, .int .i64 bes, .int .i64 beg, .int .i64 bec, .string bkey, .int .i64 bpg, .bool bleaf, .string blo, .string bhi, .int .i64 br, .slice bp bn bc, .int .i64 2, .string aek, .int .i64 aes, .int .i64 aeg, .int .i64 aec, .string akey, .int .i64 apg, .bool aleaf, .string alo, .string ahi, .int .i64 ar, .slice ap an ac] 32)) xp xl) := HX5.out.below ((Below.refl _ _).alloc (Nat.le_refl _) _) (Nat.le_refl _)
    have HXB6 : Hid (Bk (w5.alloc (.cells #[.int .i64 2, .string bek, .int .i64 bes, .int .i64 beg, .int .i64 bec, .string bkey, .int .i64 bpg, .bool bleaf, .string blo, .string bhi, .int .i64 br, .slice bp bn bc, .int .i64 2, .string aek, .int .i64 aes, .int .i64 aeg, .int .i64 aec, .string akey, .int .i64 apg, .bool aleaf, .string alo, .string ahi, .int .i64 ar, .slice ap an ac] 32)) w4.heap.size 24 #[.bool xf, .string xlo, .string xhi, .int .i64 xr, .slice xp xn xc]) := HXB5.out.alloc _
    have hs5 : w5.heap.size = w4.heap.size + 1 := by rw [hw5]; simp
    first | rw [← hs5] | skip
    refine (HF2.out _ _ HB6.out HL6.out).mono ?_
    rintro e w7 ⟨v, rfl, hv, hb⟩
    clear a0 a1 a2 a3 a4
    clear y0 y1 y2 y3 y4 y5 y6 y7 y8 y9 y10 y11
    clear z0 z1 z2 z3 z4 z5 z6 z7 z8 z9 z10 z11
    clear hw5 hs5 hnP hnA hnD
    obtain ⟨yp, yc, rfl, hs⟩ := hv
    simp only
    obtain ⟨yn, HYN⟩ : ∃ yn, Hid (yl.length = yn) := ⟨_, rfl⟩
    rw [HYN.out]
    have HY7 : Hid (Ens w7 yp yl) := hs.ens
    have HX7 : Hid (Ens w7 xp xl) := HX6.out.below hb (Nat.le_refl _)
    have HB7 : Hid (Below w.heap.size w w7) := HB6.out.trans (hb.mono HB6.out.size)
    have HXB7 : Hid (Bk w7 w4.heap.size 24 #[.bool xf, .string xlo, .string xhi, .int .i64 xr, .slice xp xn xc]) := HXB6.out.below hb HXB6.out.lt
    clear hs hb HL6 HX6 HB6 HXB6 HF2
    have HB8 : Hid (Below w.heap.size w (w7.alloc (.cells #[.bool yf, .string ylo, .string yhi, .int .i64 yr, .slice yp yn yc] 24))) := HB7.out.alloc HB7.out.size _
    have HXB8 : Hid (Bk (w7.alloc (.cells #[.bool yf, .string ylo, .string yhi, .int .i64 yr, .slice yp yn yc] 24)) w4.heap.size 24 #[.bool xf, .string xlo, .string xhi, .int .i64 xr, .slice xp xn xc]) := HXB7.out.alloc _
    have HYB8 : Hid (Bk (w7.alloc (.cells #[.bool yf, .string ylo, .string yhi, .int .i64 yr, .slice yp yn yc] 24)) w7.heap.size 24 #[.bool yf, .string ylo, .string yhi, .int .i64 yr, .slice yp yn yc]) := Bk.new _ _ _
    have HX8 : Hid (Ens (w7.alloc (.cells #[.bool yf, .string ylo, .string yhi, .int .i64 yr, .slice yp yn yc] 24)) xp xl) := HX7.out.below ((Below.refl _ _).alloc (Nat.le_refl _) _) (Nat.le_refl _)
    have HY8 : Hid (Ens (w7.alloc (.cells #[.bool yf, .string ylo, .string yhi, .int .i64 yr, .slice yp yn yc] 24)) yp yl) := HY7.out.below ((Below.refl _ _).alloc (Nat.le_refl _) _) (Nat.le_refl _)
    have hn8 : w4.heap.size ≠ w7.heap.size := by have := HXB7.out.lt; omega
    have a0 : (w7.alloc (.cells #[.bool yf, .string ylo, .string yhi, .int .i64 yr, .slice yp yn yc] 24)).cell? ⟨w4.heap.size, 0, none⟩ = some (.bool xf) := HXB8.out.cell 0
    have a1 : (w7.alloc (.cells #[.bool yf, .string ylo, .string yhi, .int .i64 yr, .slice yp yn yc] 24)).cell? ⟨w4.heap.size, 1, none⟩ = some (.string xlo) := HXB8.out.cell 1
    have a2 : (w7.alloc (.cells #[.bool yf, .string ylo, .string yhi, .int .i64 yr, .slice yp yn yc] 24)).cell? ⟨w4.heap.size, 2, none⟩ = some (.string xhi) := HXB8.out.cell 2
    have a3 : (w7.alloc (.cells #[.bool yf, .string ylo, .string yhi, .int .i64 yr, .slice yp yn yc] 24)).cell? ⟨w4.heap.size, 3, none⟩ = some (.int .i64 xr) := HXB8.out.cell 3
    have a4 : (w7.alloc (.cells #[.bool yf, .string ylo, .string yhi, .int .i64 yr, .slice yp yn yc] 24)).cell? ⟨w4.heap.size, 4, none⟩ = some (.slice xp xn xc) := HXB8.out.cell 4
    have y0 : (w7.alloc (.cells #[.bool yf, .string ylo, .string yhi, .int .i64 yr, .slice yp yn yc] 24)).cell? ⟨w7.heap.size, 0, none⟩ = some (.bool yf) := HYB8.out.cell 0
    have y1 : (w7.alloc (.cells #[.bool yf, .string ylo, .string yhi, .int .i64 yr, .slice yp yn yc] 24)).cell? ⟨w7.heap.size, 1, none⟩ = some (.string ylo) := HYB8.out.cell 1
    have y2 : (w7.alloc (.cells #[.bool yf, .string ylo, .string yhi, .int .i64 yr, .slice yp yn yc] 24)).cell? ⟨w7.heap.size, 2, none⟩ = some (.string yhi) := HYB8.out.cell 2
    have y3 : (w7.alloc (.cells #[.bool yf, .string ylo, .string yhi, .int .i64 yr, .slice yp yn yc] 24)).cell? ⟨w7.heap.size, 3, none⟩ = some (.int .i64 yr) := HYB8.out.cell 3
    have y4 : (w7.alloc (.cells #[.bool yf, .string ylo, .string yhi, .int .i64 yr, .slice yp yn yc] 24)).cell? ⟨w7.heap.size, 4, none⟩ = some (.slice yp yn yc) := HYB8.out.cell 4
    by_cases he : xe = 0
    · have hye : ye = 0 := HSV.out.1.1 he
      have HQ : Hid ((⟨xf, xlo, xhi, xr, xl⟩ : Pp) = ⟨yf, ylo, yhi, yr, yl⟩) := HSV.out.2 he
      have HLX : Hid (xn ≤ 4398046511104) := by have := HXL.out he; rw [HXN.out] at this; exact this
      clear HSV HXL
      subst he hye
      go_wp2_with fail
      refine (rsame_any ⟨xf, xlo, xhi, xr, xl⟩ ⟨yf, ylo, yhi, yr, yl⟩ xp yp xn yn xc yc _ HXN.out HYN.out HX8.out HY8.out HLX.out).mono ?_
      rw [← HQ.out, Pg.same_self]
      rintro e w9 ⟨rfl, hb⟩
      have hB9 : Below w.heap.size w w9 := HB8.out.trans (hb.mono HB8.out.size)
      clear a0 a1 a2 a3 a4
      clear y0 y1 y2 y3 y4
      go_wp2
      go_ret
      exact ⟨rfl, hB9⟩
    · have hye : ye ≠ 0 := fun h => he (HSV.out.1.2 h)
      clear HSV HXL
      have h1 : (xe != 0) = true := by simpa using he
      have h2 : (ye != 0) = true := by simpa using hye
      go_wp2
      go_ret
      exact ⟨rfl, HB8.out⟩

set_option maxHeartbeats 16000000 in
theorem walkd_deltaSwaps_n (pf : Bool) (plo phi : ByteArray) (pr : Int) (pp : Option Addr) (pn pc : Nat) (pl : List En) (ka kb : Int) (aek : ByteArray) (aes aeg aec : Int) (akey : ByteArray) (apg : Int) (aleaf : Bool) (alo ahi : ByteArray) (ar : Int) (al : List En) (ap : Option Addr) (an ac : Nat) (bek : ByteArray) (bes beg bec : Int) (bkey : ByteArray) (bpg : Int) (bleaf : Bool) (blo bhi : ByteArray) (br : Int) (bl : List En) (bp : Option Addr) (bn bc : Nat) (w : World) (h1 : (ka != 1) = true) (h2 : (ka != 2) = true) :
    Calls Tryz.prog 5 #[.agg #[.bool pf, .string plo, .string phi, .int .i64 pr, .slice pp pn pc], .agg #[.int .i64 ka, .string aek, .int .i64 aes, .int .i64 aeg, .int .i64 aec, .string akey, .int .i64 apg, .bool aleaf, .string alo, .string ahi, .int .i64 ar, .slice ap an ac], .agg #[.int .i64 kb, .string bek, .int .i64 bes, .int .i64 beg, .int .i64 bec, .string bkey, .int .i64 bpg, .bool bleaf, .string blo, .string bhi, .int .i64 br, .slice bp bn bc]] w fun e w' => e = .returned (.bool true) ∧ Below w.heap.size w w' := by
  obtain ⟨w0, hw0⟩ : ∃ w0, ((w.alloc (.cells #[.bool pf, .string plo, .string phi, .int .i64 pr, .slice pp pn pc] 24)).alloc (.cells #[.int .i64 ka, .string aek, .int .i64 aes, .int .i64 aeg, .int .i64 aec, .string akey, .int .i64 apg, .bool aleaf, .string alo, .string ahi, .int .i64 ar, .slice ap an ac] 32)).alloc (.cells #[.int .i64 kb, .string bek, .int .i64 bes, .int .i64 beg, .int .i64 bec, .string bkey, .int .i64 bpg, .bool bleaf, .string blo, .string bhi, .int .i64 br, .slice bp bn bc] 32) = w0 := ⟨_, rfl⟩
  have HB0 : Hid (Below w.heap.size w w0) := by rw [← hw0]; exact (((Below.refl _ _).alloc (Nat.le_refl _) _).alloc (by simp) _).alloc (by simp; omega) _
  have HP0 : Hid (Bk w0 w.heap.size 24 #[.bool pf, .string plo, .string phi, .int .i64 pr, .slice pp pn pc]) := by rw [← hw0]; exact ((Bk.new _ _ _).alloc _).alloc _
  have HA0 : Hid (Bk w0 (w.heap.size + 1) 32 #[.int .i64 ka, .string aek, .int .i64 aes, .int .i64 aeg, .int .i64 aec, .string akey, .int .i64 apg, .bool aleaf, .string alo, .string ahi, .int .i64 ar, .slice ap an ac]) := by rw [← hw0]; exact (Bk.new1 _ _ _ _).alloc _
  have HD0 : Hid (Bk w0 (w.heap.size + 1 + 1) 32 #[.int .i64 kb, .string bek, .int .i64 bes, .int .i64 beg, .int .i64 bec, .string bkey, .int .i64 bpg, .bool bleaf, .string blo, .string bhi, .int .i64 br, .slice bp bn bc]) := by rw [← hw0]; exact Bk.new2 _ _ _ _ _
  go_enter Tryz.func5, Tryz.ntmps5
  have y0 : w0.cell? ⟨w.heap.size + 1, 0, none⟩ = some (.int .i64 ka) := HA0.out.cell 0
  have y1 : w0.cell? ⟨w.heap.size + 1, 1, none⟩ = some (.string aek) := HA0.out.cell 1
  have y2 : w0.cell? ⟨w.heap.size + 1, 2, none⟩ = some (.int .i64 aes) := HA0.out.cell 2
  have y3 : w0.cell? ⟨w.heap.size + 1, 3, none⟩ = some (.int .i64 aeg) := HA0.out.cell 3
  have y4 : w0.cell? ⟨w.heap.size + 1, 4, none⟩ = some (.int .i64 aec) := HA0.out.cell 4
  have y5 : w0.cell? ⟨w.heap.size + 1, 5, none⟩ = some (.string akey) := HA0.out.cell 5
  have y6 : w0.cell? ⟨w.heap.size + 1, 6, none⟩ = some (.int .i64 apg) := HA0.out.cell 6
  have y7 : w0.cell? ⟨w.heap.size + 1, 7, none⟩ = some (.bool aleaf) := HA0.out.cell 7
  have y8 : w0.cell? ⟨w.heap.size + 1, 8, none⟩ = some (.string alo) := HA0.out.cell 8
  have y9 : w0.cell? ⟨w.heap.size + 1, 9, none⟩ = some (.string ahi) := HA0.out.cell 9
  have y10 : w0.cell? ⟨w.heap.size + 1, 10, none⟩ = some (.int .i64 ar) := HA0.out.cell 10
  have y11 : w0.cell? ⟨w.heap.size + 1, 11, none⟩ = some (.slice ap an ac) := HA0.out.cell 11
  have z0 : w0.cell? ⟨w.heap.size + 1 + 1, 0, none⟩ = some (.int .i64 kb) := HD0.out.cell 0
  have z1 : w0.cell? ⟨w.heap.size + 1 + 1, 1, none⟩ = some (.string bek) := HD0.out.cell 1
  have z2 : w0.cell? ⟨w.heap.size + 1 + 1, 2, none⟩ = some (.int .i64 bes) := HD0.out.cell 2
  have z3 : w0.cell? ⟨w.heap.size + 1 + 1, 3, none⟩ = some (.int .i64 beg) := HD0.out.cell 3
  have z4 : w0.cell? ⟨w.heap.size + 1 + 1, 4, none⟩ = some (.int .i64 bec) := HD0.out.cell 4
  have z5 : w0.cell? ⟨w.heap.size + 1 + 1, 5, none⟩ = some (.string bkey) := HD0.out.cell 5
  have z6 : w0.cell? ⟨w.heap.size + 1 + 1, 6, none⟩ = some (.int .i64 bpg) := HD0.out.cell 6
  have z7 : w0.cell? ⟨w.heap.size + 1 + 1, 7, none⟩ = some (.bool bleaf) := HD0.out.cell 7
  have z8 : w0.cell? ⟨w.heap.size + 1 + 1, 8, none⟩ = some (.string blo) := HD0.out.cell 8
  have z9 : w0.cell? ⟨w.heap.size + 1 + 1, 9, none⟩ = some (.string bhi) := HD0.out.cell 9
  have z10 : w0.cell? ⟨w.heap.size + 1 + 1, 10, none⟩ = some (.int .i64 br) := HD0.out.cell 10
  have z11 : w0.cell? ⟨w.heap.size + 1 + 1, 11, none⟩ = some (.slice bp bn bc) := HD0.out.cell 11
  go_wp2_with fail
  refine (live_any _).mono ?_
  rintro e wl ⟨rfl, hbl⟩
  have hBl : Below w.heap.size w wl := HB0.out.trans (hbl.mono HB0.out.size)
  go_wp2
  go_ret
  exact ⟨rfl, hBl⟩

set_option maxHeartbeats 16000000 in
theorem walkd_deltaSwaps_1n (pf : Bool) (plo phi : ByteArray) (pr : Int) (pp : Option Addr) (pn pc : Nat) (pl : List En) (kb : Int) (aek : ByteArray) (aes aeg aec : Int) (akey : ByteArray) (apg : Int) (aleaf : Bool) (alo ahi : ByteArray) (ar : Int) (al : List En) (ap : Option Addr) (an ac : Nat) (bek : ByteArray) (bes beg bec : Int) (bkey : ByteArray) (bpg : Int) (bleaf : Bool) (blo bhi : ByteArray) (br : Int) (bl : List En) (bp : Option Addr) (bn bc : Nat) (w : World) (h1 : (kb != 1) = true) (h2 : (kb != 2) = true) :
    Calls Tryz.prog 5 #[.agg #[.bool pf, .string plo, .string phi, .int .i64 pr, .slice pp pn pc], .agg #[.int .i64 1, .string aek, .int .i64 aes, .int .i64 aeg, .int .i64 aec, .string akey, .int .i64 apg, .bool aleaf, .string alo, .string ahi, .int .i64 ar, .slice ap an ac], .agg #[.int .i64 kb, .string bek, .int .i64 bes, .int .i64 beg, .int .i64 bec, .string bkey, .int .i64 bpg, .bool bleaf, .string blo, .string bhi, .int .i64 br, .slice bp bn bc]] w fun e w' => e = .returned (.bool true) ∧ Below w.heap.size w w' := by
  obtain ⟨w0, hw0⟩ : ∃ w0, ((w.alloc (.cells #[.bool pf, .string plo, .string phi, .int .i64 pr, .slice pp pn pc] 24)).alloc (.cells #[.int .i64 1, .string aek, .int .i64 aes, .int .i64 aeg, .int .i64 aec, .string akey, .int .i64 apg, .bool aleaf, .string alo, .string ahi, .int .i64 ar, .slice ap an ac] 32)).alloc (.cells #[.int .i64 kb, .string bek, .int .i64 bes, .int .i64 beg, .int .i64 bec, .string bkey, .int .i64 bpg, .bool bleaf, .string blo, .string bhi, .int .i64 br, .slice bp bn bc] 32) = w0 := ⟨_, rfl⟩
  have HB0 : Hid (Below w.heap.size w w0) := by rw [← hw0]; exact (((Below.refl _ _).alloc (Nat.le_refl _) _).alloc (by simp) _).alloc (by simp; omega) _
  have HP0 : Hid (Bk w0 w.heap.size 24 #[.bool pf, .string plo, .string phi, .int .i64 pr, .slice pp pn pc]) := by rw [← hw0]; exact ((Bk.new _ _ _).alloc _).alloc _
  have HA0 : Hid (Bk w0 (w.heap.size + 1) 32 #[.int .i64 1, .string aek, .int .i64 aes, .int .i64 aeg, .int .i64 aec, .string akey, .int .i64 apg, .bool aleaf, .string alo, .string ahi, .int .i64 ar, .slice ap an ac]) := by rw [← hw0]; exact (Bk.new1 _ _ _ _).alloc _
  have HD0 : Hid (Bk w0 (w.heap.size + 1 + 1) 32 #[.int .i64 kb, .string bek, .int .i64 bes, .int .i64 beg, .int .i64 bec, .string bkey, .int .i64 bpg, .bool bleaf, .string blo, .string bhi, .int .i64 br, .slice bp bn bc]) := by rw [← hw0]; exact Bk.new2 _ _ _ _ _
  go_enter Tryz.func5, Tryz.ntmps5
  have y0 : w0.cell? ⟨w.heap.size + 1, 0, none⟩ = some (.int .i64 1) := HA0.out.cell 0
  have y1 : w0.cell? ⟨w.heap.size + 1, 1, none⟩ = some (.string aek) := HA0.out.cell 1
  have y2 : w0.cell? ⟨w.heap.size + 1, 2, none⟩ = some (.int .i64 aes) := HA0.out.cell 2
  have y3 : w0.cell? ⟨w.heap.size + 1, 3, none⟩ = some (.int .i64 aeg) := HA0.out.cell 3
  have y4 : w0.cell? ⟨w.heap.size + 1, 4, none⟩ = some (.int .i64 aec) := HA0.out.cell 4
  have y5 : w0.cell? ⟨w.heap.size + 1, 5, none⟩ = some (.string akey) := HA0.out.cell 5
  have y6 : w0.cell? ⟨w.heap.size + 1, 6, none⟩ = some (.int .i64 apg) := HA0.out.cell 6
  have y7 : w0.cell? ⟨w.heap.size + 1, 7, none⟩ = some (.bool aleaf) := HA0.out.cell 7
  have y8 : w0.cell? ⟨w.heap.size + 1, 8, none⟩ = some (.string alo) := HA0.out.cell 8
  have y9 : w0.cell? ⟨w.heap.size + 1, 9, none⟩ = some (.string ahi) := HA0.out.cell 9
  have y10 : w0.cell? ⟨w.heap.size + 1, 10, none⟩ = some (.int .i64 ar) := HA0.out.cell 10
  have y11 : w0.cell? ⟨w.heap.size + 1, 11, none⟩ = some (.slice ap an ac) := HA0.out.cell 11
  have z0 : w0.cell? ⟨w.heap.size + 1 + 1, 0, none⟩ = some (.int .i64 kb) := HD0.out.cell 0
  have z1 : w0.cell? ⟨w.heap.size + 1 + 1, 1, none⟩ = some (.string bek) := HD0.out.cell 1
  have z2 : w0.cell? ⟨w.heap.size + 1 + 1, 2, none⟩ = some (.int .i64 bes) := HD0.out.cell 2
  have z3 : w0.cell? ⟨w.heap.size + 1 + 1, 3, none⟩ = some (.int .i64 beg) := HD0.out.cell 3
  have z4 : w0.cell? ⟨w.heap.size + 1 + 1, 4, none⟩ = some (.int .i64 bec) := HD0.out.cell 4
  have z5 : w0.cell? ⟨w.heap.size + 1 + 1, 5, none⟩ = some (.string bkey) := HD0.out.cell 5
  have z6 : w0.cell? ⟨w.heap.size + 1 + 1, 6, none⟩ = some (.int .i64 bpg) := HD0.out.cell 6
  have z7 : w0.cell? ⟨w.heap.size + 1 + 1, 7, none⟩ = some (.bool bleaf) := HD0.out.cell 7
  have z8 : w0.cell? ⟨w.heap.size + 1 + 1, 8, none⟩ = some (.string blo) := HD0.out.cell 8
  have z9 : w0.cell? ⟨w.heap.size + 1 + 1, 9, none⟩ = some (.string bhi) := HD0.out.cell 9
  have z10 : w0.cell? ⟨w.heap.size + 1 + 1, 10, none⟩ = some (.int .i64 br) := HD0.out.cell 10
  have z11 : w0.cell? ⟨w.heap.size + 1 + 1, 11, none⟩ = some (.slice bp bn bc) := HD0.out.cell 11
  go_wp2_with fail
  refine (live_any _).mono ?_
  rintro e wl ⟨rfl, hbl⟩
  have hBl : Below w.heap.size w wl := HB0.out.trans (hbl.mono HB0.out.size)
  go_wp2
  go_ret
  exact ⟨rfl, hBl⟩

set_option maxHeartbeats 16000000 in
theorem walkd_deltaSwaps_2n (pf : Bool) (plo phi : ByteArray) (pr : Int) (pp : Option Addr) (pn pc : Nat) (pl : List En) (kb : Int) (aek : ByteArray) (aes aeg aec : Int) (akey : ByteArray) (apg : Int) (aleaf : Bool) (alo ahi : ByteArray) (ar : Int) (al : List En) (ap : Option Addr) (an ac : Nat) (bek : ByteArray) (bes beg bec : Int) (bkey : ByteArray) (bpg : Int) (bleaf : Bool) (blo bhi : ByteArray) (br : Int) (bl : List En) (bp : Option Addr) (bn bc : Nat) (w : World) (h1 : (kb != 1) = true) (h2 : (kb != 2) = true) :
    Calls Tryz.prog 5 #[.agg #[.bool pf, .string plo, .string phi, .int .i64 pr, .slice pp pn pc], .agg #[.int .i64 2, .string aek, .int .i64 aes, .int .i64 aeg, .int .i64 aec, .string akey, .int .i64 apg, .bool aleaf, .string alo, .string ahi, .int .i64 ar, .slice ap an ac], .agg #[.int .i64 kb, .string bek, .int .i64 bes, .int .i64 beg, .int .i64 bec, .string bkey, .int .i64 bpg, .bool bleaf, .string blo, .string bhi, .int .i64 br, .slice bp bn bc]] w fun e w' => e = .returned (.bool true) ∧ Below w.heap.size w w' := by
  obtain ⟨w0, hw0⟩ : ∃ w0, ((w.alloc (.cells #[.bool pf, .string plo, .string phi, .int .i64 pr, .slice pp pn pc] 24)).alloc (.cells #[.int .i64 2, .string aek, .int .i64 aes, .int .i64 aeg, .int .i64 aec, .string akey, .int .i64 apg, .bool aleaf, .string alo, .string ahi, .int .i64 ar, .slice ap an ac] 32)).alloc (.cells #[.int .i64 kb, .string bek, .int .i64 bes, .int .i64 beg, .int .i64 bec, .string bkey, .int .i64 bpg, .bool bleaf, .string blo, .string bhi, .int .i64 br, .slice bp bn bc] 32) = w0 := ⟨_, rfl⟩
  have HB0 : Hid (Below w.heap.size w w0) := by rw [← hw0]; exact (((Below.refl _ _).alloc (Nat.le_refl _) _).alloc (by simp) _).alloc (by simp; omega) _
  have HP0 : Hid (Bk w0 w.heap.size 24 #[.bool pf, .string plo, .string phi, .int .i64 pr, .slice pp pn pc]) := by rw [← hw0]; exact ((Bk.new _ _ _).alloc _).alloc _
  have HA0 : Hid (Bk w0 (w.heap.size + 1) 32 #[.int .i64 2, .string aek, .int .i64 aes, .int .i64 aeg, .int .i64 aec, .string akey, .int .i64 apg, .bool aleaf, .string alo, .string ahi, .int .i64 ar, .slice ap an ac]) := by rw [← hw0]; exact (Bk.new1 _ _ _ _).alloc _
  have HD0 : Hid (Bk w0 (w.heap.size + 1 + 1) 32 #[.int .i64 kb, .string bek, .int .i64 bes, .int .i64 beg, .int .i64 bec, .string bkey, .int .i64 bpg, .bool bleaf, .string blo, .string bhi, .int .i64 br, .slice bp bn bc]) := by rw [← hw0]; exact Bk.new2 _ _ _ _ _
  go_enter Tryz.func5, Tryz.ntmps5
  have y0 : w0.cell? ⟨w.heap.size + 1, 0, none⟩ = some (.int .i64 2) := HA0.out.cell 0
  have y1 : w0.cell? ⟨w.heap.size + 1, 1, none⟩ = some (.string aek) := HA0.out.cell 1
  have y2 : w0.cell? ⟨w.heap.size + 1, 2, none⟩ = some (.int .i64 aes) := HA0.out.cell 2
  have y3 : w0.cell? ⟨w.heap.size + 1, 3, none⟩ = some (.int .i64 aeg) := HA0.out.cell 3
  have y4 : w0.cell? ⟨w.heap.size + 1, 4, none⟩ = some (.int .i64 aec) := HA0.out.cell 4
  have y5 : w0.cell? ⟨w.heap.size + 1, 5, none⟩ = some (.string akey) := HA0.out.cell 5
  have y6 : w0.cell? ⟨w.heap.size + 1, 6, none⟩ = some (.int .i64 apg) := HA0.out.cell 6
  have y7 : w0.cell? ⟨w.heap.size + 1, 7, none⟩ = some (.bool aleaf) := HA0.out.cell 7
  have y8 : w0.cell? ⟨w.heap.size + 1, 8, none⟩ = some (.string alo) := HA0.out.cell 8
  have y9 : w0.cell? ⟨w.heap.size + 1, 9, none⟩ = some (.string ahi) := HA0.out.cell 9
  have y10 : w0.cell? ⟨w.heap.size + 1, 10, none⟩ = some (.int .i64 ar) := HA0.out.cell 10
  have y11 : w0.cell? ⟨w.heap.size + 1, 11, none⟩ = some (.slice ap an ac) := HA0.out.cell 11
  have z0 : w0.cell? ⟨w.heap.size + 1 + 1, 0, none⟩ = some (.int .i64 kb) := HD0.out.cell 0
  have z1 : w0.cell? ⟨w.heap.size + 1 + 1, 1, none⟩ = some (.string bek) := HD0.out.cell 1
  have z2 : w0.cell? ⟨w.heap.size + 1 + 1, 2, none⟩ = some (.int .i64 bes) := HD0.out.cell 2
  have z3 : w0.cell? ⟨w.heap.size + 1 + 1, 3, none⟩ = some (.int .i64 beg) := HD0.out.cell 3
  have z4 : w0.cell? ⟨w.heap.size + 1 + 1, 4, none⟩ = some (.int .i64 bec) := HD0.out.cell 4
  have z5 : w0.cell? ⟨w.heap.size + 1 + 1, 5, none⟩ = some (.string bkey) := HD0.out.cell 5
  have z6 : w0.cell? ⟨w.heap.size + 1 + 1, 6, none⟩ = some (.int .i64 bpg) := HD0.out.cell 6
  have z7 : w0.cell? ⟨w.heap.size + 1 + 1, 7, none⟩ = some (.bool bleaf) := HD0.out.cell 7
  have z8 : w0.cell? ⟨w.heap.size + 1 + 1, 8, none⟩ = some (.string blo) := HD0.out.cell 8
  have z9 : w0.cell? ⟨w.heap.size + 1 + 1, 9, none⟩ = some (.string bhi) := HD0.out.cell 9
  have z10 : w0.cell? ⟨w.heap.size + 1 + 1, 10, none⟩ = some (.int .i64 br) := HD0.out.cell 10
  have z11 : w0.cell? ⟨w.heap.size + 1 + 1, 11, none⟩ = some (.slice bp bn bc) := HD0.out.cell 11
  go_wp2_with fail
  refine (live_any _).mono ?_
  rintro e wl ⟨rfl, hbl⟩
  have hBl : Below w.heap.size w wl := HB0.out.trans (hbl.mono HB0.out.size)
  go_wp2
  go_ret
  exact ⟨rfl, hBl⟩

theorem walk_deltaSwaps (pf : Bool) (plo phi : ByteArray) (pr : Int) (pp : Option Addr) (pn pc : Nat) (pl : List En) (a : De) (ap : Option Addr) (an ac : Nat) (b : De) (bp : Option Addr) (bn bc : Nat) (w : World) (hp : InE 3518437208780 w pp pn pc pl) (ha : InDk 3518437208780 w a ap an ac) (hb : InDk 3518437208780 w b bp bn bc) :
    Calls Tryz.prog 5 #[.agg #[.bool pf, .string plo, .string phi, .int .i64 pr, .slice pp pn pc], dlv a.k a.e a.key a.pg a.rt.leaf a.rt.lo a.rt.hi a.rt.r ap an ac, dlv b.k b.e b.key b.pg b.rt.leaf b.rt.lo b.rt.hi b.rt.r bp bn bc] w fun e w' => e = .returned (.bool true) ∧ Below w.heap.size w w' := by
  have ra := ha.right
  have rb := hb.right
  have sa1 := ha.k1
  have sa2 := ha.k2
  have sb1 := hb.k1
  have sb2 := hb.k2
  clear ha hb
  obtain ⟨ka, ⟨aek, aes, aeg, aec⟩, akey, apg, ⟨aleaf, alo, ahi, ar, al⟩⟩ := a
  obtain ⟨kb, ⟨bek, bes, beg, bec⟩, bkey, bpg, ⟨bleaf, blo, bhi, br, bl⟩⟩ := b
  simp only at ra rb sa1 sa2 sb1 sb2
  by_cases a1 : ka = 1
  · subst a1
    by_cases b1 : kb = 1
    · subst b1
      exact walkd_deltaSwaps_11 pf plo phi pr pp pn pc pl aek aes aeg aec akey apg aleaf alo ahi ar al ap an ac bek bes beg bec bkey bpg bleaf blo bhi br bl bp bn bc w hp ra rb sa1 sa2 sb1 sb2
    · by_cases b2 : kb = 2
      · subst b2
        exact walkd_deltaSwaps_12 pf plo phi pr pp pn pc pl aek aes aeg aec akey apg aleaf alo ahi ar al ap an ac bek bes beg bec bkey bpg bleaf blo bhi br bl bp bn bc w hp ra rb sa1 sa2 sb1 sb2
      · exact walkd_deltaSwaps_1n pf plo phi pr pp pn pc pl kb aek aes aeg aec akey apg aleaf alo ahi ar al ap an ac bek bes beg bec bkey bpg bleaf blo bhi br bl bp bn bc w (by simpa using b1) (by simpa using b2)
  · by_cases a2 : ka = 2
    · subst a2
      by_cases b1 : kb = 1
      · subst b1
        exact walkd_deltaSwaps_21 pf plo phi pr pp pn pc pl aek aes aeg aec akey apg aleaf alo ahi ar al ap an ac bek bes beg bec bkey bpg bleaf blo bhi br bl bp bn bc w hp ra rb sa1 sa2 sb1 sb2
      · by_cases b2 : kb = 2
        · subst b2
          exact walkd_deltaSwaps_22 pf plo phi pr pp pn pc pl aek aes aeg aec akey apg aleaf alo ahi ar al ap an ac bek bes beg bec bkey bpg bleaf blo bhi br bl bp bn bc w hp ra rb sa1 sa2 sb1 sb2
        · exact walkd_deltaSwaps_2n pf plo phi pr pp pn pc pl kb aek aes aeg aec akey apg aleaf alo ahi ar al ap an ac bek bes beg bec bkey bpg bleaf blo bhi br bl bp bn bc w (by simpa using b1) (by simpa using b2)
    · exact walkd_deltaSwaps_n pf plo phi pr pp pn pc pl ka kb aek aes aeg aec akey apg aleaf alo ahi ar al ap an ac bek bes beg bec bkey bpg bleaf blo bhi br bl bp bn bc w (by simpa using a1) (by simpa using a2)


set_option maxRecDepth 100000 in
set_option maxHeartbeats 2000000 in
theorem lifted_deltaSwaps (os : Os) (started : os.Started) (H : Type) (enc : TypeId × Value → H) :
    ReturnsInHanded {} Tryz.checked os 5 .any (Rows.deltaSwapsSpec.pre6 enc Tryz.prog Tryz.f5 Rows.deltaSwapsRow.domain false) (Rows.deltaSwapsSpec.post enc Tryz.prog Tryz.f5 false true false false) := by
  refine returnsInHanded_of_change_sized (C := Tryz.checked) own started (by kernel_rfl) Tryz.func5
    (ChangeSpec.witness6 (enc := enc) (C := Tryz.checked) false ⟨#[], #[.agg #[.bool false, .string .empty, .string .empty, .int .i64 0, .slice none 0 0], .agg #[.int .i64 0, .string .empty, .int .i64 0, .int .i64 0, .int .i64 0, .string .empty, .int .i64 0, .bool false, .string .empty, .string .empty, .int .i64 0, .slice none 0 0], .agg #[.int .i64 0, .string .empty, .int .i64 0, .int .i64 0, .int .i64 0, .string .empty, .int .i64 0, .bool false, .string .empty, .string .empty, .int .i64 0, .slice none 0 0]], []⟩ 8 (by kernel_rfl) (by kernel_rfl) (by kernel_rfl) (by kernel_rfl)) ?_
  intro W base args ds gs before hval0 hW _ hsz0 _
  have hsz : (DataW.weightsEach Tryz.prog (Tryz.f5.params.toList ++ Rows.deltaSwapsSpec.plain.varTypes Tryz.prog) (ds ++ gs)).all (· ≤ reachBytes) = true := hsz0
  clear hsz0
  have hval : ∀ (j : Nat) t v, Tryz.f5.params[j]? = some t → args[j]? = some v → Value.okWide Tryz.prog W .any base t v := hval0
  have hW' := hW
  obtain ⟨p, q, hA0, hV, rfl, hfz, hnd⟩ := hW
  have hA : DataW.TrodAll enc Tryz.prog W 0 (fun _ => true) true Tryz.f5.params.toList args.toList ds p := hA0
  rw [Tryz.params5] at hA hval hsz
  obtain ⟨v0, vs0, d0, ds0, p0, q0, hargs, rfl, rfl, h0, r0⟩ := trodAll_cons hA
  obtain ⟨v1, vs1, d1, ds1, p1, q1, rfl, rfl, rfl, h1, r1⟩ := trodAll_cons r0
  obtain ⟨v2, vs2, d2, ds2, p2, q2, rfl, rfl, rfl, h2, r2⟩ := trodAll_cons r1
  obtain ⟨rfl, rfl, rfl⟩ := trodAll_nil r2
  obtain rfl : args = #[v0, v1, v2] := by cases args; simp_all
  obtain ⟨rfl, rfl⟩ := trodVars_none hV
  have k0 := h0
  have lt0 : ∀ x ∈ p0, x.block < W.heap.size := by obtain ⟨m, hm⟩ := k0; exact DataW.trod_lt m _ _ _ hm
  obtain ⟨b0, lo0, hi0, r0', a0, len0, cap0, l0, e0, w0⟩ : ∃ leaf lo hi r a len cap l, v0 = .agg #[.bool leaf, .string lo, .string hi, .int .i64 r, .slice a len cap] ∧ InE 3518437208780 W a len cap l := by
    obtain ⟨cs, hcs, _⟩ := okWide_struct Tryz.underlying24 (hval 0 24 v0 rfl rfl)
    obtain ⟨fuel, hf⟩ := h0
    obtain ⟨b, lo, hi, r, a, len, cap, l, hg, ho⟩ := in_page (M := 3518437208780) hf (page_said (x := (d0, p0)) (Nat.le_refl _) (fun n hn => by
      have := of_decide_eq_true (List.all_eq_true.1 hsz _ (DataW.weights_mem_each (j := 0) (t := 24) rfl rfl n hn))
      simp only [reachBytes] at this
      omega))
    refine ⟨b, lo, hi, r, a, len, cap, l, ?_, ho⟩
    rw [hcs] at hg ⊢
    congr 1
    apply Array.ext'
    simpa [Value.cells] using hg
  subst e0
  have k1 := h1
  have lt1 : ∀ x ∈ p1, x.block < W.heap.size := by obtain ⟨m, hm⟩ := k1; exact DataW.trod_lt m _ _ _ hm
  obtain ⟨g1, a1, len1, cap1, e1, w1⟩ : ∃ (d : De) (a : Option Addr) (len cap : Nat), v1 = dlv d.k d.e d.key d.pg d.rt.leaf d.rt.lo d.rt.hi d.rt.r a len cap ∧ InDk 3518437208780 W d a len cap := by
    obtain ⟨cs, hcs, _⟩ := okWide_struct Tryz.underlying32 (hval 1 32 v1 rfl rfl)
    obtain ⟨fuel, hf⟩ := h1
    obtain ⟨d, a, len, cap, hg, ho⟩ := in_deltak (M := 3518437208780) hf (fun n hn => by
      have := of_decide_eq_true (List.all_eq_true.1 hsz _ (DataW.weights_mem_each (j := 1) (t := 32) rfl rfl n hn))
      simp only [reachBytes] at this
      omega) (delta_said (x := (d1, p1)) (Nat.le_refl _) (fun n hn => by
      have := of_decide_eq_true (List.all_eq_true.1 hsz _ (DataW.weights_mem_each (j := 1) (t := 32) rfl rfl n hn))
      simp only [reachBytes] at this
      omega))
    refine ⟨d, a, len, cap, ?_, ho⟩
    rw [hcs] at hg ⊢
    congr 1
    apply Array.ext'
    simpa [Value.cells] using hg
  subst e1
  have k2 := h2
  have lt2 : ∀ x ∈ p2, x.block < W.heap.size := by obtain ⟨m, hm⟩ := k2; exact DataW.trod_lt m _ _ _ hm
  obtain ⟨g2, a2, len2, cap2, e2, w2⟩ : ∃ (d : De) (a : Option Addr) (len cap : Nat), v2 = dlv d.k d.e d.key d.pg d.rt.leaf d.rt.lo d.rt.hi d.rt.r a len cap ∧ InDk 3518437208780 W d a len cap := by
    obtain ⟨cs, hcs, _⟩ := okWide_struct Tryz.underlying32 (hval 2 32 v2 rfl rfl)
    obtain ⟨fuel, hf⟩ := h2
    obtain ⟨d, a, len, cap, hg, ho⟩ := in_deltak (M := 3518437208780) hf (fun n hn => by
      have := of_decide_eq_true (List.all_eq_true.1 hsz _ (DataW.weights_mem_each (j := 2) (t := 32) rfl rfl n hn))
      simp only [reachBytes] at this
      omega) (delta_said (x := (d2, p2)) (Nat.le_refl _) (fun n hn => by
      have := of_decide_eq_true (List.all_eq_true.1 hsz _ (DataW.weights_mem_each (j := 2) (t := 32) rfl rfl n hn))
      simp only [reachBytes] at this
      omega))
    refine ⟨d, a, len, cap, ?_, ho⟩
    rw [hcs] at hg ⊢
    congr 1
    apply Array.ext'
    simpa [Value.cells] using hg
  subst e2
  clear hA0 hval0
  refine (walk_deltaSwaps b0 lo0 hi0 r0' a0 len0 cap0 l0 g1 a1 len1 cap1 g2 a2 len2 cap2 W w0 w1 w2).mono fun e W' ⟨he, bel⟩ => ?_
  subst he
  exact ⟨_, rfl, _, _, _, [], _, [], hW', trodAll_mk1 (shut_bool Tryz.underlying4 _), (trodAll_cons_mk (Below.trod laidOut (by kernel_rfl) (of_decide_eq_true (by kernel_rfl)) k0 bel lt0) (trodAll_cons_mk (Below.trod laidOut (by kernel_rfl) (of_decide_eq_true (by kernel_rfl)) k1 bel lt1) (trodAll_cons_mk (Below.trod laidOut (by kernel_rfl) (of_decide_eq_true (by kernel_rfl)) k2 bel lt2) trodAll_mk0))), rfl, bel.frame _, fun h => by cases h⟩

/-- The statement. -/
theorem deltaSwaps_holds : Rows.DeltaSwapsSaid :=
  OpenClaim.holds_of_wide 5 Tryz.f5 rfl rfl rfl rfl rfl rfl rfl ⟨rfl, rfl, rfl, rfl, rfl⟩ rfl rfl rfl rfl rfl (by kernel_rfl) Tryz.func5 (by kernel_rfl)
    (of_decide_eq_true (by kernel_rfl)) (by unfold Func.isWrapper; first | (rw [if_pos (by decide +kernel)]; kernel_rfl) | (rw [if_neg (by decide +kernel)]; exact ⟨rfl, rfl⟩))
    (fun os started H enc _ => lifted_deltaSwaps os started H enc)
#print axioms deltaSwaps_holds
end Go.Proofs.YtlcbideongbmeaaGreat
