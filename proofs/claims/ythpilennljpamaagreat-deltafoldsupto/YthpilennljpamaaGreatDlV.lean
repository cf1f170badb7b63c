/- live: answers that the document fixes. -/
import Derived.Test.YthpilennljpamaaGreatDlZ
namespace Go.Proofs.YthpilennljpamaaGreat
open Go.RowKit Go.Sort
set_option linter.unusedVariables false
set_option maxRecDepth 100000

theorem Dl.list_mk (a : Array UInt8) : (ByteArray.mk a).toList = a.toList := ByteArray.toList_eq _

abbrev lvB : Pp := ⟨true, ⟨#[]⟩, ⟨#[]⟩, 0, [⟨⟨#[97]⟩, 0, 0, 0⟩]⟩
abbrev lvS : De := ⟨3, En.zero, ⟨#[98]⟩, 4, Pg.zero⟩
abbrev lvP : De := ⟨1, ⟨⟨#[99]⟩, 0, 0, 0⟩, ⟨#[]⟩, 0, Pg.zero⟩

theorem lv_inn (k : ByteArray) : Ky.inn ⟨⟨#[]⟩, ⟨#[]⟩⟩ k = true := by
  have e : Ky.nil ⟨#[]⟩ = true := by unfold Ky.nil; rw [Dl.list_mk]; rfl
  have l0 : ∀ a, Ky.lt a ⟨#[]⟩ = false := fun a => Ky.lt_empty a
  unfold Ky.inn Ky.below; simp only [e, l0]; rfl

theorem lv_mayS : Dl.may lvS = true := by
  have h1 : Dl.fits lvS = true := by
    unfold Dl.fits
    rw [if_neg (by decide), if_neg (by decide), if_pos rfl, Dl.list_mk]
    rfl
  have h2 : Dl.named lvS = lvS := rfl
  unfold Dl.may
  rw [h1, h2, Dl.same_self]
  rfl

theorem lv_mayP : Dl.may lvP = true := by
  have h1 : Dl.fits lvP = true := rfl
  have h2 : Dl.named lvP = lvP := rfl
  unfold Dl.may
  rw [h1, h2, Dl.same_self]
  rfl

theorem lv_outl : Dl.outl lvB [lvP, lvS] = (⟨true, ⟨#[]⟩, ⟨#[98]⟩, 4, []⟩, 0) := by
  have h1 : Dl.apply (Dl.hd lvB) lvP = (⟨true, ⟨#[]⟩, ⟨#[]⟩, 0, Pg.putL [] ⟨⟨#[99]⟩, 0, 0, 0⟩⟩, 0) := by
    unfold Dl.apply
    rw [if_pos lv_mayP, if_pos rfl]
    unfold Pg.put
    refine (if_pos (lv_inn _)).trans ?_
    rfl
  have hlt : Ky.lt ⟨#[]⟩ ⟨#[98]⟩ = true := by unfold Ky.lt; rw [Dl.list_mk, Dl.list_mk]; rfl
  have h2 : Dl.apply ⟨true, ⟨#[]⟩, ⟨#[]⟩, 0, []⟩ lvS = (⟨true, ⟨#[]⟩, ⟨#[98]⟩, 4, []⟩, 0) := by
    unfold Dl.apply
    rw [if_pos lv_mayS, if_neg (by decide), if_neg (by decide), if_pos rfl, if_pos (by rw [hlt, lv_inn]; rfl)]
    rfl
  show Dl.stp (Dl.stp (Dl.hd lvB, 0) lvP) lvS = _
  have h3 : Dl.stp (Dl.hd lvB, 0) lvP = (⟨true, ⟨#[]⟩, ⟨#[]⟩, 0, []⟩, 0) := by
    unfold Dl.stp
    rw [if_pos rfl, h1]
    rfl
  rw [h3]
  unfold Dl.stp
  rw [if_pos rfl, h2]
  rfl

theorem lv_pgmay : Pg.may true ⟨⟨#[]⟩, ⟨#[]⟩⟩ 0 [⟨⟨#[97]⟩, 0, 0, 0⟩] = true := by
  have e : Ky.nil ⟨#[]⟩ = true := by unfold Ky.nil; rw [Dl.list_mk]; rfl
  unfold Pg.may
  have a : Ky.emp ⟨⟨#[]⟩, ⟨#[]⟩⟩ = false := by unfold Ky.emp Ky.below; simp only [e]; rfl
  rw [a]
  have f : Pg.fits true ⟨⟨#[]⟩, ⟨#[]⟩⟩ [⟨⟨#[97]⟩, 0, 0, 0⟩] = true := by
    refine Pg.fits_all fun j hj => ?_
    match j, hj with
    | 0, _ => rw [Pg.good_first (e := ⟨⟨#[97]⟩, 0, 0, 0⟩) rfl, lv_inn]; rfl
    | n + 1, h => exact absurd h (by simp)
  rw [f]
  rfl

theorem lv_lookc (EL : List En) : Dl.look lvB ⟨#[99]⟩ [lvS, lvP] EL = (⟨En.zero, false, 4⟩, 0) := by
  show Dl.says lvB ⟨#[99]⟩ [lvS, lvP] EL (Dl.outl lvB [lvP, lvS]) = _
  rw [lv_outl]
  unfold Dl.says
  have i : Ky.inn ⟨⟨#[]⟩, ⟨#[98]⟩⟩ ⟨#[99]⟩ = false := by unfold Ky.inn Ky.below Ky.nil Ky.lt; simp only [Dl.list_mk]; rfl
  rw [if_neg (by decide), if_pos i, if_neg (by show ¬ (Ky.lt ⟨#[99]⟩ ⟨#[]⟩ || (4 : Int) == 0) = true; rw [show Ky.lt ⟨#[99]⟩ ⟨#[]⟩ = false from Ky.lt_empty _]; decide)]

theorem lv_looka (EL : List En) : Dl.look lvB ⟨#[97]⟩ [lvS, lvP] EL = (⟨⟨⟨#[97]⟩, 0, 0, 0⟩, true, 0⟩, 0) := by
  show Dl.says lvB ⟨#[97]⟩ [lvS, lvP] EL (Dl.outl lvB [lvP, lvS]) = _
  rw [lv_outl]
  unfold Dl.says
  have i : Ky.inn ⟨⟨#[]⟩, ⟨#[98]⟩⟩ ⟨#[97]⟩ = true := by unfold Ky.inn Ky.below Ky.nil Ky.lt; simp only [Dl.list_mk]; rfl
  rw [if_neg (by decide), if_neg (by rw [i]; decide), if_neg (by decide)]
  have h1 : Dl.among lvB ⟨#[97]⟩ [lvS, lvP] EL = [⟨⟨#[97]⟩, 0, 0, 0⟩] := by
    unfold Dl.among
    rw [if_pos lv_pgmay]
    have h2 : ((⟨#[99]⟩ : ByteArray).toList == (⟨#[97]⟩ : ByteArray).toList) = false := by rw [Dl.list_mk, Dl.list_mk]; rfl
    show (if ((1 : Int) == 1) && ((⟨#[99]⟩ : ByteArray).toList == (⟨#[97]⟩ : ByteArray).toList) then _ else _) = _
    rw [h2]
    rfl
  rw [h1]
  have h3 : Pg.find true [⟨⟨#[97]⟩, 0, 0, 0⟩] ⟨#[97]⟩ = some ⟨⟨#[97]⟩, 0, 0, 0⟩ := by
    simp [Pg.find, Pg.is, Dl.list_mk]
  rw [h3]
  rfl

abbrev lvE : Array Value := #[.string ⟨#[97]⟩, .int .i64 0, .int .i64 0, .int .i64 0]
abbrev lvD : Array Value := #[.int .i64 3, .string ⟨#[]⟩, .int .i64 0, .int .i64 0, .int .i64 0, .string ⟨#[98]⟩, .int .i64 4, .bool false, .string ⟨#[]⟩, .string ⟨#[]⟩, .int .i64 0, .slice none 0 0, .int .i64 1, .string ⟨#[99]⟩, .int .i64 0, .int .i64 0, .int .i64 0, .string ⟨#[]⟩, .int .i64 0, .bool false, .string ⟨#[]⟩, .string ⟨#[]⟩, .int .i64 0, .slice none 0 0]
abbrev lvL : List Dm := [⟨lvS, none, 0, 0⟩, ⟨lvP, none, 0, 0⟩]

theorem lv_ens {w : World} {b : Nat} {T : TypeId} (hk : Bk w b T lvE) : Ens w (some ⟨b, 0, none⟩) [⟨⟨#[97]⟩, 0, 0, 0⟩] := by
  intro _
  refine ⟨b, 0, rfl, fun i g hi => ?_⟩
  match i, hi with
  | 0, hi => simp at hi; subst hi; exact ⟨hk.cell 0, hk.cell 1, hk.cell 2, hk.cell 3⟩
  | n + 1, hi => simp at hi

theorem lv_ok (w : World) (d : De) (h : d.rt.l = []) : Dm.Ok w ⟨d, none, 0, 0⟩ := ⟨by rw [h]; rfl, by rw [h]; exact Ens.nil _ _, fun _ => ⟨rfl, rfl⟩, Nat.le_refl _, Nat.zero_le _⟩

theorem lv_des {w : World} {b : Nat} {T : TypeId} (hk : Bk w b T lvD) : Des w (some ⟨b, 0, none⟩) lvL := by
  intro _
  refine ⟨b, 0, rfl, fun i m hi => ?_⟩
  match i, hi with
  | 0, hi =>
    simp at hi; subst hi
    refine ⟨fun t v ht => ?_, lv_ok _ _ rfl⟩
    have hc := hk.cell t
    rw [show 0 + 0 * 12 + t = t by omega]
    match t, ht with
    | 0, ht => simp [Dm.cells] at ht; subst ht; exact hc
    | 1, ht => simp [Dm.cells] at ht; subst ht; exact hc
    | 2, ht => simp [Dm.cells] at ht; subst ht; exact hc
    | 3, ht => simp [Dm.cells] at ht; subst ht; exact hc
    | 4, ht => simp [Dm.cells] at ht; subst ht; exact hc
    | 5, ht => simp [Dm.cells] at ht; subst ht; exact hc
    | 6, ht => simp [Dm.cells] at ht; subst ht; exact hc
    | 7, ht => simp [Dm.cells] at ht; subst ht; exact hc
    | 8, ht => simp [Dm.cells] at ht; subst ht; exact hc
    | 9, ht => simp [Dm.cells] at ht; subst ht; exact hc
    | 10, ht => simp [Dm.cells] at ht; subst ht; exact hc
    | 11, ht => simp [Dm.cells] at ht; subst ht; exact hc
    | n + 12, ht => simp [Dm.cells] at ht
  | 1, hi =>
    simp at hi; subst hi
    refine ⟨fun t v ht => ?_, lv_ok _ _ rfl⟩
    have hc := hk.cell (12 + t)
    rw [show 0 + 1 * 12 + t = 12 + t by omega]
    match t, ht with
    | 0, ht => simp [Dm.cells] at ht; subst ht; exact hc
    | 1, ht => simp [Dm.cells] at ht; subst ht; exact hc
    | 2, ht => simp [Dm.cells] at ht; subst ht; exact hc
    | 3, ht => simp [Dm.cells] at ht; subst ht; exact hc
    | 4, ht => simp [Dm.cells] at ht; subst ht; exact hc
    | 5, ht => simp [Dm.cells] at ht; subst ht; exact hc
    | 6, ht => simp [Dm.cells] at ht; subst ht; exact hc
    | 7, ht => simp [Dm.cells] at ht; subst ht; exact hc
    | 8, ht => simp [Dm.cells] at ht; subst ht; exact hc
    | 9, ht => simp [Dm.cells] at ht; subst ht; exact hc
    | 10, ht => simp [Dm.cells] at ht; subst ht; exact hc
    | 11, ht => simp [Dm.cells] at ht; subst ht; exact hc
    | n + 12, ht => simp [Dm.cells] at ht
  | n + 2, hi => simp at hi

set_option maxHeartbeats 2000000 in
theorem live_any (w : World) : Calls Tryz.prog 15 #[] w fun r w' => r = .returned (.bool true) ∧ Below w.heap.size w w' := by
  obtain ⟨w0, hw0⟩ : ∃ w0, ((w.alloc (.cells lvE 30)).alloc (.cells (pgc true ⟨#[]⟩ ⟨#[]⟩ 0 (some ⟨w.heap.size, 0, none⟩) 1 1) 24)).alloc (.cells lvD 32) = w0 := ⟨_, rfl⟩
  have HB0 : Hid (Below w.heap.size w w0) := by rw [← hw0]; exact (((Below.refl _ _).alloc (Nat.le_refl _) _).alloc (by simp) _).alloc (by simp; omega) _
  have HE0 : Hid (Bk w0 w.heap.size 30 lvE) := by rw [← hw0]; exact ((Bk.new _ _ _).alloc _).alloc _
  have HK0 : Hid (Bk w0 (w.heap.size + 1) 24 (pgc true ⟨#[]⟩ ⟨#[]⟩ 0 (some ⟨w.heap.size, 0, none⟩) 1 1)) := by rw [← hw0]; exact (Bk.new1 _ _ _ _).alloc _
  have HD0 : Hid (Bk w0 (w.heap.size + 1 + 1) 32 lvD) := by rw [← hw0]; exact Bk.new2 _ _ _ _ _
  have a0 : w0.cell? ⟨w.heap.size + 1, 0, none⟩ = some (.bool true) := HK0.out.cell 0
  have a1 : w0.cell? ⟨w.heap.size + 1, 1, none⟩ = some (.string ⟨#[]⟩) := HK0.out.cell 1
  have a2 : w0.cell? ⟨w.heap.size + 1, 2, none⟩ = some (.string ⟨#[]⟩) := HK0.out.cell 2
  have a3 : w0.cell? ⟨w.heap.size + 1, 3, none⟩ = some (.int .i64 0) := HK0.out.cell 3
  have a4 : w0.cell? ⟨w.heap.size + 1, 4, none⟩ = some (.slice (some ⟨w.heap.size, 0, none⟩) 1 1) := HK0.out.cell 4
  go_enter Tryz.func15, Tryz.ntmps15
  go_wp2_with fail
  refine (look_any true ⟨#[]⟩ ⟨#[]⟩ 0 (some ⟨w.heap.size, 0, none⟩) 1 1 [⟨⟨#[97]⟩, 0, 0, 0⟩] ⟨#[99]⟩ (some ⟨w.heap.size + 1 + 1, 0, none⟩) 2 2 lvL [] _ rfl (lv_ens HE0.out) (by decide) rfl (by decide) (lv_des HD0.out) (fun _ h => ?_)).mono ?_
  · exfalso
    rcases h with h | h
    · rw [show (List.map (·.d) lvL).reverse = [lvP, lvS] from rfl, lv_outl] at h
      cases h
    · rw [lv_pgmay] at h; cases h
  rw [show List.map (·.d) lvL = [lvS, lvP] from rfl, lv_lookc]
  rintro e w1 ⟨he, hb1⟩
  simp only [spv] at he
  subst he
  have HB1 : Hid (Below w.heap.size w w1) := HB0.out.trans (hb1.mono HB0.out.size)
  have HE1 : Hid (Bk w1 w.heap.size 30 lvE) := HE0.out.below hb1 HE0.out.lt
  have HK1 : Hid (Bk w1 (w.heap.size + 1) 24 (pgc true ⟨#[]⟩ ⟨#[]⟩ 0 (some ⟨w.heap.size, 0, none⟩) 1 1)) := HK0.out.below hb1 HK0.out.lt
  have HD1 : Hid (Bk w1 (w.heap.size + 1 + 1) 32 lvD) := HD0.out.below hb1 HD0.out.lt
  clear hb1 a0 a1 a2 a3 a4 HE0 HK0 HB0 HD0 hw0
  obtain ⟨w2, hw2⟩ : ∃ w2, w1.alloc (.cells #[.string ⟨#[]⟩, .int .i64 0, .int .i64 0, .int .i64 0, .bool false, .int .i64 4] 44) = w2 := ⟨_, rfl⟩
  have hb2 : Below w1.heap.size w1 w2 := by rw [← hw2]; exact (Below.refl _ _).alloc (Nat.le_refl _) _
  have HX2 : Hid (Bk w2 w1.heap.size 44 #[.string ⟨#[]⟩, .int .i64 0, .int .i64 0, .int .i64 0, .bool false, .int .i64 4]) := by rw [← hw2]; exact Bk.new _ _ _
  have HB2 : Hid (Below w.heap.size w w2) := HB1.out.trans (hb2.mono HB1.out.size)
  have HE2 : Hid (Bk w2 w.heap.size 30 lvE) := HE1.out.below hb2 HE1.out.lt
  have HK2 : Hid (Bk w2 (w.heap.size + 1) 24 (pgc true ⟨#[]⟩ ⟨#[]⟩ 0 (some ⟨w.heap.size, 0, none⟩) 1 1)) := HK1.out.below hb2 HK1.out.lt
  have HD2 : Hid (Bk w2 (w.heap.size + 1 + 1) 32 lvD) := HD1.out.below hb2 HD1.out.lt
  clear hb2 HB1 HK1 HE1 HD1
  have a0 : w2.cell? ⟨w.heap.size + 1, 0, none⟩ = some (.bool true) := HK2.out.cell 0
  have a1 : w2.cell? ⟨w.heap.size + 1, 1, none⟩ = some (.string ⟨#[]⟩) := HK2.out.cell 1
  have a2 : w2.cell? ⟨w.heap.size + 1, 2, none⟩ = some (.string ⟨#[]⟩) := HK2.out.cell 2
  have a3 : w2.cell? ⟨w.heap.size + 1, 3, none⟩ = some (.int .i64 0) := HK2.out.cell 3
  have a4 : w2.cell? ⟨w.heap.size + 1, 4, none⟩ = some (.slice (some ⟨w.heap.size, 0, none⟩) 1 1) := HK2.out.cell 4
  go_wp2_with fail
  refine (look_any true ⟨#[]⟩ ⟨#[]⟩ 0 (some ⟨w.heap.size, 0, none⟩) 1 1 [⟨⟨#[97]⟩, 0, 0, 0⟩] ⟨#[97]⟩ (some ⟨w.heap.size + 1 + 1, 0, none⟩) 2 2 lvL [] _ rfl (lv_ens HE2.out) (by decide) rfl (by decide) (lv_des HD2.out) (fun _ h => ?_)).mono ?_
  · exfalso
    rcases h with h | h
    · rw [show (List.map (·.d) lvL).reverse = [lvP, lvS] from rfl, lv_outl] at h
      cases h
    · rw [lv_pgmay] at h; cases h
  rw [show List.map (·.d) lvL = [lvS, lvP] from rfl, lv_looka]
  rintro e w3 ⟨he, hb3⟩
  simp only [spv] at he
  subst he
  have HB3 : Hid (Below w.heap.size w w3) := HB2.out.trans (hb3.mono HB2.out.size)
  have HX3 : Hid (Bk w3 w1.heap.size 44 #[.string ⟨#[]⟩, .int .i64 0, .int .i64 0, .int .i64 0, .bool false, .int .i64 4]) := HX2.out.below hb3 HX2.out.lt
  clear hb3 a0 a1 a2 a3 a4 HE2 HK2 HB2 HD2 HX2
  have hb4 : Below w3.heap.size w3 (w3.alloc (.cells #[.string ⟨#[97]⟩, .int .i64 0, .int .i64 0, .int .i64 0, .bool true, .int .i64 0] 44)) := (Below.refl _ _).alloc (Nat.le_refl _) _
  have HY4 : Hid (Bk (w3.alloc (.cells #[.string ⟨#[97]⟩, .int .i64 0, .int .i64 0, .int .i64 0, .bool true, .int .i64 0] 44)) w3.heap.size 44 #[.string ⟨#[97]⟩, .int .i64 0, .int .i64 0, .int .i64 0, .bool true, .int .i64 0]) := Bk.new _ _ _
  have HX4 : Hid (Bk (w3.alloc (.cells #[.string ⟨#[97]⟩, .int .i64 0, .int .i64 0, .int .i64 0, .bool true, .int .i64 0] 44)) w1.heap.size 44 #[.string ⟨#[]⟩, .int .i64 0, .int .i64 0, .int .i64 0, .bool false, .int .i64 4]) := HX3.out.below hb4 HX3.out.lt
  have HB4 : Hid (Below w.heap.size w (w3.alloc (.cells #[.string ⟨#[97]⟩, .int .i64 0, .int .i64 0, .int .i64 0, .bool true, .int .i64 0] 44))) := HB3.out.trans (hb4.mono HB3.out.size)
  clear hb4 HB3 HX3
  have x1 : (w3.alloc (.cells #[.string ⟨#[97]⟩, .int .i64 0, .int .i64 0, .int .i64 0, .bool true, .int .i64 0] 44)).cell? ⟨w1.heap.size, 4, none⟩ = some (.bool false) := HX4.out.cell 4
  have x2 : (w3.alloc (.cells #[.string ⟨#[97]⟩, .int .i64 0, .int .i64 0, .int .i64 0, .bool true, .int .i64 0] 44)).cell? ⟨w1.heap.size, 5, none⟩ = some (.int .i64 4) := HX4.out.cell 5
  have y0 : (w3.alloc (.cells #[.string ⟨#[97]⟩, .int .i64 0, .int .i64 0, .int .i64 0, .bool true, .int .i64 0] 44)).cell? ⟨w3.heap.size, 0, none⟩ = some (.string ⟨#[97]⟩) := HY4.out.cell 0
  have y1 : (w3.alloc (.cells #[.string ⟨#[97]⟩, .int .i64 0, .int .i64 0, .int .i64 0, .bool true, .int .i64 0] 44)).cell? ⟨w3.heap.size, 4, none⟩ = some (.bool true) := HY4.out.cell 4
  go_wp2
  go_ret
  exact ⟨rfl, HB4.out⟩

end Go.Proofs.YthpilennljpamaaGreat
