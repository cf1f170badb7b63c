/- live: answers that the document fixes. -/
import Derived.Test.YtakibndjmhadnaaPgCr
import Derived.Test.YtakibndjmhadnaaPgSq
namespace Go.Proofs.Ytakibndjmhadnaa
open Go.RowKit Go.Sort
set_option linter.unusedVariables false
set_option maxRecDepth 100000

theorem Ky.list_mk (a : Array UInt8) : (ByteArray.mk a).toList = a.toList := ByteArray.toList_eq _

abbrev lv4 : List En := [⟨⟨#[97]⟩, 0, 0, 0⟩, ⟨⟨#[99]⟩, 0, 0, 0⟩, ⟨⟨#[101]⟩, 0, 0, 0⟩, ⟨⟨#[103]⟩, 0, 0, 0⟩]

theorem lv_split : Pg.split ⟨true, ⟨#[]⟩, ⟨#[]⟩, 0, lv4⟩ 9 = (⟨true, ⟨#[]⟩, ⟨#[101]⟩, 9, [⟨⟨#[97]⟩, 0, 0, 0⟩, ⟨⟨#[99]⟩, 0, 0, 0⟩]⟩, ⟨true, ⟨#[101]⟩, ⟨#[]⟩, 0, [⟨⟨#[101]⟩, 0, 0, 0⟩, ⟨⟨#[103]⟩, 0, 0, 0⟩]⟩, 0) := by
  have h1 : Ky.lt ⟨#[99]⟩ ⟨#[101]⟩ = true := by unfold Ky.lt; rw [Ky.list_mk, Ky.list_mk]; rfl
  have h2 : Ky.sep ⟨#[99]⟩ ⟨#[101]⟩ = ⟨#[101]⟩ := by unfold Ky.sep; rw [Ky.list_mk, Ky.list_mk]; rfl
  have h3 : Pg.part true ⟨#[99]⟩ ⟨#[101]⟩ = some ⟨#[101]⟩ := by unfold Pg.part; rw [h1, h2]; rfl
  unfold Pg.split
  rw [if_neg (by decide), if_neg (by decide)]
  show (match Pg.part true ⟨#[99]⟩ ⟨#[101]⟩ with | none => _ | some m => _) = _
  rw [h3]
  rfl

theorem lv_may : Pg.may true ⟨⟨#[]⟩, ⟨#[]⟩⟩ 0 lv4 = true := by
  have e : Ky.nil ⟨#[]⟩ = true := by unfold Ky.nil; rw [Ky.list_mk]; rfl
  have l0 : ∀ a, Ky.lt a ⟨#[]⟩ = false := fun a => Ky.lt_empty a
  have i : ∀ k, Ky.inn ⟨⟨#[]⟩, ⟨#[]⟩⟩ k = true := fun k => by unfold Ky.inn Ky.below; simp only [e, l0]; rfl
  have h1 : Ky.lt ⟨#[97]⟩ ⟨#[99]⟩ = true := by unfold Ky.lt; rw [Ky.list_mk, Ky.list_mk]; rfl
  have h2 : Ky.lt ⟨#[99]⟩ ⟨#[101]⟩ = true := by unfold Ky.lt; rw [Ky.list_mk, Ky.list_mk]; rfl
  have h3 : Ky.lt ⟨#[101]⟩ ⟨#[103]⟩ = true := by unfold Ky.lt; rw [Ky.list_mk, Ky.list_mk]; rfl
  unfold Pg.may
  have a : Ky.emp ⟨⟨#[]⟩, ⟨#[]⟩⟩ = false := by unfold Ky.emp Ky.below; simp only [e]; rfl
  rw [a]
  have f : Pg.fits true ⟨⟨#[]⟩, ⟨#[]⟩⟩ lv4 = true := by
    refine Pg.fits_all fun j hj => ?_
    match j, hj with
    | 0, _ => rw [Pg.good_first (e := ⟨⟨#[97]⟩, 0, 0, 0⟩) rfl, i]; rfl
    | 1, _ => rw [Pg.good_next (e := ⟨⟨#[99]⟩, 0, 0, 0⟩) (d := ⟨⟨#[97]⟩, 0, 0, 0⟩) rfl rfl, i, h1]; rfl
    | 2, _ => rw [Pg.good_next (e := ⟨⟨#[101]⟩, 0, 0, 0⟩) (d := ⟨⟨#[99]⟩, 0, 0, 0⟩) rfl rfl, i, h2]; rfl
    | 3, _ => rw [Pg.good_next (e := ⟨⟨#[103]⟩, 0, 0, 0⟩) (d := ⟨⟨#[101]⟩, 0, 0, 0⟩) rfl rfl, i, h3]; rfl
    | n + 4, h => exact absurd h (by simp)
  rw [f]
  rfl

theorem lv_in : Ky.inn ⟨⟨#[101]⟩, ⟨#[]⟩⟩ ⟨#[102]⟩ = true := by unfold Ky.inn Ky.below Ky.nil Ky.lt; simp only [Ky.list_mk]; rfl
theorem lv_out : Ky.inn ⟨⟨#[]⟩, ⟨#[101]⟩⟩ ⟨#[102]⟩ = false := by unfold Ky.inn Ky.below Ky.nil Ky.lt; simp only [Ky.list_mk]; rfl

abbrev lvc : Array Value := #[.string ⟨#[97]⟩, .int .i64 0, .int .i64 0, .int .i64 0, .string ⟨#[99]⟩, .int .i64 0, .int .i64 0, .int .i64 0, .string ⟨#[101]⟩, .int .i64 0, .int .i64 0, .int .i64 0, .string ⟨#[103]⟩, .int .i64 0, .int .i64 0, .int .i64 0]

theorem lv_ens (w : World) : Ens (w.alloc (.cells lvc 28)) (some ⟨w.heap.size, 0, none⟩) lv4 := by
  intro _
  have hk := Bk.new w 28 lvc
  refine ⟨w.heap.size, 0, rfl, fun i g hi => ?_⟩
  match i, hi with
  | 0, hi => simp at hi; subst hi; exact ⟨hk.cell 0, hk.cell 1, hk.cell 2, hk.cell 3⟩
  | 1, hi => simp at hi; subst hi; exact ⟨hk.cell 4, hk.cell 5, hk.cell 6, hk.cell 7⟩
  | 2, hi => simp at hi; subst hi; exact ⟨hk.cell 8, hk.cell 9, hk.cell 10, hk.cell 11⟩
  | 3, hi => simp at hi; subst hi; exact ⟨hk.cell 12, hk.cell 13, hk.cell 14, hk.cell 15⟩
  | n + 4, hi => simp at hi

set_option maxHeartbeats 2000000 in
theorem live_any (w : World) : Calls Try.prog 11 #[] w fun r w' => r = .returned (.bool true) ∧ Below w.heap.size w w' := by
  obtain ⟨w0, hw0⟩ : ∃ w0, (w.alloc (.cells lvc 28)).alloc (.cells (pgc true ⟨#[]⟩ ⟨#[]⟩ 0 (some ⟨w.heap.size, 0, none⟩) 4 4) 24) = w0 := ⟨_, rfl⟩
  have HB0 : Hid (Below w.heap.size w w0) := by rw [← hw0]; exact ((Below.refl _ _).alloc (Nat.le_refl _) _).alloc (by simp) _
  have HK0 : Hid (Bk w0 (w.heap.size + 1) 24 (pgc true ⟨#[]⟩ ⟨#[]⟩ 0 (some ⟨w.heap.size, 0, none⟩) 4 4)) := by rw [← hw0]; exact Bk.new1 _ _ _ _
  have HX : Hid (Ens w0 (some ⟨w.heap.size, 0, none⟩) lv4) := by rw [← hw0]; exact (lv_ens w).below ((Below.refl _ _).alloc (Nat.le_refl _) _) (Nat.le_refl _)
  have a0 : w0.cell? ⟨w.heap.size + 1, 0, none⟩ = some (.bool true) := HK0.out.cell 0
  have a1 : w0.cell? ⟨w.heap.size + 1, 1, none⟩ = some (.string ⟨#[]⟩) := HK0.out.cell 1
  have a2 : w0.cell? ⟨w.heap.size + 1, 2, none⟩ = some (.string ⟨#[]⟩) := HK0.out.cell 2
  have a3 : w0.cell? ⟨w.heap.size + 1, 3, none⟩ = some (.int .i64 0) := HK0.out.cell 3
  have a4 : w0.cell? ⟨w.heap.size + 1, 4, none⟩ = some (.slice (some ⟨w.heap.size, 0, none⟩) 4 4) := HK0.out.cell 4
  go_enter Try.func11, Try.ntmps11
  go_wp2_with fail
  refine (split_any true ⟨#[]⟩ ⟨#[]⟩ 0 (some ⟨w.heap.size, 0, none⟩) 4 4 lv4 9 _ rfl HX.out (by decide) (by intro e he; simp at he; rcases he with rfl | rfl | rfl | rfl <;> decide)).mono ?_
  rw [lv_split]
  rintro e w1 ⟨v1, v2, rfl, ⟨p1, c1, rfl, hs1⟩, ⟨p2, c2, rfl, hs2⟩, hb1⟩
  have HB1 : Hid (Below w.heap.size w w1) := HB0.out.trans (hb1.mono HB0.out.size)
  have HK1 : Hid (Bk w1 (w.heap.size + 1) 24 (pgc true ⟨#[]⟩ ⟨#[]⟩ 0 (some ⟨w.heap.size, 0, none⟩) 4 4)) := HK0.out.below hb1 HK0.out.lt
  have HX1 : Hid (Ens w1 (some ⟨w.heap.size, 0, none⟩) lv4) := HX.out.below hb1 (Nat.le_refl _)
  clear hb1 hs1 hs2 a0 a1 a2 a3 a4 HX HK0 HB0 hw0
  obtain ⟨w2, hw2⟩ : ∃ w2, (w1.alloc (.cells (pgc true ⟨#[]⟩ ⟨#[101]⟩ 9 p1 2 c1) 24)).alloc (.cells (pgc true ⟨#[101]⟩ ⟨#[]⟩ 0 p2 2 c2) 24) = w2 := ⟨_, rfl⟩
  have hb2 : Below w1.heap.size w1 w2 := by rw [← hw2]; exact ((Below.refl _ _).alloc (Nat.le_refl _) _).alloc (by simp) _
  have HL2 : Hid (Bk w2 w1.heap.size 24 (pgc true ⟨#[]⟩ ⟨#[101]⟩ 9 p1 2 c1)) := by rw [← hw2]; exact (Bk.new _ _ _).alloc _
  have HR2 : Hid (Bk w2 (w1.heap.size + 1) 24 (pgc true ⟨#[101]⟩ ⟨#[]⟩ 0 p2 2 c2)) := by rw [← hw2]; exact Bk.new1 _ _ _ _
  have HB2 : Hid (Below w.heap.size w w2) := HB1.out.trans (hb2.mono HB1.out.size)
  have HK2 : Hid (Bk w2 (w.heap.size + 1) 24 (pgc true ⟨#[]⟩ ⟨#[]⟩ 0 (some ⟨w.heap.size, 0, none⟩) 4 4)) := HK1.out.below hb2 HK1.out.lt
  have HX2 : Hid (Ens w2 (some ⟨w.heap.size, 0, none⟩) lv4) := HX1.out.below hb2 (Nat.le_refl _)
  clear hb2 HB1 HK1 HX1
  have a0 : w2.cell? ⟨w.heap.size + 1, 0, none⟩ = some (.bool true) := HK2.out.cell 0
  have a1 : w2.cell? ⟨w.heap.size + 1, 1, none⟩ = some (.string ⟨#[]⟩) := HK2.out.cell 1
  have a2 : w2.cell? ⟨w.heap.size + 1, 2, none⟩ = some (.string ⟨#[]⟩) := HK2.out.cell 2
  have a3 : w2.cell? ⟨w.heap.size + 1, 3, none⟩ = some (.int .i64 0) := HK2.out.cell 3
  have a4 : w2.cell? ⟨w.heap.size + 1, 4, none⟩ = some (.slice (some ⟨w.heap.size, 0, none⟩) 4 4) := HK2.out.cell 4
  have l2 : w2.cell? ⟨w1.heap.size, 2, none⟩ = some (.string ⟨#[101]⟩) := HL2.out.cell 2
  have l3 : w2.cell? ⟨w1.heap.size, 3, none⟩ = some (.int .i64 9) := HL2.out.cell 3
  have r4 : w2.cell? ⟨w1.heap.size + 1, 4, none⟩ = some (.slice p2 2 c2) := HR2.out.cell 4
  go_wp2_with fail
  refine (check_any true ⟨#[]⟩ ⟨#[]⟩ 0 (some ⟨w.heap.size, 0, none⟩) 4 4 lv4 _ rfl HX2.out (by decide)).mono ?_
  rw [lv_may]
  rintro e w3 ⟨rfl, hb3⟩
  have HB3 : Hid (Below w.heap.size w w3) := HB2.out.trans (hb3.mono HB2.out.size)
  have HL3 : Hid (Bk w3 w1.heap.size 24 (pgc true ⟨#[]⟩ ⟨#[101]⟩ 9 p1 2 c1)) := HL2.out.below hb3 HL2.out.lt
  have HR3 : Hid (Bk w3 (w1.heap.size + 1) 24 (pgc true ⟨#[101]⟩ ⟨#[]⟩ 0 p2 2 c2)) := HR2.out.below hb3 HR2.out.lt
  clear hb3 a0 a1 a2 a3 a4 l2 l3 r4 HB2 HL2 HR2 HK2 HX2
  simp only [if_true]
  have a0 : w3.cell? ⟨w1.heap.size + 1, 0, none⟩ = some (.bool true) := HR3.out.cell 0
  have a1 : w3.cell? ⟨w1.heap.size + 1, 1, none⟩ = some (.string ⟨#[101]⟩) := HR3.out.cell 1
  have a2 : w3.cell? ⟨w1.heap.size + 1, 2, none⟩ = some (.string ⟨#[]⟩) := HR3.out.cell 2
  have a3 : w3.cell? ⟨w1.heap.size + 1, 3, none⟩ = some (.int .i64 0) := HR3.out.cell 3
  have a4 : w3.cell? ⟨w1.heap.size + 1, 4, none⟩ = some (.slice p2 2 c2) := HR3.out.cell 4
  go_wp2_with fail
  refine (has_any true ⟨#[101]⟩ ⟨#[]⟩ 0 p2 2 c2 _ ⟨#[102]⟩).mono ?_
  rw [lv_in]
  rintro e w4 ⟨rfl, hb4⟩
  have HB4 : Hid (Below w.heap.size w w4) := HB3.out.trans (hb4.mono HB3.out.size)
  have HL4 : Hid (Bk w4 w1.heap.size 24 (pgc true ⟨#[]⟩ ⟨#[101]⟩ 9 p1 2 c1)) := HL3.out.below hb4 HL3.out.lt
  clear hb4 a0 a1 a2 a3 a4 HB3 HL3 HR3
  have a0 : w4.cell? ⟨w1.heap.size, 0, none⟩ = some (.bool true) := HL4.out.cell 0
  have a1 : w4.cell? ⟨w1.heap.size, 1, none⟩ = some (.string ⟨#[]⟩) := HL4.out.cell 1
  have a2 : w4.cell? ⟨w1.heap.size, 2, none⟩ = some (.string ⟨#[101]⟩) := HL4.out.cell 2
  have a3 : w4.cell? ⟨w1.heap.size, 3, none⟩ = some (.int .i64 9) := HL4.out.cell 3
  have a4 : w4.cell? ⟨w1.heap.size, 4, none⟩ = some (.slice p1 2 c1) := HL4.out.cell 4
  go_wp2_with fail
  refine (has_any true ⟨#[]⟩ ⟨#[101]⟩ 9 p1 2 c1 _ ⟨#[102]⟩).mono ?_
  rw [lv_out]
  rintro e w5 ⟨rfl, hb5⟩
  have HB5 : Hid (Below w.heap.size w w5) := HB4.out.trans (hb5.mono HB4.out.size)
  clear hb5
  go_wp2
  go_ret
  exact ⟨rfl, HB5.out⟩

end Go.Proofs.Ytakibndjmhadnaa
