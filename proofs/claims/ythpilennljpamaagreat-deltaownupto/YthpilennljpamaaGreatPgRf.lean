/- A page's copy (the document's). -/
import Derived.Test.YthpilennljpamaaGreatPgMg
import Derived.Deep.RegionHeld3
namespace Go.Proofs.YthpilennljpamaaGreat
open Go.RowKit Go.Sort
set_option linter.unusedVariables false
set_option maxRecDepth 100000

set_option maxHeartbeats 1000000 in
theorem rclone_any (leaf : Bool) (lo hi : ByteArray) (r : Int) (p : Option Addr) (len cap : Nat) (l : List En) (w : World) (hlen : l.length = len) (hx : Ens w p l) (hl : len ≤ 3518437208782) (hp : p = none → len = 0 ∧ cap = 0) :
    Calls Tryz.prog 9 #[pgv leaf lo hi r p len cap] w fun e w' => ∃ p' cap', e = .returned (pgv leaf lo hi r p' len cap') ∧ OwnE w' w.heap.size (.slice p' len cap') l ∧ Below w.heap.size w w' := by
  obtain ⟨w0, hw0⟩ : ∃ w0, (w.alloc (.cells (pgc leaf lo hi r p len cap) 24)).alloc (.cells #[.bool false, .string ⟨#[]⟩, .string ⟨#[]⟩, .int .i64 0, .slice none 0 0] 24) = w0 := ⟨_, rfl⟩
  have HB0 : Hid (Below w.heap.size w w0) := by rw [← hw0]; exact ((Below.refl _ _).alloc (Nat.le_refl _) _).alloc (by simp) _
  have HK0 : Hid (Bk w0 w.heap.size 24 (pgc leaf lo hi r p len cap)) := by rw [← hw0]; exact (Bk.new _ _ _).alloc _
  have HR0 : Hid (Bk w0 (w.heap.size + 1) 24 #[.bool false, .string ⟨#[]⟩, .string ⟨#[]⟩, .int .i64 0, .slice none 0 0]) := by rw [← hw0]; exact Bk.new1 _ _ _ _
  have HL : Hid (l.length = len) := hlen
  obtain ⟨v1, w1, hr, ho, hg, hor⟩ := run_appE w0 w0.heap.size 22 (.slice none 0 0) [] l p len cap hlen (hx.below HB0.out (Nat.le_refl _)) hp (OwnE.nil _ _) (by simp; omega) (Nat.le_refl _)
  have hb : Below w0.heap.size w0 w1 := (Below.refl _ _).grown hg (Nat.le_refl _) (fun k hk => by cases hk)
  rw [List.nil_append] at ho
  obtain ⟨q, c, rfl, -, -⟩ := ho.ens
  have HR : Hid _ := hr
  have HO : Hid (OwnE w1 w0.heap.size (.slice q l.length c) l) := ho
  have HB1 : Hid (Below w.heap.size w w1) := HB0.out.trans (hb.mono HB0.out.size)
  have HK1 : Hid (Bk w1 w.heap.size 24 (pgc leaf lo hi r p len cap)) := HK0.out.below hb HK0.out.lt
  have HR1 : Hid (Bk w1 (w.heap.size + 1) 24 #[.bool false, .string ⟨#[]⟩, .string ⟨#[]⟩, .int .i64 0, .slice none 0 0]) := HR0.out.below hb HR0.out.lt
  have HS0 : Hid (w.heap.size + 1 < w0.heap.size) := HR0.out.lt
  rw [hlen] at HO HR
  clear ho hb hr hg hor hx hlen hp
  have k4 : w0.cell? ⟨w.heap.size, 4, none⟩ = some (.slice p len cap) := HK0.out.cell 4
  have a0 : w1.cell? ⟨w.heap.size, 0, none⟩ = some (.bool leaf) := HK1.out.cell 0
  have a1 : w1.cell? ⟨w.heap.size, 1, none⟩ = some (.string lo) := HK1.out.cell 1
  have a2 : w1.cell? ⟨w.heap.size, 2, none⟩ = some (.string hi) := HK1.out.cell 2
  have a3 : w1.cell? ⟨w.heap.size, 3, none⟩ = some (.int .i64 r) := HK1.out.cell 3
  have a4 : w1.cell? ⟨w.heap.size, 4, none⟩ = some (.slice p len cap) := HK1.out.cell 4
  have f4 : w1.frozen? ⟨w.heap.size, 4, none⟩ = false := HK1.out.frozen 4
  have b0 : w1.cell? ⟨w.heap.size + 1, 0, none⟩ = some (.bool false) := HR1.out.cell 0
  have b1 : w1.cell? ⟨w.heap.size + 1, 1, none⟩ = some (.string ⟨#[]⟩) := HR1.out.cell 1
  have b2 : w1.cell? ⟨w.heap.size + 1, 2, none⟩ = some (.string ⟨#[]⟩) := HR1.out.cell 2
  have b3 : w1.cell? ⟨w.heap.size + 1, 3, none⟩ = some (.int .i64 0) := HR1.out.cell 3
  have b4 : w1.cell? ⟨w.heap.size + 1, 4, none⟩ = some (.slice none 0 0) := HR1.out.cell 4
  have g0 : w1.frozen? ⟨w.heap.size + 1, 0, none⟩ = false := HR1.out.frozen 0
  have g1 : w1.frozen? ⟨w.heap.size + 1, 1, none⟩ = false := HR1.out.frozen 1
  have g2 : w1.frozen? ⟨w.heap.size + 1, 2, none⟩ = false := HR1.out.frozen 2
  have g3 : w1.frozen? ⟨w.heap.size + 1, 3, none⟩ = false := HR1.out.frozen 3
  have g4 : w1.frozen? ⟨w.heap.size + 1, 4, none⟩ = false := HR1.out.frozen 4
  go_enter Tryz.func9, Tryz.ntmps9
  go_wp2_with (at_builtin; refine Lib.wpList_append_run _ rfl _ _ _ _ rfl _ _ rfl rfl _ _ HR.out ?_)
  refine bodyPost_ret (results_one (cs := [.bool leaf, .string lo, .string hi, .int .i64 r, .slice q len c]) rfl rfl pg_agg pg_size rfl (((HR1.out.other (p := ⟨w.heap.size, 4, none⟩) (by simp) _).five _ _ _ _ _))) rfl ?_
  have ht : Tn [w.heap.size, w.heap.size + 1] w1 (put5 (w1.setCell ⟨w.heap.size, 4, none⟩ (.slice q len c)) (w.heap.size + 1) (.bool leaf) (.string lo) (.string hi) (.int .i64 r) (.slice q len c)) :=
    ((Tn.refl _ _).setCell (p := ⟨w.heap.size, 4, none⟩) (.inl (by simp)) _).five (.inl (by simp)) _ _ _ _ _
  have hs0 := HS0.out
  refine ⟨q, c, rfl, (HO.out.tn ht (by simp; omega)).mono HB0.out.size, HB1.out.trans (ht.below HB1.out.size (by simp))⟩

end Go.Proofs.YthpilennljpamaaGreat
