/- Find, in entries in whatever order (the code's). -/
import Derived.Test.YthpilennljpamaaGreatPgLu
namespace Go.Proofs.YthpilennljpamaaGreat
open Go.RowKit Go.Sort
set_option linter.unusedVariables false
set_option maxRecDepth 100000

set_option maxHeartbeats 2000000 in
theorem find_un (lo hi : ByteArray) (r : Int) (p : Option Addr) (len cap : Nat) (l : List En) (key : ByteArray) (w : World) (hlen : l.length = len) (hx : Ens w p l) (hl : len ≤ 4398046511104) (ho : ¬ Pg.Ord l) :
    Calls Tryz.prog 88 #[pgv false lo hi r p len cap, .string key] w fun e w' => (∃ out, e = .returned (fv out) ∧ Pg.Fnd false l key out) ∧ Below w.heap.size w w' := by
  have eg2 : ∀ args w, (callFunc 117 args).run Tryz.prog w = .ok (.enter 117 args) w := enters_of Tryz.func117 (by kernel_rfl) rfl
  obtain ⟨w0, hw0⟩ : ∃ w0, (w.alloc (.cells (pgc false lo hi r p len cap) 24)).alloc (.cells #[.string ⟨#[]⟩, .int .i64 0, .int .i64 0, .int .i64 0] 30) = w0 := ⟨_, rfl⟩
  have HB0 : Hid (Below w.heap.size w w0) := by rw [← hw0]; exact ((Below.refl _ _).alloc (Nat.le_refl _) _).alloc (by simp) _
  have HK0 : Hid (Bk w0 w.heap.size 24 (pgc false lo hi r p len cap)) := by rw [← hw0]; exact (Bk.new _ _ _).alloc _
  have HR0 : Hid (Bk w0 (w.heap.size + 1) 30 #[.string ⟨#[]⟩, .int .i64 0, .int .i64 0, .int .i64 0]) := by rw [← hw0]; exact Bk.new1 _ _ _ _
  have HX : Hid (Ens w p l) := hx
  have HL : Hid (l.length = len) := hlen
  have HO : Hid (¬ Pg.Ord l) := ho
  have HX0 : Hid (Ens w0 p l) := hx.below HB0.out (Nat.le_refl _)
  clear hx hlen ho
  have a0 : w0.cell? ⟨w.heap.size, 0, none⟩ = some (.bool false) := HK0.out.cell 0
  have a4 : w0.cell? ⟨w.heap.size, 4, none⟩ = some (.slice p len cap) := HK0.out.cell 4
  go_enter Tryz.func88, Tryz.ntmps88
  go_wp2_with (go_at_fn 117; refine (lastUpTo_un p len cap l key _ HL.out HX0.out hl HO.out).mono ?_; rintro e w1 ⟨⟨i, bb, rfl, hls⟩, hb1⟩; refine Hid.out ?_)
  unfold Hid
  clear hw0
  have HLS : Hid (Pg.Lst l key i bb) := hls
  have HB1 : Hid (Below w.heap.size w w1) := HB0.out.trans (hb1.mono HB0.out.size)
  have HK1 : Hid (Bk w1 w.heap.size 24 (pgc false lo hi r p len cap)) := HK0.out.below hb1 HK0.out.lt
  have HR1 : Hid (Bk w1 (w.heap.size + 1) 30 #[.string ⟨#[]⟩, .int .i64 0, .int .i64 0, .int .i64 0]) := HR0.out.below hb1 HR0.out.lt
  have HX1 : Hid (Ens w1 p l) := HX0.out.below hb1 (Nat.le_refl _)
  clear a0 a4 hls hb1
  have a4 : w1.cell? ⟨w.heap.size, 4, none⟩ = some (.slice p len cap) := HK1.out.cell 4
  have b0 : w1.cell? ⟨w.heap.size + 1, 0, none⟩ = some (.string ⟨#[]⟩) := HR1.out.cell 0
  have f0 : w1.frozen? ⟨w.heap.size + 1, 0, none⟩ = false := HR1.out.frozen 0
  have b1 : w1.cell? ⟨w.heap.size + 1, 1, none⟩ = some (.int .i64 0) := HR1.out.cell 1
  have f1 : w1.frozen? ⟨w.heap.size + 1, 1, none⟩ = false := HR1.out.frozen 1
  have b2 : w1.cell? ⟨w.heap.size + 1, 2, none⟩ = some (.int .i64 0) := HR1.out.cell 2
  have f2 : w1.frozen? ⟨w.heap.size + 1, 2, none⟩ = false := HR1.out.frozen 2
  have b3 : w1.cell? ⟨w.heap.size + 1, 3, none⟩ = some (.int .i64 0) := HR1.out.cell 3
  have f3 : w1.frozen? ⟨w.heap.size + 1, 3, none⟩ = false := HR1.out.frozen 3
  cases bb with
  | true =>
    obtain ⟨k, x, hik, hg, hq, hj⟩ := HLS.out.1 rfl
    subst hik
    have HF : Hid (Pg.Fnd false l key (some x)) := ⟨(fun h => by cases h), fun _ => .inl ⟨k, x, rfl, hg, hq, hj⟩⟩
    have hlt : k < l.length := (List.getElem?_eq_some_iff.1 hg).1
    have hki : (k : Int) < (len : Int) := by have := HL.out; omega
    have hk0 : (0 : Int) ≤ (k : Int) := by omega
    obtain ⟨b, o, x', rfl, hg', hblt, c0, c1, c2, c3⟩ := HX1.out.at (j := k) hlt
    rw [hg] at hg'
    cases hg'
    obtain ⟨xk, xs, xg, xc⟩ := x
    simp only at c0 c1 c2 c3
    clear hg hlt hq hj
    go_wp2
    obtain ⟨we, hwe⟩ : ∃ we, we = put4 w1 (w.heap.size + 1) (.string xk) (.int .i64 xs) (.int .i64 xg) (.int .i64 xc) := ⟨_, rfl⟩
    have hA : Bk we (w.heap.size + 1) 30 #[.string xk, .int .i64 xs, .int .i64 xg, .int .i64 xc] := by rw [hwe]; exact HR1.out.four _ _ _ _
    have ht : Tn [w.heap.size + 1] w1 we := by rw [hwe]; exact (Tn.refl _ _).four (.inl (by simp)) _ _ _ _
    unfold put4 at hwe
    rw [← hwe]
    clear hwe
    refine bodyPost_ret (results_two (cs := [.string xk, .int .i64 xs, .int .i64 xg, .int .i64 xc]) rfl rfl en_agg en_size rfl hA) rfl ?_
    exact ⟨⟨_, rfl, HF.out⟩, HB1.out.trans (ht.below HB1.out.size (by simp))⟩
  | false =>
    have HF : Hid (Pg.Fnd false l key none) := ⟨(fun h => by cases h), fun _ => .inr ⟨rfl, HLS.out.2 rfl⟩⟩
    go_wp2
    obtain ⟨we, hwe⟩ : ∃ we, we = put4 w1 (w.heap.size + 1) (.string ⟨#[]⟩) (.int .i64 0) (.int .i64 0) (.int .i64 0) := ⟨_, rfl⟩
    have hA : Bk we (w.heap.size + 1) 30 #[.string ⟨#[]⟩, .int .i64 0, .int .i64 0, .int .i64 0] := by rw [hwe]; exact HR1.out.four _ _ _ _
    have ht : Tn [w.heap.size + 1] w1 we := by rw [hwe]; exact (Tn.refl _ _).four (.inl (by simp)) _ _ _ _
    unfold put4 at hwe
    rw [← hwe]
    clear hwe
    refine bodyPost_ret (results_two (cs := [.string ⟨#[]⟩, .int .i64 0, .int .i64 0, .int .i64 0]) rfl rfl en_agg en_size rfl hA) rfl ?_
    exact ⟨⟨none, rfl, HF.out⟩, HB1.out.trans (ht.below HB1.out.size (by simp))⟩

theorem find_any (leaf : Bool) (lo hi : ByteArray) (r : Int) (p : Option Addr) (len cap : Nat) (l : List En) (key : ByteArray) (w : World) (hlen : l.length = len) (hx : Ens w p l) (hl : len ≤ 4398046511104) :
    Calls Tryz.prog 88 #[pgv leaf lo hi r p len cap, .string key] w fun e w' => (∃ out, e = .returned (fv out) ∧ Pg.Fnd leaf l key out) ∧ Below w.heap.size w w' := by
  by_cases h : leaf = false → Pg.Ord l
  · refine (find_ord leaf lo hi r p len cap l key w hlen hx hl h).mono ?_
    rintro e w' ⟨rfl, hb⟩
    exact ⟨⟨_, rfl, Pg.Fnd.ord h⟩, hb⟩
  · obtain ⟨rfl, h2⟩ := Classical.not_imp.1 h
    exact find_un lo hi r p len cap l key w hlen hx hl h2

end Go.Proofs.YthpilennljpamaaGreat
