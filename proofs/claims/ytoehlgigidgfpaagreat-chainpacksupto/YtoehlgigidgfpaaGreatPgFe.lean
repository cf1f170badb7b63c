/- Find, in entries that are in order (the code's). -/
import Derived.Test.YtoehlgigidgfpaaGreatPgFd
namespace Go.Proofs.YtoehlgigidgfpaaGreat
open Go.RowKit Go.Sort
set_option linter.unusedVariables false
set_option maxRecDepth 100000

/-- Four cells of a block written. -/
abbrev put4 (w : World) (R : Nat) (a b c d : Value) : World := (((w.setCell ⟨R, 0, none⟩ a).setCell ⟨R, 1, none⟩ b).setCell ⟨R, 2, none⟩ c).setCell ⟨R, 3, none⟩ d
theorem Bk.four {w : World} {R : Nat} {T : TypeId} {x0 x1 x2 x3 : Value} (h : Bk w R T #[x0, x1, x2, x3]) (a b c d : Value) : Bk (put4 w R a b c d) R T #[a, b, c, d] := by
  have := (((h.set 0 a).set 1 b).set 2 c).set 3 d
  simpa using this
theorem Tn.four {S : List Nat} {a0 w : World} (h : Tn S a0 w) {R : Nat} (hp : R ∈ S ∨ a0.heap.size ≤ R) (a b c d : Value) : Tn S a0 (put4 w R a b c d) :=
  (((h.setCell (p := ⟨R, 0, none⟩) hp a).setCell (p := ⟨R, 1, none⟩) hp b).setCell (p := ⟨R, 2, none⟩) hp c).setCell (p := ⟨R, 3, none⟩) hp d

/-- What a page has of a key. -/
def Pg.find (leaf : Bool) (l : List En) (key : ByteArray) : Option En :=
  if leaf then (if l.any (Pg.is key) then l[l.findIdx (Pg.is key)]? else none)
  else (if 0 < Pg.upto key l then l[Pg.upto key l - 1]? else none)

/-- What is answered of a key. -/
abbrev fv (o : Option En) : Value := .tuple #[(o.getD En.zero).val, .bool o.isSome]

set_option maxHeartbeats 2000000 in
theorem find_ord (leaf : Bool) (lo hi : ByteArray) (r : Int) (p : Option Addr) (len cap : Nat) (l : List En) (key : ByteArray) (w : World) (hlen : l.length = len) (hx : Ens w p l) (hl : len ≤ 4398046511104) (ho : leaf = false → Pg.Ord l) :
    Calls Tryz.prog 138 #[pgv leaf lo hi r p len cap, .string key] w fun e w' => e = .returned (fv (Pg.find leaf l key)) ∧ Below w.heap.size w w' := by
  have eg1 : ∀ args w, (callFunc 160 args).run Tryz.prog w = .ok (.enter 160 args) w := enters_of Tryz.func160 (by kernel_rfl) rfl
  have eg2 : ∀ args w, (callFunc 159 args).run Tryz.prog w = .ok (.enter 159 args) w := enters_of Tryz.func159 (by kernel_rfl) rfl
  obtain ⟨w0, hw0⟩ : ∃ w0, (w.alloc (.cells (pgc leaf lo hi r p len cap) 29)).alloc (.cells #[.string ⟨#[]⟩, .int .i64 0, .int .i64 0, .int .i64 0] 33) = w0 := ⟨_, rfl⟩
  have HB0 : Hid (Below w.heap.size w w0) := by rw [← hw0]; exact ((Below.refl _ _).alloc (Nat.le_refl _) _).alloc (by simp) _
  have HK0 : Hid (Bk w0 w.heap.size 29 (pgc leaf lo hi r p len cap)) := by rw [← hw0]; exact (Bk.new _ _ _).alloc _
  have HR0 : Hid (Bk w0 (w.heap.size + 1) 33 #[.string ⟨#[]⟩, .int .i64 0, .int .i64 0, .int .i64 0]) := by rw [← hw0]; exact Bk.new1 _ _ _ _
  have HX : Hid (Ens w p l) := hx
  have HL : Hid (l.length = len) := hlen
  have HO : Hid (leaf = false → Pg.Ord l) := ho
  have HX0 : Hid (Ens w0 p l) := hx.below HB0.out (Nat.le_refl _)
  clear hx hlen ho
  obtain ⟨out, HV⟩ : ∃ out, Hid (Pg.find leaf l key = out) := ⟨_, rfl⟩
  rw [HV.out]
  have a0 : w0.cell? ⟨w.heap.size, 0, none⟩ = some (.bool leaf) := HK0.out.cell 0
  have a4 : w0.cell? ⟨w.heap.size, 4, none⟩ = some (.slice p len cap) := HK0.out.cell 4
  cases leaf with
  | true =>
    have HF : Hid (out = if l.any (Pg.is key) then l[l.findIdx (Pg.is key)]? else none) := HV.out.symm
    go_enter Tryz.func138, Tryz.ntmps138
    go_wp2_with (go_at_fn 160; refine (withKey_any p len cap l key _ HL.out HX0.out hl).mono ?_; rintro e w1 ⟨k, rfl, hk, hb1⟩; refine Hid.out ?_)
    unfold Hid
    clear hw0
    have HB1 : Hid (Below w.heap.size w w1) := HB0.out.trans (hb1.mono HB0.out.size)
    have HK1 : Hid (Bk w1 w.heap.size 29 (pgc true lo hi r p len cap)) := HK0.out.below hb1 HK0.out.lt
    have HR1 : Hid (Bk w1 (w.heap.size + 1) 33 #[.string ⟨#[]⟩, .int .i64 0, .int .i64 0, .int .i64 0]) := HR0.out.below hb1 HR0.out.lt
    have HX1 : Hid (Ens w1 p l) := HX0.out.below hb1 (Nat.le_refl _)
    clear a0 a4
    have a4 : w1.cell? ⟨w.heap.size, 4, none⟩ = some (.slice p len cap) := HK1.out.cell 4
    have b0 : w1.cell? ⟨w.heap.size + 1, 0, none⟩ = some (.string ⟨#[]⟩) := HR1.out.cell 0
    have f0 : w1.frozen? ⟨w.heap.size + 1, 0, none⟩ = false := HR1.out.frozen 0
    have b1 : w1.cell? ⟨w.heap.size + 1, 1, none⟩ = some (.int .i64 0) := HR1.out.cell 1
    have f1 : w1.frozen? ⟨w.heap.size + 1, 1, none⟩ = false := HR1.out.frozen 1
    have b2 : w1.cell? ⟨w.heap.size + 1, 2, none⟩ = some (.int .i64 0) := HR1.out.cell 2
    have f2 : w1.frozen? ⟨w.heap.size + 1, 2, none⟩ = false := HR1.out.frozen 2
    have b3 : w1.cell? ⟨w.heap.size + 1, 3, none⟩ = some (.int .i64 0) := HR1.out.cell 3
    have f3 : w1.frozen? ⟨w.heap.size + 1, 3, none⟩ = false := HR1.out.frozen 3
    cases hv : l.any (Pg.is key) with
    | false =>
      rw [hv] at HF
      have HF : Hid (out = none) := HF.out
      clear hk hb1 hv
      go_wp2
      obtain ⟨we, hwe⟩ : ∃ we, we = put4 w1 (w.heap.size + 1) (.string ⟨#[]⟩) (.int .i64 0) (.int .i64 0) (.int .i64 0) := ⟨_, rfl⟩
      have hA : Bk we (w.heap.size + 1) 33 #[.string ⟨#[]⟩, .int .i64 0, .int .i64 0, .int .i64 0] := by rw [hwe]; exact HR1.out.four _ _ _ _
      have ht : Tn [w.heap.size + 1] w1 we := by rw [hwe]; exact (Tn.refl _ _).four (.inl (by simp)) _ _ _ _
      unfold put4 at hwe
      rw [← hwe]
      clear hwe
      refine bodyPost_ret (results_two (cs := [.string ⟨#[]⟩, .int .i64 0, .int .i64 0, .int .i64 0]) rfl rfl en_agg en_size rfl hA) rfl ?_
      rw [HF.out]
      exact ⟨rfl, HB1.out.trans (ht.below HB1.out.size (by simp))⟩
    | true =>
      rw [hv] at HF
      have hk' := hk hv
      subst hk'
      have hlt : l.findIdx (Pg.is key) < l.length := List.findIdx_lt_length_of_exists (by obtain ⟨x, h1, h2⟩ := List.any_eq_true.1 hv; exact ⟨x, h1, h2⟩)
      obtain ⟨k, hkk⟩ : ∃ k, l.findIdx (Pg.is key) = k := ⟨_, rfl⟩
      rw [hkk] at HF hlt ⊢
      have HG : out = l[k]? := by have := HF.out; simpa using this
      clear HF
      have HF : Hid (out = l[k]?) := HG
      clear HG hk hb1 hv hkk
      have hki : (k : Int) < (len : Int) := by have := HL.out; omega
      have hk0 : (0 : Int) ≤ (k : Int) := by omega
      obtain ⟨b, o, x, rfl, hg, hblt, c0, c1, c2, c3⟩ := HX1.out.at (j := k) hlt
      rw [hg] at HF
      obtain ⟨xk, xs, xg, xc⟩ := x
      simp only at c0 c1 c2 c3
      clear hg hlt
      go_wp2
      obtain ⟨we, hwe⟩ : ∃ we, we = put4 w1 (w.heap.size + 1) (.string xk) (.int .i64 xs) (.int .i64 xg) (.int .i64 xc) := ⟨_, rfl⟩
      have hA : Bk we (w.heap.size + 1) 33 #[.string xk, .int .i64 xs, .int .i64 xg, .int .i64 xc] := by rw [hwe]; exact HR1.out.four _ _ _ _
      have ht : Tn [w.heap.size + 1] w1 we := by rw [hwe]; exact (Tn.refl _ _).four (.inl (by simp)) _ _ _ _
      unfold put4 at hwe
      rw [← hwe]
      clear hwe
      refine bodyPost_ret (results_two (cs := [.string xk, .int .i64 xs, .int .i64 xg, .int .i64 xc]) rfl rfl en_agg en_size rfl hA) rfl ?_
      rw [HF.out]
      exact ⟨rfl, HB1.out.trans (ht.below HB1.out.size (by simp))⟩
  | false =>
    have HF : Hid (out = if 0 < Pg.upto key l then l[Pg.upto key l - 1]? else none) := HV.out.symm
    have HOR : Hid (Pg.Ord l) := HO.out rfl
    have hul : Pg.upto key l ≤ l.length := List.findIdx_le_length
    obtain ⟨u, hu⟩ : ∃ u, Pg.upto key l = u := ⟨_, rfl⟩
    have HU : Hid (Pg.upto key l = u) := hu
    rw [hu] at HF hul
    clear hu
    go_enter Tryz.func138, Tryz.ntmps138
    go_wp2_with (go_at_fn 159; refine (lastUpTo_ord p len cap l key _ HL.out HX0.out hl HOR.out).mono ?_; rw [HU.out]; rintro e w1 ⟨rfl, hb1⟩; refine Hid.out ?_)
    unfold Hid
    clear hw0
    have HB1 : Hid (Below w.heap.size w w1) := HB0.out.trans (hb1.mono HB0.out.size)
    have HK1 : Hid (Bk w1 w.heap.size 29 (pgc false lo hi r p len cap)) := HK0.out.below hb1 HK0.out.lt
    have HR1 : Hid (Bk w1 (w.heap.size + 1) 33 #[.string ⟨#[]⟩, .int .i64 0, .int .i64 0, .int .i64 0]) := HR0.out.below hb1 HR0.out.lt
    have HX1 : Hid (Ens w1 p l) := HX0.out.below hb1 (Nat.le_refl _)
    clear a0 a4
    have a4 : w1.cell? ⟨w.heap.size, 4, none⟩ = some (.slice p len cap) := HK1.out.cell 4
    have b0 : w1.cell? ⟨w.heap.size + 1, 0, none⟩ = some (.string ⟨#[]⟩) := HR1.out.cell 0
    have f0 : w1.frozen? ⟨w.heap.size + 1, 0, none⟩ = false := HR1.out.frozen 0
    have b1 : w1.cell? ⟨w.heap.size + 1, 1, none⟩ = some (.int .i64 0) := HR1.out.cell 1
    have f1 : w1.frozen? ⟨w.heap.size + 1, 1, none⟩ = false := HR1.out.frozen 1
    have b2 : w1.cell? ⟨w.heap.size + 1, 2, none⟩ = some (.int .i64 0) := HR1.out.cell 2
    have f2 : w1.frozen? ⟨w.heap.size + 1, 2, none⟩ = false := HR1.out.frozen 2
    have b3 : w1.cell? ⟨w.heap.size + 1, 3, none⟩ = some (.int .i64 0) := HR1.out.cell 3
    have f3 : w1.frozen? ⟨w.heap.size + 1, 3, none⟩ = false := HR1.out.frozen 3
    by_cases hv : 0 < u
    · rw [if_pos hv] at HF
      rw [decide_eq_true hv]
      obtain ⟨k, hkk⟩ : ∃ k, u = k + 1 := ⟨u - 1, by omega⟩
      subst hkk
      have HF : Hid (out = l[k]?) := HF.out
      have hlt : k < l.length := by omega
      rw [show ((k + 1 : Nat) : Int) - 1 = (k : Int) by omega]
      clear hb1 hv hul
      have hki : (k : Int) < (len : Int) := by have := HL.out; omega
      have hk0 : (0 : Int) ≤ (k : Int) := by omega
      obtain ⟨b, o, x, rfl, hg, hblt, c0, c1, c2, c3⟩ := HX1.out.at (j := k) hlt
      rw [hg] at HF
      obtain ⟨xk, xs, xg, xc⟩ := x
      simp only at c0 c1 c2 c3
      clear hg hlt
      go_wp2
      obtain ⟨we, hwe⟩ : ∃ we, we = put4 w1 (w.heap.size + 1) (.string xk) (.int .i64 xs) (.int .i64 xg) (.int .i64 xc) := ⟨_, rfl⟩
      have hA : Bk we (w.heap.size + 1) 33 #[.string xk, .int .i64 xs, .int .i64 xg, .int .i64 xc] := by rw [hwe]; exact HR1.out.four _ _ _ _
      have ht : Tn [w.heap.size + 1] w1 we := by rw [hwe]; exact (Tn.refl _ _).four (.inl (by simp)) _ _ _ _
      unfold put4 at hwe
      rw [← hwe]
      clear hwe
      refine bodyPost_ret (results_two (cs := [.string xk, .int .i64 xs, .int .i64 xg, .int .i64 xc]) rfl rfl en_agg en_size rfl hA) rfl ?_
      rw [HF.out]
      exact ⟨rfl, HB1.out.trans (ht.below HB1.out.size (by simp))⟩
    · rw [if_neg hv] at HF
      rw [decide_eq_false hv]
      have HF : Hid (out = none) := HF.out
      clear hb1 hv hul
      go_wp2
      obtain ⟨we, hwe⟩ : ∃ we, we = put4 w1 (w.heap.size + 1) (.string ⟨#[]⟩) (.int .i64 0) (.int .i64 0) (.int .i64 0) := ⟨_, rfl⟩
      have hA : Bk we (w.heap.size + 1) 33 #[.string ⟨#[]⟩, .int .i64 0, .int .i64 0, .int .i64 0] := by rw [hwe]; exact HR1.out.four _ _ _ _
      have ht : Tn [w.heap.size + 1] w1 we := by rw [hwe]; exact (Tn.refl _ _).four (.inl (by simp)) _ _ _ _
      unfold put4 at hwe
      rw [← hwe]
      clear hwe
      refine bodyPost_ret (results_two (cs := [.string ⟨#[]⟩, .int .i64 0, .int .i64 0, .int .i64 0]) rfl rfl en_agg en_size rfl hA) rfl ?_
      rw [HF.out]
      exact ⟨rfl, HB1.out.trans (ht.below HB1.out.size (by simp))⟩

end Go.Proofs.YtoehlgigidgfpaaGreat
