/- The page by many deltas, but for its entries (outline). -/
import Derived.Test.YthpilennljpamaaGreatDlL
namespace Go.Proofs.YthpilennljpamaaGreat
open Go.RowKit Go.Shelf Go.Sort
attribute [local go_sem] Oper.semAt_some
set_option linter.unusedVariables false
set_option maxRecDepth 100000

namespace Dl
/-- A page without its entries. -/
def hd (g : Pp) : Pp := ⟨g.leaf, g.lo, g.hi, g.r, []⟩
def stp (acc : Pp × Int) (d : De) : Pp × Int := if acc.2 = 0 then (hd (apply acc.1 d).1, (apply acc.1 d).2) else acc
/-- A page by deltas, the oldest one first, but for its entries. -/
def outl (g : Pp) (ds : List De) : Pp × Int := ds.foldl stp (hd g, 0)

theorem outl_snoc (g : Pp) (ds : List De) (d : De) : outl g (ds ++ [d]) = stp (outl g ds) d := by unfold outl; rw [List.foldl_append]; rfl

theorem stp_err (acc : Pp × Int) (ds : List De) (h : acc.2 ≠ 0) : ds.foldl stp acc = acc := by
  induction ds with
  | nil => rfl
  | cons d r ih =>
    rw [List.foldl_cons, show stp acc d = acc by unfold stp; rw [if_neg h]]
    exact ih

theorem outl_err (g : Pp) (pre rest : List De) (h : (outl g pre).2 ≠ 0) : outl g (pre ++ rest) = outl g pre := by
  unfold outl at h ⊢
  rw [List.foldl_append]
  exact stp_err _ _ h

theorem hd_nil (g : Pp) (ds : List De) : (outl g ds).1.l = [] := by
  unfold outl
  have : ∀ (acc : Pp × Int), acc.1.l = [] → (ds.foldl stp acc).1.l = [] := by
    induction ds with
    | nil => exact fun _ h => h
    | cons d r ih =>
      intro acc h
      rw [List.foldl_cons]
      refine ih _ ?_
      unfold stp
      split
      · rfl
      · exact h
  exact this _ rfl
end Dl

theorem Tn.widen {S : List Nat} {X Y : World} (h : Tn [] X Y) : Tn S X Y := ⟨h.os, h.tape, h.output, h.size, fun k hk _ => h.block k hk (by simp)⟩

/-- Between the rounds of outline. -/
structure Ol (w W : World) (B : Nat) (g : Pp) (pre : List (Nat × Dm)) : Prop where
  b1 : Bk W (w.heap.size + 1) 24 zc
  b2 : Bk W (w.heap.size + 1 + 1) 24 (pgc (Dl.outl g (pre.map (·.2.d))).1.leaf (Dl.outl g (pre.map (·.2.d))).1.lo (Dl.outl g (pre.map (·.2.d))).1.hi (Dl.outl g (pre.map (·.2.d))).1.r none 0 0)
  ok : (Dl.outl g (pre.map (·.2.d))).2 = 0
  below : Below w.heap.size w W
  sz : B ≤ W.heap.size

theorem Ol.abides {w W W' : World} {B : Nat} {g : Pp} {pre : List (Nat × Dm)} {row : Option Nat} {k : Nat} (h : Ol w W B g pre) (hm : w.heap.size ≤ k) (hg : W.grownBy W' row) (hr : ∀ r, row = some r → k ≤ r ∧ ∃ o : Obj, W.heap[r]? = some o ∧ o.isCells = false) : Ol w W' B g pre where
  b1 := bk_from h.b1 hg hr
  b2 := bk_from h.b2 hg hr
  ok := h.ok
  below := h.below.grown hg h.below.size (fun k hk => by have := (hr k hk).1; omega)
  sz := Nat.le_trans h.sz hg.size
theorem Ol.still {w W W' : World} {B : Nat} {g : Pp} {pre : List (Nat × Dm)} (h : Ol w W B g pre) (ht : Tn [] W W') : Ol w W' B g pre where
  b1 := h.b1.tn ht (by simp)
  b2 := h.b2.tn ht (by simp)
  ok := h.ok
  below := h.below.trans (ht.below h.below.size (by simp))
  sz := Nat.le_trans h.sz ht.size

set_option maxHeartbeats 4000000 in
theorem outline_any (g : Pp) (pp : Option Addr) (pn pc : Nat) (p : Option Addr) (len cap : Nat) (L : List Dm) (w : World) (hL : L.length = len) (hl : len ≤ 4398046511104) (hD : Des w p L) :
    Calls Tryz.prog 53 #[pgv g.leaf g.lo g.hi g.r pp pn pc, .slice p len cap] w fun e w' =>
      (((Dl.outl g (L.map (·.d)).reverse).2 = 0 ∧ e = .returned (pgv (Dl.outl g (L.map (·.d)).reverse).1.leaf (Dl.outl g (L.map (·.d)).reverse).1.lo (Dl.outl g (L.map (·.d)).reverse).1.hi (Dl.outl g (L.map (·.d)).reverse).1.r none 0 0)) ∨
        ((Dl.outl g (L.map (·.d)).reverse).2 ≠ 0 ∧ e = pan (Dl.outl g (L.map (·.d)).reverse).2)) ∧ Below w.heap.size w w' := by
  refine calls_of_wpAt Tryz.func53 rfl ?_
  simp only [Tryz.ntmps53, List.size_toArray, List.length_cons, List.length_nil, Nat.reduceAdd, Nat.reduceSub, Array.replicate_succ, Array.replicate_zero, List.push_toArray, List.append_toArray, List.nil_append, List.cons_append]
  obtain ⟨out, HOUT⟩ : ∃ out, Hid (Dl.outl g (L.map (·.d)).reverse = out) := ⟨_, rfl⟩
  rw [HOUT.out]
  have HOB : Hid (Dl.outl g ((Dl.bw L).map (·.2.d)) = out) := by rw [Hid, Dl.bw_map]; exact HOUT.out
  have HOE : Hid (∀ pre, pre <+: Dl.bw L → (Dl.outl g (pre.map (·.2.d))).2 ≠ 0 → out = Dl.outl g (pre.map (·.2.d))) := by
    rintro pre ⟨t, ht⟩ h0
    rw [← HOB.out, ← ht, List.map_append]
    exact Dl.outl_err g _ _ h0
  have HD : Hid (Des w p L) := hD
  have HL : Hid (L.length = len) := hL
  clear hD hL HOUT
  obtain ⟨w1, hw1⟩ : ∃ w1, ((w.alloc (.cells (pgc g.leaf g.lo g.hi g.r pp pn pc) 24)).alloc (.cells zc 24)).alloc (.cells (pgc g.leaf g.lo g.hi g.r none 0 0) 24) = w1 := ⟨_, rfl⟩
  have HU1 : Hid (Ol w w1 0 g []) := by
    rw [← hw1]
    exact ⟨(Bk.new1 _ _ _ _).alloc _, Bk.new2 _ _ _ _ _, rfl, (((Below.refl _ _).alloc (Nat.le_refl _) _).alloc (by simp) _).alloc (by simp; omega) _, Nat.zero_le _⟩
  obtain ⟨gf, glo, ghi, gr, gl⟩ := g
  simp only at hw1
  replace hw1 := hw1.symm
  refine wpAt_seq_k fun K hK => wpAt_of_wp ?_
  go_wp2
  refine wpAt_seq_k fun K hK => wpAt_of_wp ?_
  go_wp2
  refine wpAt_seq_k fun K hK => wpAt_of_wp ?_
  go_wp2
  rw [← hw1]
  clear hw1
  refine wpAt_seq_k fun K hK => ?_
  have HK : Hid _ := hK
  clear hK
  refine wpAt_seq_k fun K2 hK2 => wpAt_of_wp ?_
  go_wp2_with fail
  refine (backD_any p len cap w1).mono ?_
  rintro e w2 ⟨rfl, hw2⟩
  have ht2 : Tn [] w1 w2 := by rw [hw2]; exact (Tn.refl _ _).alloc _
  have hU2 : Ol w w2 w2.heap.size ⟨gf, glo, ghi, gr, gl⟩ [] := { HU1.out.still ht2 with sz := Nat.le_refl _ }
  have hs1 : w.heap.size + 1 + 1 < w1.heap.size := HU1.out.b2.lt
  have hk2 : Bk w2 w1.heap.size 25 #[.slice p len cap] := by rw [hw2]; exact Bk.new _ _ _
  have hs2 : w1.heap.size < w2.heap.size := hk2.lt
  have hseq := backD_stops HL.out hl HD.out hk2 (Alike.of_below hU2.below) hU2.below.size
  have HDS : Hid (∀ W, Below w.heap.size w W → Des W p L) := fun W hW => HD.out.below hW (Nat.le_refl _)
  clear hw2 ht2 hk2
  go_wp2
  refine wpAt_block ?_
  refine wpAt_boxed ?A Tryz.func53 (gf := 93) (lb := #[.pointer (some ⟨w1.heap.size, 0, none⟩)]) rfl (enters_of Tryz.func93 (by kernel_rfl) rfl)
    hseq KpB.t (fun W l o o' hl _ _ _ => ⟨fun k hk => World.putObj_heap_other (by have := hU2.below.size; omega), World.putObj_heap_other (by omega)⟩) (Below.refl _ _) (fun _ => rfl)
    (fun pre W => Ol w W w2.heap.size ⟨gf, glo, ghi, gr, gl⟩ pre)
    (fun _ _ _ => False)
    (fun chain pre W => chain = [{ v := .iface 34 (.int .i64 (Dl.outl ⟨gf, glo, ghi, gr, gl⟩ (pre.map (·.2.d))).2), recovered := false }] ∧ (Dl.outl ⟨gf, glo, ghi, gr, gl⟩ (pre.map (·.2.d))).2 ≠ 0 ∧ Below w.heap.size w W)
    (fun s A B' row hs hg hr => hs.abides (k := w2.heap.size) (by omega) hg hr)
    (fun cc s A B row hs hg hr => hs.elim)
    hU2
    (fun x bx W => w2.heap.size ≤ bx ∧ Bk W bx 32 x.2.cells.toArray)
    (fun x bx _ A B' row hs hg hr => ⟨hs.1, bk_from hs.2 hg hr⟩)
    ?assign ?body ?done (fun D cc pre W _ _ h _ => h.elim) ?pan
  case assign =>
    rintro l pre x W K hL hK
    gi_wp2
    have ht : Tn [] W (W.alloc (.cells x.2.cells.toArray 32)) := (Tn.refl _ _).alloc _
    obtain ⟨bx, hbx⟩ : ∃ bx, W.heap.size = bx := ⟨_, rfl⟩
    have kx : Bk (W.alloc (.cells x.2.cells.toArray 32)) bx 32 x.2.cells.toArray := by rw [← hbx]; exact Bk.new _ _ _
    have hle : w2.heap.size ≤ bx := by have := hL.sz; omega
    have hws := hL.below.size
    rw [hbx]
    refine hK bx _ ((keeps_tn ht (by simp)).from _) ⟨fun k hk => ht.block k (by omega) (by simp), ht.block _ (by omega) (by simp)⟩ (hL.still ht) ⟨hle, kx⟩
  case pan =>
    rintro D chain pre W hD hpre ⟨rfl, hk0, hB⟩ hK
    refine ⟨by simp, .inl ⟨_, _, rfl, run_takeDeferred hK, ?_⟩⟩
    have ho := HOE.out pre hpre hk0
    refine ⟨.inr ⟨by rw [ho]; exact hk0, by rw [ho]⟩, hB.trans ⟨rfl, rfl, rfl, by simp, fun k hk => World.putObj_heap_other (by have := hU2.below.size; omega)⟩⟩
  case body =>
    rintro l pre x bx W hl2 hT ⟨hbx, kx⟩ hpre
    have hOk : x.2.Ok W := by
      have hx := Dl.bw_mem hpre
      obtain ⟨b, o, -, hc⟩ := HDS.out W hT.below (by have := (List.getElem?_eq_some_iff.1 hx).1; omega)
      exact (hc _ _ hx).2
    obtain ⟨xi, ⟨⟨dk, ⟨dek, des, deg, dec⟩, dkey, dpg, ⟨dleaf, dlo, dhi, dr, dl⟩⟩, dp, dn, dc⟩⟩ := x
    have HT : Hid (Ol w W w2.heap.size ⟨gf, glo, ghi, gr, gl⟩ pre) := hT
    have hlnil := Dl.hd_nil ⟨gf, glo, ghi, gr, gl⟩ (pre.map (·.2.d))
    have hsn := Dl.outl_snoc ⟨gf, glo, ghi, gr, gl⟩ (pre.map (·.2.d)) ⟨dk, ⟨dek, des, deg, dec⟩, dkey, dpg, ⟨dleaf, dlo, dhi, dr, dl⟩⟩
    have hok := hT.ok
    have hb2 := hT.b2
    obtain ⟨⟨⟨pf, plo, phi, pr, pl⟩, kk⟩, hG⟩ : ∃ o, Dl.outl ⟨gf, glo, ghi, gr, gl⟩ (pre.map (·.2.d)) = o := ⟨_, rfl⟩
    rw [hG] at hlnil hsn hok hb2
    simp only at hlnil hok hb2
    subst hlnil hok
    have hap := applied_any ⟨pf, plo, phi, pr, []⟩ ⟨dk, ⟨dek, des, deg, dec⟩, dkey, dpg, ⟨dleaf, dlo, dhi, dr, dl⟩⟩ none dp 0 0 dn dc W rfl (Ens.nil _ _) (by omega) (fun _ => ⟨rfl, rfl⟩) hOk.len hOk.ens (by have := hOk.room; simp only at this; omega) hOk.nil
    have HSN : Hid (Dl.outl ⟨gf, glo, ghi, gr, gl⟩ ((pre ++ [(xi, (⟨⟨dk, ⟨dek, des, deg, dec⟩, dkey, dpg, ⟨dleaf, dlo, dhi, dr, dl⟩⟩, dp, dn, dc⟩ : Dm))]).map (·.2.d)) = (Dl.hd (Dl.apply ⟨pf, plo, phi, pr, []⟩ ⟨dk, ⟨dek, des, deg, dec⟩, dkey, dpg, ⟨dleaf, dlo, dhi, dr, dl⟩⟩).1, (Dl.apply ⟨pf, plo, phi, pr, []⟩ ⟨dk, ⟨dek, des, deg, dec⟩, dkey, dpg, ⟨dleaf, dlo, dhi, dr, dl⟩⟩).2)) := by
      rw [Hid, List.map_append]
      refine hsn.trans ?_
      unfold Dl.stp
      rw [if_pos rfl]
    obtain ⟨res, hres⟩ : ∃ res, Dl.apply ⟨pf, plo, phi, pr, []⟩ ⟨dk, ⟨dek, des, deg, dec⟩, dkey, dpg, ⟨dleaf, dlo, dhi, dr, dl⟩⟩ = res := ⟨_, rfl⟩
    rw [hres] at hap HSN
    have HAP : Hid _ := hap
    have HB2 : Hid (Bk W (w.heap.size + 1 + 1) 24 #[.bool pf, .string plo, .string phi, .int .i64 pr, .slice none 0 0]) := hb2
    have HKX : Hid (Bk W bx 32 #[.int .i64 dk, .string dek, .int .i64 des, .int .i64 deg, .int .i64 dec, .string dkey, .int .i64 dpg, .bool dleaf, .string dlo, .string dhi, .int .i64 dr, .slice dp dn dc]) := kx
    clear hOk hT hsn hG hap hres hb2 kx
    have a0 : W.cell? ⟨w.heap.size + 1 + 1, 0, none⟩ = some (.bool pf) := HB2.out.cell 0
    have a1 : W.cell? ⟨w.heap.size + 1 + 1, 1, none⟩ = some (.string plo) := HB2.out.cell 1
    have a2 : W.cell? ⟨w.heap.size + 1 + 1, 2, none⟩ = some (.string phi) := HB2.out.cell 2
    have a3 : W.cell? ⟨w.heap.size + 1 + 1, 3, none⟩ = some (.int .i64 pr) := HB2.out.cell 3
    have a4 : W.cell? ⟨w.heap.size + 1 + 1, 4, none⟩ = some (.slice none 0 0) := HB2.out.cell 4
    have x0 : W.cell? ⟨bx, 0, none⟩ = some (.int .i64 dk) := HKX.out.cell 0
    have x1 : W.cell? ⟨bx, 1, none⟩ = some (.string dek) := HKX.out.cell 1
    have x2 : W.cell? ⟨bx, 2, none⟩ = some (.int .i64 des) := HKX.out.cell 2
    have x3 : W.cell? ⟨bx, 3, none⟩ = some (.int .i64 deg) := HKX.out.cell 3
    have x4 : W.cell? ⟨bx, 4, none⟩ = some (.int .i64 dec) := HKX.out.cell 4
    have x5 : W.cell? ⟨bx, 5, none⟩ = some (.string dkey) := HKX.out.cell 5
    have x6 : W.cell? ⟨bx, 6, none⟩ = some (.int .i64 dpg) := HKX.out.cell 6
    have x7 : W.cell? ⟨bx, 7, none⟩ = some (.bool dleaf) := HKX.out.cell 7
    have x8 : W.cell? ⟨bx, 8, none⟩ = some (.string dlo) := HKX.out.cell 8
    have x9 : W.cell? ⟨bx, 9, none⟩ = some (.string dhi) := HKX.out.cell 9
    have x10 : W.cell? ⟨bx, 10, none⟩ = some (.int .i64 dr) := HKX.out.cell 10
    have x11 : W.cell? ⟨bx, 11, none⟩ = some (.slice dp dn dc) := HKX.out.cell 11
    gi_wp2_with fail
    refine ⟨trivial, ?_⟩
    refine (CallsIn.inRound l (callsIn_wide.2 HAP.out)).mono ?_
    rintro e W3 ⟨hdone, hb3⟩
    clear a0 a1 a2 a3 a4
    clear x0 x1 x2 x3 x4 x5 x6 x7 x8 x9 x10 x11
    have hws := HT.out.below.size
    have hsz := HT.out.sz
    have HB3 : Hid (Bk W3 (w.heap.size + 1 + 1) 24 #[.bool pf, .string plo, .string phi, .int .i64 pr, .slice none 0 0]) := HB2.out.below hb3 HB2.out.lt
    have HT3 : Hid (Tn [] W W3) := Tn.of_below hb3 []
    clear hb3
    rcases hdone with ⟨hk0, v3, rfl, hg3⟩ | ⟨hk0, rfl⟩
    · obtain ⟨⟨Gf, Glo, Ghi, Gr, Gl⟩, kk⟩ := res
      simp only at hk0 hg3
      subst hk0
      obtain ⟨Gp, Gc, rfl, -⟩ := hg3.pv
      simp only
      clear hg3
      generalize Gl.length = Gn
      have b0 : W3.cell? ⟨w.heap.size + 1 + 1, 0, none⟩ = some (.bool pf) := HB3.out.cell 0
      have bf0 : W3.frozen? ⟨w.heap.size + 1 + 1, 0, none⟩ = false := HB3.out.frozen 0
      have b1 : W3.cell? ⟨w.heap.size + 1 + 1, 1, none⟩ = some (.string plo) := HB3.out.cell 1
      have bf1 : W3.frozen? ⟨w.heap.size + 1 + 1, 1, none⟩ = false := HB3.out.frozen 1
      have b2 : W3.cell? ⟨w.heap.size + 1 + 1, 2, none⟩ = some (.string phi) := HB3.out.cell 2
      have bf2 : W3.frozen? ⟨w.heap.size + 1 + 1, 2, none⟩ = false := HB3.out.frozen 2
      have b3 : W3.cell? ⟨w.heap.size + 1 + 1, 3, none⟩ = some (.int .i64 pr) := HB3.out.cell 3
      have bf3 : W3.frozen? ⟨w.heap.size + 1 + 1, 3, none⟩ = false := HB3.out.frozen 3
      have b4 : W3.cell? ⟨w.heap.size + 1 + 1, 4, none⟩ = some (.slice none 0 0) := HB3.out.cell 4
      have bf4 : W3.frozen? ⟨w.heap.size + 1 + 1, 4, none⟩ = false := HB3.out.frozen 4
      gi_wp2
      have ht : Tn [w.heap.size + 1 + 1] W _ := (((HT3.out.widen).five (R := w.heap.size + 1 + 1) (.inl (by simp)) (.bool Gf) (.string Glo) (.string Ghi) (.int .i64 Gr) (.slice Gp Gn Gc)).setCell (p := ⟨w.heap.size + 1 + 1, 4, none⟩) (.inl (by simp)) (.slice none 0 0))
      have k2 := (HB3.out.five (.bool Gf) (.string Glo) (.string Ghi) (.int .i64 Gr) (.slice Gp Gn Gc)).set 4 (.slice none 0 0)
      refine ⟨(keeps_tn ht (fun y hy => ?_)).from _, ⟨fun k hk => ht.block k (by omega) (by simp; omega), ht.block _ (by omega) (by simp; omega)⟩, ?_⟩
      · simp only [List.mem_cons, List.not_mem_nil, or_false] at hy
        subst hy
        exact ⟨_, HB2.out, rfl⟩
      · refine ⟨HT.out.b1.tn ht (by simp), ?_, by rw [HSN.out], HT.out.below.trans (ht.below hws (by simp; omega)), Nat.le_trans hsz ht.size⟩
        rw [HSN.out]
        exact k2
    · refine ⟨rfl, (keeps_tn HT3.out (by simp)).from _, ?_, ?_, HT.out.below.trans (HT3.out.below hws (by simp))⟩
      · rw [HSN.out]
      · rw [HSN.out]
        exact hk0
  case done =>
    rintro D zs W hD rfl hT hK
    have HT : Hid (Ol w W w2.heap.size ⟨gf, glo, ghi, gr, gl⟩ (Dl.bw L)) := hT
    have hb2 := hT.b2
    have hok := hT.ok
    rw [HOB.out] at hb2 hok
    obtain ⟨⟨pf, plo, phi, pr, pl⟩, kk⟩ := out
    simp only at hb2 hok
    have HB2 : Hid (Bk W (w.heap.size + 1 + 1) 24 #[.bool pf, .string plo, .string phi, .int .i64 pr, .slice none 0 0]) := hb2
    have HB1 : Hid (Bk W (w.heap.size + 1) 24 #[.bool false, .string ⟨#[]⟩, .string ⟨#[]⟩, .int .i64 0, .slice none 0 0]) := hT.b1
    subst hok
    clear hT hb2
    refine HK.out _ _ (wpAt_of_wp ?_)
    clear HK K
    have a0 : W.cell? ⟨w.heap.size + 1 + 1, 0, none⟩ = some (.bool pf) := HB2.out.cell 0
    have a1 : W.cell? ⟨w.heap.size + 1 + 1, 1, none⟩ = some (.string plo) := HB2.out.cell 1
    have a2 : W.cell? ⟨w.heap.size + 1 + 1, 2, none⟩ = some (.string phi) := HB2.out.cell 2
    have a3 : W.cell? ⟨w.heap.size + 1 + 1, 3, none⟩ = some (.int .i64 pr) := HB2.out.cell 3
    have a4 : W.cell? ⟨w.heap.size + 1 + 1, 4, none⟩ = some (.slice none 0 0) := HB2.out.cell 4
    have b0 : W.cell? ⟨w.heap.size + 1, 0, none⟩ = some (.bool false) := HB1.out.cell 0
    have bf0 : W.frozen? ⟨w.heap.size + 1, 0, none⟩ = false := HB1.out.frozen 0
    have b1 : W.cell? ⟨w.heap.size + 1, 1, none⟩ = some (.string ⟨#[]⟩) := HB1.out.cell 1
    have bf1 : W.frozen? ⟨w.heap.size + 1, 1, none⟩ = false := HB1.out.frozen 1
    have b2 : W.cell? ⟨w.heap.size + 1, 2, none⟩ = some (.string ⟨#[]⟩) := HB1.out.cell 2
    have bf2 : W.frozen? ⟨w.heap.size + 1, 2, none⟩ = false := HB1.out.frozen 2
    have b3 : W.cell? ⟨w.heap.size + 1, 3, none⟩ = some (.int .i64 0) := HB1.out.cell 3
    have bf3 : W.frozen? ⟨w.heap.size + 1, 3, none⟩ = false := HB1.out.frozen 3
    have b4 : W.cell? ⟨w.heap.size + 1, 4, none⟩ = some (.slice none 0 0) := HB1.out.cell 4
    have bf4 : W.frozen? ⟨w.heap.size + 1, 4, none⟩ = false := HB1.out.frozen 4
    go_wp2
    clear a0 a1 a2 a3 a4
    clear b0 bf0 b1 bf1 b2 bf2 b3 bf3 b4 bf4
    have hws := hU2.below.size
    have hne : D ≠ w.heap.size + 1 := by omega
    obtain ⟨we, hwe⟩ : ∃ we, we = put5 W (w.heap.size + 1) (.bool pf) (.string plo) (.string phi) (.int .i64 pr) (.slice none 0 0) := ⟨_, rfl⟩
    have k1 : Bk we (w.heap.size + 1) 24 #[.bool pf, .string plo, .string phi, .int .i64 pr, .slice none 0 0] := by rw [hwe]; exact HB1.out.five _ _ _ _ _
    have ht : Tn [w.heap.size + 1] W we := by rw [hwe]; exact (Tn.refl _ W).five (.inl (by simp)) _ _ _ _ _
    have hKe : we.heap[D]? = some (.deferred (some [])) := (ht.block D (Array.getElem?_eq_some_iff.1 hK).1 (by simp; omega)).trans hK
    unfold put5 at hwe
    rw [← hwe]
    clear hwe
    have k2 : Bk (we.putObj D (.deferred none)) (w.heap.size + 1) 24 #[.bool pf, .string plo, .string phi, .int .i64 pr, .slice none 0 0] := (World.putObj_heap_other (by omega)).trans k1
    refine ⟨by simp, .inl ⟨_, _, rfl, run_takeDeferred hKe, ?_⟩⟩
    refine ⟨_, results_one (T' := 24) (cs := [.bool pf, .string plo, .string phi, .int .i64 pr, .slice none 0 0]) rfl rfl pg_agg pg_size rfl k2, ?_⟩
    exact ⟨rfl, (HT.out.below.trans (ht.below HT.out.below.size (by simp))).trans ⟨rfl, rfl, rfl, by simp, fun k hk => World.putObj_heap_other (by omega)⟩⟩

end Go.Proofs.YthpilennljpamaaGreat
