/- What is handed in is left as it is, whatever is done to what Fold, Clone and Apply answer. -/
import Derived.Test.YthpilennljpamaaGreatPgBw
import Derived.Test.YthpilennljpamaaGreatDeltaOwnB
import Derived.Test.YthpilennljpamaaGreatPgCr
import Derived.WalkMore
import Derived.Test.YthpilennljpamaaGreatDlOpen
import Derived.Laws.Concat
import Derived.Test.YthpilennljpamaaGreatDlB
namespace Go.Proofs.YthpilennljpamaaGreat
open Go.RowKit Go.Shelf Go.Sort
attribute [local go_sem] Oper.semAt_some
set_option linter.unusedVariables false
set_option maxRecDepth 100000

/-- Between the rounds. -/
structure Lu (w W : World) (B : Nat) (key : ByteArray) (pre : List (Nat × En)) : Prop where
  b0 : Boxed W w.heap.size 9 (.string key)
  b1 : Boxed W (w.heap.size + 1) 3 (.int .i64 0)
  b2 : Boxed W (w.heap.size + 1 + 1) 4 (.bool false)
  below : Below w.heap.size w W
  pf : ∀ x ∈ pre, Ky.lt key x.2.key = true
  sz : B ≤ W.heap.size

section
variable {w W W' : World} {B : Nat} {key : ByteArray} {pre : List (Nat × En)}
theorem Lu.abides {row : Option Nat} {k : Nat} (h : Lu w W B key pre) (hm : w.heap.size ≤ k) (hg : W.grownBy W' row) (hr : ∀ r, row = some r → k ≤ r ∧ ∃ o : Obj, W.heap[r]? = some o ∧ o.isCells = false) : Lu w W' B key pre where
  b0 := boxed_from h.b0 hg hr
  b1 := boxed_from h.b1 hg hr
  b2 := boxed_from h.b2 hg hr
  below := h.below.grown hg h.below.size (fun k hk => by have := (hr k hk).1; omega)
  pf := h.pf
  sz := Nat.le_trans h.sz hg.size
theorem Lu.still (h : Lu w W B key pre) (ht : Tn [] W W') : Lu w W' B key pre where
  b0 := Bk.tn (show Bk W _ _ _ from h.b0) ht (by simp)
  b1 := Bk.tn (show Bk W _ _ _ from h.b1) ht (by simp)
  b2 := Bk.tn (show Bk W _ _ _ from h.b2) ht (by simp)
  below := h.below.trans (ht.below h.below.size (by simp))
  pf := h.pf
  sz := Nat.le_trans h.sz ht.size
theorem Lu.fin {S : List Nat} (h : Lu w W B key pre) (hS : ∀ b ∈ S, b ≠ w.heap.size + 1 ∧ b ≠ w.heap.size + 1 + 1 ∧ b < B) (ht : Tn [w.heap.size + 1, w.heap.size + 1 + 1] W W') : KeepsOthers W W' ∧ KpP S W W' ∧ Below w.heap.size w W' := by
  have hs := h.below.size
  refine ⟨keeps_tn ht (fun y hy => ?_), KpP.of_tn ht (fun y hy => ?_), h.below.trans (ht.below hs (fun y hy => ?_))⟩
  · simp only [List.mem_cons, List.not_mem_nil, or_false] at hy
    rcases hy with rfl | rfl
    · exact ⟨_, h.b1, rfl⟩
    · exact ⟨_, h.b2, rfl⟩
  · have := hS y hy
    have := h.sz
    simp only [List.mem_cons, List.not_mem_nil, or_false]
    omega
  · simp only [List.mem_cons, List.not_mem_nil, or_false] at hy
    omega
end

/-- What is answered of the last entry that is not above a key. -/
def Pg.Lst (l : List En) (key : ByteArray) (i : Int) (b : Bool) : Prop :=
  (b = true → ∃ (k : Nat) (x : En), i = k ∧ l[k]? = some x ∧ Ky.lt key x.key = false ∧ ∀ (j : Nat) (y : En), k < j → l[j]? = some y → Ky.lt key y.key = true) ∧
  (b = false → ∀ (j : Nat) (y : En), l[j]? = some y → Ky.lt key y.key = true)

set_option maxHeartbeats 4000000 in
theorem lastUpTo_un (p : Option Addr) (len cap : Nat) (l : List En) (key : ByteArray) (w : World) (hlen : l.length = len) (hx : Ens w p l) (hl : len ≤ 4398046511104) (ho : ¬ Pg.Ord l) :
    Calls Tryz.prog 117 #[.slice p len cap, .string key] w fun e w' => (∃ i b, e = .returned (.tuple #[.int .i64 i, .bool b]) ∧ Pg.Lst l key i b) ∧ Below w.heap.size w w' := by
  refine (callsIn_wide (n := 9)).1 ?_
  refine callsIn_of_wp_marks Tryz.func117 rfl trivial ?_ rfl
  simp only [Tryz.ntmps117, List.size_toArray, List.length_cons, List.length_nil, Nat.reduceAdd, Nat.reduceSub, Array.replicate_succ, Array.replicate_zero, List.push_toArray, List.append_toArray, List.nil_append, List.cons_append]
  obtain ⟨w0, hw0⟩ : ∃ w0, w0 = ((w.alloc (.cells #[.string key] 9)).alloc (.cells #[.int .i64 0] 3)).alloc (.cells #[.bool false] 4) := ⟨_, rfl⟩
  have HB0 : Hid (Below w.heap.size w w0) := by rw [hw0]; exact (((Below.refl _ _).alloc (Nat.le_refl _) _).alloc (by simp) _).alloc (by simp; omega) _
  have HK0 : Hid (Bk w0 w.heap.size 9 #[.string key]) := by rw [hw0]; exact ((Bk.new _ _ _).alloc _).alloc _
  have HI0 : Hid (Bk w0 (w.heap.size + 1) 3 #[.int .i64 0]) := by rw [hw0]; exact (Bk.new1 _ _ _ _).alloc _
  have HJ0 : Hid (Bk w0 (w.heap.size + 1 + 1) 4 #[.bool false]) := by rw [hw0]; exact Bk.new2 _ _ _ _ _
  have HX : Hid (Ens w p l) := hx
  have HL : Hid (l.length = len) := hlen
  have HO : Hid (¬ Pg.Ord l) := ho
  clear hx hlen ho
  gi_wp2_with fail
  rw [← hw0]
  clear hw0
  refine ⟨trivial, ?_⟩
  refine (callsIn_wide.2 (inOrder_any p len cap l _ HL.out (HX.out.below HB0.out (Nat.le_refl _)) hl)).mono ?_
  rintro e w1 ⟨ro, rfl, hro, hb1⟩
  obtain rfl : ro = false := by
    cases ro with
    | false => rfl
    | true => exact absurd (hro.1 rfl) HO.out
  have HU1 : Hid (Lu w w1 0 key []) := ⟨HK0.out.below hb1 HK0.out.lt, HI0.out.below hb1 HI0.out.lt, HJ0.out.below hb1 HJ0.out.lt, HB0.out.trans (hb1.mono HB0.out.size), (fun x hx => by cases hx), Nat.zero_le _⟩
  clear hb1 hro HK0 HB0 HI0 HJ0
  gi_wp2_with fail
  refine ⟨trivial, ?_⟩
  refine (callsIn_wide.2 (back_any p len cap w1)).mono ?_
  rintro e w2 ⟨rfl, hw2⟩
  have ht2 : Tn [] w1 w2 := by rw [hw2]; exact (Tn.refl _ _).alloc _
  have hU2 : Lu w w2 w2.heap.size key [] := { HU1.out.still ht2 with sz := Nat.le_refl _ }
  have hs1 : w.heap.size + 1 + 1 < w1.heap.size := HU1.out.b2.lt
  have hne : 0 < l.length := by
    rcases Nat.eq_zero_or_pos l.length with h | h
    · refine absurd (fun i a b h1 h2 => ?_) HO.out
      have := (List.getElem?_eq_some_iff.1 h1).1
      omega
    · exact h
  obtain ⟨g, o, hp, hc⟩ := HX.out hne
  subst hp
  have hgl : g < w.heap.size := HX.out.lt hne
  have hF2 : Fm w2 w1.heap.size [w1.heap.size, g] l := by
    refine ⟨⟨some ⟨g, o, none⟩, cap, ?_, HX.out.below hU2.below (Nat.le_refl _), fun _ g' o' h => by cases h; simp⟩, by simp, fun b hb => ?_, by rw [HL.out]; exact hl⟩
    · rw [HL.out, hw2]
      exact Bk.new _ _ _
    · have h1 := hU2.below.size
      have h2 : w1.heap.size < w2.heap.size := by rw [hw2]; simp
      simp only [List.mem_cons, List.not_mem_nil, or_false] at hb
      rcases hb with rfl | rfl <;> omega
  have hs2 : w1.heap.size < w2.heap.size := by rw [hw2]; simp
  have HSL : Hid (∀ b ∈ [w1.heap.size, g], b ≠ w.heap.size + 1 ∧ b ≠ w.heap.size + 1 + 1 ∧ b < w2.heap.size) := fun b hb => by
    simp only [List.mem_cons, List.not_mem_nil, or_false] at hb
    rcases hb with rfl | rfl <;> omega
  generalize [w1.heap.size, g] = S at *
  clear hw2 ht2 hc hne hgl
  gi_wp2_with fail
  refine range_boxed ?A rfl (by omega) (gf := 142) (lb := #[.pointer (some ⟨w1.heap.size, 0, none⟩)]) rfl trivial (enters_of Tryz.func142 (by kernel_rfl) rfl)
    (back1_stops 8 (by omega) hF2) KpP.t (fun W l o o' hl _ _ _ k hk => World.putObj_heap_other (fun e => by
      subst e
      have := (HSL.out _ hk).2.2
      omega)) (Below.refl _ _) (fun _ => rfl)
    (fun pre W => Lu w W w2.heap.size key pre)
    (fun cc pre W => (cc = .ret ∧ ∃ (i : Nat) (x : En) (pre' : List (Nat × En)), pre = pre' ++ [(i, x)] ∧ Boxed W (w.heap.size + 1) 3 (.int .i64 (i : Int)) ∧ Boxed W (w.heap.size + 1 + 1) 4 (.bool true) ∧ Ky.lt key x.key = false ∧ ∀ y ∈ pre', Ky.lt key y.2.key = true) ∧ Below w.heap.size w W)
    (fun s A B' row hs hg hr => hs.abides (k := w2.heap.size) (by omega) hg hr)
    (fun cc s A B row hs hg hr => by
      obtain ⟨⟨h1, i, x, pre', h0, h2, h3, h5⟩, h4⟩ := hs
      exact ⟨⟨h1, i, x, pre', h0, boxed_from h2 hg hr, boxed_from h3 hg hr, h5⟩, h4.grown hg h4.size (fun k hk => by have := (hr k hk).1; omega)⟩)
    hU2
    (fun x bx W => w2.heap.size ≤ bx ∧ Bk W bx 30 #[.string x.2.key, .int .i64 x.2.s, .int .i64 x.2.g, .int .i64 x.2.c])
    (fun x bx _ A B' row hs hg hr => ⟨hs.1, bk_from hs.2 hg hr⟩)
    ?assign ?body ?done ?stop
  case assign =>
    rintro l pre x W K hL hK
    gi_wp2
    have ht : Tn [] W (W.alloc (.cells #[.string x.2.key, .int .i64 x.2.s, .int .i64 x.2.g, .int .i64 x.2.c] 30)) := (Tn.refl _ _).alloc _
    obtain ⟨bx, hbx⟩ : ∃ bx, W.heap.size = bx := ⟨_, rfl⟩
    have kx : Bk (W.alloc (.cells #[.string x.2.key, .int .i64 x.2.s, .int .i64 x.2.g, .int .i64 x.2.c] 30)) bx 30 #[.string x.2.key, .int .i64 x.2.s, .int .i64 x.2.g, .int .i64 x.2.c] := by rw [← hbx]; exact Bk.new _ _ _
    have hle : w2.heap.size ≤ bx := by have := hL.sz; omega
    have hsl := HSL.out
    rw [hbx]
    refine hK bx _ ((keeps_tn ht (by simp)).from _) (KpP.of_tn ht (fun y hy => ⟨by have := (hsl y hy).2.2; omega, by simp⟩)) (hL.still ht) ⟨hle, kx⟩
  case stop =>
    rintro D cc pre W hD hpre ⟨⟨rfl, i, x, pre', rfl, hb1, hb2, hq, hall⟩, hB⟩ hK
    have HLS : Hid (Pg.Lst l key (i : Int) true) := by
      obtain ⟨h1, h2⟩ := Pg.bw_pre hpre
      exact ⟨fun _ => ⟨i, x, rfl, h1, hq, fun j y hj hy => hall _ (h2 j y hj hy)⟩, fun h => by cases h⟩
    have k1 : Bk (W.putObj D (.deferred none)) (w.heap.size + 1) 3 #[.int .i64 (i : Int)] := (World.putObj_heap_other (by omega)).trans (show Bk W _ _ _ from hb1)
    have k2 : Bk (W.putObj D (.deferred none)) (w.heap.size + 1 + 1) 4 #[.bool true] := (World.putObj_heap_other (by omega)).trans (show Bk W _ _ _ from hb2)
    gi_wp2
    refine ⟨by simp, .inl ⟨_, _, rfl, run_takeDeferred hK, ?_⟩⟩
    refine ⟨_, results_ib (i := (i : Int)) (x := true) rfl rfl rfl k1 k2, ?_⟩
    exact ⟨⟨_, _, rfl, HLS.out⟩, hB.trans ⟨rfl, rfl, rfl, by simp, fun k hk => World.putObj_heap_other (by omega)⟩⟩
  case body =>
    rintro l2 pre x bx W hl2 hT ⟨hbx, kx⟩ hpre
    have HT : Hid (Lu w W w2.heap.size key pre) := hT
    have c0 := hT.b0.cell
    have c1 := hT.b1.cell
    have c2 := hT.b2.cell
    have f1 := hT.b1.frozen
    have f2 := hT.b2.frozen
    have d0 := kx.cell 0
    simp at d0
    clear kx hT
    obtain ⟨xi, ⟨xk, xs, xg, xc⟩⟩ := x
    simp only at d0
    cases hq : Ky.lt key xk with
    | false =>
      have hq' : (Op.bytesLess xk.toList key.toList || xk.toList == key.toList) = true := by rw [Ky.leq_iff]; show (!Ky.lt key xk) = true; rw [hq]; rfl
      have HQ : Hid (Ky.lt key xk = false) := hq
      clear hq
      gi_wp2
      obtain ⟨k1, k2, k3⟩ := HT.out.fin HSL.out (((((Tn.refl _ W)).setCell (.inl (by simp)) (.int .i64 (xi : Int))).setCell (.inl (by simp)) (.bool true)) : Tn _ W (World.setCell (World.setCell _ ⟨w.heap.size + 1, 0, none⟩ _) ⟨w.heap.size + 1 + 1, 0, none⟩ _))
      exact ⟨k1.from _, ⟨rfl, xi, ⟨xk, xs, xg, xc⟩, pre, rfl, (HT.out.b1.set _).other (by omega) _, (HT.out.b2.other (by omega) _).set _, HQ.out, HT.out.pf⟩, k3⟩
    | true =>
      have hq' : (Op.bytesLess xk.toList key.toList || xk.toList == key.toList) = false := by rw [Ky.leq_iff]; show (!Ky.lt key xk) = false; rw [hq]; rfl
      have HQ : Hid (Ky.lt key xk = true) := hq
      clear hq
      gi_wp2
      obtain ⟨k1, k2, k3⟩ := HT.out.fin HSL.out (Tn.refl _ W)
      have hpf : ∀ y ∈ pre ++ [(xi, (⟨xk, xs, xg, xc⟩ : En))], Ky.lt key y.2.key = true := fun y hy => by
        rcases List.mem_append.1 hy with h | h
        · exact HT.out.pf y h
        · simp at h
          subst h
          exact HQ.out
      exact ⟨k1.from _, k2, { HT.out with pf := hpf }⟩
  case done =>
    rintro D zs W hD rfl hT hK
    have HT : Hid (Lu w W w2.heap.size key (Pg.bw l)) := hT
    have c1 := hT.b1.cell
    have c2 := hT.b2.cell
    have f1 := hT.b1.frozen
    have f2 := hT.b2.frozen
    have HLS : Hid (Pg.Lst l key 0 false) := ⟨(fun h => by cases h), fun _ j y hy => hT.pf _ (Pg.bw_all hy)⟩
    have hDn : D ≠ w.heap.size + 1 := by omega
    have hDm : D ≠ w.heap.size + 1 + 1 := by omega
    have hD2 : w.heap.size ≤ D := by omega
    clear hT
    gi_wp2
    have k1 : Bk (((W.setCell ⟨w.heap.size + 1, 0, none⟩ (.int .i64 0)).setCell ⟨w.heap.size + 1 + 1, 0, none⟩ (.bool false)).putObj D (.deferred none)) (w.heap.size + 1) 3 #[.int .i64 0] := (World.putObj_heap_other (by omega)).trans (show Bk _ _ _ _ from (HT.out.b1.set _).other (by omega) _)
    have k2 : Bk (((W.setCell ⟨w.heap.size + 1, 0, none⟩ (.int .i64 0)).setCell ⟨w.heap.size + 1 + 1, 0, none⟩ (.bool false)).putObj D (.deferred none)) (w.heap.size + 1 + 1) 4 #[.bool false] := (World.putObj_heap_other (by omega)).trans (show Bk _ _ _ _ from (HT.out.b2.other (by omega) _).set _)
    have hB : Below w.heap.size w ((W.setCell ⟨w.heap.size + 1, 0, none⟩ (.int .i64 0)).setCell ⟨w.heap.size + 1 + 1, 0, none⟩ (.bool false)) := (HT.out.below.setCell (p := ⟨w.heap.size + 1, 0, none⟩) (by simp) _).setCell (p := ⟨w.heap.size + 1 + 1, 0, none⟩) (by simp; omega) _
    refine ⟨by simp, .inl ⟨_, _, rfl, run_takeDeferred ((Below.heap_setCell _ _ _ _ (by simpa using hDm)).trans ((Below.heap_setCell _ _ _ _ (by simpa using hDn)).trans hK)), ?_⟩⟩
    refine ⟨_, results_ib (i := 0) (x := false) rfl rfl rfl k1 k2, ?_⟩
    exact ⟨⟨_, _, rfl, HLS.out⟩, hB.trans ⟨rfl, rfl, rfl, by simp, fun k hk => World.putObj_heap_other (by omega)⟩⟩

end Go.Proofs.YthpilennljpamaaGreat

namespace Go.Proofs.YthpilennljpamaaGreat
open Go.RowKit Go.Sort
set_option linter.unusedVariables false
set_option maxRecDepth 100000

set_option maxHeartbeats 2000000 in
theorem find_un (lo hi : ByteArray) (r : Int) (p : Option Addr) (len cap : Nat) (l : List En) (key : ByteArray) (w : World) (hlen : l.length = len) (hx : Ens w p l) (hl : len ≤ 4398046511104) (ho : ¬ Pg.Ord l) :
    Calls Tryz.prog 88 #[pgv false lo hi r p len cap, .string key] w fun e w' => (∃ out, e = .returned (fv out) ∧ Pg.Fnd false l key out) ∧ Below w.heap.size w w' := by
  have eg2 : ∀ args w, (callFunc 117 args).run Tryz.prog w = .ok (.enter 117 args) w := enters_of Tryz.func117 (by kernel_rfl) rfl
  obtain ⟨w0, hw0⟩ : ∃ w0, (w.alloc (.cells (pgc false lo hi r p len cap) 24)).alloc (.cells #[.string ⟨#[]⟩, .int .i64 0, .int .i64 0, .int .i64 0] 30) = w0 := ⟨_, rfl⟩
  have HB0 : Hid (Below w.heap.size w w0) := by rw [← hw0]; exact ((Below.refl _ _).alloc (Nat.le_refl _) _).alloc (by simp) _
  have HK0 : Hid (Bk w0 w.heap.size 24 (pgc false lo hi r p len cap)) := by rw [← hw0]; exact (Bk.new _ _ _).alloc _
  have HR0 : Hid (Bk w0 (w.heap.size + 1) 30 #[.string ⟨#[]⟩, .int .i64 0, .int .i64 0, .int .i64 0]) := by rw [← hw0]; exact Bk.new1 _ _ _ _
  have HX : Hid (Ens w p l) := hx
  have HL : Hid (l.length = len) := hlen
  have HO : Hid (¬ Pg.Ord l) := ho
  have HX0 : Hid (Ens w0 p l) := hx.below HB0.out (Nat.le_refl _)
  clear hx hlen ho
  have a0 : w0.cell? ⟨w.heap.size, 0, none⟩ = some (.bool false) := HK0.out.cell 0
  have a4 : w0.cell? ⟨w.heap.size, 4, none⟩ = some (.slice p len cap) := HK0.out.cell 4
  go_enter Tryz.func88, Tryz.ntmps88
  go_wp2_with (go_at_fn 117; refine (lastUpTo_un p len cap l key _ HL.out HX0.out hl HO.out).mono ?_; rintro e w1 ⟨⟨i, bb, rfl, hls⟩, hb1⟩; refine Hid.out ?_)
  unfold Hid
  clear hw0
  have HLS : Hid (Pg.Lst l key i bb) := hls
  have HB1 : Hid (Below w.heap.size w w1) := HB0.out.trans (hb1.mono HB0.out.size)
  have HK1 : Hid (Bk w1 w.heap.size 24 (pgc false lo hi r p len cap)) := HK0.out.below hb1 HK0.out.lt
  have HR1 : Hid (Bk w1 (w.heap.size + 1) 30 #[.string ⟨#[]⟩, .int .i64 0, .int .i64 0, .int .i64 0]) := HR0.out.below hb1 HR0.out.lt
  have HX1 : Hid (Ens w1 p l) := HX0.out.below hb1 (Nat.le_refl _)
  clear a0 a4 hls hb1
  have a4 : w1.cell? ⟨w.heap.size, 4, none⟩ = some (.slice p len cap) := HK1.out.cell 4
  have b0 : w1.cell? ⟨w.heap.size + 1, 0, none⟩ = some (.string ⟨#[]⟩) := HR1.out.cell 0
  have f0 : w1.frozen? ⟨w.heap.size + 1, 0, none⟩ = false := HR1.out.frozen 0
  have b1 : w1.cell? ⟨w.heap.size + 1, 1, none⟩ = some (.int .i64 0) := HR1.out.cell 1
  have f1 : w1.frozen? ⟨w.heap.size + 1, 1, none⟩ = false := HR1.out.frozen 1
  have b2 : w1.cell? ⟨w.heap.size + 1, 2, none⟩ = some (.int .i64 0) := HR1.out.cell 2
  have f2 : w1.frozen? ⟨w.heap.size + 1, 2, none⟩ = false := HR1.out.frozen 2
  have b3 : w1.cell? ⟨w.heap.size + 1, 3, none⟩ = some (.int .i64 0) := HR1.out.cell 3
  have f3 : w1.frozen? ⟨w.heap.size + 1, 3, none⟩ = false := HR1.out.frozen 3
  cases bb with
  | true =>
    obtain ⟨k, x, hik, hg, hq, hj⟩ := HLS.out.1 rfl
    subst hik
    have HF : Hid (Pg.Fnd false l key (some x)) := ⟨(fun h => by cases h), fun _ => .inl ⟨k, x, rfl, hg, hq, hj⟩⟩
    have hlt : k < l.length := (List.getElem?_eq_some_iff.1 hg).1
    have hki : (k : Int) < (len : Int) := by have := HL.out; omega
    have hk0 : (0 : Int) ≤ (k : Int) := by omega
    obtain ⟨b, o, x', rfl, hg', hblt, c0, c1, c2, c3⟩ := HX1.out.at (j := k) hlt
    rw [hg] at hg'
    cases hg'
    obtain ⟨xk, xs, xg, xc⟩ := x
    simp only at c0 c1 c2 c3
    clear hg hlt hq hj
    go_wp2
    obtain ⟨we, hwe⟩ : ∃ we, we = put4 w1 (w.heap.size + 1) (.string xk) (.int .i64 xs) (.int .i64 xg) (.int .i64 xc) := ⟨_, rfl⟩
    have hA : Bk we (w.heap.size + 1) 30 #[.string xk, .int .i64 xs, .int .i64 xg, .int .i64 xc] := by rw [hwe]; exact HR1.out.four _ _ _ _
    have ht : Tn [w.heap.size + 1] w1 we := by rw [hwe]; exact (Tn.refl _ _).four (.inl (by simp)) _ _ _ _
    unfold put4 at hwe
    rw [← hwe]
    clear hwe
    refine bodyPost_ret (results_two (cs := [.string xk, .int .i64 xs, .int .i64 xg, .int .i64 xc]) rfl rfl en_agg en_size rfl hA) rfl ?_
    exact ⟨⟨_, rfl, HF.out⟩, HB1.out.trans (ht.below HB1.out.size (by simp))⟩
  | false =>
    have HF : Hid (Pg.Fnd false l key none) := ⟨(fun h => by cases h), fun _ => .inr ⟨rfl, HLS.out.2 rfl⟩⟩
    go_wp2
    obtain ⟨we, hwe⟩ : ∃ we, we = put4 w1 (w.heap.size + 1) (.string ⟨#[]⟩) (.int .i64 0) (.int .i64 0) (.int .i64 0) := ⟨_, rfl⟩
    have hA : Bk we (w.heap.size + 1) 30 #[.string ⟨#[]⟩, .int .i64 0, .int .i64 0, .int .i64 0] := by rw [hwe]; exact HR1.out.four _ _ _ _
    have ht : Tn [w.heap.size + 1] w1 we := by rw [hwe]; exact (Tn.refl _ _).four (.inl (by simp)) _ _ _ _
    unfold put4 at hwe
    rw [← hwe]
    clear hwe
    refine bodyPost_ret (results_two (cs := [.string ⟨#[]⟩, .int .i64 0, .int .i64 0, .int .i64 0]) rfl rfl en_agg en_size rfl hA) rfl ?_
    exact ⟨⟨none, rfl, HF.out⟩, HB1.out.trans (ht.below HB1.out.size (by simp))⟩

theorem find_any (leaf : Bool) (lo hi : ByteArray) (r : Int) (p : Option Addr) (len cap : Nat) (l : List En) (key : ByteArray) (w : World) (hlen : l.length = len) (hx : Ens w p l) (hl : len ≤ 4398046511104) :
    Calls Tryz.prog 88 #[pgv leaf lo hi r p len cap, .string key] w fun e w' => (∃ out, e = .returned (fv out) ∧ Pg.Fnd leaf l key out) ∧ Below w.heap.size w w' := by
  by_cases h : leaf = false → Pg.Ord l
  · refine (find_ord leaf lo hi r p len cap l key w hlen hx hl h).mono ?_
    rintro e w' ⟨rfl, hb⟩
    exact ⟨⟨_, rfl, Pg.Fnd.ord h⟩, hb⟩
  · obtain ⟨rfl, h2⟩ := Classical.not_imp.1 h
    exact find_un lo hi r p len cap l key w hlen hx hl h2

end Go.Proofs.YthpilennljpamaaGreat

namespace Go.Proofs.YthpilennljpamaaGreat
open Go.RowKit Go.Sort
set_option linter.unusedVariables false
set_option maxRecDepth 100000

/-- The entries that say enough of a key. -/
def Dl.say (bl : List En) (key : ByteArray) : List De → List En
  | [] => bl
  | d :: r => if (d.k == 1) && (d.e.key.toList == key.toList) then [d.e] else if (d.k == 2) && (d.key.toList == key.toList) then [] else if (d.k == 4) && Ky.inn ⟨d.rt.lo, d.rt.hi⟩ key then d.rt.l else Dl.say bl key r

theorem Dl.say_at {bl : List En} {key : ByteArray} {L : List Dm} {k : Nat} {m : Dm} (h : L[k]? = some m) : Dl.say bl key ((L.drop k).map (·.d)) = if (m.d.k == 1) && (m.d.e.key.toList == key.toList) then [m.d.e] else if (m.d.k == 2) && (m.d.key.toList == key.toList) then [] else if (m.d.k == 4) && Ky.inn ⟨m.d.rt.lo, m.d.rt.hi⟩ key then m.d.rt.l else Dl.say bl key ((L.drop (k + 1)).map (·.d)) := by
  obtain ⟨hk, rfl⟩ := List.getElem?_eq_some_iff.1 h
  rw [List.drop_eq_getElem_cons hk]
  rfl

/-- A slice that is answered leads to entries. -/
def Led (w : World) (l : List En) (e : Ending) (w' : World) : Prop := (∃ q m c, e = .returned (.slice q m c) ∧ l.length = m ∧ Ens w' q l ∧ m ≤ 3518437208780) ∧ Below w.heap.size w w'

set_option maxHeartbeats 4000000 in
theorem saying_any (pf : Bool) (plo phi : ByteArray) (pr : Int) (pp : Option Addr) (pn pc : Nat) (pl : List En) (key : ByteArray) (p : Option Addr) (len cap : Nat) (L : List Dm) (w : World) (hlen : pl.length = pn) (hx : Ens w pp pl) (hl : pn ≤ 3518437208780) (hL : L.length = len) (hll : len ≤ 4398046511104) (hD : Des w p L) :
    Calls Tryz.prog 89 #[pgv pf plo phi pr pp pn pc, .string key, .slice p len cap] w fun e w' => Led w (Dl.say pl key (L.map (·.d))) e w' := by
  obtain ⟨out, HO⟩ : ∃ out, Hid (Dl.say pl key (L.map (·.d)) = out) := ⟨_, rfl⟩
  rw [HO.out]
  have HX : Hid (Ens w pp pl) := hx
  have HN : Hid (pl.length = pn) := hlen
  have HL : Hid (L.length = len) := hL
  have HD : Hid (Des w p L) := hD
  clear hx hlen hL hD
  obtain ⟨w0, hw0⟩ : ∃ w0, w.alloc (.cells #[.bool pf, .string plo, .string phi, .int .i64 pr, .slice pp pn pc] 24) = w0 := ⟨_, rfl⟩
  have HB0 : Hid (Below w.heap.size w w0) := by rw [← hw0]; exact (Below.refl _ _).alloc (Nat.le_refl _) _
  have HK0 : Hid (Bk w0 w.heap.size 24 #[.bool pf, .string plo, .string phi, .int .i64 pr, .slice pp pn pc]) := by rw [← hw0]; exact Bk.new _ _ _
  have a0 : w0.cell? ⟨w.heap.size, 0, none⟩ = some (.bool pf) := HK0.out.cell 0
  have a1 : w0.cell? ⟨w.heap.size, 1, none⟩ = some (.string plo) := HK0.out.cell 1
  have a2 : w0.cell? ⟨w.heap.size, 2, none⟩ = some (.string phi) := HK0.out.cell 2
  have a3 : w0.cell? ⟨w.heap.size, 3, none⟩ = some (.int .i64 pr) := HK0.out.cell 3
  have a4 : w0.cell? ⟨w.heap.size, 4, none⟩ = some (.slice pp pn pc) := HK0.out.cell 4
  go_enter Tryz.func89, Tryz.ntmps89
  go_wp2_with fail
  go_step3
  go_wp2_with fail
  go_step3
  go_wp2_with fail
  clear hw0
  clear a0 a1 a2 a3 a4
  go_loopw [7, 14] (fun s i wr => ∃ k : Nat, k ≤ len ∧ i = .int .i64 k ∧ s = .slice pp pn pc ∧ Hid (out = Dl.say pl key ((L.drop k).map (·.d))) ∧ Hid (Below w.heap.size w wr)) (fun _ i _ => len - (intOf i).toNat)
  case atStart => exact ⟨0, Nat.zero_le _, rfl, rfl, HO.out.symm, HB0⟩
  case round =>
    obtain ⟨k, hk, rfl, rfl, HQ, HW⟩ := hrel
    by_cases hlt : k < len
    · have hli : (k : Int) < (len : Int) := by omega
      have hk0 : (0 : Int) ≤ (k : Int) := by omega
      have hkL : k < L.length := by have := HL.out; omega
      obtain ⟨m, hm⟩ : ∃ m, L[k]? = some m := ⟨_, List.getElem?_eq_getElem hkL⟩
      obtain ⟨b, o, rfl, hc⟩ := HD.out.below HW.out (Nat.le_refl _) (by omega)
      obtain ⟨hcx, hOk⟩ := hc k m hm
      have hQ := HQ.out
      rw [Dl.say_at hm] at hQ
      obtain ⟨⟨dk, ⟨dek, des, deg, dec⟩, dkey, dpg, ⟨dleaf, dlo, dhi, dr, dl⟩⟩, dp, dn, dc⟩ := m
      simp only at hQ
      have HQ2 : Hid (out = if (dk == 1) && (dek.toList == key.toList) then [⟨dek, des, deg, dec⟩] else if (dk == 2) && (dkey.toList == key.toList) then [] else if (dk == 4) && Ky.inn ⟨dlo, dhi⟩ key then dl else Dl.say pl key ((L.drop (k + 1)).map (·.d))) := hQ
      have HOK : Hid (Dm.Ok wr ⟨⟨dk, ⟨dek, des, deg, dec⟩, dkey, dpg, ⟨dleaf, dlo, dhi, dr, dl⟩⟩, dp, dn, dc⟩) := hOk
      have z0 := hcx 0 _ rfl
      have z1 := hcx 1 _ rfl
      have z2 := hcx 2 _ rfl
      have z3 := hcx 3 _ rfl
      have z4 := hcx 4 _ rfl
      have z5 := hcx 5 _ rfl
      have z6 := hcx 6 _ rfl
      have z7 := hcx 7 _ rfl
      have z8 := hcx 8 _ rfl
      have z9 := hcx 9 _ rfl
      have z10 := hcx 10 _ rfl
      have z11 := hcx 11 _ rfl
      simp only [Nat.add_zero] at z0
      clear hQ hm hcx hc hOk HQ
      obtain ⟨w2, hw2⟩ : ∃ w2, wr.alloc (.cells #[.int .i64 dk, .string dek, .int .i64 des, .int .i64 deg, .int .i64 dec, .string dkey, .int .i64 dpg, .bool dleaf, .string dlo, .string dhi, .int .i64 dr, .slice dp dn dc] 32) = w2 := ⟨_, rfl⟩
      have HW2 : Hid (Below w.heap.size w w2) := by rw [← hw2]; exact HW.out.alloc HW.out.size _
      have HK2 : Hid (Bk w2 wr.heap.size 32 #[.int .i64 dk, .string dek, .int .i64 des, .int .i64 deg, .int .i64 dec, .string dkey, .int .i64 dpg, .bool dleaf, .string dlo, .string dhi, .int .i64 dr, .slice dp dn dc]) := by rw [← hw2]; exact Bk.new _ _ _
      have HE2 : Hid (Ens w2 dp dl) := by rw [← hw2]; exact HOK.out.ens.below ((Below.refl _ _).alloc (Nat.le_refl _) _) (Nat.le_refl _)
      have x0 : w2.cell? ⟨wr.heap.size, 0, none⟩ = some (.int .i64 dk) := HK2.out.cell 0
      have x1 : w2.cell? ⟨wr.heap.size, 1, none⟩ = some (.string dek) := HK2.out.cell 1
      have x2 : w2.cell? ⟨wr.heap.size, 2, none⟩ = some (.int .i64 des) := HK2.out.cell 2
      have x3 : w2.cell? ⟨wr.heap.size, 3, none⟩ = some (.int .i64 deg) := HK2.out.cell 3
      have x4 : w2.cell? ⟨wr.heap.size, 4, none⟩ = some (.int .i64 dec) := HK2.out.cell 4
      have x5 : w2.cell? ⟨wr.heap.size, 5, none⟩ = some (.string dkey) := HK2.out.cell 5
      have x6 : w2.cell? ⟨wr.heap.size, 6, none⟩ = some (.int .i64 dpg) := HK2.out.cell 6
      have x7 : w2.cell? ⟨wr.heap.size, 7, none⟩ = some (.bool dleaf) := HK2.out.cell 7
      have x8 : w2.cell? ⟨wr.heap.size, 8, none⟩ = some (.string dlo) := HK2.out.cell 8
      have x9 : w2.cell? ⟨wr.heap.size, 9, none⟩ = some (.string dhi) := HK2.out.cell 9
      have x10 : w2.cell? ⟨wr.heap.size, 10, none⟩ = some (.int .i64 dr) := HK2.out.cell 10
      have x11 : w2.cell? ⟨wr.heap.size, 11, none⟩ = some (.slice dp dn dc) := HK2.out.cell 11
      by_cases h1 : dk = 1
      · subst h1
        cases hb : (dek.toList == key.toList) with
        | true =>
          have HF : Hid (out = [⟨dek, des, deg, dec⟩]) := by rw [Hid, HQ2.out, hb]; rfl
          go_wp2
          go_ret
          rw [HF.out]
          exact ⟨⟨_, 1, _, rfl, rfl, ens_one w2 ⟨dek, des, deg, dec⟩, by decide⟩, HW2.out.alloc HW2.out.size _⟩
        | false =>
          have HF : Hid (out = Dl.say pl key ((L.drop (k + 1)).map (·.d))) := by rw [Hid, HQ2.out, hb]; rfl
          go_wp2
          go_roundw
          case rel => exact ⟨k + 1, by omega, by go_num, rfl, HF, HW2⟩
          case measure => simp [intOf]; omega
      · have k1 : (dk == 1) = false := by simp [h1]
        by_cases h2 : dk = 2
        · subst h2
          cases hb : (dkey.toList == key.toList) with
          | true =>
            have HF : Hid (out = []) := by rw [Hid, HQ2.out, hb]; rfl
            go_wp2
            go_ret
            rw [HF.out]
            exact ⟨⟨_, 0, _, rfl, rfl, Ens.nil _ _, by decide⟩, HW2.out⟩
          | false =>
            have HF : Hid (out = Dl.say pl key ((L.drop (k + 1)).map (·.d))) := by rw [Hid, HQ2.out, hb]; rfl
            go_wp2
            go_roundw
            case rel => exact ⟨k + 1, by omega, by go_num, rfl, HF, HW2⟩
            case measure => simp [intOf]; omega
        · have k2 : (dk == 2) = false := by simp [h2]
          by_cases h4 : dk = 4
          · subst h4
            go_wp2_with fail
            clear hw2
            refine (has_any dleaf dlo dhi dr dp dn dc _ key).mono ?_
            cases hin : Ky.inn ⟨dlo, dhi⟩ key with
            | true =>
              have HF : Hid (out = dl) := by rw [Hid, HQ2.out, hin]; rfl
              rintro e w3 ⟨rfl, hb3⟩
              have HW3 : Hid (Below w.heap.size w w3) := HW2.out.trans (hb3.mono HW2.out.size)
              have HE3 : Hid (Ens w3 dp dl) := HE2.out.below hb3 (Nat.le_refl _)
              have HK3 : Hid (Bk w3 wr.heap.size 32 #[.int .i64 4, .string dek, .int .i64 des, .int .i64 deg, .int .i64 dec, .string dkey, .int .i64 dpg, .bool dleaf, .string dlo, .string dhi, .int .i64 dr, .slice dp dn dc]) := HK2.out.below hb3 HK2.out.lt
              clear hb3
              clear x0 x1 x2 x3 x4 x5 x6 x7 x8 x9 x10 x11
              have x11 : w3.cell? ⟨wr.heap.size, 11, none⟩ = some (.slice dp dn dc) := HK3.out.cell 11
              go_wp2
              go_ret
              rw [HF.out]
              exact ⟨⟨_, dn, _, rfl, HOK.out.len, HE3.out, HOK.out.room⟩, HW3.out⟩
            | false =>
              have HF : Hid (out = Dl.say pl key ((L.drop (k + 1)).map (·.d))) := by rw [Hid, HQ2.out, hin]; rfl
              rintro e w3 ⟨rfl, hb3⟩
              have HW3 : Hid (Below w.heap.size w w3) := HW2.out.trans (hb3.mono HW2.out.size)
              clear hb3
              clear x0 x1 x2 x3 x4 x5 x6 x7 x8 x9 x10 x11
              go_wp2
              go_roundw
              case rel => exact ⟨k + 1, by omega, by go_num, rfl, HF, HW3⟩
              case measure => simp [intOf]; omega
          · have k4 : (dk == 4) = false := by simp [h4]
            have HF : Hid (out = Dl.say pl key ((L.drop (k + 1)).map (·.d))) := by rw [Hid, HQ2.out, k1, k2, k4]; rfl
            go_wp2
            go_roundw
            case rel => exact ⟨k + 1, by omega, by go_num, rfl, HF, HW2⟩
            case measure => simp [intOf]; omega
    · have hkn : k = len := by omega
      have hli : ¬ (k : Int) < (len : Int) := by omega
      have HF : Hid (out = pl) := by
        rw [Hid, HQ.out, List.drop_of_length_le (by have := HL.out; omega)]
        rfl
      go_wp2
      go_ret
      rw [HF.out]
      exact ⟨⟨_, pn, _, rfl, HN.out, HX.out.below HW.out (Nat.le_refl _), hl⟩, HW.out⟩

end Go.Proofs.YthpilennljpamaaGreat

namespace Go.Proofs.YthpilennljpamaaGreat
open Go.RowKit Go.Sort
set_option linter.unusedVariables false
set_option maxRecDepth 100000

/-- A spot. -/
structure Sp where
  e : En
  f : Bool
  g : Int

abbrev spv (e : En) (f : Bool) (g : Int) : Value := .agg #[.string e.key, .int .i64 e.s, .int .i64 e.g, .int .i64 e.c, .bool f, .int .i64 g]
abbrev Sp.zero : Sp := ⟨En.zero, false, 0⟩
theorem sp_agg (w : World) : (isAgg 44).run Tryz.prog w = .ok true w := by kernel_rfl
theorem sp_size (w : World) : (sizeOf 44).run Tryz.prog w = .ok 6 w := by kernel_rfl

/-- Six cells of a block written. -/
abbrev put6 (w : World) (R : Nat) (a b c d e f : Value) : World := (((((w.setCell ⟨R, 0, none⟩ a).setCell ⟨R, 1, none⟩ b).setCell ⟨R, 2, none⟩ c).setCell ⟨R, 3, none⟩ d).setCell ⟨R, 4, none⟩ e).setCell ⟨R, 5, none⟩ f
theorem Bk.six {w : World} {R : Nat} {T : TypeId} {x0 x1 x2 x3 x4 x5 : Value} (h : Bk w R T #[x0, x1, x2, x3, x4, x5]) (a b c d e f : Value) : Bk (put6 w R a b c d e f) R T #[a, b, c, d, e, f] := by
  have := (((((h.set 0 a).set 1 b).set 2 c).set 3 d).set 4 e).set 5 f
  simpa using this
theorem Bk.sixO {w : World} {R k : Nat} {T : TypeId} {cs : Array Value} (h : Bk w k T cs) (hne : k ≠ R) (a b c d e f : Value) : Bk (put6 w R a b c d e f) k T cs :=
  (((((h.other (p := ⟨R, 0, none⟩) hne a).other (p := ⟨R, 1, none⟩) hne b).other (p := ⟨R, 2, none⟩) hne c).other (p := ⟨R, 3, none⟩) hne d).other (p := ⟨R, 4, none⟩) hne e).other (p := ⟨R, 5, none⟩) hne f
theorem Tn.six {S : List Nat} {a0 w : World} (h : Tn S a0 w) {R : Nat} (hp : R ∈ S ∨ a0.heap.size ≤ R) (a b c d e f : Value) : Tn S a0 (put6 w R a b c d e f) :=
  (((((h.setCell (p := ⟨R, 0, none⟩) hp a).setCell (p := ⟨R, 1, none⟩) hp b).setCell (p := ⟨R, 2, none⟩) hp c).setCell (p := ⟨R, 3, none⟩) hp d).setCell (p := ⟨R, 4, none⟩) hp e).setCell (p := ⟨R, 5, none⟩) hp f

/-- What is found of a key, in entries in whatever order, as a function. -/
def Pg.fnd (leaf : Bool) (l : List En) (key : ByteArray) : Option En := if leaf then Pg.find true l key else l.reverse.find? fun e => !Ky.lt key e.key

theorem Pg.fnd_is (leaf : Bool) (l : List En) (key : ByteArray) : Pg.Fnd leaf l key (Pg.fnd leaf l key) := by
  refine ⟨fun h => by subst h; rfl, fun h => ?_⟩
  subst h
  unfold Pg.fnd
  simp only [Bool.false_eq_true, if_false]
  cases hf : l.reverse.find? fun e => !Ky.lt key e.key with
  | none =>
    refine .inr ⟨rfl, fun j y hy => ?_⟩
    rw [List.find?_eq_none] at hf
    have := hf y (by simp; exact List.mem_of_getElem? hy)
    simpa using this
  | some x =>
    obtain ⟨hp, us, bs, hl, hn⟩ := List.find?_eq_some_iff_append.1 hf
    have hl2 : l = bs.reverse ++ x :: us.reverse := by
      have := congrArg List.reverse hl
      simpa using this
    refine .inl ⟨bs.length, x, rfl, by rw [hl2]; simp, by simpa using hp, fun j y hj hy => ?_⟩
    rw [hl2, show bs.reverse ++ x :: us.reverse = (bs.reverse ++ [x]) ++ us.reverse by simp, List.getElem?_append_right (by simp; omega)] at hy
    have hm := List.mem_of_getElem? hy
    have := hn y (by simpa using hm)
    simpa using this

/-- What comes of a call that may refuse: a spot, or the panic that tells the error. -/
def DoneS (w : World) (out : Sp × Int) (e : Ending) (w' : World) : Prop :=
  ((out.2 = 0 ∧ e = .returned (spv out.1.e out.1.f out.1.g)) ∨ (out.2 ≠ 0 ∧ e = pan out.2)) ∧ Below w.heap.size w w'

/-- What an inner page says by the entry that was found. -/
def Dl.hitI : Option En → Sp × Int
  | some x => (⟨x, true, x.c⟩, 0)
  | none => (Sp.zero, 73)
/-- What a leaf says by the entry that was found. -/
def Dl.hitL : Option En → Sp × Int
  | some x => (⟨x, true, 0⟩, 0)
  | none => (Sp.zero, 0)

/-- The page to the right. -/
def Dl.beside (g : Pp) (key : ByteArray) : Int × Int := if Ky.lt key g.lo || g.r == 0 then (0, 73) else (g.r, 0)

theorem beside_any (pf : Bool) (plo phi : ByteArray) (pr : Int) (pp : Option Addr) (pn pc : Nat) (key : ByteArray) (w : World) :
    Calls Tryz.prog 64 #[pgv pf plo phi pr pp pn pc, .string key] w fun e w' => ((((Ky.lt key plo || pr == 0) = false) ∧ e = .returned (.int .i64 pr)) ∨ ((Ky.lt key plo || pr == 0) = true ∧ e = pan 73)) ∧ Below w.heap.size w w' := by
  have HB0 : Hid (Below w.heap.size w (w.alloc (.cells (pgc pf plo phi pr pp pn pc) 24))) := (Below.refl _ _).alloc (Nat.le_refl _) _
  cases h1 : Ky.lt key plo with
  | true =>
    have h1' : Op.bytesLess key.toList plo.toList = true := h1
    go_enter Tryz.func64, Tryz.ntmps64
    go_wp2
    refine ⟨rfl, ?_⟩
    exact ⟨.inr ⟨rfl, rfl⟩, HB0.out⟩
  | false =>
    have h1' : Op.bytesLess key.toList plo.toList = false := h1
    by_cases h2 : pr = 0
    · subst h2
      go_enter Tryz.func64, Tryz.ntmps64
      go_wp2
      refine ⟨rfl, ?_⟩
      exact ⟨.inr ⟨rfl, rfl⟩, HB0.out⟩
    · have k2 : (pr == 0) = false := by simp [h2]
      go_enter Tryz.func64, Tryz.ntmps64
      go_wp2
      go_ret
      exact ⟨.inl ⟨by simp [k2], rfl⟩, HB0.out⟩

set_option maxHeartbeats 2000000 in
theorem below_any (pf : Bool) (plo phi : ByteArray) (pr : Int) (pp : Option Addr) (pn pc : Nat) (pl : List En) (key : ByteArray) (w : World) (hlen : pl.length = pn) (hx : Ens w pp pl) (hl : pn ≤ 3518437208780) :
    Calls Tryz.prog 65 #[pgv pf plo phi pr pp pn pc, .string key] w fun e w' => DoneS w (Dl.hitI (Pg.fnd pf pl key)) e w' := by
  obtain ⟨out, HO⟩ : ∃ out : Sp × Int, Hid (Dl.hitI (Pg.fnd pf pl key) = out) := ⟨_, rfl⟩
  rw [HO.out]
  have HX : Hid (Ens w pp pl) := hx
  have HN : Hid (pl.length = pn) := hlen
  clear hx hlen
  obtain ⟨w0, hw0⟩ : ∃ w0, (w.alloc (.cells #[.bool pf, .string plo, .string phi, .int .i64 pr, .slice pp pn pc] 24)).alloc (.cells #[.string ⟨#[]⟩, .int .i64 0, .int .i64 0, .int .i64 0, .bool false, .int .i64 0] 44) = w0 := ⟨_, rfl⟩
  have HB0 : Hid (Below w.heap.size w w0) := by rw [← hw0]; exact ((Below.refl _ _).alloc (Nat.le_refl _) _).alloc (by simp) _
  have HK0 : Hid (Bk w0 w.heap.size 24 #[.bool pf, .string plo, .string phi, .int .i64 pr, .slice pp pn pc]) := by rw [← hw0]; exact (Bk.new _ _ _).alloc _
  have HR0 : Hid (Bk w0 (w.heap.size + 1) 44 #[.string ⟨#[]⟩, .int .i64 0, .int .i64 0, .int .i64 0, .bool false, .int .i64 0]) := by rw [← hw0]; exact Bk.new1 _ _ _ _
  have a0 : w0.cell? ⟨w.heap.size, 0, none⟩ = some (.bool pf) := HK0.out.cell 0
  have a1 : w0.cell? ⟨w.heap.size, 1, none⟩ = some (.string plo) := HK0.out.cell 1
  have a2 : w0.cell? ⟨w.heap.size, 2, none⟩ = some (.string phi) := HK0.out.cell 2
  have a3 : w0.cell? ⟨w.heap.size, 3, none⟩ = some (.int .i64 pr) := HK0.out.cell 3
  have a4 : w0.cell? ⟨w.heap.size, 4, none⟩ = some (.slice pp pn pc) := HK0.out.cell 4
  go_enter Tryz.func65, Tryz.ntmps65
  go_wp2_with fail
  clear hw0
  refine (find_any pf plo phi pr pp pn pc pl key _ HN.out (HX.out.below HB0.out (Nat.le_refl _)) (by omega)).mono ?_
  rintro e w1 ⟨⟨fo, rfl, hfn⟩, hb1⟩
  clear a0 a1 a2 a3 a4
  have HFO : Hid (Pg.fnd pf pl key = fo) := (Pg.fnd_is pf pl key).one hfn
  have HB1 : Hid (Below w.heap.size w w1) := HB0.out.trans (hb1.mono HB0.out.size)
  have HR1 : Hid (Bk w1 (w.heap.size + 1) 44 #[.string ⟨#[]⟩, .int .i64 0, .int .i64 0, .int .i64 0, .bool false, .int .i64 0]) := HR0.out.below hb1 HR0.out.lt
  clear hfn hb1
  cases fo with
  | none =>
    have HF : Hid (out = (Sp.zero, 73)) := by rw [Hid, ← HO.out, HFO.out]; rfl
    have HB2 : Hid (Below w.heap.size w (w1.alloc (.cells #[.string ⟨#[]⟩, .int .i64 0, .int .i64 0, .int .i64 0] 30))) := HB1.out.alloc HB1.out.size _
    unfold fv
    simp only
    go_wp2
    refine ⟨rfl, ?_⟩
    rw [HF.out]
    exact ⟨.inr ⟨by decide, rfl⟩, HB2.out⟩
  | some x =>
    have HF : Hid (out = (⟨x, true, x.c⟩, 0)) := by rw [Hid, ← HO.out, HFO.out]; rfl
    obtain ⟨xk, xs, xg, xc⟩ := x
    unfold fv
    simp only
    obtain ⟨w2, hw2⟩ : ∃ w2, w1.alloc (.cells #[.string xk, .int .i64 xs, .int .i64 xg, .int .i64 xc] 30) = w2 := ⟨_, rfl⟩
    have HB2 : Hid (Below w.heap.size w w2) := by rw [← hw2]; exact HB1.out.alloc HB1.out.size _
    have HR2 : Hid (Bk w2 (w.heap.size + 1) 44 #[.string ⟨#[]⟩, .int .i64 0, .int .i64 0, .int .i64 0, .bool false, .int .i64 0]) := by rw [← hw2]; exact HR1.out.alloc _
    have HE2 : Hid (Bk w2 w1.heap.size 30 #[.string xk, .int .i64 xs, .int .i64 xg, .int .i64 xc]) := by rw [← hw2]; exact Bk.new _ _ _
    have q0 : w2.cell? ⟨w1.heap.size, 0, none⟩ = some (.string xk) := HE2.out.cell 0
    have q1 : w2.cell? ⟨w1.heap.size, 1, none⟩ = some (.int .i64 xs) := HE2.out.cell 1
    have q2 : w2.cell? ⟨w1.heap.size, 2, none⟩ = some (.int .i64 xg) := HE2.out.cell 2
    have q3 : w2.cell? ⟨w1.heap.size, 3, none⟩ = some (.int .i64 xc) := HE2.out.cell 3
    have b0 : w2.cell? ⟨w.heap.size + 1, 0, none⟩ = some (.string ⟨#[]⟩) := HR2.out.cell 0
    have bf0 : w2.frozen? ⟨w.heap.size + 1, 0, none⟩ = false := HR2.out.frozen 0
    have b1 : w2.cell? ⟨w.heap.size + 1, 1, none⟩ = some (.int .i64 0) := HR2.out.cell 1
    have bf1 : w2.frozen? ⟨w.heap.size + 1, 1, none⟩ = false := HR2.out.frozen 1
    have b2 : w2.cell? ⟨w.heap.size + 1, 2, none⟩ = some (.int .i64 0) := HR2.out.cell 2
    have bf2 : w2.frozen? ⟨w.heap.size + 1, 2, none⟩ = false := HR2.out.frozen 2
    have b3 : w2.cell? ⟨w.heap.size + 1, 3, none⟩ = some (.int .i64 0) := HR2.out.cell 3
    have bf3 : w2.frozen? ⟨w.heap.size + 1, 3, none⟩ = false := HR2.out.frozen 3
    have b4 : w2.cell? ⟨w.heap.size + 1, 4, none⟩ = some (.bool false) := HR2.out.cell 4
    have bf4 : w2.frozen? ⟨w.heap.size + 1, 4, none⟩ = false := HR2.out.frozen 4
    have b5 : w2.cell? ⟨w.heap.size + 1, 5, none⟩ = some (.int .i64 0) := HR2.out.cell 5
    have bf5 : w2.frozen? ⟨w.heap.size + 1, 5, none⟩ = false := HR2.out.frozen 5
    go_wp2
    clear q0 q1 q2 q3
    clear b0 bf0 b1 bf1 b2 bf2 b3 bf3 b4 bf4 b5 bf5
    have k1 := HR2.out.six (.string xk) (.int .i64 xs) (.int .i64 xg) (.int .i64 xc) (.bool true) (.int .i64 xc)
    have ht : Tn [w.heap.size + 1] w2 _ := (Tn.refl _ w2).six (R := w.heap.size + 1) (.inl (by simp)) (.string xk) (.int .i64 xs) (.int .i64 xg) (.int .i64 xc) (.bool true) (.int .i64 xc)
    refine bodyPost_ret (results_one (T' := 44) (cs := [.string xk, .int .i64 xs, .int .i64 xg, .int .i64 xc, .bool true, .int .i64 xc]) rfl rfl sp_agg sp_size rfl k1) rfl ?_
    rw [HF.out]
    exact ⟨.inl ⟨rfl, rfl⟩, HB2.out.trans (ht.below HB2.out.size (by simp))⟩

/-- A slice that is written where a slice lies leaves the entries as they lie. -/
theorem Ens.putSlice {w : World} {p : Option Addr} {l : List En} (h : Ens w p l) {R k : Nat} {a : Option Addr} {n c : Nat} (hc : w.cell? ⟨R, k, none⟩ = some (.slice a n c)) (v : Value) : Ens (w.setCell ⟨R, k, none⟩ v) p l := by
  intro hl
  obtain ⟨b, o, rfl, hh⟩ := h hl
  refine ⟨b, o, rfl, fun i g hi => ?_⟩
  obtain ⟨h0, h1, h2, h3⟩ := hh i g hi
  have key : ∀ (t : Nat) (u : Value), w.cell? ⟨b, t, none⟩ = some u → (∀ a n c, u ≠ .slice a n c) → (w.setCell ⟨R, k, none⟩ v).cell? ⟨b, t, none⟩ = some u := fun t u hu hn => by
    rw [World.cell?_setCell_other (h := fun e => by
      rw [e, hu] at hc
      exact hn _ _ _ (Option.some.inj hc))]
    exact hu
  exact ⟨key _ _ h0 (by simp), key _ _ h1 (by simp), key _ _ h2 (by simp), key _ _ h3 (by simp)⟩

/-- The entries among which a key of a leaf is looked for. -/
def Dl.among (g : Pp) (key : ByteArray) (ds : List De) (EL : List En) : List En := if Pg.may g.leaf ⟨g.lo, g.hi⟩ g.r g.l then Dl.say g.l key ds else EL

set_option maxHeartbeats 2000000 in
theorem inLeaf_any (pf : Bool) (plo phi : ByteArray) (pr : Int) (pp : Option Addr) (pn pc : Nat) (pl : List En) (key : ByteArray) (p : Option Addr) (len cap : Nat) (L : List Dm) (EL : List En) (w : World) (hlen : pl.length = pn) (hx : Ens w pp pl) (hl : pn ≤ 3518437208780) (hL : L.length = len) (hll : len ≤ 4398046511104) (hD : Des w p L)
    (hE : Pg.may pf ⟨plo, phi⟩ pr pl = false → ∀ W, Below w.heap.size w W → Calls Tryz.prog 54 #[pgv pf plo phi pr pp pn pc, .slice p len cap] W fun e w' => Led W EL e w') :
    Calls Tryz.prog 66 #[pgv pf plo phi pr pp pn pc, .string key, .slice p len cap] w fun e w' => e = .returned (fv (Pg.find true (Dl.among ⟨pf, plo, phi, pr, pl⟩ key (L.map (·.d)) EL) key)) ∧ Below w.heap.size w w' := by
  obtain ⟨lst, HO⟩ : ∃ lst, Hid (Dl.among ⟨pf, plo, phi, pr, pl⟩ key (L.map (·.d)) EL = lst) := ⟨_, rfl⟩
  rw [HO.out]
  obtain ⟨fo, HFO⟩ : ∃ fo, Hid (Pg.find true lst key = fo) := ⟨_, rfl⟩
  rw [HFO.out]
  have HX : Hid (Ens w pp pl) := hx
  have HN : Hid (pl.length = pn) := hlen
  have HL : Hid (L.length = len) := hL
  have HD : Hid (Des w p L) := hD
  have HE : Hid _ := hE
  clear hx hlen hL hD hE
  obtain ⟨w0, hw0⟩ : ∃ w0, ((w.alloc (.cells #[.bool pf, .string plo, .string phi, .int .i64 pr, .slice pp pn pc] 24)).alloc (.cells #[.string ⟨#[]⟩, .int .i64 0, .int .i64 0, .int .i64 0] 30)).alloc (.cells #[.bool true, .string ⟨#[]⟩, .string ⟨#[]⟩, .int .i64 0, .slice none 0 0] 24) = w0 := ⟨_, rfl⟩
  replace hw0 := hw0.symm
  have HB0 : Hid (Below w.heap.size w w0) := by rw [hw0]; exact (((Below.refl _ _).alloc (Nat.le_refl _) _).alloc (by simp) _).alloc (by simp; omega) _
  have HK0 : Hid (Bk w0 w.heap.size 24 #[.bool pf, .string plo, .string phi, .int .i64 pr, .slice pp pn pc]) := by rw [hw0]; exact ((Bk.new _ _ _).alloc _).alloc _
  have HR0 : Hid (Bk w0 (w.heap.size + 1) 30 #[.string ⟨#[]⟩, .int .i64 0, .int .i64 0, .int .i64 0]) := by rw [hw0]; exact (Bk.new1 _ _ _ _).alloc _
  have HP0 : Hid (Bk w0 (w.heap.size + 1 + 1) 24 #[.bool true, .string ⟨#[]⟩, .string ⟨#[]⟩, .int .i64 0, .slice none 0 0]) := by rw [hw0]; exact Bk.new2 _ _ _ _ _
  go_enter Tryz.func66, Tryz.ntmps66
  go_wp2_with fail
  rw [← hw0]
  clear hw0
  refine (check_any pf plo phi pr pp pn pc pl _ HN.out (HX.out.below HB0.out (Nat.le_refl _)) (by omega)).mono ?_
  have hcont : ∀ (K : Prop), True := fun _ => trivial
  cases hm : Pg.may pf ⟨plo, phi⟩ pr pl with
  | true =>
    have HF : Hid (Dl.say pl key (L.map (·.d)) = lst) := by rw [Hid, ← HO.out]; unfold Dl.among; simp only [hm, if_true]
    simp only [if_true]
    rintro e w1 ⟨rfl, hb1⟩
    have HB1 : Hid (Below w.heap.size w w1) := HB0.out.trans (hb1.mono HB0.out.size)
    have HK1 : Hid (Bk w1 w.heap.size 24 #[.bool pf, .string plo, .string phi, .int .i64 pr, .slice pp pn pc]) := HK0.out.below hb1 HK0.out.lt
    have HR1 : Hid (Bk w1 (w.heap.size + 1) 30 #[.string ⟨#[]⟩, .int .i64 0, .int .i64 0, .int .i64 0]) := HR0.out.below hb1 HR0.out.lt
    have HP1 : Hid (Bk w1 (w.heap.size + 1 + 1) 24 #[.bool true, .string ⟨#[]⟩, .string ⟨#[]⟩, .int .i64 0, .slice none 0 0]) := HP0.out.below hb1 HP0.out.lt
    clear hb1 hm
    have a0 : w1.cell? ⟨w.heap.size, 0, none⟩ = some (.bool pf) := HK1.out.cell 0
    have a1 : w1.cell? ⟨w.heap.size, 1, none⟩ = some (.string plo) := HK1.out.cell 1
    have a2 : w1.cell? ⟨w.heap.size, 2, none⟩ = some (.string phi) := HK1.out.cell 2
    have a3 : w1.cell? ⟨w.heap.size, 3, none⟩ = some (.int .i64 pr) := HK1.out.cell 3
    have a4 : w1.cell? ⟨w.heap.size, 4, none⟩ = some (.slice pp pn pc) := HK1.out.cell 4
    go_wp2_with fail
    refine (saying_any pf plo phi pr pp pn pc pl key p len cap L _ HN.out (HX.out.below HB1.out (Nat.le_refl _)) hl HL.out hll (HD.out.below HB1.out (Nat.le_refl _))).mono ?_
    rw [HF.out]
    rintro e w2 ⟨⟨q, m, c, rfl, hlm, hle, hmr⟩, hb2⟩
    clear a0 a1 a2 a3 a4
    have HB2 : Hid (Below w.heap.size w w2) := HB1.out.trans (hb2.mono HB1.out.size)
    have HR2 : Hid (Bk w2 (w.heap.size + 1) 30 #[.string ⟨#[]⟩, .int .i64 0, .int .i64 0, .int .i64 0]) := HR1.out.below hb2 HR1.out.lt
    have HP2 : Hid (Bk w2 (w.heap.size + 1 + 1) 24 #[.bool true, .string ⟨#[]⟩, .string ⟨#[]⟩, .int .i64 0, .slice none 0 0]) := HP1.out.below hb2 HP1.out.lt
    have HLM : Hid (lst.length = m) := hlm
    have HLE : Hid (Ens w2 q lst) := hle
    clear hb2 hlm hle
    have b0 : w2.cell? ⟨w.heap.size + 1 + 1, 0, none⟩ = some (.bool true) := HP2.out.cell 0
    have bf0 : w2.frozen? ⟨w.heap.size + 1 + 1, 0, none⟩ = false := HP2.out.frozen 0
    have b1 : w2.cell? ⟨w.heap.size + 1 + 1, 1, none⟩ = some (.string ⟨#[]⟩) := HP2.out.cell 1
    have bf1 : w2.frozen? ⟨w.heap.size + 1 + 1, 1, none⟩ = false := HP2.out.frozen 1
    have b2 : w2.cell? ⟨w.heap.size + 1 + 1, 2, none⟩ = some (.string ⟨#[]⟩) := HP2.out.cell 2
    have bf2 : w2.frozen? ⟨w.heap.size + 1 + 1, 2, none⟩ = false := HP2.out.frozen 2
    have b3 : w2.cell? ⟨w.heap.size + 1 + 1, 3, none⟩ = some (.int .i64 0) := HP2.out.cell 3
    have bf3 : w2.frozen? ⟨w.heap.size + 1 + 1, 3, none⟩ = false := HP2.out.frozen 3
    have b4 : w2.cell? ⟨w.heap.size + 1 + 1, 4, none⟩ = some (.slice none 0 0) := HP2.out.cell 4
    have bf4 : w2.frozen? ⟨w.heap.size + 1 + 1, 4, none⟩ = false := HP2.out.frozen 4
    obtain ⟨w3, hw3⟩ : ∃ w3, w2.setCell ⟨w.heap.size + 1 + 1, 4, none⟩ (.slice q m c) = w3 := ⟨_, rfl⟩
    have ht3 : Tn [w.heap.size + 1 + 1] w2 w3 := by rw [← hw3]; exact (Tn.refl _ w2).setCell (.inl (by simp)) _
    have HP3 : Hid (Bk w3 (w.heap.size + 1 + 1) 24 #[.bool true, .string ⟨#[]⟩, .string ⟨#[]⟩, .int .i64 0, .slice q m c]) := by rw [← hw3]; exact HP2.out.set 4 _
    have HR3 : Hid (Bk w3 (w.heap.size + 1) 30 #[.string ⟨#[]⟩, .int .i64 0, .int .i64 0, .int .i64 0]) := HR2.out.tn ht3 (by simp; try omega)
    have HB3 : Hid (Below w.heap.size w w3) := HB2.out.trans (ht3.below HB2.out.size (by simp; omega))
    have HL3 : Hid (Ens w3 q lst) := by rw [← hw3]; exact HLE.out.putSlice b4 _
    have d0 : w3.cell? ⟨w.heap.size + 1 + 1, 0, none⟩ = some (.bool true) := HP3.out.cell 0
    have d1 : w3.cell? ⟨w.heap.size + 1 + 1, 1, none⟩ = some (.string ⟨#[]⟩) := HP3.out.cell 1
    have d2 : w3.cell? ⟨w.heap.size + 1 + 1, 2, none⟩ = some (.string ⟨#[]⟩) := HP3.out.cell 2
    have d3 : w3.cell? ⟨w.heap.size + 1 + 1, 3, none⟩ = some (.int .i64 0) := HP3.out.cell 3
    have d4 : w3.cell? ⟨w.heap.size + 1 + 1, 4, none⟩ = some (.slice q m c) := HP3.out.cell 4
    go_wp2_with fail
    clear hw3
    clear b0 bf0 b1 bf1 b2 bf2 b3 bf3 b4 bf4
    clear d0 d1 d2 d3 d4
    refine (find_any true ⟨#[]⟩ ⟨#[]⟩ 0 q m c lst key _ HLM.out HL3.out (by omega)).mono ?_
    rintro e w4 ⟨⟨fo', rfl, hfn⟩, hb4⟩
    obtain rfl : fo' = fo := (hfn.1 rfl).trans HFO.out
    have HB4 : Hid (Below w.heap.size w w4) := HB3.out.trans (hb4.mono HB3.out.size)
    have HR4 : Hid (Bk w4 (w.heap.size + 1) 30 #[.string ⟨#[]⟩, .int .i64 0, .int .i64 0, .int .i64 0]) := HR3.out.below hb4 HR3.out.lt
    clear hfn hb4
    have b0 : w4.cell? ⟨w.heap.size + 1, 0, none⟩ = some (.string ⟨#[]⟩) := HR4.out.cell 0
    have bf0 : w4.frozen? ⟨w.heap.size + 1, 0, none⟩ = false := HR4.out.frozen 0
    have b1 : w4.cell? ⟨w.heap.size + 1, 1, none⟩ = some (.int .i64 0) := HR4.out.cell 1
    have bf1 : w4.frozen? ⟨w.heap.size + 1, 1, none⟩ = false := HR4.out.frozen 1
    have b2 : w4.cell? ⟨w.heap.size + 1, 2, none⟩ = some (.int .i64 0) := HR4.out.cell 2
    have bf2 : w4.frozen? ⟨w.heap.size + 1, 2, none⟩ = false := HR4.out.frozen 2
    have b3 : w4.cell? ⟨w.heap.size + 1, 3, none⟩ = some (.int .i64 0) := HR4.out.cell 3
    have bf3 : w4.frozen? ⟨w.heap.size + 1, 3, none⟩ = false := HR4.out.frozen 3
    cases fo' with
    | none =>
      unfold fv
      simp only
      go_wp2
      clear b0 bf0 b1 bf1 b2 bf2 b3 bf3
      have k1 := HR4.out.four (.string ⟨#[]⟩) (.int .i64 0) (.int .i64 0) (.int .i64 0)
      have ht : Tn [w.heap.size + 1] w4 _ := (Tn.refl _ w4).four (R := w.heap.size + 1) (.inl (by simp)) (.string ⟨#[]⟩) (.int .i64 0) (.int .i64 0) (.int .i64 0)
      refine bodyPost_ret (results_two (T' := 30) (cs := [.string ⟨#[]⟩, .int .i64 0, .int .i64 0, .int .i64 0]) rfl rfl en_agg en_size rfl k1) rfl ?_
      exact ⟨rfl, HB4.out.trans (ht.below HB4.out.size (by simp))⟩
    | some x =>
      obtain ⟨xk, xs, xg, xc⟩ := x
      unfold fv
      simp only
      go_wp2
      clear b0 bf0 b1 bf1 b2 bf2 b3 bf3
      have k1 := HR4.out.four (.string xk) (.int .i64 xs) (.int .i64 xg) (.int .i64 xc)
      have ht : Tn [w.heap.size + 1] w4 _ := (Tn.refl _ w4).four (R := w.heap.size + 1) (.inl (by simp)) (.string xk) (.int .i64 xs) (.int .i64 xg) (.int .i64 xc)
      refine bodyPost_ret (results_two (T' := 30) (cs := [.string xk, .int .i64 xs, .int .i64 xg, .int .i64 xc]) rfl rfl en_agg en_size rfl k1) rfl ?_
      exact ⟨rfl, HB4.out.trans (ht.below HB4.out.size (by simp))⟩
  | false =>
    have HF : Hid (EL = lst) := by rw [Hid, ← HO.out]; unfold Dl.among; simp only [hm]; rfl
    have hE2 := HE.out hm
    rw [HF.out] at hE2
    have HE2 : Hid _ := hE2
    clear hE2
    simp only [Bool.false_eq_true, if_false]
    rintro e w1 ⟨rfl, hb1⟩
    have HB1 : Hid (Below w.heap.size w w1) := HB0.out.trans (hb1.mono HB0.out.size)
    have HK1 : Hid (Bk w1 w.heap.size 24 #[.bool pf, .string plo, .string phi, .int .i64 pr, .slice pp pn pc]) := HK0.out.below hb1 HK0.out.lt
    have HR1 : Hid (Bk w1 (w.heap.size + 1) 30 #[.string ⟨#[]⟩, .int .i64 0, .int .i64 0, .int .i64 0]) := HR0.out.below hb1 HR0.out.lt
    have HP1 : Hid (Bk w1 (w.heap.size + 1 + 1) 24 #[.bool true, .string ⟨#[]⟩, .string ⟨#[]⟩, .int .i64 0, .slice none 0 0]) := HP0.out.below hb1 HP0.out.lt
    clear hb1 hm
    have a0 : w1.cell? ⟨w.heap.size, 0, none⟩ = some (.bool pf) := HK1.out.cell 0
    have a1 : w1.cell? ⟨w.heap.size, 1, none⟩ = some (.string plo) := HK1.out.cell 1
    have a2 : w1.cell? ⟨w.heap.size, 2, none⟩ = some (.string phi) := HK1.out.cell 2
    have a3 : w1.cell? ⟨w.heap.size, 3, none⟩ = some (.int .i64 pr) := HK1.out.cell 3
    have a4 : w1.cell? ⟨w.heap.size, 4, none⟩ = some (.slice pp pn pc) := HK1.out.cell 4
    go_wp2_with fail
    refine (HE2.out _ HB1.out).mono ?_
    rintro e w2 ⟨⟨q, m, c, rfl, hlm, hle, hmr⟩, hb2⟩
    clear a0 a1 a2 a3 a4
    have HB2 : Hid (Below w.heap.size w w2) := HB1.out.trans (hb2.mono HB1.out.size)
    have HR2 : Hid (Bk w2 (w.heap.size + 1) 30 #[.string ⟨#[]⟩, .int .i64 0, .int .i64 0, .int .i64 0]) := HR1.out.below hb2 HR1.out.lt
    have HP2 : Hid (Bk w2 (w.heap.size + 1 + 1) 24 #[.bool true, .string ⟨#[]⟩, .string ⟨#[]⟩, .int .i64 0, .slice none 0 0]) := HP1.out.below hb2 HP1.out.lt
    have HLM : Hid (lst.length = m) := hlm
    have HLE : Hid (Ens w2 q lst) := hle
    clear hb2 hlm hle
    have b0 : w2.cell? ⟨w.heap.size + 1 + 1, 0, none⟩ = some (.bool true) := HP2.out.cell 0
    have bf0 : w2.frozen? ⟨w.heap.size + 1 + 1, 0, none⟩ = false := HP2.out.frozen 0
    have b1 : w2.cell? ⟨w.heap.size + 1 + 1, 1, none⟩ = some (.string ⟨#[]⟩) := HP2.out.cell 1
    have bf1 : w2.frozen? ⟨w.heap.size + 1 + 1, 1, none⟩ = false := HP2.out.frozen 1
    have b2 : w2.cell? ⟨w.heap.size + 1 + 1, 2, none⟩ = some (.string ⟨#[]⟩) := HP2.out.cell 2
    have bf2 : w2.frozen? ⟨w.heap.size + 1 + 1, 2, none⟩ = false := HP2.out.frozen 2
    have b3 : w2.cell? ⟨w.heap.size + 1 + 1, 3, none⟩ = some (.int .i64 0) := HP2.out.cell 3
    have bf3 : w2.frozen? ⟨w.heap.size + 1 + 1, 3, none⟩ = false := HP2.out.frozen 3
    have b4 : w2.cell? ⟨w.heap.size + 1 + 1, 4, none⟩ = some (.slice none 0 0) := HP2.out.cell 4
    have bf4 : w2.frozen? ⟨w.heap.size + 1 + 1, 4, none⟩ = false := HP2.out.frozen 4
    obtain ⟨w3, hw3⟩ : ∃ w3, w2.setCell ⟨w.heap.size + 1 + 1, 4, none⟩ (.slice q m c) = w3 := ⟨_, rfl⟩
    have ht3 : Tn [w.heap.size + 1 + 1] w2 w3 := by rw [← hw3]; exact (Tn.refl _ w2).setCell (.inl (by simp)) _
    have HP3 : Hid (Bk w3 (w.heap.size + 1 + 1) 24 #[.bool true, .string ⟨#[]⟩, .string ⟨#[]⟩, .int .i64 0, .slice q m c]) := by rw [← hw3]; exact HP2.out.set 4 _
    have HR3 : Hid (Bk w3 (w.heap.size + 1) 30 #[.string ⟨#[]⟩, .int .i64 0, .int .i64 0, .int .i64 0]) := HR2.out.tn ht3 (by simp; try omega)
    have HB3 : Hid (Below w.heap.size w w3) := HB2.out.trans (ht3.below HB2.out.size (by simp; omega))
    have HL3 : Hid (Ens w3 q lst) := by rw [← hw3]; exact HLE.out.putSlice b4 _
    have d0 : w3.cell? ⟨w.heap.size + 1 + 1, 0, none⟩ = some (.bool true) := HP3.out.cell 0
    have d1 : w3.cell? ⟨w.heap.size + 1 + 1, 1, none⟩ = some (.string ⟨#[]⟩) := HP3.out.cell 1
    have d2 : w3.cell? ⟨w.heap.size + 1 + 1, 2, none⟩ = some (.string ⟨#[]⟩) := HP3.out.cell 2
    have d3 : w3.cell? ⟨w.heap.size + 1 + 1, 3, none⟩ = some (.int .i64 0) := HP3.out.cell 3
    have d4 : w3.cell? ⟨w.heap.size + 1 + 1, 4, none⟩ = some (.slice q m c) := HP3.out.cell 4
    go_wp2_with fail
    clear hw3
    clear b0 bf0 b1 bf1 b2 bf2 b3 bf3 b4 bf4
    clear d0 d1 d2 d3 d4
    refine (find_any true ⟨#[]⟩ ⟨#[]⟩ 0 q m c lst key _ HLM.out HL3.out (by omega)).mono ?_
    rintro e w4 ⟨⟨fo', rfl, hfn⟩, hb4⟩
    obtain rfl : fo' = fo := (hfn.1 rfl).trans HFO.out
    have HB4 : Hid (Below w.heap.size w w4) := HB3.out.trans (hb4.mono HB3.out.size)
    have HR4 : Hid (Bk w4 (w.heap.size + 1) 30 #[.string ⟨#[]⟩, .int .i64 0, .int .i64 0, .int .i64 0]) := HR3.out.below hb4 HR3.out.lt
    clear hfn hb4
    have b0 : w4.cell? ⟨w.heap.size + 1, 0, none⟩ = some (.string ⟨#[]⟩) := HR4.out.cell 0
    have bf0 : w4.frozen? ⟨w.heap.size + 1, 0, none⟩ = false := HR4.out.frozen 0
    have b1 : w4.cell? ⟨w.heap.size + 1, 1, none⟩ = some (.int .i64 0) := HR4.out.cell 1
    have bf1 : w4.frozen? ⟨w.heap.size + 1, 1, none⟩ = false := HR4.out.frozen 1
    have b2 : w4.cell? ⟨w.heap.size + 1, 2, none⟩ = some (.int .i64 0) := HR4.out.cell 2
    have bf2 : w4.frozen? ⟨w.heap.size + 1, 2, none⟩ = false := HR4.out.frozen 2
    have b3 : w4.cell? ⟨w.heap.size + 1, 3, none⟩ = some (.int .i64 0) := HR4.out.cell 3
    have bf3 : w4.frozen? ⟨w.heap.size + 1, 3, none⟩ = false := HR4.out.frozen 3
    cases fo' with
    | none =>
      unfold fv
      simp only
      go_wp2
      clear b0 bf0 b1 bf1 b2 bf2 b3 bf3
      have k1 := HR4.out.four (.string ⟨#[]⟩) (.int .i64 0) (.int .i64 0) (.int .i64 0)
      have ht : Tn [w.heap.size + 1] w4 _ := (Tn.refl _ w4).four (R := w.heap.size + 1) (.inl (by simp)) (.string ⟨#[]⟩) (.int .i64 0) (.int .i64 0) (.int .i64 0)
      refine bodyPost_ret (results_two (T' := 30) (cs := [.string ⟨#[]⟩, .int .i64 0, .int .i64 0, .int .i64 0]) rfl rfl en_agg en_size rfl k1) rfl ?_
      exact ⟨rfl, HB4.out.trans (ht.below HB4.out.size (by simp))⟩
    | some x =>
      obtain ⟨xk, xs, xg, xc⟩ := x
      unfold fv
      simp only
      go_wp2
      clear b0 bf0 b1 bf1 b2 bf2 b3 bf3
      have k1 := HR4.out.four (.string xk) (.int .i64 xs) (.int .i64 xg) (.int .i64 xc)
      have ht : Tn [w.heap.size + 1] w4 _ := (Tn.refl _ w4).four (R := w.heap.size + 1) (.inl (by simp)) (.string xk) (.int .i64 xs) (.int .i64 xg) (.int .i64 xc)
      refine bodyPost_ret (results_two (T' := 30) (cs := [.string xk, .int .i64 xs, .int .i64 xg, .int .i64 xc]) rfl rfl en_agg en_size rfl k1) rfl ?_
      exact ⟨rfl, HB4.out.trans (ht.below HB4.out.size (by simp))⟩

end Go.Proofs.YthpilennljpamaaGreat

namespace Go.Proofs.YthpilennljpamaaGreat
open Go.RowKit Go.Sort
set_option linter.unusedVariables false
set_option maxRecDepth 100000

/-- Where a page is that the newest delta says is gone. -/
def Dl.gone : List De → Option Int
  | [] => none
  | d :: _ => if (d.k == 5) && Dl.may d then some d.pg else none

/-- What the folded page says of a key: o is its outline, EL its entries. -/
def Dl.says (g : Pp) (key : ByteArray) (ds : List De) (EL : List En) (o : Pp × Int) : Sp × Int :=
  if o.2 ≠ 0 then (Sp.zero, o.2)
  else if Ky.inn ⟨o.1.lo, o.1.hi⟩ key = false then (if (Ky.lt key o.1.lo || o.1.r == 0) = true then (Sp.zero, 73) else (⟨En.zero, false, o.1.r⟩, 0))
  else if o.1.leaf = false then Dl.hitI (Pg.fnd false EL key)
  else Dl.hitL (Pg.find true (Dl.among g key ds EL) key)

def Dl.look (g : Pp) (key : ByteArray) (ds : List De) (EL : List En) : Sp × Int :=
  match Dl.gone ds with
  | some n => (⟨En.zero, false, n⟩, 0)
  | none => Dl.says g key ds EL (Dl.outl g ds.reverse)

theorem Led.own {w W : World} {l : List En} {e : Ending} {w' : World} (h : Led W l e w') (hb : Below w.heap.size w W) : Led w l e w' := ⟨h.1, hb.trans (h.2.mono hb.size)⟩

/-- The part behind the outline. -/
structure Lk (w W : World) (pf : Bool) (plo phi : ByteArray) (pr : Int) (pp : Option Addr) (pn pc : Nat) : Prop where
  below : Below w.heap.size w W
  b0 : Bk W w.heap.size 24 #[.bool pf, .string plo, .string phi, .int .i64 pr, .slice pp pn pc]
  b1 : Bk W (w.heap.size + 1) 44 #[.string ⟨#[]⟩, .int .i64 0, .int .i64 0, .int .i64 0, .bool false, .int .i64 0]

theorem Lk.on {w W W' : World} {pf : Bool} {plo phi : ByteArray} {pr : Int} {pp : Option Addr} {pn pc : Nat} (h : Lk w W pf plo phi pr pp pn pc) (hb : Below W.heap.size W W') : Lk w W' pf plo phi pr pp pn pc :=
  ⟨h.below.trans (hb.mono h.below.size), h.b0.below hb h.b0.lt, h.b1.below hb h.b1.lt⟩

set_option maxHeartbeats 8000000 in
theorem looked_any (pf : Bool) (plo phi : ByteArray) (pr : Int) (pp : Option Addr) (pn pc : Nat) (pl : List En) (key : ByteArray) (p : Option Addr) (len cap : Nat) (L : List Dm) (EL : List En) (w : World) (hlen : pl.length = pn) (hx : Ens w pp pl) (hl : pn ≤ 3518437208780) (hL : L.length = len) (hll : len ≤ 4398046511104) (hD : Des w p L)
    (hE : (Dl.outl ⟨pf, plo, phi, pr, pl⟩ (L.map (·.d)).reverse).2 = 0 → ((Dl.outl ⟨pf, plo, phi, pr, pl⟩ (L.map (·.d)).reverse).1.leaf = false ∨ Pg.may pf ⟨plo, phi⟩ pr pl = false) → ∀ W, Below w.heap.size w W → Calls Tryz.prog 54 #[pgv pf plo phi pr pp pn pc, .slice p len cap] W fun e w' => Led W EL e w') :
    Calls Tryz.prog 37 #[pgv pf plo phi pr pp pn pc, .string key, .slice p len cap] w fun e w' => DoneS w (Dl.look ⟨pf, plo, phi, pr, pl⟩ key (L.map (·.d)) EL) e w' := by
  obtain ⟨out, HO⟩ : ∃ out, Hid (Dl.look ⟨pf, plo, phi, pr, pl⟩ key (L.map (·.d)) EL = out) := ⟨_, rfl⟩
  rw [HO.out]
  have HX : Hid (Ens w pp pl) := hx
  have HN : Hid (pl.length = pn) := hlen
  have HL : Hid (L.length = len) := hL
  have HD : Hid (Des w p L) := hD
  have HE : Hid _ := hE
  clear hx hlen hL hD hE
  obtain ⟨w0, hw0⟩ : ∃ w0, (w.alloc (.cells #[.bool pf, .string plo, .string phi, .int .i64 pr, .slice pp pn pc] 24)).alloc (.cells #[.string ⟨#[]⟩, .int .i64 0, .int .i64 0, .int .i64 0, .bool false, .int .i64 0] 44) = w0 := ⟨_, rfl⟩
  have HK0 : Hid (Lk w w0 pf plo phi pr pp pn pc) := by rw [← hw0]; exact ⟨((Below.refl _ _).alloc (Nat.le_refl _) _).alloc (by simp) _, (Bk.new _ _ _).alloc _, Bk.new1 _ _ _ _⟩
  -- what is behind the first test, where it is not met
  have HREST : Hid (∀ (W : World) (Q : Exit → Act → World → Prop) (u : Nat → Value) (a : Act), True) := fun _ _ _ _ => trivial
  clear HREST
  go_enter Tryz.func37, Tryz.ntmps37
  have a0 : w0.cell? ⟨w.heap.size, 0, none⟩ = some (.bool pf) := HK0.out.b0.cell 0
  have a1 : w0.cell? ⟨w.heap.size, 1, none⟩ = some (.string plo) := HK0.out.b0.cell 1
  have a2 : w0.cell? ⟨w.heap.size, 2, none⟩ = some (.string phi) := HK0.out.b0.cell 2
  have a3 : w0.cell? ⟨w.heap.size, 3, none⟩ = some (.int .i64 pr) := HK0.out.b0.cell 3
  have a4 : w0.cell? ⟨w.heap.size, 4, none⟩ = some (.slice pp pn pc) := HK0.out.b0.cell 4
  have b0 : w0.cell? ⟨w.heap.size + 1, 0, none⟩ = some (.string ⟨#[]⟩) := HK0.out.b1.cell 0
  have bf0 : w0.frozen? ⟨w.heap.size + 1, 0, none⟩ = false := HK0.out.b1.frozen 0
  have b1 : w0.cell? ⟨w.heap.size + 1, 1, none⟩ = some (.int .i64 0) := HK0.out.b1.cell 1
  have bf1 : w0.frozen? ⟨w.heap.size + 1, 1, none⟩ = false := HK0.out.b1.frozen 1
  have b2 : w0.cell? ⟨w.heap.size + 1, 2, none⟩ = some (.int .i64 0) := HK0.out.b1.cell 2
  have bf2 : w0.frozen? ⟨w.heap.size + 1, 2, none⟩ = false := HK0.out.b1.frozen 2
  have b3 : w0.cell? ⟨w.heap.size + 1, 3, none⟩ = some (.int .i64 0) := HK0.out.b1.cell 3
  have bf3 : w0.frozen? ⟨w.heap.size + 1, 3, none⟩ = false := HK0.out.b1.frozen 3
  have b4 : w0.cell? ⟨w.heap.size + 1, 4, none⟩ = some (.bool false) := HK0.out.b1.cell 4
  have bf4 : w0.frozen? ⟨w.heap.size + 1, 4, none⟩ = false := HK0.out.b1.frozen 4
  have b5 : w0.cell? ⟨w.heap.size + 1, 5, none⟩ = some (.int .i64 0) := HK0.out.b1.cell 5
  have bf5 : w0.frozen? ⟨w.heap.size + 1, 5, none⟩ = false := HK0.out.b1.frozen 5
  cases hg : Dl.gone (L.map (·.d)) with
  | some n =>
    have HF : Hid (out = (⟨En.zero, false, n⟩, 0)) := by rw [Hid, ← HO.out]; unfold Dl.look; rw [hg]
    clear HO HE
    cases L with
    | nil => simp [Dl.gone] at hg
    | cons m r =>
      obtain ⟨b, o, rfl, hc⟩ := HD.out.below HK0.out.below (Nat.le_refl _) (by simp)
      obtain ⟨hcx, hOk⟩ := hc 0 m rfl
      simp only [List.map_cons, Dl.gone] at hg
      cases h5 : ((m.d.k == 5) && Dl.may m.d) with
      | false => rw [h5] at hg; simp at hg
      | true =>
        rw [h5] at hg
        simp only [if_true, Option.some.injEq] at hg
        rw [Bool.and_eq_true] at h5
        obtain ⟨h5, hmay⟩ := h5
        have h5' : m.d.k = 5 := by simpa using h5
        obtain ⟨⟨dk, ⟨dek, des, deg, dec⟩, dkey, dpg, ⟨dleaf, dlo, dhi, dr, dl⟩⟩, dp, dn, dc⟩ := m
        simp only at h5' hg
        subst h5' hg
        have hlen1 : (0 : Int) < (len : Int) := by have := HL.out; simp at this; omega
        have hlen2 : decide ((len : Int) > 0) = true := decide_eq_true hlen1
        have hlen3 : 0 < len := by omega
        have z0 := hcx 0 _ rfl
        have z1 := hcx 1 _ rfl
        have z2 := hcx 2 _ rfl
        have z3 := hcx 3 _ rfl
        have z4 := hcx 4 _ rfl
        have z5 := hcx 5 _ rfl
        have z6 := hcx 6 _ rfl
        have z7 := hcx 7 _ rfl
        have z8 := hcx 8 _ rfl
        have z9 := hcx 9 _ rfl
        have z10 := hcx 10 _ rfl
        have z11 := hcx 11 _ rfl
        simp only [Nat.zero_mul, Nat.add_zero] at z0 z1 z2 z3 z4 z5 z6 z7 z8 z9 z10 z11
        have HOK : Hid (Dm.Ok w0 ⟨⟨5, ⟨dek, des, deg, dec⟩, dkey, dpg, ⟨dleaf, dlo, dhi, dr, dl⟩⟩, dp, dn, dc⟩) := hOk
        have HM : Hid (Dl.may ⟨5, ⟨dek, des, deg, dec⟩, dkey, dpg, ⟨dleaf, dlo, dhi, dr, dl⟩⟩ = true) := hmay
        clear hcx hc hOk hmay
        have hz0 : w0.cell? ⟨b, o, none⟩ = some (.int .i64 5) := z0
        go_wp2_with fail
        refine (dcheck_any ⟨5, ⟨dek, des, deg, dec⟩, dkey, dpg, ⟨dleaf, dlo, dhi, dr, dl⟩⟩ dp dn dc _ HOK.out.len HOK.out.ens (by have := HOK.out.room; simp only at this; omega)).mono ?_
        rw [HM.out]
        rintro e w1 ⟨rfl, hb1⟩
        have HK1 : Hid (Lk w w1 pf plo phi pr pp pn pc) := HK0.out.on hb1
        have hz6 : w1.cell? ⟨b, o + 6, none⟩ = some (.int .i64 dpg) := by rw [hb1.cell (World.block_lt_of_cell? w0 _ z6)]; exact z6
        clear a0 a1 a2 a3 a4
        clear b0 bf0 b1 bf1 b2 bf2 b3 bf3 b4 bf4 b5 bf5
        clear hb1 hz0 z0 z1 z2 z3 z4 z5 z6 z7 z8 z9 z10 z11 hw0
        simp only [if_true]
        have b0 : w1.cell? ⟨w.heap.size + 1, 0, none⟩ = some (.string ⟨#[]⟩) := HK1.out.b1.cell 0
        have bf0 : w1.frozen? ⟨w.heap.size + 1, 0, none⟩ = false := HK1.out.b1.frozen 0
        have b1 : w1.cell? ⟨w.heap.size + 1, 1, none⟩ = some (.int .i64 0) := HK1.out.b1.cell 1
        have bf1 : w1.frozen? ⟨w.heap.size + 1, 1, none⟩ = false := HK1.out.b1.frozen 1
        have b2 : w1.cell? ⟨w.heap.size + 1, 2, none⟩ = some (.int .i64 0) := HK1.out.b1.cell 2
        have bf2 : w1.frozen? ⟨w.heap.size + 1, 2, none⟩ = false := HK1.out.b1.frozen 2
        have b3 : w1.cell? ⟨w.heap.size + 1, 3, none⟩ = some (.int .i64 0) := HK1.out.b1.cell 3
        have bf3 : w1.frozen? ⟨w.heap.size + 1, 3, none⟩ = false := HK1.out.b1.frozen 3
        have b4 : w1.cell? ⟨w.heap.size + 1, 4, none⟩ = some (.bool false) := HK1.out.b1.cell 4
        have bf4 : w1.frozen? ⟨w.heap.size + 1, 4, none⟩ = false := HK1.out.b1.frozen 4
        have b5 : w1.cell? ⟨w.heap.size + 1, 5, none⟩ = some (.int .i64 0) := HK1.out.b1.cell 5
        have bf5 : w1.frozen? ⟨w.heap.size + 1, 5, none⟩ = false := HK1.out.b1.frozen 5
        go_wp2
        clear b0 bf0 b1 bf1 b2 bf2 b3 bf3 b4 bf4 b5 bf5
        have k1 := HK1.out.b1.six (.string ⟨#[]⟩) (.int .i64 0) (.int .i64 0) (.int .i64 0) (.bool false) (.int .i64 dpg)
        have ht : Tn [w.heap.size + 1] w1 _ := (Tn.refl _ w1).six (R := w.heap.size + 1) (.inl (by simp)) (.string ⟨#[]⟩) (.int .i64 0) (.int .i64 0) (.int .i64 0) (.bool false) (.int .i64 dpg)
        refine bodyPost_ret (results_one (T' := 44) (cs := [.string ⟨#[]⟩, .int .i64 0, .int .i64 0, .int .i64 0, .bool false, .int .i64 dpg]) rfl rfl sp_agg sp_size rfl k1) rfl ?_
        rw [HF.out]
        exact ⟨.inl ⟨rfl, rfl⟩, HK1.out.below.trans (ht.below HK1.out.below.size (by simp))⟩
  | none =>
    have HSAY : Hid (Dl.says ⟨pf, plo, phi, pr, pl⟩ key (L.map (·.d)) EL (Dl.outl ⟨pf, plo, phi, pr, pl⟩ (L.map (·.d)).reverse) = out) := by rw [Hid, ← HO.out]; unfold Dl.look; rw [hg]
    clear HO
    by_cases hz : len = 0
    · have hlen1 : ¬ (len : Int) > 0 := by omega
      have hlen2 : decide ((len : Int) > 0) = false := decide_eq_false hlen1
      have hlen3 : decide ((0 : Int) < (len : Int)) = false := decide_eq_false (by omega)
      have hlen4 : ¬ 0 < len := by omega
      have HZ : Hid (len = 0) := hz
      clear hz
      go_wp2_with fail
      clear hw0
      clear a0 a1 a2 a3 a4
      clear b0 bf0 b1 bf1 b2 bf2 b3 bf3 b4 bf4 b5 bf5
      refine (outline_any ⟨pf, plo, phi, pr, pl⟩ pp pn pc p len cap L _ HL.out hll (HD.out.below HK0.out.below (Nat.le_refl _))).mono ?_
      have HS : Hid (Dl.says ⟨pf, plo, phi, pr, pl⟩ key (L.map (·.d)) EL (Dl.outl ⟨pf, plo, phi, pr, pl⟩ (L.map (·.d)).reverse) = out) := HSAY.out
      have HE1 : Hid _ := HE.out
      obtain ⟨⟨⟨qf, qlo, qhi, qr, ql⟩, kk⟩, hO⟩ : ∃ o, Dl.outl ⟨pf, plo, phi, pr, pl⟩ (L.map (·.d)).reverse = o := ⟨_, rfl⟩
      rw [hO] at HS HE1
      rw [hO]
      rintro e w2 ⟨hd, hb2⟩
      have HK2 : Hid (Lk w w2 pf plo phi pr pp pn pc) := HK0.out.on hb2
      clear hb2 hO
      simp only at hd
      rcases hd with ⟨h0, rfl⟩ | ⟨h0, rfl⟩
      · subst h0
        obtain ⟨w3, hw3⟩ : ∃ w3, w3 = w2.alloc (.cells #[.bool qf, .string qlo, .string qhi, .int .i64 qr, .slice none 0 0] 24) := ⟨_, rfl⟩
        have HK3 : Hid (Lk w w3 pf plo phi pr pp pn pc) := by rw [hw3]; exact HK2.out.on ((Below.refl _ _).alloc (Nat.le_refl _) _)
        have HP3 : Hid (Bk w3 w2.heap.size 24 #[.bool qf, .string qlo, .string qhi, .int .i64 qr, .slice none 0 0]) := by rw [hw3]; exact Bk.new _ _ _
        have HPW : Hid (w.heap.size + 1 < w2.heap.size) := HK2.out.b1.lt
        go_wp2_with fail
        rw [← hw3]
        clear hw3
        refine (has_any qf qlo qhi qr none 0 0 _ key).mono ?_
        cases hin : Ky.inn ⟨qlo, qhi⟩ key with
        | false =>
          have HS2 : Hid ((if (Ky.lt key qlo || qr == 0) = true then (Sp.zero, 73) else (⟨En.zero, false, qr⟩, 0)) = out) := by rw [Hid, ← HS.out]; unfold Dl.says; simp only [hin]; rfl
          rintro e w4 ⟨rfl, hb4⟩
          have HK4 : Hid (Lk w w4 pf plo phi pr pp pn pc) := HK3.out.on hb4
          have HP4 : Hid (Bk w4 w2.heap.size 24 #[.bool qf, .string qlo, .string qhi, .int .i64 qr, .slice none 0 0]) := HP3.out.below hb4 HP3.out.lt
          clear hb4 hin
          have q0 : w4.cell? ⟨w2.heap.size, 0, none⟩ = some (.bool qf) := HP4.out.cell 0
          have q1 : w4.cell? ⟨w2.heap.size, 1, none⟩ = some (.string qlo) := HP4.out.cell 1
          have q2 : w4.cell? ⟨w2.heap.size, 2, none⟩ = some (.string qhi) := HP4.out.cell 2
          have q3 : w4.cell? ⟨w2.heap.size, 3, none⟩ = some (.int .i64 qr) := HP4.out.cell 3
          have q4 : w4.cell? ⟨w2.heap.size, 4, none⟩ = some (.slice none 0 0) := HP4.out.cell 4
          go_wp2_with fail
          clear q0 q1 q2 q3 q4
          refine (beside_any qf qlo qhi qr none 0 0 key _).mono ?_
          rintro e w5 ⟨hbs, hb5⟩
          have HK5 : Hid (Lk w w5 pf plo phi pr pp pn pc) := HK4.out.on hb5
          clear hb5
          rcases hbs with ⟨hc, rfl⟩ | ⟨hc, rfl⟩
          · have HF : Hid (out = (⟨En.zero, false, qr⟩, 0)) := by rw [Hid, ← HS2.out, hc]; rfl
            clear hc
            have b0 : w5.cell? ⟨w.heap.size + 1, 0, none⟩ = some (.string ⟨#[]⟩) := HK5.out.b1.cell 0
            have bf0 : w5.frozen? ⟨w.heap.size + 1, 0, none⟩ = false := HK5.out.b1.frozen 0
            have b1 : w5.cell? ⟨w.heap.size + 1, 1, none⟩ = some (.int .i64 0) := HK5.out.b1.cell 1
            have bf1 : w5.frozen? ⟨w.heap.size + 1, 1, none⟩ = false := HK5.out.b1.frozen 1
            have b2 : w5.cell? ⟨w.heap.size + 1, 2, none⟩ = some (.int .i64 0) := HK5.out.b1.cell 2
            have bf2 : w5.frozen? ⟨w.heap.size + 1, 2, none⟩ = false := HK5.out.b1.frozen 2
            have b3 : w5.cell? ⟨w.heap.size + 1, 3, none⟩ = some (.int .i64 0) := HK5.out.b1.cell 3
            have bf3 : w5.frozen? ⟨w.heap.size + 1, 3, none⟩ = false := HK5.out.b1.frozen 3
            have b4 : w5.cell? ⟨w.heap.size + 1, 4, none⟩ = some (.bool false) := HK5.out.b1.cell 4
            have bf4 : w5.frozen? ⟨w.heap.size + 1, 4, none⟩ = false := HK5.out.b1.frozen 4
            have b5 : w5.cell? ⟨w.heap.size + 1, 5, none⟩ = some (.int .i64 0) := HK5.out.b1.cell 5
            have bf5 : w5.frozen? ⟨w.heap.size + 1, 5, none⟩ = false := HK5.out.b1.frozen 5
            go_wp2
            clear b0 bf0 b1 bf1 b2 bf2 b3 bf3 b4 bf4 b5 bf5
            have k1 := HK5.out.b1.six (.string ⟨#[]⟩) (.int .i64 0) (.int .i64 0) (.int .i64 0) (.bool false) (.int .i64 qr)
            have ht : Tn [w.heap.size + 1] w5 _ := (Tn.refl _ w5).six (R := w.heap.size + 1) (.inl (by simp)) (.string ⟨#[]⟩) (.int .i64 0) (.int .i64 0) (.int .i64 0) (.bool false) (.int .i64 qr)
            refine bodyPost_ret (results_one (T' := 44) (cs := [.string ⟨#[]⟩, .int .i64 0, .int .i64 0, .int .i64 0, .bool false, .int .i64 qr]) rfl rfl sp_agg sp_size rfl k1) rfl ?_
            rw [HF.out]
            exact ⟨.inl ⟨rfl, rfl⟩, HK5.out.below.trans (ht.below HK5.out.below.size (by simp))⟩
          · have HF : Hid (out = (Sp.zero, 73)) := by rw [Hid, ← HS2.out, hc]; rfl
            refine ⟨rfl, ?_⟩
            rw [HF.out]
            exact ⟨.inr ⟨by decide, rfl⟩, HK5.out.below⟩
        | true =>
          rintro e w4 ⟨rfl, hb4⟩
          have HK4 : Hid (Lk w w4 pf plo phi pr pp pn pc) := HK3.out.on hb4
          have HP4 : Hid (Bk w4 w2.heap.size 24 #[.bool qf, .string qlo, .string qhi, .int .i64 qr, .slice none 0 0]) := HP3.out.below hb4 HP3.out.lt
          clear hb4
          have q0 : w4.cell? ⟨w2.heap.size, 0, none⟩ = some (.bool qf) := HP4.out.cell 0
          have qf0 : w4.frozen? ⟨w2.heap.size, 0, none⟩ = false := HP4.out.frozen 0
          have q1 : w4.cell? ⟨w2.heap.size, 1, none⟩ = some (.string qlo) := HP4.out.cell 1
          have qf1 : w4.frozen? ⟨w2.heap.size, 1, none⟩ = false := HP4.out.frozen 1
          have q2 : w4.cell? ⟨w2.heap.size, 2, none⟩ = some (.string qhi) := HP4.out.cell 2
          have qf2 : w4.frozen? ⟨w2.heap.size, 2, none⟩ = false := HP4.out.frozen 2
          have q3 : w4.cell? ⟨w2.heap.size, 3, none⟩ = some (.int .i64 qr) := HP4.out.cell 3
          have qf3 : w4.frozen? ⟨w2.heap.size, 3, none⟩ = false := HP4.out.frozen 3
          have q4 : w4.cell? ⟨w2.heap.size, 4, none⟩ = some (.slice none 0 0) := HP4.out.cell 4
          have qf4 : w4.frozen? ⟨w2.heap.size, 4, none⟩ = false := HP4.out.frozen 4
          have a0 : w4.cell? ⟨w.heap.size, 0, none⟩ = some (.bool pf) := HK4.out.b0.cell 0
          have a1 : w4.cell? ⟨w.heap.size, 1, none⟩ = some (.string plo) := HK4.out.b0.cell 1
          have a2 : w4.cell? ⟨w.heap.size, 2, none⟩ = some (.string phi) := HK4.out.b0.cell 2
          have a3 : w4.cell? ⟨w.heap.size, 3, none⟩ = some (.int .i64 pr) := HK4.out.b0.cell 3
          have a4 : w4.cell? ⟨w.heap.size, 4, none⟩ = some (.slice pp pn pc) := HK4.out.b0.cell 4
          cases qf with
          | false =>
            have HS2 : Hid (Dl.hitI (Pg.fnd false EL key) = out) := by rw [Hid, ← HS.out]; unfold Dl.says; simp only [hin]; rfl
            have HE2 : Hid _ := HE1.out (by simp) (by simp)
            go_wp2_with fail
            refine Calls.mono (HE2.out _ HK4.out.below) ?_
            rintro e w5 ⟨⟨q, m, c, rfl, hlm, hle, hmr⟩, hb5⟩
            have HK5 : Hid (Lk w w5 pf plo phi pr pp pn pc) := HK4.out.on hb5
            have HP5 : Hid (Bk w5 w2.heap.size 24 #[.bool false, .string qlo, .string qhi, .int .i64 qr, .slice none 0 0]) := HP4.out.below hb5 HP4.out.lt
            have HLM : Hid (EL.length = m) := hlm
            have HLE : Hid (Ens w5 q EL) := hle
            clear hb5 hlm hle
            clear q0 qf0 q1 qf1 q2 qf2 q3 qf3 q4 qf4
            clear a0 a1 a2 a3 a4
            have q0 : w5.cell? ⟨w2.heap.size, 0, none⟩ = some (.bool false) := HP5.out.cell 0
            have qf0 : w5.frozen? ⟨w2.heap.size, 0, none⟩ = false := HP5.out.frozen 0
            have q1 : w5.cell? ⟨w2.heap.size, 1, none⟩ = some (.string qlo) := HP5.out.cell 1
            have qf1 : w5.frozen? ⟨w2.heap.size, 1, none⟩ = false := HP5.out.frozen 1
            have q2 : w5.cell? ⟨w2.heap.size, 2, none⟩ = some (.string qhi) := HP5.out.cell 2
            have qf2 : w5.frozen? ⟨w2.heap.size, 2, none⟩ = false := HP5.out.frozen 2
            have q3 : w5.cell? ⟨w2.heap.size, 3, none⟩ = some (.int .i64 qr) := HP5.out.cell 3
            have qf3 : w5.frozen? ⟨w2.heap.size, 3, none⟩ = false := HP5.out.frozen 3
            have q4 : w5.cell? ⟨w2.heap.size, 4, none⟩ = some (.slice none 0 0) := HP5.out.cell 4
            have qf4 : w5.frozen? ⟨w2.heap.size, 4, none⟩ = false := HP5.out.frozen 4
            obtain ⟨w6, hw6⟩ : ∃ w6, w5.setCell ⟨w2.heap.size, 4, none⟩ (.slice q m c) = w6 := ⟨_, rfl⟩
            have ht6 : Tn [w2.heap.size] w5 w6 := by rw [← hw6]; exact (Tn.refl _ w5).setCell (.inl (by simp)) _
            have HP6 : Hid (Bk w6 w2.heap.size 24 #[.bool false, .string qlo, .string qhi, .int .i64 qr, .slice q m c]) := by rw [← hw6]; exact HP5.out.set 4 _
            have HK6 : Hid (Lk w w6 pf plo phi pr pp pn pc) := ⟨HK5.out.below.trans (ht6.below HK5.out.below.size (by have := HPW.out; simp; omega)), HK5.out.b0.tn ht6 (by have := HPW.out; simp; omega), HK5.out.b1.tn ht6 (by have := HPW.out; simp; omega)⟩
            have HL6 : Hid (Ens w6 q EL) := by rw [← hw6]; exact HLE.out.putSlice q4 _
            have y0 : w6.cell? ⟨w2.heap.size, 0, none⟩ = some (.bool false) := HP6.out.cell 0
            have y1 : w6.cell? ⟨w2.heap.size, 1, none⟩ = some (.string qlo) := HP6.out.cell 1
            have y2 : w6.cell? ⟨w2.heap.size, 2, none⟩ = some (.string qhi) := HP6.out.cell 2
            have y3 : w6.cell? ⟨w2.heap.size, 3, none⟩ = some (.int .i64 qr) := HP6.out.cell 3
            have y4 : w6.cell? ⟨w2.heap.size, 4, none⟩ = some (.slice q m c) := HP6.out.cell 4
            go_wp2_with fail
            clear hw6 ht6
            clear q0 qf0 q1 qf1 q2 qf2 q3 qf3 q4 qf4
            clear y0 y1 y2 y3 y4
            refine (below_any false qlo qhi qr q m c EL key _ HLM.out HL6.out hmr).mono ?_
            rw [HS2.out]
            rintro e w7 ⟨hd7, hb7⟩
            have HK7 : Hid (Lk w w7 pf plo phi pr pp pn pc) := HK6.out.on hb7
            clear hb7
            rcases hd7 with ⟨h0, rfl⟩ | ⟨h0, rfl⟩
            · obtain ⟨⟨⟨xk, xs, xg, xc⟩, xf, xgo⟩, kk⟩ := out
              simp only at h0
              subst h0
              have b0 : w7.cell? ⟨w.heap.size + 1, 0, none⟩ = some (.string ⟨#[]⟩) := HK7.out.b1.cell 0
              have bf0 : w7.frozen? ⟨w.heap.size + 1, 0, none⟩ = false := HK7.out.b1.frozen 0
              have b1 : w7.cell? ⟨w.heap.size + 1, 1, none⟩ = some (.int .i64 0) := HK7.out.b1.cell 1
              have bf1 : w7.frozen? ⟨w.heap.size + 1, 1, none⟩ = false := HK7.out.b1.frozen 1
              have b2 : w7.cell? ⟨w.heap.size + 1, 2, none⟩ = some (.int .i64 0) := HK7.out.b1.cell 2
              have bf2 : w7.frozen? ⟨w.heap.size + 1, 2, none⟩ = false := HK7.out.b1.frozen 2
              have b3 : w7.cell? ⟨w.heap.size + 1, 3, none⟩ = some (.int .i64 0) := HK7.out.b1.cell 3
              have bf3 : w7.frozen? ⟨w.heap.size + 1, 3, none⟩ = false := HK7.out.b1.frozen 3
              have b4 : w7.cell? ⟨w.heap.size + 1, 4, none⟩ = some (.bool false) := HK7.out.b1.cell 4
              have bf4 : w7.frozen? ⟨w.heap.size + 1, 4, none⟩ = false := HK7.out.b1.frozen 4
              have b5 : w7.cell? ⟨w.heap.size + 1, 5, none⟩ = some (.int .i64 0) := HK7.out.b1.cell 5
              have bf5 : w7.frozen? ⟨w.heap.size + 1, 5, none⟩ = false := HK7.out.b1.frozen 5
              go_wp2
              clear b0 bf0 b1 bf1 b2 bf2 b3 bf3 b4 bf4 b5 bf5
              have k1 := HK7.out.b1.six (.string xk) (.int .i64 xs) (.int .i64 xg) (.int .i64 xc) (.bool xf) (.int .i64 xgo)
              have ht : Tn [w.heap.size + 1] w7 _ := (Tn.refl _ w7).six (R := w.heap.size + 1) (.inl (by simp)) (.string xk) (.int .i64 xs) (.int .i64 xg) (.int .i64 xc) (.bool xf) (.int .i64 xgo)
              refine bodyPost_ret (results_one (T' := 44) (cs := [.string xk, .int .i64 xs, .int .i64 xg, .int .i64 xc, .bool xf, .int .i64 xgo]) rfl rfl sp_agg sp_size rfl k1) rfl ?_
              skip
              exact ⟨.inl ⟨rfl, rfl⟩, HK7.out.below.trans (ht.below HK7.out.below.size (by simp))⟩
            · refine ⟨rfl, ?_⟩
              exact ⟨.inr ⟨h0, rfl⟩, HK7.out.below⟩
          | true =>
            obtain ⟨fo, HFO⟩ : ∃ fo, Hid (Pg.find true (Dl.among ⟨pf, plo, phi, pr, pl⟩ key (L.map (·.d)) EL) key = fo) := ⟨_, rfl⟩
            have HS2 : Hid (Dl.hitL fo = out) := by rw [Hid, ← HS.out, ← HFO.out]; unfold Dl.says; simp only [hin]; rfl
            go_wp2_with fail
            refine (inLeaf_any pf plo phi pr pp pn pc pl key p len cap L EL _ HN.out (HX.out.below HK4.out.below (Nat.le_refl _)) hl HL.out hll (HD.out.below HK4.out.below (Nat.le_refl _)) (fun hm W hW => HE1.out (by simp) (by simp [hm]) W (HK4.out.below.trans (hW.mono HK4.out.below.size)))).mono ?_
            rw [HFO.out]
            rintro e w5 ⟨rfl, hb5⟩
            have HK5 : Hid (Lk w w5 pf plo phi pr pp pn pc) := HK4.out.on hb5
            clear hb5
            clear q0 qf0 q1 qf1 q2 qf2 q3 qf3 q4 qf4
            clear a0 a1 a2 a3 a4
            cases fo with
            | none =>
              have HF : Hid (out = (Sp.zero, 0)) := HS2.out.symm
              unfold fv
              simp only
              have HK6 : Hid (Lk w (w5.alloc (.cells #[.string ⟨#[]⟩, .int .i64 0, .int .i64 0, .int .i64 0] 30)) pf plo phi pr pp pn pc) := HK5.out.on ((Below.refl _ _).alloc (Nat.le_refl _) _)
              have b0 : (w5.alloc (.cells #[.string ⟨#[]⟩, .int .i64 0, .int .i64 0, .int .i64 0] 30)).cell? ⟨w.heap.size + 1, 0, none⟩ = some (.string ⟨#[]⟩) := HK6.out.b1.cell 0
              have bf0 : (w5.alloc (.cells #[.string ⟨#[]⟩, .int .i64 0, .int .i64 0, .int .i64 0] 30)).frozen? ⟨w.heap.size + 1, 0, none⟩ = false := HK6.out.b1.frozen 0
              have b1 : (w5.alloc (.cells #[.string ⟨#[]⟩, .int .i64 0, .int .i64 0, .int .i64 0] 30)).cell? ⟨w.heap.size + 1, 1, none⟩ = some (.int .i64 0) := HK6.out.b1.cell 1
              have bf1 : (w5.alloc (.cells #[.string ⟨#[]⟩, .int .i64 0, .int .i64 0, .int .i64 0] 30)).frozen? ⟨w.heap.size + 1, 1, none⟩ = false := HK6.out.b1.frozen 1
              have b2 : (w5.alloc (.cells #[.string ⟨#[]⟩, .int .i64 0, .int .i64 0, .int .i64 0] 30)).cell? ⟨w.heap.size + 1, 2, none⟩ = some (.int .i64 0) := HK6.out.b1.cell 2
              have bf2 : (w5.alloc (.cells #[.string ⟨#[]⟩, .int .i64 0, .int .i64 0, .int .i64 0] 30)).frozen? ⟨w.heap.size + 1, 2, none⟩ = false := HK6.out.b1.frozen 2
              have b3 : (w5.alloc (.cells #[.string ⟨#[]⟩, .int .i64 0, .int .i64 0, .int .i64 0] 30)).cell? ⟨w.heap.size + 1, 3, none⟩ = some (.int .i64 0) := HK6.out.b1.cell 3
              have bf3 : (w5.alloc (.cells #[.string ⟨#[]⟩, .int .i64 0, .int .i64 0, .int .i64 0] 30)).frozen? ⟨w.heap.size + 1, 3, none⟩ = false := HK6.out.b1.frozen 3
              have b4 : (w5.alloc (.cells #[.string ⟨#[]⟩, .int .i64 0, .int .i64 0, .int .i64 0] 30)).cell? ⟨w.heap.size + 1, 4, none⟩ = some (.bool false) := HK6.out.b1.cell 4
              have bf4 : (w5.alloc (.cells #[.string ⟨#[]⟩, .int .i64 0, .int .i64 0, .int .i64 0] 30)).frozen? ⟨w.heap.size + 1, 4, none⟩ = false := HK6.out.b1.frozen 4
              have b5 : (w5.alloc (.cells #[.string ⟨#[]⟩, .int .i64 0, .int .i64 0, .int .i64 0] 30)).cell? ⟨w.heap.size + 1, 5, none⟩ = some (.int .i64 0) := HK6.out.b1.cell 5
              have bf5 : (w5.alloc (.cells #[.string ⟨#[]⟩, .int .i64 0, .int .i64 0, .int .i64 0] 30)).frozen? ⟨w.heap.size + 1, 5, none⟩ = false := HK6.out.b1.frozen 5
              go_wp2
              clear b0 bf0 b1 bf1 b2 bf2 b3 bf3 b4 bf4 b5 bf5
              have k1 := HK6.out.b1.six (.string ⟨#[]⟩) (.int .i64 0) (.int .i64 0) (.int .i64 0) (.bool false) (.int .i64 0)
              have ht : Tn [w.heap.size + 1] (w5.alloc (.cells #[.string ⟨#[]⟩, .int .i64 0, .int .i64 0, .int .i64 0] 30)) _ := (Tn.refl _ (w5.alloc (.cells #[.string ⟨#[]⟩, .int .i64 0, .int .i64 0, .int .i64 0] 30))).six (R := w.heap.size + 1) (.inl (by simp)) (.string ⟨#[]⟩) (.int .i64 0) (.int .i64 0) (.int .i64 0) (.bool false) (.int .i64 0)
              refine bodyPost_ret (results_one (T' := 44) (cs := [.string ⟨#[]⟩, .int .i64 0, .int .i64 0, .int .i64 0, .bool false, .int .i64 0]) rfl rfl sp_agg sp_size rfl k1) rfl ?_
              rw [HF.out]
              exact ⟨.inl ⟨rfl, rfl⟩, HK6.out.below.trans (ht.below HK6.out.below.size (by simp))⟩
            | some x =>
              obtain ⟨xk, xs, xg, xc⟩ := x
              have HF : Hid (out = (⟨⟨xk, xs, xg, xc⟩, true, 0⟩, 0)) := HS2.out.symm
              unfold fv
              simp only
              have HK6 : Hid (Lk w (w5.alloc (.cells #[.string xk, .int .i64 xs, .int .i64 xg, .int .i64 xc] 30)) pf plo phi pr pp pn pc) := HK5.out.on ((Below.refl _ _).alloc (Nat.le_refl _) _)
              have b0 : (w5.alloc (.cells #[.string xk, .int .i64 xs, .int .i64 xg, .int .i64 xc] 30)).cell? ⟨w.heap.size + 1, 0, none⟩ = some (.string ⟨#[]⟩) := HK6.out.b1.cell 0
              have bf0 : (w5.alloc (.cells #[.string xk, .int .i64 xs, .int .i64 xg, .int .i64 xc] 30)).frozen? ⟨w.heap.size + 1, 0, none⟩ = false := HK6.out.b1.frozen 0
              have b1 : (w5.alloc (.cells #[.string xk, .int .i64 xs, .int .i64 xg, .int .i64 xc] 30)).cell? ⟨w.heap.size + 1, 1, none⟩ = some (.int .i64 0) := HK6.out.b1.cell 1
              have bf1 : (w5.alloc (.cells #[.string xk, .int .i64 xs, .int .i64 xg, .int .i64 xc] 30)).frozen? ⟨w.heap.size + 1, 1, none⟩ = false := HK6.out.b1.frozen 1
              have b2 : (w5.alloc (.cells #[.string xk, .int .i64 xs, .int .i64 xg, .int .i64 xc] 30)).cell? ⟨w.heap.size + 1, 2, none⟩ = some (.int .i64 0) := HK6.out.b1.cell 2
              have bf2 : (w5.alloc (.cells #[.string xk, .int .i64 xs, .int .i64 xg, .int .i64 xc] 30)).frozen? ⟨w.heap.size + 1, 2, none⟩ = false := HK6.out.b1.frozen 2
              have b3 : (w5.alloc (.cells #[.string xk, .int .i64 xs, .int .i64 xg, .int .i64 xc] 30)).cell? ⟨w.heap.size + 1, 3, none⟩ = some (.int .i64 0) := HK6.out.b1.cell 3
              have bf3 : (w5.alloc (.cells #[.string xk, .int .i64 xs, .int .i64 xg, .int .i64 xc] 30)).frozen? ⟨w.heap.size + 1, 3, none⟩ = false := HK6.out.b1.frozen 3
              have b4 : (w5.alloc (.cells #[.string xk, .int .i64 xs, .int .i64 xg, .int .i64 xc] 30)).cell? ⟨w.heap.size + 1, 4, none⟩ = some (.bool false) := HK6.out.b1.cell 4
              have bf4 : (w5.alloc (.cells #[.string xk, .int .i64 xs, .int .i64 xg, .int .i64 xc] 30)).frozen? ⟨w.heap.size + 1, 4, none⟩ = false := HK6.out.b1.frozen 4
              have b5 : (w5.alloc (.cells #[.string xk, .int .i64 xs, .int .i64 xg, .int .i64 xc] 30)).cell? ⟨w.heap.size + 1, 5, none⟩ = some (.int .i64 0) := HK6.out.b1.cell 5
              have bf5 : (w5.alloc (.cells #[.string xk, .int .i64 xs, .int .i64 xg, .int .i64 xc] 30)).frozen? ⟨w.heap.size + 1, 5, none⟩ = false := HK6.out.b1.frozen 5
              go_wp2
              clear b0 bf0 b1 bf1 b2 bf2 b3 bf3 b4 bf4 b5 bf5
              have k1 := HK6.out.b1.six (.string xk) (.int .i64 xs) (.int .i64 xg) (.int .i64 xc) (.bool true) (.int .i64 0)
              have ht : Tn [w.heap.size + 1] (w5.alloc (.cells #[.string xk, .int .i64 xs, .int .i64 xg, .int .i64 xc] 30)) _ := (Tn.refl _ (w5.alloc (.cells #[.string xk, .int .i64 xs, .int .i64 xg, .int .i64 xc] 30))).six (R := w.heap.size + 1) (.inl (by simp)) (.string xk) (.int .i64 xs) (.int .i64 xg) (.int .i64 xc) (.bool true) (.int .i64 0)
              refine bodyPost_ret (results_one (T' := 44) (cs := [.string xk, .int .i64 xs, .int .i64 xg, .int .i64 xc, .bool true, .int .i64 0]) rfl rfl sp_agg sp_size rfl k1) rfl ?_
              rw [HF.out]
              exact ⟨.inl ⟨rfl, rfl⟩, HK6.out.below.trans (ht.below HK6.out.below.size (by simp))⟩
      · have HF : Hid (out = (Sp.zero, kk)) := by rw [Hid, ← HS.out]; unfold Dl.says; rw [if_pos h0]
        refine ⟨rfl, ?_⟩
        rw [HF.out]
        exact ⟨.inr ⟨h0, rfl⟩, HK2.out.below⟩
    · obtain ⟨m, hm⟩ : ∃ m, L[0]? = some m := ⟨_, List.getElem?_eq_getElem (by have := HL.out; omega)⟩
      obtain ⟨b, o, rfl, hc⟩ := HD.out.below HK0.out.below (Nat.le_refl _) (by have := HL.out; omega)
      obtain ⟨hcx, hOk⟩ := hc 0 m hm
      have hgm : ((m.d.k == 5) && Dl.may m.d) = false := by
        cases L with
        | nil => simp at hm
        | cons x r =>
          simp only [List.getElem?_cons_zero, Option.some.injEq] at hm
          subst hm
          simp only [List.map_cons, Dl.gone] at hg
          cases h5 : ((x.d.k == 5) && Dl.may x.d) with
          | false => rfl
          | true => rw [h5] at hg; simp at hg
      obtain ⟨⟨dk, ⟨dek, des, deg, dec⟩, dkey, dpg, ⟨dleaf, dlo, dhi, dr, dl⟩⟩, dp, dn, dc⟩ := m
      simp only at hgm
      have hlen1 : (0 : Int) < (len : Int) := by omega
      have hlen2 : decide ((len : Int) > 0) = true := decide_eq_true hlen1
      have hlen3 : 0 < len := by omega
      have z0 := hcx 0 _ rfl
      have z1 := hcx 1 _ rfl
      have z2 := hcx 2 _ rfl
      have z3 := hcx 3 _ rfl
      have z4 := hcx 4 _ rfl
      have z5 := hcx 5 _ rfl
      have z6 := hcx 6 _ rfl
      have z7 := hcx 7 _ rfl
      have z8 := hcx 8 _ rfl
      have z9 := hcx 9 _ rfl
      have z10 := hcx 10 _ rfl
      have z11 := hcx 11 _ rfl
      simp only [Nat.zero_mul, Nat.add_zero] at z0 z1 z2 z3 z4 z5 z6 z7 z8 z9 z10 z11
      have HOK : Hid (Dm.Ok w0 ⟨⟨dk, ⟨dek, des, deg, dec⟩, dkey, dpg, ⟨dleaf, dlo, dhi, dr, dl⟩⟩, dp, dn, dc⟩) := hOk
      clear hcx hc hOk hm hg
      obtain ⟨p, hp⟩ : ∃ p, p = some (⟨b, o, none⟩ : Addr) := ⟨_, rfl⟩
      by_cases h5 : dk = 5
      · subst h5
        have HM : Hid (Dl.may ⟨5, ⟨dek, des, deg, dec⟩, dkey, dpg, ⟨dleaf, dlo, dhi, dr, dl⟩⟩ = false) := by unfold Hid; simpa using hgm
        go_wp2_with fail
        refine (dcheck_any ⟨5, ⟨dek, des, deg, dec⟩, dkey, dpg, ⟨dleaf, dlo, dhi, dr, dl⟩⟩ dp dn dc _ HOK.out.len HOK.out.ens (by have := HOK.out.room; simp only at this; omega)).mono ?_
        rw [HM.out]
        rintro e w1 ⟨rfl, hb1⟩
        have HK1 : Hid (Lk w w1 pf plo phi pr pp pn pc) := HK0.out.on hb1
        clear a0 a1 a2 a3 a4
        clear b0 bf0 b1 bf1 b2 bf2 b3 bf3 b4 bf4 b5 bf5
        clear hb1 z0 z1 z2 z3 z4 z5 z6 z7 z8 z9 z10 z11 hw0 hgm
        simp only [Bool.false_eq_true, if_false]
        have a0 : w1.cell? ⟨w.heap.size, 0, none⟩ = some (.bool pf) := HK1.out.b0.cell 0
        have a1 : w1.cell? ⟨w.heap.size, 1, none⟩ = some (.string plo) := HK1.out.b0.cell 1
        have a2 : w1.cell? ⟨w.heap.size, 2, none⟩ = some (.string phi) := HK1.out.b0.cell 2
        have a3 : w1.cell? ⟨w.heap.size, 3, none⟩ = some (.int .i64 pr) := HK1.out.b0.cell 3
        have a4 : w1.cell? ⟨w.heap.size, 4, none⟩ = some (.slice pp pn pc) := HK1.out.b0.cell 4
        go_wp2_with fail
        clear a0 a1 a2 a3 a4
        rw [← hp] at HD HE ⊢
        clear hp
        refine (outline_any ⟨pf, plo, phi, pr, pl⟩ pp pn pc p len cap L _ HL.out hll (HD.out.below HK1.out.below (Nat.le_refl _))).mono ?_
        have HS : Hid (Dl.says ⟨pf, plo, phi, pr, pl⟩ key (L.map (·.d)) EL (Dl.outl ⟨pf, plo, phi, pr, pl⟩ (L.map (·.d)).reverse) = out) := HSAY.out
        have HE1 : Hid _ := HE.out
        obtain ⟨⟨⟨qf, qlo, qhi, qr, ql⟩, kk⟩, hO⟩ : ∃ o, Dl.outl ⟨pf, plo, phi, pr, pl⟩ (L.map (·.d)).reverse = o := ⟨_, rfl⟩
        rw [hO] at HS HE1
        rw [hO]
        rintro e w2 ⟨hd, hb2⟩
        have HK2 : Hid (Lk w w2 pf plo phi pr pp pn pc) := HK1.out.on hb2
        clear hb2 hO
        simp only at hd
        rcases hd with ⟨h0, rfl⟩ | ⟨h0, rfl⟩
        · subst h0
          obtain ⟨w3, hw3⟩ : ∃ w3, w3 = w2.alloc (.cells #[.bool qf, .string qlo, .string qhi, .int .i64 qr, .slice none 0 0] 24) := ⟨_, rfl⟩
          have HK3 : Hid (Lk w w3 pf plo phi pr pp pn pc) := by rw [hw3]; exact HK2.out.on ((Below.refl _ _).alloc (Nat.le_refl _) _)
          have HP3 : Hid (Bk w3 w2.heap.size 24 #[.bool qf, .string qlo, .string qhi, .int .i64 qr, .slice none 0 0]) := by rw [hw3]; exact Bk.new _ _ _
          have HPW : Hid (w.heap.size + 1 < w2.heap.size) := HK2.out.b1.lt
          go_wp2_with fail
          rw [← hw3]
          clear hw3
          refine (has_any qf qlo qhi qr none 0 0 _ key).mono ?_
          cases hin : Ky.inn ⟨qlo, qhi⟩ key with
          | false =>
            have HS2 : Hid ((if (Ky.lt key qlo || qr == 0) = true then (Sp.zero, 73) else (⟨En.zero, false, qr⟩, 0)) = out) := by rw [Hid, ← HS.out]; unfold Dl.says; simp only [hin]; rfl
            rintro e w4 ⟨rfl, hb4⟩
            have HK4 : Hid (Lk w w4 pf plo phi pr pp pn pc) := HK3.out.on hb4
            have HP4 : Hid (Bk w4 w2.heap.size 24 #[.bool qf, .string qlo, .string qhi, .int .i64 qr, .slice none 0 0]) := HP3.out.below hb4 HP3.out.lt
            clear hb4 hin
            have q0 : w4.cell? ⟨w2.heap.size, 0, none⟩ = some (.bool qf) := HP4.out.cell 0
            have q1 : w4.cell? ⟨w2.heap.size, 1, none⟩ = some (.string qlo) := HP4.out.cell 1
            have q2 : w4.cell? ⟨w2.heap.size, 2, none⟩ = some (.string qhi) := HP4.out.cell 2
            have q3 : w4.cell? ⟨w2.heap.size, 3, none⟩ = some (.int .i64 qr) := HP4.out.cell 3
            have q4 : w4.cell? ⟨w2.heap.size, 4, none⟩ = some (.slice none 0 0) := HP4.out.cell 4
            go_wp2_with fail
            clear q0 q1 q2 q3 q4
            refine (beside_any qf qlo qhi qr none 0 0 key _).mono ?_
            rintro e w5 ⟨hbs, hb5⟩
            have HK5 : Hid (Lk w w5 pf plo phi pr pp pn pc) := HK4.out.on hb5
            clear hb5
            rcases hbs with ⟨hc, rfl⟩ | ⟨hc, rfl⟩
            · have HF : Hid (out = (⟨En.zero, false, qr⟩, 0)) := by rw [Hid, ← HS2.out, hc]; rfl
              clear hc
              have b0 : w5.cell? ⟨w.heap.size + 1, 0, none⟩ = some (.string ⟨#[]⟩) := HK5.out.b1.cell 0
              have bf0 : w5.frozen? ⟨w.heap.size + 1, 0, none⟩ = false := HK5.out.b1.frozen 0
              have b1 : w5.cell? ⟨w.heap.size + 1, 1, none⟩ = some (.int .i64 0) := HK5.out.b1.cell 1
              have bf1 : w5.frozen? ⟨w.heap.size + 1, 1, none⟩ = false := HK5.out.b1.frozen 1
              have b2 : w5.cell? ⟨w.heap.size + 1, 2, none⟩ = some (.int .i64 0) := HK5.out.b1.cell 2
              have bf2 : w5.frozen? ⟨w.heap.size + 1, 2, none⟩ = false := HK5.out.b1.frozen 2
              have b3 : w5.cell? ⟨w.heap.size + 1, 3, none⟩ = some (.int .i64 0) := HK5.out.b1.cell 3
              have bf3 : w5.frozen? ⟨w.heap.size + 1, 3, none⟩ = false := HK5.out.b1.frozen 3
              have b4 : w5.cell? ⟨w.heap.size + 1, 4, none⟩ = some (.bool false) := HK5.out.b1.cell 4
              have bf4 : w5.frozen? ⟨w.heap.size + 1, 4, none⟩ = false := HK5.out.b1.frozen 4
              have b5 : w5.cell? ⟨w.heap.size + 1, 5, none⟩ = some (.int .i64 0) := HK5.out.b1.cell 5
              have bf5 : w5.frozen? ⟨w.heap.size + 1, 5, none⟩ = false := HK5.out.b1.frozen 5
              go_wp2
              clear b0 bf0 b1 bf1 b2 bf2 b3 bf3 b4 bf4 b5 bf5
              have k1 := HK5.out.b1.six (.string ⟨#[]⟩) (.int .i64 0) (.int .i64 0) (.int .i64 0) (.bool false) (.int .i64 qr)
              have ht : Tn [w.heap.size + 1] w5 _ := (Tn.refl _ w5).six (R := w.heap.size + 1) (.inl (by simp)) (.string ⟨#[]⟩) (.int .i64 0) (.int .i64 0) (.int .i64 0) (.bool false) (.int .i64 qr)
              refine bodyPost_ret (results_one (T' := 44) (cs := [.string ⟨#[]⟩, .int .i64 0, .int .i64 0, .int .i64 0, .bool false, .int .i64 qr]) rfl rfl sp_agg sp_size rfl k1) rfl ?_
              rw [HF.out]
              exact ⟨.inl ⟨rfl, rfl⟩, HK5.out.below.trans (ht.below HK5.out.below.size (by simp))⟩
            · have HF : Hid (out = (Sp.zero, 73)) := by rw [Hid, ← HS2.out, hc]; rfl
              refine ⟨rfl, ?_⟩
              rw [HF.out]
              exact ⟨.inr ⟨by decide, rfl⟩, HK5.out.below⟩
          | true =>
            rintro e w4 ⟨rfl, hb4⟩
            have HK4 : Hid (Lk w w4 pf plo phi pr pp pn pc) := HK3.out.on hb4
            have HP4 : Hid (Bk w4 w2.heap.size 24 #[.bool qf, .string qlo, .string qhi, .int .i64 qr, .slice none 0 0]) := HP3.out.below hb4 HP3.out.lt
            clear hb4
            have q0 : w4.cell? ⟨w2.heap.size, 0, none⟩ = some (.bool qf) := HP4.out.cell 0
            have qf0 : w4.frozen? ⟨w2.heap.size, 0, none⟩ = false := HP4.out.frozen 0
            have q1 : w4.cell? ⟨w2.heap.size, 1, none⟩ = some (.string qlo) := HP4.out.cell 1
            have qf1 : w4.frozen? ⟨w2.heap.size, 1, none⟩ = false := HP4.out.frozen 1
            have q2 : w4.cell? ⟨w2.heap.size, 2, none⟩ = some (.string qhi) := HP4.out.cell 2
            have qf2 : w4.frozen? ⟨w2.heap.size, 2, none⟩ = false := HP4.out.frozen 2
            have q3 : w4.cell? ⟨w2.heap.size, 3, none⟩ = some (.int .i64 qr) := HP4.out.cell 3
            have qf3 : w4.frozen? ⟨w2.heap.size, 3, none⟩ = false := HP4.out.frozen 3
            have q4 : w4.cell? ⟨w2.heap.size, 4, none⟩ = some (.slice none 0 0) := HP4.out.cell 4
            have qf4 : w4.frozen? ⟨w2.heap.size, 4, none⟩ = false := HP4.out.frozen 4
            have a0 : w4.cell? ⟨w.heap.size, 0, none⟩ = some (.bool pf) := HK4.out.b0.cell 0
            have a1 : w4.cell? ⟨w.heap.size, 1, none⟩ = some (.string plo) := HK4.out.b0.cell 1
            have a2 : w4.cell? ⟨w.heap.size, 2, none⟩ = some (.string phi) := HK4.out.b0.cell 2
            have a3 : w4.cell? ⟨w.heap.size, 3, none⟩ = some (.int .i64 pr) := HK4.out.b0.cell 3
            have a4 : w4.cell? ⟨w.heap.size, 4, none⟩ = some (.slice pp pn pc) := HK4.out.b0.cell 4
            cases qf with
            | false =>
              have HS2 : Hid (Dl.hitI (Pg.fnd false EL key) = out) := by rw [Hid, ← HS.out]; unfold Dl.says; simp only [hin]; rfl
              have HE2 : Hid _ := HE1.out (by simp) (by simp)
              go_wp2_with fail
              refine Calls.mono (HE2.out _ HK4.out.below) ?_
              rintro e w5 ⟨⟨q, m, c, rfl, hlm, hle, hmr⟩, hb5⟩
              have HK5 : Hid (Lk w w5 pf plo phi pr pp pn pc) := HK4.out.on hb5
              have HP5 : Hid (Bk w5 w2.heap.size 24 #[.bool false, .string qlo, .string qhi, .int .i64 qr, .slice none 0 0]) := HP4.out.below hb5 HP4.out.lt
              have HLM : Hid (EL.length = m) := hlm
              have HLE : Hid (Ens w5 q EL) := hle
              clear hb5 hlm hle
              clear q0 qf0 q1 qf1 q2 qf2 q3 qf3 q4 qf4
              clear a0 a1 a2 a3 a4
              have q0 : w5.cell? ⟨w2.heap.size, 0, none⟩ = some (.bool false) := HP5.out.cell 0
              have qf0 : w5.frozen? ⟨w2.heap.size, 0, none⟩ = false := HP5.out.frozen 0
              have q1 : w5.cell? ⟨w2.heap.size, 1, none⟩ = some (.string qlo) := HP5.out.cell 1
              have qf1 : w5.frozen? ⟨w2.heap.size, 1, none⟩ = false := HP5.out.frozen 1
              have q2 : w5.cell? ⟨w2.heap.size, 2, none⟩ = some (.string qhi) := HP5.out.cell 2
              have qf2 : w5.frozen? ⟨w2.heap.size, 2, none⟩ = false := HP5.out.frozen 2
              have q3 : w5.cell? ⟨w2.heap.size, 3, none⟩ = some (.int .i64 qr) := HP5.out.cell 3
              have qf3 : w5.frozen? ⟨w2.heap.size, 3, none⟩ = false := HP5.out.frozen 3
              have q4 : w5.cell? ⟨w2.heap.size, 4, none⟩ = some (.slice none 0 0) := HP5.out.cell 4
              have qf4 : w5.frozen? ⟨w2.heap.size, 4, none⟩ = false := HP5.out.frozen 4
              obtain ⟨w6, hw6⟩ : ∃ w6, w5.setCell ⟨w2.heap.size, 4, none⟩ (.slice q m c) = w6 := ⟨_, rfl⟩
              have ht6 : Tn [w2.heap.size] w5 w6 := by rw [← hw6]; exact (Tn.refl _ w5).setCell (.inl (by simp)) _
              have HP6 : Hid (Bk w6 w2.heap.size 24 #[.bool false, .string qlo, .string qhi, .int .i64 qr, .slice q m c]) := by rw [← hw6]; exact HP5.out.set 4 _
              have HK6 : Hid (Lk w w6 pf plo phi pr pp pn pc) := ⟨HK5.out.below.trans (ht6.below HK5.out.below.size (by have := HPW.out; simp; omega)), HK5.out.b0.tn ht6 (by have := HPW.out; simp; omega), HK5.out.b1.tn ht6 (by have := HPW.out; simp; omega)⟩
              have HL6 : Hid (Ens w6 q EL) := by rw [← hw6]; exact HLE.out.putSlice q4 _
              have y0 : w6.cell? ⟨w2.heap.size, 0, none⟩ = some (.bool false) := HP6.out.cell 0
              have y1 : w6.cell? ⟨w2.heap.size, 1, none⟩ = some (.string qlo) := HP6.out.cell 1
              have y2 : w6.cell? ⟨w2.heap.size, 2, none⟩ = some (.string qhi) := HP6.out.cell 2
              have y3 : w6.cell? ⟨w2.heap.size, 3, none⟩ = some (.int .i64 qr) := HP6.out.cell 3
              have y4 : w6.cell? ⟨w2.heap.size, 4, none⟩ = some (.slice q m c) := HP6.out.cell 4
              go_wp2_with fail
              clear hw6 ht6
              clear q0 qf0 q1 qf1 q2 qf2 q3 qf3 q4 qf4
              clear y0 y1 y2 y3 y4
              refine (below_any false qlo qhi qr q m c EL key _ HLM.out HL6.out hmr).mono ?_
              rw [HS2.out]
              rintro e w7 ⟨hd7, hb7⟩
              have HK7 : Hid (Lk w w7 pf plo phi pr pp pn pc) := HK6.out.on hb7
              clear hb7
              rcases hd7 with ⟨h0, rfl⟩ | ⟨h0, rfl⟩
              · obtain ⟨⟨⟨xk, xs, xg, xc⟩, xf, xgo⟩, kk⟩ := out
                simp only at h0
                subst h0
                have b0 : w7.cell? ⟨w.heap.size + 1, 0, none⟩ = some (.string ⟨#[]⟩) := HK7.out.b1.cell 0
                have bf0 : w7.frozen? ⟨w.heap.size + 1, 0, none⟩ = false := HK7.out.b1.frozen 0
                have b1 : w7.cell? ⟨w.heap.size + 1, 1, none⟩ = some (.int .i64 0) := HK7.out.b1.cell 1
                have bf1 : w7.frozen? ⟨w.heap.size + 1, 1, none⟩ = false := HK7.out.b1.frozen 1
                have b2 : w7.cell? ⟨w.heap.size + 1, 2, none⟩ = some (.int .i64 0) := HK7.out.b1.cell 2
                have bf2 : w7.frozen? ⟨w.heap.size + 1, 2, none⟩ = false := HK7.out.b1.frozen 2
                have b3 : w7.cell? ⟨w.heap.size + 1, 3, none⟩ = some (.int .i64 0) := HK7.out.b1.cell 3
                have bf3 : w7.frozen? ⟨w.heap.size + 1, 3, none⟩ = false := HK7.out.b1.frozen 3
                have b4 : w7.cell? ⟨w.heap.size + 1, 4, none⟩ = some (.bool false) := HK7.out.b1.cell 4
                have bf4 : w7.frozen? ⟨w.heap.size + 1, 4, none⟩ = false := HK7.out.b1.frozen 4
                have b5 : w7.cell? ⟨w.heap.size + 1, 5, none⟩ = some (.int .i64 0) := HK7.out.b1.cell 5
                have bf5 : w7.frozen? ⟨w.heap.size + 1, 5, none⟩ = false := HK7.out.b1.frozen 5
                go_wp2
                clear b0 bf0 b1 bf1 b2 bf2 b3 bf3 b4 bf4 b5 bf5
                have k1 := HK7.out.b1.six (.string xk) (.int .i64 xs) (.int .i64 xg) (.int .i64 xc) (.bool xf) (.int .i64 xgo)
                have ht : Tn [w.heap.size + 1] w7 _ := (Tn.refl _ w7).six (R := w.heap.size + 1) (.inl (by simp)) (.string xk) (.int .i64 xs) (.int .i64 xg) (.int .i64 xc) (.bool xf) (.int .i64 xgo)
                refine bodyPost_ret (results_one (T' := 44) (cs := [.string xk, .int .i64 xs, .int .i64 xg, .int .i64 xc, .bool xf, .int .i64 xgo]) rfl rfl sp_agg sp_size rfl k1) rfl ?_
                skip
                exact ⟨.inl ⟨rfl, rfl⟩, HK7.out.below.trans (ht.below HK7.out.below.size (by simp))⟩
              · refine ⟨rfl, ?_⟩
                exact ⟨.inr ⟨h0, rfl⟩, HK7.out.below⟩
            | true =>
              obtain ⟨fo, HFO⟩ : ∃ fo, Hid (Pg.find true (Dl.among ⟨pf, plo, phi, pr, pl⟩ key (L.map (·.d)) EL) key = fo) := ⟨_, rfl⟩
              have HS2 : Hid (Dl.hitL fo = out) := by rw [Hid, ← HS.out, ← HFO.out]; unfold Dl.says; simp only [hin]; rfl
              go_wp2_with fail
              refine (inLeaf_any pf plo phi pr pp pn pc pl key p len cap L EL _ HN.out (HX.out.below HK4.out.below (Nat.le_refl _)) hl HL.out hll (HD.out.below HK4.out.below (Nat.le_refl _)) (fun hm W hW => HE1.out (by simp) (by simp [hm]) W (HK4.out.below.trans (hW.mono HK4.out.below.size)))).mono ?_
              rw [HFO.out]
              rintro e w5 ⟨rfl, hb5⟩
              have HK5 : Hid (Lk w w5 pf plo phi pr pp pn pc) := HK4.out.on hb5
              clear hb5
              clear q0 qf0 q1 qf1 q2 qf2 q3 qf3 q4 qf4
              clear a0 a1 a2 a3 a4
              cases fo with
              | none =>
                have HF : Hid (out = (Sp.zero, 0)) := HS2.out.symm
                unfold fv
                simp only
                have HK6 : Hid (Lk w (w5.alloc (.cells #[.string ⟨#[]⟩, .int .i64 0, .int .i64 0, .int .i64 0] 30)) pf plo phi pr pp pn pc) := HK5.out.on ((Below.refl _ _).alloc (Nat.le_refl _) _)
                have b0 : (w5.alloc (.cells #[.string ⟨#[]⟩, .int .i64 0, .int .i64 0, .int .i64 0] 30)).cell? ⟨w.heap.size + 1, 0, none⟩ = some (.string ⟨#[]⟩) := HK6.out.b1.cell 0
                have bf0 : (w5.alloc (.cells #[.string ⟨#[]⟩, .int .i64 0, .int .i64 0, .int .i64 0] 30)).frozen? ⟨w.heap.size + 1, 0, none⟩ = false := HK6.out.b1.frozen 0
                have b1 : (w5.alloc (.cells #[.string ⟨#[]⟩, .int .i64 0, .int .i64 0, .int .i64 0] 30)).cell? ⟨w.heap.size + 1, 1, none⟩ = some (.int .i64 0) := HK6.out.b1.cell 1
                have bf1 : (w5.alloc (.cells #[.string ⟨#[]⟩, .int .i64 0, .int .i64 0, .int .i64 0] 30)).frozen? ⟨w.heap.size + 1, 1, none⟩ = false := HK6.out.b1.frozen 1
                have b2 : (w5.alloc (.cells #[.string ⟨#[]⟩, .int .i64 0, .int .i64 0, .int .i64 0] 30)).cell? ⟨w.heap.size + 1, 2, none⟩ = some (.int .i64 0) := HK6.out.b1.cell 2
                have bf2 : (w5.alloc (.cells #[.string ⟨#[]⟩, .int .i64 0, .int .i64 0, .int .i64 0] 30)).frozen? ⟨w.heap.size + 1, 2, none⟩ = false := HK6.out.b1.frozen 2
                have b3 : (w5.alloc (.cells #[.string ⟨#[]⟩, .int .i64 0, .int .i64 0, .int .i64 0] 30)).cell? ⟨w.heap.size + 1, 3, none⟩ = some (.int .i64 0) := HK6.out.b1.cell 3
                have bf3 : (w5.alloc (.cells #[.string ⟨#[]⟩, .int .i64 0, .int .i64 0, .int .i64 0] 30)).frozen? ⟨w.heap.size + 1, 3, none⟩ = false := HK6.out.b1.frozen 3
                have b4 : (w5.alloc (.cells #[.string ⟨#[]⟩, .int .i64 0, .int .i64 0, .int .i64 0] 30)).cell? ⟨w.heap.size + 1, 4, none⟩ = some (.bool false) := HK6.out.b1.cell 4
                have bf4 : (w5.alloc (.cells #[.string ⟨#[]⟩, .int .i64 0, .int .i64 0, .int .i64 0] 30)).frozen? ⟨w.heap.size + 1, 4, none⟩ = false := HK6.out.b1.frozen 4
                have b5 : (w5.alloc (.cells #[.string ⟨#[]⟩, .int .i64 0, .int .i64 0, .int .i64 0] 30)).cell? ⟨w.heap.size + 1, 5, none⟩ = some (.int .i64 0) := HK6.out.b1.cell 5
                have bf5 : (w5.alloc (.cells #[.string ⟨#[]⟩, .int .i64 0, .int .i64 0, .int .i64 0] 30)).frozen? ⟨w.heap.size + 1, 5, none⟩ = false := HK6.out.b1.frozen 5
                go_wp2
                clear b0 bf0 b1 bf1 b2 bf2 b3 bf3 b4 bf4 b5 bf5
                have k1 := HK6.out.b1.six (.string ⟨#[]⟩) (.int .i64 0) (.int .i64 0) (.int .i64 0) (.bool false) (.int .i64 0)
                have ht : Tn [w.heap.size + 1] (w5.alloc (.cells #[.string ⟨#[]⟩, .int .i64 0, .int .i64 0, .int .i64 0] 30)) _ := (Tn.refl _ (w5.alloc (.cells #[.string ⟨#[]⟩, .int .i64 0, .int .i64 0, .int .i64 0] 30))).six (R := w.heap.size + 1) (.inl (by simp)) (.string ⟨#[]⟩) (.int .i64 0) (.int .i64 0) (.int .i64 0) (.bool false) (.int .i64 0)
                refine bodyPost_ret (results_one (T' := 44) (cs := [.string ⟨#[]⟩, .int .i64 0, .int .i64 0, .int .i64 0, .bool false, .int .i64 0]) rfl rfl sp_agg sp_size rfl k1) rfl ?_
                rw [HF.out]
                exact ⟨.inl ⟨rfl, rfl⟩, HK6.out.below.trans (ht.below HK6.out.below.size (by simp))⟩
              | some x =>
                obtain ⟨xk, xs, xg, xc⟩ := x
                have HF : Hid (out = (⟨⟨xk, xs, xg, xc⟩, true, 0⟩, 0)) := HS2.out.symm
                unfold fv
                simp only
                have HK6 : Hid (Lk w (w5.alloc (.cells #[.string xk, .int .i64 xs, .int .i64 xg, .int .i64 xc] 30)) pf plo phi pr pp pn pc) := HK5.out.on ((Below.refl _ _).alloc (Nat.le_refl _) _)
                have b0 : (w5.alloc (.cells #[.string xk, .int .i64 xs, .int .i64 xg, .int .i64 xc] 30)).cell? ⟨w.heap.size + 1, 0, none⟩ = some (.string ⟨#[]⟩) := HK6.out.b1.cell 0
                have bf0 : (w5.alloc (.cells #[.string xk, .int .i64 xs, .int .i64 xg, .int .i64 xc] 30)).frozen? ⟨w.heap.size + 1, 0, none⟩ = false := HK6.out.b1.frozen 0
                have b1 : (w5.alloc (.cells #[.string xk, .int .i64 xs, .int .i64 xg, .int .i64 xc] 30)).cell? ⟨w.heap.size + 1, 1, none⟩ = some (.int .i64 0) := HK6.out.b1.cell 1
                have bf1 : (w5.alloc (.cells #[.string xk, .int .i64 xs, .int .i64 xg, .int .i64 xc] 30)).frozen? ⟨w.heap.size + 1, 1, none⟩ = false := HK6.out.b1.frozen 1
                have b2 : (w5.alloc (.cells #[.string xk, .int .i64 xs, .int .i64 xg, .int .i64 xc] 30)).cell? ⟨w.heap.size + 1, 2, none⟩ = some (.int .i64 0) := HK6.out.b1.cell 2
                have bf2 : (w5.alloc (.cells #[.string xk, .int .i64 xs, .int .i64 xg, .int .i64 xc] 30)).frozen? ⟨w.heap.size + 1, 2, none⟩ = false := HK6.out.b1.frozen 2
                have b3 : (w5.alloc (.cells #[.string xk, .int .i64 xs, .int .i64 xg, .int .i64 xc] 30)).cell? ⟨w.heap.size + 1, 3, none⟩ = some (.int .i64 0) := HK6.out.b1.cell 3
                have bf3 : (w5.alloc (.cells #[.string xk, .int .i64 xs, .int .i64 xg, .int .i64 xc] 30)).frozen? ⟨w.heap.size + 1, 3, none⟩ = false := HK6.out.b1.frozen 3
                have b4 : (w5.alloc (.cells #[.string xk, .int .i64 xs, .int .i64 xg, .int .i64 xc] 30)).cell? ⟨w.heap.size + 1, 4, none⟩ = some (.bool false) := HK6.out.b1.cell 4
                have bf4 : (w5.alloc (.cells #[.string xk, .int .i64 xs, .int .i64 xg, .int .i64 xc] 30)).frozen? ⟨w.heap.size + 1, 4, none⟩ = false := HK6.out.b1.frozen 4
                have b5 : (w5.alloc (.cells #[.string xk, .int .i64 xs, .int .i64 xg, .int .i64 xc] 30)).cell? ⟨w.heap.size + 1, 5, none⟩ = some (.int .i64 0) := HK6.out.b1.cell 5
                have bf5 : (w5.alloc (.cells #[.string xk, .int .i64 xs, .int .i64 xg, .int .i64 xc] 30)).frozen? ⟨w.heap.size + 1, 5, none⟩ = false := HK6.out.b1.frozen 5
                go_wp2
                clear b0 bf0 b1 bf1 b2 bf2 b3 bf3 b4 bf4 b5 bf5
                have k1 := HK6.out.b1.six (.string xk) (.int .i64 xs) (.int .i64 xg) (.int .i64 xc) (.bool true) (.int .i64 0)
                have ht : Tn [w.heap.size + 1] (w5.alloc (.cells #[.string xk, .int .i64 xs, .int .i64 xg, .int .i64 xc] 30)) _ := (Tn.refl _ (w5.alloc (.cells #[.string xk, .int .i64 xs, .int .i64 xg, .int .i64 xc] 30))).six (R := w.heap.size + 1) (.inl (by simp)) (.string xk) (.int .i64 xs) (.int .i64 xg) (.int .i64 xc) (.bool true) (.int .i64 0)
                refine bodyPost_ret (results_one (T' := 44) (cs := [.string xk, .int .i64 xs, .int .i64 xg, .int .i64 xc, .bool true, .int .i64 0]) rfl rfl sp_agg sp_size rfl k1) rfl ?_
                rw [HF.out]
                exact ⟨.inl ⟨rfl, rfl⟩, HK6.out.below.trans (ht.below HK6.out.below.size (by simp))⟩
        · have HF : Hid (out = (Sp.zero, kk)) := by rw [Hid, ← HS.out]; unfold Dl.says; rw [if_pos h0]
          refine ⟨rfl, ?_⟩
          rw [HF.out]
          exact ⟨.inr ⟨h0, rfl⟩, HK2.out.below⟩
      · have k5 : (dk == 5) = false := by simp [h5]
        go_wp2_with fail
        clear z0 z1 z2 z3 z4 z5 z6 z7 z8 z9 z10 z11 hw0 hgm
        clear a0 a1 a2 a3 a4
        clear b0 bf0 b1 bf1 b2 bf2 b3 bf3 b4 bf4 b5 bf5
        rw [← hp] at HD HE ⊢
        clear hp
        refine (outline_any ⟨pf, plo, phi, pr, pl⟩ pp pn pc p len cap L _ HL.out hll (HD.out.below HK0.out.below (Nat.le_refl _))).mono ?_
        have HS : Hid (Dl.says ⟨pf, plo, phi, pr, pl⟩ key (L.map (·.d)) EL (Dl.outl ⟨pf, plo, phi, pr, pl⟩ (L.map (·.d)).reverse) = out) := HSAY.out
        have HE1 : Hid _ := HE.out
        obtain ⟨⟨⟨qf, qlo, qhi, qr, ql⟩, kk⟩, hO⟩ : ∃ o, Dl.outl ⟨pf, plo, phi, pr, pl⟩ (L.map (·.d)).reverse = o := ⟨_, rfl⟩
        rw [hO] at HS HE1
        rw [hO]
        rintro e w2 ⟨hd, hb2⟩
        have HK2 : Hid (Lk w w2 pf plo phi pr pp pn pc) := HK0.out.on hb2
        clear hb2 hO
        simp only at hd
        rcases hd with ⟨h0, rfl⟩ | ⟨h0, rfl⟩
        · subst h0
          obtain ⟨w3, hw3⟩ : ∃ w3, w3 = w2.alloc (.cells #[.bool qf, .string qlo, .string qhi, .int .i64 qr, .slice none 0 0] 24) := ⟨_, rfl⟩
          have HK3 : Hid (Lk w w3 pf plo phi pr pp pn pc) := by rw [hw3]; exact HK2.out.on ((Below.refl _ _).alloc (Nat.le_refl _) _)
          have HP3 : Hid (Bk w3 w2.heap.size 24 #[.bool qf, .string qlo, .string qhi, .int .i64 qr, .slice none 0 0]) := by rw [hw3]; exact Bk.new _ _ _
          have HPW : Hid (w.heap.size + 1 < w2.heap.size) := HK2.out.b1.lt
          go_wp2_with fail
          rw [← hw3]
          clear hw3
          refine (has_any qf qlo qhi qr none 0 0 _ key).mono ?_
          cases hin : Ky.inn ⟨qlo, qhi⟩ key with
          | false =>
            have HS2 : Hid ((if (Ky.lt key qlo || qr == 0) = true then (Sp.zero, 73) else (⟨En.zero, false, qr⟩, 0)) = out) := by rw [Hid, ← HS.out]; unfold Dl.says; simp only [hin]; rfl
            rintro e w4 ⟨rfl, hb4⟩
            have HK4 : Hid (Lk w w4 pf plo phi pr pp pn pc) := HK3.out.on hb4
            have HP4 : Hid (Bk w4 w2.heap.size 24 #[.bool qf, .string qlo, .string qhi, .int .i64 qr, .slice none 0 0]) := HP3.out.below hb4 HP3.out.lt
            clear hb4 hin
            have q0 : w4.cell? ⟨w2.heap.size, 0, none⟩ = some (.bool qf) := HP4.out.cell 0
            have q1 : w4.cell? ⟨w2.heap.size, 1, none⟩ = some (.string qlo) := HP4.out.cell 1
            have q2 : w4.cell? ⟨w2.heap.size, 2, none⟩ = some (.string qhi) := HP4.out.cell 2
            have q3 : w4.cell? ⟨w2.heap.size, 3, none⟩ = some (.int .i64 qr) := HP4.out.cell 3
            have q4 : w4.cell? ⟨w2.heap.size, 4, none⟩ = some (.slice none 0 0) := HP4.out.cell 4
            go_wp2_with fail
            clear q0 q1 q2 q3 q4
            refine (beside_any qf qlo qhi qr none 0 0 key _).mono ?_
            rintro e w5 ⟨hbs, hb5⟩
            have HK5 : Hid (Lk w w5 pf plo phi pr pp pn pc) := HK4.out.on hb5
            clear hb5
            rcases hbs with ⟨hc, rfl⟩ | ⟨hc, rfl⟩
            · have HF : Hid (out = (⟨En.zero, false, qr⟩, 0)) := by rw [Hid, ← HS2.out, hc]; rfl
              clear hc
              have b0 : w5.cell? ⟨w.heap.size + 1, 0, none⟩ = some (.string ⟨#[]⟩) := HK5.out.b1.cell 0
              have bf0 : w5.frozen? ⟨w.heap.size + 1, 0, none⟩ = false := HK5.out.b1.frozen 0
              have b1 : w5.cell? ⟨w.heap.size + 1, 1, none⟩ = some (.int .i64 0) := HK5.out.b1.cell 1
              have bf1 : w5.frozen? ⟨w.heap.size + 1, 1, none⟩ = false := HK5.out.b1.frozen 1
              have b2 : w5.cell? ⟨w.heap.size + 1, 2, none⟩ = some (.int .i64 0) := HK5.out.b1.cell 2
              have bf2 : w5.frozen? ⟨w.heap.size + 1, 2, none⟩ = false := HK5.out.b1.frozen 2
              have b3 : w5.cell? ⟨w.heap.size + 1, 3, none⟩ = some (.int .i64 0) := HK5.out.b1.cell 3
              have bf3 : w5.frozen? ⟨w.heap.size + 1, 3, none⟩ = false := HK5.out.b1.frozen 3
              have b4 : w5.cell? ⟨w.heap.size + 1, 4, none⟩ = some (.bool false) := HK5.out.b1.cell 4
              have bf4 : w5.frozen? ⟨w.heap.size + 1, 4, none⟩ = false := HK5.out.b1.frozen 4
              have b5 : w5.cell? ⟨w.heap.size + 1, 5, none⟩ = some (.int .i64 0) := HK5.out.b1.cell 5
              have bf5 : w5.frozen? ⟨w.heap.size + 1, 5, none⟩ = false := HK5.out.b1.frozen 5
              go_wp2
              clear b0 bf0 b1 bf1 b2 bf2 b3 bf3 b4 bf4 b5 bf5
              have k1 := HK5.out.b1.six (.string ⟨#[]⟩) (.int .i64 0) (.int .i64 0) (.int .i64 0) (.bool false) (.int .i64 qr)
              have ht : Tn [w.heap.size + 1] w5 _ := (Tn.refl _ w5).six (R := w.heap.size + 1) (.inl (by simp)) (.string ⟨#[]⟩) (.int .i64 0) (.int .i64 0) (.int .i64 0) (.bool false) (.int .i64 qr)
              refine bodyPost_ret (results_one (T' := 44) (cs := [.string ⟨#[]⟩, .int .i64 0, .int .i64 0, .int .i64 0, .bool false, .int .i64 qr]) rfl rfl sp_agg sp_size rfl k1) rfl ?_
              rw [HF.out]
              exact ⟨.inl ⟨rfl, rfl⟩, HK5.out.below.trans (ht.below HK5.out.below.size (by simp))⟩
            · have HF : Hid (out = (Sp.zero, 73)) := by rw [Hid, ← HS2.out, hc]; rfl
              refine ⟨rfl, ?_⟩
              rw [HF.out]
              exact ⟨.inr ⟨by decide, rfl⟩, HK5.out.below⟩
          | true =>
            rintro e w4 ⟨rfl, hb4⟩
            have HK4 : Hid (Lk w w4 pf plo phi pr pp pn pc) := HK3.out.on hb4
            have HP4 : Hid (Bk w4 w2.heap.size 24 #[.bool qf, .string qlo, .string qhi, .int .i64 qr, .slice none 0 0]) := HP3.out.below hb4 HP3.out.lt
            clear hb4
            have q0 : w4.cell? ⟨w2.heap.size, 0, none⟩ = some (.bool qf) := HP4.out.cell 0
            have qf0 : w4.frozen? ⟨w2.heap.size, 0, none⟩ = false := HP4.out.frozen 0
            have q1 : w4.cell? ⟨w2.heap.size, 1, none⟩ = some (.string qlo) := HP4.out.cell 1
            have qf1 : w4.frozen? ⟨w2.heap.size, 1, none⟩ = false := HP4.out.frozen 1
            have q2 : w4.cell? ⟨w2.heap.size, 2, none⟩ = some (.string qhi) := HP4.out.cell 2
            have qf2 : w4.frozen? ⟨w2.heap.size, 2, none⟩ = false := HP4.out.frozen 2
            have q3 : w4.cell? ⟨w2.heap.size, 3, none⟩ = some (.int .i64 qr) := HP4.out.cell 3
            have qf3 : w4.frozen? ⟨w2.heap.size, 3, none⟩ = false := HP4.out.frozen 3
            have q4 : w4.cell? ⟨w2.heap.size, 4, none⟩ = some (.slice none 0 0) := HP4.out.cell 4
            have qf4 : w4.frozen? ⟨w2.heap.size, 4, none⟩ = false := HP4.out.frozen 4
            have a0 : w4.cell? ⟨w.heap.size, 0, none⟩ = some (.bool pf) := HK4.out.b0.cell 0
            have a1 : w4.cell? ⟨w.heap.size, 1, none⟩ = some (.string plo) := HK4.out.b0.cell 1
            have a2 : w4.cell? ⟨w.heap.size, 2, none⟩ = some (.string phi) := HK4.out.b0.cell 2
            have a3 : w4.cell? ⟨w.heap.size, 3, none⟩ = some (.int .i64 pr) := HK4.out.b0.cell 3
            have a4 : w4.cell? ⟨w.heap.size, 4, none⟩ = some (.slice pp pn pc) := HK4.out.b0.cell 4
            cases qf with
            | false =>
              have HS2 : Hid (Dl.hitI (Pg.fnd false EL key) = out) := by rw [Hid, ← HS.out]; unfold Dl.says; simp only [hin]; rfl
              have HE2 : Hid _ := HE1.out (by simp) (by simp)
              go_wp2_with fail
              refine Calls.mono (HE2.out _ HK4.out.below) ?_
              rintro e w5 ⟨⟨q, m, c, rfl, hlm, hle, hmr⟩, hb5⟩
              have HK5 : Hid (Lk w w5 pf plo phi pr pp pn pc) := HK4.out.on hb5
              have HP5 : Hid (Bk w5 w2.heap.size 24 #[.bool false, .string qlo, .string qhi, .int .i64 qr, .slice none 0 0]) := HP4.out.below hb5 HP4.out.lt
              have HLM : Hid (EL.length = m) := hlm
              have HLE : Hid (Ens w5 q EL) := hle
              clear hb5 hlm hle
              clear q0 qf0 q1 qf1 q2 qf2 q3 qf3 q4 qf4
              clear a0 a1 a2 a3 a4
              have q0 : w5.cell? ⟨w2.heap.size, 0, none⟩ = some (.bool false) := HP5.out.cell 0
              have qf0 : w5.frozen? ⟨w2.heap.size, 0, none⟩ = false := HP5.out.frozen 0
              have q1 : w5.cell? ⟨w2.heap.size, 1, none⟩ = some (.string qlo) := HP5.out.cell 1
              have qf1 : w5.frozen? ⟨w2.heap.size, 1, none⟩ = false := HP5.out.frozen 1
              have q2 : w5.cell? ⟨w2.heap.size, 2, none⟩ = some (.string qhi) := HP5.out.cell 2
              have qf2 : w5.frozen? ⟨w2.heap.size, 2, none⟩ = false := HP5.out.frozen 2
              have q3 : w5.cell? ⟨w2.heap.size, 3, none⟩ = some (.int .i64 qr) := HP5.out.cell 3
              have qf3 : w5.frozen? ⟨w2.heap.size, 3, none⟩ = false := HP5.out.frozen 3
              have q4 : w5.cell? ⟨w2.heap.size, 4, none⟩ = some (.slice none 0 0) := HP5.out.cell 4
              have qf4 : w5.frozen? ⟨w2.heap.size, 4, none⟩ = false := HP5.out.frozen 4
              obtain ⟨w6, hw6⟩ : ∃ w6, w5.setCell ⟨w2.heap.size, 4, none⟩ (.slice q m c) = w6 := ⟨_, rfl⟩
              have ht6 : Tn [w2.heap.size] w5 w6 := by rw [← hw6]; exact (Tn.refl _ w5).setCell (.inl (by simp)) _
              have HP6 : Hid (Bk w6 w2.heap.size 24 #[.bool false, .string qlo, .string qhi, .int .i64 qr, .slice q m c]) := by rw [← hw6]; exact HP5.out.set 4 _
              have HK6 : Hid (Lk w w6 pf plo phi pr pp pn pc) := ⟨HK5.out.below.trans (ht6.below HK5.out.below.size (by have := HPW.out; simp; omega)), HK5.out.b0.tn ht6 (by have := HPW.out; simp; omega), HK5.out.b1.tn ht6 (by have := HPW.out; simp; omega)⟩
              have HL6 : Hid (Ens w6 q EL) := by rw [← hw6]; exact HLE.out.putSlice q4 _
              have y0 : w6.cell? ⟨w2.heap.size, 0, none⟩ = some (.bool false) := HP6.out.cell 0
              have y1 : w6.cell? ⟨w2.heap.size, 1, none⟩ = some (.string qlo) := HP6.out.cell 1
              have y2 : w6.cell? ⟨w2.heap.size, 2, none⟩ = some (.string qhi) := HP6.out.cell 2
              have y3 : w6.cell? ⟨w2.heap.size, 3, none⟩ = some (.int .i64 qr) := HP6.out.cell 3
              have y4 : w6.cell? ⟨w2.heap.size, 4, none⟩ = some (.slice q m c) := HP6.out.cell 4
              go_wp2_with fail
              clear hw6 ht6
              clear q0 qf0 q1 qf1 q2 qf2 q3 qf3 q4 qf4
              clear y0 y1 y2 y3 y4
              refine (below_any false qlo qhi qr q m c EL key _ HLM.out HL6.out hmr).mono ?_
              rw [HS2.out]
              rintro e w7 ⟨hd7, hb7⟩
              have HK7 : Hid (Lk w w7 pf plo phi pr pp pn pc) := HK6.out.on hb7
              clear hb7
              rcases hd7 with ⟨h0, rfl⟩ | ⟨h0, rfl⟩
              · obtain ⟨⟨⟨xk, xs, xg, xc⟩, xf, xgo⟩, kk⟩ := out
                simp only at h0
                subst h0
                have b0 : w7.cell? ⟨w.heap.size + 1, 0, none⟩ = some (.string ⟨#[]⟩) := HK7.out.b1.cell 0
                have bf0 : w7.frozen? ⟨w.heap.size + 1, 0, none⟩ = false := HK7.out.b1.frozen 0
                have b1 : w7.cell? ⟨w.heap.size + 1, 1, none⟩ = some (.int .i64 0) := HK7.out.b1.cell 1
                have bf1 : w7.frozen? ⟨w.heap.size + 1, 1, none⟩ = false := HK7.out.b1.frozen 1
                have b2 : w7.cell? ⟨w.heap.size + 1, 2, none⟩ = some (.int .i64 0) := HK7.out.b1.cell 2
                have bf2 : w7.frozen? ⟨w.heap.size + 1, 2, none⟩ = false := HK7.out.b1.frozen 2
                have b3 : w7.cell? ⟨w.heap.size + 1, 3, none⟩ = some (.int .i64 0) := HK7.out.b1.cell 3
                have bf3 : w7.frozen? ⟨w.heap.size + 1, 3, none⟩ = false := HK7.out.b1.frozen 3
                have b4 : w7.cell? ⟨w.heap.size + 1, 4, none⟩ = some (.bool false) := HK7.out.b1.cell 4
                have bf4 : w7.frozen? ⟨w.heap.size + 1, 4, none⟩ = false := HK7.out.b1.frozen 4
                have b5 : w7.cell? ⟨w.heap.size + 1, 5, none⟩ = some (.int .i64 0) := HK7.out.b1.cell 5
                have bf5 : w7.frozen? ⟨w.heap.size + 1, 5, none⟩ = false := HK7.out.b1.frozen 5
                go_wp2
                clear b0 bf0 b1 bf1 b2 bf2 b3 bf3 b4 bf4 b5 bf5
                have k1 := HK7.out.b1.six (.string xk) (.int .i64 xs) (.int .i64 xg) (.int .i64 xc) (.bool xf) (.int .i64 xgo)
                have ht : Tn [w.heap.size + 1] w7 _ := (Tn.refl _ w7).six (R := w.heap.size + 1) (.inl (by simp)) (.string xk) (.int .i64 xs) (.int .i64 xg) (.int .i64 xc) (.bool xf) (.int .i64 xgo)
                refine bodyPost_ret (results_one (T' := 44) (cs := [.string xk, .int .i64 xs, .int .i64 xg, .int .i64 xc, .bool xf, .int .i64 xgo]) rfl rfl sp_agg sp_size rfl k1) rfl ?_
                skip
                exact ⟨.inl ⟨rfl, rfl⟩, HK7.out.below.trans (ht.below HK7.out.below.size (by simp))⟩
              · refine ⟨rfl, ?_⟩
                exact ⟨.inr ⟨h0, rfl⟩, HK7.out.below⟩
            | true =>
              obtain ⟨fo, HFO⟩ : ∃ fo, Hid (Pg.find true (Dl.among ⟨pf, plo, phi, pr, pl⟩ key (L.map (·.d)) EL) key = fo) := ⟨_, rfl⟩
              have HS2 : Hid (Dl.hitL fo = out) := by rw [Hid, ← HS.out, ← HFO.out]; unfold Dl.says; simp only [hin]; rfl
              go_wp2_with fail
              refine (inLeaf_any pf plo phi pr pp pn pc pl key p len cap L EL _ HN.out (HX.out.below HK4.out.below (Nat.le_refl _)) hl HL.out hll (HD.out.below HK4.out.below (Nat.le_refl _)) (fun hm W hW => HE1.out (by simp) (by simp [hm]) W (HK4.out.below.trans (hW.mono HK4.out.below.size)))).mono ?_
              rw [HFO.out]
              rintro e w5 ⟨rfl, hb5⟩
              have HK5 : Hid (Lk w w5 pf plo phi pr pp pn pc) := HK4.out.on hb5
              clear hb5
              clear q0 qf0 q1 qf1 q2 qf2 q3 qf3 q4 qf4
              clear a0 a1 a2 a3 a4
              cases fo with
              | none =>
                have HF : Hid (out = (Sp.zero, 0)) := HS2.out.symm
                unfold fv
                simp only
                have HK6 : Hid (Lk w (w5.alloc (.cells #[.string ⟨#[]⟩, .int .i64 0, .int .i64 0, .int .i64 0] 30)) pf plo phi pr pp pn pc) := HK5.out.on ((Below.refl _ _).alloc (Nat.le_refl _) _)
                have b0 : (w5.alloc (.cells #[.string ⟨#[]⟩, .int .i64 0, .int .i64 0, .int .i64 0] 30)).cell? ⟨w.heap.size + 1, 0, none⟩ = some (.string ⟨#[]⟩) := HK6.out.b1.cell 0
                have bf0 : (w5.alloc (.cells #[.string ⟨#[]⟩, .int .i64 0, .int .i64 0, .int .i64 0] 30)).frozen? ⟨w.heap.size + 1, 0, none⟩ = false := HK6.out.b1.frozen 0
                have b1 : (w5.alloc (.cells #[.string ⟨#[]⟩, .int .i64 0, .int .i64 0, .int .i64 0] 30)).cell? ⟨w.heap.size + 1, 1, none⟩ = some (.int .i64 0) := HK6.out.b1.cell 1
                have bf1 : (w5.alloc (.cells #[.string ⟨#[]⟩, .int .i64 0, .int .i64 0, .int .i64 0] 30)).frozen? ⟨w.heap.size + 1, 1, none⟩ = false := HK6.out.b1.frozen 1
                have b2 : (w5.alloc (.cells #[.string ⟨#[]⟩, .int .i64 0, .int .i64 0, .int .i64 0] 30)).cell? ⟨w.heap.size + 1, 2, none⟩ = some (.int .i64 0) := HK6.out.b1.cell 2
                have bf2 : (w5.alloc (.cells #[.string ⟨#[]⟩, .int .i64 0, .int .i64 0, .int .i64 0] 30)).frozen? ⟨w.heap.size + 1, 2, none⟩ = false := HK6.out.b1.frozen 2
                have b3 : (w5.alloc (.cells #[.string ⟨#[]⟩, .int .i64 0, .int .i64 0, .int .i64 0] 30)).cell? ⟨w.heap.size + 1, 3, none⟩ = some (.int .i64 0) := HK6.out.b1.cell 3
                have bf3 : (w5.alloc (.cells #[.string ⟨#[]⟩, .int .i64 0, .int .i64 0, .int .i64 0] 30)).frozen? ⟨w.heap.size + 1, 3, none⟩ = false := HK6.out.b1.frozen 3
                have b4 : (w5.alloc (.cells #[.string ⟨#[]⟩, .int .i64 0, .int .i64 0, .int .i64 0] 30)).cell? ⟨w.heap.size + 1, 4, none⟩ = some (.bool false) := HK6.out.b1.cell 4
                have bf4 : (w5.alloc (.cells #[.string ⟨#[]⟩, .int .i64 0, .int .i64 0, .int .i64 0] 30)).frozen? ⟨w.heap.size + 1, 4, none⟩ = false := HK6.out.b1.frozen 4
                have b5 : (w5.alloc (.cells #[.string ⟨#[]⟩, .int .i64 0, .int .i64 0, .int .i64 0] 30)).cell? ⟨w.heap.size + 1, 5, none⟩ = some (.int .i64 0) := HK6.out.b1.cell 5
                have bf5 : (w5.alloc (.cells #[.string ⟨#[]⟩, .int .i64 0, .int .i64 0, .int .i64 0] 30)).frozen? ⟨w.heap.size + 1, 5, none⟩ = false := HK6.out.b1.frozen 5
                go_wp2
                clear b0 bf0 b1 bf1 b2 bf2 b3 bf3 b4 bf4 b5 bf5
                have k1 := HK6.out.b1.six (.string ⟨#[]⟩) (.int .i64 0) (.int .i64 0) (.int .i64 0) (.bool false) (.int .i64 0)
                have ht : Tn [w.heap.size + 1] (w5.alloc (.cells #[.string ⟨#[]⟩, .int .i64 0, .int .i64 0, .int .i64 0] 30)) _ := (Tn.refl _ (w5.alloc (.cells #[.string ⟨#[]⟩, .int .i64 0, .int .i64 0, .int .i64 0] 30))).six (R := w.heap.size + 1) (.inl (by simp)) (.string ⟨#[]⟩) (.int .i64 0) (.int .i64 0) (.int .i64 0) (.bool false) (.int .i64 0)
                refine bodyPost_ret (results_one (T' := 44) (cs := [.string ⟨#[]⟩, .int .i64 0, .int .i64 0, .int .i64 0, .bool false, .int .i64 0]) rfl rfl sp_agg sp_size rfl k1) rfl ?_
                rw [HF.out]
                exact ⟨.inl ⟨rfl, rfl⟩, HK6.out.below.trans (ht.below HK6.out.below.size (by simp))⟩
              | some x =>
                obtain ⟨xk, xs, xg, xc⟩ := x
                have HF : Hid (out = (⟨⟨xk, xs, xg, xc⟩, true, 0⟩, 0)) := HS2.out.symm
                unfold fv
                simp only
                have HK6 : Hid (Lk w (w5.alloc (.cells #[.string xk, .int .i64 xs, .int .i64 xg, .int .i64 xc] 30)) pf plo phi pr pp pn pc) := HK5.out.on ((Below.refl _ _).alloc (Nat.le_refl _) _)
                have b0 : (w5.alloc (.cells #[.string xk, .int .i64 xs, .int .i64 xg, .int .i64 xc] 30)).cell? ⟨w.heap.size + 1, 0, none⟩ = some (.string ⟨#[]⟩) := HK6.out.b1.cell 0
                have bf0 : (w5.alloc (.cells #[.string xk, .int .i64 xs, .int .i64 xg, .int .i64 xc] 30)).frozen? ⟨w.heap.size + 1, 0, none⟩ = false := HK6.out.b1.frozen 0
                have b1 : (w5.alloc (.cells #[.string xk, .int .i64 xs, .int .i64 xg, .int .i64 xc] 30)).cell? ⟨w.heap.size + 1, 1, none⟩ = some (.int .i64 0) := HK6.out.b1.cell 1
                have bf1 : (w5.alloc (.cells #[.string xk, .int .i64 xs, .int .i64 xg, .int .i64 xc] 30)).frozen? ⟨w.heap.size + 1, 1, none⟩ = false := HK6.out.b1.frozen 1
                have b2 : (w5.alloc (.cells #[.string xk, .int .i64 xs, .int .i64 xg, .int .i64 xc] 30)).cell? ⟨w.heap.size + 1, 2, none⟩ = some (.int .i64 0) := HK6.out.b1.cell 2
                have bf2 : (w5.alloc (.cells #[.string xk, .int .i64 xs, .int .i64 xg, .int .i64 xc] 30)).frozen? ⟨w.heap.size + 1, 2, none⟩ = false := HK6.out.b1.frozen 2
                have b3 : (w5.alloc (.cells #[.string xk, .int .i64 xs, .int .i64 xg, .int .i64 xc] 30)).cell? ⟨w.heap.size + 1, 3, none⟩ = some (.int .i64 0) := HK6.out.b1.cell 3
                have bf3 : (w5.alloc (.cells #[.string xk, .int .i64 xs, .int .i64 xg, .int .i64 xc] 30)).frozen? ⟨w.heap.size + 1, 3, none⟩ = false := HK6.out.b1.frozen 3
                have b4 : (w5.alloc (.cells #[.string xk, .int .i64 xs, .int .i64 xg, .int .i64 xc] 30)).cell? ⟨w.heap.size + 1, 4, none⟩ = some (.bool false) := HK6.out.b1.cell 4
                have bf4 : (w5.alloc (.cells #[.string xk, .int .i64 xs, .int .i64 xg, .int .i64 xc] 30)).frozen? ⟨w.heap.size + 1, 4, none⟩ = false := HK6.out.b1.frozen 4
                have b5 : (w5.alloc (.cells #[.string xk, .int .i64 xs, .int .i64 xg, .int .i64 xc] 30)).cell? ⟨w.heap.size + 1, 5, none⟩ = some (.int .i64 0) := HK6.out.b1.cell 5
                have bf5 : (w5.alloc (.cells #[.string xk, .int .i64 xs, .int .i64 xg, .int .i64 xc] 30)).frozen? ⟨w.heap.size + 1, 5, none⟩ = false := HK6.out.b1.frozen 5
                go_wp2
                clear b0 bf0 b1 bf1 b2 bf2 b3 bf3 b4 bf4 b5 bf5
                have k1 := HK6.out.b1.six (.string xk) (.int .i64 xs) (.int .i64 xg) (.int .i64 xc) (.bool true) (.int .i64 0)
                have ht : Tn [w.heap.size + 1] (w5.alloc (.cells #[.string xk, .int .i64 xs, .int .i64 xg, .int .i64 xc] 30)) _ := (Tn.refl _ (w5.alloc (.cells #[.string xk, .int .i64 xs, .int .i64 xg, .int .i64 xc] 30))).six (R := w.heap.size + 1) (.inl (by simp)) (.string xk) (.int .i64 xs) (.int .i64 xg) (.int .i64 xc) (.bool true) (.int .i64 0)
                refine bodyPost_ret (results_one (T' := 44) (cs := [.string xk, .int .i64 xs, .int .i64 xg, .int .i64 xc, .bool true, .int .i64 0]) rfl rfl sp_agg sp_size rfl k1) rfl ?_
                rw [HF.out]
                exact ⟨.inl ⟨rfl, rfl⟩, HK6.out.below.trans (ht.below HK6.out.below.size (by simp))⟩
        · have HF : Hid (out = (Sp.zero, kk)) := by rw [Hid, ← HS.out]; unfold Dl.says; rw [if_pos h0]
          refine ⟨rfl, ?_⟩
          rw [HF.out]
          exact ⟨.inr ⟨h0, rfl⟩, HK2.out.below⟩

end Go.Proofs.YthpilennljpamaaGreat

namespace Go.Proofs.YthpilennljpamaaGreat
open Go.RowKit Go.Sort
set_option linter.unusedVariables false
set_option maxRecDepth 100000

theorem caughtS_idle (B : Nat) (w : World) :
    CallsD Tryz.prog 62 #[.pointer (some ⟨B, 0, none⟩)] .returning w fun e u' w' => e = .returned (.tuple #[]) ∧ u' = .returning ∧ w' = w := by
  refine callsD_of_wpS Tryz.func62 rfl fun c₀ cs hu => ?_
  apply wpS_seq
  apply wpS_region
  simp [wpOpsS, go_sem, recoverD, hu, Tryz.ntmps62, Exit.thenS]
  refine wpS_of_wp ?_
  simp only [Array.replicate_succ, Array.replicate_zero, List.push_toArray, List.append_toArray, List.setIfInBounds_toArray, List.set_cons_zero, List.set_cons_succ, List.nil_append, List.cons_append]
  go_wp2
  cases c₀
  simp_all [bodyPostS, results, Tryz.results62]

theorem caughtS_no (B : Nat) (k x : Int) (w : World) (hc : w.cell? ⟨B, 0, none⟩ = some (.int .i64 x)) (hz : w.frozen? ⟨B, 0, none⟩ = false) :
    CallsD Tryz.prog 62 #[.pointer (some ⟨B, 0, none⟩)] (.panicking [{ v := .iface 34 (.int .i64 k), recovered := false }]) w fun e u' w' => e = .returned (.tuple #[]) ∧ u' = .panicking [{ v := .iface 34 (.int .i64 k), recovered := true }] ∧ w' = w.setCell ⟨B, 0, none⟩ (.int .i64 k) := by
  refine callsD_of_wpS Tryz.func62 rfl fun c₀ cs hu => ?_
  apply wpS_seq
  apply wpS_region
  simp [wpOpsS, go_sem, recoverD, hu, Tryz.ntmps62, Exit.thenS]
  refine wpS_of_wp ?_
  simp only [Array.replicate_succ, Array.replicate_zero, List.push_toArray, List.append_toArray, List.setIfInBounds_toArray, List.set_cons_zero, List.set_cons_succ, List.nil_append, List.cons_append]
  go_wp2_with fail
  refine (refusal_any k _).mono ?_
  rintro e w1 ⟨rfl, rfl⟩
  go_wp2
  simp [bodyPostS, results, Tryz.results62]


theorem results_se {fn : Func} {t u : Tmp} {T1 T2 : TypeId} (h : fn.results = #[.cell t 44, .cell u 34]) {tmps : Array Value} {w : World} {b c : Nat} (ht : tmps.getD t undef = .pointer (some ⟨b, 0, none⟩)) (hu : tmps.getD u undef = .pointer (some ⟨c, 0, none⟩)) {cs : List Value} {i : Int} (hn : cs.length = 6) (hk : Bk w b T1 cs.toArray) (hk2 : Bk w c T2 #[.int .i64 i]) :
    (results fn tmps).run Tryz.prog w = .ok (.tuple #[.agg cs.toArray, .int .i64 i]) w := by
  have c1 : w.cell? ⟨c, 0, none⟩ = some (.int .i64 i) := hk2.cell 0
  have hy : ∀ w : World, (loadVar 34 ⟨c, 0, none⟩).run Tryz.prog w = (load ⟨c, 0, none⟩).run Tryz.prog w := fun w => by kernel_rfl
  have ht' : tmps[t]?.getD undef = .pointer (some ⟨b, 0, none⟩) := by simpa using ht
  have hu' : tmps[u]?.getD undef = .pointer (some ⟨c, 0, none⟩) := by simpa using hu
  simp [results, h, ht', hu', asAddr, run_loadVar_cells sp_agg sp_size hn hk, hy, c1]

set_option maxHeartbeats 1000000 in
theorem caughtS_any (g : Nat) (lb : Array Value) (eg : ∀ args w, (callFunc g args).run Tryz.prog w = .ok (.enter g args) w) (out : Sp × Int) (hz : out.2 ≠ 0 → out.1 = Sp.zero) (w : World)
    (h : Calls Tryz.prog g lb ((w.alloc (.cells #[.string ⟨#[]⟩, .int .i64 0, .int .i64 0, .int .i64 0, .bool false, .int .i64 0] 44)).alloc (.cells #[.int .i64 0] 34)) fun e w' => DoneS ((w.alloc (.cells #[.string ⟨#[]⟩, .int .i64 0, .int .i64 0, .int .i64 0, .bool false, .int .i64 0] 44)).alloc (.cells #[.int .i64 0] 34)) out e w') :
    Calls Tryz.prog 35 #[.func (.func g) #[] lb] w fun e w' => e = .returned (.tuple #[spv out.1.e out.1.f out.1.g, .int .i64 out.2]) ∧ Below w.heap.size w w' := by
  have hmf : ∀ (fn : Fn) (first cap : Array Value) (w : World), (Instr.makeFunc fn first cap).run Tryz.prog w = .ok (.func fn first cap) w := fun _ _ _ _ => rfl
  have H : Hid _ := h
  have HB0 : Hid (Below w.heap.size w ((w.alloc (.cells #[.string ⟨#[]⟩, .int .i64 0, .int .i64 0, .int .i64 0, .bool false, .int .i64 0] 44)).alloc (.cells #[.int .i64 0] 34))) := ((Below.refl _ _).alloc (Nat.le_refl _) _).alloc (by simp) _
  have HK0 : Hid (Bk ((w.alloc (.cells #[.string ⟨#[]⟩, .int .i64 0, .int .i64 0, .int .i64 0, .bool false, .int .i64 0] 44)).alloc (.cells #[.int .i64 0] 34)) w.heap.size 44 #[.string ⟨#[]⟩, .int .i64 0, .int .i64 0, .int .i64 0, .bool false, .int .i64 0]) := (Bk.new _ _ _).alloc _
  have HE0 : Hid (Bk ((w.alloc (.cells #[.string ⟨#[]⟩, .int .i64 0, .int .i64 0, .int .i64 0, .bool false, .int .i64 0] 44)).alloc (.cells #[.int .i64 0] 34)) (w.heap.size + 1) 34 #[.int .i64 0]) := Bk.new1 _ _ _ _
  obtain ⟨⟨⟨xk, xs, xg, xc⟩, xf, xgo⟩, kk⟩ := out
  simp only at hz
  clear h
  go_enter_defers Tryz.func35, Tryz.ntmps35
  go_wp2_with fail
  refine Calls.mono H.out ?_
  rintro e w2 ⟨hd, hb⟩
  have HK2 : Hid (Bk w2 w.heap.size 44 #[.string ⟨#[]⟩, .int .i64 0, .int .i64 0, .int .i64 0, .bool false, .int .i64 0]) := HK0.out.below hb HK0.out.lt
  have HE2 : Hid (Bk w2 (w.heap.size + 1) 34 #[.int .i64 0]) := HE0.out.below hb HE0.out.lt
  have HB2 : Hid (Below w.heap.size w w2) := HB0.out.trans (hb.mono HB0.out.size)
  clear hb H
  simp only at hd
  rcases hd with ⟨h0, rfl⟩ | ⟨h0, rfl⟩
  · subst h0
    have b0 : w2.cell? ⟨w.heap.size, 0, none⟩ = some (.string ⟨#[]⟩) := HK2.out.cell 0
    have bf0 : w2.frozen? ⟨w.heap.size, 0, none⟩ = false := HK2.out.frozen 0
    have b1 : w2.cell? ⟨w.heap.size, 1, none⟩ = some (.int .i64 0) := HK2.out.cell 1
    have bf1 : w2.frozen? ⟨w.heap.size, 1, none⟩ = false := HK2.out.frozen 1
    have b2 : w2.cell? ⟨w.heap.size, 2, none⟩ = some (.int .i64 0) := HK2.out.cell 2
    have bf2 : w2.frozen? ⟨w.heap.size, 2, none⟩ = false := HK2.out.frozen 2
    have b3 : w2.cell? ⟨w.heap.size, 3, none⟩ = some (.int .i64 0) := HK2.out.cell 3
    have bf3 : w2.frozen? ⟨w.heap.size, 3, none⟩ = false := HK2.out.frozen 3
    have b4 : w2.cell? ⟨w.heap.size, 4, none⟩ = some (.bool false) := HK2.out.cell 4
    have bf4 : w2.frozen? ⟨w.heap.size, 4, none⟩ = false := HK2.out.frozen 4
    have b5 : w2.cell? ⟨w.heap.size, 5, none⟩ = some (.int .i64 0) := HK2.out.cell 5
    have bf5 : w2.frozen? ⟨w.heap.size, 5, none⟩ = false := HK2.out.frozen 5
    have d0 : w2.cell? ⟨w.heap.size + 1, 0, none⟩ = some (.int .i64 0) := HE2.out.cell 0
    have g0 : w2.frozen? ⟨w.heap.size + 1, 0, none⟩ = false := HE2.out.frozen 0
    go_wp2
    refine leaves_cons (f := 62) (args := #[.pointer (some ⟨w.heap.size + 1, 0, none⟩)]) (by simp) (by simp [go_sem]) ?_
    refine (caughtS_idle (w.heap.size + 1) _).mono ?_
    rintro e u' w'' ⟨rfl, rfl, rfl⟩
    clear b0 bf0 b1 bf1 b2 bf2 b3 bf3 b4 bf4 b5 bf5
    clear d0 g0
    have k1 := (HK2.out.six (.string xk) (.int .i64 xs) (.int .i64 xg) (.int .i64 xc) (.bool xf) (.int .i64 xgo)).other (p := ⟨w.heap.size + 1, 0, none⟩) (by simp) (.int .i64 0)
    have k2 := (HE2.out.sixO (R := w.heap.size) (by omega) (.string xk) (.int .i64 xs) (.int .i64 xg) (.int .i64 xc) (.bool xf) (.int .i64 xgo)).set 0 (.int .i64 0)
    have ht : Tn [w.heap.size, w.heap.size + 1] w2 _ := ((Tn.refl _ w2).six (R := w.heap.size) (.inl (by simp)) (.string xk) (.int .i64 xs) (.int .i64 xg) (.int .i64 xc) (.bool xf) (.int .i64 xgo)).setCell (p := ⟨w.heap.size + 1, 0, none⟩) (.inl (by simp)) (.int .i64 0)
    refine ⟨_, results_se (cs := [.string xk, .int .i64 xs, .int .i64 xg, .int .i64 xc, .bool xf, .int .i64 xgo]) rfl rfl rfl rfl k1 k2, ?_⟩
    exact ⟨rfl, HB2.out.trans (ht.below HB2.out.size (by simp))⟩
  · have hzz := hz h0
    simp only [Sp.mk.injEq, En.mk.injEq] at hzz
    obtain ⟨⟨rfl, rfl, rfl, rfl⟩, rfl, rfl⟩ := hzz
    refine leaves_cons (f := 62) (args := #[.pointer (some ⟨w.heap.size + 1, 0, none⟩)]) (by simp) (by simp [go_sem]) ?_
    refine (caughtS_no (w.heap.size + 1) kk 0 _ (HE2.out.cell 0) (HE2.out.frozen 0)).mono ?_
    rintro e u' w'' ⟨rfl, rfl, rfl⟩
    have k1 := HK2.out.other (p := ⟨w.heap.size + 1, 0, none⟩) (by simp) (.int .i64 kk)
    have k2 := HE2.out.set 0 (.int .i64 kk)
    have ht : Tn [w.heap.size + 1] w2 _ := (Tn.refl _ w2).setCell (p := ⟨w.heap.size + 1, 0, none⟩) (.inl (by simp)) (.int .i64 kk)
    refine ⟨_, results_se (cs := [.string ⟨#[]⟩, .int .i64 0, .int .i64 0, .int .i64 0, .bool false, .int .i64 0]) rfl rfl rfl rfl k1 k2, ?_⟩
    exact ⟨rfl, HB2.out.trans (ht.below HB2.out.size (by simp))⟩

theorem Dl.look_zero (g : Pp) (key : ByteArray) (ds : List De) (EL : List En) (h : (Dl.look g key ds EL).2 ≠ 0) : (Dl.look g key ds EL).1 = Sp.zero := by
  unfold Dl.look at h ⊢
  split
  · rename_i n hn
    rw [hn] at h
    exact absurd rfl h
  · rename_i hn
    rw [hn] at h
    simp only at h
    unfold Dl.says at h ⊢
    split
    · rfl
    · rename_i h1
      rw [if_neg h1] at h
      split
      · rename_i h2
        rw [if_pos h2] at h
        split
        · rfl
        · rename_i h3
          rw [if_neg h3] at h
          exact absurd rfl h
      · rename_i h2
        rw [if_neg h2] at h
        split
        · rename_i h3
          rw [if_pos h3] at h
          cases hf : Pg.fnd false EL key with
          | none => rfl
          | some x => rw [hf] at h; exact absurd rfl h
        · rename_i h3
          rw [if_neg h3] at h
          cases hf : Pg.find true (Dl.among g key ds EL) key with
          | none => rfl
          | some x => rw [hf] at h; exact absurd rfl h

set_option maxHeartbeats 2000000 in
theorem look_any (pf : Bool) (plo phi : ByteArray) (pr : Int) (pp : Option Addr) (pn pc : Nat) (pl : List En) (key : ByteArray) (p : Option Addr) (len cap : Nat) (L : List Dm) (EL : List En) (w : World) (hlen : pl.length = pn) (hx : Ens w pp pl) (hl : pn ≤ 3518437208780) (hL : L.length = len) (hll : len ≤ 4398046511104) (hD : Des w p L)
    (hE : (Dl.outl ⟨pf, plo, phi, pr, pl⟩ (L.map (·.d)).reverse).2 = 0 → ((Dl.outl ⟨pf, plo, phi, pr, pl⟩ (L.map (·.d)).reverse).1.leaf = false ∨ Pg.may pf ⟨plo, phi⟩ pr pl = false) → ∀ W, Below w.heap.size w W → Calls Tryz.prog 54 #[pgv pf plo phi pr pp pn pc, .slice p len cap] W fun e w' => Led W EL e w') :
    Calls Tryz.prog 18 #[pgv pf plo phi pr pp pn pc, .string key, .slice p len cap] w fun e w' => e = .returned (.tuple #[spv (Dl.look ⟨pf, plo, phi, pr, pl⟩ key (L.map (·.d)) EL).1.e (Dl.look ⟨pf, plo, phi, pr, pl⟩ key (L.map (·.d)) EL).1.f (Dl.look ⟨pf, plo, phi, pr, pl⟩ key (L.map (·.d)) EL).1.g, .int .i64 (Dl.look ⟨pf, plo, phi, pr, pl⟩ key (L.map (·.d)) EL).2]) ∧ Below w.heap.size w w' := by
  have hmf : ∀ (fn : Fn) (first cap : Array Value) (w : World), (Instr.makeFunc fn first cap).run Tryz.prog w = .ok (.func fn first cap) w := fun _ _ _ _ => rfl
  have eg : ∀ args w, (callFunc 36 args).run Tryz.prog w = .ok (.enter 36 args) w := enters_of Tryz.func36 (by kernel_rfl) rfl
  have hz := Dl.look_zero ⟨pf, plo, phi, pr, pl⟩ key (L.map (·.d)) EL
  have hq := fun (W : World) (hW : Below w.heap.size w W) => looked_any pf plo phi pr pp pn pc pl key p len cap L EL W hlen (hx.below hW (Nat.le_refl _)) hl hL hll (hD.below hW (Nat.le_refl _)) (fun h1 h2 W' hW' => hE h1 h2 W' (hW.trans (hW'.mono hW.size)))
  obtain ⟨out, HO⟩ : ∃ out, Hid (Dl.look ⟨pf, plo, phi, pr, pl⟩ key (L.map (·.d)) EL = out) := ⟨_, rfl⟩
  rw [HO.out] at hz
  simp only [HO.out] at hq
  rw [HO.out]
  clear HO hE hD hx hlen hL
  have HQ : Hid _ := hq
  clear hq
  obtain ⟨w0, hw0⟩ : ∃ w0, (((w.alloc (.cells #[.bool pf, .string plo, .string phi, .int .i64 pr, .slice pp pn pc] 24)).alloc (.cells #[.string key] 9)).alloc (.cells #[.slice p len cap] 25)).alloc (.cells #[.string ⟨#[]⟩, .int .i64 0, .int .i64 0, .int .i64 0, .bool false, .int .i64 0] 44) = w0 := ⟨_, rfl⟩
  have HB0 : Hid (Below w.heap.size w w0) := by rw [← hw0]; exact ((((Below.refl _ _).alloc (Nat.le_refl _) _).alloc (by simp) _).alloc (by simp; omega) _).alloc (by simp; omega) _
  have hk0 : Bk w0 w.heap.size 24 #[.bool pf, .string plo, .string phi, .int .i64 pr, .slice pp pn pc] := by rw [← hw0]; exact (((Bk.new _ _ _).alloc _).alloc _).alloc _
  have hk1 : Bk w0 (w.heap.size + 1) 9 #[.string key] := by rw [← hw0]; exact ((Bk.new1 _ _ _ _).alloc _).alloc _
  have hk2 : Bk w0 (w.heap.size + 1 + 1) 25 #[.slice p len cap] := by rw [← hw0]; exact (Bk.new2 _ _ _ _ _).alloc _
  have HR0 : Hid (Bk w0 (w.heap.size + 1 + 1 + 1) 44 #[.string ⟨#[]⟩, .int .i64 0, .int .i64 0, .int .i64 0, .bool false, .int .i64 0]) := by
    rw [← hw0]
    unfold Hid
    have := Bk.new (((w.alloc (.cells #[.bool pf, .string plo, .string phi, .int .i64 pr, .slice pp pn pc] 24)).alloc (.cells #[.string key] 9)).alloc (.cells #[.slice p len cap] 25)) 44 #[.string ⟨#[]⟩, .int .i64 0, .int .i64 0, .int .i64 0, .bool false, .int .i64 0]
    simpa using this
  have hl1 : ∀ (W : World), Below w0.heap.size w0 W → Calls Tryz.prog 36 #[.pointer (some ⟨w.heap.size, 0, none⟩), .pointer (some ⟨w.heap.size + 1, 0, none⟩), .pointer (some ⟨w.heap.size + 1 + 1, 0, none⟩)] W fun e w' => DoneS W out e w' := by
    intro W hW
    have HA : Hid (Bk W w.heap.size 24 #[.bool pf, .string plo, .string phi, .int .i64 pr, .slice pp pn pc]) := hk0.below hW hk0.lt
    have HY : Hid (Bk W (w.heap.size + 1) 9 #[.string key]) := hk1.below hW hk1.lt
    have HZ : Hid (Bk W (w.heap.size + 1 + 1) 25 #[.slice p len cap]) := hk2.below hW hk2.lt
    have HWW : Hid (Below w.heap.size w W) := HB0.out.trans (hW.mono HB0.out.size)
    clear hk0 hk1 hk2 hW hw0 hz
    obtain ⟨w1, hw1⟩ : ∃ w1, W.alloc (.cells #[.string ⟨#[]⟩, .int .i64 0, .int .i64 0, .int .i64 0, .bool false, .int .i64 0] 44) = w1 := ⟨_, rfl⟩
    have HB1 : Hid (Below W.heap.size W w1) := by rw [← hw1]; exact (Below.refl _ _).alloc (Nat.le_refl _) _
    have HR1 : Hid (Bk w1 W.heap.size 44 #[.string ⟨#[]⟩, .int .i64 0, .int .i64 0, .int .i64 0, .bool false, .int .i64 0]) := by rw [← hw1]; exact Bk.new _ _ _
    have hka : Bk w1 w.heap.size 24 #[.bool pf, .string plo, .string phi, .int .i64 pr, .slice pp pn pc] := HA.out.below HB1.out HA.out.lt
    have hkb : Bk w1 (w.heap.size + 1) 9 #[.string key] := HY.out.below HB1.out HY.out.lt
    have hkc : Bk w1 (w.heap.size + 1 + 1) 25 #[.slice p len cap] := HZ.out.below HB1.out HZ.out.lt
    have a0 : w1.cell? ⟨w.heap.size, 0, none⟩ = some (.bool pf) := hka.cell 0
    have a1 : w1.cell? ⟨w.heap.size, 1, none⟩ = some (.string plo) := hka.cell 1
    have a2 : w1.cell? ⟨w.heap.size, 2, none⟩ = some (.string phi) := hka.cell 2
    have a3 : w1.cell? ⟨w.heap.size, 3, none⟩ = some (.int .i64 pr) := hka.cell 3
    have a4 : w1.cell? ⟨w.heap.size, 4, none⟩ = some (.slice pp pn pc) := hka.cell 4
    have y0 : w1.cell? ⟨w.heap.size + 1, 0, none⟩ = some (.string key) := hkb.cell 0
    have y1 : w1.cell? ⟨w.heap.size + 1 + 1, 0, none⟩ = some (.slice p len cap) := hkc.cell 0
    clear hka hkb hkc
    go_enter Tryz.func36, Tryz.ntmps36
    go_wp2_with fail
    clear hw1 y0 y1
    clear a0 a1 a2 a3 a4
    refine (HQ.out _ (HWW.out.trans (HB1.out.mono HWW.out.size))).mono ?_
    rintro e w2 ⟨hd, hb2⟩
    have HB2 : Hid (Below W.heap.size W w2) := HB1.out.trans (hb2.mono HB1.out.size)
    have HR2 : Hid (Bk w2 W.heap.size 44 #[.string ⟨#[]⟩, .int .i64 0, .int .i64 0, .int .i64 0, .bool false, .int .i64 0]) := HR1.out.below hb2 HR1.out.lt
    clear hb2
    rcases hd with ⟨h0, rfl⟩ | ⟨h0, rfl⟩
    · obtain ⟨⟨⟨xk, xs, xg, xc⟩, xf, xgo⟩, kk⟩ := out
      simp only at h0
      subst h0
      have b0 : w2.cell? ⟨W.heap.size, 0, none⟩ = some (.string ⟨#[]⟩) := HR2.out.cell 0
      have bf0 : w2.frozen? ⟨W.heap.size, 0, none⟩ = false := HR2.out.frozen 0
      have b1 : w2.cell? ⟨W.heap.size, 1, none⟩ = some (.int .i64 0) := HR2.out.cell 1
      have bf1 : w2.frozen? ⟨W.heap.size, 1, none⟩ = false := HR2.out.frozen 1
      have b2 : w2.cell? ⟨W.heap.size, 2, none⟩ = some (.int .i64 0) := HR2.out.cell 2
      have bf2 : w2.frozen? ⟨W.heap.size, 2, none⟩ = false := HR2.out.frozen 2
      have b3 : w2.cell? ⟨W.heap.size, 3, none⟩ = some (.int .i64 0) := HR2.out.cell 3
      have bf3 : w2.frozen? ⟨W.heap.size, 3, none⟩ = false := HR2.out.frozen 3
      have b4 : w2.cell? ⟨W.heap.size, 4, none⟩ = some (.bool false) := HR2.out.cell 4
      have bf4 : w2.frozen? ⟨W.heap.size, 4, none⟩ = false := HR2.out.frozen 4
      have b5 : w2.cell? ⟨W.heap.size, 5, none⟩ = some (.int .i64 0) := HR2.out.cell 5
      have bf5 : w2.frozen? ⟨W.heap.size, 5, none⟩ = false := HR2.out.frozen 5
      go_wp2
      clear b0 bf0 b1 bf1 b2 bf2 b3 bf3 b4 bf4 b5 bf5
      have k1 := HR2.out.six (.string xk) (.int .i64 xs) (.int .i64 xg) (.int .i64 xc) (.bool xf) (.int .i64 xgo)
      have ht : Tn [W.heap.size] w2 _ := (Tn.refl _ w2).six (R := W.heap.size) (.inl (by simp)) (.string xk) (.int .i64 xs) (.int .i64 xg) (.int .i64 xc) (.bool xf) (.int .i64 xgo)
      refine bodyPost_ret (results_one (T' := 44) (cs := [.string xk, .int .i64 xs, .int .i64 xg, .int .i64 xc, .bool xf, .int .i64 xgo]) rfl rfl sp_agg sp_size rfl k1) rfl ?_
      exact ⟨.inl ⟨rfl, rfl⟩, HB2.out.trans (ht.below HB2.out.size (by simp))⟩
    · refine ⟨rfl, ?_⟩
      exact ⟨.inr ⟨h0, rfl⟩, HB2.out⟩
  have hcc := caughtS_any 36 #[.pointer (some ⟨w.heap.size, 0, none⟩), .pointer (some ⟨w.heap.size + 1, 0, none⟩), .pointer (some ⟨w.heap.size + 1 + 1, 0, none⟩)] eg out hz w0 (hl1 _ (((Below.refl _ _).alloc (Nat.le_refl _) _).alloc (by simp) _))
  have HC : Hid _ := hcc
  obtain ⟨⟨⟨xk, xs, xg, xc⟩, xf, xgo⟩, kk⟩ := out
  clear hcc hl1 hk0 hk1 hk2 hz
  go_enter Tryz.func18, Tryz.ntmps18
  go_wp2_with fail
  clear hw0
  refine Calls.mono HC.out ?_
  rintro e w1 ⟨rfl, hb1⟩
  have HB1 : Hid (Below w.heap.size w w1) := HB0.out.trans (hb1.mono HB0.out.size)
  have HR1 : Hid (Bk w1 (w.heap.size + 1 + 1 + 1) 44 #[.string ⟨#[]⟩, .int .i64 0, .int .i64 0, .int .i64 0, .bool false, .int .i64 0]) := HR0.out.below hb1 HR0.out.lt
  clear hb1
  have b0 : w1.cell? ⟨w.heap.size + 1 + 1 + 1, 0, none⟩ = some (.string ⟨#[]⟩) := HR1.out.cell 0
  have bf0 : w1.frozen? ⟨w.heap.size + 1 + 1 + 1, 0, none⟩ = false := HR1.out.frozen 0
  have b1 : w1.cell? ⟨w.heap.size + 1 + 1 + 1, 1, none⟩ = some (.int .i64 0) := HR1.out.cell 1
  have bf1 : w1.frozen? ⟨w.heap.size + 1 + 1 + 1, 1, none⟩ = false := HR1.out.frozen 1
  have b2 : w1.cell? ⟨w.heap.size + 1 + 1 + 1, 2, none⟩ = some (.int .i64 0) := HR1.out.cell 2
  have bf2 : w1.frozen? ⟨w.heap.size + 1 + 1 + 1, 2, none⟩ = false := HR1.out.frozen 2
  have b3 : w1.cell? ⟨w.heap.size + 1 + 1 + 1, 3, none⟩ = some (.int .i64 0) := HR1.out.cell 3
  have bf3 : w1.frozen? ⟨w.heap.size + 1 + 1 + 1, 3, none⟩ = false := HR1.out.frozen 3
  have b4 : w1.cell? ⟨w.heap.size + 1 + 1 + 1, 4, none⟩ = some (.bool false) := HR1.out.cell 4
  have bf4 : w1.frozen? ⟨w.heap.size + 1 + 1 + 1, 4, none⟩ = false := HR1.out.frozen 4
  have b5 : w1.cell? ⟨w.heap.size + 1 + 1 + 1, 5, none⟩ = some (.int .i64 0) := HR1.out.cell 5
  have bf5 : w1.frozen? ⟨w.heap.size + 1 + 1 + 1, 5, none⟩ = false := HR1.out.frozen 5
  go_wp2
  clear b0 bf0 b1 bf1 b2 bf2 b3 bf3 b4 bf4 b5 bf5
  have k1 := HR1.out.six (.string xk) (.int .i64 xs) (.int .i64 xg) (.int .i64 xc) (.bool xf) (.int .i64 xgo)
  have ht : Tn [w.heap.size + 1 + 1 + 1] w1 _ := (Tn.refl _ w1).six (R := w.heap.size + 1 + 1 + 1) (.inl (by simp)) (.string xk) (.int .i64 xs) (.int .i64 xg) (.int .i64 xc) (.bool xf) (.int .i64 xgo)
  refine bodyPost_ret (results_two (T' := 44) (cs := [.string xk, .int .i64 xs, .int .i64 xg, .int .i64 xc, .bool xf, .int .i64 xgo]) rfl rfl sp_agg sp_size rfl k1) rfl ?_
  exact ⟨rfl, HB1.out.trans (ht.below HB1.out.size (by simp; omega))⟩

end Go.Proofs.YthpilennljpamaaGreat

namespace Go.Proofs.YthpilennljpamaaGreat
open Go.RowKit Go.Sort
set_option linter.unusedVariables false
set_option maxRecDepth 100000

theorem Dl.list_mk (a : Array UInt8) : (ByteArray.mk a).toList = a.toList := ByteArray.toList_eq _

abbrev lvB : Pp := ⟨true, ⟨#[]⟩, ⟨#[]⟩, 0, [⟨⟨#[97]⟩, 0, 0, 0⟩]⟩
abbrev lvS : De := ⟨3, En.zero, ⟨#[98]⟩, 4, Pg.zero⟩
abbrev lvP : De := ⟨1, ⟨⟨#[99]⟩, 0, 0, 0⟩, ⟨#[]⟩, 0, Pg.zero⟩

theorem lv_inn (k : ByteArray) : Ky.inn ⟨⟨#[]⟩, ⟨#[]⟩⟩ k = true := by
  have e : Ky.nil ⟨#[]⟩ = true := by unfold Ky.nil; rw [Dl.list_mk]; rfl
  have l0 : ∀ a, Ky.lt a ⟨#[]⟩ = false := fun a => Ky.lt_empty a
  unfold Ky.inn Ky.below; simp only [e, l0]; rfl

theorem lv_mayS : Dl.may lvS = true := by
  have h1 : Dl.fits lvS = true := by
    unfold Dl.fits
    rw [if_neg (by decide), if_neg (by decide), if_pos rfl, Dl.list_mk]
    rfl
  have h2 : Dl.named lvS = lvS := rfl
  unfold Dl.may
  rw [h1, h2, Dl.same_self]
  rfl

theorem lv_mayP : Dl.may lvP = true := by
  have h1 : Dl.fits lvP = true := rfl
  have h2 : Dl.named lvP = lvP := rfl
  unfold Dl.may
  rw [h1, h2, Dl.same_self]
  rfl

theorem lv_outl : Dl.outl lvB [lvP, lvS] = (⟨true, ⟨#[]⟩, ⟨#[98]⟩, 4, []⟩, 0) := by
  have h1 : Dl.apply (Dl.hd lvB) lvP = (⟨true, ⟨#[]⟩, ⟨#[]⟩, 0, Pg.putL [] ⟨⟨#[99]⟩, 0, 0, 0⟩⟩, 0) := by
    unfold Dl.apply
    rw [if_pos lv_mayP, if_pos rfl]
    unfold Pg.put
    refine (if_pos (lv_inn _)).trans ?_
    rfl
  have hlt : Ky.lt ⟨#[]⟩ ⟨#[98]⟩ = true := by unfold Ky.lt; rw [Dl.list_mk, Dl.list_mk]; rfl
  have h2 : Dl.apply ⟨true, ⟨#[]⟩, ⟨#[]⟩, 0, []⟩ lvS = (⟨true, ⟨#[]⟩, ⟨#[98]⟩, 4, []⟩, 0) := by
    unfold Dl.apply
    rw [if_pos lv_mayS, if_neg (by decide), if_neg (by decide), if_pos rfl, if_pos (by rw [hlt, lv_inn]; rfl)]
    rfl
  show Dl.stp (Dl.stp (Dl.hd lvB, 0) lvP) lvS = _
  have h3 : Dl.stp (Dl.hd lvB, 0) lvP = (⟨true, ⟨#[]⟩, ⟨#[]⟩, 0, []⟩, 0) := by
    unfold Dl.stp
    rw [if_pos rfl, h1]
    rfl
  rw [h3]
  unfold Dl.stp
  rw [if_pos rfl, h2]
  rfl

theorem lv_pgmay : Pg.may true ⟨⟨#[]⟩, ⟨#[]⟩⟩ 0 [⟨⟨#[97]⟩, 0, 0, 0⟩] = true := by
  have e : Ky.nil ⟨#[]⟩ = true := by unfold Ky.nil; rw [Dl.list_mk]; rfl
  unfold Pg.may
  have a : Ky.emp ⟨⟨#[]⟩, ⟨#[]⟩⟩ = false := by unfold Ky.emp Ky.below; simp only [e]; rfl
  rw [a]
  have f : Pg.fits true ⟨⟨#[]⟩, ⟨#[]⟩⟩ [⟨⟨#[97]⟩, 0, 0, 0⟩] = true := by
    refine Pg.fits_all fun j hj => ?_
    match j, hj with
    | 0, _ => rw [Pg.good_first (e := ⟨⟨#[97]⟩, 0, 0, 0⟩) rfl, lv_inn]; rfl
    | n + 1, h => exact absurd h (by simp)
  rw [f]
  rfl

theorem lv_lookc (EL : List En) : Dl.look lvB ⟨#[99]⟩ [lvS, lvP] EL = (⟨En.zero, false, 4⟩, 0) := by
  show Dl.says lvB ⟨#[99]⟩ [lvS, lvP] EL (Dl.outl lvB [lvP, lvS]) = _
  rw [lv_outl]
  unfold Dl.says
  have i : Ky.inn ⟨⟨#[]⟩, ⟨#[98]⟩⟩ ⟨#[99]⟩ = false := by unfold Ky.inn Ky.below Ky.nil Ky.lt; simp only [Dl.list_mk]; rfl
  rw [if_neg (by decide), if_pos i, if_neg (by show ¬ (Ky.lt ⟨#[99]⟩ ⟨#[]⟩ || (4 : Int) == 0) = true; rw [show Ky.lt ⟨#[99]⟩ ⟨#[]⟩ = false from Ky.lt_empty _]; decide)]

theorem lv_looka (EL : List En) : Dl.look lvB ⟨#[97]⟩ [lvS, lvP] EL = (⟨⟨⟨#[97]⟩, 0, 0, 0⟩, true, 0⟩, 0) := by
  show Dl.says lvB ⟨#[97]⟩ [lvS, lvP] EL (Dl.outl lvB [lvP, lvS]) = _
  rw [lv_outl]
  unfold Dl.says
  have i : Ky.inn ⟨⟨#[]⟩, ⟨#[98]⟩⟩ ⟨#[97]⟩ = true := by unfold Ky.inn Ky.below Ky.nil Ky.lt; simp only [Dl.list_mk]; rfl
  rw [if_neg (by decide), if_neg (by rw [i]; decide), if_neg (by decide)]
  have h1 : Dl.among lvB ⟨#[97]⟩ [lvS, lvP] EL = [⟨⟨#[97]⟩, 0, 0, 0⟩] := by
    unfold Dl.among
    rw [if_pos lv_pgmay]
    have h2 : ((⟨#[99]⟩ : ByteArray).toList == (⟨#[97]⟩ : ByteArray).toList) = false := by rw [Dl.list_mk, Dl.list_mk]; rfl
    show (if ((1 : Int) == 1) && ((⟨#[99]⟩ : ByteArray).toList == (⟨#[97]⟩ : ByteArray).toList) then _ else _) = _
    rw [h2]
    rfl
  rw [h1]
  have h3 : Pg.find true [⟨⟨#[97]⟩, 0, 0, 0⟩] ⟨#[97]⟩ = some ⟨⟨#[97]⟩, 0, 0, 0⟩ := by
    simp [Pg.find, Pg.is, Dl.list_mk]
  rw [h3]
  rfl

abbrev lvE : Array Value := #[.string ⟨#[97]⟩, .int .i64 0, .int .i64 0, .int .i64 0]
abbrev lvD : Array Value := #[.int .i64 3, .string ⟨#[]⟩, .int .i64 0, .int .i64 0, .int .i64 0, .string ⟨#[98]⟩, .int .i64 4, .bool false, .string ⟨#[]⟩, .string ⟨#[]⟩, .int .i64 0, .slice none 0 0, .int .i64 1, .string ⟨#[99]⟩, .int .i64 0, .int .i64 0, .int .i64 0, .string ⟨#[]⟩, .int .i64 0, .bool false, .string ⟨#[]⟩, .string ⟨#[]⟩, .int .i64 0, .slice none 0 0]
abbrev lvL : List Dm := [⟨lvS, none, 0, 0⟩, ⟨lvP, none, 0, 0⟩]

theorem lv_ens {w : World} {b : Nat} {T : TypeId} (hk : Bk w b T lvE) : Ens w (some ⟨b, 0, none⟩) [⟨⟨#[97]⟩, 0, 0, 0⟩] := by
  intro _
  refine ⟨b, 0, rfl, fun i g hi => ?_⟩
  match i, hi with
  | 0, hi => simp at hi; subst hi; exact ⟨hk.cell 0, hk.cell 1, hk.cell 2, hk.cell 3⟩
  | n + 1, hi => simp at hi

theorem lv_ok (w : World) (d : De) (h : d.rt.l = []) : Dm.Ok w ⟨d, none, 0, 0⟩ := ⟨by rw [h]; rfl, by rw [h]; exact Ens.nil _ _, fun _ => ⟨rfl, rfl⟩, Nat.le_refl _, Nat.zero_le _⟩

theorem lv_des {w : World} {b : Nat} {T : TypeId} (hk : Bk w b T lvD) : Des w (some ⟨b, 0, none⟩) lvL := by
  intro _
  refine ⟨b, 0, rfl, fun i m hi => ?_⟩
  match i, hi with
  | 0, hi =>
    simp at hi; subst hi
    refine ⟨fun t v ht => ?_, lv_ok _ _ rfl⟩
    have hc := hk.cell t
    rw [show 0 + 0 * 12 + t = t by omega]
    match t, ht with
    | 0, ht => simp [Dm.cells] at ht; subst ht; exact hc
    | 1, ht => simp [Dm.cells] at ht; subst ht; exact hc
    | 2, ht => simp [Dm.cells] at ht; subst ht; exact hc
    | 3, ht => simp [Dm.cells] at ht; subst ht; exact hc
    | 4, ht => simp [Dm.cells] at ht; subst ht; exact hc
    | 5, ht => simp [Dm.cells] at ht; subst ht; exact hc
    | 6, ht => simp [Dm.cells] at ht; subst ht; exact hc
    | 7, ht => simp [Dm.cells] at ht; subst ht; exact hc
    | 8, ht => simp [Dm.cells] at ht; subst ht; exact hc
    | 9, ht => simp [Dm.cells] at ht; subst ht; exact hc
    | 10, ht => simp [Dm.cells] at ht; subst ht; exact hc
    | 11, ht => simp [Dm.cells] at ht; subst ht; exact hc
    | n + 12, ht => simp [Dm.cells] at ht
  | 1, hi =>
    simp at hi; subst hi
    refine ⟨fun t v ht => ?_, lv_ok _ _ rfl⟩
    have hc := hk.cell (12 + t)
    rw [show 0 + 1 * 12 + t = 12 + t by omega]
    match t, ht with
    | 0, ht => simp [Dm.cells] at ht; subst ht; exact hc
    | 1, ht => simp [Dm.cells] at ht; subst ht; exact hc
    | 2, ht => simp [Dm.cells] at ht; subst ht; exact hc
    | 3, ht => simp [Dm.cells] at ht; subst ht; exact hc
    | 4, ht => simp [Dm.cells] at ht; subst ht; exact hc
    | 5, ht => simp [Dm.cells] at ht; subst ht; exact hc
    | 6, ht => simp [Dm.cells] at ht; subst ht; exact hc
    | 7, ht => simp [Dm.cells] at ht; subst ht; exact hc
    | 8, ht => simp [Dm.cells] at ht; subst ht; exact hc
    | 9, ht => simp [Dm.cells] at ht; subst ht; exact hc
    | 10, ht => simp [Dm.cells] at ht; subst ht; exact hc
    | 11, ht => simp [Dm.cells] at ht; subst ht; exact hc
    | n + 12, ht => simp [Dm.cells] at ht
  | n + 2, hi => simp at hi

set_option maxHeartbeats 2000000 in
theorem live_any (w : World) : Calls Tryz.prog 15 #[] w fun r w' => r = .returned (.bool true) ∧ Below w.heap.size w w' := by
  obtain ⟨w0, hw0⟩ : ∃ w0, ((w.alloc (.cells lvE 30)).alloc (.cells (pgc true ⟨#[]⟩ ⟨#[]⟩ 0 (some ⟨w.heap.size, 0, none⟩) 1 1) 24)).alloc (.cells lvD 32) = w0 := ⟨_, rfl⟩
  have HB0 : Hid (Below w.heap.size w w0) := by rw [← hw0]; exact (((Below.refl _ _).alloc (Nat.le_refl _) _).alloc (by simp) _).alloc (by simp; omega) _
  have HE0 : Hid (Bk w0 w.heap.size 30 lvE) := by rw [← hw0]; exact ((Bk.new _ _ _).alloc _).alloc _
  have HK0 : Hid (Bk w0 (w.heap.size + 1) 24 (pgc true ⟨#[]⟩ ⟨#[]⟩ 0 (some ⟨w.heap.size, 0, none⟩) 1 1)) := by rw [← hw0]; exact (Bk.new1 _ _ _ _).alloc _
  have HD0 : Hid (Bk w0 (w.heap.size + 1 + 1) 32 lvD) := by rw [← hw0]; exact Bk.new2 _ _ _ _ _
  have a0 : w0.cell? ⟨w.heap.size + 1, 0, none⟩ = some (.bool true) := HK0.out.cell 0
  have a1 : w0.cell? ⟨w.heap.size + 1, 1, none⟩ = some (.string ⟨#[]⟩) := HK0.out.cell 1
  have a2 : w0.cell? ⟨w.heap.size + 1, 2, none⟩ = some (.string ⟨#[]⟩) := HK0.out.cell 2
  have a3 : w0.cell? ⟨w.heap.size + 1, 3, none⟩ = some (.int .i64 0) := HK0.out.cell 3
  have a4 : w0.cell? ⟨w.heap.size + 1, 4, none⟩ = some (.slice (some ⟨w.heap.size, 0, none⟩) 1 1) := HK0.out.cell 4
  go_enter Tryz.func15, Tryz.ntmps15
  go_wp2_with fail
  refine (look_any true ⟨#[]⟩ ⟨#[]⟩ 0 (some ⟨w.heap.size, 0, none⟩) 1 1 [⟨⟨#[97]⟩, 0, 0, 0⟩] ⟨#[99]⟩ (some ⟨w.heap.size + 1 + 1, 0, none⟩) 2 2 lvL [] _ rfl (lv_ens HE0.out) (by decide) rfl (by decide) (lv_des HD0.out) (fun _ h => ?_)).mono ?_
  · exfalso
    rcases h with h | h
    · rw [show (List.map (·.d) lvL).reverse = [lvP, lvS] from rfl, lv_outl] at h
      cases h
    · rw [lv_pgmay] at h; cases h
  rw [show List.map (·.d) lvL = [lvS, lvP] from rfl, lv_lookc]
  rintro e w1 ⟨he, hb1⟩
  simp only [spv] at he
  subst he
  have HB1 : Hid (Below w.heap.size w w1) := HB0.out.trans (hb1.mono HB0.out.size)
  have HE1 : Hid (Bk w1 w.heap.size 30 lvE) := HE0.out.below hb1 HE0.out.lt
  have HK1 : Hid (Bk w1 (w.heap.size + 1) 24 (pgc true ⟨#[]⟩ ⟨#[]⟩ 0 (some ⟨w.heap.size, 0, none⟩) 1 1)) := HK0.out.below hb1 HK0.out.lt
  have HD1 : Hid (Bk w1 (w.heap.size + 1 + 1) 32 lvD) := HD0.out.below hb1 HD0.out.lt
  clear hb1 a0 a1 a2 a3 a4 HE0 HK0 HB0 HD0 hw0
  obtain ⟨w2, hw2⟩ : ∃ w2, w1.alloc (.cells #[.string ⟨#[]⟩, .int .i64 0, .int .i64 0, .int .i64 0, .bool false, .int .i64 4] 44) = w2 := ⟨_, rfl⟩
  have hb2 : Below w1.heap.size w1 w2 := by rw [← hw2]; exact (Below.refl _ _).alloc (Nat.le_refl _) _
  have HX2 : Hid (Bk w2 w1.heap.size 44 #[.string ⟨#[]⟩, .int .i64 0, .int .i64 0, .int .i64 0, .bool false, .int .i64 4]) := by rw [← hw2]; exact Bk.new _ _ _
  have HB2 : Hid (Below w.heap.size w w2) := HB1.out.trans (hb2.mono HB1.out.size)
  have HE2 : Hid (Bk w2 w.heap.size 30 lvE) := HE1.out.below hb2 HE1.out.lt
  have HK2 : Hid (Bk w2 (w.heap.size + 1) 24 (pgc true ⟨#[]⟩ ⟨#[]⟩ 0 (some ⟨w.heap.size, 0, none⟩) 1 1)) := HK1.out.below hb2 HK1.out.lt
  have HD2 : Hid (Bk w2 (w.heap.size + 1 + 1) 32 lvD) := HD1.out.below hb2 HD1.out.lt
  clear hb2 HB1 HK1 HE1 HD1
  have a0 : w2.cell? ⟨w.heap.size + 1, 0, none⟩ = some (.bool true) := HK2.out.cell 0
  have a1 : w2.cell? ⟨w.heap.size + 1, 1, none⟩ = some (.string ⟨#[]⟩) := HK2.out.cell 1
  have a2 : w2.cell? ⟨w.heap.size + 1, 2, none⟩ = some (.string ⟨#[]⟩) := HK2.out.cell 2
  have a3 : w2.cell? ⟨w.heap.size + 1, 3, none⟩ = some (.int .i64 0) := HK2.out.cell 3
  have a4 : w2.cell? ⟨w.heap.size + 1, 4, none⟩ = some (.slice (some ⟨w.heap.size, 0, none⟩) 1 1) := HK2.out.cell 4
  go_wp2_with fail
  refine (look_any true ⟨#[]⟩ ⟨#[]⟩ 0 (some ⟨w.heap.size, 0, none⟩) 1 1 [⟨⟨#[97]⟩, 0, 0, 0⟩] ⟨#[97]⟩ (some ⟨w.heap.size + 1 + 1, 0, none⟩) 2 2 lvL [] _ rfl (lv_ens HE2.out) (by decide) rfl (by decide) (lv_des HD2.out) (fun _ h => ?_)).mono ?_
  · exfalso
    rcases h with h | h
    · rw [show (List.map (·.d) lvL).reverse = [lvP, lvS] from rfl, lv_outl] at h
      cases h
    · rw [lv_pgmay] at h; cases h
  rw [show List.map (·.d) lvL = [lvS, lvP] from rfl, lv_looka]
  rintro e w3 ⟨he, hb3⟩
  simp only [spv] at he
  subst he
  have HB3 : Hid (Below w.heap.size w w3) := HB2.out.trans (hb3.mono HB2.out.size)
  have HX3 : Hid (Bk w3 w1.heap.size 44 #[.string ⟨#[]⟩, .int .i64 0, .int .i64 0, .int .i64 0, .bool false, .int .i64 4]) := HX2.out.below hb3 HX2.out.lt
  clear hb3 a0 a1 a2 a3 a4 HE2 HK2 HB2 HD2 HX2
  have hb4 : Below w3.heap.size w3 (w3.alloc (.cells #[.string ⟨#[97]⟩, .int .i64 0, .int .i64 0, .int .i64 0, .bool true, .int .i64 0] 44)) := (Below.refl _ _).alloc (Nat.le_refl _) _
  have HY4 : Hid (Bk (w3.alloc (.cells #[.string ⟨#[97]⟩, .int .i64 0, .int .i64 0, .int .i64 0, .bool true, .int .i64 0] 44)) w3.heap.size 44 #[.string ⟨#[97]⟩, .int .i64 0, .int .i64 0, .int .i64 0, .bool true, .int .i64 0]) := Bk.new _ _ _
  have HX4 : Hid (Bk (w3.alloc (.cells #[.string ⟨#[97]⟩, .int .i64 0, .int .i64 0, .int .i64 0, .bool true, .int .i64 0] 44)) w1.heap.size 44 #[.string ⟨#[]⟩, .int .i64 0, .int .i64 0, .int .i64 0, .bool false, .int .i64 4]) := HX3.out.below hb4 HX3.out.lt
  have HB4 : Hid (Below w.heap.size w (w3.alloc (.cells #[.string ⟨#[97]⟩, .int .i64 0, .int .i64 0, .int .i64 0, .bool true, .int .i64 0] 44))) := HB3.out.trans (hb4.mono HB3.out.size)
  clear hb4 HB3 HX3
  have x1 : (w3.alloc (.cells #[.string ⟨#[97]⟩, .int .i64 0, .int .i64 0, .int .i64 0, .bool true, .int .i64 0] 44)).cell? ⟨w1.heap.size, 4, none⟩ = some (.bool false) := HX4.out.cell 4
  have x2 : (w3.alloc (.cells #[.string ⟨#[97]⟩, .int .i64 0, .int .i64 0, .int .i64 0, .bool true, .int .i64 0] 44)).cell? ⟨w1.heap.size, 5, none⟩ = some (.int .i64 4) := HX4.out.cell 5
  have y0 : (w3.alloc (.cells #[.string ⟨#[97]⟩, .int .i64 0, .int .i64 0, .int .i64 0, .bool true, .int .i64 0] 44)).cell? ⟨w3.heap.size, 0, none⟩ = some (.string ⟨#[97]⟩) := HY4.out.cell 0
  have y1 : (w3.alloc (.cells #[.string ⟨#[97]⟩, .int .i64 0, .int .i64 0, .int .i64 0, .bool true, .int .i64 0] 44)).cell? ⟨w3.heap.size, 4, none⟩ = some (.bool true) := HY4.out.cell 4
  go_wp2
  go_ret
  exact ⟨rfl, HB4.out⟩

end Go.Proofs.YthpilennljpamaaGreat

namespace Go.Proofs.YthpilennljpamaaGreat
open Go.RowKit
set_option linter.unusedVariables false
set_option maxRecDepth 100000

theorem cells_at {w : World} {b : Nat} {T : TypeId} {cs : List Value} (hk : Bk w b T cs.toArray) {i : Nat} {v : Value} (h : cs[i]? = some v) : w.cell? ⟨b, i, none⟩ = some v := by
  have hk' : w.heap[b]? = some (.cells cs.toArray T) := hk
  simp [World.cell?, hk', h]

theorem des_two {w : World} {b : Nat} {T : TypeId} {m n : Dm} (hk : Bk w b T (m.cells ++ n.cells).toArray) (hm : m.Ok w) (hn : n.Ok w) : Des w (some ⟨b, 0, none⟩) [m, n] := by
  intro _
  refine ⟨b, 0, rfl, fun i x hi => ?_⟩
  have hl : m.cells.length = 12 := rfl
  match i, hi with
  | 0, hi =>
    simp at hi; subst hi
    refine ⟨fun t v ht => ?_, hm⟩
    have ht2 := (List.getElem?_eq_some_iff.1 ht).1
    rw [show 0 + 0 * 12 + t = t by omega]
    exact cells_at hk (by rw [List.getElem?_append_left ht2]; exact ht)
  | 1, hi =>
    simp at hi; subst hi
    refine ⟨fun t v ht => ?_, hn⟩
    rw [show 0 + 1 * 12 + t = 12 + t by omega]
    exact cells_at hk (by rw [List.getElem?_append_right (by omega), hl, Nat.add_sub_cancel_left]; exact ht)
  | n + 2, hi => simp at hi

theorem cat_list (a b : ByteArray) : (a ++ b).toList = a.toList ++ b.toList := by
  rw [ByteArray.toList_eq, ByteArray.toList_eq, ByteArray.toList_eq]
  simp

/-- A delta that came in. -/
structure InDk (M : Nat) (w : World) (d : De) (p : Option Addr) (n c : Nat) : Prop where
  right : InE M w p n c d.rt.l
  k1 : d.e.key.size ≤ 140737488351232
  k2 : d.key.size ≤ 140737488351232

section
variable {H : Type} {enc : TypeId × Value → H} {W : World} {fuel : Nat} {cs : List Value} {x : DataW H × List MemPlace}

theorem in_deltak {M : Nat} (hf : DataW.trod enc Tryz.prog W 0 (fun _ => true) true fuel 32 cs = some x)
    (hW : ∀ n ∈ x.1.weights Tryz.prog 32, n ≤ 140737488351232) (hB : ∀ y0 y1 y2 y3 z0 z1 z2 z3 elems spare, x.1 = .agg [y0, y1, y2, y3, .agg [z0, z1, z2, z3, .slice elems spare]] → elems.length + spare.length ≤ M ∧ ∀ y ∈ elems, ∀ k r, y = .agg (.lit (.string k) :: r) → k.length ≤ 140737488351232) :
    ∃ (d : De) (a : Option Addr) (len cap : Nat), cs = [.int .i64 d.k, .string d.e.key, .int .i64 d.e.s, .int .i64 d.e.g, .int .i64 d.e.c, .string d.key, .int .i64 d.pg, .bool d.rt.leaf, .string d.rt.lo, .string d.rt.hi, .int .i64 d.rt.r, .slice a len cap] ∧ InDk M W d a len cap := by
  obtain ⟨ys, n, -, rfl, hlen, hys, hall⟩ := DataW.trod_struct Tryz.underlying32 hf
  have eT : Tryz.prog.cellsOf 32 = 12 := by kernel_rfl
  rw [eT] at hlen
  obtain ⟨c0, c1, c2, c3, c4, c5, c6, c7, c8, c9, c10, c11, rfl⟩ := list12 hlen
  obtain ⟨y0, y1, y2, y3, y4, rfl⟩ := list5 (l := ys) hys
  have h0 : DataW.trod enc Tryz.prog W 0 (fun _ => true) true n 3 [c0] = some y0 := by
    have h : DataW.trod enc Tryz.prog W 0 (fun _ => true) true n 3 (List.take (Tryz.prog.cellsOf 3) (List.drop 0 [c0, c1, c2, c3, c4, c5, c6, c7, c8, c9, c10, c11])) = some y0 := hall 0 _ rfl
    rw [show Tryz.prog.cellsOf 3 = 1 by kernel_rfl] at h
    exact h
  have h1 : DataW.trod enc Tryz.prog W 0 (fun _ => true) true n 30 [c1, c2, c3, c4] = some y1 := by
    have h : DataW.trod enc Tryz.prog W 0 (fun _ => true) true n 30 (List.take (Tryz.prog.cellsOf 30) (List.drop 1 [c0, c1, c2, c3, c4, c5, c6, c7, c8, c9, c10, c11])) = some y1 := hall 1 _ rfl
    rw [show Tryz.prog.cellsOf 30 = 4 by kernel_rfl] at h
    exact h
  have h2 : DataW.trod enc Tryz.prog W 0 (fun _ => true) true n 9 [c5] = some y2 := by
    have h : DataW.trod enc Tryz.prog W 0 (fun _ => true) true n 9 (List.take (Tryz.prog.cellsOf 9) (List.drop 5 [c0, c1, c2, c3, c4, c5, c6, c7, c8, c9, c10, c11])) = some y2 := hall 2 _ rfl
    rw [show Tryz.prog.cellsOf 9 = 1 by kernel_rfl] at h
    exact h
  have h3 : DataW.trod enc Tryz.prog W 0 (fun _ => true) true n 3 [c6] = some y3 := by
    have h : DataW.trod enc Tryz.prog W 0 (fun _ => true) true n 3 (List.take (Tryz.prog.cellsOf 3) (List.drop 6 [c0, c1, c2, c3, c4, c5, c6, c7, c8, c9, c10, c11])) = some y3 := hall 3 _ rfl
    rw [show Tryz.prog.cellsOf 3 = 1 by kernel_rfl] at h
    exact h
  have h4 : DataW.trod enc Tryz.prog W 0 (fun _ => true) true n 24 [c7, c8, c9, c10, c11] = some y4 := by
    have h : DataW.trod enc Tryz.prog W 0 (fun _ => true) true n 24 (List.take (Tryz.prog.cellsOf 24) (List.drop 7 [c0, c1, c2, c3, c4, c5, c6, c7, c8, c9, c10, c11])) = some y4 := hall 4 _ rfl
    rw [show Tryz.prog.cellsOf 24 = 5 by kernel_rfl] at h
    exact h
  obtain ⟨v0, q0, _, _⟩ := DataW.trod_int Tryz.underlying3 h0
  obtain ⟨e, q1, re, hre⟩ := in_en h1
  obtain ⟨v2, q2, hv2, _⟩ := DataW.trod_string Tryz.underlying9 h2
  obtain ⟨v3, q3, _, _⟩ := DataW.trod_int Tryz.underlying3 h3
  obtain ⟨leaf, lo, hi, r, a, len, cap, l, q4, hl⟩ := in_page (M := M) h4 (fun z0 z1 z2 z3 elems spare he => hB y0.1 y1.1 y2.1 y3.1 z0 z1 z2 z3 elems spare (by simp [he]))
  have hin1 : e.key.data.toList.length ∈ DataW.weights Tryz.prog 30 y1.1 := by
    rw [hre, DataW.weights, Tryz.underlying30]
    simp [DataW.weightsEach, DataW.weights]
  have hin2 : v2.data.toList.length ∈ DataW.weights Tryz.prog 9 y2.1 := by
    rw [hv2]
    simp [DataW.weights]
  have hk1 : e.key.size ≤ 140737488351232 := by
    have := hW e.key.data.toList.length (by
      simp only [List.map_cons]
      rw [DataW.weights, Tryz.underlying32]
      simp only [DataW.weightsEach, List.map_cons, List.map_nil, List.mem_append]
      exact .inr (.inl hin1))
    simpa using this
  have hk2 : v2.size ≤ 140737488351232 := by
    have := hW v2.data.toList.length (by
      simp only [List.map_cons]
      rw [DataW.weights, Tryz.underlying32]
      simp only [DataW.weightsEach, List.map_cons, List.map_nil, List.mem_append]
      exact .inr (.inr (.inl hin2)))
    simpa using this
  simp only [List.cons.injEq, and_true] at q0 q1 q2 q3 q4
  obtain ⟨rfl, rfl, rfl, rfl, rfl⟩ := q4
  simp only [En.cells, List.cons.injEq, and_true] at q1
  obtain ⟨rfl, rfl, rfl, rfl⟩ := q1
  subst q0 q2 q3
  exact ⟨⟨v0, e, v2, v3, ⟨leaf, lo, hi, r, l⟩⟩, a, len, cap, rfl, ⟨hl, hk1, hk2⟩⟩

end
end Go.Proofs.YthpilennljpamaaGreat

namespace Go.Proofs.YthpilennljpamaaGreat
open Go.ChangeShapes Go.WideShapes Go.ChangeAt Go.RowKit Go.Sort
open Go.ChangeMaps (open_string shut_string)
set_option linter.unusedVariables false
set_option linter.unusedSimpArgs false
set_option maxRecDepth 100000

set_option maxHeartbeats 16000000 in
theorem walk_deltaOwn (pf : Bool) (plo phi : ByteArray) (pr : Int) (pp : Option Addr) (pn pc : Nat) (pl : List En) (lp : Option Addr) (ln lc : Nat) (L : List Dm) (w : World) (hp : InE 1048576 w pp pn pc pl) (hl : InDs w lp ln lc L) :
    Calls Tryz.prog 3 #[.agg #[.bool pf, .string plo, .string phi, .int .i64 pr, .slice pp pn pc], .slice lp ln lc] w fun e w' => e = .returned (.bool true) ∧ Below w.heap.size w w' := by
  have HP : Hid (InE 1048576 w pp pn pc pl) := hp
  have HL : Hid (InDs w lp ln lc L) := hl
  have hln : ln ≤ 1048576 := hl.room
  have hpn : pn ≤ 1048576 := hp.room
  clear hp hl
  have HCL : Hid (∀ W, Below w.heap.size w W → Calls Tryz.prog 9 #[pgv pf plo phi pr pp pn pc] W fun e w' => ∃ p' cap', e = .returned (pgv pf plo phi pr p' pn cap') ∧ OwnE w' W.heap.size (.slice p' pn cap') pl ∧ Below W.heap.size W w') := fun W h => rclone_any pf plo phi pr pp pn pc pl W HP.out.lenq (HP.out.ens.below h (Nat.le_refl _)) (by omega) HP.out.nil
  have HFO : Hid (∀ W, Below w.heap.size w W → Calls Tryz.prog 11 #[pgv pf plo phi pr pp pn pc, .slice lp ln lc] W fun e w' => ∃ (of : Bool) (olo ohi : ByteArray) (or : Int) (op : Option Addr) (on oc : Nat) (ol : List En) (er : Int), e = .returned (.tuple #[pgv of olo ohi or op on oc, .int .i64 er]) ∧ Seg w' W.heap.size op on oc ol ∧ Below W.heap.size W w' ∧ on ≤ 4611686018427387904) := by
    intro W h
    have hdd : ∀ d ∈ (L.map (·.d)).reverse, d.rt.l.length ≤ 1048576 := by
      intro d hd
      simp only [List.mem_reverse, List.mem_map] at hd
      obtain ⟨m, hm, rfl⟩ := hd
      obtain ⟨i, hi⟩ := List.getElem?_of_mem hm
      have hpos : 0 < L.length := List.length_pos_of_mem hm
      obtain ⟨b, o, -, hc⟩ := HL.out.des hpos
      rw [(hc i m hi).2.len]
      exact HL.out.each m hm
    have hfl := fo_len (g := ⟨pf, plo, phi, pr, pl⟩) (ds := (L.map (·.d)).reverse) (by rw [HP.out.lenq]; exact hpn) (by simp [HL.out.lenq]; exact hln) hdd
    refine (fold_any pf plo phi pr pp pn pc pl lp ln lc L W HP.out.lenq (HP.out.ens.below h (Nat.le_refl _)) (fun h => (HP.out.nil h).1) HL.out.lenq (by omega) (HL.out.des.below h (Nat.le_refl _)) (fun _ => fit_small (by rw [HP.out.lenq]; exact hpn) (by simp [HL.out.lenq]; exact hln) hdd)).mono ?_
    rintro e w' ⟨v, rfl, ⟨p, cap, rfl, hs⟩, hb⟩
    exact ⟨_, _, _, _, p, _, cap, _, _, rfl, hs, hb, hfl⟩
  have HSM : Hid (∀ W (q : Option Addr) (c : Nat), Below w.heap.size w W → Ens W q pl → Calls Tryz.prog 16 #[pgv pf plo phi pr pp pn pc, pgv pf plo phi pr q pn c] W fun r w' => r = .returned (.bool true) ∧ Below W.heap.size W w') := by
    intro W q c h hq
    have := rsame_any ⟨pf, plo, phi, pr, pl⟩ ⟨pf, plo, phi, pr, pl⟩ pp q pn pn pc c W HP.out.lenq HP.out.lenq (HP.out.ens.below h (Nat.le_refl _)) hq (by omega)
    rw [Pg.same_self] at this
    exact this
  obtain ⟨w0, hw0⟩ : ∃ w0, w.alloc (.cells #[.bool pf, .string plo, .string phi, .int .i64 pr, .slice pp pn pc] 24) = w0 := ⟨_, rfl⟩
  have HB0 : Hid (Below w.heap.size w w0) := by rw [← hw0]; exact (Below.refl _ _).alloc (Nat.le_refl _) _
  have HP0 : Hid (Bk w0 w.heap.size 24 #[.bool pf, .string plo, .string phi, .int .i64 pr, .slice pp pn pc]) := by rw [← hw0]; exact Bk.new _ _ _
  have a0 : w0.cell? ⟨w.heap.size, 0, none⟩ = some (.bool pf) := HP0.out.cell 0
  have a1 : w0.cell? ⟨w.heap.size, 1, none⟩ = some (.string plo) := HP0.out.cell 1
  have a2 : w0.cell? ⟨w.heap.size, 2, none⟩ = some (.string phi) := HP0.out.cell 2
  have a3 : w0.cell? ⟨w.heap.size, 3, none⟩ = some (.int .i64 pr) := HP0.out.cell 3
  have a4 : w0.cell? ⟨w.heap.size, 4, none⟩ = some (.slice pp pn pc) := HP0.out.cell 4
  go_enter Tryz.func3, Tryz.ntmps3
  go_wp2_with fail
  refine Calls.mono (HCL.out _ HB0.out) ?_
  rintro e wa ⟨c1p, c1c, rfl, hoa, hba⟩
  clear hw0 a0 a1 a2 a3 a4
  obtain ⟨w1, hw1⟩ : ∃ w1, wa.alloc (.cells #[.bool pf, .string plo, .string phi, .int .i64 pr, .slice c1p pn c1c] 24) = w1 := ⟨_, rfl⟩
  have hb1 : Below wa.heap.size wa w1 := by rw [← hw1]; exact (Below.refl _ _).alloc (Nat.le_refl _) _
  have HB1 : Hid (Below w.heap.size w w1) := by
    have h1 := HB0.out.trans (hba.mono HB0.out.size)
    exact h1.trans (hb1.mono h1.size)
  have HP1 : Hid (Bk w1 w.heap.size 24 #[.bool pf, .string plo, .string phi, .int .i64 pr, .slice pp pn pc]) := (HP0.out.below hba HP0.out.lt).below hb1 (HP0.out.below hba HP0.out.lt).lt
  obtain ⟨X5, hX5⟩ : ∃ X5, wa.heap.size = X5 := ⟨_, rfl⟩
  have HW1 : Hid (Bk w1 X5 24 #[.bool pf, .string plo, .string phi, .int .i64 pr, .slice c1p pn c1c]) := by rw [← hw1, ← hX5]; exact Bk.new _ _ _
  have HC1 : Hid (Ens w1 c1p pl) := hoa.seg.ens.below hb1 (Nat.le_refl _)
  clear hoa hba hb1 HB0 HP0
  go_wp2_with fail
  try rw [hX5]
  clear hw1 hX5
  go_loopw [6, 23] (fun ov iv wr => ∃ (j : Nat) (L' : List Dm), j ≤ ln ∧ iv = .int .i64 (j : Int) ∧ Hid (Old w1 wr ov j L L')) (fun _ iv _ => ln - (intOf iv).toNat)
  case atStart => exact ⟨0, [], Nat.zero_le _, rfl, Old.start _ _⟩
  case round =>
    obtain ⟨j, L', hj, rfl, HO⟩ := hrel
    obtain ⟨ovp, ovc, rfl, -⟩ := row_form HO.out.row
    have HBR : Hid (Below w.heap.size w wr) := HB1.out.trans (HO.out.bel.mono HB1.out.size)
    by_cases hlt : j < ln
    · have hli : (j : Int) < (ln : Int) := by omega
      have hj0 : (0 : Int) ≤ (j : Int) := by omega
      obtain ⟨m, hm⟩ : ∃ m, L[j]? = some m := ⟨_, List.getElem?_eq_getElem (by rw [HL.out.lenq]; exact hlt)⟩
      obtain ⟨b, o, hlp, hc⟩ := (HL.out.des.below HBR.out (Nat.le_refl _)) (by rw [HL.out.lenq]; omega)
      obtain ⟨hcm, hok⟩ := hc j m hm
      have HME : Hid (m.n ≤ 1048576) := HL.out.each m (List.mem_of_getElem? hm)
      obtain ⟨⟨dk, ⟨dek, des, deg, dec⟩, dkey, dpg, ⟨dleaf, dlo, dhi, dr, dl⟩⟩, dp, dn, dc⟩ := m
      have HOK : Hid (Dm.Ok wr ⟨⟨dk, ⟨dek, des, deg, dec⟩, dkey, dpg, ⟨dleaf, dlo, dhi, dr, dl⟩⟩, dp, dn, dc⟩) := hok
      have HM : Hid (L[j]? = some ⟨⟨dk, ⟨dek, des, deg, dec⟩, dkey, dpg, ⟨dleaf, dlo, dhi, dr, dl⟩⟩, dp, dn, dc⟩) := hm
      subst hlp
      have c0 : wr.cell? ⟨b, o + j * 12, none⟩ = some (.int .i64 dk) := hcm 0 _ rfl
      have c1 : wr.cell? ⟨b, o + j * 12 + 1, none⟩ = some (.string dek) := hcm 1 _ rfl
      have c2 : wr.cell? ⟨b, o + j * 12 + 2, none⟩ = some (.int .i64 des) := hcm 2 _ rfl
      have c3 : wr.cell? ⟨b, o + j * 12 + 3, none⟩ = some (.int .i64 deg) := hcm 3 _ rfl
      have c4 : wr.cell? ⟨b, o + j * 12 + 4, none⟩ = some (.int .i64 dec) := hcm 4 _ rfl
      have c5 : wr.cell? ⟨b, o + j * 12 + 5, none⟩ = some (.string dkey) := hcm 5 _ rfl
      have c6 : wr.cell? ⟨b, o + j * 12 + 6, none⟩ = some (.int .i64 dpg) := hcm 6 _ rfl
      have c7 : wr.cell? ⟨b, o + j * 12 + 7, none⟩ = some (.bool dleaf) := hcm 7 _ rfl
      have c8 : wr.cell? ⟨b, o + j * 12 + 8, none⟩ = some (.string dlo) := hcm 8 _ rfl
      have c9 : wr.cell? ⟨b, o + j * 12 + 9, none⟩ = some (.string dhi) := hcm 9 _ rfl
      have c10 : wr.cell? ⟨b, o + j * 12 + 10, none⟩ = some (.int .i64 dr) := hcm 10 _ rfl
      have c11 : wr.cell? ⟨b, o + j * 12 + 11, none⟩ = some (.slice dp dn dc) := hcm 11 _ rfl
      obtain ⟨wo, hwo⟩ : ∃ wo, wr.alloc (.cells #[.int .i64 dk, .string dek, .int .i64 des, .int .i64 deg, .int .i64 dec, .string dkey, .int .i64 dpg, .bool dleaf, .string dlo, .string dhi, .int .i64 dr, .slice dp dn dc] 32) = wo := ⟨_, rfl⟩
      have HBO : Hid (Below wr.heap.size wr wo) := by rw [← hwo]; exact (Below.refl _ _).alloc (Nat.le_refl _) _
      have hko : Bk wo wr.heap.size 32 #[.int .i64 dk, .string dek, .int .i64 des, .int .i64 deg, .int .i64 dec, .string dkey, .int .i64 dpg, .bool dleaf, .string dlo, .string dhi, .int .i64 dr, .slice dp dn dc] := by rw [← hwo]; exact Bk.new _ _ _
      have e0 : wo.cell? ⟨wr.heap.size, 0, none⟩ = some (.int .i64 dk) := hko.cell 0
      have e1 : wo.cell? ⟨wr.heap.size, 1, none⟩ = some (.string dek) := hko.cell 1
      have e2 : wo.cell? ⟨wr.heap.size, 2, none⟩ = some (.int .i64 des) := hko.cell 2
      have e3 : wo.cell? ⟨wr.heap.size, 3, none⟩ = some (.int .i64 deg) := hko.cell 3
      have e4 : wo.cell? ⟨wr.heap.size, 4, none⟩ = some (.int .i64 dec) := hko.cell 4
      have e5 : wo.cell? ⟨wr.heap.size, 5, none⟩ = some (.string dkey) := hko.cell 5
      have e6 : wo.cell? ⟨wr.heap.size, 6, none⟩ = some (.int .i64 dpg) := hko.cell 6
      have e7 : wo.cell? ⟨wr.heap.size, 7, none⟩ = some (.bool dleaf) := hko.cell 7
      have e8 : wo.cell? ⟨wr.heap.size, 8, none⟩ = some (.string dlo) := hko.cell 8
      have e9 : wo.cell? ⟨wr.heap.size, 9, none⟩ = some (.string dhi) := hko.cell 9
      have e10 : wo.cell? ⟨wr.heap.size, 10, none⟩ = some (.int .i64 dr) := hko.cell 10
      have e11 : wo.cell? ⟨wr.heap.size, 11, none⟩ = some (.slice dp dn dc) := hko.cell 11
      have HRD : Hid (Calls Tryz.prog 10 #[dlv dk ⟨dek, des, deg, dec⟩ dkey dpg dleaf dlo dhi dr dp dn dc] wo fun r w' => ∃ q qc, r = .returned (dlv dk ⟨dek, des, deg, dec⟩ dkey dpg dleaf dlo dhi dr q dn qc) ∧ OwnE w' wo.heap.size (.slice q dn qc) dl ∧ Below wo.heap.size wo w') := rdclone_any ⟨dk, ⟨dek, des, deg, dec⟩, dkey, dpg, ⟨dleaf, dlo, dhi, dr, dl⟩⟩ dp dn dc wo HOK.out.len (HOK.out.ens.below HBO.out (Nat.le_refl _)) (by have h9 : dn ≤ 1048576 := HME.out; omega) HOK.out.nil
      clear hko hcm hok hm hc
      go_wp2_with fail
      refine Calls.mono HRD.out ?_
      rintro e wc ⟨q, qc, rfl, hoc, hbc⟩
      have HWC : Hid (Below wr.heap.size wr wc) := HBO.out.trans (hbc.mono HBO.out.size)
      have HOC : Hid (OwnE wc wo.heap.size (.slice q dn qc) dl) := hoc
      have hszo : w1.heap.size ≤ wo.heap.size := Nat.le_trans HO.out.bel.size HBO.out.size
      have HSO : Hid (w1.heap.size ≤ wo.heap.size) := hszo
      have HR : Hid ((wc.alloc (.cells #[.int .i64 dk, .string dek, .int .i64 des, .int .i64 deg, .int .i64 dec, .string dkey, .int .i64 dpg, .bool dleaf, .string dlo, .string dhi, .int .i64 dr, .slice q dn qc] 32)).ownsRow w1.heap.size 32 12 (.slice ovp j ovc) j (dms L')) := by
        refine World.ownsRow.alloc ?_ _
        exact owns_tn HO.out.row (Tn.of_below HWC.out []) (by simp)
      have HSZ : Hid (w1.heap.size ≤ (wc.alloc (.cells #[.int .i64 dk, .string dek, .int .i64 des, .int .i64 deg, .int .i64 dec, .string dkey, .int .i64 dpg, .bool dleaf, .string dlo, .string dhi, .int .i64 dr, .slice q dn qc] 32)).heap.size) := by
        have h1 := HO.out.bel.size
        have h2 := HWC.out.size
        show _ ≤ _
        simp
        omega
      obtain ⟨i0, hi0, hz0, hz1, hz2⟩ := info_parts dlinfo
      clear hoc hbc hwo HRD hszo c0 c1 c2 c3 c4 c5 c6 c7 c8 c9 c10 c11 e0 e1 e2 e3 e4 e5 e6 e7 e8 e9 e10 e11
      go_wp2_with (at_builtin; refine wpList_append_own_at _ rfl _ _ _ rfl w1.heap.size 32 i0 _ 12 144 Tryz.underlying25 hi0 hz0 hz1 hz2 rfl (by decide) (.slice ovp j ovc) j (dms L') rfl HR.out ⟨wc.heap.size, 0, none⟩ 1 1 (⟨⟨dk, ⟨dek, des, deg, dec⟩, dkey, dpg, ⟨dleaf, dlo, dhi, dr, dl⟩⟩, q, dn, qc⟩ : Dm).cells rfl rfl (news_alloc wc (⟨⟨dk, ⟨dek, des, deg, dec⟩, dkey, dpg, ⟨dleaf, dlo, dhi, dr, dl⟩⟩, q, dn, qc⟩ : Dm).cells 32 _ rfl) (dm_one _) (by unfold maxLen; omega) (by omega) HSZ.out ?_)
      intro v2 w2 o2 t2 b0 b2
      obtain ⟨p2, k2, hv2, -⟩ := row_form o2
      subst hv2
      have HN : Hid (Old w1 w2 (.slice p2 (j + 1) k2) (j + 1) L (L' ++ [⟨⟨dk, ⟨dek, des, deg, dec⟩, dkey, dpg, ⟨dleaf, dlo, dhi, dr, dl⟩⟩, q, dn, qc⟩])) := HO.out.next HM.out HWC.out HSO.out HOK.out.len HOC.out o2 t2
      clear o2 t2 b0 b2 HO HR HSZ hi0 hz0 hz1 hz2
      go_wp2
      go_roundw
      case rel => exact ⟨j + 1, _, by omega, by go_num, HN⟩
      case measure => simp [intOf]; omega
    · have hjn : j = ln := by omega
      subst hjn
      have hli : ¬ (j : Int) < (j : Int) := by omega
      obtain ⟨w2, hw2⟩ : ∃ w2, w2 = wr := ⟨_, rfl⟩
      have HO2 : Hid (Old w1 w2 (.slice ovp j ovc) j L L') := by rw [hw2]; exact HO
      have HB2 : Hid (Below w.heap.size w w2) := by rw [hw2]; exact HBR.out
      have HP2 : Hid (Bk w2 w.heap.size 24 #[.bool pf, .string plo, .string phi, .int .i64 pr, .slice pp pn pc]) := by rw [hw2]; exact HP1.out.below HO.out.bel HP1.out.lt
      have HW2 : Hid (Bk w2 X5 24 #[.bool pf, .string plo, .string phi, .int .i64 pr, .slice c1p pn c1c]) := by rw [hw2]; exact HW1.out.below HO.out.bel HW1.out.lt
      have HC2 : Hid (Ens w2 c1p pl) := by rw [hw2]; exact HC1.out.below HO.out.bel (Nat.le_refl _)
      rw [← hw2]
      clear HO HBR HP1 HW1 HC1 hw2 HB1
      have a0 : w2.cell? ⟨w.heap.size, 0, none⟩ = some (.bool pf) := HP2.out.cell 0
      have a1 : w2.cell? ⟨w.heap.size, 1, none⟩ = some (.string plo) := HP2.out.cell 1
      have a2 : w2.cell? ⟨w.heap.size, 2, none⟩ = some (.string phi) := HP2.out.cell 2
      have a3 : w2.cell? ⟨w.heap.size, 3, none⟩ = some (.int .i64 pr) := HP2.out.cell 3
      have a4 : w2.cell? ⟨w.heap.size, 4, none⟩ = some (.slice pp pn pc) := HP2.out.cell 4
      go_wp2_with fail
      refine Calls.mono (HFO.out _ HB2.out) ?_
      rintro e wf ⟨of, olo, ohi, or, op, on, oc, ol, er, rfl, hsf, hbf, hon⟩
      obtain ⟨w3, hw3⟩ : ∃ w3, wf.alloc (.cells #[.bool of, .string olo, .string ohi, .int .i64 or, .slice op on oc] 24) = w3 := ⟨_, rfl⟩
      have hb3 : Below wf.heap.size wf w3 := by rw [← hw3]; exact (Below.refl _ _).alloc (Nat.le_refl _) _
      obtain ⟨X9, hX9⟩ : ∃ X9, wf.heap.size = X9 := ⟨_, rfl⟩
      have HBX : Hid (Bk w3 X9 24 #[.bool of, .string olo, .string ohi, .int .i64 or, .slice op on oc]) := by rw [← hw3, ← hX9]; exact Bk.new _ _ _
      have HSP : Hid (SpE w2.heap.size X9 op on oc w3) := (hsf.sp (Nat.le_refl _) (by omega)).up hb3
      have HB3 : Hid (Below w2.heap.size w2 w3) := hbf.trans (hb3.mono hbf.size)
      have q4 : w3.cell? ⟨X9, 4, none⟩ = some (.slice op on oc) := HBX.out.cell 4
      clear hsf hbf hb3 a0 a1 a2 a3 a4
      go_wp2_with fail
      try rw [hX9]
      clear hw3 hX9 q4
      go_loopw [42] (fun iv wi => ∃ i : Nat, i ≤ on ∧ iv = .int .i64 i ∧ Hid (Wq w2.heap.size X9 w3 wi)) (fun iv _ => on - (intOf iv).toNat)
      case atStart => exact ⟨0, Nat.zero_le _, rfl, Wq.refl _ _ _⟩
      case round =>
        obtain ⟨i, hi, rfl, HV⟩ := hrel
        have g4 : wr.cell? ⟨X9, 4, none⟩ = some (.slice op on oc) := (HV.out.bk HBX.out (Nat.le_refl _)).cell 4
        by_cases hit : i < on
        · have hii : (i : Int) < (on : Int) := by omega
          have hi0 : (0 : Int) ≤ (i : Int) := by omega
          obtain ⟨g, o, u, rfl, cu, fu, hset⟩ := (HSP.out.wq HV.out).at hit
          have HSET : Hid (∀ x, Wq w2.heap.size X9 w3 (wr.setCell ⟨g, o + i * 4, none⟩ x)) := fun x => HV.out.trans (hset x)
          clear hset
          go_wp2
          go_roundw
          case rel => exact ⟨i + 1, by omega, by go_num, HSET.out _⟩
          case measure => simp [intOf]; omega
        · have hii : ¬ (i : Int) < (on : Int) := by omega
          clear g4
          obtain ⟨w4, hw4⟩ : ∃ w4, w4 = wr := ⟨_, rfl⟩
          have HB4 : Hid (Below w2.heap.size w2 w4) := by rw [hw4]; exact HB3.out.trans (HV.out.below HB3.out.size)
          rw [← hw4]
          clear HV HBX HSP hw4 HB3
          go_wp2_with fail
          go_loopw [53] (fun iv wr => ∃ k : Nat, k ≤ j ∧ iv = .int .i64 (k : Int) ∧ Hid (Below w2.heap.size w2 wr)) (fun iv _ => j - (intOf iv).toNat)
          case atStart => exact ⟨0, Nat.zero_le _, rfl, HB4⟩
          case round =>
            obtain ⟨k, hk, rfl, HBR⟩ := hrel
            clear HB4
            have HBW : Hid (Below w.heap.size w wr) := HB2.out.trans (HBR.out.mono HB2.out.size)
            by_cases hkt : k < j
            · have hki : (k : Int) < (j : Int) := by omega
              have hk0 : (0 : Int) ≤ (k : Int) := by omega
              obtain ⟨m, hm⟩ : ∃ m, L[k]? = some m := ⟨_, List.getElem?_eq_getElem (by rw [HL.out.lenq]; exact hkt)⟩
              obtain ⟨b, o, hlp, hc⟩ := HL.out.des (by rw [HL.out.lenq]; omega)
              have HME : Hid (m.n ≤ 1048576) := HL.out.each m (List.mem_of_getElem? hm)
              have hokw := (hc k m hm).2
              have hcells : ∀ W, Below w.heap.size w W → ∀ t v, m.cells[t]? = some v → W.cell? ⟨b, o + k * 12 + t, none⟩ = some v := fun W hW => by
                obtain ⟨b', o', hlp', hc'⟩ := (HL.out.des.below hW (Nat.le_refl _)) (by rw [HL.out.lenq]; omega)
                have e9 := hlp.symm.trans hlp'
                simp at e9
                obtain ⟨rfl, rfl⟩ := e9
                exact (hc' k m hm).1
              have hold := fun W (hW : Below w2.heap.size w2 W) => HO2.out.at hW hkt hm hokw.len
              obtain ⟨⟨dk, ⟨dek, des, deg, dec⟩, dkey, dpg, ⟨dleaf, dlo, dhi, dr, dl⟩⟩, dp, dn, dc⟩ := m
              have HOK : Hid (Dm.Ok w ⟨⟨dk, ⟨dek, des, deg, dec⟩, dkey, dpg, ⟨dleaf, dlo, dhi, dr, dl⟩⟩, dp, dn, dc⟩) := hokw
              have HCE : Hid (∀ W, Below w.heap.size w W → ∀ t v, (⟨⟨dk, ⟨dek, des, deg, dec⟩, dkey, dpg, ⟨dleaf, dlo, dhi, dr, dl⟩⟩, dp, dn, dc⟩ : Dm).cells[t]? = some v → W.cell? ⟨b, o + k * 12 + t, none⟩ = some v) := hcells
              have HOD : Hid (∀ W, Below w2.heap.size w2 W → ∃ G kk q qc, Value.slice ovp j ovc = .slice (some ⟨G, 0, none⟩) j kk ∧ (∀ t u, (⟨⟨dk, ⟨dek, des, deg, dec⟩, dkey, dpg, ⟨dleaf, dlo, dhi, dr, dl⟩⟩, q, dn, qc⟩ : Dm).cells[t]? = some u → W.cell? ⟨G, k * 12 + t, none⟩ = some u) ∧ Ens W q dl) := hold
              subst hlp
              clear hc hokw hcells hold hm
              have c0 : wr.cell? ⟨b, o + k * 12, none⟩ = some (.int .i64 dk) := HCE.out wr HBW.out 0 _ rfl
              have c1 : wr.cell? ⟨b, o + k * 12 + 1, none⟩ = some (.string dek) := HCE.out wr HBW.out 1 _ rfl
              have c2 : wr.cell? ⟨b, o + k * 12 + 2, none⟩ = some (.int .i64 des) := HCE.out wr HBW.out 2 _ rfl
              have c3 : wr.cell? ⟨b, o + k * 12 + 3, none⟩ = some (.int .i64 deg) := HCE.out wr HBW.out 3 _ rfl
              have c4 : wr.cell? ⟨b, o + k * 12 + 4, none⟩ = some (.int .i64 dec) := HCE.out wr HBW.out 4 _ rfl
              have c5 : wr.cell? ⟨b, o + k * 12 + 5, none⟩ = some (.string dkey) := HCE.out wr HBW.out 5 _ rfl
              have c6 : wr.cell? ⟨b, o + k * 12 + 6, none⟩ = some (.int .i64 dpg) := HCE.out wr HBW.out 6 _ rfl
              have c7 : wr.cell? ⟨b, o + k * 12 + 7, none⟩ = some (.bool dleaf) := HCE.out wr HBW.out 7 _ rfl
              have c8 : wr.cell? ⟨b, o + k * 12 + 8, none⟩ = some (.string dlo) := HCE.out wr HBW.out 8 _ rfl
              have c9 : wr.cell? ⟨b, o + k * 12 + 9, none⟩ = some (.string dhi) := HCE.out wr HBW.out 9 _ rfl
              have c10 : wr.cell? ⟨b, o + k * 12 + 10, none⟩ = some (.int .i64 dr) := HCE.out wr HBW.out 10 _ rfl
              have c11 : wr.cell? ⟨b, o + k * 12 + 11, none⟩ = some (.slice dp dn dc) := HCE.out wr HBW.out 11 _ rfl
              obtain ⟨wo, hwo⟩ : ∃ wo, wr.alloc (.cells #[.int .i64 dk, .string dek, .int .i64 des, .int .i64 deg, .int .i64 dec, .string dkey, .int .i64 dpg, .bool dleaf, .string dlo, .string dhi, .int .i64 dr, .slice dp dn dc] 32) = wo := ⟨_, rfl⟩
              have hbo : Below wr.heap.size wr wo := by rw [← hwo]; exact (Below.refl _ _).alloc (Nat.le_refl _) _
              obtain ⟨X13, hX13⟩ : ∃ X13, wr.heap.size = X13 := ⟨_, rfl⟩
              have hdn9 : dn ≤ 1048576 := HME.out
              have HKO : Hid (Bk wo X13 32 #[.int .i64 dk, .string dek, .int .i64 des, .int .i64 deg, .int .i64 dec, .string dkey, .int .i64 dpg, .bool dleaf, .string dlo, .string dhi, .int .i64 dr, .slice dp dn dc]) := by rw [← hwo, ← hX13]; exact Bk.new _ _ _
              have HBO : Hid (Below w2.heap.size w2 wo) := HBR.out.trans (hbo.mono HBR.out.size)
              have HBOW : Hid (Below w.heap.size w wo) := HB2.out.trans (HBO.out.mono HB2.out.size)
              have e0 : wo.cell? ⟨X13, 0, none⟩ = some (.int .i64 dk) := HKO.out.cell 0
              have e1 : wo.cell? ⟨X13, 1, none⟩ = some (.string dek) := HKO.out.cell 1
              have e2 : wo.cell? ⟨X13, 2, none⟩ = some (.int .i64 des) := HKO.out.cell 2
              have e3 : wo.cell? ⟨X13, 3, none⟩ = some (.int .i64 deg) := HKO.out.cell 3
              have e4 : wo.cell? ⟨X13, 4, none⟩ = some (.int .i64 dec) := HKO.out.cell 4
              have e5 : wo.cell? ⟨X13, 5, none⟩ = some (.string dkey) := HKO.out.cell 5
              have e6 : wo.cell? ⟨X13, 6, none⟩ = some (.int .i64 dpg) := HKO.out.cell 6
              have e7 : wo.cell? ⟨X13, 7, none⟩ = some (.bool dleaf) := HKO.out.cell 7
              have e8 : wo.cell? ⟨X13, 8, none⟩ = some (.string dlo) := HKO.out.cell 8
              have e9 : wo.cell? ⟨X13, 9, none⟩ = some (.string dhi) := HKO.out.cell 9
              have e10 : wo.cell? ⟨X13, 10, none⟩ = some (.int .i64 dr) := HKO.out.cell 10
              have e11 : wo.cell? ⟨X13, 11, none⟩ = some (.slice dp dn dc) := HKO.out.cell 11
              have HDC : Hid (Calls Tryz.prog 12 #[dlv dk ⟨dek, des, deg, dec⟩ dkey dpg dleaf dlo dhi dr dp dn dc] wo fun r w' => ∃ q qc, r = .returned (dlv dk ⟨dek, des, deg, dec⟩ dkey dpg dleaf dlo dhi dr q dn qc) ∧ OwnE w' wo.heap.size (.slice q dn qc) dl ∧ Below wo.heap.size wo w') := dclone_any ⟨dk, ⟨dek, des, deg, dec⟩, dkey, dpg, ⟨dleaf, dlo, dhi, dr, dl⟩⟩ dp dn dc wo HOK.out.len (HOK.out.ens.below HBOW.out (Nat.le_refl _)) (by have h9 : dn ≤ 1048576 := HME.out; omega) (fun h => (HOK.out.nil h).1)
              clear hbo
              go_wp2_with fail
              try rw [hX13]
              refine Calls.mono HDC.out ?_
              rintro e wc ⟨q, qc, rfl, hoc, hbc⟩
              clear hwo hX13 HDC c0 c1 c2 c3 c4 c5 c6 c7 c8 c9 c10 c11 e0 e1 e2 e3 e4 e5 e6 e7 e8 e9 e10 e11
              obtain ⟨w5, hw5⟩ : ∃ w5, wc.alloc (.cells #[.int .i64 dk, .string dek, .int .i64 des, .int .i64 deg, .int .i64 dec, .string dkey, .int .i64 dpg, .bool dleaf, .string dlo, .string dhi, .int .i64 dr, .slice q dn qc] 32) = w5 := ⟨_, rfl⟩
              have hb5 : Below wc.heap.size wc w5 := by rw [← hw5]; exact (Below.refl _ _).alloc (Nat.le_refl _) _
              obtain ⟨X14, hX14⟩ : ∃ X14, wc.heap.size = X14 := ⟨_, rfl⟩
              have HBX : Hid (Bk w5 X14 32 #[.int .i64 dk, .string dek, .int .i64 des, .int .i64 deg, .int .i64 dec, .string dkey, .int .i64 dpg, .bool dleaf, .string dlo, .string dhi, .int .i64 dr, .slice q dn qc]) := by rw [← hw5, ← hX14]; exact Bk.new _ _ _
              have HSP : Hid (SpE wo.heap.size X14 q dn qc w5) := (hoc.seg.sp (Nat.le_refl _) (by omega)).up hb5
              have HB5 : Hid (Below wo.heap.size wo w5) := hbc.trans (hb5.mono hbc.size)
              have q11 : w5.cell? ⟨X14, 11, none⟩ = some (.slice q dn qc) := HBX.out.cell 11
              clear hoc hbc hb5
              go_wp2_with fail
              try rw [hX14]
              clear hw5 hX14 q11
              go_loopw [64] (fun iv wi => ∃ i : Nat, i ≤ dn ∧ iv = .int .i64 i ∧ Hid (Wq wo.heap.size X14 w5 wi)) (fun iv _ => dn - (intOf iv).toNat)
              case atStart => exact ⟨0, Nat.zero_le _, rfl, Wq.refl _ _ _⟩
              case round =>
                obtain ⟨i, hi, rfl, HV⟩ := hrel
                have g4 : wr.cell? ⟨X14, 11, none⟩ = some (.slice q dn qc) := (HV.out.bk HBX.out (Nat.le_refl _)).cell 11
                by_cases hit : i < dn
                · have hii : (i : Int) < (dn : Int) := by omega
                  have hi0 : (0 : Int) ≤ (i : Int) := by omega
                  obtain ⟨g, o, u, rfl, cu, fu, hset⟩ := (HSP.out.wq HV.out).at hit
                  have HSET : Hid (∀ x, Wq wo.heap.size X14 w5 (wr.setCell ⟨g, o + i * 4, none⟩ x)) := fun x => HV.out.trans (hset x)
                  clear hset
                  go_wp2
                  go_roundw
                  case rel => exact ⟨i + 1, by omega, by go_num, HSET.out _⟩
                  case measure => simp [intOf]; omega
                · have hii : ¬ (i : Int) < (dn : Int) := by omega
                  clear g4
                  obtain ⟨w6, hw6⟩ : ∃ w6, w6 = wr := ⟨_, rfl⟩
                  have HB6 : Hid (Below wo.heap.size wo w6) := by rw [hw6]; exact HB5.out.trans (HV.out.below HB5.out.size)
                  rw [← hw6]
                  clear HV HBX HSP hw6 HB5
                  have HB62 : Hid (Below w2.heap.size w2 w6) := HBO.out.trans (HB6.out.mono HBO.out.size)
                  have HB6W : Hid (Below w.heap.size w w6) := HB2.out.trans (HB62.out.mono HB2.out.size)
                  have HP6 : Hid (Bk w6 w.heap.size 24 #[.bool pf, .string plo, .string phi, .int .i64 pr, .slice pp pn pc]) := HP2.out.below HB62.out HP2.out.lt
                  have HK6 : Hid (Bk w6 X13 32 #[.int .i64 dk, .string dek, .int .i64 des, .int .i64 deg, .int .i64 dec, .string dkey, .int .i64 dpg, .bool dleaf, .string dlo, .string dhi, .int .i64 dr, .slice dp dn dc]) := HKO.out.below HB6.out HKO.out.lt
                  have a0 : w6.cell? ⟨w.heap.size, 0, none⟩ = some (.bool pf) := HP6.out.cell 0
                  have a1 : w6.cell? ⟨w.heap.size, 1, none⟩ = some (.string plo) := HP6.out.cell 1
                  have a2 : w6.cell? ⟨w.heap.size, 2, none⟩ = some (.string phi) := HP6.out.cell 2
                  have a3 : w6.cell? ⟨w.heap.size, 3, none⟩ = some (.int .i64 pr) := HP6.out.cell 3
                  have a4 : w6.cell? ⟨w.heap.size, 4, none⟩ = some (.slice pp pn pc) := HP6.out.cell 4
                  have e0 : w6.cell? ⟨X13, 0, none⟩ = some (.int .i64 dk) := HK6.out.cell 0
                  have e1 : w6.cell? ⟨X13, 1, none⟩ = some (.string dek) := HK6.out.cell 1
                  have e2 : w6.cell? ⟨X13, 2, none⟩ = some (.int .i64 des) := HK6.out.cell 2
                  have e3 : w6.cell? ⟨X13, 3, none⟩ = some (.int .i64 deg) := HK6.out.cell 3
                  have e4 : w6.cell? ⟨X13, 4, none⟩ = some (.int .i64 dec) := HK6.out.cell 4
                  have e5 : w6.cell? ⟨X13, 5, none⟩ = some (.string dkey) := HK6.out.cell 5
                  have e6 : w6.cell? ⟨X13, 6, none⟩ = some (.int .i64 dpg) := HK6.out.cell 6
                  have e7 : w6.cell? ⟨X13, 7, none⟩ = some (.bool dleaf) := HK6.out.cell 7
                  have e8 : w6.cell? ⟨X13, 8, none⟩ = some (.string dlo) := HK6.out.cell 8
                  have e9 : w6.cell? ⟨X13, 9, none⟩ = some (.string dhi) := HK6.out.cell 9
                  have e10 : w6.cell? ⟨X13, 10, none⟩ = some (.int .i64 dr) := HK6.out.cell 10
                  have e11 : w6.cell? ⟨X13, 11, none⟩ = some (.slice dp dn dc) := HK6.out.cell 11
                  have HAP : Hid (Calls Tryz.prog 13 #[pgv pf plo phi pr pp pn pc, dlv dk ⟨dek, des, deg, dec⟩ dkey dpg dleaf dlo dhi dr dp dn dc] w6 fun e w' => ∃ (xf : Bool) (xlo xhi : ByteArray) (xr : Int) (xp : Option Addr) (xn xc : Nat) (xl : List En) (er : Int), e = .returned (.tuple #[pgv xf xlo xhi xr xp xn xc, .int .i64 er]) ∧ Seg w' w6.heap.size xp xn xc xl ∧ Below w6.heap.size w6 w' ∧ xn ≤ 4611686018427387904) := by
                    refine (apply_any ⟨pf, plo, phi, pr, pl⟩ ⟨dk, ⟨dek, des, deg, dec⟩, dkey, dpg, ⟨dleaf, dlo, dhi, dr, dl⟩⟩ pp dp pn pc dn dc w6 HP.out.lenq (HP.out.ens.below HB6W.out (Nat.le_refl _)) (by omega) HP.out.nil HOK.out.len (HOK.out.ens.below HB6W.out (Nat.le_refl _)) (by have h9 : dn ≤ 1048576 := HME.out; omega) HOK.out.nil).mono ?_
                    rintro e w' ⟨v, rfl, ⟨p, cap, rfl, hs⟩, hb⟩
                    exact ⟨_, _, _, _, p, _, cap, _, _, rfl, hs, hb, apply_len (by rw [HP.out.lenq]; exact hpn) (by have h9 : dn ≤ 1048576 := HME.out; rw [HOK.out.len]; exact h9)⟩
                  go_wp2_with fail
                  refine Calls.mono HAP.out ?_
                  rintro e wx ⟨xf, xlo, xhi, xr, xp, xn, xc, xl, er2, rfl, hsx, hbx, hxn⟩
                  clear HAP a0 a1 a2 a3 a4 e0 e1 e2 e3 e4 e5 e6 e7 e8 e9 e10 e11
                  obtain ⟨w7, hw7⟩ : ∃ w7, wx.alloc (.cells #[.bool xf, .string xlo, .string xhi, .int .i64 xr, .slice xp xn xc] 24) = w7 := ⟨_, rfl⟩
                  have hb7 : Below wx.heap.size wx w7 := by rw [← hw7]; exact (Below.refl _ _).alloc (Nat.le_refl _) _
                  obtain ⟨X16, hX16⟩ : ∃ X16, wx.heap.size = X16 := ⟨_, rfl⟩
                  have HBX : Hid (Bk w7 X16 24 #[.bool xf, .string xlo, .string xhi, .int .i64 xr, .slice xp xn xc]) := by rw [← hw7, ← hX16]; exact Bk.new _ _ _
                  have HSP : Hid (SpE w6.heap.size X16 xp xn xc w7) := (hsx.sp (Nat.le_refl _) (by omega)).up hb7
                  have HB7 : Hid (Below w6.heap.size w6 w7) := hbx.trans (hb7.mono hbx.size)
                  have q4 : w7.cell? ⟨X16, 4, none⟩ = some (.slice xp xn xc) := HBX.out.cell 4
                  clear hsx hbx hb7
                  go_wp2_with fail
                  try rw [hX16]
                  clear hw7 hX16 q4
                  go_loopw [83] (fun iv wi => ∃ i : Nat, i ≤ xn ∧ iv = .int .i64 i ∧ Hid (Wq w6.heap.size X16 w7 wi)) (fun iv _ => xn - (intOf iv).toNat)
                  case atStart => exact ⟨0, Nat.zero_le _, rfl, Wq.refl _ _ _⟩
                  case round =>
                    obtain ⟨i, hi, rfl, HV⟩ := hrel
                    have g4 : wr.cell? ⟨X16, 4, none⟩ = some (.slice xp xn xc) := (HV.out.bk HBX.out (Nat.le_refl _)).cell 4
                    by_cases hit : i < xn
                    · have hii : (i : Int) < (xn : Int) := by omega
                      have hi0 : (0 : Int) ≤ (i : Int) := by omega
                      obtain ⟨g, o, u, rfl, cu, fu, hset⟩ := (HSP.out.wq HV.out).at hit
                      have HSET : Hid (∀ x, Wq w6.heap.size X16 w7 (wr.setCell ⟨g, o + i * 4, none⟩ x)) := fun x => HV.out.trans (hset x)
                      clear hset
                      go_wp2
                      go_roundw
                      case rel => exact ⟨i + 1, by omega, by go_num, HSET.out _⟩
                      case measure => simp [intOf]; omega
                    · have hii : ¬ (i : Int) < (xn : Int) := by omega
                      clear g4
                      obtain ⟨w8, hw8⟩ : ∃ w8, w8 = wr := ⟨_, rfl⟩
                      have HB8 : Hid (Below w6.heap.size w6 w8) := by rw [hw8]; exact HB7.out.trans (HV.out.below HB7.out.size)
                      rw [← hw8]
                      clear HV HBX HSP hw8 HB7
                      have HB82 : Hid (Below w2.heap.size w2 w8) := HB62.out.trans (HB8.out.mono HB62.out.size)
                      have HB8W : Hid (Below w.heap.size w w8) := HB2.out.trans (HB82.out.mono HB2.out.size)
                      obtain ⟨G, kk, q3, qc3, hov, hoc3, hens3⟩ := HOD.out w8 HB82.out
                      obtain ⟨rfl, rfl⟩ : ovp = some ⟨G, 0, none⟩ ∧ ovc = kk := by simpa using hov
                      have c0 : w8.cell? ⟨b, o + k * 12, none⟩ = some (.int .i64 dk) := HCE.out w8 HB8W.out 0 _ rfl
                      have c1 : w8.cell? ⟨b, o + k * 12 + 1, none⟩ = some (.string dek) := HCE.out w8 HB8W.out 1 _ rfl
                      have c2 : w8.cell? ⟨b, o + k * 12 + 2, none⟩ = some (.int .i64 des) := HCE.out w8 HB8W.out 2 _ rfl
                      have c3 : w8.cell? ⟨b, o + k * 12 + 3, none⟩ = some (.int .i64 deg) := HCE.out w8 HB8W.out 3 _ rfl
                      have c4 : w8.cell? ⟨b, o + k * 12 + 4, none⟩ = some (.int .i64 dec) := HCE.out w8 HB8W.out 4 _ rfl
                      have c5 : w8.cell? ⟨b, o + k * 12 + 5, none⟩ = some (.string dkey) := HCE.out w8 HB8W.out 5 _ rfl
                      have c6 : w8.cell? ⟨b, o + k * 12 + 6, none⟩ = some (.int .i64 dpg) := HCE.out w8 HB8W.out 6 _ rfl
                      have c7 : w8.cell? ⟨b, o + k * 12 + 7, none⟩ = some (.bool dleaf) := HCE.out w8 HB8W.out 7 _ rfl
                      have c8 : w8.cell? ⟨b, o + k * 12 + 8, none⟩ = some (.string dlo) := HCE.out w8 HB8W.out 8 _ rfl
                      have c9 : w8.cell? ⟨b, o + k * 12 + 9, none⟩ = some (.string dhi) := HCE.out w8 HB8W.out 9 _ rfl
                      have c10 : w8.cell? ⟨b, o + k * 12 + 10, none⟩ = some (.int .i64 dr) := HCE.out w8 HB8W.out 10 _ rfl
                      have c11 : w8.cell? ⟨b, o + k * 12 + 11, none⟩ = some (.slice dp dn dc) := HCE.out w8 HB8W.out 11 _ rfl
                      have e0 : w8.cell? ⟨G, k * 12, none⟩ = some (.int .i64 dk) := hoc3 0 _ rfl
                      have e1 : w8.cell? ⟨G, k * 12 + 1, none⟩ = some (.string dek) := hoc3 1 _ rfl
                      have e2 : w8.cell? ⟨G, k * 12 + 2, none⟩ = some (.int .i64 des) := hoc3 2 _ rfl
                      have e3 : w8.cell? ⟨G, k * 12 + 3, none⟩ = some (.int .i64 deg) := hoc3 3 _ rfl
                      have e4 : w8.cell? ⟨G, k * 12 + 4, none⟩ = some (.int .i64 dec) := hoc3 4 _ rfl
                      have e5 : w8.cell? ⟨G, k * 12 + 5, none⟩ = some (.string dkey) := hoc3 5 _ rfl
                      have e6 : w8.cell? ⟨G, k * 12 + 6, none⟩ = some (.int .i64 dpg) := hoc3 6 _ rfl
                      have e7 : w8.cell? ⟨G, k * 12 + 7, none⟩ = some (.bool dleaf) := hoc3 7 _ rfl
                      have e8 : w8.cell? ⟨G, k * 12 + 8, none⟩ = some (.string dlo) := hoc3 8 _ rfl
                      have e9 : w8.cell? ⟨G, k * 12 + 9, none⟩ = some (.string dhi) := hoc3 9 _ rfl
                      have e10 : w8.cell? ⟨G, k * 12 + 10, none⟩ = some (.int .i64 dr) := hoc3 10 _ rfl
                      have e11 : w8.cell? ⟨G, k * 12 + 11, none⟩ = some (.slice q3 dn qc3) := hoc3 11 _ rfl
                      have HDS : Hid (∀ W, Below w8.heap.size w8 W → Calls Tryz.prog 14 #[dlv dk ⟨dek, des, deg, dec⟩ dkey dpg dleaf dlo dhi dr dp dn dc, dlv dk ⟨dek, des, deg, dec⟩ dkey dpg dleaf dlo dhi dr q3 dn qc3] W fun r w' => r = .returned (.bool true) ∧ Below W.heap.size W w') := by
                        intro W hW
                        have := drsame_any ⟨dk, ⟨dek, des, deg, dec⟩, dkey, dpg, ⟨dleaf, dlo, dhi, dr, dl⟩⟩ ⟨dk, ⟨dek, des, deg, dec⟩, dkey, dpg, ⟨dleaf, dlo, dhi, dr, dl⟩⟩ dp q3 dn dn dc qc3 W HOK.out.len HOK.out.len (HOK.out.ens.below (HB8W.out.trans (hW.mono HB8W.out.size)) (Nat.le_refl _)) (hens3.below hW (Nat.le_refl _)) (by have h9 : dn ≤ 1048576 := HME.out; omega)
                        rw [Dl.same_self] at this
                        exact this
                      have HDR : Hid (Below w8.heap.size w8 w8.drew) := (Below.refl _ _).drew
                      clear hov hoc3 hens3
                      go_wp2_with fail
                      go_region_with (go_at_call 14; refine Calls.mono (HDS.out _ HDR.out) ?_; rintro e w9 ⟨rfl, hb9⟩)
                      all_goals
                        have HB9 : Hid (Below w2.heap.size w2 w9) := HB82.out.trans ((HDR.out.trans (hb9.mono HDR.out.size)).mono HB82.out.size)
                        clear hb9 c0 c1 c2 c3 c4 c5 c6 c7 c8 c9 c10 c11 e0 e1 e2 e3 e4 e5 e6 e7 e8 e9 e10 e11 HDS
                        go_wp2
                        go_roundw
                        case rel => exact ⟨k + 1, by omega, by go_num, HB9⟩
                        case measure => simp [intOf]; omega
            · have hki : ¬ (k : Int) < (j : Int) := by omega
              have HP9 : Hid (∀ W, Below w2.heap.size w2 W → Bk W w.heap.size 24 #[.bool pf, .string plo, .string phi, .int .i64 pr, .slice pp pn pc] ∧ Bk W X5 24 #[.bool pf, .string plo, .string phi, .int .i64 pr, .slice c1p pn c1c] ∧ Ens W c1p pl ∧ Below w.heap.size w W) := fun W hW => ⟨HP2.out.below hW HP2.out.lt, HW2.out.below hW HW2.out.lt, HC2.out.below hW (Nat.le_refl _), HB2.out.trans (hW.mono HB2.out.size)⟩
              go_wp2_with fail
              refine (live_any _).mono ?_
              rintro e w9 ⟨rfl, hb9⟩
              have HB9 : Hid (Below w2.heap.size w2 w9) := HBR.out.trans (hb9.mono HBR.out.size)
              clear hb9
              have hp9 := (HP9.out w9 HB9.out).1
              have hw9 := (HP9.out w9 HB9.out).2.1
              have a0 : w9.cell? ⟨w.heap.size, 0, none⟩ = some (.bool pf) := hp9.cell 0
              have a1 : w9.cell? ⟨w.heap.size, 1, none⟩ = some (.string plo) := hp9.cell 1
              have a2 : w9.cell? ⟨w.heap.size, 2, none⟩ = some (.string phi) := hp9.cell 2
              have a3 : w9.cell? ⟨w.heap.size, 3, none⟩ = some (.int .i64 pr) := hp9.cell 3
              have a4 : w9.cell? ⟨w.heap.size, 4, none⟩ = some (.slice pp pn pc) := hp9.cell 4
              have b0 : w9.cell? ⟨X5, 0, none⟩ = some (.bool pf) := hw9.cell 0
              have b1 : w9.cell? ⟨X5, 1, none⟩ = some (.string plo) := hw9.cell 1
              have b2 : w9.cell? ⟨X5, 2, none⟩ = some (.string phi) := hw9.cell 2
              have b3 : w9.cell? ⟨X5, 3, none⟩ = some (.int .i64 pr) := hw9.cell 3
              have b4 : w9.cell? ⟨X5, 4, none⟩ = some (.slice c1p pn c1c) := hw9.cell 4
              clear hp9 hw9
              go_wp2_with fail
              refine Calls.mono (HSM.out w9 c1p c1c (HP9.out w9 HB9.out).2.2.2 (HP9.out w9 HB9.out).2.2.1) ?_
              rintro e w10 ⟨rfl, hb10⟩
              have HF : Hid (Below w.heap.size w w10) := (HP9.out w9 HB9.out).2.2.2.trans (hb10.mono (HP9.out w9 HB9.out).2.2.2.size)
              clear hb10 a0 a1 a2 a3 a4 b0 b1 b2 b3 b4
              go_wp2
              go_ret
              exact ⟨rfl, HF.out⟩


theorem contract_deltaOwn (H : Type) (enc : TypeId × Value → H) (W : World) (base : Nat) (args : Array Value) (ds gs : List (DataW H)) (before : List MemPlace)
    (hval0 : ∀ (j : Nat) t v, Tryz.f3.params[j]? = some t → args[j]? = some v → Value.okWide Tryz.prog W .any base t v)
    (hW : DataW.Whole enc Tryz.prog Tryz.f3.params.toList Rows.deltaOwnSpec.vars false W args.toList ds gs before) (hk : Rows.uptoSmall H (ds ++ gs) = true) :
    Calls Tryz.prog 3 args W fun e W' => ∃ v, e = .returned v ∧ Rows.deltaOwnSpec.post enc Tryz.prog Tryz.f3 false true false false W args v W' := by
  have hval : ∀ (j : Nat) t v, Tryz.f3.params[j]? = some t → args[j]? = some v → Value.okWide Tryz.prog W .any base t v := hval0
  have hW' := hW
  obtain ⟨p, q, hA0, hV, rfl, hfz, hnd⟩ := hW
  have hA : DataW.TrodAll enc Tryz.prog W 0 (fun _ => true) true Tryz.f3.params.toList args.toList ds p := hA0
  rw [Tryz.params3] at hA hval
  obtain ⟨v0, vs0, d0, ds0, p0, q0, hargs, rfl, rfl, h0, r0⟩ := trodAll_cons hA
  obtain ⟨v1, vs1, d1, ds1, p1, q1, rfl, rfl, rfl, h1, r1⟩ := trodAll_cons r0
  obtain ⟨rfl, rfl, rfl⟩ := trodAll_nil r1
  obtain rfl : args = #[v0, v1] := by cases args; simp_all
  obtain ⟨rfl, rfl⟩ := trodVars_none hV
  simp only [List.append_nil] at hk
  have k0 := h0
  have lt0 : ∀ x ∈ p0, x.block < W.heap.size := by obtain ⟨m, hm⟩ := k0; exact DataW.trod_lt m _ _ _ hm
  obtain ⟨b0, lo0, hi0, r0', a0, len0, cap0, l0, e0, w0⟩ : ∃ leaf lo hi r a len cap l, v0 = .agg #[.bool leaf, .string lo, .string hi, .int .i64 r, .slice a len cap] ∧ InE 1048576 W a len cap l := by
    obtain ⟨cs, hcs, _⟩ := okWide_struct Tryz.underlying24 (hval 0 24 v0 rfl rfl)
    obtain ⟨fuel, hf⟩ := h0
    obtain ⟨b, lo, hi, r, a, len, cap, l, hg, ho⟩ := in_page (M := 1048576) hf (page_upto hk (by simp))
    refine ⟨b, lo, hi, r, a, len, cap, l, ?_, ho⟩
    rw [hcs] at hg ⊢
    congr 1
    apply Array.ext'
    simpa [Value.cells] using hg
  subst e0
  obtain ⟨a1, len1, cap1, rfl⟩ := okWide_slice Tryz.underlying25 (hval 1 25 v1 rfl rfl)
  have k1 := h1
  have lt1 : ∀ x ∈ p1, x.block < W.heap.size := by obtain ⟨m, hm⟩ := k1; exact DataW.trod_lt m _ _ _ hm
  obtain ⟨z1, w1⟩ := in_deltas hk (by simp) h1
  clear hA0 hval0
  simp only [List.append_nil] at hW'
  refine (walk_deltaOwn b0 lo0 hi0 r0' a0 len0 cap0 l0 a1 len1 cap1 z1 W w0 w1).mono fun e W' ⟨he, bel⟩ => ?_
  subst he
  exact ⟨_, rfl, _, _, _, [], _, [], hW', trodAll_mk1 (shut_bool Tryz.underlying4 _), (trodAll_cons_mk (Below.trod laidOut (by kernel_rfl) (of_decide_eq_true (by kernel_rfl)) k0 bel lt0) (trodAll_cons_mk (Below.trod laidOut (by kernel_rfl) (of_decide_eq_true (by kernel_rfl)) k1 bel lt1) trodAll_mk0)), rfl, bel.frame _, fun h => by cases h⟩

set_option maxRecDepth 100000 in
set_option maxHeartbeats 2000000 in
theorem lifted_deltaOwn (os : Os) (started : os.Started) (H : Type) (enc : TypeId × Value → H) (F : Stop.Interp) :
    ReturnsInHanded {} Tryz.checked os 3 .any ((Rows.OpenSpec.upto Rows.deltaOwnSpec).pre6 enc Tryz.prog Tryz.f3 Rows.deltaOwnUptoRow.domain false) (((Rows.OpenSpec.upto Rows.deltaOwnSpec).at F).post enc Tryz.prog Tryz.f3 false true false false) := by
  refine returnsInHanded_of_cond (C := Tryz.checked) (s := Rows.OpenSpec.upto Rows.deltaOwnSpec) (k := Rows.uptoSmall) rfl own started (by kernel_rfl) Tryz.func3
    (OpenSpec.witness (enc := enc) (C := Tryz.checked) (s := Rows.OpenSpec.upto Rows.deltaOwnSpec) (k := Rows.uptoSmall) rfl false ⟨#[], #[.agg #[.bool false, .string .empty, .string .empty, .int .i64 0, .slice none 0 0], .slice none 0 0], []⟩ 8 (by kernel_rfl) (by kernel_rfl) (by kernel_rfl)
      (x := ([.agg [.lit (.bool false), .lit (.string []), .lit (.string []), .lit (.int .i64 0), .nil], .nil], [], [])) (by kernel_rfl) rfl (by kernel_rfl)) ?_
  intro W base args ds gs before hval hW _ hk _
  exact contract_deltaOwn H enc W base args ds gs before hval hW hk

/-- The statement. -/
theorem deltaOwn_holds : Rows.DeltaOwnUptoSaid :=
  OpenClaim.holds_of_cond 3 Tryz.f3 rfl rfl rfl rfl rfl rfl rfl ⟨rfl, rfl, rfl, rfl, rfl⟩ rfl rfl rfl rfl rfl (by kernel_rfl) Tryz.func3 (by kernel_rfl)
    (of_decide_eq_true (by kernel_rfl)) (by unfold Func.isWrapper; first | (rw [if_pos (by decide +kernel)]; kernel_rfl) | (rw [if_neg (by decide +kernel)]; exact ⟨rfl, rfl⟩))
    (fun os started H enc _ F => lifted_deltaOwn os started H enc F)
#print axioms deltaOwn_holds
end Go.Proofs.YthpilennljpamaaGreat
