/- The last entry that is not above a key, and Find, in entries in whatever order (the code's). -/
import Derived.Test.YthpilennljpamaaGreatPgBw
namespace Go.Proofs.YthpilennljpamaaGreat
open Go.RowKit Go.Shelf Go.Sort
attribute [local go_sem] Oper.semAt_some
set_option linter.unusedVariables false
set_option maxRecDepth 100000

/-- Between the rounds. -/
structure Lu (w W : World) (B : Nat) (key : ByteArray) (pre : List (Nat × En)) : Prop where
  b0 : Boxed W w.heap.size 9 (.string key)
  b1 : Boxed W (w.heap.size + 1) 3 (.int .i64 0)
  b2 : Boxed W (w.heap.size + 1 + 1) 4 (.bool false)
  below : Below w.heap.size w W
  pf : ∀ x ∈ pre, Ky.lt key x.2.key = true
  sz : B ≤ W.heap.size

section
variable {w W W' : World} {B : Nat} {key : ByteArray} {pre : List (Nat × En)}
theorem Lu.abides {row : Option Nat} {k : Nat} (h : Lu w W B key pre) (hm : w.heap.size ≤ k) (hg : W.grownBy W' row) (hr : ∀ r, row = some r → k ≤ r ∧ ∃ o : Obj, W.heap[r]? = some o ∧ o.isCells = false) : Lu w W' B key pre where
  b0 := boxed_from h.b0 hg hr
  b1 := boxed_from h.b1 hg hr
  b2 := boxed_from h.b2 hg hr
  below := h.below.grown hg h.below.size (fun k hk => by have := (hr k hk).1; omega)
  pf := h.pf
  sz := Nat.le_trans h.sz hg.size
theorem Lu.still (h : Lu w W B key pre) (ht : Tn [] W W') : Lu w W' B key pre where
  b0 := Bk.tn (show Bk W _ _ _ from h.b0) ht (by simp)
  b1 := Bk.tn (show Bk W _ _ _ from h.b1) ht (by simp)
  b2 := Bk.tn (show Bk W _ _ _ from h.b2) ht (by simp)
  below := h.below.trans (ht.below h.below.size (by simp))
  pf := h.pf
  sz := Nat.le_trans h.sz ht.size
theorem Lu.fin {S : List Nat} (h : Lu w W B key pre) (hS : ∀ b ∈ S, b ≠ w.heap.size + 1 ∧ b ≠ w.heap.size + 1 + 1 ∧ b < B) (ht : Tn [w.heap.size + 1, w.heap.size + 1 + 1] W W') : KeepsOthers W W' ∧ KpP S W W' ∧ Below w.heap.size w W' := by
  have hs := h.below.size
  refine ⟨keeps_tn ht (fun y hy => ?_), KpP.of_tn ht (fun y hy => ?_), h.below.trans (ht.below hs (fun y hy => ?_))⟩
  · simp only [List.mem_cons, List.not_mem_nil, or_false] at hy
    rcases hy with rfl | rfl
    · exact ⟨_, h.b1, rfl⟩
    · exact ⟨_, h.b2, rfl⟩
  · have := hS y hy
    have := h.sz
    simp only [List.mem_cons, List.not_mem_nil, or_false]
    omega
  · simp only [List.mem_cons, List.not_mem_nil, or_false] at hy
    omega
end

/-- What is answered of the last entry that is not above a key. -/
def Pg.Lst (l : List En) (key : ByteArray) (i : Int) (b : Bool) : Prop :=
  (b = true → ∃ (k : Nat) (x : En), i = k ∧ l[k]? = some x ∧ Ky.lt key x.key = false ∧ ∀ (j : Nat) (y : En), k < j → l[j]? = some y → Ky.lt key y.key = true) ∧
  (b = false → ∀ (j : Nat) (y : En), l[j]? = some y → Ky.lt key y.key = true)

set_option maxHeartbeats 4000000 in
theorem lastUpTo_un (p : Option Addr) (len cap : Nat) (l : List En) (key : ByteArray) (w : World) (hlen : l.length = len) (hx : Ens w p l) (hl : len ≤ 4398046511104) (ho : ¬ Pg.Ord l) :
    Calls Tryz.prog 117 #[.slice p len cap, .string key] w fun e w' => (∃ i b, e = .returned (.tuple #[.int .i64 i, .bool b]) ∧ Pg.Lst l key i b) ∧ Below w.heap.size w w' := by
  refine (callsIn_wide (n := 9)).1 ?_
  refine callsIn_of_wp_marks Tryz.func117 rfl trivial ?_ rfl
  simp only [Tryz.ntmps117, List.size_toArray, List.length_cons, List.length_nil, Nat.reduceAdd, Nat.reduceSub, Array.replicate_succ, Array.replicate_zero, List.push_toArray, List.append_toArray, List.nil_append, List.cons_append]
  obtain ⟨w0, hw0⟩ : ∃ w0, w0 = ((w.alloc (.cells #[.string key] 9)).alloc (.cells #[.int .i64 0] 3)).alloc (.cells #[.bool false] 4) := ⟨_, rfl⟩
  have HB0 : Hid (Below w.heap.size w w0) := by rw [hw0]; exact (((Below.refl _ _).alloc (Nat.le_refl _) _).alloc (by simp) _).alloc (by simp; omega) _
  have HK0 : Hid (Bk w0 w.heap.size 9 #[.string key]) := by rw [hw0]; exact ((Bk.new _ _ _).alloc _).alloc _
  have HI0 : Hid (Bk w0 (w.heap.size + 1) 3 #[.int .i64 0]) := by rw [hw0]; exact (Bk.new1 _ _ _ _).alloc _
  have HJ0 : Hid (Bk w0 (w.heap.size + 1 + 1) 4 #[.bool false]) := by rw [hw0]; exact Bk.new2 _ _ _ _ _
  have HX : Hid (Ens w p l) := hx
  have HL : Hid (l.length = len) := hlen
  have HO : Hid (¬ Pg.Ord l) := ho
  clear hx hlen ho
  gi_wp2_with fail
  rw [← hw0]
  clear hw0
  refine ⟨trivial, ?_⟩
  refine (callsIn_wide.2 (inOrder_any p len cap l _ HL.out (HX.out.below HB0.out (Nat.le_refl _)) hl)).mono ?_
  rintro e w1 ⟨ro, rfl, hro, hb1⟩
  obtain rfl : ro = false := by
    cases ro with
    | false => rfl
    | true => exact absurd (hro.1 rfl) HO.out
  have HU1 : Hid (Lu w w1 0 key []) := ⟨HK0.out.below hb1 HK0.out.lt, HI0.out.below hb1 HI0.out.lt, HJ0.out.below hb1 HJ0.out.lt, HB0.out.trans (hb1.mono HB0.out.size), (fun x hx => by cases hx), Nat.zero_le _⟩
  clear hb1 hro HK0 HB0 HI0 HJ0
  gi_wp2_with fail
  refine ⟨trivial, ?_⟩
  refine (callsIn_wide.2 (back_any p len cap w1)).mono ?_
  rintro e w2 ⟨rfl, hw2⟩
  have ht2 : Tn [] w1 w2 := by rw [hw2]; exact (Tn.refl _ _).alloc _
  have hU2 : Lu w w2 w2.heap.size key [] := { HU1.out.still ht2 with sz := Nat.le_refl _ }
  have hs1 : w.heap.size + 1 + 1 < w1.heap.size := HU1.out.b2.lt
  have hne : 0 < l.length := by
    rcases Nat.eq_zero_or_pos l.length with h | h
    · refine absurd (fun i a b h1 h2 => ?_) HO.out
      have := (List.getElem?_eq_some_iff.1 h1).1
      omega
    · exact h
  obtain ⟨g, o, hp, hc⟩ := HX.out hne
  subst hp
  have hgl : g < w.heap.size := HX.out.lt hne
  have hF2 : Fm w2 w1.heap.size [w1.heap.size, g] l := by
    refine ⟨⟨some ⟨g, o, none⟩, cap, ?_, HX.out.below hU2.below (Nat.le_refl _), fun _ g' o' h => by cases h; simp⟩, by simp, fun b hb => ?_, by rw [HL.out]; exact hl⟩
    · rw [HL.out, hw2]
      exact Bk.new _ _ _
    · have h1 := hU2.below.size
      have h2 : w1.heap.size < w2.heap.size := by rw [hw2]; simp
      simp only [List.mem_cons, List.not_mem_nil, or_false] at hb
      rcases hb with rfl | rfl <;> omega
  have hs2 : w1.heap.size < w2.heap.size := by rw [hw2]; simp
  have HSL : Hid (∀ b ∈ [w1.heap.size, g], b ≠ w.heap.size + 1 ∧ b ≠ w.heap.size + 1 + 1 ∧ b < w2.heap.size) := fun b hb => by
    simp only [List.mem_cons, List.not_mem_nil, or_false] at hb
    rcases hb with rfl | rfl <;> omega
  generalize [w1.heap.size, g] = S at *
  clear hw2 ht2 hc hne hgl
  gi_wp2_with fail
  refine range_boxed ?A rfl (by omega) (gf := 142) (lb := #[.pointer (some ⟨w1.heap.size, 0, none⟩)]) rfl trivial (enters_of Tryz.func142 (by kernel_rfl) rfl)
    (back1_stops 8 (by omega) hF2) KpP.t (fun W l o o' hl _ _ _ k hk => World.putObj_heap_other (fun e => by
      subst e
      have := (HSL.out _ hk).2.2
      omega)) (Below.refl _ _) (fun _ => rfl)
    (fun pre W => Lu w W w2.heap.size key pre)
    (fun cc pre W => (cc = .ret ∧ ∃ (i : Nat) (x : En) (pre' : List (Nat × En)), pre = pre' ++ [(i, x)] ∧ Boxed W (w.heap.size + 1) 3 (.int .i64 (i : Int)) ∧ Boxed W (w.heap.size + 1 + 1) 4 (.bool true) ∧ Ky.lt key x.key = false ∧ ∀ y ∈ pre', Ky.lt key y.2.key = true) ∧ Below w.heap.size w W)
    (fun s A B' row hs hg hr => hs.abides (k := w2.heap.size) (by omega) hg hr)
    (fun cc s A B row hs hg hr => by
      obtain ⟨⟨h1, i, x, pre', h0, h2, h3, h5⟩, h4⟩ := hs
      exact ⟨⟨h1, i, x, pre', h0, boxed_from h2 hg hr, boxed_from h3 hg hr, h5⟩, h4.grown hg h4.size (fun k hk => by have := (hr k hk).1; omega)⟩)
    hU2
    (fun x bx W => w2.heap.size ≤ bx ∧ Bk W bx 30 #[.string x.2.key, .int .i64 x.2.s, .int .i64 x.2.g, .int .i64 x.2.c])
    (fun x bx _ A B' row hs hg hr => ⟨hs.1, bk_from hs.2 hg hr⟩)
    ?assign ?body ?done ?stop
  case assign =>
    rintro l pre x W K hL hK
    gi_wp2
    have ht : Tn [] W (W.alloc (.cells #[.string x.2.key, .int .i64 x.2.s, .int .i64 x.2.g, .int .i64 x.2.c] 30)) := (Tn.refl _ _).alloc _
    obtain ⟨bx, hbx⟩ : ∃ bx, W.heap.size = bx := ⟨_, rfl⟩
    have kx : Bk (W.alloc (.cells #[.string x.2.key, .int .i64 x.2.s, .int .i64 x.2.g, .int .i64 x.2.c] 30)) bx 30 #[.string x.2.key, .int .i64 x.2.s, .int .i64 x.2.g, .int .i64 x.2.c] := by rw [← hbx]; exact Bk.new _ _ _
    have hle : w2.heap.size ≤ bx := by have := hL.sz; omega
    have hsl := HSL.out
    rw [hbx]
    refine hK bx _ ((keeps_tn ht (by simp)).from _) (KpP.of_tn ht (fun y hy => ⟨by have := (hsl y hy).2.2; omega, by simp⟩)) (hL.still ht) ⟨hle, kx⟩
  case stop =>
    rintro D cc pre W hD hpre ⟨⟨rfl, i, x, pre', rfl, hb1, hb2, hq, hall⟩, hB⟩ hK
    have HLS : Hid (Pg.Lst l key (i : Int) true) := by
      obtain ⟨h1, h2⟩ := Pg.bw_pre hpre
      exact ⟨fun _ => ⟨i, x, rfl, h1, hq, fun j y hj hy => hall _ (h2 j y hj hy)⟩, fun h => by cases h⟩
    have k1 : Bk (W.putObj D (.deferred none)) (w.heap.size + 1) 3 #[.int .i64 (i : Int)] := (World.putObj_heap_other (by omega)).trans (show Bk W _ _ _ from hb1)
    have k2 : Bk (W.putObj D (.deferred none)) (w.heap.size + 1 + 1) 4 #[.bool true] := (World.putObj_heap_other (by omega)).trans (show Bk W _ _ _ from hb2)
    gi_wp2
    refine ⟨by simp, .inl ⟨_, _, rfl, run_takeDeferred hK, ?_⟩⟩
    refine ⟨_, results_ib (i := (i : Int)) (x := true) rfl rfl rfl k1 k2, ?_⟩
    exact ⟨⟨_, _, rfl, HLS.out⟩, hB.trans ⟨rfl, rfl, rfl, by simp, fun k hk => World.putObj_heap_other (by omega)⟩⟩
  case body =>
    rintro l2 pre x bx W hl2 hT ⟨hbx, kx⟩ hpre
    have HT : Hid (Lu w W w2.heap.size key pre) := hT
    have c0 := hT.b0.cell
    have c1 := hT.b1.cell
    have c2 := hT.b2.cell
    have f1 := hT.b1.frozen
    have f2 := hT.b2.frozen
    have d0 := kx.cell 0
    simp at d0
    clear kx hT
    obtain ⟨xi, ⟨xk, xs, xg, xc⟩⟩ := x
    simp only at d0
    cases hq : Ky.lt key xk with
    | false =>
      have hq' : (Op.bytesLess xk.toList key.toList || xk.toList == key.toList) = true := by rw [Ky.leq_iff]; show (!Ky.lt key xk) = true; rw [hq]; rfl
      have HQ : Hid (Ky.lt key xk = false) := hq
      clear hq
      gi_wp2
      obtain ⟨k1, k2, k3⟩ := HT.out.fin HSL.out (((((Tn.refl _ W)).setCell (.inl (by simp)) (.int .i64 (xi : Int))).setCell (.inl (by simp)) (.bool true)) : Tn _ W (World.setCell (World.setCell _ ⟨w.heap.size + 1, 0, none⟩ _) ⟨w.heap.size + 1 + 1, 0, none⟩ _))
      exact ⟨k1.from _, ⟨rfl, xi, ⟨xk, xs, xg, xc⟩, pre, rfl, (HT.out.b1.set _).other (by omega) _, (HT.out.b2.other (by omega) _).set _, HQ.out, HT.out.pf⟩, k3⟩
    | true =>
      have hq' : (Op.bytesLess xk.toList key.toList || xk.toList == key.toList) = false := by rw [Ky.leq_iff]; show (!Ky.lt key xk) = false; rw [hq]; rfl
      have HQ : Hid (Ky.lt key xk = true) := hq
      clear hq
      gi_wp2
      obtain ⟨k1, k2, k3⟩ := HT.out.fin HSL.out (Tn.refl _ W)
      have hpf : ∀ y ∈ pre ++ [(xi, (⟨xk, xs, xg, xc⟩ : En))], Ky.lt key y.2.key = true := fun y hy => by
        rcases List.mem_append.1 hy with h | h
        · exact HT.out.pf y h
        · simp at h
          subst h
          exact HQ.out
      exact ⟨k1.from _, k2, { HT.out with pf := hpf }⟩
  case done =>
    rintro D zs W hD rfl hT hK
    have HT : Hid (Lu w W w2.heap.size key (Pg.bw l)) := hT
    have c1 := hT.b1.cell
    have c2 := hT.b2.cell
    have f1 := hT.b1.frozen
    have f2 := hT.b2.frozen
    have HLS : Hid (Pg.Lst l key 0 false) := ⟨(fun h => by cases h), fun _ j y hy => hT.pf _ (Pg.bw_all hy)⟩
    have hDn : D ≠ w.heap.size + 1 := by omega
    have hDm : D ≠ w.heap.size + 1 + 1 := by omega
    have hD2 : w.heap.size ≤ D := by omega
    clear hT
    gi_wp2
    have k1 : Bk (((W.setCell ⟨w.heap.size + 1, 0, none⟩ (.int .i64 0)).setCell ⟨w.heap.size + 1 + 1, 0, none⟩ (.bool false)).putObj D (.deferred none)) (w.heap.size + 1) 3 #[.int .i64 0] := (World.putObj_heap_other (by omega)).trans (show Bk _ _ _ _ from (HT.out.b1.set _).other (by omega) _)
    have k2 : Bk (((W.setCell ⟨w.heap.size + 1, 0, none⟩ (.int .i64 0)).setCell ⟨w.heap.size + 1 + 1, 0, none⟩ (.bool false)).putObj D (.deferred none)) (w.heap.size + 1 + 1) 4 #[.bool false] := (World.putObj_heap_other (by omega)).trans (show Bk _ _ _ _ from (HT.out.b2.other (by omega) _).set _)
    have hB : Below w.heap.size w ((W.setCell ⟨w.heap.size + 1, 0, none⟩ (.int .i64 0)).setCell ⟨w.heap.size + 1 + 1, 0, none⟩ (.bool false)) := (HT.out.below.setCell (p := ⟨w.heap.size + 1, 0, none⟩) (by simp) _).setCell (p := ⟨w.heap.size + 1 + 1, 0, none⟩) (by simp; omega) _
    refine ⟨by simp, .inl ⟨_, _, rfl, run_takeDeferred ((Below.heap_setCell _ _ _ _ (by simpa using hDm)).trans ((Below.heap_setCell _ _ _ _ (by simpa using hDn)).trans hK)), ?_⟩⟩
    refine ⟨_, results_ib (i := 0) (x := false) rfl rfl rfl k1 k2, ?_⟩
    exact ⟨⟨_, _, rfl, HLS.out⟩, hB.trans ⟨rfl, rfl, rfl, by simp, fun k hk => World.putObj_heap_other (by omega)⟩⟩

end Go.Proofs.YthpilennljpamaaGreat
