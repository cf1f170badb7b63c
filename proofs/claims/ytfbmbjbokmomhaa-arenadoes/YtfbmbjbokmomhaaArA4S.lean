/- Arenas of texts: Set and Free of a good handle. -/
import Derived.Test.YtfbmbjbokmomhaaArA3S
import Derived.Deep.RegionHeld3
namespace Go.Proofs.Ytfbmbjbokmomhaa
open Go.RowKit
set_option linter.unusedVariables false
set_option maxRecDepth 100000

/-- Another value, in memory. -/
theorem IsAr.setS {w : World} {B gb c n : Nat} {fv : Value} {fr : List Nat} {a : Ar} (hn : a.us.length = n) (h : IsAr tAS tSS w B (.slice (some ⟨gb, 0, none⟩) n c) fv fr a) (i : Nat) (hi : i < n) (x : Value) :
    ArT tAS tSS w (w.setCell ⟨gb, i * 3 + 2, none⟩ x) B (bsOf B (.slice (some ⟨gb, 0, none⟩) n c) fv) (a.set i x) := by
  have hgB : gb ≠ B := h.ne1 gb rfl
  have ht : Tn [gb] w (w.setCell ⟨gb, i * 3 + 2, none⟩ x) := (Tn.refl _ _).setCell (.inl (by simp)) _
  refine ⟨_, ⟨_, fv, fr, rfl, ?_⟩, ht.mono (by intro y hy; simp at hy; subst hy; exact mem_bsOf.2 (.inr (.inl rfl))), fun b hb => .inl hb⟩
  exact {
    wt := ⟨h.wt.blk.tn ht (by simp; omega), h.wt.row.tn ht (fun k hk hm => by simp at hm; subst hm; exact h.ne2 k rfl hk), h.wt.ne, h.wt.len⟩
    row := row_value hn h.row i hi x
    ne1 := h.ne1
    ne2 := h.ne2
    hp := h.hp
    perm := by
      show fr.Perm (freeOf (a.us.set i ⟨(slAt a.us i).gen, (slAt a.us i).given, x⟩))
      rw [freeOf_same (s := ⟨(slAt a.us i).gen, (slAt a.us i).given, x⟩) (by omega) rfl]
      exact h.perm
    le := by
      show (a.us.set i _).length ≤ a.size
      rw [List.length_set]
      exact h.le
    s1 := h.s1
    s2 := h.s2 }

set_option maxHeartbeats 1000000 in
theorem setGoodS {w : World} {B : Nat} {bs : List Nat} {a : Ar} (h : Arn tAS tSS w B bs a) (s g : Int) (x : ByteArray) (hg : a.Good s g) :
    Calls Try.prog 18 #[.pointer (some ⟨B, 0, none⟩), .agg #[.int .i64 s, .int .i64 g], (.string x)] w fun e w' => e = .returned (.int .i64 0) ∧ ArT tAS tSS w w' B bs (a.set s.toNat (.string x)) := by
  obtain ⟨uv, fv, fr, rfl, h⟩ := h
  have HG : Hid (a.Good s g) := hg
  obtain ⟨h0, h1, hgv, -⟩ := hg
  obtain ⟨i, rfl⟩ : ∃ i : Nat, s = (i : Int) := ⟨s.toNat, by omega⟩
  have hi : i < a.us.length := by omega
  rw [Int.toNat_natCast]
  obtain ⟨gb, c, rfl⟩ := row_some h.row (by omega)
  obtain ⟨w1, hw1, hz1, hb1, h', hk, -, -⟩ := h.boxed (i : Int) g
  have HI : Hid (IsAr tAS tSS w1 B (.slice (some ⟨gb, 0, none⟩) a.us.length c) fv fr a) := h'
  have HK : Hid (Bk w1 w.heap.size 36 #[.int .i64 (i : Int), .int .i64 g]) := hk
  have HB : Hid (Below w.heap.size w w1) := hb1
  have k0 := hk.cell 0
  have k1 := hk.cell 1
  simp only [List.getElem?_toArray, List.getElem?_cons_zero, List.getElem?_cons_succ] at k0 k1
  have hlen : a.us.length ≤ 65536 := Nat.le_trans h.le h.s2
  clear h h' hk hb1 hgv
  go_enter Try.func18, Try.ntmps18
  go_wp2_with fail
  refine (checkGoodS ⟨_, _, _, rfl, HI.out⟩ (i : Int) g HG.out).mono ?_
  rintro e w2 ⟨rfl, hb2⟩
  have ht2 : Tn [] w1 w2 := Tn.of_below hb2 []
  have HI2 : Hid _ := HI.out.tn ht2 (by simp)
  obtain ⟨r0, r1, r2⟩ := row_cells rfl HI2.out.row i hi
  have f2 := row_frozen rfl HI2.out.row (i * 3 + 2)
  obtain ⟨c0, c1, c2, c3⟩ := HI2.out.cells
  have HK2 := HK.out.tn ht2 (by simp)
  have k2 : w2.cell? ⟨w.heap.size, 0, none⟩ = some (.int .i64 (i : Int)) := HK2.cell 0
  have HT : Hid (ArT tAS tSS w (w2.setCell ⟨gb, i * 3 + 2, none⟩ (.string x)).drew B (bsOf B (.slice (some ⟨gb, 0, none⟩) a.us.length c) fv) (a.set i (.string x))) :=
    ArT.pre ((Tn.of_below HB.out []).trans ht2 (by simp)) (HI2.out.setS rfl i hi (.string x)).drew
  clear ht2 HI2 HK2 hb2 HI HK HB HG
  generalize (slAt a.us i).val = vv at *
  generalize a.us.length = n at *
  go_wp2_with fail
  go_region
  go_wp2
  go_ret
  exact ⟨rfl, HT.out⟩

/-- A slot is taken back, in memory: ahead of its waiting. -/
theorem IsAr.clearS {w w' : World} {B gb c n : Nat} {fv : Value} {fr : List Nat} {a : Ar} (hn : a.us.length = n) (h : IsAr tAS tSS w B (.slice (some ⟨gb, 0, none⟩) n c) fv fr a) (i : Nat) (hi : i < n) (g : Int) (z : Value)
    (hw : w' = ((w.setCell ⟨gb, i * 3, none⟩ (.int .i64 g)).setCell ⟨gb, i * 3 + 1, none⟩ (.bool false)).setCell ⟨gb, i * 3 + 2, none⟩ z) :
    w'.ownsRow 0 tSS 3 (.slice (some ⟨gb, 0, none⟩) n c) (a.us.set i ⟨g, false, z⟩).length (slCells (a.us.set i ⟨g, false, z⟩)) ∧ Wt w' B tAS (.int .i64 a.size) (.slice (some ⟨gb, 0, none⟩) n c) (.int .i64 a.stale) fv fr ∧ Tn [gb] w w' := by
  have hgB : gb ≠ B := h.ne1 gb rfl
  have ht : Tn [gb] w w' := by
    rw [hw]
    exact (((Tn.refl _ _).setCell (.inl (by simp)) _).setCell (.inl (by simp)) _).setCell (.inl (by simp)) _
  refine ⟨by rw [hw]; exact row_write hn h.row i hi ⟨g, false, z⟩, ?_, ht⟩
  exact ⟨h.wt.blk.tn ht (by simp; omega), h.wt.row.tn ht (fun k hk hm => by simp at hm; subst hm; exact h.ne2 k rfl hk), h.wt.ne, h.wt.len⟩

/-- .. and behind. -/
theorem free_endS {w w2 w3 w4 : World} {B gb c n : Nat} {fv : Value} {fr : List Nat} {a : Ar} {i : Nat} {z : Value} (hn : a.us.length = n) (h : IsAr tAS tSS w2 B (.slice (some ⟨gb, 0, none⟩) n c) fv fr a) (hi : i < n) (hgv : (slAt a.us i).given = true)
    (h0 : Tn [] w w2) (hrow : w3.ownsRow 0 tSS 3 (.slice (some ⟨gb, 0, none⟩) n c) (a.us.set i ⟨(slAt a.us i).gen, false, z⟩).length (slCells (a.us.set i ⟨(slAt a.us i).gen, false, z⟩))) (ht3 : Tn [gb] w2 w3)
    (hw4 : Waits w3 w4 B tAS (.int .i64 a.size) (.slice (some ⟨gb, 0, none⟩) n c) (.int .i64 a.stale) fv (fun l' => l'.Perm (fr ++ [i]))) :
    ArT tAS tSS w w4 B (bsOf B (.slice (some ⟨gb, 0, none⟩) n c) fv) (a.free i z) := by
  obtain ⟨fv', fr', hwt, hp, hperm, ht4, hnw⟩ := hw4
  have hgB : gb ≠ B := h.ne1 gb rfl
  have hgf : fv.ownBlock ≠ some gb := h.ne2 gb rfl
  have hlt : gb < w2.heap.size := row_block h.row gb rfl
  have hne' : fv'.ownBlock ≠ some gb := by
    intro e
    rcases hnw gb e with h1 | h1
    · exact hgf h1
    · have := ht3.size
      omega
  refine ⟨bsOf B (.slice (some ⟨gb, 0, none⟩) n c) fv', ⟨_, fv', fr', rfl, ?_⟩, ?_, ?_⟩
  · exact {
      wt := hwt
      row := owns_tn hrow ht4 (fun k hk hm => by
        cases hk
        simp only [List.mem_cons, opt_toList] at hm
        rcases hm with hm | hm
        · exact hgB hm
        · exact hgf hm)
      ne1 := h.ne1
      ne2 := fun k hk => by cases hk; exact hne'
      hp := hp
      perm := hperm.trans ((List.Perm.append_right _ h.perm).trans (freeOf_free (by omega) rfl hgv))
      le := by
        show (a.us.set i _).length ≤ a.size
        rw [List.length_set]
        exact h.le
      s1 := h.s1
      s2 := h.s2 }
  · refine ((h0.mono (by simp)).trans ht3 ?_).trans ht4 ?_
    · intro x hx
      simp at hx
      subst hx
      exact .inl (mem_bsOf.2 (.inr (.inl rfl)))
    · intro x hx
      simp only [List.mem_cons, opt_toList] at hx
      rcases hx with rfl | hx
      · exact .inl (mem_bsOf.2 (.inl rfl))
      · exact .inl (mem_bsOf.2 (.inr (.inr hx)))
  · intro b hb
    rcases mem_bsOf.1 hb with rfl | hb | hb
    · exact .inl (mem_bsOf.2 (.inl rfl))
    · exact .inl (mem_bsOf.2 (.inr (.inl hb)))
    · rcases hnw b hb with h1 | h1
      · exact .inl (mem_bsOf.2 (.inr (.inr h1)))
      · exact .inr (Nat.le_trans h0.size (Nat.le_trans ht3.size h1))

theorem wait_boxS {w w' : World} {B b : Nat} {t u : TypeId} {c0 c1 c3 v : Value} {P : List Nat → Prop} {cs : Array Value} (hw : Waits w w' B t c0 c1 c3 v P) (hk : Bk w b u cs) (hb : b ≠ B) (hv : v.ownBlock ≠ some b) : Bk w' b u cs := by
  obtain ⟨_, _, _, _, _, ht, _⟩ := hw
  refine hk.tn ht ?_
  simp only [List.mem_cons, opt_toList, not_or]
  exact ⟨hb, hv⟩

set_option maxHeartbeats 2000000 in
theorem freeGoodS {w : World} {B : Nat} {bs : List Nat} {a : Ar} (h : Arn tAS tSS w B bs a) (s g : Int) (hg : a.Good s g) :
    Calls Try.prog 17 #[.pointer (some ⟨B, 0, none⟩), .agg #[.int .i64 s, .int .i64 g]] w fun e w' => e = .returned (.int .i64 0) ∧ ArT tAS tSS w w' B bs (a.free s.toNat (.string ⟨#[]⟩)) := by
  obtain ⟨uv, fv, fr, rfl, h⟩ := h
  have HG : Hid (a.Good s g) := hg
  obtain ⟨h0, h1, hgv, hge⟩ := hg
  obtain ⟨i, rfl⟩ : ∃ i : Nat, s = (i : Int) := ⟨s.toNat, by omega⟩
  have hi : i < a.us.length := by omega
  rw [Int.toNat_natCast] at hgv hge ⊢
  obtain ⟨gb, c, rfl⟩ := row_some h.row (by omega)
  obtain ⟨w1, hw1, hz1, hb1, h', hk, -, -⟩ := h.boxed (i : Int) g
  have HI : Hid (IsAr tAS tSS w1 B (.slice (some ⟨gb, 0, none⟩) a.us.length c) fv fr a) := h'
  have HK : Hid (Bk w1 w.heap.size 36 #[.int .i64 (i : Int), .int .i64 g]) := hk
  have HB : Hid (Below w.heap.size w w1) := hb1
  have k0 := hk.cell 0
  have k1 := hk.cell 1
  simp only [List.getElem?_toArray, List.getElem?_cons_zero, List.getElem?_cons_succ] at k0 k1
  have hlen : a.us.length ≤ 65536 := Nat.le_trans h.le h.s2
  have HGB : Hid (gb < w.heap.size) := row_block h.row gb rfl
  have HLT : Hid (w.heap.size ≠ B ∧ fv.ownBlock ≠ some w.heap.size) := ⟨fun e => by have := h.wt.blk.lt; omega, fun e => by have := row_block h.wt.row _ e; omega⟩
  have HFL : Hid (fr.length < 65536) := by
    have h1 := h.frlen
    have h2 : 0 < live a.us := by
      unfold live
      rw [List.countP_pos_iff]
      refine ⟨slAt a.us i, ?_, hgv⟩
      simp [slAt, List.getD, hi]
    unfold Hid
    omega
  clear h h' hk hb1
  have HGV : Hid ((slAt a.us i).given = true) := hgv
  have HGE : Hid ((slAt a.us i).gen = g) := hge
  clear hgv hge
  go_enter Try.func17, Try.ntmps17
  go_wp2_with fail
  refine (checkGoodS ⟨_, _, _, rfl, HI.out⟩ (i : Int) g HG.out).mono ?_
  rintro e w2 ⟨rfl, hb2⟩
  have ht2 : Tn [] w1 w2 := Tn.of_below hb2 []
  have HI2 : Hid (IsAr tAS tSS w2 B (.slice (some ⟨gb, 0, none⟩) a.us.length c) fv fr a) := HI.out.tn ht2 (by simp)
  have HT2 : Hid (Tn [] w w2) := (Tn.of_below HB.out []).trans ht2 (by simp)
  obtain ⟨r0, r1, r2⟩ := row_cells rfl HI2.out.row i hi
  have f0 := row_frozen rfl HI2.out.row (i * 3)
  have f1 := row_frozen rfl HI2.out.row (i * 3 + 1)
  have f2 := row_frozen rfl HI2.out.row (i * 3 + 2)
  obtain ⟨c0, c1, c2, c3⟩ := HI2.out.cells
  have HK2 : Hid (Bk w2 w.heap.size 36 #[.int .i64 (i : Int), .int .i64 g]) := HK.out.tn ht2 (by simp)
  have k2 : w2.cell? ⟨w.heap.size, 0, none⟩ = some (.int .i64 (i : Int)) := HK2.out.cell 0
  have k3 : w2.cell? ⟨w.heap.size, 1, none⟩ = some (.int .i64 g) := HK2.out.cell 1
  clear ht2 hb2 HI HK HB HG
  generalize (slAt a.us i).val = vv at *
  generalize (slAt a.us i).given = bb at r1
  generalize (slAt a.us i).gen = g0 at r0
  generalize hnn : a.us.length = n at *
  go_wp2_with fail
  go_region
  obtain ⟨w3, hw3⟩ : ∃ w3, w3 = (((w2.setCell ⟨gb, i * 3, none⟩ (.int .i64 g)).setCell ⟨gb, i * 3 + 1, none⟩ (.bool false)).setCell ⟨gb, i * 3 + 2, none⟩ (.string ⟨#[]⟩)).drew := ⟨_, rfl⟩
  rw [← hw3]
  obtain ⟨hr3, hwt3, ht3⟩ := HI2.out.clearS hnn i hi g (.string ⟨#[]⟩) rfl
  have HW3 : Hid (Wt w3.drew B tAS (.int .i64 a.size) (.slice (some ⟨gb, 0, none⟩) n c) (.int .i64 a.stale) fv fr) := by rw [hw3]; exact ⟨hwt3.blk, hwt3.row, hwt3.ne, hwt3.len⟩
  have HR3 : Hid (w3.drew.ownsRow 0 tSS 3 (.slice (some ⟨gb, 0, none⟩) n c) (a.us.set i ⟨(slAt a.us i).gen, false, (.string ⟨#[]⟩)⟩).length (slCells (a.us.set i ⟨(slAt a.us i).gen, false, (.string ⟨#[]⟩)⟩))) := by rw [hw3, HGE.out]; exact hr3
  have HT3 : Hid (Tn [gb] w2 w3.drew) := by rw [hw3]; exact ht3.drew.drew
  have HK3 : Hid (Bk w3.drew w.heap.size 36 #[.int .i64 (i : Int), .int .i64 g]) := HK2.out.tn HT3.out (by have := HGB.out; simp; omega)
  have k4 : w3.cell? ⟨w.heap.size, 0, none⟩ = some (.int .i64 (i : Int)) := HK3.out.cell 0
  clear hr3 hwt3 ht3 hw3 r0 r1 r2 f0 f1 f2 c0 c1 c2 c3 k0 k1 k2 k3 hw1
  go_wp2_with fail
  go_region_held3 (fun w' => w'.cell? ⟨w.heap.size, 0, none⟩ = some (.int .i64 (i : Int))) (go_keep) (first | (go_at_call 40; refine (add_any HW3.out HI2.out.hp i HFL.out).mono ?_; rintro e w4 ⟨rfl, hw4⟩; have k5 : w4.cell? ⟨w.heap.size, 0, none⟩ = some (.int .i64 (i : Int)) := (wait_boxS hw4 HK3.out HLT.out.1 HLT.out.2).cell 0))
  have HE : Hid (ArT tAS tSS w w4 B (bsOf B (.slice (some ⟨gb, 0, none⟩) n c) fv) (a.free i (.string ⟨#[]⟩))) := free_endS hnn HI2.out hi HGV.out HT2.out HR3.out HT3.out hw4
  rw [← hnn] at HE
  clear HI2 HW3 HR3 HT3 HK2 HK3 hw4 k4 k5
  go_wp2
  go_ret
  exact ⟨rfl, HE.out⟩
end Go.Proofs.Ytfbmbjbokmomhaa
