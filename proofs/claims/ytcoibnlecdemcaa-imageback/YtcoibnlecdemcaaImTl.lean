/- What is told is held against the document's pairs. -/
import Derived.Test.YtcoibnlecdemcaaImIt
import Derived.Test.YtcoibnlecdemcaaKyA
namespace Go.Proofs.Ytcoibnlecdemcaa
open Go.RowKit Go.Shelf Go.Sort
attribute [local go_sem] Oper.semAt_some
set_option linter.unusedVariables false
set_option maxRecDepth 100000

theorem tn_drewN (w : World) (k : Nat) : Tn [] w (w.drewN k) := ⟨rfl, rfl, rfl, Nat.le_refl _, fun _ _ _ => rfl⟩

theorem pfx_snocS {L pre : List St} (h : pre <+: L) (hN : pre.length < L.length) (x y : St) (hy : L[pre.length]? = some y) : pre ++ [x] <+: L ↔ x = y := by
  obtain ⟨t, rfl⟩ := h
  cases t with
  | nil => simp at hN
  | cons z t =>
    have e : z = y := by simpa using hy
    subst e
    rw [List.prefix_append_right_inj, List.cons_prefix_cons]
    simp

/-- Between the rounds. -/
structure TlS (w W : World) (q : Option Addr) (m c : Nat) (stop : Int) (L pre : List St) : Prop where
  b0 : Boxed W w.heap.size 38 (.slice q m c)
  b1 : Boxed W (w.heap.size + 1) 3 (.int .i64 stop)
  b2 : Boxed W (w.heap.size + 1 + 1) 4 (.bool false)
  b3 : Boxed W (w.heap.size + 1 + 1 + 1) 3 (.int .i64 (pre.length : Int))
  below : Below w.heap.size w W
  pf : pre <+: L

section
variable {w W W' : World} {q : Option Addr} {m c : Nat} {stop : Int} {L pre : List St}

theorem TlS.abides {row : Option Nat} {k : Nat} (h : TlS w W q m c stop L pre) (hm : w.heap.size ≤ k) (hg : W.grownBy W' row) (hr : ∀ r, row = some r → k ≤ r ∧ ∃ o : Obj, W.heap[r]? = some o ∧ o.isCells = false) : TlS w W' q m c stop L pre where
  b0 := boxed_from h.b0 hg hr
  b1 := boxed_from h.b1 hg hr
  b2 := boxed_from h.b2 hg hr
  b3 := boxed_from h.b3 hg hr
  below := h.below.grown hg h.below.size (fun k hk => by have := (hr k hk).1; omega)
  pf := h.pf

theorem TlS.still (h : TlS w W q m c stop L pre) (ht : Tn [] W W') : TlS w W' q m c stop L pre where
  b0 := Bk.tn (show Bk W _ _ _ from h.b0) ht (by simp)
  b1 := Bk.tn (show Bk W _ _ _ from h.b1) ht (by simp)
  b2 := Bk.tn (show Bk W _ _ _ from h.b2) ht (by simp)
  b3 := Bk.tn (show Bk W _ _ _ from h.b3) ht (by simp)
  below := h.below.trans (ht.below h.below.size (by simp))
  pf := h.pf

theorem TlS.fin {S : List Nat} (h : TlS w W q m c stop L pre) (hS : ∀ b ∈ S, b < w.heap.size) (ht : Tn [w.heap.size + 1 + 1, w.heap.size + 1 + 1 + 1] W W') : KeepsOthers W W' ∧ KpP S W W' ∧ Below w.heap.size w W' := by
  have hs := h.below.size
  refine ⟨keeps_tn ht (fun y hy => ?_), KpP.of_tn ht (fun y hy => ?_), h.below.trans (ht.below hs (fun y hy => ?_))⟩
  · simp only [List.mem_cons, List.not_mem_nil, or_false] at hy
    rcases hy with rfl | rfl
    · exact ⟨_, h.b2, rfl⟩
    · exact ⟨_, h.b3, rfl⟩
  · have := hS y hy
    simp only [List.mem_cons, List.not_mem_nil, or_false]
    omega
  · simp only [List.mem_cons, List.not_mem_nil, or_false] at hy
    omega

/-- The number goes up. -/
theorem TlS.num {N : Nat} (h : TlS w W q m c stop L pre) (hN : pre.length = N) (x : St) (hp : pre ++ [x] <+: L) : TlS w (W.setCell ⟨w.heap.size + 1 + 1 + 1, 0, none⟩ (.int .i64 ((N : Int) + 1))) q m c stop L (pre ++ [x]) where
  b0 := h.b0.other (by omega) _
  b1 := h.b1.other (by omega) _
  b2 := h.b2.other (by omega) _
  b3 := by
    rw [List.length_append, hN, show ((N + [x].length : Nat) : Int) = (N : Int) + 1 by simp]
    exact h.b3.set _
  below := h.below.setCell (p := ⟨w.heap.size + 1 + 1 + 1, 0, none⟩) (by simp; omega) _
  pf := hp
end

theorem tls_start (w : World) (q : Option Addr) (m c : Nat) (stop : Int) (L : List St) : ∃ W, W = (((w.alloc (.cells #[.slice q m c] 38)).alloc (.cells #[.int .i64 stop] 3)).alloc (.cells #[.bool false] 4)).alloc (.cells #[.int .i64 0] 3) ∧ W.heap.size = w.heap.size + 4 ∧ TlS w W q m c stop L [] := by
  refine ⟨_, rfl, by simp, ?_⟩
  have c0 := Bk.new w 38 #[.slice q m c]
  have c1 := Bk.new (w.alloc (.cells #[.slice q m c] 38)) 3 #[.int .i64 stop]
  have c2 := Bk.new ((w.alloc (.cells #[.slice q m c] 38)).alloc (.cells #[.int .i64 stop] 3)) 4 #[.bool false]
  have c3 := Bk.new (((w.alloc (.cells #[.slice q m c] 38)).alloc (.cells #[.int .i64 stop] 3)).alloc (.cells #[.bool false] 4)) 3 #[.int .i64 0]
  simp only [World.size_alloc] at c1 c2 c3
  exact ⟨((c0.alloc _).alloc _).alloc _, (c1.alloc _).alloc _, c2.alloc _, c3, ((((Below.refl _ w).alloc (Nat.le_refl _) _).alloc (by simp) _).alloc (by simp; omega) _).alloc (by simp; omega) _, List.nil_prefix⟩

set_option maxHeartbeats 8000000 in
theorem lpairs_any {w : World} {b : Nat} {S : List Nat} {L : List St} (hF : Fi w b S L) {q : Option Addr} {m c : Nat} (hm : L.length = m) (hx : Sts w q L) (stop : Int) :
    Calls Try.prog 40 #[.func (.func 50) #[] #[.pointer (some ⟨b, 0, none⟩)], .slice q m c, .int .i64 stop] w fun r w' => r = .returned (.bool true) ∧ Below w.heap.size w w' := by
  refine (callsIn_wide (n := 9)).1 ?_
  refine callsIn_of_wp_marks Try.func40 rfl trivial ?_ rfl
  simp only [Try.ntmps40, List.size_toArray, List.length_cons, List.length_nil, Nat.reduceAdd, Nat.reduceSub, Array.replicate_succ, Array.replicate_zero, List.push_toArray, List.append_toArray, List.nil_append, List.cons_append]
  have HE : Hid (∀ W, Below w.heap.size w W → Sts W q L) := fun W hb => Els.below hx hb (Nat.le_refl _)
  have HFM : Hid (Fi w b S L) := hF
  have HLR : Hid (L.length ≤ 4398046511104) := hF.reach
  have HSL : Hid (∀ b ∈ S, b < w.heap.size) := hF.lt
  have HM : Hid (L.length = m) := hm
  clear hF hx hm
  gi_wp2_with fail
  obtain ⟨W4, hW4, hs4, hk4⟩ := tls_start w q m c stop L
  rw [← hW4]
  have hB4 := hk4.below
  clear hW4
  have hF4 : Fi W4 b S L := HFM.out.kp (KpP.of_below hB4 HSL.out)
  refine range_boxed ?A rfl (by omega) (gf := 50) (lb := #[.pointer (some ⟨b, 0, none⟩)]) rfl trivial (enters_of Try.func50 (by kernel_rfl) rfl)
    (pairs2_stops 8 (by omega) hF4) KpP.t (fun W l o o' hl _ _ _ k hk => World.putObj_heap_other (fun e => by
      subst e
      have := HSL.out _ hk
      omega)) (Below.refl _ _) (fun _ => rfl)
    (fun pre W => TlS w W q m c stop L pre)
    (fun cc pre W => (cc = .ret ∧ ∃ b, Boxed W (w.heap.size + 1 + 1) 4 (.bool b) ∧ (b = true ∨ ¬ pre <+: L)) ∧ Below w.heap.size w W)
    (fun s A B' row hs hg hr => hs.abides (k := W4.heap.size) (by omega) hg hr)
    (fun cc s A B row hs hg hr => by
      obtain ⟨⟨h1, b, h2, h3⟩, h4⟩ := hs
      exact ⟨⟨h1, b, boxed_from h2 hg hr, h3⟩, h4.grown hg h4.size (fun k hk => by have := (hr k hk).1; omega)⟩)
    hk4
    (fun x bx W => W4.heap.size ≤ bx ∧ Bk W bx 52 #[.string x.key, .string x.val, .int .i64 x.ts])
    (fun x bx _ A B' row hs hg hr => ⟨hs.1, bk_from hs.2 hg hr⟩)
    ?assign ?body ?done ?stop
  case assign =>
    rintro l pre x W K hL hK
    gi_wp2
    have ht : Tn [] W (W.alloc (.cells #[.string x.key, .string x.val, .int .i64 x.ts] 52)) := (Tn.refl _ _).alloc _
    obtain ⟨bx, hbx⟩ : ∃ bx, W.heap.size = bx := ⟨_, rfl⟩
    have kx : Bk (W.alloc (.cells #[.string x.key, .string x.val, .int .i64 x.ts] 52)) bx 52 #[.string x.key, .string x.val, .int .i64 x.ts] := by rw [← hbx]; exact Bk.new _ _ _
    have hs := hL.b3.lt
    have hle : W4.heap.size ≤ bx := by omega
    have hsl := HSL.out
    rw [hbx]
    refine hK bx _ ((keeps_tn ht (by simp)).from _) (KpP.of_tn ht (fun y hy => ⟨by have := hsl y hy; omega, by simp⟩)) (hL.still ht) ⟨hle, kx⟩
  case stop =>
    rintro D cc pre W hD hpre ⟨⟨rfl, b, hbx, hn⟩, hB⟩ hK
    obtain rfl : b = true := hn.elim id (fun h => absurd hpre h)
    have cr := hbx.cell
    gi_wp2
    refine ⟨by simp, .inl ⟨_, _, rfl, run_takeDeferred hK, ?_⟩⟩
    have hc5 := cell_kept cr (grownBy_putObj' _ D (.deferred none)) (fun r e => by cases e; exact ⟨_, hK, rfl⟩)
    refine ⟨.bool true, ?_, rfl, ?_⟩
    · simp [results, Try.f40, go_sem, hc5]
    · exact hB.trans ⟨rfl, rfl, rfl, by simp, fun k hk => World.putObj_heap_other (by omega)⟩
  case body =>
    rintro l pre x bx W hl hT ⟨hbx, kx⟩ hpre
    have HT : Hid (TlS w W q m c stop L pre) := hT
    have c0 := hT.b0.cell
    have c1 := hT.b1.cell
    have c2 := hT.b2.cell
    have c3 := hT.b3.cell
    have f2 := hT.b2.frozen
    have f3 := hT.b3.frozen
    obtain ⟨g, o, y, rfl, hy, a0, a1, a2⟩ := Sts.cells (HE.out W hT.below) hpre
    have HPF := pfx_snocS hT.pf hpre x y hy
    have d0 := kx.cell 0
    have d1 := kx.cell 1
    have d2 := kx.cell 2
    simp at d0 d1 d2
    have HLR2 := HLR.out
    clear kx hT hy
    obtain ⟨N, hN⟩ : ∃ N, pre.length = N := ⟨_, rfl⟩
    have HN : Hid (pre.length = N) := hN
    rw [hN] at c3 a0 a1 a2 hpre
    rw [HM.out] at hpre HLR2
    clear hN
    have hlt : (N : Int) < (m : Int) := by omega
    have h0N : (0 : Int) ≤ (N : Int) := by omega
    have hmN : ¬ m ≤ N := by omega
    have hmNi : ¬ (m : Int) ≤ (N : Int) := by omega
    have HNM : Hid (N < m) := hpre
    clear hpre
    obtain ⟨xk, xv, xt⟩ := x
    obtain ⟨yk, yv, yt⟩ := y
    simp only [Rk.St.mk.injEq] at HPF
    simp only at a0 a1 a2 d0 d1 d2
    have HPF : Hid _ := HPF
    by_cases e0 : xk = yk
    · subst e0
      by_cases e1 : xv = yv
      · subst e1
        by_cases e2 : xt = yt
        · subst e2
          have HP : Hid (pre ++ [(⟨xk, xv, xt⟩ : St)] <+: L) := HPF.out.2 ⟨rfl, rfl, rfl⟩
          clear HPF
          by_cases hst : stop = (N : Int) + 1
          · subst hst
            gi_wp2_with fail
            refine wpIn_region_quiet_round (by kernel_rfl) (by rfl) (by rintro ⟨a, w, h⟩; exact h) (by kernel_rfl) ?_
            repeat (go_big_quiet_step (fail))
            refine wpQuiet_nil ?_
            intro _ hw'
            obtain ⟨nq, hw''⟩ := hw'
            subst hw''
            gi_wp2
            obtain ⟨k1, k2, k3⟩ := HT.out.fin HSL.out (((((tn_drewN W _).mono (by simp)).setCell (.inl (by simp)) (.int .i64 ((N : Int) + 1))).setCell (.inl (by simp)) (.bool true)) : Tn _ W (World.setCell (World.setCell _ ⟨w.heap.size + 1 + 1 + 1, 0, none⟩ _) ⟨w.heap.size + 1 + 1, 0, none⟩ _))
            exact ⟨k1.from _, ⟨rfl, true, ((HT.out.still (tn_drewN _ _)).num HN.out _ HP.out).b2.set _, .inl rfl⟩, k3⟩
          · have hb : ((N : Int) + 1 == stop) = false := by simp; omega
            have hb2 : ¬ (N : Int) + 1 = stop := by omega
            clear hst
            gi_wp2_with fail
            refine wpIn_region_quiet_round (by kernel_rfl) (by rfl) (by rintro ⟨a, w, h⟩; exact h) (by kernel_rfl) ?_
            repeat (go_big_quiet_step (fail))
            refine wpQuiet_nil ?_
            intro _ hw'
            obtain ⟨nq, hw''⟩ := hw'
            subst hw''
            gi_wp2
            obtain ⟨k1, k2, k3⟩ := HT.out.fin HSL.out ((((tn_drewN W _).mono (by simp)).setCell (.inl (by simp)) (.int .i64 ((N : Int) + 1))) : Tn _ W (World.setCell _ ⟨w.heap.size + 1 + 1 + 1, 0, none⟩ _))
            exact ⟨k1.from _, k2, (HT.out.still (tn_drewN _ _)).num HN.out _ HP.out⟩
        · have HP : ¬ (pre ++ [(⟨xk, xv, xt⟩ : St)] <+: L) := fun h => e2 (HPF.out.1 h).2.2
          have HP : Hid _ := HP
          have hb1 : (xt == yt) = false := by simp [e2]
          clear e2
          gi_wp2_with fail
          refine wpIn_region_quiet_round (by kernel_rfl) (by rfl) (by rintro ⟨a, w, h⟩; exact h) (by kernel_rfl) ?_
          repeat (go_big_quiet_step (fail))
          refine wpQuiet_nil ?_
          intro _ hw'
          obtain ⟨nq, hw''⟩ := hw'
          subst hw''
          gi_wp2
          obtain ⟨k1, k2, k3⟩ := HT.out.fin HSL.out ((((tn_drewN W _).mono (by simp)).setCell (.inl (by simp)) (.bool false)) : Tn _ W (World.setCell _ ⟨w.heap.size + 1 + 1, 0, none⟩ _))
          exact ⟨k1.from _, ⟨rfl, false, (HT.out.still (tn_drewN _ _)).b2.set _, .inr HP.out⟩, k3⟩
      · have HP : ¬ (pre ++ [(⟨xk, xv, xt⟩ : St)] <+: L) := fun h => e1 (HPF.out.1 h).2.1
        have HP : Hid _ := HP
        have hb1 : (xv.toList == yv.toList) = false := by simp; exact fun h => e1 (Ky.toList_inj h)
        clear e1
        gi_wp2_with fail
        refine wpIn_region_quiet_round (by kernel_rfl) (by rfl) (by rintro ⟨a, w, h⟩; exact h) (by kernel_rfl) ?_
        repeat (go_big_quiet_step (fail))
        refine wpQuiet_nil ?_
        intro _ hw'
        obtain ⟨nq, hw''⟩ := hw'
        subst hw''
        gi_wp2
        obtain ⟨k1, k2, k3⟩ := HT.out.fin HSL.out ((((tn_drewN W _).mono (by simp)).setCell (.inl (by simp)) (.bool false)) : Tn _ W (World.setCell _ ⟨w.heap.size + 1 + 1, 0, none⟩ _))
        exact ⟨k1.from _, ⟨rfl, false, (HT.out.still (tn_drewN _ _)).b2.set _, .inr HP.out⟩, k3⟩
    · have HP : ¬ (pre ++ [(⟨xk, xv, xt⟩ : St)] <+: L) := fun h => e0 (HPF.out.1 h).1
      have HP : Hid _ := HP
      have hb1 : (xk.toList == yk.toList) = false := by simp; exact fun h => e0 (Ky.toList_inj h)
      clear e0
      gi_wp2_with fail
      refine wpIn_region_quiet_round (by kernel_rfl) (by rfl) (by rintro ⟨a, w, h⟩; exact h) (by kernel_rfl) ?_
      repeat (go_big_quiet_step (fail))
      refine wpQuiet_nil ?_
      intro _ hw'
      obtain ⟨nq, hw''⟩ := hw'
      subst hw''
      gi_wp2
      obtain ⟨k1, k2, k3⟩ := HT.out.fin HSL.out ((((tn_drewN W _).mono (by simp)).setCell (.inl (by simp)) (.bool false)) : Tn _ W (World.setCell _ ⟨w.heap.size + 1 + 1, 0, none⟩ _))
      exact ⟨k1.from _, ⟨rfl, false, (HT.out.still (tn_drewN _ _)).b2.set _, .inr HP.out⟩, k3⟩
  case done =>
    rintro D zs W hD rfl hT hK
    have HT : Hid (TlS w W q m c stop zs zs) := hT
    have c0 := hT.b0.cell
    have c1 := hT.b1.cell
    have c2 := hT.b2.cell
    have c3 := hT.b3.cell
    have f2 := hT.b2.frozen
    have hDn : D ≠ w.heap.size + 1 + 1 := by omega
    have hD2 : w.heap.size ≤ D := by omega
    rw [HM.out] at c3
    clear hT
    gi_wp2
    refine ⟨by simp, .inl ⟨_, _, rfl, run_takeDeferred ((Below.heap_setCell _ _ _ _ (by simpa using hDn)).trans hK), ?_⟩⟩
    refine ⟨.bool true, ?_, rfl, ?_⟩
    · have c4 := res_true (W' := W.setCell ⟨w.heap.size + 1 + 1, 0, none⟩ (.bool true)) HT.out.b2 rfl hDn
      simp [results, Try.f40, go_sem, c4]
    · exact res_below (b := w.heap.size + 1 + 1) HT.out.below (by omega) hD2 rfl rfl rfl rfl

end Go.Proofs.Ytcoibnlecdemcaa
