/- What is told is held against the document's. -/
import Derived.Test.YtndmcjkbbedoeaaEpPt
namespace Go.Proofs.Ytndmcjkbbedoeaa
open Go.RowKit Go.Shelf
attribute [local go_sem] Oper.semAt_some
set_option linter.unusedVariables false
set_option maxRecDepth 100000

theorem pfx_snoc {L pre : List (Nat × Rt)} (h : pre <+: L) (hN : pre.length < L.length) (x : Nat × Rt) : pre ++ [x] <+: L ↔ x = wAt L pre.length := by
  obtain ⟨t, rfl⟩ := h
  cases t with
  | nil => simp at hN
  | cons y t =>
    have e : wAt (pre ++ y :: t) pre.length = y := by simp [wAt, List.getD]
    rw [e, List.prefix_append_right_inj, List.cons_prefix_cons]
    simp

/-- In a round: a region that only reads. -/
theorem wpIn_region_quiet_round {P : Program} {l n id : Nat} {Q : Exit → Act → World → Prop} {a : Act} {w : World} {os : List Oper} (hm : P.follows .mixedOrders = true) (hd : noDefer os = true) (hq : ¬ LetsOut Q) (hB : Region.lexB .any os.toArray = true)
    (h : wpQuiet P os.toArray (fun w' => ∃ n, w' = w.drewN n) (fun a' => ∀ w', (∃ n, w' = w.drewN n) → Q .normal a' w') os a) : (Code.region id os.toArray true).wpIn (Fence.wide.inRound l) n P Q a w := by
  simp only [Region.lexB, Bool.and_eq_true] at hB
  refine wpIn_region_any hm (wpAnyIn_of_any (noDefer_out hd) hq _ _ _ _ (wpAny_of_quiet (C := fun w' => ∃ n, w' = w.drewN n) (Q := fun a' => ∀ w', (∃ n, w' = w.drewN n) → Q .normal a' w') (fun _ w' hw' h => h w' hw') _ _ _ _ ⟨1, rfl⟩ ?_))
  have := wpAnyQ_lex (C := fun w' => ∃ n, w' = w.drewN n) (md := .any) hB.1 os 0 (Array.replicate os.toArray.size false) a (by simp) (by simpa using hB.2) h
  simpa using this

/-- Between the rounds. -/
structure Td (w W : World) (R : Nat) (stop : Int) (L pre : List (Nat × Rt)) : Prop where
  b0 : Boxed W w.heap.size 25 (.pointer (some ⟨R, 0, none⟩))
  b1 : Boxed W (w.heap.size + 1) 3 (.int .i64 stop)
  b2 : Boxed W (w.heap.size + 1 + 1) 4 (.bool false)
  b3 : Boxed W (w.heap.size + 1 + 1 + 1) 3 (.int .i64 (pre.length : Int))
  below : Below w.heap.size w W
  pf : pre <+: L

theorem Td.abides {w W W' : World} {R : Nat} {stop : Int} {L pre : List (Nat × Rt)} {row : Option Nat} {m : Nat} (h : Td w W R stop L pre) (hm : w.heap.size ≤ m) (hg : W.grownBy W' row) (hr : ∀ r, row = some r → m ≤ r ∧ ∃ o : Obj, W.heap[r]? = some o ∧ o.isCells = false) : Td w W' R stop L pre where
  b0 := boxed_from h.b0 hg hr
  b1 := boxed_from h.b1 hg hr
  b2 := boxed_from h.b2 hg hr
  b3 := boxed_from h.b3 hg hr
  below := h.below.grown hg h.below.size (fun k hk => by have := (hr k hk).1; omega)
  pf := h.pf

theorem Td.still {w W W' : World} {R : Nat} {stop : Int} {L pre : List (Nat × Rt)} (h : Td w W R stop L pre) (ht : Tn [] W W') : Td w W' R stop L pre where
  b0 := Bk.tn (show Bk W _ _ _ from h.b0) ht (by simp)
  b1 := Bk.tn (show Bk W _ _ _ from h.b1) ht (by simp)
  b2 := Bk.tn (show Bk W _ _ _ from h.b2) ht (by simp)
  b3 := Bk.tn (show Bk W _ _ _ from h.b3) ht (by simp)
  below := h.below.trans (ht.below h.below.size (by simp))
  pf := h.pf

theorem td_start (w : World) (R : Nat) (stop : Int) (L : List (Nat × Rt)) : ∃ W, W = (((w.alloc (.cells #[.pointer (some ⟨R, 0, none⟩)] 25)).alloc (.cells #[.int .i64 stop] 3)).alloc (.cells #[.bool false] 4)).alloc (.cells #[.int .i64 0] 3) ∧ W.heap.size = w.heap.size + 4 ∧ Td w W R stop L [] := by
  refine ⟨_, rfl, by simp, ?_⟩
  have c0 := Bk.new w 25 #[.pointer (some ⟨R, 0, none⟩)]
  have c1 := Bk.new (w.alloc (.cells #[.pointer (some ⟨R, 0, none⟩)] 25)) 3 #[.int .i64 stop]
  have c2 := Bk.new ((w.alloc (.cells #[.pointer (some ⟨R, 0, none⟩)] 25)).alloc (.cells #[.int .i64 stop] 3)) 4 #[.bool false]
  have c3 := Bk.new (((w.alloc (.cells #[.pointer (some ⟨R, 0, none⟩)] 25)).alloc (.cells #[.int .i64 stop] 3)).alloc (.cells #[.bool false] 4)) 3 #[.int .i64 0]
  simp only [World.size_alloc] at c1 c2 c3
  exact ⟨((c0.alloc _).alloc _).alloc _, (c1.alloc _).alloc _, c2.alloc _, c3, ((((Below.refl _ w).alloc (Nat.le_refl _) _).alloc (by simp) _).alloc (by simp; omega) _).alloc (by simp; omega) _, List.nil_prefix⟩

theorem Td.fin {w W W' : World} {R : Nat} {stop : Int} {L pre : List (Nat × Rt)} {S : List Nat} (h : Td w W R stop L pre) (hS : ∀ b ∈ S, b < w.heap.size) (ht : Tn [w.heap.size + 1 + 1, w.heap.size + 1 + 1 + 1] W W') : KeepsOthers W W' ∧ KpP S W W' ∧ Below w.heap.size w W' := by
  have hs := h.below.size
  refine ⟨keeps_tn ht (fun y hy => ?_), KpP.of_tn ht (fun y hy => ?_), h.below.trans (ht.below hs (fun y hy => ?_))⟩
  · simp only [List.mem_cons, List.not_mem_nil, or_false] at hy
    rcases hy with rfl | rfl
    · exact ⟨_, h.b2, rfl⟩
    · exact ⟨_, h.b3, rfl⟩
  · have := hS y hy
    simp only [List.mem_cons, List.not_mem_nil, or_false]
    omega
  · simp only [List.mem_cons, List.not_mem_nil, or_false] at hy
    omega

/-- The number goes up. -/
theorem Td.num {w W : World} {R N : Nat} {stop : Int} {L pre : List (Nat × Rt)} (h : Td w W R stop L pre) (hN : pre.length = N) (x : Nat × Rt) (hp : pre ++ [x] <+: L) : Td w (W.setCell ⟨w.heap.size + 1 + 1 + 1, 0, none⟩ (.int .i64 ((N : Int) + 1))) R stop L (pre ++ [x]) where
  b0 := h.b0.other (by omega) _
  b1 := h.b1.other (by omega) _
  b2 := h.b2.other (by omega) _
  b3 := by
    rw [List.length_append, hN, show ((N + [x].length : Nat) : Int) = (N : Int) + 1 by simp]
    exact h.b3.set _
  below := h.below.setCell (p := ⟨w.heap.size + 1 + 1 + 1, 0, none⟩) (by simp; omega) _
  pf := hp

set_option maxHeartbeats 8000000 in
theorem told_any {w : World} {R : Nat} {rs : List Nat} {e : Ep} (h : Ren w R rs e) {y1 y3 : Nat} {S : List Nat} (hlim : Lim w y1 y3 S e.limbo) (stop : Int) :
    Calls Try.prog 30 #[.func (.func 38) #[] #[.pointer (some ⟨y1, 0, none⟩), .pointer (some ⟨y3, 0, none⟩)], .pointer (some ⟨R, 0, none⟩), .int .i64 stop] w fun r w' => r = .returned (.bool true) ∧ Below w.heap.size w w' := by
  obtain ⟨v, atl, rfl, h⟩ := h
  obtain ⟨p, c, hv, -⟩ := row_form h.row
  subst hv
  refine (callsIn_wide (n := 9)).1 ?_
  refine callsIn_of_wp_marks Try.func30 rfl trivial ?_ rfl
  simp only [Try.ntmps30, List.size_toArray, List.length_cons, List.length_nil, Nat.reduceAdd, Nat.reduceSub, Array.replicate_succ, Array.replicate_zero, List.push_toArray, List.append_toArray, List.nil_append, List.cons_append]
  have HE : Hid (∀ W, Below w.heap.size w W → W.cell? ⟨R, 35, none⟩ = some (.slice p e.limbo.length c) ∧ Wr W (.slice p e.limbo.length c) e.limbo) := fun W hb => by
    have := h.tn (Tn.of_below hb []) (by simp)
    exact ⟨this.cLim, this.row⟩
  have HLIM : Hid (Lim w y1 y3 S e.limbo) := hlim
  have HLR : Hid (e.limbo.length ≤ 3600000000000) := hlim.reach
  have HSL : Hid (∀ b ∈ S, b < w.heap.size) := hlim.lt
  clear h hlim
  generalize e.limbo = L at *
  gi_wp2_with fail
  obtain ⟨W4, hW4, hs4, hk4⟩ := td_start w R stop L
  rw [← hW4]
  have hB4 := hk4.below
  clear hW4
  have hlim4 : Lim W4 y1 y3 S L := HLIM.out.kp (KpP.of_below hB4 HSL.out)
  refine range_boxed ?A rfl (by omega) (gf := 38) (lb := #[.pointer (some ⟨y1, 0, none⟩), .pointer (some ⟨y3, 0, none⟩)]) rfl trivial (enters_of Try.func38 (by kernel_rfl) rfl)
    (lim_stops 8 (by omega) hlim4) KpP.t (fun W l o o' hl _ _ _ k hk => World.putObj_heap_other (fun e => by
      subst e
      have := HSL.out _ hk
      omega)) (Below.refl _ _) (fun _ => rfl)
    (fun pre W => Td w W R stop L pre)
    (fun cc pre W => (cc = .ret ∧ ∃ b, Boxed W (w.heap.size + 1 + 1) 4 (.bool b) ∧ (b = true ∨ ¬ pre <+: L)) ∧ Below w.heap.size w W)
    (fun s A B' row hs hg hr => hs.abides (m := W4.heap.size) (by omega) hg hr)
    (fun cc s A B row hs hg hr => by
      obtain ⟨⟨h1, b, h2, h3⟩, h4⟩ := hs
      exact ⟨⟨h1, b, boxed_from h2 hg hr, h3⟩, h4.grown hg h4.size (fun k hk => by have := (hr k hk).1; omega)⟩)
    hk4
    (fun x bx W => W4.heap.size ≤ bx ∧ Bk W bx 31 #[.int .i64 x.2.k, .int .i64 x.2.s, .int .i64 x.2.g])
    (fun x bx _ A B' row hs hg hr => ⟨hs.1, bk_from hs.2 hg hr⟩)
    ?assign ?body ?done ?stop
  case assign =>
    rintro l pre x W K hL hK
    gi_wp2
    have ht : Tn [] W (W.alloc (.cells #[.int .i64 x.2.k, .int .i64 x.2.s, .int .i64 x.2.g] 31)) := (Tn.refl _ _).alloc _
    obtain ⟨bx, hbx⟩ : ∃ bx, W.heap.size = bx := ⟨_, rfl⟩
    have kx : Bk (W.alloc (.cells #[.int .i64 x.2.k, .int .i64 x.2.s, .int .i64 x.2.g] 31)) bx 31 #[.int .i64 x.2.k, .int .i64 x.2.s, .int .i64 x.2.g] := by rw [← hbx]; exact Bk.new _ _ _
    have hs := hL.b3.lt
    have hle : W4.heap.size ≤ bx := by omega
    have hsl := HSL.out
    rw [hbx]
    refine hK bx _ ((keeps_tn ht (by simp)).from _) (KpP.of_tn ht (fun y hy => ⟨by have := hsl y hy; omega, by simp⟩)) (hL.still ht) ⟨hle, kx⟩
  case stop =>
    rintro D cc pre W hD hpre ⟨⟨rfl, b, hbx, hn⟩, hB⟩ hK
    obtain rfl : b = true := hn.elim id (fun h => absurd hpre h)
    have cr := hbx.cell
    gi_wp2
    refine ⟨by simp, .inl ⟨_, _, rfl, run_takeDeferred hK, ?_⟩⟩
    have hc5 := cell_kept cr (grownBy_putObj' _ D (.deferred none)) (fun r e => by cases e; exact ⟨_, hK, rfl⟩)
    refine ⟨.bool true, ?_, rfl, ?_⟩
    · simp [results, Try.f30, go_sem, hc5]
    · exact hB.trans ⟨rfl, rfl, rfl, by simp, fun k hk => World.putObj_heap_other (by omega)⟩
  case body =>
    rintro l pre x bx W hl hT ⟨hbx, kx⟩ hpre
    have HT : Hid (Td w W R stop L pre) := hT
    have c0 := hT.b0.cell
    have c1 := hT.b1.cell
    have c2 := hT.b2.cell
    have c3 := hT.b3.cell
    have f2 := hT.b2.frozen
    have f3 := hT.b3.frozen
    obtain ⟨r0, hrow⟩ := HE.out W hT.below
    obtain ⟨g, c', hg⟩ := row_some hrow (by omega)
    cases hg
    have hcell := hrow.cell rfl pre.length hpre
    have HPF := pfx_snoc hT.pf hpre x
    have d0 := kx.cell 0
    have d1 := kx.cell 1
    have d2 := kx.cell 2
    simp at d0 d1 d2
    have HLR2 := HLR.out
    clear kx hT hrow
    obtain ⟨N, hN⟩ : ∃ N, pre.length = N := ⟨_, rfl⟩
    have HN : Hid (pre.length = N) := hN
    rw [hN] at c3 hcell HPF hpre
    obtain ⟨m, hm⟩ : ∃ m, L.length = m := ⟨_, rfl⟩
    rw [hm] at r0 hpre HLR2
    clear hN hm
    obtain ⟨a0, a1, a2, a3⟩ := hcell
    have hlt : (N : Int) < (m : Int) := by omega
    have h0N : (0 : Int) ≤ (N : Int) := by omega
    have hmN : ¬ m ≤ N := by omega
    have hmNi : ¬ (m : Int) ≤ (N : Int) := by omega
    have HNM : Hid (N < m) := hpre
    clear hpre
    obtain ⟨y, hy⟩ : ∃ y, wAt L N = y := ⟨_, rfl⟩
    rw [hy] at a0 a1 a2 a3 HPF
    clear hy
    obtain ⟨xn, ⟨xk, xs, xg⟩⟩ := x
    obtain ⟨yn, ⟨yk, ys, yg⟩⟩ := y
    simp only [Prod.mk.injEq, Rt.mk.injEq] at HPF
    simp only at a0 a1 a2 a3 d0 d1 d2
    have HPF : Hid _ := HPF
    by_cases e0 : xn = yn
    · subst e0
      by_cases e1 : xk = yk
      · subst e1
        by_cases e2 : xs = ys
        · subst e2
          by_cases e3 : xg = yg
          · subst e3
            have HP : Hid (pre ++ [(xn, (⟨xk, xs, xg⟩ : Rt))] <+: L) := HPF.out.2 ⟨rfl, rfl, rfl, rfl⟩
            clear HPF
            by_cases hst : stop = (N : Int) + 1
            · subst hst
              gi_wp2_with fail
              refine wpIn_region_quiet_round (by kernel_rfl) (by rfl) (by rintro ⟨a, w, h⟩; exact h) (by kernel_rfl) ?_
              repeat (go_big_quiet_step (fail))
              refine wpQuiet_nil ?_
              intro _ hw'
              obtain ⟨nq, hw''⟩ := hw'
              subst hw''
              gi_wp2
              obtain ⟨k1, k2, k3⟩ := HT.out.fin HSL.out (((((tn_drewN W _).mono (by simp)).setCell (.inl (by simp)) (.int .i64 ((N : Int) + 1))).setCell (.inl (by simp)) (.bool true)) : Tn _ W (World.setCell (World.setCell _ ⟨w.heap.size + 1 + 1 + 1, 0, none⟩ _) ⟨w.heap.size + 1 + 1, 0, none⟩ _))
              exact ⟨k1.from _, ⟨rfl, true, ((HT.out.still (tn_drewN _ _)).num HN.out _ HP.out).b2.set _, .inl rfl⟩, k3⟩
            · have hb : ((N : Int) + 1 == stop) = false := by simp; omega
              have hb2 : ¬ (N : Int) + 1 = stop := by omega
              clear hst
              gi_wp2_with fail
              refine wpIn_region_quiet_round (by kernel_rfl) (by rfl) (by rintro ⟨a, w, h⟩; exact h) (by kernel_rfl) ?_
              repeat (go_big_quiet_step (fail))
              refine wpQuiet_nil ?_
              intro _ hw'
              obtain ⟨nq, hw''⟩ := hw'
              subst hw''
              gi_wp2
              obtain ⟨k1, k2, k3⟩ := HT.out.fin HSL.out ((((tn_drewN W _).mono (by simp)).setCell (.inl (by simp)) (.int .i64 ((N : Int) + 1))) : Tn _ W (World.setCell _ ⟨w.heap.size + 1 + 1 + 1, 0, none⟩ _))
              exact ⟨k1.from _, k2, (HT.out.still (tn_drewN _ _)).num HN.out _ HP.out⟩
          · have HP : ¬ (pre ++ [(xn, (⟨xk, xs, xg⟩ : Rt))] <+: L) := fun h => e3 (HPF.out.1 h).2.2.2
            have HP : Hid _ := HP
            have hb1 : (xg == yg) = false := by simp [e3]
            clear e3
            gi_wp2_with fail
            refine wpIn_region_quiet_round (by kernel_rfl) (by rfl) (by rintro ⟨a, w, h⟩; exact h) (by kernel_rfl) ?_
            repeat (go_big_quiet_step (fail))
            refine wpQuiet_nil ?_
            intro _ hw'
            obtain ⟨nq, hw''⟩ := hw'
            subst hw''
            gi_wp2
            obtain ⟨k1, k2, k3⟩ := HT.out.fin HSL.out ((((tn_drewN W _).mono (by simp)).setCell (.inl (by simp)) (.bool false)) : Tn _ W (World.setCell _ ⟨w.heap.size + 1 + 1, 0, none⟩ _))
            exact ⟨k1.from _, ⟨rfl, false, (HT.out.still (tn_drewN _ _)).b2.set _, .inr HP.out⟩, k3⟩
        · have HP : ¬ (pre ++ [(xn, (⟨xk, xs, xg⟩ : Rt))] <+: L) := fun h => e2 (HPF.out.1 h).2.2.1
          have HP : Hid _ := HP
          have hb1 : (xs == ys) = false := by simp [e2]
          clear e2
          gi_wp2_with fail
          refine wpIn_region_quiet_round (by kernel_rfl) (by rfl) (by rintro ⟨a, w, h⟩; exact h) (by kernel_rfl) ?_
          repeat (go_big_quiet_step (fail))
          refine wpQuiet_nil ?_
          intro _ hw'
          obtain ⟨nq, hw''⟩ := hw'
          subst hw''
          gi_wp2
          obtain ⟨k1, k2, k3⟩ := HT.out.fin HSL.out ((((tn_drewN W _).mono (by simp)).setCell (.inl (by simp)) (.bool false)) : Tn _ W (World.setCell _ ⟨w.heap.size + 1 + 1, 0, none⟩ _))
          exact ⟨k1.from _, ⟨rfl, false, (HT.out.still (tn_drewN _ _)).b2.set _, .inr HP.out⟩, k3⟩
      · have HP : ¬ (pre ++ [(xn, (⟨xk, xs, xg⟩ : Rt))] <+: L) := fun h => e1 (HPF.out.1 h).2.1
        have HP : Hid _ := HP
        have hb1 : (xk == yk) = false := by simp [e1]
        clear e1
        gi_wp2_with fail
        refine wpIn_region_quiet_round (by kernel_rfl) (by rfl) (by rintro ⟨a, w, h⟩; exact h) (by kernel_rfl) ?_
        repeat (go_big_quiet_step (fail))
        refine wpQuiet_nil ?_
        intro _ hw'
        obtain ⟨nq, hw''⟩ := hw'
        subst hw''
        gi_wp2
        obtain ⟨k1, k2, k3⟩ := HT.out.fin HSL.out ((((tn_drewN W _).mono (by simp)).setCell (.inl (by simp)) (.bool false)) : Tn _ W (World.setCell _ ⟨w.heap.size + 1 + 1, 0, none⟩ _))
        exact ⟨k1.from _, ⟨rfl, false, (HT.out.still (tn_drewN _ _)).b2.set _, .inr HP.out⟩, k3⟩
    · have HP : ¬ (pre ++ [(xn, (⟨xk, xs, xg⟩ : Rt))] <+: L) := fun h => e0 (HPF.out.1 h).1
      have HP : Hid _ := HP
      have hb1 : ((xn : Int) != (yn : Int)) = true := by simp; omega
      clear e0
      gi_wp2_with fail
      refine wpIn_region_quiet_round (by kernel_rfl) (by rfl) (by rintro ⟨a, w, h⟩; exact h) (by kernel_rfl) ?_
      repeat (go_big_quiet_step (fail))
      refine wpQuiet_nil ?_
      intro _ hw'
      obtain ⟨nq, hw''⟩ := hw'
      subst hw''
      gi_wp2
      obtain ⟨k1, k2, k3⟩ := HT.out.fin HSL.out ((((tn_drewN W _).mono (by simp)).setCell (.inl (by simp)) (.bool false)) : Tn _ W (World.setCell _ ⟨w.heap.size + 1 + 1, 0, none⟩ _))
      exact ⟨k1.from _, ⟨rfl, false, (HT.out.still (tn_drewN _ _)).b2.set _, .inr HP.out⟩, k3⟩
  case done =>
    rintro D zs W hD rfl hT hK
    have HT : Hid (Td w W R stop zs zs) := hT
    have c0 := hT.b0.cell
    have c1 := hT.b1.cell
    have c2 := hT.b2.cell
    have c3 := hT.b3.cell
    have f2 := hT.b2.frozen
    obtain ⟨r0, -⟩ := HE.out W hT.below
    have hDn : D ≠ w.heap.size + 1 + 1 := by omega
    have hD2 : w.heap.size ≤ D := by omega
    have hmix : Try.prog.follows .mixedOrders = true := by kernel_rfl
    obtain ⟨m, hm⟩ : ∃ m, zs.length = m := ⟨_, rfl⟩
    rw [hm] at r0 c3
    clear hT hm
    gi_wp2_with fail
    first | gi_region_with_o (skip) | fail
    all_goals gi_wp2
    all_goals
      refine ⟨by simp, .inl ⟨_, _, rfl, run_takeDeferred ((Below.heap_setCell _ _ _ _ (by simpa using hDn)).trans hK), ?_⟩⟩
      refine ⟨.bool true, ?_, rfl, ?_⟩
      · have c4 := res_true (W' := (W.setCell ⟨w.heap.size + 1 + 1, 0, none⟩ (.bool true)).drew) HT.out.b2 rfl hDn
        simp [results, Try.f30, go_sem, c4]
      · exact res_below (b := w.heap.size + 1 + 1) HT.out.below (by omega) hD2 rfl rfl rfl rfl

end Go.Proofs.Ytndmcjkbbedoeaa
