/- The document's scheduler: a step. -/
import Derived.Test.YtnjokhdedgdjjaaSdR3
namespace Go.Proofs.Ytnjokhdedgdjjaa
open Go.RowKit Go.Maps
set_option linter.unusedVariables false
set_option maxRecDepth 100000

theorem stepRo {ops : Array Oper} {o : Oper} {a : Act} {w : World} {K : Act → World → Prop} {Q : Exit → Act → World → Prop} {E : Prop}
    (hg : o.guard = none) (s x : Operand) (t : TypeId) (ho : o.op = .call { callee := .builtin .append, args := #[s, x], argTypes := #[t, t] })
    (e : TypeId) (z : Value) (bytes : Nat) (ht : Try.prog.underlying t = some (.slice e)) (hinfo : (Try.prog.info? e).map (fun i => (i.zero, i.size, i.bytes)) = some (some z, 1, bytes)) (hzs : z.cells.size = 1)
    (v : Value) (xs : List Value) (hs : a.eval s = v) (hown : Ro w e v xs)
    (ad : Addr) (c : Nat) (u : Value) (hx : a.eval x = .slice (some ad) 1 c) (hu : w.cell? ad = some u) (h1 : u.oneCell' = true)
    (h63 : xs.length + 1 ≤ maxLen) (hbytes : (xs.length + 1) * bytes ≤ 140737488355328)
    (hK : ∀ v' w', Ro w' e v' (xs ++ [u]) → Tn v.ownBlock.toList w w' → Nw w v v' → K (a.put o.dst v') w') :
    if Region.wanted o (yielded ops a.tmps) = true then Oper.wp Try.prog o a w K Q else E := by
  obtain ⟨i0, hi, hz0, hz1, hz2⟩ := info_parts hinfo
  have hw : Region.wanted o (yielded ops a.tmps) = true := by simp [Region.wanted, hg]
  rw [if_pos hw]
  obtain ⟨v', w', hr, h2, h3, h4⟩ := run_append_ro hown t o.type i0 z bytes ht hi hz0 hz1 hz2 hzs ad c u hu h1 h63 hbytes
  unfold Oper.wp execOp
  simp only [ho, resolve, invoke, builtin, Sem.run_bind, Sem.run_pure, Result.andThen_ok, List.map_toArray, List.map_cons, List.map_nil, hs, hx, hr]
  exact hK v' w' h2 h3 h4

theorem Ro.shape {w : World} {e : TypeId} {v : Value} {xs : List Value} (h : Ro w e v xs) : ∃ p n c, v = .slice p n c := by
  obtain ⟨p, c, h, -⟩ := h.form
  exact ⟨p, _, c, h⟩

section
variable {w w' : World} {r : Gr} {s : Sc}

def Sc.ups (s : Sc) : Prop := ∀ f ∈ s.fl, 1 ≤ f.num ∧ f.num ≤ s.done.length

set_option maxHeartbeats 1000000 in
theorem rat_any (h : Rs w r s) (hr : (s.fl.map Fb.num).Pairwise (· < ·)) (hup : s.ups) (hsm : s.small) {i : Nat} {f : Fb} (hi : s.fl[i]? = some f) (hl : s.fl.length ≤ 4096) (hb : s.box.length ≤ 4096) (hd : s.done.length ≤ 4611686018427387904) {ov : Bool} (hov : ov = decide (f.left ≤ 1)) :
    Calls Try.prog 45 #[.pointer (some ⟨r.R, 0, none⟩), .int .i64 (i : Int)] w fun e w' => e = .returned (.bool ov) ∧ ∃ r', Rs w' r' (s.adv f) ∧ RT w w' r r' := by
  have hlt := (List.getElem?_eq_some_iff.1 hi).1
  have hfm := List.mem_of_getElem? hi
  obtain ⟨hn1, hn2⟩ := hup f hfm
  have hsf := hsm f hfm
  obtain ⟨j, hj⟩ : ∃ j, f.num = j + 1 := ⟨f.num - 1, by omega⟩
  obtain ⟨y, hy⟩ : ∃ y, s.done[j]? = some y := ⟨_, List.getElem?_eq_getElem (by omega)⟩
  have hyD : s.done.getD (f.num - 1) 0 = y := by rw [hj]; simp [List.getD, hy]
  -- the steps
  obtain ⟨h1, t1⟩ := h.setSteps (wrap64 (s.steps + 1))
  have c5 := h.c5
  have f5 : w.frozen? ⟨r.R, 5, none⟩ = false := h.blk.frozen 5
  obtain ⟨w1, hw1⟩ : ∃ w1, w.setCell ⟨r.R, 5, none⟩ (.int .i64 (wrap64 (s.steps + 1))) = w1 := ⟨_, rfl⟩
  rw [hw1] at h1 t1
  -- what it has done
  obtain ⟨Gd, kd, hvd⟩ := row_some h.dn (by omega)
  obtain ⟨h2, t2⟩ := h1.setDid hvd j (wrap64 (y + 1))
  have d3 := h1.c3
  have d2 := h1.c2
  obtain ⟨G, k, hv, hk, x0, -, -, -⟩ := h1.fcell hi
  have dj : w1.cell? ⟨Gd, j, none⟩ = some (.int .i64 y) := by
    have q := h1.dn
    rw [hvd] at q
    rw [World.ownsRow.cellAt q j (by show j < s.done.length * 1; omega)]
    simp [intz, hy]
  have fj : w1.frozen? ⟨Gd, j, none⟩ = false := by
    have q := h1.dn
    rw [hvd] at q
    exact World.ownsRow.frozenAt q _
  have hv' : r.va = .slice (some ⟨G, 0, none⟩) s.fl.length k := hv
  rw [hv'] at d2
  rw [hvd] at d3
  have h2d : Rq (w1.setCell ⟨Gd, j, none⟩ (.int .i64 (wrap64 (y + 1)))).drew r s.done.length { s with steps := wrap64 (s.steps + 1), done := s.done.set j (wrap64 (y + 1)) } := h2.drew 1
  have t2d : Tn [Gd] w1 (w1.setCell ⟨Gd, j, none⟩ (.int .i64 (wrap64 (y + 1)))).drew := t2.drew
  obtain ⟨w2, hw2⟩ : ∃ w2, (w1.setCell ⟨Gd, j, none⟩ (.int .i64 (wrap64 (y + 1)))).drew = w2 := ⟨_, rfl⟩
  rw [hw2] at h2d t2d
  obtain ⟨G', k', hv2, hk', -, x1, -, xf⟩ := h2d.fcell hi
  have eG : G' = G ∧ k' = k := by
    have := hv'.symm.trans hv2
    simp at this
    exact ⟨this.1.symm, this.2.symm⟩
  obtain ⟨rfl, rfl⟩ := eG
  have e2 := h2d.c2
  rw [hv'] at e2
  have hT2 : Tn (rt r) w w2 := (t1.mono (by simpa using mem_rtR)).trans t2d (fun x hx => .inl (by simp at hx; subst hx; exact mem_rtD (by rw [hvd]; rfl)))
  have w1f : wrap64 (((j + 1 : Nat) : Int) - 1) = (j : Int) := by unfold wrap64; omega
  have b1 : (0 : Int) ≤ (i : Int) := by omega
  have b2 : (i : Int) < ((s.fl.length : Nat) : Int) := by omega
  have b3 : (0 : Int) ≤ (j : Int) := by omega
  have b4 : (j : Int) < ((s.done.length : Nat) : Int) := by omega
  rw [hj] at x0
  have HADV : Hid ((s.adv f).done = s.done.set j (wrap64 (y + 1)) ∧ (s.adv f).steps = wrap64 (s.steps + 1) ∧ (s.adv f).room = s.room ∧ (s.adv f).fl = (if 1 < f.left then s.fl.map (less f.num) else s.fl.filter fun x => x.num != f.num) ∧ (s.adv f).box = if 1 < f.left then s.box else s.box ++ [f.num]) := by
    refine ⟨?_, rfl, rfl, rfl, rfl⟩
    show s.done.set (f.num - 1) (wrap64 (s.done.getD (f.num - 1) 0 + 1)) = _
    rw [hyD, hj]
    rfl
  have HH : Hid (Rq w2 r s.done.length { s with steps := wrap64 (s.steps + 1), done := s.done.set j (wrap64 (y + 1)) } ∧ Tn (rt r) w w2 ∧ (s.fl.map Fb.num).Pairwise (· < ·) ∧ s.fl[i]? = some f ∧ r.va = .slice (some ⟨G', 0, none⟩) s.fl.length k') := ⟨h2d, hT2, hr, hi, hv'⟩
  have HLEN : Hid (s.done.length = (s.adv f).done.length) := by
    show _ = _
    rw [adv_len]
  by_cases hleft : 1 < f.left
  · have eo : ov = false := by rw [hov]; simp; omega
    subst eo
    obtain ⟨h3, t3⟩ := h2d.setLeft hv' hi (f.left - 1)
    have wl : wrap64 (f.left - 1) = f.left - 1 := by unfold wrap64; omega
    have HE : Hid (∃ r', Rs (w2.setCell ⟨G', i * 3 + 1, none⟩ (.int .i64 (f.left - 1))) r' (s.adv f) ∧ RT w (w2.setCell ⟨G', i * 3 + 1, none⟩ (.int .i64 (f.left - 1))) r r') := by
      refine ⟨r, ?_, ⟨hT2.trans t3 (fun x hx => .inl (by simp at hx; subst hx; exact mem_rtA (by rw [hv']; rfl))), rfl, fun x hx => .inl hx⟩⟩
      unfold Rs
      rw [← HLEN.out]
      refine Rq.congr h3 HADV.out.2.2.1 HADV.out.1 ?_ ?_ HADV.out.2.1
      · rw [HADV.out.2.2.2.1, if_pos hleft]
        exact (set_less hr hi).symm
      · rw [HADV.out.2.2.2.2, if_pos hleft]
    generalize f.left = fl at *
    generalize s.fl.length = n at *
    generalize s.done.length = nd at *
    generalize hcj : ((j + 1 : Nat) : Int) = cj at *
    clear h h1 h2 h3 h2d t1 t2 t2d t3 hT2 HADV HH HLEN hcj hr hup hsm hi hfm hn1 hn2 hj hy hyD hv hv2 hv' hvd hov
    go_enter Try.func45, Try.ntmps45
    go_wp2_with fail
    go_region
    go_wp2
    go_ret
    exact ⟨rfl, HE.out⟩
  · have eo : ov = true := by rw [hov]; simp; omega
    subst eo
    obtain ⟨pe, ce, hve, hce, hpe⟩ := h2d.en.form
    have hbl : (ints s.box).length = s.box.length := ints_len _
    obtain ⟨nb, hnb⟩ : ∃ nb, s.box.length = nb := ⟨_, rfl⟩
    have hve' : r.ve = .slice pe nb ce := by rw [hve, ← hnb]; exact congrArg (fun z => Value.slice pe z ce) hbl
    have e4 := h2d.c4
    rw [hve'] at e4
    have x0' : w2.cell? ⟨G', i * 3, none⟩ = some (.int .i64 ((j + 1 : Nat) : Int)) := by
      obtain ⟨G2, k2, q1, -, q2, -⟩ := h2d.fcell hi
      have := hv'.symm.trans q1
      simp at this
      rw [this.1, ← hj]
      exact q2
    have HO : Hid (∀ W', Tn [] w2 W' → Ro W' 3 (.slice pe nb ce) (ints s.box)) := fun W' ht => by
      have := h2d.en.tn ht (by simp)
      rw [hve'] at this
      exact this
    have HP : Hid (∀ {W w3 : World} {v3 : Value} (ho : Ro w3 3 v3 (ints s.box ++ [.int .i64 ((j + 1 : Nat) : Int)])) (ht3 : Tn (Value.slice pe nb ce).ownBlock.toList W w3) (hb3 : Nw W (.slice pe nb ce) v3), Tn [] w2 W → w3.cell? ⟨r.R, 4, none⟩ = some (.slice pe nb ce) ∧ w3.frozen? ⟨r.R, 4, none⟩ = false ∧ Rq (w3.setCell ⟨r.R, 4, none⟩ v3) { r with ve := v3 } s.done.length { s with steps := wrap64 (s.steps + 1), done := s.done.set j (wrap64 (y + 1)), box := s.box ++ [f.num] } ∧ RT w (w3.setCell ⟨r.R, 4, none⟩ v3) r { r with ve := v3 }) := by
      intro W w3 v3 ho ht3 hb3 hT
      have t03 : Tn r.ve.ownBlock.toList w2 w3 := by
        rw [hve']
        exact (hT.mono (by simp)).trans ht3 (fun x hx => .inl hx)
      have hb := HH.out.1.blk.tn t03 (by rw [opt_toList]; exact fun e => HH.out.1.ne.2.2.1 _ e rfl)
      obtain ⟨q1, q2⟩ := HH.out.1.setEn t03 (ve' := v3) (bx := s.box ++ [f.num]) (by rw [← ints_app, hj]; exact ho)
      refine ⟨?_, hb.frozen 4, q1, ⟨HH.out.2.1.trans q2 ?_, rfl, ?_⟩⟩
      · rw [hb.cell 4, ← hve']
        rfl
      · intro x hx
        rcases List.mem_cons.1 hx with rfl | hx
        · exact .inl mem_rtR
        · exact .inl (mem_rtE (opt_toList.1 hx))
      · refine rt_sub (.inl mem_rtR) (fun k hk => .inl (mem_rtA hk)) (fun k hk => .inl (mem_rtD hk)) (fun k hk => ?_)
        rcases hb3 k hk with e | e
        · exact .inl (mem_rtE (by rw [hve']; exact e))
        · exact .inr (by have := HH.out.2.1.size; have := hT.size; omega)
    have HF : Hid (∀ W r1, Rq W r1 s.done.length { s with steps := wrap64 (s.steps + 1), done := s.done.set j (wrap64 (y + 1)), box := s.box ++ [f.num] } → r1.R = r.R → Calls Try.prog 46 #[.pointer (some ⟨r.R, 0, none⟩), .int .i64 (i : Int)] W fun e w' => e = .returned (.tuple #[]) ∧ ∃ r', Rs w' r' (s.adv f) ∧ RT W w' r1 r') := by
      intro W r1 hW hR
      have := rdropAt_any hW (i := i) (f := f) hi (by show s.fl.length ≤ 4096; omega)
      rw [hR] at this
      refine this.mono ?_
      rintro e w4 ⟨rfl, va', q1, q2⟩
      refine ⟨rfl, _, ?_, q2⟩
      unfold Rs
      rw [← HLEN.out]
      refine Rq.congr q1 HADV.out.2.2.1 HADV.out.1 ?_ ?_ HADV.out.2.1
      · rw [HADV.out.2.2.2.1, if_neg hleft]
        exact (cut_filter hr hi).symm
      · rw [HADV.out.2.2.2.2, if_neg hleft]
    have HBL : Hid ((ints s.box).length = nb) := hbl.trans hnb
    have hb' : nb ≤ 4096 := by omega
    have e4' : (w2.alloc (.cells #[.int .i64 ((j + 1 : Nat) : Int)] 3)).cell? ⟨r.R, 4, none⟩ = some (.slice pe nb ce) := by
      rw [(h2d.blk.alloc _).cell 4, ← hve']
      rfl
    generalize f.left = fl at *
    generalize s.fl.length = n at *
    generalize hND : s.done.length = nd at *
    generalize hcj : ((j + 1 : Nat) : Int) = cj at *
    clear h h1 h2 h2d t1 t2 t2d hT2 HADV HH HLEN hcj hr hup hsm hi hfm hn1 hn2 hj hy hyD hv hv2 hv' hvd hov hve hve' hce hpe hbl hnb hb hND
    go_enter Try.func45, Try.ntmps45
    go_wp2_with fail
    go_region
    go_wp2_with fail
    go_region_law (first
      | (refine stepRo rfl _ _ 36 rfl 3 (.int .i64 0) 8 Try.underlying36 intinfo rfl (.slice pe nb ce) (ints s.box) (by go_simp) (HO.out _ (by repeat (first | exact Tn.refl _ _ | refine Tn.alloc ?_ _ | refine Tn.drew ?_))) ⟨_, 0, none⟩ 1 (.int .i64 cj) (by rfl) (by first | exact (Bk.new _ _ _).cell 0) rfl (by rw [HBL.out]; unfold maxLen; omega) (by rw [HBL.out]; omega) ?_; intro v3 w3 HO3 hg3 hv3; obtain ⟨z1, z2, z3, z4⟩ := HP.out HO3 hg3 hv3 (by repeat (first | exact Tn.refl _ _ | refine Tn.alloc ?_ _ | refine Tn.drew ?_)); have HZ : Hid _ := And.intro z3 z4; obtain ⟨p3, n3, c3, hf3⟩ := HO3.shape; subst hf3; clear z3 z4 HO3 hg3 hv3))
    all_goals go_wp2_with fail
    all_goals refine (HF.out _ _ HZ.out.1 rfl).mono ?_
    all_goals rintro e w5 ⟨rfl, r5, q5, t5⟩
    all_goals have HE : Hid (∃ r', Rs w5 r' (s.adv f) ∧ RT w w5 r r') := ⟨r5, q5, HZ.out.2.trans t5⟩
    all_goals clear q5 t5
    all_goals go_wp2
    all_goals go_ret
    all_goals exact ⟨rfl, HE.out⟩

end
end Go.Proofs.Ytnjokhdedgdjjaa
