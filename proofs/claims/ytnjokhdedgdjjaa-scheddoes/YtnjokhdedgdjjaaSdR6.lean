/- The document's scheduler: a fiber more; who is alive. -/
import Derived.Test.YtnjokhdedgdjjaaSdR5
namespace Go.Proofs.Ytnjokhdedgdjjaa
open Go.RowKit Go.Maps
set_option linter.unusedVariables false
set_option maxRecDepth 100000

section
variable {w w' : World} {r : Gr} {s : Sc}

theorem rspawn_full (h : Rs w r s) (left : Int) (hroom : s.room ≤ s.fl.length + s.box.length) (hl : s.fl.length ≤ 4096) (hb : s.box.length ≤ 4096) : Calls Try.prog 27 #[.pointer (some ⟨r.R, 0, none⟩), .int .i64 left] w fun e w' => e = .returned (.tuple #[.int .i64 0, .int .i64 5]) ∧ ∃ k, w' = w.drewN k := by
  have c0 := h.c0
  have c2 := h.c2
  have c4 := h.c4
  obtain ⟨p, c, hv, -⟩ := row_form h.al
  obtain ⟨pe, ce, hve, -, -⟩ := h.en.form
  rw [ints_len] at hve
  rw [hv] at c2
  rw [hve] at c4
  have e1 : wrap64 ((s.fl.length : Int) + (s.box.length : Int)) = ((s.fl.length + s.box.length : Nat) : Int) := by unfold wrap64; omega
  have g1 : (s.room : Int) ≤ (s.fl.length : Int) + (s.box.length : Int) := by omega
  clear h hv hve e1 hroom
  generalize s.fl.length = n at *
  generalize s.box.length = nb at *
  go_enter Try.func27, Try.ntmps27
  go_wp2_with fail
  go_quiet (fail)
  go_wp2
  go_ret2
  exact ⟨rfl, _, rfl⟩

set_option maxHeartbeats 1000000 in
theorem rspawn_any (h : Rs w r s) (fb : Nat) (left : Int) (cnt : Addr) (hroom : s.fl.length + s.box.length < s.room) (hbig : s.room ≤ 4096) (hd : s.done.length ≤ 10000000000000) : Calls Try.prog 27 #[.pointer (some ⟨r.R, 0, none⟩), .int .i64 left] w fun e w' => e = .returned (.tuple #[.int .i64 ((s.done.length + 1 : Nat) : Int), .int .i64 0]) ∧ ∃ r', Rs w' r' (s.spawned fb left cnt) ∧ RT w w' r r' := by
  have c0 := h.c0
  have c2 := h.c2
  have c4 := h.c4
  obtain ⟨p, c, hv, -⟩ := row_form h.al
  obtain ⟨pe, ce, hve, -, -⟩ := h.en.form
  rw [ints_len] at hve
  rw [hv] at c2
  rw [hve] at c4
  have e1 : wrap64 ((s.fl.length : Int) + (s.box.length : Int)) = ((s.fl.length + s.box.length : Nat) : Int) := by unfold wrap64; omega
  have g1 : ¬ (s.room : Int) ≤ (s.fl.length : Int) + (s.box.length : Int) := by omega
  have HH : Hid (Rs w r s) := h
  have HV : Hid (r.va = .slice p s.fl.length c) := hv
  have hl : s.fl.length ≤ 4096 := by omega
  clear h hv hve
  have hnb : s.box.length ≤ 4096 := by omega
  clear hroom e1
  obtain ⟨n, hn⟩ : ∃ n, s.fl.length = n := ⟨_, rfl⟩
  have HN : Hid (s.fl.length = n) := hn
  rw [hn] at c2 g1 hl HV
  clear hn
  obtain ⟨nd, hnd⟩ : ∃ nd, s.done.length = nd := ⟨_, rfl⟩
  have HND : Hid (s.done.length = nd) := hnd
  rw [hnd] at hd ⊢
  clear hnd
  generalize s.box.length = nb at *
  go_enter Try.func27, Try.ntmps27
  go_wp2_with fail
  go_quiet (fail)
  obtain ⟨wq, hwq⟩ : ∃ wq, w.drewN nq = wq := ⟨_, rfl⟩
  have hq : Rq wq r nd s := by rw [← hwq, ← HND.out]; exact HH.out.drew nq
  have tq : Tn [] w wq := hwq ▸ ⟨rfl, rfl, rfl, Nat.le_refl _, fun _ _ _ => rfl⟩
  rw [hwq]
  clear hwq c0 c2 c4 hnb
  have d1 := hq.c1
  have f1 : wq.frozen? ⟨r.R, 1, none⟩ = false := hq.blk.frozen 1
  obtain ⟨h1, t1⟩ := hq.setLast (nd + 1)
  have g2 : wrap64 ((nd : Int) + 1) = ((nd + 1 : Nat) : Int) := by unfold wrap64; omega
  obtain ⟨w1, hw1⟩ : ∃ w1, wq.setCell ⟨r.R, 1, none⟩ (.int .i64 ((nd + 1 : Nat) : Int)) = w1 := ⟨_, rfl⟩
  rw [hw1] at h1 t1
  have q1 := h1.c1
  have q2 := h1.c2
  rw [HV.out] at q2
  have q2' : (w1.alloc (.cells #[.int .i64 ((nd + 1 : Nat) : Int), .int .i64 left, .int .i64 0] 77)).cell? ⟨r.R, 2, none⟩ = some (.slice p n c) := by
    rw [(h1.blk.alloc _).cell 2, ← HV.out]
    rfl
  have T1 : Tn (rt r) w w1 := (tq.mono (by simp)).trans t1 (by simp [mem_rtR])
  have HO : Hid (∀ W', Tn [] w1 W' → W'.ownsRow 0 77 3 (.slice p n c) n (rfs s.fl)) := fun W' ht => by
    have := owns_tn h1.al ht (by simp)
    rw [HV.out, HN.out] at this
    exact this
  have HP : Hid (∀ {W w3 : World} {v3 : Value} (ho : w3.ownsRow 0 77 3 v3 (n + 1) (rfs s.fl ++ [.int .i64 ((nd + 1 : Nat) : Int), .int .i64 left, .int .i64 0])) (ht3 : W.grownBy w3 (Value.slice p n c).ownBlock) (hb3 : v3.ownBlock = (Value.slice p n c).ownBlock ∨ v3.ownBlock = some W.heap.size), Tn [] w1 W → w3.cell? ⟨r.R, 2, none⟩ = some (.slice p n c) ∧ w3.frozen? ⟨r.R, 2, none⟩ = false ∧ Rq (w3.setCell ⟨r.R, 2, none⟩ v3) { r with va := v3 } (nd + 1) { s with fl := s.fl ++ [⟨nd + 1, fb, left, cnt⟩] } ∧ RT w (w3.setCell ⟨r.R, 2, none⟩ v3) r { r with va := v3 }) := by
    intro W w3 v3 ho ht3 hb3 hT
    have t03 : Tn r.va.ownBlock.toList w1 w3 := by
      rw [HV.out]
      exact (hT.mono (by simp)).trans (grown_tn ht3) (fun x hx => .inl hx)
    have hb := h1.blk.tn t03 (by rw [opt_toList]; exact fun e => h1.ne.1 _ e rfl)
    have hlen : (s.fl ++ [(⟨nd + 1, fb, left, cnt⟩ : Fb)]).length = n + 1 := by simp [HN.out]
    obtain ⟨k1, k2⟩ := h1.setAl t03 (va' := v3) (fl' := s.fl ++ [⟨nd + 1, fb, left, cnt⟩]) (by rw [hlen, rfs_app]; exact ho)
    refine ⟨?_, hb.frozen 2, k1, ⟨T1.trans k2 ?_, rfl, ?_⟩⟩
    · rw [hb.cell 2, ← HV.out]
      rfl
    · intro x hx
      rcases List.mem_cons.1 hx with rfl | hx
      · exact .inl mem_rtR
      · exact .inl (mem_rtA (opt_toList.1 hx))
    · refine rt_sub (.inl mem_rtR) (fun k hk => ?_) (fun k hk => .inl (mem_rtD hk)) (fun k hk => .inl (mem_rtE hk))
      have hk' : v3.ownBlock = some k := hk
      rcases hb3 with e | e
      · exact .inl (mem_rtA (by rw [HV.out, ← e]; exact hk'))
      · rw [e] at hk'
        simp at hk'
        have := T1.size
        have := hT.size
        exact .inr (by omega)
  have HD : Hid (∀ {W : World} {r1 : Gr}, Rq W r1 (nd + 1) { s with fl := s.fl ++ [⟨nd + 1, fb, left, cnt⟩] } → r1.R = r.R → r1.vd = r.vd → RT w W r r1 → ∃ pd cd, r.vd = .slice pd nd cd ∧ W.cell? ⟨r.R, 3, none⟩ = some (.slice pd nd cd) ∧ (W.alloc (.cells #[.int .i64 0] 2)).ownsRow 0 2 1 (.slice pd nd cd) nd (intz s.done) ∧ ∀ w4 v4, w4.ownsRow 0 2 1 v4 (nd + 1) (intz s.done ++ [.int .i64 0]) → (W.alloc (.cells #[.int .i64 0] 2)).grownBy w4 (Value.slice pd nd cd).ownBlock → (v4.ownBlock = (Value.slice pd nd cd).ownBlock ∨ v4.ownBlock = some (W.heap.size + 1)) → w4.cell? ⟨r.R, 3, none⟩ = some (.slice pd nd cd) ∧ w4.frozen? ⟨r.R, 3, none⟩ = false ∧ (w4.setCell ⟨r.R, 3, none⟩ v4).cell? ⟨r.R, 1, none⟩ = some (.int .i64 ((nd + 1 : Nat) : Int)) ∧ ∃ r', Rs (w4.setCell ⟨r.R, 3, none⟩ v4) r' (s.spawned fb left cnt) ∧ RT w (w4.setCell ⟨r.R, 3, none⟩ v4) r r') := by
    intro W r1 hW hR hvd hT
    obtain ⟨pd, cd, hv1, -⟩ := row_form hW.dn
    have hv2 : r.vd = .slice pd nd cd := by rw [← hvd, hv1]; exact congrArg (fun z => Value.slice pd z cd) HND.out
    have hr1 := hW.dn
    rw [hvd, hv2] at hr1
    have hr1' : W.ownsRow 0 2 1 (.slice pd nd cd) nd (intz s.done) := by
      have : W.ownsRow 0 2 1 (.slice pd nd cd) s.done.length (intz s.done) := hr1
      rw [HND.out] at this
      exact this
    have c3 := hW.c3
    rw [hR, hvd, hv2] at c3
    refine ⟨pd, cd, hv2, c3, World.ownsRow.alloc hr1' _, fun w4 v4 o4 t4 b4 => ?_⟩
    have t04 : Tn r1.vd.ownBlock.toList W w4 := by
      rw [hvd, hv2]
      exact ((Tn.refl _ W).alloc _).grown t4 (fun k hk => .inl (opt_toList.2 hk))
    have hb := hW.blk.tn t04 (by rw [opt_toList]; exact fun e => hW.ne.2.1 _ e rfl)
    have hlen : (s.done ++ [(0 : Int)]).length = nd + 1 := by simp [HND.out]
    obtain ⟨k1, k2⟩ := hW.setDn t04 (vd' := v4) (dn' := s.done ++ [0]) (by rw [hlen, ← intz_app]; exact o4)
    rw [hR] at k1 k2 hb
    refine ⟨?_, hb.frozen 3, ?_, { R := r.R, va := r1.va, vd := v4, ve := r1.ve }, ?_, ⟨hT.tn.trans k2 ?_, rfl, ?_⟩⟩
    · rw [hb.cell 3]
      simp [hvd, hv2]
    · exact k1.c1
    · have e : (s.spawned fb left cnt).done.length = nd + 1 := hlen
      unfold Rs
      rw [e]
      refine Rq.congr k1 rfl rfl ?_ rfl rfl
      show s.fl ++ [⟨s.done.length + 1, fb, left, cnt⟩] = s.fl ++ [⟨nd + 1, fb, left, cnt⟩]
      rw [HND.out]
    · intro x hx
      rcases List.mem_cons.1 hx with rfl | hx
      · exact .inl mem_rtR
      · exact hT.sub _ (mem_rtD (opt_toList.1 hx))
    · refine rt_sub ?_ (fun k hk => hT.sub k (mem_rtA hk)) (fun k hk => ?_) (fun k hk => hT.sub k (mem_rtE hk))
      · exact .inl mem_rtR
      · have hk' : v4.ownBlock = some k := hk
        rcases b4 with e | e
        · exact .inl (mem_rtD (by rw [hv2, ← e]; exact hk'))
        · rw [e] at hk'
          simp at hk'
          have := hT.tn.size
          exact .inr (by omega)
  clear hq h1 t1 tq T1 HH
  generalize hcn : ((nd + 1 : Nat) : Int) = cn at *
  have hlc : (nd : Int) + 1 = cn := by rw [← hcn]; omega
  have HCN : Hid (((nd + 1 : Nat) : Int) = cn) := hcn
  clear hcn
  go_wp2_with fail
  go_region_law (first
    | (refine stepX rfl _ _ 72 rfl 77 (.agg #[.int .i64 0, .int .i64 0, .int .i64 0]) 3 24 Try.underlying72 fbinfo rfl (by decide) (.slice p n c) n (rfs s.fl) (by go_simp) (HO.out _ (by repeat (first | exact Tn.refl _ _ | refine Tn.alloc ?_ _ | refine Tn.drew ?_))) ⟨_, 0, none⟩ 1 1 [.int .i64 cn, .int .i64 left, .int .i64 0] (by rfl) rfl (news_alloc _ [.int .i64 cn, .int .i64 left, .int .i64 0] 77 _ rfl) (by simp [Value.oneCell']) (by unfold maxLen; omega) (by omega) ?_; intro v3 w3 HO3 hg3 hv3; obtain ⟨g3, k3, hf3⟩ := row_some HO3 (by omega); subst hf3; obtain ⟨z1, z2, z3, z4⟩ := HP.out HO3 hg3 hv3 (by repeat (first | exact Tn.refl _ _ | refine Tn.alloc ?_ _ | refine Tn.drew ?_)); have HZ : Hid _ := And.intro z3 z4; clear z3 z4 HO3 hg3 hv3))
  all_goals obtain ⟨pd, cd, y1, y2, y3, y4⟩ := HD.out HZ.out.1 rfl rfl HZ.out.2
  all_goals have HY3 : Hid _ := y3
  all_goals have HY4 : Hid _ := y4
  all_goals clear y1 y3 y4 z1 z2 HZ
  all_goals generalize w3.setCell ⟨r.R, 2, none⟩ (.slice (some ⟨g3, 0, none⟩) (n + 1) k3) = wz at *
  all_goals go_wp2_with (at_builtin; refine appX _ rfl _ _ _ rfl 2 (.int .i64 0) 1 8 Try.underlying43 i64info rfl (by decide) (.slice pd nd cd) nd (intz s.done) rfl HY3.out (some ⟨wz.heap.size, 0, none⟩) 1 1 [.int .i64 0] rfl rfl (news_alloc wz [.int .i64 0] 2) (by simp [Value.oneCell']) (fun h => by cases h) (by unfold maxLen; omega) (by omega) ?_)
  all_goals intro v4 w4 o4 t4 b4
  all_goals obtain ⟨G4, k4, hf4⟩ := row_some o4 (by omega)
  all_goals subst hf4
  all_goals obtain ⟨x1, x2, x3, x4⟩ := HY4.out w4 _ o4 t4 b4
  all_goals have HX : Hid _ := x4
  all_goals clear x4 o4 t4 b4 HY3 HY4
  all_goals go_wp2
  all_goals go_ret2
  all_goals exact ⟨by rw [HCN.out]; rfl, HX.out⟩

/-- Who is alive, in a row of the call's own. -/
theorem ralive_any (h : Rs w r s) (hl : s.fl.length ≤ 4096) : Calls Try.prog 12 #[.pointer (some ⟨r.R, 0, none⟩)] w fun e w' => ∃ v, e = .returned v ∧ w'.ownsRow w.heap.size 3 1 v s.fl.length (ints (s.fl.map Fb.num)) ∧ Below w.heap.size w w' := by
  have c2 := h.c2
  obtain ⟨p, c, hv, hc⟩ := row_form h.al
  rw [hv] at c2
  have HH : Hid (Rs w r s) := h
  have HV : Hid (r.va = .slice p s.fl.length c) := hv
  obtain ⟨n, hn⟩ : ∃ n, s.fl.length = n := ⟨_, rfl⟩
  have HN : Hid (s.fl.length = n) := hn
  rw [hn] at c2 hl hc HV ⊢
  have HC : Hid (w.cell? ⟨r.R, 2, none⟩ = some (.slice p n c)) := c2
  have HR : Hid (r.R < w.heap.size) := h.blk.lt
  clear h hv hn c2
  go_enter Try.func12, Try.ntmps12
  go_wp2_with fail
  go_loopw [3, 4] (fun vv iv wr => ∃ j : Nat, j ≤ n ∧ iv = .int .i64 (j : Int) ∧ Hid (wr.ownsRow w.heap.size 3 1 vv j (ints ((s.fl.take j).map Fb.num))) ∧ Hid (Below w.heap.size w wr)) (fun _ iv _ => n - (intOf iv).toNat)
  case atStart => exact ⟨0, Nat.zero_le _, rfl, World.ownsRow_nil _ _ _ _, Below.refl _ _⟩
  case round =>
    obtain ⟨j, hj, rfl, HO, HB⟩ := hrel
    obtain ⟨pv, cv, rfl, -⟩ := row_form HO.out
    have c2 : wr.cell? ⟨r.R, 2, none⟩ = some (.slice p n c) := (World.cell?_of_block (a := ⟨r.R, 2, none⟩) (HB.out.block _ HR.out)).trans HC.out
    by_cases hq : j < n
    · obtain ⟨f, hf⟩ : ∃ f, s.fl[j]? = some f := ⟨_, List.getElem?_eq_getElem (by rw [HN.out]; exact hq)⟩
      obtain ⟨G, k, hv, hk, x0, -, -, -⟩ := HH.out.fcell hf
      have hp : p = some ⟨G, 0, none⟩ ∧ c = k := by
        have := HV.out.symm.trans hv
        simp at this
        exact ⟨this.1, this.2.2⟩
      obtain ⟨rfl, rfl⟩ := hp
      have hG : G < w.heap.size := row_block HH.out.al G (by rw [HV.out]; rfl)
      have x0' : wr.cell? ⟨G, j * 3, none⟩ = some (.int .i64 (f.num : Int)) := (World.cell?_of_block (a := ⟨G, j * 3, none⟩) (HB.out.block _ hG)).trans x0
      have HF : Hid (s.fl[j]? = some f) := hf
      have HO1 : Hid ((wr.alloc (.cells #[.int .i64 (f.num : Int)] 3)).ownsRow w.heap.size 3 1 (.slice pv j cv) j (ints ((s.fl.take j).map Fb.num))) := World.ownsRow.alloc HO.out _
      have hqi : (j : Int) < (n : Int) := by omega
      have b1 : (0 : Int) ≤ (j : Int) := by omega
      have HSZ : Hid (w.heap.size ≤ (wr.alloc (.cells #[.int .i64 (f.num : Int)] 3)).heap.size) := by
        show _ ≤ _
        have := HB.out.size
        simp
        omega
      obtain ⟨i0, hi0, hz0, hz1, hz2⟩ := info_parts intinfo
      clear hv hf x0
      generalize hy : (f.num : Int) = y at *
      have HY : Hid ((f.num : Int) = y) := hy
      clear hy
      go_wp2_with (at_builtin; refine wpList_append_own_at _ rfl _ _ _ rfl w.heap.size 3 i0 (.int .i64 0) 1 8 Try.underlying36 hi0 hz0 hz1 hz2 rfl (by decide) (.slice pv j cv) j (ints ((s.fl.take j).map Fb.num)) rfl HO1.out ⟨wr.heap.size, 0, none⟩ 1 1 [.int .i64 y] rfl rfl (news_alloc wr [.int .i64 y] 3 _ rfl) (by simp [Value.oneCell']) (by unfold maxLen; omega) (by omega) HSZ.out ?_)
      intro v2 w2 o2 t2 b0 b2
      obtain ⟨p2, c2', hv2, -⟩ := row_form o2
      subst hv2
      have HE : Hid (w2.ownsRow w.heap.size 3 1 (.slice p2 (j + 1) c2') (j + 1) (ints ((s.fl.take (j + 1)).map Fb.num))) := by
        have : (s.fl.take (j + 1)).map Fb.num = (s.fl.take j).map Fb.num ++ [f.num] := by
          rw [List.take_add_one, HF.out]
          simp
        rw [this, ← ints_app, HY.out, List.map_take]
        exact o2
      have HB2 : Hid (Below w.heap.size w w2) := by
        have h1 : Below w.heap.size w (wr.alloc (.cells #[.int .i64 y] 3)) := HB.out.alloc HB.out.size _
        exact h1.grown t2 HSZ.out fun k hk => (World.ownsRow.lt HO1.out k hk).1
      clear o2 t2 b0 b2 HO HO1 HB x0'
      go_wp2
      go_roundw
      case rel => exact ⟨j + 1, by omega, by go_num, HE, HB2⟩
      case measure => simp [intOf]; omega
    · have hjn : j = n := by omega
      subst hjn
      have HE : Hid (wr.ownsRow w.heap.size 3 1 (.slice pv j cv) j (ints (s.fl.map Fb.num))) := by
        have := HO.out
        rw [List.take_of_length_le (by have := HN.out; omega)] at this
        exact this
      clear HO
      go_wp2
      go_ret
      exact ⟨_, rfl, HE.out, HB.out⟩

end
end Go.Proofs.Ytnjokhdedgdjjaa
