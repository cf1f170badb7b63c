/- Schedulers: a new one; a fiber is spawned. -/
import Derived.Test.YtnjokhdedgdjjaaSdD
namespace Go.Proofs.Ytnjokhdedgdjjaa
open Go.RowKit Go.Maps
set_option linter.unusedVariables false
set_option maxRecDepth 100000

theorem i64info : (Try.prog.info? 2).map (fun i => (i.zero, i.size, i.bytes)) = some (some (.int .i64 0), 1, 8) := by kernel_rfl
theorem intinfo : (Try.prog.info? 3).map (fun i => (i.zero, i.size, i.bytes)) = some (some (.int .i64 0), 1, 8) := by kernel_rfl

def Sc.new (n : Nat) (D : Addr → Int) : Sc := ⟨n, [], [], [], [], 0, D⟩

theorem new_any (n : Nat) (h1 : 1 ≤ n) (h2 : n ≤ 4096) (N : Nat) (hN : N ≤ 4611686018427387904) (D : Addr → Int) (w : World) : Calls Try.prog 7 #[.int .i64 (n : Int)] w fun e w' => ∃ g : Ge, e = .returned (.tuple #[.pointer (some ⟨g.S, 0, none⟩), .int .i64 0]) ∧ Sd w' N g (Sc.new n D) ∧ Below w.heap.size w w' ∧ g.ca = [] ∧ g.bs = [] ∧ (∀ x ∈ ft g (Sc.new n D), w.heap.size ≤ x) ∧ w.heap.size ≤ g.X := by
  have hmm := @run_makeMap Try.prog
  have HK : Hid (n ≤ 4096) := h2
  go_enter Try.func7, Try.ntmps7
  go_wp2_with fail
  refine (newBox_anyI n h1 h2 w).mono ?_
  rintro e w1 ⟨rfl, hb, t⟩
  have hs := t.size
  obtain ⟨w2, hw2⟩ : ∃ w2, w1.alloc (.map #[] 0) = w2 := ⟨_, rfl⟩
  have hm2 : Mp fElem w2 w1.heap.size N (fun _ => none) := hw2 ▸ Mp.new fElem w1 N
  have hb2 : BxI w2 (w.heap.size + 1) w.heap.size n [] [] := hw2 ▸ hb.below ((Below.refl _ w1).alloc (Nat.le_refl _) _)
  have t2 : Below w.heap.size w w2 := hw2 ▸ t.alloc hs _
  have s2 : w2.heap.size = w1.heap.size + 1 := by rw [← hw2]; simp
  obtain ⟨w3, hw3⟩ : ∃ w3, w2.alloc (.cells #[.map (some w1.heap.size), .slice none 0 0, .pointer (some ⟨w.heap.size + 1, 0, none⟩), .slice none 0 0, .int .i64 0] 61) = w3 := ⟨_, rfl⟩
  have hm3 : Mp fElem w3 w1.heap.size N (fun _ => none) := hw3 ▸ hm2.below ((Below.refl _ w2).alloc (Nat.le_refl _) _)
  have hb3 : BxI w3 (w.heap.size + 1) w.heap.size n [] [] := hw3 ▸ hb2.below ((Below.refl _ w2).alloc (Nat.le_refl _) _)
  have t3 : Below w.heap.size w w3 := hw3 ▸ t2.alloc t2.size _
  have hk3 : Bk w3 (w1.heap.size + 1) 61 #[.map (some w1.heap.size), .slice none 0 0, .pointer (some ⟨w.heap.size + 1, 0, none⟩), .slice none 0 0, .int .i64 0] := by
    rw [← hw3, ← s2]
    exact Bk.new w2 _ _
  have HE : Hid (∃ g : Ge, g.S = w1.heap.size + 1 ∧ Sd w3 N g (Sc.new n D) ∧ Below w.heap.size w w3 ∧ g.ca = [] ∧ g.bs = [] ∧ (∀ x ∈ ft g (Sc.new n D), w.heap.size ≤ x) ∧ w.heap.size ≤ g.X) := by
    refine ⟨⟨w1.heap.size + 1, w1.heap.size, w.heap.size + 1, w.heap.size, [], .slice none 0 0, .slice none 0 0, []⟩, rfl, ?_, t3, rfl, rfl, ?_, by simp⟩
    · exact ⟨hk3, hm3, World.ownsRow_nil _ _ _ _, World.ownsRow_nil _ _ _ _, hb3, by simp [Sc.new], by simp [Sc.new], by simp [Sc.new], (fun a ha => by cases ha), by simp, by simp, hN, by simp [Sc.new], by simp [Sc.new], by simp [Sc.new], HK.out⟩
    · simp [ft, Sc.new, Value.ownBlock]
      omega
  clear hm2 hm3 hb hb2 hb3 t t2 t3 hk3 HK
  go_wp2
  go_ret2
  obtain ⟨g, e, H⟩ := HE.out
  exact ⟨g, by rw [e]; rfl, H⟩

/-- With a fiber more. -/
def Sc.spawned (s : Sc) (fb : Nat) (left : Int) (cnt : Addr) : Sc := { s with fl := s.fl ++ [⟨s.done.length + 1, fb, left, cnt⟩], al := s.al ++ [s.done.length + 1], done := s.done ++ [0] }

theorem ints_app (l : List Nat) (n : Nat) : ints l ++ [.int .i64 (n : Int)] = ints (l ++ [n]) := by simp [ints]
theorem intz_app (l : List Int) (n : Int) : intz l ++ [.int .i64 n] = intz (l ++ [n]) := by simp [intz]
theorem ints_len (l : List Nat) : (ints l).length = l.length := by simp [ints]
theorem intz_len (l : List Int) : (intz l).length = l.length := by simp [intz]

section
variable {w w' : World} {N : Nat} {g : Ge} {s : Sc}

/-- The map gets a fiber more. -/
theorem Sd.addFb (h : Sd w N g s) {f : Fb} (t : Tn [g.M] w w') (hm : Mp fElem w' g.M N (fsome (s.fl ++ [f]))) (hb : Bk w f.blk 48 #[.int .i64 f.left, .pointer (some f.cnt)]) (hnb : ∀ x ∈ s.fl, x.blk ≠ f.blk) (hc : f.cnt ∈ g.ca) (h1 : 1 ≤ f.num ∧ f.num ≤ s.done.length ∧ f.num < N) (hup : ∀ x ∈ s.fl, x.num < f.num) (hfit : s.fl.length + 1 + s.box.length ≤ s.room) : Sd w' N g { s with fl := s.fl ++ [f] } := by
  have hn := h.s_ne
  have hall : ∀ x ∈ s.fl ++ [f], Bk w x.blk 48 #[.int .i64 x.left, .pointer (some x.cnt)] := fun x hx => by
    rcases List.mem_append.1 hx with h1 | h1
    · exact h.fb x h1
    · simp at h1; subst h1; exact hb
  refine ⟨h.blk.tn t (by simpa using hn.1), hm, owns_tn h.al t ?_, owns_tn h.dn t ?_, h.bx.tn t (by simpa using (h.bx.blk.neM h.mp).symm) ?_ ?_, fun x hx => (hall x hx).tn t (by simpa using ((hall x hx).neM h.mp).symm), ?_, ?_, h.cn.tn t ?_, h.d1, h.d2, h.hN, ?_, ?_, ?_, h.big⟩
  · intro k hk
    obtain ⟨cs, hc⟩ := row_bk h.al hk
    simpa using (hc.neM h.mp).symm
  · intro k hk
    obtain ⟨cs, hc⟩ := row_bk h.dn hk
    simpa using (hc.neM h.mp).symm
  · simp
    exact fun e => h.bx.ch.notMap (e ▸ h.mp)
  · intro b hb
    obtain ⟨x, hx⟩ := h.bx.mem hb
    simpa using (hx.neM h.mp).symm
  · simp only [List.map_append, List.map_cons, List.map_nil]
    rw [List.nodup_append]
    refine ⟨h.nd, by simp, ?_⟩
    intro a ha b hb e
    obtain ⟨x, hx, rfl⟩ := List.mem_map.1 ha
    simp at hb
    exact hnb x hx (e.trans hb)
  · intro x hx
    rcases List.mem_append.1 hx with h1 | h1
    · exact h.cin x h1
    · simp at h1; subst h1; exact hc
  · intro a ha
    obtain ⟨b, i, cs, rfl, hb, hc⟩ := h.cn a ha
    simpa using (hb.neM h.mp).symm
  · simp only [List.map_append, List.map_cons, List.map_nil]
    rw [List.pairwise_append]
    refine ⟨h.rs, by simp, ?_⟩
    intro a ha b hb
    obtain ⟨x, hx, rfl⟩ := List.mem_map.1 ha
    simp at hb
    subst hb
    exact hup x hx
  · intro x hx
    rcases List.mem_append.1 hx with h2 | h2
    · exact h.up x h2
    · simp at h2; subst h2; exact h1
  · show (s.fl ++ [f]).length + s.box.length ≤ s.room
    simp
    omega

theorem spawn_any (h : Sd w N g s) {fb : Nat} {left : Int} {cnt : Addr} (hb : Bk w fb 48 #[.int .i64 left, .pointer (some cnt)]) (hnb : ∀ x ∈ s.fl, x.blk ≠ fb) (hc : cnt ∈ g.ca) (hroom : s.fl.length + s.box.length < s.room) (hdl : s.done.length ≤ 10000000000000) (hal : s.al.length ≤ 10000000000000) (hN : s.done.length + 1 < N) :
    Calls Try.prog 18 #[.pointer (some ⟨g.S, 0, none⟩), fv fb] w fun e w' => e = .returned (.tuple #[.int .i64 ((s.done.length + 1 : Nat) : Int), .int .i64 0]) ∧ ∃ g', Sd w' N g' (s.spawned fb left cnt) ∧ Tn (ft g s) w w' ∧ (g'.S = g.S ∧ g'.M = g.M ∧ g'.X = g.X ∧ g'.C = g.C ∧ g'.ca = g.ca) ∧ g'.bs = g.bs ∧ ∀ x ∈ ft g' (s.spawned fb left cnt), x ∈ ft g s ∨ x = fb ∨ w.heap.size ≤ x := by
  have c2 := h.c2
  have c3 := h.c3
  obtain ⟨nf, hnf⟩ : ∃ nf, nf = s.fl.length := ⟨_, rfl⟩
  obtain ⟨nb, hnb'⟩ : ∃ nb, nb = s.box.length := ⟨_, rfl⟩
  have hne : ¬ wrap64 ((nf : Int) + (nb : Int)) = (s.room : Int) := by
    have := h.big
    unfold wrap64
    omega
  have HH : Hid (Sd w N g s ∧ Bk w fb 48 #[.int .i64 left, .pointer (some cnt)] ∧ (∀ x ∈ s.fl, x.blk ≠ fb) ∧ cnt ∈ g.ca ∧ s.fl.length + s.box.length < s.room) := ⟨h, hb, hnb, hc, hroom⟩
  have hif : (binOp BinOp.eql 79 (fv fb) .nilIface).run Try.prog w = .ok (.bool false) w := by kernel_rfl
  have HNF : Hid (nf = s.fl.length ∧ nb = s.box.length) := ⟨hnf, hnb'⟩
  clear hnf hnb'
  generalize hnd : s.done.length = nd at *
  generalize hna : s.al.length = na at *
  clear h hb hnb hc hroom
  go_enter Try.func18, Try.ntmps18
  go_wp2_with fail
  refine (made_any c2).mono ?_
  rintro e w0 ⟨rfl, rfl⟩
  go_wp2_with fail
  go_quiet (first
    | (go_at_call 11; refine Calls.quiet_of_same (count_any (HH.out.1.drew _) nf HNF.out.1))
    | (go_at_call 34; refine Calls.quiet_of_same (blen_anyI (HH.out.1.drew _).bx nb (by simp [HNF.out.2])))
    | (go_at_call 35; refine Calls.quiet_of_same (broom_anyI (HH.out.1.drew _).bx)))
  obtain ⟨wq, hwq⟩ : ∃ wq, w0.drewN nq = wq := ⟨_, rfl⟩
  have hq : Sd wq N g s := hwq ▸ HH.out.1.drew nq
  have tq : Tn [] w0 wq := hwq ▸ ⟨rfl, rfl, rfl, Nat.le_refl _, fun _ _ _ => rfl⟩
  have SQ : Hid (wq.heap.size = w0.heap.size) := by unfold Hid; rw [← hwq]; rfl
  rw [hwq]
  clear hwq
  have q3 := hq.c3
  have HR : Hid ((wq.alloc (.cells #[.int .i64 0] 2)).ownsRow 0 2 1 g.vd nd (intz s.done)) := World.ownsRow.alloc (hnd ▸ hq.dn) _
  have HQ : Hid (Sd wq N g s ∧ Tn [] w0 wq) := ⟨hq, tq⟩
  clear hq tq c2 c3
  go_wp2_with (at_builtin; refine appX _ rfl _ _ _ rfl 2 (.int .i64 0) 1 8 Try.underlying43 i64info rfl (by decide) g.vd nd (intz s.done) rfl HR.out (some ⟨wq.heap.size, 0, none⟩) 1 1 [.int .i64 0] rfl rfl (news_alloc wq [.int .i64 0] 2) (by simp [Value.oneCell']) (fun h => by cases h) (by unfold maxLen; omega) (by omega) ?_)
  intro v1 w1 hr1 hg1 hb1
  obtain ⟨G1, k1, rfl⟩ := row_some hr1 (by omega)
  have t1 : Tn g.vd.ownBlock.toList wq w1 := by
    have h1 : Tn g.vd.ownBlock.toList wq (wq.alloc (.cells #[.int .i64 0] 2)) := (Tn.refl _ wq).alloc _
    exact h1.grown hg1 (fun k hk => .inl (opt_toList.2 hk))
  have hlen1 : (s.done ++ [(0 : Int)]).length = nd + 1 := by simp [hnd]
  have hr1' : w1.ownsRow 0 2 1 (.slice (some ⟨G1, 0, none⟩) (nd + 1) k1) (s.done ++ [(0 : Int)]).length (intz (s.done ++ [0])) := by
    rw [hlen1, ← intz_app]
    exact hr1
  have hd2 : ∀ a ∈ g.ca, (Value.slice (some ⟨G1, 0, none⟩) (nd + 1) k1).ownBlock ≠ some a.block := by
    intro a ha e
    rcases hb1 with h | h
    · rw [h] at e
      exact HQ.out.1.d2 a ha e
    · rw [h] at e
      obtain ⟨b, i, cs, rfl, hb, hc⟩ := HQ.out.1.cn a ha
      have := hb.lt
      simp at e
      omega
  obtain ⟨h2, t2⟩ := HQ.out.1.setDn t1 hr1' (by simp) hd2
  have f3 : w1.frozen? ⟨g.S, 3, none⟩ = false := by
    have := HQ.out.1.s_ne.2.2.2.2.1
    exact (HQ.out.1.blk.tn t1 (by rw [opt_toList]; exact fun e => this _ e rfl)).frozen 3
  have d3 : w1.cell? ⟨g.S, 3, none⟩ = some g.vd := by
    have := HQ.out.1.s_ne.2.2.2.2.1
    exact (HQ.out.1.blk.tn t1 (by rw [opt_toList]; exact fun e => this _ e rfl)).cell 3
  obtain ⟨w2, hw2⟩ : ∃ w2, w1.setCell ⟨g.S, 3, none⟩ (.slice (some ⟨G1, 0, none⟩) (nd + 1) k1) = w2 := ⟨_, rfl⟩
  rw [hw2] at h2 t2
  have e3 := h2.c3
  have e0 := h2.c0
  have hnum : ∀ x ∈ s.fl, x.num < nd + 1 := fun x hx => by have := HH.out.1.up x hx; omega
  obtain ⟨w3, hput, hm3, t3⟩ := h2.mp.put fReads (t := 58) Try.underlying58 (nd + 1) hN h2.hN (some fb)
  have hm3' : Mp fElem w3 g.M N (fsome (s.fl ++ [⟨nd + 1, fb, left, cnt⟩])) := by
    rw [fsome_app (fun x hx => by have := hnum x hx; simp; omega)]
    exact hm3
  have hfb2 : Bk w2 fb 48 #[.int .i64 left, .pointer (some cnt)] := by
    refine (HH.out.2.1.tn HQ.out.2 (by simp)).tn t2 ?_
    intro hx
    rcases List.mem_cons.1 hx with e | hx
    · exact (HH.out.2.1.ne HH.out.1.blk (by decide)) e
    · obtain ⟨cs, hc⟩ := row_bk HH.out.1.dn (opt_toList.1 hx)
      exact (HH.out.2.1.ne hc (by decide)) rfl
  have h3 := h2.addFb (f := ⟨nd + 1, fb, left, cnt⟩) t3 hm3' hfb2 HH.out.2.2.1 HH.out.2.2.2.1 ⟨by show 1 ≤ nd + 1; omega, by simp [hnd], hN⟩ hnum (by have := HH.out.2.2.2.2; show s.fl.length + 1 + s.box.length ≤ s.room; omega)
  have q1 := h3.c1
  have HR3 : Hid ((w3.alloc (.cells #[.int .i64 ((nd + 1 : Nat) : Int)] 3)).ownsRow 0 3 1 g.va na (ints s.al)) := World.ownsRow.alloc (hna ▸ h3.al) _
  have hT3 : Tn (ft g s) w0 w3 := by
    refine ((HQ.out.2.mono (by simp)).trans t2 (fun x hx => .inl ?_)).trans t3 (fun x hx => .inl ?_)
    · rcases List.mem_cons.1 hx with rfl | hx
      · exact mem_ftS
      · exact mem_ftD (opt_toList.1 hx)
    · simp at hx
      subst hx
      exact mem_ftM
  have H3 : Hid (Sd w3 N { g with vd := .slice (some ⟨G1, 0, none⟩) (nd + 1) k1 } { s with done := s.done ++ [0], fl := s.fl ++ [⟨nd + 1, fb, left, cnt⟩] } ∧ Tn (ft g s) w0 w3 ∧ (some G1 = g.vd.ownBlock ∨ w0.heap.size ≤ G1)) := ⟨h3, hT3, by
    rcases hb1 with h | h
    · exact .inl h
    · right
      have := SQ.out
      have h' : some G1 = some (wq.heap.size + 1) := h
      simp only [Option.some.injEq] at h'
      omega⟩
  have hlc : ((nd : Nat) : Int) + 1 = ((nd + 1 : Nat) : Int) := by omega
  clear h2 h3 t1 t2 t3 hr1 hr1' hg1 hb1 hd2 hm3 hm3' hfb2 hT3 hnum HR
  simp only [fvo] at hput
  generalize hM : nd + 1 = mm at *
  go_wp2_with (at_builtin; refine appX _ rfl _ _ _ rfl 3 (.int .i64 0) 1 8 Try.underlying36 intinfo rfl (by decide) g.va na (ints s.al) rfl HR3.out (some ⟨w3.heap.size, 0, none⟩) 1 1 [.int .i64 (mm : Int)] rfl rfl (news_alloc w3 [.int .i64 (mm : Int)] 3) (by simp [Value.oneCell']) (fun h => by cases h) (by unfold maxLen; omega) (by omega) ?_)
  intro v4 w4 hr4 hg4 hb4
  obtain ⟨G4, k4, rfl⟩ := row_some hr4 (by omega)
  have t4 : Tn g.va.ownBlock.toList w3 w4 := by
    have h1 : Tn g.va.ownBlock.toList w3 (w3.alloc (.cells #[.int .i64 (mm : Int)] 3)) := (Tn.refl _ w3).alloc _
    exact h1.grown hg4 (fun k hk => .inl (opt_toList.2 hk))
  have hlen4 : (s.al ++ [mm]).length = na + 1 := by simp [hna]
  have hr4' : w4.ownsRow 0 3 1 (.slice (some ⟨G4, 0, none⟩) (na + 1) k4) (s.al ++ [mm]).length (ints (s.al ++ [mm])) := by
    rw [hlen4, ← ints_app]
    exact hr4
  have hd1 : ∀ b ∈ g.bs, (Value.slice (some ⟨G4, 0, none⟩) (na + 1) k4).ownBlock ≠ some b := by
    intro b hb e
    rcases hb4 with h | h
    · rw [h] at e
      exact HQ.out.1.d1 b hb e
    · rw [h] at e
      obtain ⟨x, hx⟩ := H3.out.1.bx.mem hb
      have := hx.lt
      simp at e
      omega
  obtain ⟨h5, t5⟩ := H3.out.1.setAl t4 hr4' hd1
  have hS4 := H3.out.1.blk.tn t4 (by rw [opt_toList]; exact fun e => H3.out.1.s_ne.2.2.2.1 _ e rfl)
  have f1 : w4.frozen? ⟨g.S, 1, none⟩ = false := hS4.frozen 1
  have d1 : w4.cell? ⟨g.S, 1, none⟩ = some g.va := hS4.cell 1
  have HE : Hid (∃ g', Sd (w4.setCell ⟨g.S, 1, none⟩ (.slice (some ⟨G4, 0, none⟩) (na + 1) k4)) N g' (s.spawned fb left cnt) ∧ Tn (ft g s) w0 (w4.setCell ⟨g.S, 1, none⟩ (.slice (some ⟨G4, 0, none⟩) (na + 1) k4)) ∧ (g'.S = g.S ∧ g'.M = g.M ∧ g'.X = g.X ∧ g'.C = g.C ∧ g'.ca = g.ca) ∧ g'.bs = g.bs ∧ ∀ x ∈ ft g' (s.spawned fb left cnt), x ∈ ft g s ∨ x = fb ∨ w0.heap.size ≤ x) := by
    have h6 : Sd (w4.setCell ⟨g.S, 1, none⟩ (.slice (some ⟨G4, 0, none⟩) (na + 1) k4)) N { g with vd := .slice (some ⟨G1, 0, none⟩) mm k1, va := .slice (some ⟨G4, 0, none⟩) (na + 1) k4 } (s.spawned fb left cnt) := by
      unfold Sc.spawned
      rw [hnd, hM]
      exact h5
    refine ⟨_, h6, H3.out.2.1.trans t5 (fun x hx => .inl ?_), ⟨rfl, rfl, rfl, rfl, rfl⟩, rfl, ?_⟩
    · rcases List.mem_cons.1 hx with rfl | hx
      · exact mem_ftS
      · exact mem_ftA (opt_toList.1 hx)
    · refine ft_sub (P := fun x => x ∈ ft g s ∨ x = fb ∨ w0.heap.size ≤ x) (.inl mem_ftS) (.inl mem_ftM) (.inl mem_ftC) (fun k hk => ?_) (fun k hk => ?_) (fun y hy => ?_) (fun a ha => .inl (mem_ftN ha))
      · rcases hb4 with h | h
        · rw [h] at hk
          exact .inl (mem_ftA hk)
        · rw [h] at hk
          have := H3.out.2.1.size
          simp at hk
          exact .inr (.inr (by omega))
      · simp only [Value.ownBlock, Option.some.injEq] at hk
        subst hk
        rcases H3.out.2.2 with h | h
        · exact .inl (mem_ftD h.symm)
        · exact .inr (.inr h)
      · simp only [Sc.spawned] at hy
        rcases List.mem_append.1 hy with h1 | h1
        · exact .inl (mem_ftF h1)
        · simp at h1
          subst h1
          exact .inr (.inl rfl)
  clear h5 t5 t4 hr4 hr4' hg4 hb4 hd1 hS4
  go_wp2
  go_ret2
  exact ⟨by subst hM; rfl, HE.out⟩
end
end Go.Proofs.Ytnjokhdedgdjjaa
