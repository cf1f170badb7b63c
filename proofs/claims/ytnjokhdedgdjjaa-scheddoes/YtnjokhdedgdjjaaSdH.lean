/- Schedulers: who has finished in a round is struck. -/
import Derived.Test.YtnjokhdedgdjjaaSdG
namespace Go.Proofs.Ytnjokhdedgdjjaa
open Go.RowKit Go.Maps Go.Lib Go.Shelf Go.Sort
set_option linter.unusedVariables false
set_option maxRecDepth 100000

abbrev encM (n : Nat) : Value := .int .i64 ((n % 4611686018427387904 : Nat) : Int)
theorem ints_enc {l : List Nat} (h : ∀ x ∈ l, x < 4611686018427387904) : ints l = l.map encM := by
  unfold ints
  refine List.map_congr_left fun x hx => ?_
  unfold encM
  rw [Nat.mod_eq_of_lt (h x hx)]

theorem sortWorld_tn (w : World) (g m : Nat) (d : Array Nat) (os : Array Obj) : Tn [g] w (sortWorld encM w g 0 m d os) := by
  refine ⟨rfl, rfl, rfl, ?_, fun k hk hn => ?_⟩
  · show w.heap.size ≤ ((putRow encM (Sort.ahead w m) g 0 d).heap ++ os).size
    rw [Array.size_append, size_putRow]
    show w.heap.size ≤ w.heap.size + os.size
    omega
  · have hne : k ≠ g := by simpa using hn
    show ((putRow encM (Sort.ahead w m) g 0 d).heap ++ os)[k]? = w.heap[k]?
    rw [Array.getElem?_append_left (by rw [size_putRow]; exact hk)]
    unfold putRow mapBlock
    rw [Array.getElem?_modify, if_neg (fun e => hne e.symm)]
    rfl

/-- The closure: is a number no fiber's that is alive? -/
theorem gone_any {w : World} {B S M N : Nat} {fl : List Fb} (hB : w.cell? ⟨B, 0, none⟩ = some (.pointer (some ⟨S, 0, none⟩))) (hS : w.cell? ⟨S, 0, none⟩ = some (.map (some M))) (hm : Mp fElem w M N (fsome fl)) (hN : ∀ f ∈ fl, f.num < N) (x : Nat) :
    FnGives Try.prog 55 #[.pointer (some ⟨B, 0, none⟩)] #[encM x] (.bool (!(fat fl ((x % 4611686018427387904 : Nat) : Int)).isSome)) w := by
  have hl := hm.look fReads (t := 58) Try.underlying58 (fZero w) ((x % 4611686018427387904 : Nat) : Int) (WalkArith.wf_i64 (by omega))
  rw [getI_fat fl N hN] at hl
  have hb : ((fat fl ((x % 4611686018427387904 : Nat) : Int)).map fun f => some f.blk).isSome = (fat fl ((x % 4611686018427387904 : Nat) : Int)).isSome := by simp
  rw [hb] at hl
  generalize (fat fl ((x % 4611686018427387904 : Nat) : Int)).isSome = b at hl ⊢
  generalize fvo _ = vv at hl
  unfold encM
  generalize ((x % 4611686018427387904 : Nat) : Int) = q at hl ⊢
  clear hm hb
  show Calls Try.prog 55 #[.int .i64 q, .pointer (some ⟨B, 0, none⟩)] w _
  go_enter Try.func55, Try.ntmps55
  go_wp2
  go_ret
  exact ⟨rfl, 0, rfl⟩

theorem dfun_any {w : World} {v : Value} {l : List Nat} {B S M N : Nat} {fl : List Fb} (h : w.ownsRow 0 3 1 v l.length (ints l)) (hl0 : 0 < l.length) (hlt : ∀ x ∈ l, x < 4611686018427387904) (kB : Bk w B 23 #[.pointer (some ⟨S, 0, none⟩)]) {cs : Array Value} (kS : Bk w S 61 cs) (hcs : cs[0]? = some (.map (some M))) (hm : Mp fElem w M N (fsome fl)) (hN : ∀ f ∈ fl, f.num < N) (hln : l.length ≤ 4611686018427387904) :
    Calls Try.prog 54 #[v, .func (.func 55) #[] #[.pointer (some ⟨B, 0, none⟩)]] w fun e w' => ∃ v', e = .returned v' ∧ w'.ownsRow 0 3 1 v' (l.filter fun (x : Nat) => (fat fl (x : Int)).isSome).length (ints (l.filter fun (x : Nat) => (fat fl (x : Int)).isSome)) ∧ Tn v.ownBlock.toList w w' ∧ v'.ownBlock = v.ownBlock := by
  obtain ⟨G, cap, rfl⟩ := row_some h hl0
  have eg : ∀ args w, (callFunc 55 args).run Try.prog w = .ok (.enter 55 args) w := enters_of Try.func55 (by kernel_rfl) rfl
  have h' := h
  rw [ints_enc hlt] at h'
  obtain ⟨G', cap', e1, _, hGl, hcap, hcm, _, hH⟩ := holds_of_ownsRow h' (by simp)
  simp only [Value.slice.injEq, Option.some.injEq, Addr.mk.injEq, and_true, true_and] at e1
  obtain ⟨rfl, rfl⟩ := e1
  have hG : ∃ cg, Bk w G 3 cg := row_bk h (k := G) rfl
  obtain ⟨cg, hG⟩ := hG
  have neB : B ≠ G := kB.ne hG (by decide)
  have neS : S ≠ G := kS.ne hG (by decide)
  have neM : M ≠ G := hG.neM hm
  have hgone : ∀ (W : World), Bk W B 23 #[.pointer (some ⟨S, 0, none⟩)] → Bk W S 61 cs → Mp fElem W M N (fsome fl) → ∀ x : Nat, FnGives Try.prog 55 #[.pointer (some ⟨B, 0, none⟩)] #[encM x] (.bool (!(fat fl ((x % 4611686018427387904 : Nat) : Int)).isSome)) W := fun W k1 k2 k3 x => gone_any (k1.cell 0) ((k2.cell 0).trans hcs) k3 hN x
  have hcon := AnyE.slices_DeleteFunc Try.sdDelF encM (fun _ => rfl) (fun x => !(fat fl ((x % 4611686018427387904 : Nat) : Int)).isSome) 55 #[.pointer (some ⟨B, 0, none⟩)] eg 0 (fun w => by kernel_rfl) G 0 cap l.toArray w
    (fun W x hb => hgone W (kB.below hb kB.lt) (kS.below hb kS.lt) (hm.below hb) x)
    (fun n os dk x _ => by
      have t := sortWorld_tn w G n dk os
      exact hgone _ (kB.tn t (by simpa using neB)) (kS.tn t (by simpa using neS)) (hm.tn t (by simpa using neM)) x)
    hH (by simp; omega) (by simpa using hcap)
  have hfil : (l.filter fun x => !(!(fat fl ((x % 4611686018427387904 : Nat) : Int)).isSome)) = l.filter fun (x : Nat) => (fat fl (x : Int)).isSome := by
    refine List.filter_congr fun x hx => ?_
    rw [Nat.mod_eq_of_lt (hlt x hx)]
    simp
  simp only [List.size_toArray] at hcon
  rw [hfil] at hcon
  refine Calls.mono hcon ?_
  rintro e w' ⟨rfl, q, rfl⟩
  have hle := List.length_filter_le (fun (x : Nat) => (fat fl (x : Int)).isSome) l
  refine ⟨_, rfl, ?_, ?_, rfl⟩
  · have := ownsRow_putRow (enc := encM) (q := q) (k := (l.filter fun (x : Nat) => (fat fl (x : Int)).isSome).length) (ys := (l.filter fun (x : Nat) => (fat fl (x : Int)).isSome) ++ List.replicate (l.length - (l.filter fun (x : Nat) => (fat fl (x : Int)).isSome).length) 0) h' (by simp; omega) hle
    rw [List.take_left' rfl, ← ints_enc (fun x hx => hlt x (List.mem_filter.1 hx).1)] at this
    exact this
  · have := sortWorld_tn w G q ((l.filter fun (x : Nat) => (fat fl (x : Int)).isSome) ++ List.replicate (l.length - (l.filter fun (x : Nat) => (fat fl (x : Int)).isSome).length) 0).toArray #[]
    unfold sortWorld at this
    rw [grow_empty] at this
    exact this

section
variable {w w' : World} {N : Nat} {g : Ge} {s : Sc}

/-- Behind it the list has just who is alive. -/
def Sc.struck (s : Sc) : Sc := { s with al := s.fl.map Fb.num }

theorem dfunS {B : Nat} (h : Sd w N g s) (kB : Bk w B 23 #[.pointer (some ⟨g.S, 0, none⟩)]) (h0 : 0 < s.al.length) (hlt : ∀ x ∈ s.al, x < 4611686018427387904) (hl : s.al.length ≤ 4611686018427387904) :
    Calls Try.prog 54 #[g.va, .func (.func 55) #[] #[.pointer (some ⟨B, 0, none⟩)]] w fun e w' => ∃ v', e = .returned v' ∧ w'.ownsRow 0 3 1 v' (s.al.filter fun (x : Nat) => (fat s.fl (x : Int)).isSome).length (ints (s.al.filter fun (x : Nat) => (fat s.fl (x : Int)).isSome)) ∧ Tn g.va.ownBlock.toList w w' ∧ v'.ownBlock = g.va.ownBlock ∧ Bk w' B 23 #[.pointer (some ⟨g.S, 0, none⟩)] ∧ Bk w' g.S 61 #[.map (some g.M), g.va, .pointer (some ⟨g.X, 0, none⟩), g.vd, .int .i64 s.steps] := by
  refine (dfun_any h.al h0 hlt kB h.blk rfl h.mp (fun f hf => (h.up f hf).2.2) hl).mono ?_
  rintro e w' ⟨v', rfl, h1, h2, h3⟩
  refine ⟨v', rfl, h1, h2, h3, kB.tn h2 (fun hm => ?_), h.blk.tn h2 (fun hm => ?_)⟩
  · obtain ⟨cs, hc⟩ := row_bk h.al (opt_toList.1 hm)
    exact kB.ne hc (by decide) rfl
  · exact h.s_ne.2.2.2.1 _ (opt_toList.1 hm) rfl

theorem strikeAll_any (h : Sd w N g s) (hsub : (s.al.filter fun (x : Nat) => (fat s.fl (x : Int)).isSome) = s.fl.map Fb.num) (hlt : ∀ x ∈ s.al, x < 4611686018427387904) (hl : s.al.length ≤ 4611686018427387904) :
    Calls Try.prog 48 #[.pointer (some ⟨g.S, 0, none⟩)] w fun e w' => e = .returned (.tuple #[]) ∧ ∃ g', Sd w' N g' s.struck ∧ Aft w w' g g' s s.struck := by
  have hmf : ∀ (fn : Fn) (first cap : Array Value) (w : World), (Instr.makeFunc fn first cap).run Try.prog w = .ok (.func fn first cap) w := fun _ _ _ _ => rfl
  obtain ⟨w0, hw0⟩ : ∃ w0, w.alloc (.cells #[.pointer (some ⟨g.S, 0, none⟩)] 23) = w0 := ⟨_, rfl⟩
  have hb0 : Below w.heap.size w w0 := hw0 ▸ (Below.refl _ w).alloc (Nat.le_refl _) _
  have h0 : Sd w0 N g s := h.below hb0
  have k0 : Bk w0 w.heap.size 23 #[.pointer (some ⟨g.S, 0, none⟩)] := hw0 ▸ Bk.new w _ _
  have b0 : w0.cell? ⟨w.heap.size, 0, none⟩ = some (.pointer (some ⟨g.S, 0, none⟩)) := k0.cell 0
  have c0 := h0.c0
  have c1 := h0.c1
  obtain ⟨p, cap, hvf, hcap⟩ := row_form h.al
  obtain ⟨na, HNA⟩ : ∃ na, Hid (na = s.al.length) := ⟨_, rfl⟩
  obtain ⟨nf, HNF⟩ : ∃ nf, Hid (nf = s.fl.length) := ⟨_, rfl⟩
  have hml : ∀ (k : Nat) (ty : TypeId), (Builtin.len_ #[58] ty #[.map (some g.M)]).run Try.prog (w0.drewN k) = .ok (.int .i64 (nf : Int)) (w0.drewN k) := fun k ty => by
    have := (h0.drew k).mp.len (t := 58) Try.underlying58 ty
    rw [ents_len N s.fl h0.rs (fun f hf => (h0.up f hf).2.2), ← HNF.out] at this
    exact this
  rw [hvf, ← HNA.out] at c1
  have HH : Hid (Sd w0 N g s ∧ Below w.heap.size w w0 ∧ Bk w0 w.heap.size 23 #[.pointer (some ⟨g.S, 0, none⟩)] ∧ (s.al.filter fun (x : Nat) => (fat s.fl (x : Int)).isSome) = s.fl.map Fb.num ∧ (∀ x ∈ s.al, x < 4611686018427387904) ∧ s.al.length ≤ 4611686018427387904 ∧ g.va = .slice p s.al.length cap) := ⟨h0, hb0, k0, hsub, hlt, hl, hvf⟩
  clear h h0 hb0 k0 hsub hlt hvf hcap
  go_enter Try.func48, Try.ntmps48
  go_wp2_with fail
  go_quiet (fail)
  by_cases heq : na = nf
  · have hfe : s.struck = s := by
      unfold Sc.struck
      have : s.al.filter (fun (x : Nat) => (fat s.fl (x : Int)).isSome) = s.al := by
        apply List.filter_eq_self.2
        have hle : (s.al.filter fun (x : Nat) => (fat s.fl (x : Int)).isSome).length = s.al.length := by
          rw [HH.out.2.2.2.1, List.length_map, ← HNF.out, ← HNA.out, heq]
        exact List.length_filter_eq_length_iff.1 hle
      rw [← HH.out.2.2.2.1, this]
    have HE : Hid (∃ g', Sd (w0.drewN nq) N g' s.struck ∧ Aft w (w0.drewN nq) g g' s s.struck) := by
      rw [hfe]
      refine ⟨g, HH.out.1.drew nq, ?_, ⟨rfl, rfl, rfl, rfl, rfl⟩, fun x hx => .inl hx, fun x hx => .inl hx⟩
      exact (Tn.of_below HH.out.2.1 _).trans (⟨rfl, rfl, rfl, Nat.le_refl _, fun _ _ _ => rfl⟩ : Tn [] w0 (w0.drewN nq)) (by simp)
    subst heq
    go_wp2
    refine bodyPost_ret (results_none rfl _ _ _) rfl ?_
    exact ⟨rfl, HE.out⟩
  · have hne : ((na : Int) == (nf : Int)) = false := by simp; omega
    have hne' : ¬ (na : Int) = (nf : Int) := by omega
    have hal0 : 0 < s.al.length := by
      have h1 := congrArg List.length HH.out.2.2.2.1
      have h2 := List.length_filter_le (fun (x : Nat) => (fat s.fl (x : Int)).isSome) s.al
      rw [List.length_map, ← HNF.out] at h1
      rw [← HNA.out] at h2 ⊢
      omega
    obtain ⟨wq, hwq⟩ : ∃ wq, w0.drewN nq = wq := ⟨_, rfl⟩
    have hq : Sd wq N g s := hwq ▸ HH.out.1.drew nq
    have tq : Tn [] w0 wq := hwq ▸ ⟨rfl, rfl, rfl, Nat.le_refl _, fun _ _ _ => rfl⟩
    have kq : Bk wq w.heap.size 23 #[.pointer (some ⟨g.S, 0, none⟩)] := HH.out.2.2.1.tn tq (by simp)
    have d0 : wq.cell? ⟨w.heap.size, 0, none⟩ = some (.pointer (some ⟨g.S, 0, none⟩)) := kq.cell 0
    have d1 := hq.c1
    have HQ : Hid (Sd wq N g s ∧ Tn [] w0 wq ∧ Bk wq w.heap.size 23 #[.pointer (some ⟨g.S, 0, none⟩)] ∧ 0 < s.al.length) := ⟨hq, tq, kq, hal0⟩
    rw [hwq]
    clear hwq hq tq kq hal0 b0 c0 c1 hml
    go_wp2_with fail
    have hnS : w.heap.size ≠ g.S := fun e => HQ.out.2.2.1.ne HQ.out.1.blk (by decide) e
    have hnS' : g.S ≠ w.heap.size := fun e => hnS e.symm
    have hq1 : Sd wq.drew N g s := HQ.out.1.drew 1
    have HQ1 : Hid (Sd wq.drew N g s ∧ Bk wq.drew w.heap.size 23 #[.pointer (some ⟨g.S, 0, none⟩)]) := ⟨hq1, HQ.out.2.2.1⟩
    have x0 : wq.drew.cell? ⟨w.heap.size, 0, none⟩ = some (.pointer (some ⟨g.S, 0, none⟩)) := d0
    have x1 : wq.drew.cell? ⟨g.S, 1, none⟩ = some g.va := d1
    clear hq1
    go_region_law (first
      | (go_simp; go_at_call 54; refine (dfunS HQ1.out.1 HQ1.out.2 HQ.out.2.2.2 HH.out.2.2.2.2.1 HH.out.2.2.2.2.2.1).mono ?_; rintro e w2 ⟨v', rfl, hr, t2, hv', k1, k2⟩; have s1 := k1.cell 0; have s2 := k2.cell 1; have f1 := k2.frozen 1; simp at s1 s2; obtain ⟨p', c', hvf', hc'⟩ := row_form hr; subst hvf'))
    all_goals
      go_end0
      have hcut := HH.out.2.2.2.1
      rw [hcut] at hr hv' ⊢
      have hrl : (s.fl.map Fb.num).length = s.fl.length := by simp
      obtain ⟨h3, t3⟩ := HQ1.out.1.setAl t2 hr (fun b hb e => HQ1.out.1.d1 b hb (hv' ▸ e))
      refine ⟨rfl, _, h3, ?_, ⟨rfl, rfl, rfl, rfl, rfl⟩, ?_, fun b hb => .inl hb⟩
      · refine ((Tn.of_below HH.out.2.1 _).trans (HQ.out.2.1.mono (by simp)) (fun x hx => .inl hx)).trans (Tn.trans (S := ft g s) (⟨rfl, rfl, rfl, Nat.le_refl _, fun _ _ _ => rfl⟩ : Tn (ft g s) wq wq.drew) t3 (fun x hx => .inl ?_)) (fun x hx => .inl hx)
        rcases List.mem_cons.1 hx with rfl | hx
        · exact mem_ftS
        · exact mem_ftA (opt_toList.1 hx)
      · exact ft_sub (P := fun x => x ∈ ft g s ∨ w.heap.size ≤ x) (.inl mem_ftS) (.inl mem_ftM) (.inl mem_ftC) (fun k hk => .inl (mem_ftA (hv' ▸ hk))) (fun k hk => .inl (mem_ftD hk)) (fun y hy => .inl (mem_ftF hy)) (fun a ha => .inl (mem_ftN ha))
end
end Go.Proofs.Ytnjokhdedgdjjaa
