/- Schedulers: a fiber that is alive does a step. -/
import Derived.Test.YtnjokhdedgdjjaaSdC
namespace Go.Proofs.Ytnjokhdedgdjjaa
open Go.RowKit Go.Maps
set_option linter.unusedVariables false
set_option maxRecDepth 100000

theorem put_newI {w : World} {B c room : Nat} {bs : List Nat} {xs : List Int} (h : BxI w B c room bs xs) (x : Int) (hr : xs.length < room) :
    Calls Try.prog 53 #[.pointer (some ⟨B, 0, none⟩), (.int .i64 x)] w fun e w' => e = .returned (.int .i64 0) ∧ (∃ b, w.heap.size ≤ b ∧ BxI w' B c room (bs ++ [b]) (xs ++ [x])) ∧ Tn [c] w w' := by
  have ht : Below w.heap.size w (w.alloc (.cells #[.int .i64 x] 3)) := (Below.refl _ w).alloc (Nat.le_refl _) _
  obtain ⟨w0, hw0⟩ : ∃ w0, w.alloc (.cells #[.int .i64 x] 3) = w0 := ⟨_, rfl⟩
  have h1 : BxI w0 B c room bs xs := hw0 ▸ h.below ht
  have hk : Bk w0 w.heap.size 3 #[.int .i64 x] := hw0 ▸ Bk.new w _ _
  rw [hw0] at ht
  have c0 := h1.chan
  have H1 : Hid (BxI w0 B c room bs xs ∧ Bk w0 w.heap.size 3 #[.int .i64 x] ∧ Below w.heap.size w w0) := ⟨h1, hk, ht⟩
  clear h h1 hk ht
  go_enter Try.func53, Try.ntmps53
  go_wp2_with fail
  refine (bmade_anyI c0).mono ?_
  rintro e w1 ⟨rfl, rfl⟩
  go_wp2_with fail
  refine (push_anyI H1.out.1 H1.out.2.1 hr).mono ?_
  rintro e w2 ⟨rfl, hb, t⟩
  have HE : Hid ((∃ b, w.heap.size ≤ b ∧ BxI w2 B c room (bs ++ [b]) (xs ++ [x])) ∧ Tn [c] w w2) := ⟨⟨_, Nat.le_refl _, hb⟩, (Tn.of_below H1.out.2.2 [c]).trans t (by simp)⟩
  clear hb t
  go_wp2
  go_ret
  exact ⟨rfl, HE.out⟩

section
variable {w w' : World} {N : Nat} {g : Ge} {s : Sc}

theorem mem_ftS : g.S ∈ ft g s := by simp [ft]
theorem mem_ftM : g.M ∈ ft g s := by simp [ft]
theorem mem_ftC : g.C ∈ ft g s := by simp [ft]
theorem mem_ftA {k : Nat} (hk : g.va.ownBlock = some k) : k ∈ ft g s := by simp [ft, hk]
theorem mem_ftD {k : Nat} (hk : g.vd.ownBlock = some k) : k ∈ ft g s := by simp [ft, hk]
theorem mem_ftF {f : Fb} (hf : f ∈ s.fl) : f.blk ∈ ft g s := by simp [ft]; exact .inr (.inr (.inr (.inr (.inr (.inl ⟨f, hf, rfl⟩)))))
theorem mem_ftN {a : Addr} (ha : a ∈ g.ca) : a.block ∈ ft g s := by simp [ft]; exact .inr (.inr (.inr (.inr (.inr (.inr ⟨a, ha, rfl⟩)))))

theorem ft_sub {g' : Ge} {s' : Sc} {P : Nat → Prop} (h1 : P g'.S) (h2 : P g'.M) (h3 : P g'.C) (h4 : ∀ k, g'.va.ownBlock = some k → P k) (h5 : ∀ k, g'.vd.ownBlock = some k → P k) (h6 : ∀ f ∈ s'.fl, P f.blk) (h7 : ∀ a ∈ g'.ca, P a.block) : ∀ x ∈ ft g' s', P x := by
  intro x hx
  simp only [ft, List.mem_cons, List.mem_append, opt_toList, List.mem_map] at hx
  rcases hx with rfl | rfl | rfl | ((h | h) | ⟨f, hf, rfl⟩) | ⟨a, ha, rfl⟩
  · exact h1
  · exact h2
  · exact h3
  · exact h4 _ h
  · exact h5 _ h
  · exact h6 f hf
  · exact h7 a ha

theorem adv_stay (s : Sc) (f : Fb) (h : 1 < f.left) : s.adv f = { s.stepped f with done := s.done.set (f.num - 1) (wrap64 (s.done.getD (f.num - 1) 0 + 1)), steps := wrap64 (s.steps + 1) } := by
  simp [Sc.adv, Sc.stepped, h]
theorem adv_end (s : Sc) (f : Fb) (h : ¬ 1 < f.left) : s.adv f = { s.stepped f with done := s.done.set (f.num - 1) (wrap64 (s.done.getD (f.num - 1) 0 + 1)), steps := wrap64 (s.steps + 1), fl := s.fl.filter fun x => x.num != f.num, box := s.box ++ [f.num] } := by
  simp [Sc.adv, Sc.stepped, h]

theorem adv_blk {f x : Fb} (hx : x ∈ (s.adv f).fl) : ∃ y ∈ s.fl, x.blk = y.blk := by
  unfold Sc.adv at hx
  simp only at hx
  split at hx
  · obtain ⟨y, hy, rfl⟩ := List.mem_map.1 hx
    exact ⟨y, hy, less_blk _ _⟩
  · exact ⟨x, (List.mem_filter.1 hx).1, rfl⟩

theorem filter_short {fl : List Fb} {f : Fb} (hf : f ∈ fl) : (fl.filter fun x => x.num != f.num).length < fl.length := by
  induction fl with
  | nil => cases hf
  | cons x r ih =>
    rcases List.mem_cons.1 hf with rfl | h
    · have := List.length_filter_le (fun x : Fb => x.num != f.num) r
      simp
      omega
    · have := ih h
      by_cases hx : x.num = f.num
      · simp [hx]
        have := List.length_filter_le (fun x : Fb => x.num != f.num) r
        omega
      · rw [List.filter_cons_of_pos (by simpa using hx)]
        simpa using this

theorem intz_getD (l : List Int) (j : Nat) (hj : j < l.length) : (intz l)[j]? = some (.int .i64 (l.getD j 0)) := by
  unfold intz
  rw [List.getElem?_map, List.getElem?_eq_getElem hj]
  simp [List.getD, List.getElem?_eq_getElem hj]

theorem advance_any (h : Sd w N g s) {f : Fb} (hf : f ∈ s.fl) (hl : f.left ≤ 9223372036854775807) (hdl : s.done.length ≤ 4611686018427387904) {ov : Bool} (hov : ov = decide (f.left ≤ 1)) {n : Nat} (hn : n = f.num) :
    Calls Try.prog 41 #[.pointer (some ⟨g.S, 0, none⟩), .int .i64 (n : Int)] w fun e w' => e = .returned (.bool ov) ∧ ∃ g', Sd w' N g' (s.adv f) ∧ Aft w w' g g' s (s.adv f) := by
  have hup := h.up f hf
  have c0 := h.c0
  have hlk := h.mp.look1 fReads (t := 58) Try.underlying58 (fZero w) (f.num : Int) (WalkArith.wf_i64 (by have := h.hN; omega))
  rw [getI_fat s.fl N (fun f hf => (h.up f hf).2.2), fat_of_mem h.rs hf] at hlk
  simp only [Option.map_some, Option.getD_some, fvo] at hlk
  obtain ⟨cb, ci, cs, hcnt, hcb, hci⟩ := h.cb hf
  have hfb := h.fb f hf
  rw [hcnt] at hfb
  obtain ⟨G, K, hG⟩ := row_some h.dn (by omega)
  obtain ⟨j, hj⟩ : ∃ j, f.num = j + 1 := ⟨f.num - 1, by omega⟩
  have hjl : j < s.done.length := by omega
  have hw1 : wrap64 ((n : Int) - 1) = (j : Int) := by unfold wrap64; omega
  have HH : Hid (Sd w N g s ∧ f ∈ s.fl ∧ n = f.num ∧ ov = decide (f.left ≤ 1) ∧ Bk w f.blk 48 #[.int .i64 f.left, .pointer (some ⟨cb, ci, none⟩)] ∧ Bk w cb 2 cs ∧ cs[ci]? = some (.int .i64 (s.D f.cnt)) ∧ f.cnt = ⟨cb, ci, none⟩ ∧ f.num = j + 1 ∧ g.vd = .slice (some ⟨G, 0, none⟩) s.done.length K) := ⟨h, hf, hn, hov, hfb, hcb, hci, hcnt, hj, hG⟩
  rw [← hn] at hlk
  generalize hbk : f.blk = fb at hlk
  clear h hfb hcb hci hup hG hn hov hj
  go_enter Try.func41, Try.ntmps41
  go_wp2_with fail
  refine (once_any (ov := ov) (lf := if 1 < f.left then f.left - 1 else f.left) (hbk ▸ HH.out.2.2.2.2.1) HH.out.2.2.2.2.2.1 HH.out.2.2.2.2.2.2.1 hl HH.out.2.2.2.1 rfl).mono ?_
  rintro e w1 ⟨rfl, k1, k2, t1⟩
  subst hbk
  have h1 : Sd w1 N g (s.stepped f) := HH.out.1.stepped hf HH.out.2.2.2.2.2.2.2.1 HH.out.2.2.2.2.2.1 HH.out.2.2.2.2.2.2.1 t1 (by rw [HH.out.2.2.2.2.2.2.2.1]; exact k1) k2
  have hG : g.vd = .slice (some ⟨G, 0, none⟩) (s.stepped f).done.length K := HH.out.2.2.2.2.2.2.2.2.2
  have c3 := h1.c3
  rw [hG] at c3
  have hd := h1.dn
  rw [hG] at hd
  have cj : w1.cell? ⟨G, j, none⟩ = some (.int .i64 (s.done.getD j 0)) := (hd.cellAt j (by simp [Sc.stepped]; omega)).trans (intz_getD s.done j hjl)
  have fj := hd.frozenAt j
  obtain ⟨h2, t2⟩ := h1.setDone hG j (wrap64 (s.done.getD j 0 + 1))
  obtain ⟨w2, hw2⟩ : ∃ w2, w1.setCell ⟨G, j, none⟩ (.int .i64 (wrap64 (s.done.getD j 0 + 1))) = w2 := ⟨_, rfl⟩
  rw [hw2] at h2 t2
  have c4 : w2.cell? ⟨g.S, 4, none⟩ = some (.int .i64 s.steps) := h2.c4
  have f4 := h2.blk.frozen 4
  obtain ⟨h3, t3⟩ := h2.setSteps (wrap64 (s.steps + 1))
  obtain ⟨w3, hw3⟩ : ∃ w3, w2.setCell ⟨g.S, 4, none⟩ (.int .i64 (wrap64 (s.steps + 1))) = w3 := ⟨_, rfl⟩
  rw [hw3] at h3 t3
  have hS1 : ∀ x ∈ [f.blk, cb], x ∈ ft g s := by
    intro x hx
    simp only [List.mem_cons, List.not_mem_nil, or_false] at hx
    rcases hx with rfl | rfl
    · exact mem_ftF hf
    · have := mem_ftN (s := s) (HH.out.1.cin f hf)
      rw [HH.out.2.2.2.2.2.2.2.1] at this
      exact this
  have tA : Tn (ft g s) w w3 := ((t1.mono hS1).trans t2 (fun x hx => by
      simp only [List.mem_cons, List.not_mem_nil, or_false] at hx
      subst hx
      exact .inl (mem_ftD (by rw [hG]; rfl)))).trans t3 (fun x hx => by
      simp only [List.mem_cons, List.not_mem_nil, or_false] at hx
      subst hx
      exact .inl mem_ftS)
  have hdn : s.done.set (f.num - 1) (wrap64 (s.done.getD (f.num - 1) 0 + 1)) = s.done.set j (wrap64 (s.done.getD j 0 + 1)) := by
    have : f.num - 1 = j := by have := HH.out.2.2.2.2.2.2.2.2.1; omega
    rw [this]
  generalize hx0 : s.done.getD j 0 = x0 at *
  generalize hsl : (s.stepped f).done.length = nn at *
  have hjn : j < nn := by rw [← hsl]; exact hjl
  by_cases hlt : 1 < f.left
  · obtain rfl : ov = false := by rw [HH.out.2.2.2.1]; simp; omega
    have HE : Hid (∃ g', Sd w3 N g' (s.adv f) ∧ Aft w w3 g g' s (s.adv f)) := by
      refine ⟨g, ?_, tA, ⟨rfl, rfl, rfl, rfl, rfl⟩, fun x hx => .inl ?_, fun b hb => .inl hb⟩
      · rw [adv_stay s f hlt, hdn]
        exact h3
      · refine ft_sub (P := fun x => x ∈ ft g s) mem_ftS mem_ftM mem_ftC (fun _ => mem_ftA) (fun _ => mem_ftD) (fun y hy => ?_) (fun a ha => mem_ftN ha) x hx
        obtain ⟨z, hz, e⟩ := adv_blk hy
        rw [e]
        exact mem_ftF hz
    clear h1 h2 h3 t1 t2 t3 tA k1 k2 hd hS1 hdn hG
    go_wp2
    go_ret
    exact ⟨rfl, HE.out⟩
  · obtain rfl : ov = true := by rw [HH.out.2.2.2.1]; simp; omega
    have d0 := h3.c0
    have d2 := h3.c2
    obtain ⟨w4, hdel, hm4, t4⟩ := h3.mp.del (t := 58) Try.underlying58 (f.num : Int) (WalkArith.wf_i64 (by have := h3.hN; have := HH.out.1.up f hf; omega)) 0
    have efl : (s.stepped f).fl = s.fl := by simp [Sc.stepped, hlt]
    have hm5 : Mp fElem w4 g.M N (fsome (s.fl.filter fun x => x.num != f.num)) := by
      rw [fsome_rid]
      have := hm4
      simp only [efl] at this
      exact this
    have hs := filter_short hf
    have h4 : Sd w4 N g { ({ s.stepped f with done := s.done.set j (wrap64 (x0 + 1)), steps := wrap64 (s.steps + 1) } : Sc) with fl := s.fl.filter fun x => x.num != f.num } := by
      refine h3.turnMap t4 hm5 (fun y hy => ?_) ?_ ?_ ?_
      · show y ∈ (s.stepped f).fl
        rw [efl]
        exact (List.mem_filter.1 hy).1
      · exact HH.out.1.nd.sublist ((List.filter_sublist).map _)
      · exact HH.out.1.rs.sublist ((List.filter_sublist).map _)
      · show _ ≤ (s.stepped f).fl.length
        rw [efl]
        omega
    have e2 := h4.c2
    have hroom : (s.box.map fun (n : Nat) => (n : Int)).length < s.room := by
      have := HH.out.1.fits
      simp
      omega
    rw [← HH.out.2.2.1] at hdel
    have H4 : Hid (Sd w4 N g { ({ s.stepped f with done := s.done.set j (wrap64 (x0 + 1)), steps := wrap64 (s.steps + 1) } : Sc) with fl := s.fl.filter fun x => x.num != f.num } ∧ Tn (ft g s) w w4) := ⟨h4, tA.trans t4 (fun x hx => by
      simp only [List.mem_cons, List.not_mem_nil, or_false] at hx
      subst hx
      exact .inl mem_ftM)⟩
    have H5 : Hid (s.done.set (f.num - 1) (wrap64 (s.done.getD (f.num - 1) 0 + 1)) = s.done.set j (wrap64 (x0 + 1)) ∧ (s.fl.filter fun x => x.num != f.num).length < s.fl.length) := ⟨hdn, hs⟩
    clear h1 h2 h3 h4 t1 t2 t3 t4 tA k1 k2 hd hS1 hdn hG hm4 hm5 hs
    go_wp2_with fail
    refine (put_newI H4.out.1.bx (n : Int) hroom).mono ?_
    rintro e w5 ⟨rfl, ⟨b, hbn, hb⟩, t5⟩
    have e6 : (s.box.map fun (n : Nat) => (n : Int)) ++ [((n : Nat) : Int)] = (s.box ++ [f.num]).map fun (n : Nat) => (n : Int) := by simp [HH.out.2.2.1]
    have hb' : BxI w5 g.X g.C s.room (g.bs ++ [b]) ((s.box ++ [f.num]).map fun (n : Nat) => (n : Int)) := by
      rw [← e6]
      exact hb
    have HE : Hid (∃ g', Sd w5 N g' (s.adv f) ∧ Aft w w5 g g' s (s.adv f)) := by
      refine ⟨{ g with bs := g.bs ++ [b] }, ?_, H4.out.2.trans t5 (fun x hx => ?_), ⟨rfl, rfl, rfl, rfl, rfl⟩, fun x hx => .inl ?_, fun b' hb'' => ?_⟩
      · rw [adv_end s f (by omega), H5.out.1]
        refine H4.out.1.turnBox t5 hb' (fun b' hb'' => ?_) ?_
        · rcases List.mem_append.1 hb'' with h1 | h1
          · exact .inl h1
          · simp at h1
            subst h1
            exact .inr hbn
        · have := HH.out.1.fits
          have := H5.out.2
          show (s.fl.filter fun x => x.num != f.num).length + (s.box ++ [f.num]).length ≤ s.room
          simp
          omega
      · simp only [List.mem_cons, List.not_mem_nil, or_false] at hx
        subst hx
        exact .inl mem_ftC
      · refine ft_sub (P := fun x => x ∈ ft g s) mem_ftS mem_ftM mem_ftC (fun _ => mem_ftA) (fun _ => mem_ftD) (fun y hy => ?_) (fun a ha => mem_ftN ha) x hx
        obtain ⟨z, hz, e⟩ := adv_blk hy
        rw [e]
        exact mem_ftF hz
      · rcases List.mem_append.1 hb'' with h1 | h1
        · exact .inl h1
        · simp at h1
          subst h1
          exact .inr (Nat.le_trans H4.out.2.size hbn)
    clear hb hb' t5 e6
    go_wp2
    go_ret
    exact ⟨rfl, HE.out⟩
end
end Go.Proofs.Ytnjokhdedgdjjaa
