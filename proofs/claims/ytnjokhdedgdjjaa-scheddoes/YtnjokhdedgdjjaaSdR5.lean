/- The document's scheduler: its calls. -/
import Derived.Test.YtnjokhdedgdjjaaSdR4
namespace Go.Proofs.Ytnjokhdedgdjjaa
open Go.RowKit Go.Maps
set_option linter.unusedVariables false
set_option maxRecDepth 100000

section
variable {w w' : World} {r : Gr} {s : Sc}

theorem fat_idx {fl : List Fb} {q : Int} {f : Fb} (h : fat fl q = some f) : ∃ i : Nat, fl[i]? = some f ∧ (f.num : Int) = q := by
  obtain ⟨h1, h2⟩ := fat_mem h
  obtain ⟨i, hi⟩ := List.getElem?_of_mem h1
  exact ⟨i, hi, h2⟩

theorem num_first : ∀ {l : List Fb} {i : Nat} {f : Fb}, (l.map Fb.num).Pairwise (· < ·) → l[i]? = some f → ∀ j, j < i → ∀ x, l[j]? = some x → x.num < f.num
  | [], i, f, _, h => by simp at h
  | y :: l, 0, f, hr, h => by intro j hj; omega
  | y :: l, i + 1, f, hr, h => by
    intro j hj x hx
    simp only [List.map_cons, List.pairwise_cons] at hr
    have hf : l[i]? = some f := by simpa using h
    cases j with
    | zero =>
      simp at hx
      subst hx
      exact hr.1 _ (List.mem_map_of_mem (List.mem_of_getElem? hf))
    | succ j => exact num_first hr.2 hf j (by omega) x (by simpa using hx)

theorem rplace_some (h : Rs w r s) (hr : (s.fl.map Fb.num).Pairwise (· < ·)) {i : Nat} {f : Fb} (hi : s.fl[i]? = some f) (hl : s.fl.length ≤ 4096) {q : Int} (hq : q = (f.num : Int)) :
    Calls Try.prog 44 #[.pointer (some ⟨r.R, 0, none⟩), .int .i64 q] w fun e w' => e = .returned (.int .i64 (i : Int)) ∧ w' = w :=
  rplace_any h q hl (.inl ⟨i, f, rfl, hi, hq.symm, fun j hj x hx => by have := num_first hr hi j hj x hx; omega⟩)

theorem rplace_none (h : Rs w r s) {q : Int} (hq : fat s.fl q = none) (hl : s.fl.length ≤ 4096) :
    Calls Try.prog 44 #[.pointer (some ⟨r.R, 0, none⟩), .int .i64 q] w fun e w' => e = .returned (.int .i64 (-1)) ∧ w' = w :=
  rplace_any h q hl (.inr ⟨rfl, fat_none.1 hq⟩)

theorem rstep_no (h : Rs w r s) {q : Int} (hq : fat s.fl q = none) (hl : s.fl.length ≤ 4096) : Calls Try.prog 28 #[.pointer (some ⟨r.R, 0, none⟩), .int .i64 q] w fun e w' => e = .returned (.tuple #[.bool false, .int .i64 4]) ∧ w' = w := by
  have HP : Hid _ := rplace_none h hq hl
  clear h hq
  go_enter Try.func28, Try.ntmps28
  go_wp2_with fail
  refine Calls.mono HP.out ?_
  rintro e w1 ⟨rfl, rfl⟩
  go_wp2
  go_ret2
  exact ⟨rfl, rfl⟩

theorem rstep_any (h : Rs w r s) (hr : (s.fl.map Fb.num).Pairwise (· < ·)) (hup : s.ups) (hsm : s.small) {f : Fb} (hf : f ∈ s.fl) (hl : s.fl.length ≤ 4096) (hb : s.box.length ≤ 4096) (hd : s.done.length ≤ 4611686018427387904) {ov : Bool} (hov : ov = decide (f.left ≤ 1)) {n : Nat} (hn : n = f.num) :
    Calls Try.prog 28 #[.pointer (some ⟨r.R, 0, none⟩), .int .i64 (n : Int)] w fun e w' => e = .returned (.tuple #[.bool ov, .int .i64 0]) ∧ ∃ r', Rs w' r' (s.step f) ∧ RT w w' r r' := by
  obtain ⟨i, hi⟩ := List.getElem?_of_mem hf
  have HP : Hid _ := rplace_some h hr hi hl (q := (n : Int)) (by rw [hn])
  have HA : Hid _ := rat_any h hr hup hsm hi hl hb hd hov
  have g1 : ¬ (i : Int) < 0 := by omega
  clear h hr hup hsm hf hl hb hd hov hi hn
  go_enter Try.func28, Try.ntmps28
  go_wp2_with fail
  refine Calls.mono HP.out ?_
  rintro e w1 ⟨rfl, rfl⟩
  go_wp2_with fail
  refine Calls.mono HA.out ?_
  rintro e w2 ⟨rfl, r2, h2, t2⟩
  have HE : Hid (∃ r', Rs w2 r' (s.step f) ∧ RT w1 w2 r r') := ⟨r2, h2.congr rfl rfl rfl rfl rfl, t2⟩
  clear h2 t2 HP HA
  go_wp2
  go_ret2
  exact ⟨rfl, HE.out⟩

theorem rpick_none (h : Rs w r s) (k : Int) (hf : s.fl = []) : Calls Try.prog 29 #[.pointer (some ⟨r.R, 0, none⟩), .int .i64 k] w fun e w' => e = .returned (.tuple #[.int .i64 0, .bool false, .int .i64 4]) ∧ w' = w := by
  have c2 := h.c2
  obtain ⟨p, c, hv, -⟩ := row_form h.al
  have h0 : s.fl.length = 0 := by rw [hf]; rfl
  rw [h0] at hv
  rw [hv] at c2
  clear h hv hf h0
  go_enter Try.func29, Try.ntmps29
  go_wp2
  go_ret3
  exact ⟨rfl, rfl⟩

theorem rpick_any (h : Rs w r s) (hr : (s.fl.map Fb.num).Pairwise (· < ·)) (hup : s.ups) (hsm : s.small) (k : Int) (hk : -9223372036854775808 ≤ k ∧ k ≤ 9223372036854775807) {i : Nat} {f : Fb} (hi : s.fl[i]? = some f) (hki : k % (s.fl.length : Int) = (i : Int)) (hl : s.fl.length ≤ 4096) (hb : s.box.length ≤ 4096) (hd : s.done.length ≤ 4611686018427387904) {ov : Bool} (hov : ov = decide (f.left ≤ 1)) :
    Calls Try.prog 29 #[.pointer (some ⟨r.R, 0, none⟩), .int .i64 k] w fun e w' => e = .returned (.tuple #[.int .i64 (f.num : Int), .bool ov, .int .i64 0]) ∧ ∃ r', Rs w' r' (s.step f) ∧ RT w w' r r' := by
  have hlt := (List.getElem?_eq_some_iff.1 hi).1
  have HA : Hid _ := rat_any h hr hup hsm hi hl hb hd hov
  obtain ⟨G, c, hv, hc, x0, -, -, -⟩ := h.fcell hi
  have c2 := h.c2
  rw [hv] at c2
  obtain ⟨n, hn⟩ : ∃ n, s.fl.length = n := ⟨_, rfl⟩
  rw [hn] at c2 hki hlt hl hc
  have hn0 : (n : Int) ≠ 0 := by omega
  have hn0' : ((n : Int) == 0) = false := by simpa using hn0
  have hm1 : ¬ (n : Int) = -1 := by omega
  have b1 : (0 : Int) ≤ (i : Int) := by omega
  have b2 : (i : Int) < (n : Int) := by omega
  generalize (f.num : Int) = y at *
  by_cases hneg : k.tmod (n : Int) < 0
  · have e1 : wrap64 (k.tmod n + n) = (i : Int) := by
      have h1 := @Int.emod_eq_tmod k n
      have h2 := Int.emod_nonneg k hn0
      have h2' := Int.emod_lt_of_pos k (b := (n : Int)) (by omega)
      have h3 : ¬ 0 ≤ k := fun hh => by have := Int.tmod_nonneg (n : Int) hh; omega
      have h4 : ¬ (n : Int) ∣ k := fun hd => by rw [Int.tmod_eq_zero_of_dvd hd] at hneg; omega
      rw [← hki]
      unfold wrap64
      simp [h3, h4] at h1
      omega
    clear h hr hup hsm hi hki hb hd hov hn hv
    go_enter Try.func29, Try.ntmps29
    go_wp2_with fail
    refine Calls.mono HA.out ?_
    rintro e w2 ⟨rfl, r2, h2, t2⟩
    have HE : Hid (∃ r', Rs w2 r' (s.step f) ∧ RT w w2 r r') := ⟨r2, h2.congr rfl rfl rfl rfl rfl, t2⟩
    clear h2 t2 HA
    go_wp2
    go_ret3
    exact ⟨rfl, HE.out⟩
  · have e1 : k.tmod n = (i : Int) := by
      rw [← hki]
      have h1 := @Int.emod_eq_tmod k n
      rw [h1]
      by_cases h3 : 0 ≤ k
      · simp [h3]
      · have h4 : (n : Int) ∣ k := by
          have h5 : k.tmod n ≤ 0 := by
            have := Int.tmod_nonneg (n : Int) (a := -k) (by omega)
            rw [Int.neg_tmod] at this
            omega
          exact Int.dvd_of_tmod_eq_zero (by omega)
        simp [h4]
    have g1 : ¬ (i : Int) < 0 := by omega
    clear h hr hup hsm hi hki hb hd hov hn hv hneg
    go_enter Try.func29, Try.ntmps29
    go_wp2_with fail
    refine Calls.mono HA.out ?_
    rintro e w2 ⟨rfl, r2, h2, t2⟩
    have HE : Hid (∃ r', Rs w2 r' (s.step f) ∧ RT w w2 r r') := ⟨r2, h2.congr rfl rfl rfl rfl rfl, t2⟩
    clear h2 t2 HA
    go_wp2
    go_ret3
    exact ⟨rfl, HE.out⟩

theorem rdrop_no (h : Rs w r s) {q : Int} (hq : fat s.fl q = none) (hl : s.fl.length ≤ 4096) : Calls Try.prog 32 #[.pointer (some ⟨r.R, 0, none⟩), .int .i64 q] w fun e w' => e = .returned (.int .i64 4) ∧ w' = w := by
  have HP : Hid _ := rplace_none h hq hl
  clear h hq
  go_enter Try.func32, Try.ntmps32
  go_wp2_with fail
  refine Calls.mono HP.out ?_
  rintro e w1 ⟨rfl, rfl⟩
  go_wp2
  go_ret
  exact ⟨rfl, rfl⟩

theorem rdrop_any (h : Rs w r s) (hr : (s.fl.map Fb.num).Pairwise (· < ·)) {f : Fb} (hf : f ∈ s.fl) (hl : s.fl.length ≤ 4096) {n : Nat} (hn : n = f.num) :
    Calls Try.prog 32 #[.pointer (some ⟨r.R, 0, none⟩), .int .i64 (n : Int)] w fun e w' => e = .returned (.int .i64 0) ∧ ∃ r', Rs w' r' (s.dropped n) ∧ RT w w' r r' := by
  obtain ⟨i, hi⟩ := List.getElem?_of_mem hf
  have HP : Hid _ := rplace_some h hr hi hl (q := (n : Int)) (by rw [hn])
  have HA : Hid _ := rdropAt_any h hi hl
  have HC : Hid (s.fl.take i ++ s.fl.drop (i + 1) = (s.dropped n).fl) := by
    show _ = _
    rw [cut_filter hr hi, hn]
    rfl
  have g1 : ¬ (i : Int) < 0 := by omega
  clear h hr hf hl hi hn
  go_enter Try.func32, Try.ntmps32
  go_wp2_with fail
  refine Calls.mono HP.out ?_
  rintro e w1 ⟨rfl, rfl⟩
  go_wp2_with fail
  refine Calls.mono HA.out ?_
  rintro e w2 ⟨rfl, va, h2, t2⟩
  have HE : Hid (∃ r', Rs w2 r' (s.dropped n) ∧ RT w1 w2 r r') := ⟨_, h2.congr rfl rfl HC.out.symm rfl rfl, t2⟩
  clear h2 t2 HP HA
  go_wp2
  go_ret
  exact ⟨rfl, HE.out⟩

theorem rfinished_none (h : Rs w r s) (hb : s.box = []) : Calls Try.prog 31 #[.pointer (some ⟨r.R, 0, none⟩)] w fun e w' => e = .returned (.tuple #[.int .i64 0, .bool false]) ∧ w' = w := by
  have c4 := h.c4
  obtain ⟨p, c, hv, -, -⟩ := h.en.form
  rw [hb] at hv
  rw [hv] at c4
  have c4' : w.cell? ⟨r.R, 4, none⟩ = some (.slice p 0 c) := c4
  clear h hv hb c4
  go_enter Try.func31, Try.ntmps31
  go_wp2
  go_ret2
  exact ⟨rfl, rfl⟩

theorem rfinished_any (h : Rs w r s) {n : Nat} {l : List Nat} (hb : s.box = n :: l) : Calls Try.prog 31 #[.pointer (some ⟨r.R, 0, none⟩)] w fun e w' => e = .returned (.tuple #[.int .i64 (n : Int), .bool true]) ∧ ∃ r', Rs w' r' { s with box := l } ∧ RT w w' r r' := by
  have c4 := h.c4
  have hen := h.en
  rw [hb] at hen
  rcases hen with ⟨_, h0⟩ | ⟨g, o, cap, cs, hv, hcap, hcm, hg, hsz, hcs⟩
  · simp [ints] at h0
  obtain ⟨m, hm⟩ : ∃ m, m = l.length := ⟨_, rfl⟩
  have hl1 : (ints (n :: l)).length = m + 1 := by rw [ints_len, List.length_cons, hm]
  rw [hl1] at hv hcap
  rw [hv] at c4
  have cg : w.cell? ⟨g, o, none⟩ = some (.int .i64 (n : Int)) := (hg.cell o).trans (hcs 0 _ rfl)
  have f4 : w.frozen? ⟨r.R, 4, none⟩ = false := h.blk.frozen 4
  have HE : Hid (∀ v', (v' = .slice (some ⟨g, o, none⟩) 0 0 ∧ m = 0) ∨ v' = .slice (some ⟨g, o + 1, none⟩) m (cap - 1) → ∃ r', Rs (w.setCell ⟨r.R, 4, none⟩ v') r' { s with box := l } ∧ RT w (w.setCell ⟨r.R, 4, none⟩ v') r r') := by
    intro v' hv'
    have hRo : Ro w 3 v' (ints l) := by
      have h1 := h.en
      rw [hb, hv] at h1
      refine Ro.tail (x := .int .i64 (n : Int)) h1 v' ?_
      rcases hv' with ⟨h1, h2⟩ | h1
      · exact .inl ⟨h1, List.eq_nil_of_length_eq_zero ((ints_len l).trans (hm.symm.trans h2))⟩
      · exact .inr (by rw [h1, hm]; exact congrArg (fun z => Value.slice (some ⟨g, o + 1, none⟩) z (cap - 1)) (ints_len l).symm)
    have hob : ∀ k, v'.ownBlock = some k → k = g := by
      intro k hk
      rcases hv' with ⟨rfl, _⟩ | rfl
      · simp [Value.ownBlock] at hk; exact hk.symm
      · simp [Value.ownBlock] at hk; exact hk.symm
    obtain ⟨q1, q2⟩ := h.setEn (Tn.refl _ w) hRo
    have hge : g ∈ rt r := mem_rtE (by rw [hv]; rfl)
    refine ⟨_, q1, ⟨q2.mono ?_, rfl, ?_⟩⟩
    · intro x hx
      rcases List.mem_cons.1 hx with rfl | hx
      · exact mem_rtR
      · exact mem_rtE (opt_toList.1 hx)
    · exact rt_sub (.inl mem_rtR) (fun k hk => .inl (mem_rtA hk)) (fun k hk => .inl (mem_rtD hk)) (fun k hk => .inl (hob k hk ▸ hge))
  have q1 : (0 : Int) < (m : Int) + 1 := by omega
  by_cases hc1 : cap = 1
  · subst hc1
    obtain rfl : m = 0 := by omega
    clear h hb hg hcs hv hm hl1 hcap hcm hsz
    go_enter Try.func31, Try.ntmps31
    go_wp2
    go_ret2
    exact ⟨rfl, HE.out _ (.inl ⟨rfl, trivial⟩)⟩
  · have q2 : (1 : Int) ≤ (cap : Int) := by omega
    clear h hb hg hcs hv hm hl1 hcm hsz
    go_enter Try.func31, Try.ntmps31
    go_wp2
    go_ret2
    exact ⟨rfl, HE.out _ (.inr rfl)⟩

end
end Go.Proofs.Ytnjokhdedgdjjaa
