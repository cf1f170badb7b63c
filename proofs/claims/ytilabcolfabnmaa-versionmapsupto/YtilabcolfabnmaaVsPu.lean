/- A pair put among pairs (the document's). -/
import Derived.Test.YtilabcolfabnmaaVsMp
import Derived.Test.YtilabcolfabnmaaPrX
namespace Go.Proofs.Ytilabcolfabnmaa
open Go.RowKit Go.Sort
set_option linter.unusedVariables false
set_option maxRecDepth 100000

theorem str_cmp {a b : ByteArray} (h : Ky.lt a b = true) : Op.bytesLess a.toList b.toList = true := h
theorem str_cmpF {a b : ByteArray} (h : Ky.lt a b = false) : Op.bytesLess a.toList b.toList = false := h

theorem lead_step {x y : Pr} {m : List Pr} {k : Nat} (hk : k ≤ Pl.lead x m) (hy : m[k]? = some y) (h : Ky.lt y.key x.key = true) : k + 1 ≤ Pl.lead x m := by
  rcases Nat.eq_or_lt_of_le hk with e | e
  · have h1 := List.getElem?_eq_some_iff.1 hy
    have hlt : m.findIdx (fun y : Pr => !Ky.lt y.key x.key) < m.length := by show Pl.lead x m < m.length; have := h1.1; omega
    have h3 := List.findIdx_getElem (p := fun y : Pr => !Ky.lt y.key x.key) (xs := m) (w := hlt)
    have h4 : m[m.findIdx (fun y : Pr => !Ky.lt y.key x.key)]'hlt = y := by
      have h2 : m[m.findIdx (fun y : Pr => !Ky.lt y.key x.key)]? = some y := by
        show m[Pl.lead x m]? = some y
        rw [← e]
        exact hy
      rw [List.getElem?_eq_getElem hlt] at h2
      exact Option.some.inj h2
    rw [h4, h] at h3
    cases h3
  · exact e
theorem lead_stop {x y : Pr} {m : List Pr} {k : Nat} (hk : k ≤ Pl.lead x m) (hy : m[k]? = some y) (h : Ky.lt y.key x.key = false) : Pl.lead x m = k := by
  have h1 := List.getElem?_eq_some_iff.1 hy
  refine (List.findIdx_eq h1.1).2 ⟨by rw [h1.2, h]; rfl, fun i hi => ?_⟩
  have := List.not_of_lt_findIdx (p := fun y : Pr => !Ky.lt y.key x.key) (xs := m) (i := i) (Nat.lt_of_lt_of_le hi hk)
  simpa using this
theorem lead_end {x : Pr} {m : List Pr} (hk : m.length ≤ Pl.lead x m) : Pl.lead x m = m.length := Nat.le_antisymm List.findIdx_le_length hk

set_option maxHeartbeats 16000000 in
theorem dputp_any (q : Option Addr) (n c base : Nat) (m : List Pr) (x : Pr) (w : World) (ho : OwnP w base (.slice q n c) m) (hn : m.length = n) (hl : n + 1 ≤ 4398046510976) :
    Calls Try.prog 25 #[.slice q n c, x.v] w fun e w' => ∃ v, e = .returned v ∧ OwnP w' w.heap.size v (Pl.put m x) ∧ Below w.heap.size w w' := by
  obtain ⟨x1, x2⟩ := x
  obtain ⟨w0, hw0⟩ : ∃ w0, w.alloc (.cells #[.string x1, .string x2] 54) = w0 := ⟨_, rfl⟩
  have hb0 : Below w.heap.size w w0 := by rw [← hw0]; exact (Below.refl _ _).alloc (Nat.le_refl _) _
  have hk0 : Bk w0 w.heap.size 54 #[.string x1, .string x2] := by rw [← hw0]; exact Bk.new _ _ _
  have HC : Hid (∀ W, Below w0.heap.size w0 W → W.cell? ⟨w.heap.size, 0, none⟩ = some (.string x1) ∧ W.cell? ⟨w.heap.size, 1, none⟩ = some (.string x2)) := fun W hW => ⟨(hk0.below hW hk0.lt).cell 0, (hk0.below hW hk0.lt).cell 1⟩
  have HB0 : Hid (Below w.heap.size w w0) := hb0
  have HN : Hid (m.length = n) := hn
  have h0 := ho.below hb0 (Nat.le_refl _)
  obtain ⟨q', c', hv, hels, hnil, hle⟩ := h0.els prknd
  rw [hn] at hv hle
  simp only [Value.slice.injEq] at hv
  obtain ⟨rfl, -, rfl⟩ := hv
  have HX : Hid (∀ W, Below w0.heap.size w0 W → Prs W q m) := fun W hW => Els.below hels hW (Nat.le_refl _)
  have HNIL : Hid (q = none → n = 0 ∧ c = 0) := fun h => by have := hnil h; omega
  have HAT : Hid (∀ ad, q = some ad → ∃ g, ad = ⟨g, 0, none⟩) := fun ad had => by
    rcases ho.2 with ⟨hv2, -⟩ | ⟨g, cap, cur, hv2, -⟩
    · rw [had] at hv2; cases hv2
    · rw [had] at hv2
      cases hv2
      exact ⟨g, rfl⟩
  clear ho hb0 hk0 hn h0 hels hnil
  go_enter Try.func25, Try.ntmps25
  go_wp2_with fail
  go_loopw [6] (fun i wr => ∃ k : Nat, k ≤ n ∧ i = .int .i64 k ∧ Hid (k ≤ Pl.lead ⟨x1, x2⟩ m) ∧ Hid (Below w0.heap.size w0 wr)) (fun i _ => n - (intOf i).toNat)
  case atStart => exact ⟨0, Nat.zero_le _, rfl, Nat.zero_le _, Below.refl _ _⟩
  case round =>
    obtain ⟨k, hk, rfl, HK, HW⟩ := hrel
    obtain ⟨a0, a1⟩ := HC.out wr HW.out
    by_cases hkn : k < n
    · have hli : (k : Int) < (n : Int) := by omega
      have hli2 : decide (k < n) = true := by simp [hkn]
      have hk00 : (0 : Int) ≤ (k : Int) := by omega
      obtain ⟨b, o, y, rfl, hgy, y0, y1⟩ := Prs.cells (HX.out wr HW.out) (j := k) (by have := HN.out; omega)
      obtain ⟨g, hg'⟩ := HAT.out _ rfl
      cases hg'
      simp only [Nat.zero_add] at y0 y1
      have HY : Hid (m[k]? = some y) := hgy
      obtain ⟨y1', y2'⟩ := y
      clear hgy
      cases hq : Ky.lt y1' x1 with
      | true =>
        have hcmp := str_cmp hq
        have HK2 : Hid (k + 1 ≤ Pl.lead ⟨x1, x2⟩ m) := lead_step HK.out HY.out hq
        clear hq
        go_wp2_with fail
        go_quiet (fail)
        have HF3 : Hid (Below w0.heap.size w0 (wr.drewN nq)) := below_drewN HW.out nq
        go_wp2
        go_roundw
        case rel => exact ⟨k + 1, by omega, by go_num, HK2, HF3⟩
        case measure => simp [intOf]; omega
      | false =>
        have hcmp := str_cmpF hq
        have HK9 : Hid (Pl.lead ⟨x1, x2⟩ m = k) := lead_stop HK.out HY.out hq
        have HYX : Hid (Pl.hit ⟨x1, x2⟩ m k = (y1'.toList == x1.toList)) := by unfold Hid Pl.hit; rw [HY.out]; rfl
        clear hq
        go_wp2_with fail
        go_quiet (fail)
        have HWq : Hid (Below w0.heap.size w0 (wr.drewN nq)) := below_drewN HW.out nq
        have HYC : Hid (∀ W, Below w0.heap.size w0 W → W.cell? ⟨b, k * 2, none⟩ = some (.string y1')) := fun W hW => by
          obtain ⟨b', o', z, hp', hz, z0, z1⟩ := Prs.cells (HX.out W hW) (j := k) (by have := HN.out; omega)
          cases hp'
          rw [HY.out] at hz
          cases hz
          simpa using z0
        generalize wr.drewN nq = wq at HWq ⊢
        clear a0 a1 y0 y1 hcmp HW HK
        have e1 : ((k : Nat) : Int) ≤ ((n : Nat) : Int) := by omega
        have e2 : ((k : Nat) : Int) ≤ ((c : Nat) : Int) := by omega
        have e5 : (0 : Int) ≤ ((k : Nat) : Int) := by omega
        have HS : Hid (∀ w', Below wq.heap.size wq w' → w'.cell? ⟨w.heap.size, 0, none⟩ = some (.string x1) ∧ w'.cell? ⟨w.heap.size, 1, none⟩ = some (.string x2)) := fun w' hW => HC.out w' (HWq.out.trans (hW.mono HWq.out.size))
        have HA1 : Hid _ := app_oneL prknd Try.underlying22 prinfo rfl (w0 := wq) (l := []) (l2 := m.take k) (p := (some ⟨b, 0, none⟩)) (m := k) (c := c) (by rw [List.length_take]; have := HN.out; omega) (fun W' hW' => (HX.out W' (HWq.out.trans (hW'.mono HWq.out.size))).take k) (fun h => by cases h) (by unfold maxLen; first | (simp; done) | (simp; omega)) (by first | (simp; done) | (simp; omega))
        have HA2 : Hid _ := app_entryL prknd Try.underlying22 prinfo rfl (w0 := wq) (l := [] ++ m.take k) (y := (⟨x1, x2⟩ : Pr)) (by unfold maxLen; have := HN.out; first | (simp; done) | (simp; omega)) (by have := HN.out; first | (simp; done) | (simp; omega))
        have hS := HS.out wq.drew (Below.refl _ _).drew
        have hbD : Below wq.heap.size wq wq.drew := (Below.refl _ _).drew
        go_wp2_with fail
        refine wp_region_mid (S := (fun w' => w'.cell? ⟨w.heap.size, 0, none⟩ = some (.string x1) ∧ w'.cell? ⟨w.heap.size, 1, none⟩ = some (.string x2))) 8 (by kernel_rfl) ?_
        refine wpAnyM_take (i := 0) [] (oi := { dst := some 23, op := Op.move (Operand.tmp 5), type := 22, pos := _, after := #[], guard := none }) (v := .slice none 0 0) rfl (by kernel_rfl) (by kernel_rfl) (by kernel_rfl) (by kernel_rfl) (fun _ _ _ h => h) (Or.inl ⟨by rfl, ?_⟩) hS ?_
        · (intro w' hSw; obtain ⟨m0, m1⟩ := hSw; go_simp; try with_reducible rfl)
        try simp only [Act.put, List.setIfInBounds_toArray, List.set_cons_zero, List.set_cons_succ]
        refine wpAnyM_take (i := 1) [] (oi := { dst := some 24, op := Op.move (Operand.tmp 0), type := 22, pos := _, after := #[], guard := none }) (v := .slice (some ⟨b, 0, none⟩) n c) rfl (by kernel_rfl) (by kernel_rfl) (by kernel_rfl) (by kernel_rfl) (fun _ _ _ h => h) (Or.inl ⟨by rfl, ?_⟩) hS ?_
        · (intro w' hSw; obtain ⟨m0, m1⟩ := hSw; go_simp; try with_reducible rfl)
        try simp only [Act.put, List.setIfInBounds_toArray, List.set_cons_zero, List.set_cons_succ]
        refine wpAnyM_take (i := 2) [] (oi := { dst := some 25, op := Op.move (Operand.tmp 6), type := 3, pos := _, after := #[], guard := none }) (v := .int .i64 (k : Int)) rfl (by kernel_rfl) (by kernel_rfl) (by kernel_rfl) (by kernel_rfl) (fun _ _ _ h => h) (Or.inl ⟨by rfl, ?_⟩) hS ?_
        · (intro w' hSw; obtain ⟨m0, m1⟩ := hSw; go_simp; try with_reducible rfl)
        try simp only [Act.put, List.setIfInBounds_toArray, List.set_cons_zero, List.set_cons_succ]
        refine wpAnyM_take (i := 3) [] (oi := { dst := some 26, op := Op.slice 22 (Operand.tmp 24) none (some (Operand.tmp 25)) none, type := 22, pos := _, after := #[{ on := 1, ground := Ground.data }, { on := 2, ground := Ground.data }], guard := none }) (v := .slice (some ⟨b, 0, none⟩) k c) rfl (by kernel_rfl) (by kernel_rfl) (by kernel_rfl) (by kernel_rfl) (fun _ _ _ h => h) (Or.inl ⟨by rfl, ?_⟩) hS ?_
        · (intro w' hSw; obtain ⟨m0, m1⟩ := hSw; go_simp; try with_reducible rfl)
        try simp only [Act.put, List.setIfInBounds_toArray, List.set_cons_zero, List.set_cons_succ]
        refine wpAnyM_take (i := 5) [] (oi := { dst := some 28, op := Op.load 54 (Operand.tmp 3), type := 54, pos := _, after := #[], guard := none }) (v := .agg #[.string x1, .string x2]) rfl (by kernel_rfl) (by kernel_rfl) (by kernel_rfl) (by kernel_rfl) (fun _ _ _ h => h) (Or.inl ⟨by rfl, ?_⟩) hS ?_
        · (intro w' hSw; obtain ⟨m0, m1⟩ := hSw; go_simp; try with_reducible rfl)
        try simp only [Act.put, List.setIfInBounds_toArray, List.set_cons_zero, List.set_cons_succ]
        refine wpAnyM_ready (rs := [4, 6]) (by kernel_rfl) (by simp) ?_
        refine AllReadyM.cons (o := { dst := some 27, op := Op.call { callee := Callee.builtin Builtin.append, args := #[Operand.tmp 23, Operand.tmp 26], argTypes := #[22, 22] }, type := 22, pos := _, after := #[{ on := 0, ground := Ground.data }, { on := 3, ground := Ground.data }], guard := none }) rfl (fun K hK => ?_) (AllReadyM.cons (o := { dst := some 29, op := Op.buildSlice 22 1 #[(0, Operand.tmp 28)], type := 22, pos := _, after := #[{ on := 5, ground := Ground.data }], guard := none }) rfl (fun K hK => ?_) AllReadyM.nil)
        · have HK9' : Hid (∀ a w, _ → K a w) := hK
          clear hK
          obtain ⟨v1, w6, hr1, ho1, hb6, -⟩ := HA1.out _ (.slice none 0 0) hbD (Own.nil _ _ _)
          refine step_appL rfl _ _ _ rfl _ _ rfl rfl hr1 ?_
          refine HK9'.out _ _ ⟨fun _ => HS.out _ hb6, ?_⟩
          clear HK9' K
          try simp only [Act.put, List.setIfInBounds_toArray, List.set_cons_zero, List.set_cons_succ]
          refine wpAnyM_ready (rs := [6]) (by kernel_rfl) (by simp) ?_
          refine AllReadyM.cons (o := { dst := some 29, op := Op.buildSlice 22 1 #[(0, Operand.tmp 28)], type := 22, pos := _, after := #[{ on := 5, ground := Ground.data }], guard := none }) rfl (fun K hK => ?_) AllReadyM.nil
          have HK9 : Hid (∀ a w, _ → K a w) := hK
          clear hK
          go_simp
          have hb6' : Below wq.heap.size wq (w6.alloc (.cells #[.string x1, .string x2] 54)) := hb6.alloc hb6.size _
          refine HK9.out _ _ ⟨fun _ => HS.out _ hb6', ?_⟩
          clear HK9 K
          try simp only [Act.put, List.setIfInBounds_toArray, List.set_cons_zero, List.set_cons_succ]
          have ho1' := ho1.below ((Below.refl _ w6).alloc (Nat.le_refl _) (.cells #[.string x1, .string x2] 54)) (Nat.le_refl _)
          refine wpAnyM_ready (rs := [7]) (by kernel_rfl) (by simp) ?_
          refine AllReadyM.cons (o := { dst := some 30, op := Op.call { callee := Callee.builtin Builtin.append, args := #[Operand.tmp 27, Operand.tmp 29], argTypes := #[22, 22] }, type := 22, pos := _, after := #[{ on := 4, ground := Ground.data }, { on := 6, ground := Ground.data }, { on := 4, ground := Ground.chain }], guard := none }) rfl (fun K hK => ?_) AllReadyM.nil
          have HK9 : Hid (∀ a w, _ → K a w) := hK
          clear hK
          obtain ⟨v2, w7, hr2, ho2, hb7⟩ := HA2.out _ v1 w6.heap.size hb6' ho1' (els_one prknd w6 _ ⟨x1, x2⟩)
          refine step_appL rfl _ _ _ rfl _ _ rfl (by go_simp) hr2 ?_
          refine HK9.out _ _ ⟨fun _ => HS.out _ hb7, ?_⟩
          clear HK9 K
          try simp only [Act.put, List.setIfInBounds_toArray, List.set_cons_zero, List.set_cons_succ]
          refine wpAnyM_ready (rs := [8]) (by kernel_rfl) (by simp) ?_
          refine AllReadyM.cons (o := { dst := some 5, op := Op.assign (Operand.tmp 30), type := 22, pos := _, after := #[{ on := 7, ground := Ground.data }, { on := 7, ground := Ground.chain }, { on := 0, ground := Ground.phase }, { on := 1, ground := Ground.phase }, { on := 2, ground := Ground.phase }, { on := 3, ground := Ground.phase }, { on := 4, ground := Ground.phase }, { on := 5, ground := Ground.phase }, { on := 6, ground := Ground.phase }, { on := 7, ground := Ground.phase }], guard := none }) rfl (fun K hK => ?_) AllReadyM.nil
          have HK9 : Hid (∀ a w, _ → K a w) := hK
          clear hK
          go_simp
          refine HK9.out _ _ ⟨fun h => absurd h (by omega), ?_⟩
          clear HK9 K
          try simp only [Act.put, List.setIfInBounds_toArray, List.set_cons_zero, List.set_cons_succ]
          refine wpAnyM_done (by kernel_rfl) ?_ _
          have HO2a : Hid (OwnP w7 wq.heap.size v2 (m.take k ++ [⟨x1, x2⟩])) := by unfold Hid; simpa using ho2
          have HB7 : Hid (Below w0.heap.size w0 w7) := HWq.out.trans (hb7.mono HWq.out.size)
          have HZ7 : Hid (wq.heap.size ≤ w7.heap.size) := hb7.size
          obtain ⟨b0, b1⟩ := HC.out w7 HB7.out
          obtain ⟨pv, cv, hv2, -, -, -⟩ := HO2a.out.els prknd
          obtain ⟨n2, hn2⟩ : ∃ n2, (m.take k ++ [(⟨x1, x2⟩ : Pr)]).length = n2 := ⟨_, rfl⟩
          rw [hn2] at hv2
          subst hv2
          have HO2 : Hid (OwnP w7 wq.heap.size (.slice pv n2 cv) (m.take k ++ [⟨x1, x2⟩])) := HO2a
          clear ho2 hb7 hS hbD HA1 HA2 HS HO2a hn2
          have hyc := HYC.out w7 HB7.out
          cases hyx : (y1'.toList == x1.toList) with
          | true =>
            rw [hyx] at HYX
            obtain ⟨a7, ha7⟩ : ∃ a7 : Addr, (if c = (k + 1) then (some ⟨b, 0, none⟩ : Option Addr) else some ⟨b, (k + 1) * 2, none⟩) = some a7 := by split <;> exact ⟨_, rfl⟩
            have HE8 : Hid (Prs w7 (some a7) (m.drop (k + 1))) := by
              have h2 := HN.out
              have h3 := HX.out w7 HB7.out
              unfold Hid
              by_cases hlast : n = (k + 1)
              · rw [List.drop_of_length_le (by omega)]
                exact Els.nil _ _
              · rw [← ha7, if_neg (by omega)]
                have := Els.drop h3 (k + 1)
                simpa using this
            have e6 : ((k : Int) + 1) ≤ (n : Int) := by omega
            have e7 : ((k : Int) + 1) ≤ (c : Int) := by omega
            go_wp2_with fail
            go_quiet (fail)
            go_wp2_with (at_builtin; refine appL prknd Try.underlying22 prinfo rfl _ rfl _ _ rfl wq.heap.size _ _ (m.drop (k + 1)) rfl _ _ _ rfl (by rw [List.length_drop, HN.out] <;> omega) (by exact HE8.out) (by intro h; cases h) (by exact HO2.out) (by unfold maxLen; rw [List.length_append, List.length_take]; have := HN.out; first | (simp; done) | (simp; omega)) (by rw [List.length_append, List.length_take]; have := HN.out; first | (simp; done) | (simp; omega)) HZ7.out ?_; intro v8 w8 h1 h2 h3; refine Hid.out ?_)
            unfold Hid
            have HO8 : Hid (OwnP w8 wq.heap.size v8 (Pl.put m ⟨x1, x2⟩)) := by
              unfold Hid Pl.put
              rw [HK9.out, HYX.out]
              simpa using h1
            have HB8 : Hid (Below w0.heap.size w0 w8) := by
              have hq7 : Below w7.heap.size w7 (w7.drewN nq) := below_drewN (Below.refl _ _) _
              have h9 := app_below (HO2.out.below hq7 (Nat.le_refl _)) h2 HZ7.out
              exact (HB7.out.trans (hq7.mono HB7.out.size)).trans (h9.mono (by have := HWq.out.size; omega))
            have HZ8 : Hid (w.heap.size ≤ wq.heap.size) := Nat.le_trans HB0.out.size HWq.out.size
            clear h1 h2 h3
            go_wp2
            go_ret
            exact ⟨_, rfl, HO8.out.mono HZ8.out, HB0.out.trans (HB8.out.mono HB0.out.size)⟩
          | false =>
            rw [hyx] at HYX
            have HE8 : Hid (Prs w7 (some ⟨b, k * 2, none⟩) (m.drop k)) := by
              have h3 := HX.out w7 HB7.out
              have := Els.drop h3 k
              unfold Hid
              simpa using this
            have hckn : ¬ c = k := by omega
            go_wp2_with fail
            go_quiet (fail)
            go_wp2_with (at_builtin; refine appL prknd Try.underlying22 prinfo rfl _ rfl _ _ rfl wq.heap.size _ _ (m.drop k) rfl _ _ _ rfl (by rw [List.length_drop, HN.out] <;> omega) (by exact HE8.out) (by intro h; cases h) (by exact HO2.out) (by unfold maxLen; rw [List.length_append, List.length_take]; have := HN.out; first | (simp; done) | (simp; omega)) (by rw [List.length_append, List.length_take]; have := HN.out; first | (simp; done) | (simp; omega)) HZ7.out ?_; intro v8 w8 h1 h2 h3; refine Hid.out ?_)
            unfold Hid
            have HO8 : Hid (OwnP w8 wq.heap.size v8 (Pl.put m ⟨x1, x2⟩)) := by
              unfold Hid Pl.put
              rw [HK9.out, HYX.out]
              simpa using h1
            have HB8 : Hid (Below w0.heap.size w0 w8) := by
              have hq7 : Below w7.heap.size w7 (w7.drewN nq) := below_drewN (Below.refl _ _) _
              have h9 := app_below (HO2.out.below hq7 (Nat.le_refl _)) h2 HZ7.out
              exact (HB7.out.trans (hq7.mono HB7.out.size)).trans (h9.mono (by have := HWq.out.size; omega))
            have HZ8 : Hid (w.heap.size ≤ wq.heap.size) := Nat.le_trans HB0.out.size HWq.out.size
            clear h1 h2 h3
            go_wp2
            go_ret
            exact ⟨_, rfl, HO8.out.mono HZ8.out, HB0.out.trans (HB8.out.mono HB0.out.size)⟩
        · have HK9' : Hid (∀ a w, _ → K a w) := hK
          clear hK
          go_simp
          have hbE : Below wq.heap.size wq (wq.drew.alloc (.cells #[.string x1, .string x2] 54)) := hbD.alloc (Nat.le_refl _) _
          refine HK9'.out _ _ ⟨fun _ => HS.out _ hbE, ?_⟩
          clear HK9' K
          try simp only [Act.put, List.setIfInBounds_toArray, List.set_cons_zero, List.set_cons_succ]
          refine wpAnyM_ready (rs := [4]) (by kernel_rfl) (by simp) ?_
          refine AllReadyM.cons (o := { dst := some 27, op := Op.call { callee := Callee.builtin Builtin.append, args := #[Operand.tmp 23, Operand.tmp 26], argTypes := #[22, 22] }, type := 22, pos := _, after := #[{ on := 0, ground := Ground.data }, { on := 3, ground := Ground.data }], guard := none }) rfl (fun K hK => ?_) AllReadyM.nil
          have HK9 : Hid (∀ a w, _ → K a w) := hK
          clear hK
          obtain ⟨v1, w6, hr1, ho1, hb6, hb6E⟩ := HA1.out _ (.slice none 0 0) hbE (Own.nil _ _ _)
          refine step_appL rfl _ _ _ rfl _ _ rfl rfl hr1 ?_
          refine HK9.out _ _ ⟨fun _ => HS.out _ hb6, ?_⟩
          clear HK9 K
          try simp only [Act.put, List.setIfInBounds_toArray, List.set_cons_zero, List.set_cons_succ]
          have hent : Prs w6 (some ⟨wq.heap.size, 0, none⟩) [⟨x1, x2⟩] := Els.below (els_one prknd wq.drew _ ⟨x1, x2⟩) (hb6E rfl) (Nat.le_refl _)
          refine wpAnyM_ready (rs := [7]) (by kernel_rfl) (by simp) ?_
          refine AllReadyM.cons (o := { dst := some 30, op := Op.call { callee := Callee.builtin Builtin.append, args := #[Operand.tmp 27, Operand.tmp 29], argTypes := #[22, 22] }, type := 22, pos := _, after := #[{ on := 4, ground := Ground.data }, { on := 6, ground := Ground.data }, { on := 4, ground := Ground.chain }], guard := none }) rfl (fun K hK => ?_) AllReadyM.nil
          have HK9 : Hid (∀ a w, _ → K a w) := hK
          clear hK
          obtain ⟨v2, w7, hr2, ho2, hb7⟩ := HA2.out _ v1 wq.heap.size hb6 ho1 hent
          refine step_appL rfl _ _ _ rfl _ _ rfl (by go_simp) hr2 ?_
          refine HK9.out _ _ ⟨fun _ => HS.out _ hb7, ?_⟩
          clear HK9 K
          try simp only [Act.put, List.setIfInBounds_toArray, List.set_cons_zero, List.set_cons_succ]
          refine wpAnyM_ready (rs := [8]) (by kernel_rfl) (by simp) ?_
          refine AllReadyM.cons (o := { dst := some 5, op := Op.assign (Operand.tmp 30), type := 22, pos := _, after := #[{ on := 7, ground := Ground.data }, { on := 7, ground := Ground.chain }, { on := 0, ground := Ground.phase }, { on := 1, ground := Ground.phase }, { on := 2, ground := Ground.phase }, { on := 3, ground := Ground.phase }, { on := 4, ground := Ground.phase }, { on := 5, ground := Ground.phase }, { on := 6, ground := Ground.phase }, { on := 7, ground := Ground.phase }], guard := none }) rfl (fun K hK => ?_) AllReadyM.nil
          have HK9 : Hid (∀ a w, _ → K a w) := hK
          clear hK
          go_simp
          refine HK9.out _ _ ⟨fun h => absurd h (by omega), ?_⟩
          clear HK9 K
          try simp only [Act.put, List.setIfInBounds_toArray, List.set_cons_zero, List.set_cons_succ]
          refine wpAnyM_done (by kernel_rfl) ?_ _
          have HO2a : Hid (OwnP w7 wq.heap.size v2 (m.take k ++ [⟨x1, x2⟩])) := by unfold Hid; simpa using ho2
          have HB7 : Hid (Below w0.heap.size w0 w7) := HWq.out.trans (hb7.mono HWq.out.size)
          have HZ7 : Hid (wq.heap.size ≤ w7.heap.size) := hb7.size
          obtain ⟨b0, b1⟩ := HC.out w7 HB7.out
          obtain ⟨pv, cv, hv2, -, -, -⟩ := HO2a.out.els prknd
          obtain ⟨n2, hn2⟩ : ∃ n2, (m.take k ++ [(⟨x1, x2⟩ : Pr)]).length = n2 := ⟨_, rfl⟩
          rw [hn2] at hv2
          subst hv2
          have HO2 : Hid (OwnP w7 wq.heap.size (.slice pv n2 cv) (m.take k ++ [⟨x1, x2⟩])) := HO2a
          clear ho2 hb7 hS hbD HA1 HA2 HS HO2a hn2
          have hyc := HYC.out w7 HB7.out
          cases hyx : (y1'.toList == x1.toList) with
          | true =>
            rw [hyx] at HYX
            obtain ⟨a7, ha7⟩ : ∃ a7 : Addr, (if c = (k + 1) then (some ⟨b, 0, none⟩ : Option Addr) else some ⟨b, (k + 1) * 2, none⟩) = some a7 := by split <;> exact ⟨_, rfl⟩
            have HE8 : Hid (Prs w7 (some a7) (m.drop (k + 1))) := by
              have h2 := HN.out
              have h3 := HX.out w7 HB7.out
              unfold Hid
              by_cases hlast : n = (k + 1)
              · rw [List.drop_of_length_le (by omega)]
                exact Els.nil _ _
              · rw [← ha7, if_neg (by omega)]
                have := Els.drop h3 (k + 1)
                simpa using this
            have e6 : ((k : Int) + 1) ≤ (n : Int) := by omega
            have e7 : ((k : Int) + 1) ≤ (c : Int) := by omega
            go_wp2_with fail
            go_quiet (fail)
            go_wp2_with (at_builtin; refine appL prknd Try.underlying22 prinfo rfl _ rfl _ _ rfl wq.heap.size _ _ (m.drop (k + 1)) rfl _ _ _ rfl (by rw [List.length_drop, HN.out] <;> omega) (by exact HE8.out) (by intro h; cases h) (by exact HO2.out) (by unfold maxLen; rw [List.length_append, List.length_take]; have := HN.out; first | (simp; done) | (simp; omega)) (by rw [List.length_append, List.length_take]; have := HN.out; first | (simp; done) | (simp; omega)) HZ7.out ?_; intro v8 w8 h1 h2 h3; refine Hid.out ?_)
            unfold Hid
            have HO8 : Hid (OwnP w8 wq.heap.size v8 (Pl.put m ⟨x1, x2⟩)) := by
              unfold Hid Pl.put
              rw [HK9.out, HYX.out]
              simpa using h1
            have HB8 : Hid (Below w0.heap.size w0 w8) := by
              have hq7 : Below w7.heap.size w7 (w7.drewN nq) := below_drewN (Below.refl _ _) _
              have h9 := app_below (HO2.out.below hq7 (Nat.le_refl _)) h2 HZ7.out
              exact (HB7.out.trans (hq7.mono HB7.out.size)).trans (h9.mono (by have := HWq.out.size; omega))
            have HZ8 : Hid (w.heap.size ≤ wq.heap.size) := Nat.le_trans HB0.out.size HWq.out.size
            clear h1 h2 h3
            go_wp2
            go_ret
            exact ⟨_, rfl, HO8.out.mono HZ8.out, HB0.out.trans (HB8.out.mono HB0.out.size)⟩
          | false =>
            rw [hyx] at HYX
            have HE8 : Hid (Prs w7 (some ⟨b, k * 2, none⟩) (m.drop k)) := by
              have h3 := HX.out w7 HB7.out
              have := Els.drop h3 k
              unfold Hid
              simpa using this
            have hckn : ¬ c = k := by omega
            go_wp2_with fail
            go_quiet (fail)
            go_wp2_with (at_builtin; refine appL prknd Try.underlying22 prinfo rfl _ rfl _ _ rfl wq.heap.size _ _ (m.drop k) rfl _ _ _ rfl (by rw [List.length_drop, HN.out] <;> omega) (by exact HE8.out) (by intro h; cases h) (by exact HO2.out) (by unfold maxLen; rw [List.length_append, List.length_take]; have := HN.out; first | (simp; done) | (simp; omega)) (by rw [List.length_append, List.length_take]; have := HN.out; first | (simp; done) | (simp; omega)) HZ7.out ?_; intro v8 w8 h1 h2 h3; refine Hid.out ?_)
            unfold Hid
            have HO8 : Hid (OwnP w8 wq.heap.size v8 (Pl.put m ⟨x1, x2⟩)) := by
              unfold Hid Pl.put
              rw [HK9.out, HYX.out]
              simpa using h1
            have HB8 : Hid (Below w0.heap.size w0 w8) := by
              have hq7 : Below w7.heap.size w7 (w7.drewN nq) := below_drewN (Below.refl _ _) _
              have h9 := app_below (HO2.out.below hq7 (Nat.le_refl _)) h2 HZ7.out
              exact (HB7.out.trans (hq7.mono HB7.out.size)).trans (h9.mono (by have := HWq.out.size; omega))
            have HZ8 : Hid (w.heap.size ≤ wq.heap.size) := Nat.le_trans HB0.out.size HWq.out.size
            clear h1 h2 h3
            go_wp2
            go_ret
            exact ⟨_, rfl, HO8.out.mono HZ8.out, HB0.out.trans (HB8.out.mono HB0.out.size)⟩
    · have hli : ¬ (k : Int) < (n : Int) := by omega
      have hli2 : decide (k < n) = false := by simp [hkn]
      obtain rfl : k = n := by omega
      have HK9 : Hid (Pl.lead ⟨x1, x2⟩ m = k) := by
        have h1 := HK.out
        have h2 := HN.out
        unfold Hid
        rw [← h2]
        exact lead_end (by omega)
      have HYX : Hid (Pl.hit ⟨x1, x2⟩ m k = false) := by
        unfold Hid Pl.hit
        rw [List.getElem?_eq_none (by have := HN.out; omega)]
        rfl
      go_wp2_with fail
      go_quiet (fail)
      have HWq : Hid (Below w0.heap.size w0 (wr.drewN nq)) := below_drewN HW.out nq
      generalize wr.drewN nq = wq at HWq ⊢
      clear a0 a1 HW HK
      cases q with
      | none =>
        obtain ⟨rfl, rfl⟩ := HNIL.out rfl
        have e1 : ((0 : Nat) : Int) ≤ ((0 : Nat) : Int) := by omega
        have e2 : ((0 : Nat) : Int) ≤ ((0 : Nat) : Int) := by omega
        have e5 : (0 : Int) ≤ ((0 : Nat) : Int) := by omega
        have HS : Hid (∀ w', Below wq.heap.size wq w' → w'.cell? ⟨w.heap.size, 0, none⟩ = some (.string x1) ∧ w'.cell? ⟨w.heap.size, 1, none⟩ = some (.string x2)) := fun w' hW => HC.out w' (HWq.out.trans (hW.mono HWq.out.size))
        have HA1 : Hid _ := app_oneL prknd Try.underlying22 prinfo rfl (w0 := wq) (l := []) (l2 := m.take 0) (p := none) (m := 0) (c := 0) (by rw [List.length_take]; have := HN.out; omega) (fun W' hW' => (HX.out W' (HWq.out.trans (hW'.mono HWq.out.size))).take 0) (fun h => ⟨rfl, rfl⟩) (by unfold maxLen; first | (simp; done) | (simp; omega)) (by first | (simp; done) | (simp; omega))
        have HA2 : Hid _ := app_entryL prknd Try.underlying22 prinfo rfl (w0 := wq) (l := [] ++ m.take 0) (y := (⟨x1, x2⟩ : Pr)) (by unfold maxLen; have := HN.out; first | (simp; done) | (simp; omega)) (by have := HN.out; first | (simp; done) | (simp; omega))
        have hS := HS.out wq.drew (Below.refl _ _).drew
        have hbD : Below wq.heap.size wq wq.drew := (Below.refl _ _).drew
        go_wp2_with fail
        refine wp_region_mid (S := (fun w' => w'.cell? ⟨w.heap.size, 0, none⟩ = some (.string x1) ∧ w'.cell? ⟨w.heap.size, 1, none⟩ = some (.string x2))) 8 (by kernel_rfl) ?_
        refine wpAnyM_take (i := 0) [] (oi := { dst := some 23, op := Op.move (Operand.tmp 5), type := 22, pos := _, after := #[], guard := none }) (v := .slice none 0 0) rfl (by kernel_rfl) (by kernel_rfl) (by kernel_rfl) (by kernel_rfl) (fun _ _ _ h => h) (Or.inl ⟨by rfl, ?_⟩) hS ?_
        · (intro w' hSw; obtain ⟨m0, m1⟩ := hSw; go_simp; try with_reducible rfl)
        try simp only [Act.put, List.setIfInBounds_toArray, List.set_cons_zero, List.set_cons_succ]
        refine wpAnyM_take (i := 1) [] (oi := { dst := some 24, op := Op.move (Operand.tmp 0), type := 22, pos := _, after := #[], guard := none }) (v := .slice none 0 0) rfl (by kernel_rfl) (by kernel_rfl) (by kernel_rfl) (by kernel_rfl) (fun _ _ _ h => h) (Or.inl ⟨by rfl, ?_⟩) hS ?_
        · (intro w' hSw; obtain ⟨m0, m1⟩ := hSw; go_simp; try with_reducible rfl)
        try simp only [Act.put, List.setIfInBounds_toArray, List.set_cons_zero, List.set_cons_succ]
        refine wpAnyM_take (i := 2) [] (oi := { dst := some 25, op := Op.move (Operand.tmp 6), type := 3, pos := _, after := #[], guard := none }) (v := .int .i64 (0 : Int)) rfl (by kernel_rfl) (by kernel_rfl) (by kernel_rfl) (by kernel_rfl) (fun _ _ _ h => h) (Or.inl ⟨by rfl, ?_⟩) hS ?_
        · (intro w' hSw; obtain ⟨m0, m1⟩ := hSw; go_simp; try with_reducible rfl)
        try simp only [Act.put, List.setIfInBounds_toArray, List.set_cons_zero, List.set_cons_succ]
        refine wpAnyM_take (i := 3) [] (oi := { dst := some 26, op := Op.slice 22 (Operand.tmp 24) none (some (Operand.tmp 25)) none, type := 22, pos := _, after := #[{ on := 1, ground := Ground.data }, { on := 2, ground := Ground.data }], guard := none }) (v := .slice none 0 0) rfl (by kernel_rfl) (by kernel_rfl) (by kernel_rfl) (by kernel_rfl) (fun _ _ _ h => h) (Or.inl ⟨by rfl, ?_⟩) hS ?_
        · (intro w' hSw; obtain ⟨m0, m1⟩ := hSw; go_simp; try with_reducible rfl)
        try simp only [Act.put, List.setIfInBounds_toArray, List.set_cons_zero, List.set_cons_succ]
        refine wpAnyM_take (i := 5) [] (oi := { dst := some 28, op := Op.load 54 (Operand.tmp 3), type := 54, pos := _, after := #[], guard := none }) (v := .agg #[.string x1, .string x2]) rfl (by kernel_rfl) (by kernel_rfl) (by kernel_rfl) (by kernel_rfl) (fun _ _ _ h => h) (Or.inl ⟨by rfl, ?_⟩) hS ?_
        · (intro w' hSw; obtain ⟨m0, m1⟩ := hSw; go_simp; try with_reducible rfl)
        try simp only [Act.put, List.setIfInBounds_toArray, List.set_cons_zero, List.set_cons_succ]
        refine wpAnyM_ready (rs := [4, 6]) (by kernel_rfl) (by simp) ?_
        refine AllReadyM.cons (o := { dst := some 27, op := Op.call { callee := Callee.builtin Builtin.append, args := #[Operand.tmp 23, Operand.tmp 26], argTypes := #[22, 22] }, type := 22, pos := _, after := #[{ on := 0, ground := Ground.data }, { on := 3, ground := Ground.data }], guard := none }) rfl (fun K hK => ?_) (AllReadyM.cons (o := { dst := some 29, op := Op.buildSlice 22 1 #[(0, Operand.tmp 28)], type := 22, pos := _, after := #[{ on := 5, ground := Ground.data }], guard := none }) rfl (fun K hK => ?_) AllReadyM.nil)
        · have HK9' : Hid (∀ a w, _ → K a w) := hK
          clear hK
          obtain ⟨v1, w6, hr1, ho1, hb6, -⟩ := HA1.out _ (.slice none 0 0) hbD (Own.nil _ _ _)
          refine step_appL rfl _ _ _ rfl _ _ rfl rfl hr1 ?_
          refine HK9'.out _ _ ⟨fun _ => HS.out _ hb6, ?_⟩
          clear HK9' K
          try simp only [Act.put, List.setIfInBounds_toArray, List.set_cons_zero, List.set_cons_succ]
          refine wpAnyM_ready (rs := [6]) (by kernel_rfl) (by simp) ?_
          refine AllReadyM.cons (o := { dst := some 29, op := Op.buildSlice 22 1 #[(0, Operand.tmp 28)], type := 22, pos := _, after := #[{ on := 5, ground := Ground.data }], guard := none }) rfl (fun K hK => ?_) AllReadyM.nil
          have HK9 : Hid (∀ a w, _ → K a w) := hK
          clear hK
          go_simp
          have hb6' : Below wq.heap.size wq (w6.alloc (.cells #[.string x1, .string x2] 54)) := hb6.alloc hb6.size _
          refine HK9.out _ _ ⟨fun _ => HS.out _ hb6', ?_⟩
          clear HK9 K
          try simp only [Act.put, List.setIfInBounds_toArray, List.set_cons_zero, List.set_cons_succ]
          have ho1' := ho1.below ((Below.refl _ w6).alloc (Nat.le_refl _) (.cells #[.string x1, .string x2] 54)) (Nat.le_refl _)
          refine wpAnyM_ready (rs := [7]) (by kernel_rfl) (by simp) ?_
          refine AllReadyM.cons (o := { dst := some 30, op := Op.call { callee := Callee.builtin Builtin.append, args := #[Operand.tmp 27, Operand.tmp 29], argTypes := #[22, 22] }, type := 22, pos := _, after := #[{ on := 4, ground := Ground.data }, { on := 6, ground := Ground.data }, { on := 4, ground := Ground.chain }], guard := none }) rfl (fun K hK => ?_) AllReadyM.nil
          have HK9 : Hid (∀ a w, _ → K a w) := hK
          clear hK
          obtain ⟨v2, w7, hr2, ho2, hb7⟩ := HA2.out _ v1 w6.heap.size hb6' ho1' (els_one prknd w6 _ ⟨x1, x2⟩)
          refine step_appL rfl _ _ _ rfl _ _ rfl (by go_simp) hr2 ?_
          refine HK9.out _ _ ⟨fun _ => HS.out _ hb7, ?_⟩
          clear HK9 K
          try simp only [Act.put, List.setIfInBounds_toArray, List.set_cons_zero, List.set_cons_succ]
          refine wpAnyM_ready (rs := [8]) (by kernel_rfl) (by simp) ?_
          refine AllReadyM.cons (o := { dst := some 5, op := Op.assign (Operand.tmp 30), type := 22, pos := _, after := #[{ on := 7, ground := Ground.data }, { on := 7, ground := Ground.chain }, { on := 0, ground := Ground.phase }, { on := 1, ground := Ground.phase }, { on := 2, ground := Ground.phase }, { on := 3, ground := Ground.phase }, { on := 4, ground := Ground.phase }, { on := 5, ground := Ground.phase }, { on := 6, ground := Ground.phase }, { on := 7, ground := Ground.phase }], guard := none }) rfl (fun K hK => ?_) AllReadyM.nil
          have HK9 : Hid (∀ a w, _ → K a w) := hK
          clear hK
          go_simp
          refine HK9.out _ _ ⟨fun h => absurd h (by omega), ?_⟩
          clear HK9 K
          try simp only [Act.put, List.setIfInBounds_toArray, List.set_cons_zero, List.set_cons_succ]
          refine wpAnyM_done (by kernel_rfl) ?_ _
          have HO2a : Hid (OwnP w7 wq.heap.size v2 (m.take 0 ++ [⟨x1, x2⟩])) := by unfold Hid; simpa using ho2
          have HB7 : Hid (Below w0.heap.size w0 w7) := HWq.out.trans (hb7.mono HWq.out.size)
          have HZ7 : Hid (wq.heap.size ≤ w7.heap.size) := hb7.size
          obtain ⟨b0, b1⟩ := HC.out w7 HB7.out
          obtain ⟨pv, cv, hv2, -, -, -⟩ := HO2a.out.els prknd
          obtain ⟨n2, hn2⟩ : ∃ n2, (m.take 0 ++ [(⟨x1, x2⟩ : Pr)]).length = n2 := ⟨_, rfl⟩
          rw [hn2] at hv2
          subst hv2
          have HO2 : Hid (OwnP w7 wq.heap.size (.slice pv n2 cv) (m.take 0 ++ [⟨x1, x2⟩])) := HO2a
          clear ho2 hb7 hS hbD HA1 HA2 HS HO2a hn2
          have HE8 : Hid (Prs w7 none (m.drop 0)) := HX.out w7 HB7.out
          go_wp2_with fail
          go_quiet (fail)
          go_wp2_with (at_builtin; refine appL prknd Try.underlying22 prinfo rfl _ rfl _ _ rfl wq.heap.size _ _ (m.drop 0) rfl _ _ _ rfl (by rw [List.length_drop, HN.out] <;> omega) (by exact HE8.out) (by exact fun _ => ⟨rfl, rfl⟩) (by exact HO2.out) (by unfold maxLen; rw [List.length_append, List.length_take]; have := HN.out; first | (simp; done) | (simp; omega)) (by rw [List.length_append, List.length_take]; have := HN.out; first | (simp; done) | (simp; omega)) HZ7.out ?_; intro v8 w8 h1 h2 h3; refine Hid.out ?_)
          unfold Hid
          have HO8 : Hid (OwnP w8 wq.heap.size v8 (Pl.put m ⟨x1, x2⟩)) := by
            unfold Hid Pl.put
            rw [HK9.out, HYX.out]
            simpa using h1
          have HB8 : Hid (Below w0.heap.size w0 w8) := by
            have hq7 : Below w7.heap.size w7 (w7.drewN nq) := below_drewN (Below.refl _ _) _
            have h9 := app_below (HO2.out.below hq7 (Nat.le_refl _)) h2 HZ7.out
            exact (HB7.out.trans (hq7.mono HB7.out.size)).trans (h9.mono (by have := HWq.out.size; omega))
          have HZ8 : Hid (w.heap.size ≤ wq.heap.size) := Nat.le_trans HB0.out.size HWq.out.size
          clear h1 h2 h3
          go_wp2
          go_ret
          exact ⟨_, rfl, HO8.out.mono HZ8.out, HB0.out.trans (HB8.out.mono HB0.out.size)⟩
        · have HK9' : Hid (∀ a w, _ → K a w) := hK
          clear hK
          go_simp
          have hbE : Below wq.heap.size wq (wq.drew.alloc (.cells #[.string x1, .string x2] 54)) := hbD.alloc (Nat.le_refl _) _
          refine HK9'.out _ _ ⟨fun _ => HS.out _ hbE, ?_⟩
          clear HK9' K
          try simp only [Act.put, List.setIfInBounds_toArray, List.set_cons_zero, List.set_cons_succ]
          refine wpAnyM_ready (rs := [4]) (by kernel_rfl) (by simp) ?_
          refine AllReadyM.cons (o := { dst := some 27, op := Op.call { callee := Callee.builtin Builtin.append, args := #[Operand.tmp 23, Operand.tmp 26], argTypes := #[22, 22] }, type := 22, pos := _, after := #[{ on := 0, ground := Ground.data }, { on := 3, ground := Ground.data }], guard := none }) rfl (fun K hK => ?_) AllReadyM.nil
          have HK9 : Hid (∀ a w, _ → K a w) := hK
          clear hK
          obtain ⟨v1, w6, hr1, ho1, hb6, hb6E⟩ := HA1.out _ (.slice none 0 0) hbE (Own.nil _ _ _)
          refine step_appL rfl _ _ _ rfl _ _ rfl rfl hr1 ?_
          refine HK9.out _ _ ⟨fun _ => HS.out _ hb6, ?_⟩
          clear HK9 K
          try simp only [Act.put, List.setIfInBounds_toArray, List.set_cons_zero, List.set_cons_succ]
          have hent : Prs w6 (some ⟨wq.heap.size, 0, none⟩) [⟨x1, x2⟩] := Els.below (els_one prknd wq.drew _ ⟨x1, x2⟩) (hb6E rfl) (Nat.le_refl _)
          refine wpAnyM_ready (rs := [7]) (by kernel_rfl) (by simp) ?_
          refine AllReadyM.cons (o := { dst := some 30, op := Op.call { callee := Callee.builtin Builtin.append, args := #[Operand.tmp 27, Operand.tmp 29], argTypes := #[22, 22] }, type := 22, pos := _, after := #[{ on := 4, ground := Ground.data }, { on := 6, ground := Ground.data }, { on := 4, ground := Ground.chain }], guard := none }) rfl (fun K hK => ?_) AllReadyM.nil
          have HK9 : Hid (∀ a w, _ → K a w) := hK
          clear hK
          obtain ⟨v2, w7, hr2, ho2, hb7⟩ := HA2.out _ v1 wq.heap.size hb6 ho1 hent
          refine step_appL rfl _ _ _ rfl _ _ rfl (by go_simp) hr2 ?_
          refine HK9.out _ _ ⟨fun _ => HS.out _ hb7, ?_⟩
          clear HK9 K
          try simp only [Act.put, List.setIfInBounds_toArray, List.set_cons_zero, List.set_cons_succ]
          refine wpAnyM_ready (rs := [8]) (by kernel_rfl) (by simp) ?_
          refine AllReadyM.cons (o := { dst := some 5, op := Op.assign (Operand.tmp 30), type := 22, pos := _, after := #[{ on := 7, ground := Ground.data }, { on := 7, ground := Ground.chain }, { on := 0, ground := Ground.phase }, { on := 1, ground := Ground.phase }, { on := 2, ground := Ground.phase }, { on := 3, ground := Ground.phase }, { on := 4, ground := Ground.phase }, { on := 5, ground := Ground.phase }, { on := 6, ground := Ground.phase }, { on := 7, ground := Ground.phase }], guard := none }) rfl (fun K hK => ?_) AllReadyM.nil
          have HK9 : Hid (∀ a w, _ → K a w) := hK
          clear hK
          go_simp
          refine HK9.out _ _ ⟨fun h => absurd h (by omega), ?_⟩
          clear HK9 K
          try simp only [Act.put, List.setIfInBounds_toArray, List.set_cons_zero, List.set_cons_succ]
          refine wpAnyM_done (by kernel_rfl) ?_ _
          have HO2a : Hid (OwnP w7 wq.heap.size v2 (m.take 0 ++ [⟨x1, x2⟩])) := by unfold Hid; simpa using ho2
          have HB7 : Hid (Below w0.heap.size w0 w7) := HWq.out.trans (hb7.mono HWq.out.size)
          have HZ7 : Hid (wq.heap.size ≤ w7.heap.size) := hb7.size
          obtain ⟨b0, b1⟩ := HC.out w7 HB7.out
          obtain ⟨pv, cv, hv2, -, -, -⟩ := HO2a.out.els prknd
          obtain ⟨n2, hn2⟩ : ∃ n2, (m.take 0 ++ [(⟨x1, x2⟩ : Pr)]).length = n2 := ⟨_, rfl⟩
          rw [hn2] at hv2
          subst hv2
          have HO2 : Hid (OwnP w7 wq.heap.size (.slice pv n2 cv) (m.take 0 ++ [⟨x1, x2⟩])) := HO2a
          clear ho2 hb7 hS hbD HA1 HA2 HS HO2a hn2
          have HE8 : Hid (Prs w7 none (m.drop 0)) := HX.out w7 HB7.out
          go_wp2_with fail
          go_quiet (fail)
          go_wp2_with (at_builtin; refine appL prknd Try.underlying22 prinfo rfl _ rfl _ _ rfl wq.heap.size _ _ (m.drop 0) rfl _ _ _ rfl (by rw [List.length_drop, HN.out] <;> omega) (by exact HE8.out) (by exact fun _ => ⟨rfl, rfl⟩) (by exact HO2.out) (by unfold maxLen; rw [List.length_append, List.length_take]; have := HN.out; first | (simp; done) | (simp; omega)) (by rw [List.length_append, List.length_take]; have := HN.out; first | (simp; done) | (simp; omega)) HZ7.out ?_; intro v8 w8 h1 h2 h3; refine Hid.out ?_)
          unfold Hid
          have HO8 : Hid (OwnP w8 wq.heap.size v8 (Pl.put m ⟨x1, x2⟩)) := by
            unfold Hid Pl.put
            rw [HK9.out, HYX.out]
            simpa using h1
          have HB8 : Hid (Below w0.heap.size w0 w8) := by
            have hq7 : Below w7.heap.size w7 (w7.drewN nq) := below_drewN (Below.refl _ _) _
            have h9 := app_below (HO2.out.below hq7 (Nat.le_refl _)) h2 HZ7.out
            exact (HB7.out.trans (hq7.mono HB7.out.size)).trans (h9.mono (by have := HWq.out.size; omega))
          have HZ8 : Hid (w.heap.size ≤ wq.heap.size) := Nat.le_trans HB0.out.size HWq.out.size
          clear h1 h2 h3
          go_wp2
          go_ret
          exact ⟨_, rfl, HO8.out.mono HZ8.out, HB0.out.trans (HB8.out.mono HB0.out.size)⟩
      | some ad =>
        obtain ⟨g, rfl⟩ := HAT.out _ rfl
        have e1 : ((k : Nat) : Int) ≤ ((k : Nat) : Int) := by omega
        have e2 : ((k : Nat) : Int) ≤ ((c : Nat) : Int) := by omega
        have e5 : (0 : Int) ≤ ((k : Nat) : Int) := by omega
        have HS : Hid (∀ w', Below wq.heap.size wq w' → w'.cell? ⟨w.heap.size, 0, none⟩ = some (.string x1) ∧ w'.cell? ⟨w.heap.size, 1, none⟩ = some (.string x2)) := fun w' hW => HC.out w' (HWq.out.trans (hW.mono HWq.out.size))
        have HA1 : Hid _ := app_oneL prknd Try.underlying22 prinfo rfl (w0 := wq) (l := []) (l2 := m.take k) (p := (some ⟨g, 0, none⟩)) (m := k) (c := c) (by rw [List.length_take]; have := HN.out; omega) (fun W' hW' => (HX.out W' (HWq.out.trans (hW'.mono HWq.out.size))).take k) (fun h => by cases h) (by unfold maxLen; first | (simp; done) | (simp; omega)) (by first | (simp; done) | (simp; omega))
        have HA2 : Hid _ := app_entryL prknd Try.underlying22 prinfo rfl (w0 := wq) (l := [] ++ m.take k) (y := (⟨x1, x2⟩ : Pr)) (by unfold maxLen; have := HN.out; first | (simp; done) | (simp; omega)) (by have := HN.out; first | (simp; done) | (simp; omega))
        have hS := HS.out wq.drew (Below.refl _ _).drew
        have hbD : Below wq.heap.size wq wq.drew := (Below.refl _ _).drew
        go_wp2_with fail
        refine wp_region_mid (S := (fun w' => w'.cell? ⟨w.heap.size, 0, none⟩ = some (.string x1) ∧ w'.cell? ⟨w.heap.size, 1, none⟩ = some (.string x2))) 8 (by kernel_rfl) ?_
        refine wpAnyM_take (i := 0) [] (oi := { dst := some 23, op := Op.move (Operand.tmp 5), type := 22, pos := _, after := #[], guard := none }) (v := .slice none 0 0) rfl (by kernel_rfl) (by kernel_rfl) (by kernel_rfl) (by kernel_rfl) (fun _ _ _ h => h) (Or.inl ⟨by rfl, ?_⟩) hS ?_
        · (intro w' hSw; obtain ⟨m0, m1⟩ := hSw; go_simp; try with_reducible rfl)
        try simp only [Act.put, List.setIfInBounds_toArray, List.set_cons_zero, List.set_cons_succ]
        refine wpAnyM_take (i := 1) [] (oi := { dst := some 24, op := Op.move (Operand.tmp 0), type := 22, pos := _, after := #[], guard := none }) (v := .slice (some ⟨g, 0, none⟩) k c) rfl (by kernel_rfl) (by kernel_rfl) (by kernel_rfl) (by kernel_rfl) (fun _ _ _ h => h) (Or.inl ⟨by rfl, ?_⟩) hS ?_
        · (intro w' hSw; obtain ⟨m0, m1⟩ := hSw; go_simp; try with_reducible rfl)
        try simp only [Act.put, List.setIfInBounds_toArray, List.set_cons_zero, List.set_cons_succ]
        refine wpAnyM_take (i := 2) [] (oi := { dst := some 25, op := Op.move (Operand.tmp 6), type := 3, pos := _, after := #[], guard := none }) (v := .int .i64 (k : Int)) rfl (by kernel_rfl) (by kernel_rfl) (by kernel_rfl) (by kernel_rfl) (fun _ _ _ h => h) (Or.inl ⟨by rfl, ?_⟩) hS ?_
        · (intro w' hSw; obtain ⟨m0, m1⟩ := hSw; go_simp; try with_reducible rfl)
        try simp only [Act.put, List.setIfInBounds_toArray, List.set_cons_zero, List.set_cons_succ]
        refine wpAnyM_take (i := 3) [] (oi := { dst := some 26, op := Op.slice 22 (Operand.tmp 24) none (some (Operand.tmp 25)) none, type := 22, pos := _, after := #[{ on := 1, ground := Ground.data }, { on := 2, ground := Ground.data }], guard := none }) (v := .slice (some ⟨g, 0, none⟩) k c) rfl (by kernel_rfl) (by kernel_rfl) (by kernel_rfl) (by kernel_rfl) (fun _ _ _ h => h) (Or.inl ⟨by rfl, ?_⟩) hS ?_
        · (intro w' hSw; obtain ⟨m0, m1⟩ := hSw; go_simp; try with_reducible rfl)
        try simp only [Act.put, List.setIfInBounds_toArray, List.set_cons_zero, List.set_cons_succ]
        refine wpAnyM_take (i := 5) [] (oi := { dst := some 28, op := Op.load 54 (Operand.tmp 3), type := 54, pos := _, after := #[], guard := none }) (v := .agg #[.string x1, .string x2]) rfl (by kernel_rfl) (by kernel_rfl) (by kernel_rfl) (by kernel_rfl) (fun _ _ _ h => h) (Or.inl ⟨by rfl, ?_⟩) hS ?_
        · (intro w' hSw; obtain ⟨m0, m1⟩ := hSw; go_simp; try with_reducible rfl)
        try simp only [Act.put, List.setIfInBounds_toArray, List.set_cons_zero, List.set_cons_succ]
        refine wpAnyM_ready (rs := [4, 6]) (by kernel_rfl) (by simp) ?_
        refine AllReadyM.cons (o := { dst := some 27, op := Op.call { callee := Callee.builtin Builtin.append, args := #[Operand.tmp 23, Operand.tmp 26], argTypes := #[22, 22] }, type := 22, pos := _, after := #[{ on := 0, ground := Ground.data }, { on := 3, ground := Ground.data }], guard := none }) rfl (fun K hK => ?_) (AllReadyM.cons (o := { dst := some 29, op := Op.buildSlice 22 1 #[(0, Operand.tmp 28)], type := 22, pos := _, after := #[{ on := 5, ground := Ground.data }], guard := none }) rfl (fun K hK => ?_) AllReadyM.nil)
        · have HK9' : Hid (∀ a w, _ → K a w) := hK
          clear hK
          obtain ⟨v1, w6, hr1, ho1, hb6, -⟩ := HA1.out _ (.slice none 0 0) hbD (Own.nil _ _ _)
          refine step_appL rfl _ _ _ rfl _ _ rfl rfl hr1 ?_
          refine HK9'.out _ _ ⟨fun _ => HS.out _ hb6, ?_⟩
          clear HK9' K
          try simp only [Act.put, List.setIfInBounds_toArray, List.set_cons_zero, List.set_cons_succ]
          refine wpAnyM_ready (rs := [6]) (by kernel_rfl) (by simp) ?_
          refine AllReadyM.cons (o := { dst := some 29, op := Op.buildSlice 22 1 #[(0, Operand.tmp 28)], type := 22, pos := _, after := #[{ on := 5, ground := Ground.data }], guard := none }) rfl (fun K hK => ?_) AllReadyM.nil
          have HK9 : Hid (∀ a w, _ → K a w) := hK
          clear hK
          go_simp
          have hb6' : Below wq.heap.size wq (w6.alloc (.cells #[.string x1, .string x2] 54)) := hb6.alloc hb6.size _
          refine HK9.out _ _ ⟨fun _ => HS.out _ hb6', ?_⟩
          clear HK9 K
          try simp only [Act.put, List.setIfInBounds_toArray, List.set_cons_zero, List.set_cons_succ]
          have ho1' := ho1.below ((Below.refl _ w6).alloc (Nat.le_refl _) (.cells #[.string x1, .string x2] 54)) (Nat.le_refl _)
          refine wpAnyM_ready (rs := [7]) (by kernel_rfl) (by simp) ?_
          refine AllReadyM.cons (o := { dst := some 30, op := Op.call { callee := Callee.builtin Builtin.append, args := #[Operand.tmp 27, Operand.tmp 29], argTypes := #[22, 22] }, type := 22, pos := _, after := #[{ on := 4, ground := Ground.data }, { on := 6, ground := Ground.data }, { on := 4, ground := Ground.chain }], guard := none }) rfl (fun K hK => ?_) AllReadyM.nil
          have HK9 : Hid (∀ a w, _ → K a w) := hK
          clear hK
          obtain ⟨v2, w7, hr2, ho2, hb7⟩ := HA2.out _ v1 w6.heap.size hb6' ho1' (els_one prknd w6 _ ⟨x1, x2⟩)
          refine step_appL rfl _ _ _ rfl _ _ rfl (by go_simp) hr2 ?_
          refine HK9.out _ _ ⟨fun _ => HS.out _ hb7, ?_⟩
          clear HK9 K
          try simp only [Act.put, List.setIfInBounds_toArray, List.set_cons_zero, List.set_cons_succ]
          refine wpAnyM_ready (rs := [8]) (by kernel_rfl) (by simp) ?_
          refine AllReadyM.cons (o := { dst := some 5, op := Op.assign (Operand.tmp 30), type := 22, pos := _, after := #[{ on := 7, ground := Ground.data }, { on := 7, ground := Ground.chain }, { on := 0, ground := Ground.phase }, { on := 1, ground := Ground.phase }, { on := 2, ground := Ground.phase }, { on := 3, ground := Ground.phase }, { on := 4, ground := Ground.phase }, { on := 5, ground := Ground.phase }, { on := 6, ground := Ground.phase }, { on := 7, ground := Ground.phase }], guard := none }) rfl (fun K hK => ?_) AllReadyM.nil
          have HK9 : Hid (∀ a w, _ → K a w) := hK
          clear hK
          go_simp
          refine HK9.out _ _ ⟨fun h => absurd h (by omega), ?_⟩
          clear HK9 K
          try simp only [Act.put, List.setIfInBounds_toArray, List.set_cons_zero, List.set_cons_succ]
          refine wpAnyM_done (by kernel_rfl) ?_ _
          have HO2a : Hid (OwnP w7 wq.heap.size v2 (m.take k ++ [⟨x1, x2⟩])) := by unfold Hid; simpa using ho2
          have HB7 : Hid (Below w0.heap.size w0 w7) := HWq.out.trans (hb7.mono HWq.out.size)
          have HZ7 : Hid (wq.heap.size ≤ w7.heap.size) := hb7.size
          obtain ⟨b0, b1⟩ := HC.out w7 HB7.out
          obtain ⟨pv, cv, hv2, -, -, -⟩ := HO2a.out.els prknd
          obtain ⟨n2, hn2⟩ : ∃ n2, (m.take k ++ [(⟨x1, x2⟩ : Pr)]).length = n2 := ⟨_, rfl⟩
          rw [hn2] at hv2
          subst hv2
          have HO2 : Hid (OwnP w7 wq.heap.size (.slice pv n2 cv) (m.take k ++ [⟨x1, x2⟩])) := HO2a
          clear ho2 hb7 hS hbD HA1 HA2 HS HO2a hn2
          obtain ⟨a7, ha7⟩ : ∃ a7 : Addr, (if c = k then (some ⟨g, 0, none⟩ : Option Addr) else some ⟨g, k * 2, none⟩) = some a7 := by split <;> exact ⟨_, rfl⟩
          have HE8 : Hid (Prs w7 (some a7) (m.drop k)) := by
            have h2 := HN.out
            have h3 := HX.out w7 HB7.out
            unfold Hid
            by_cases hlast : k = k
            · rw [List.drop_of_length_le (by omega)]
              exact Els.nil _ _
            · rw [← ha7, if_neg (by omega)]
              have := Els.drop h3 k
              simpa using this
          go_wp2_with fail
          go_quiet (fail)
          go_wp2_with (at_builtin; refine appL prknd Try.underlying22 prinfo rfl _ rfl _ _ rfl wq.heap.size _ _ (m.drop k) rfl _ _ _ rfl (by rw [List.length_drop, HN.out] <;> omega) (by exact HE8.out) (by intro h; cases h) (by exact HO2.out) (by unfold maxLen; rw [List.length_append, List.length_take]; have := HN.out; first | (simp; done) | (simp; omega)) (by rw [List.length_append, List.length_take]; have := HN.out; first | (simp; done) | (simp; omega)) HZ7.out ?_; intro v8 w8 h1 h2 h3; refine Hid.out ?_)
          unfold Hid
          have HO8 : Hid (OwnP w8 wq.heap.size v8 (Pl.put m ⟨x1, x2⟩)) := by
            unfold Hid Pl.put
            rw [HK9.out, HYX.out]
            simpa using h1
          have HB8 : Hid (Below w0.heap.size w0 w8) := by
            have hq7 : Below w7.heap.size w7 (w7.drewN nq) := below_drewN (Below.refl _ _) _
            have h9 := app_below (HO2.out.below hq7 (Nat.le_refl _)) h2 HZ7.out
            exact (HB7.out.trans (hq7.mono HB7.out.size)).trans (h9.mono (by have := HWq.out.size; omega))
          have HZ8 : Hid (w.heap.size ≤ wq.heap.size) := Nat.le_trans HB0.out.size HWq.out.size
          clear h1 h2 h3
          go_wp2
          go_ret
          exact ⟨_, rfl, HO8.out.mono HZ8.out, HB0.out.trans (HB8.out.mono HB0.out.size)⟩
        · have HK9' : Hid (∀ a w, _ → K a w) := hK
          clear hK
          go_simp
          have hbE : Below wq.heap.size wq (wq.drew.alloc (.cells #[.string x1, .string x2] 54)) := hbD.alloc (Nat.le_refl _) _
          refine HK9'.out _ _ ⟨fun _ => HS.out _ hbE, ?_⟩
          clear HK9' K
          try simp only [Act.put, List.setIfInBounds_toArray, List.set_cons_zero, List.set_cons_succ]
          refine wpAnyM_ready (rs := [4]) (by kernel_rfl) (by simp) ?_
          refine AllReadyM.cons (o := { dst := some 27, op := Op.call { callee := Callee.builtin Builtin.append, args := #[Operand.tmp 23, Operand.tmp 26], argTypes := #[22, 22] }, type := 22, pos := _, after := #[{ on := 0, ground := Ground.data }, { on := 3, ground := Ground.data }], guard := none }) rfl (fun K hK => ?_) AllReadyM.nil
          have HK9 : Hid (∀ a w, _ → K a w) := hK
          clear hK
          obtain ⟨v1, w6, hr1, ho1, hb6, hb6E⟩ := HA1.out _ (.slice none 0 0) hbE (Own.nil _ _ _)
          refine step_appL rfl _ _ _ rfl _ _ rfl rfl hr1 ?_
          refine HK9.out _ _ ⟨fun _ => HS.out _ hb6, ?_⟩
          clear HK9 K
          try simp only [Act.put, List.setIfInBounds_toArray, List.set_cons_zero, List.set_cons_succ]
          have hent : Prs w6 (some ⟨wq.heap.size, 0, none⟩) [⟨x1, x2⟩] := Els.below (els_one prknd wq.drew _ ⟨x1, x2⟩) (hb6E rfl) (Nat.le_refl _)
          refine wpAnyM_ready (rs := [7]) (by kernel_rfl) (by simp) ?_
          refine AllReadyM.cons (o := { dst := some 30, op := Op.call { callee := Callee.builtin Builtin.append, args := #[Operand.tmp 27, Operand.tmp 29], argTypes := #[22, 22] }, type := 22, pos := _, after := #[{ on := 4, ground := Ground.data }, { on := 6, ground := Ground.data }, { on := 4, ground := Ground.chain }], guard := none }) rfl (fun K hK => ?_) AllReadyM.nil
          have HK9 : Hid (∀ a w, _ → K a w) := hK
          clear hK
          obtain ⟨v2, w7, hr2, ho2, hb7⟩ := HA2.out _ v1 wq.heap.size hb6 ho1 hent
          refine step_appL rfl _ _ _ rfl _ _ rfl (by go_simp) hr2 ?_
          refine HK9.out _ _ ⟨fun _ => HS.out _ hb7, ?_⟩
          clear HK9 K
          try simp only [Act.put, List.setIfInBounds_toArray, List.set_cons_zero, List.set_cons_succ]
          refine wpAnyM_ready (rs := [8]) (by kernel_rfl) (by simp) ?_
          refine AllReadyM.cons (o := { dst := some 5, op := Op.assign (Operand.tmp 30), type := 22, pos := _, after := #[{ on := 7, ground := Ground.data }, { on := 7, ground := Ground.chain }, { on := 0, ground := Ground.phase }, { on := 1, ground := Ground.phase }, { on := 2, ground := Ground.phase }, { on := 3, ground := Ground.phase }, { on := 4, ground := Ground.phase }, { on := 5, ground := Ground.phase }, { on := 6, ground := Ground.phase }, { on := 7, ground := Ground.phase }], guard := none }) rfl (fun K hK => ?_) AllReadyM.nil
          have HK9 : Hid (∀ a w, _ → K a w) := hK
          clear hK
          go_simp
          refine HK9.out _ _ ⟨fun h => absurd h (by omega), ?_⟩
          clear HK9 K
          try simp only [Act.put, List.setIfInBounds_toArray, List.set_cons_zero, List.set_cons_succ]
          refine wpAnyM_done (by kernel_rfl) ?_ _
          have HO2a : Hid (OwnP w7 wq.heap.size v2 (m.take k ++ [⟨x1, x2⟩])) := by unfold Hid; simpa using ho2
          have HB7 : Hid (Below w0.heap.size w0 w7) := HWq.out.trans (hb7.mono HWq.out.size)
          have HZ7 : Hid (wq.heap.size ≤ w7.heap.size) := hb7.size
          obtain ⟨b0, b1⟩ := HC.out w7 HB7.out
          obtain ⟨pv, cv, hv2, -, -, -⟩ := HO2a.out.els prknd
          obtain ⟨n2, hn2⟩ : ∃ n2, (m.take k ++ [(⟨x1, x2⟩ : Pr)]).length = n2 := ⟨_, rfl⟩
          rw [hn2] at hv2
          subst hv2
          have HO2 : Hid (OwnP w7 wq.heap.size (.slice pv n2 cv) (m.take k ++ [⟨x1, x2⟩])) := HO2a
          clear ho2 hb7 hS hbD HA1 HA2 HS HO2a hn2
          obtain ⟨a7, ha7⟩ : ∃ a7 : Addr, (if c = k then (some ⟨g, 0, none⟩ : Option Addr) else some ⟨g, k * 2, none⟩) = some a7 := by split <;> exact ⟨_, rfl⟩
          have HE8 : Hid (Prs w7 (some a7) (m.drop k)) := by
            have h2 := HN.out
            have h3 := HX.out w7 HB7.out
            unfold Hid
            by_cases hlast : k = k
            · rw [List.drop_of_length_le (by omega)]
              exact Els.nil _ _
            · rw [← ha7, if_neg (by omega)]
              have := Els.drop h3 k
              simpa using this
          go_wp2_with fail
          go_quiet (fail)
          go_wp2_with (at_builtin; refine appL prknd Try.underlying22 prinfo rfl _ rfl _ _ rfl wq.heap.size _ _ (m.drop k) rfl _ _ _ rfl (by rw [List.length_drop, HN.out] <;> omega) (by exact HE8.out) (by intro h; cases h) (by exact HO2.out) (by unfold maxLen; rw [List.length_append, List.length_take]; have := HN.out; first | (simp; done) | (simp; omega)) (by rw [List.length_append, List.length_take]; have := HN.out; first | (simp; done) | (simp; omega)) HZ7.out ?_; intro v8 w8 h1 h2 h3; refine Hid.out ?_)
          unfold Hid
          have HO8 : Hid (OwnP w8 wq.heap.size v8 (Pl.put m ⟨x1, x2⟩)) := by
            unfold Hid Pl.put
            rw [HK9.out, HYX.out]
            simpa using h1
          have HB8 : Hid (Below w0.heap.size w0 w8) := by
            have hq7 : Below w7.heap.size w7 (w7.drewN nq) := below_drewN (Below.refl _ _) _
            have h9 := app_below (HO2.out.below hq7 (Nat.le_refl _)) h2 HZ7.out
            exact (HB7.out.trans (hq7.mono HB7.out.size)).trans (h9.mono (by have := HWq.out.size; omega))
          have HZ8 : Hid (w.heap.size ≤ wq.heap.size) := Nat.le_trans HB0.out.size HWq.out.size
          clear h1 h2 h3
          go_wp2
          go_ret
          exact ⟨_, rfl, HO8.out.mono HZ8.out, HB0.out.trans (HB8.out.mono HB0.out.size)⟩
end Go.Proofs.Ytilabcolfabnmaa
