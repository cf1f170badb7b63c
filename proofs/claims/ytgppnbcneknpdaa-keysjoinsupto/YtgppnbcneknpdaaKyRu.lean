/- Union (the document's). -/
import Derived.Test.YtgppnbcneknpdaaKyRx
namespace Go.Proofs.Ytgppnbcneknpdaa
open Go.RowKit Go.Sort
set_option linter.unusedVariables false
set_option maxRecDepth 100000

theorem Ky.full_take {l : List Rg} {j : Nat} {x : Rg} (h : l[j]? = some x) : Ky.full (l.take (j + 1)) = Ky.full (l.take j) ++ (if Ky.emp x then [] else [x]) := by
  rw [List.take_add_one, h]
  unfold Ky.full
  rw [List.filter_append]
  cases e : Ky.emp x <;> simp [e]

/-- The ranges that were put in order till now: where they lie. -/
structure Pi (w : World) (q : Option Addr) (n c : Nat) (m : List Rg) : Prop where
  len : m.length = n
  le : n ≤ c
  nil : q = none → n = 0 ∧ c = 0
  at0 : ∀ ad, q = some ad → ∃ g, ad = ⟨g, 0, none⟩
  rgs : Rgs w q m

theorem Pi.below {w w' : World} {q : Option Addr} {n c : Nat} {m : List Rg} (h : Pi w q n c m) (hb : Below w.heap.size w w') : Pi w' q n c m := { h with rgs := h.rgs.below hb (Nat.le_refl _) }

theorem OwnR.pi {w : World} {base : Nat} {v : Value} {l : List Rg} (h : OwnR w base v l) : ∃ q n c, v = .slice q n c ∧ Pi w q n c l := by
  obtain ⟨q, c, hv, hr, hn⟩ := h.rgs
  rcases h.2 with ⟨hv2, hn2⟩ | ⟨g, cap, cur, hv2, hbb, hg, hle, hcm, hcur, htake⟩
  · have hl0 : l = [] := List.eq_nil_of_length_eq_zero hn2
    subst hl0
    exact ⟨none, 0, 0, hv2, rfl, Nat.le_refl _, fun _ => ⟨rfl, rfl⟩, (fun ad h => by cases h), Rgs.nil _ _⟩
  · rw [hv2] at hv
    cases hv
    exact ⟨_, _, _, hv2, rfl, hle, (fun h => by cases h), fun ad h => ⟨g, by cases h; rfl⟩, hr⟩

theorem Ky.ends_pos (a b : ByteArray) : (0 < Ky.ends a b) ↔ (!Ky.nil b && (Ky.nil a || Ky.lt b a)) = true := by
  obtain ⟨f, h0, h1, h2⟩ := Ky.ranks [a, b]
  simp only [List.forall_mem_cons, List.not_mem_nil, false_imp_iff, implies_true, and_true] at h1 h2
  unfold Ky.ends
  rw [Ky.cmp_lt, Ky.cmp_lt]
  simp only [Ky.nil_eq, h1, h2]
  by_cases c1 : f a = 0 <;> by_cases c2 : f b = 0 <;> by_cases c3 : f a < f b <;> by_cases c4 : f b < f a <;> simp [c1, c2, c3, c4] <;> omega

set_option maxHeartbeats 16000000 in
theorem runion_any (p : Option Addr) (len cap : Nat) (l : List Rg) (w : World) (hlen : l.length = len) (hx : Rgs w p l) (hl : len ≤ 4194304) :
    Calls Try.prog 18 #[.slice p len cap] w fun e w' => ∃ v, e = .returned v ∧ OwnR w' w.heap.size v (Ky.uni (Ky.puts l)) ∧ Below w.heap.size w w' := by
  have HX : Hid (Rgs w p l) := hx
  have HL : Hid (l.length = len) := hlen
  clear hx hlen
  go_enter Try.func18, Try.ntmps18
  go_wp2_with fail
  go_loopw [3, 4] (fun v i wr => ∃ (j : Nat) (q : Option Addr) (n c : Nat) (m : List Rg), j ≤ len ∧ n ≤ j ∧ i = .int .i64 j ∧ v = .slice q n c ∧ Hid (Pi wr q n c m) ∧ Hid (m = (Ky.full (l.take j)).foldl Ky.ins []) ∧ Hid (Below w.heap.size w wr)) (fun _ i _ => len - (intOf i).toNat)
  case atStart => exact ⟨0, none, 0, 0, [], Nat.zero_le _, Nat.le_refl _, rfl, rfl, ⟨rfl, Nat.le_refl _, fun _ => ⟨rfl, rfl⟩, (fun ad h => by cases h), Rgs.nil _ _⟩, rfl, Below.refl _ _⟩
  case round =>
    obtain ⟨j, q, n, c, m, hj, hnj, rfl, rfl, HP, HM, HW⟩ := hrel
    by_cases hlt : j < len
    · have hli : (j : Int) < (len : Int) := by omega
      have hj0 : (0 : Int) ≤ (j : Int) := by omega
      obtain ⟨b, o, x, rfl, hg, hblt, c0, c1⟩ := (HX.out.below HW.out (Nat.le_refl _)).at (j := j) (by have := HL.out; omega)
      have HG : Hid (l[j]? = some x) := hg
      clear hg
      go_wp2_with fail
      refine (rempty_any x _).mono ?_
      cases hem : Ky.emp x with
      | true =>
        have HM2 : Hid (m = (Ky.full (l.take (j + 1))).foldl Ky.ins []) := by
          rw [Hid, Ky.full_take HG.out, hem, HM.out]
          simp
        rintro e w2 ⟨rfl, hb2⟩
        have HP2 : Hid (Pi w2 q n c m) := HP.out.below hb2
        have HW2 : Hid (Below w.heap.size w w2) := HW.out.trans (hb2.mono HW.out.size)
        clear hb2 hem
        go_wp2
        go_roundw
        case rel => exact ⟨j + 1, q, n, c, m, by omega, by omega, by go_num, rfl, HP2, HM2, HW2⟩
        case measure => simp [intOf]; omega
      | false =>
        have HM2 : Hid ((Ky.full (l.take (j + 1))).foldl Ky.ins [] = Ky.ins m x) := by
          rw [Hid, Ky.full_take HG.out, hem, HM.out]
          simp
        rintro e w2 ⟨rfl, hb2⟩
        have HP2 : Hid (Pi w2 q n c m) := HP.out.below hb2
        have HW2 : Hid (Below w.heap.size w w2) := HW.out.trans (hb2.mono HW.out.size)
        have HC : Hid (∀ W, Below w.heap.size w W → W.cell? ⟨b, o + j * 2, none⟩ = some (.string x.lo) ∧ W.cell? ⟨b, o + j * 2 + 1, none⟩ = some (.string x.hi)) := fun W hW => by
          obtain ⟨b', o', y, hpp, hgy, -, h0, h1⟩ := (HX.out.below hW (Nat.le_refl _)).at (j := j) (by have := HL.out; omega)
          cases hpp
          rw [HG.out] at hgy
          cases hgy
          exact ⟨h0, h1⟩
        clear hb2 hem c0 c1 HP HW HM
        go_wp2_with fail
        go_loopw [5] (fun iv wr => ∃ k : Nat, k ≤ n ∧ iv = .int .i64 k ∧ Hid (k ≤ Ky.lead x m) ∧ Hid (Below w2.heap.size w2 wr)) (fun iv _ => n - (intOf iv).toNat)
        case atStart => exact ⟨0, Nat.zero_le _, rfl, Nat.zero_le _, Below.refl _ _⟩
        case round =>
          obtain ⟨k, hk, rfl, HK, HB⟩ := hrel
          have HP3 : Hid (Pi wr q n c m) := HP2.out.below HB.out
          have HWr : Hid (Below w.heap.size w wr) := HW2.out.trans (HB.out.mono HW2.out.size)
          obtain ⟨x0, x1⟩ : wr.cell? ⟨b, o + j * 2, none⟩ = some (.string x.lo) ∧ wr.cell? ⟨b, o + j * 2 + 1, none⟩ = some (.string x.hi) := HC.out wr HWr.out
          by_cases hkn : k < n
          · have hli2 : (k : Int) < (n : Int) := by omega
            have hli3 : decide (k < n) = true := by simp [hkn]
            have hk0 : (0 : Int) ≤ (k : Int) := by omega
            obtain ⟨g, o2, y, hqq, hgy, -, y0, y1⟩ := HP3.out.rgs.at (j := k) (by have := HP3.out.len; omega)
            subst hqq
            obtain ⟨g', hg'⟩ := HP3.out.at0 _ rfl
            cases hg'
            have HY : Hid (m[k]? = some y) := hgy
            clear hgy y1
            simp only [Nat.zero_add] at y0
            cases hq : Ky.lt x.lo y.lo with
            | true =>
              have hle1 : Op.bytesLess y.lo.toList x.lo.toList = false := by
                cases h : Op.bytesLess y.lo.toList x.lo.toList with
                | false => rfl
                | true =>
                  have := Ky.less_trans _ _ _ hq h
                  rw [Ky.less_irrefl] at this
                  exact this.symm
              have hle2 : (y.lo.toList == x.lo.toList) = false := by
                cases h : (y.lo.toList == x.lo.toList) with
                | false => rfl
                | true =>
                  have h2 := hq
                  unfold Ky.lt at h2
                  rw [beq_iff_eq] at h
                  rw [h, Ky.less_irrefl] at h2
                  exact h2.symm
              have HK9 : Hid (Ky.lead x m = k) := by
                have hkl := (List.getElem?_eq_some_iff.1 HY.out).1
                refine (List.findIdx_eq hkl).2 ⟨by rw [(List.getElem?_eq_some_iff.1 HY.out).2]; exact hq, fun i hi => ?_⟩
                have := List.not_of_lt_findIdx (p := fun y : Rg => Ky.lt x.lo y.lo) (xs := m) (i := i) (Nat.lt_of_lt_of_le hi HK.out)
                simpa using this
              clear hq
              go_wp2_with fail
              go_quiet (fail)
              have HP9 : Hid (Pi (wr.drewN nq) (some ⟨g, 0, none⟩) n c m) := HP3.out.below (below_drewN (Below.refl _ _) nq)
              have HW9 : Hid (Below w.heap.size w (wr.drewN nq)) := below_drewN HWr.out nq
              generalize wr.drewN nq = wq at HW9 HP9 ⊢
              clear x0 x1 y0 HP3 HWr HB HK HP2 HW2 hle1 hle2 hli2 hli3
              obtain ⟨a7, ha7⟩ : ∃ a7 : Addr, (if c = k then some (⟨g, 0, none⟩ : Addr) else some ⟨g, k * 2, none⟩) = some a7 := by split <;> exact ⟨_, rfl⟩
              have HREST : Hid (∀ W, Below wq.heap.size wq W → Rgs W (some a7) (m.drop k)) := fun W hW => by
                have h1 := HP9.out.len
                have h2 := HP9.out.le
                by_cases hlast : n = k
                · rw [List.drop_of_length_le (by omega)]
                  exact Rgs.nil _ _
                · rw [if_neg (by omega)] at ha7
                  obtain rfl := Option.some.inj ha7
                  have := (HP9.out.below hW).rgs.drop k
                  simpa using this
              have E7 : Hid ((if c = k then some (⟨g, 0, none⟩ : Addr) else some ⟨g, k * 2, none⟩) = some a7) := ha7
              have hnc := HP9.out.le
              have e1 : (k : Int) ≤ (n : Int) := by omega
              have e2 : (k : Int) ≤ (c : Int) := by omega
              have e5 : (0 : Int) ≤ (k : Int) := by omega
              clear ha7
              go_wp2_with fail
              have HS : Hid (∀ w', Below wq.heap.size wq w' → w'.cell? ⟨b, o + j * 2, none⟩ = some (.string x.lo) ∧ w'.cell? ⟨b, o + j * 2 + 1, none⟩ = some (.string x.hi)) := fun w' hW => HC.out w' (HW9.out.trans (hW.mono HW9.out.size))
              have HA1 : Hid _ := app_oneR (w0 := wq) (B0 := 0) (Nat.zero_le _) (l := []) (l2 := m.take k) (p := (some ⟨g, 0, none⟩)) (m := k) (c := c) (by rw [List.length_take]; have := HP9.out.len; omega) (fun W' hW' => (HP9.out.below hW').rgs.take k) (fun h => by cases h) (by first | (simp; done) | (simp; omega))
              have HA2 : Hid _ := app_entryR (w0 := wq) (l := [] ++ m.take k) (e := x) (by have := HP9.out.len; first | (simp; done) | (simp; omega))
              have HA3 : Hid _ := app_oneR (w0 := wq) (B0 := 0) (Nat.zero_le _) (l := [] ++ m.take k ++ [x]) (l2 := m.drop k) (p := (some a7)) (m := (n - k)) (c := (c - k)) (by rw [List.length_drop, HP9.out.len]) (fun W' hW' => HREST.out W' hW') (fun h => by cases h) (by have := HP9.out.len; first | (simp; done) | (simp; omega))
              have hS := HS.out wq.drew (Below.refl _ _).drew
              have hbD : Below wq.heap.size wq wq.drew := (Below.refl _ _).drew
              refine wp_region_mid (S := (fun w' => w'.cell? ⟨b, o + j * 2, none⟩ = some (.string x.lo) ∧ w'.cell? ⟨b, o + j * 2 + 1, none⟩ = some (.string x.hi))) 15 (by kernel_rfl) ?_
              refine wpAnyM_take (i := 0) [] (oi := { dst := some 40, op := Op.move (Operand.tmp 6), type := 22, pos := _, after := #[], guard := none }) (v := .slice none 0 0) rfl (by kernel_rfl) (by kernel_rfl) (by kernel_rfl) (by kernel_rfl) (fun _ _ _ h => h) (Or.inl ⟨by rfl, ?_⟩) hS ?_
              · (intro w' hSw; obtain ⟨m0, m1⟩ := hSw; go_simp; try with_reducible rfl)
              try simp only [Act.put, List.setIfInBounds_toArray, List.set_cons_zero, List.set_cons_succ]
              refine wpAnyM_take (i := 1) [] (oi := { dst := some 41, op := Op.move (Operand.tmp 3), type := 22, pos := _, after := #[], guard := none }) (v := .slice (some ⟨g, 0, none⟩) n c) rfl (by kernel_rfl) (by kernel_rfl) (by kernel_rfl) (by kernel_rfl) (fun _ _ _ h => h) (Or.inl ⟨by rfl, ?_⟩) hS ?_
              · (intro w' hSw; obtain ⟨m0, m1⟩ := hSw; go_simp; try with_reducible rfl)
              try simp only [Act.put, List.setIfInBounds_toArray, List.set_cons_zero, List.set_cons_succ]
              refine wpAnyM_take (i := 2) [] (oi := { dst := some 42, op := Op.move (Operand.tmp 5), type := 3, pos := _, after := #[], guard := none }) (v := .int .i64 (k : Int)) rfl (by kernel_rfl) (by kernel_rfl) (by kernel_rfl) (by kernel_rfl) (fun _ _ _ h => h) (Or.inl ⟨by rfl, ?_⟩) hS ?_
              · (intro w' hSw; obtain ⟨m0, m1⟩ := hSw; go_simp; try with_reducible rfl)
              try simp only [Act.put, List.setIfInBounds_toArray, List.set_cons_zero, List.set_cons_succ]
              refine wpAnyM_take (i := 3) [] (oi := { dst := some 43, op := Op.slice 22 (Operand.tmp 41) none (some (Operand.tmp 42)) none, type := 22, pos := _, after := #[{ on := 1, ground := Ground.data }, { on := 2, ground := Ground.data }], guard := none }) (v := .slice (some ⟨g, 0, none⟩) k c) rfl (by kernel_rfl) (by kernel_rfl) (by kernel_rfl) (by kernel_rfl) (fun _ _ _ h => h) (Or.inl ⟨by rfl, ?_⟩) hS ?_
              · (intro w' hSw; obtain ⟨m0, m1⟩ := hSw; go_simp; try with_reducible rfl)
              try simp only [Act.put, List.setIfInBounds_toArray, List.set_cons_zero, List.set_cons_succ]
              refine wpAnyM_take (i := 5) [] (oi := { dst := some 45, op := Op.move (Operand.tmp 0), type := 22, pos := _, after := #[], guard := none }) (v := .slice (some ⟨b, o, none⟩) len cap) rfl (by kernel_rfl) (by kernel_rfl) (by kernel_rfl) (by kernel_rfl) (fun _ _ _ h => h) (Or.inl ⟨by rfl, ?_⟩) hS ?_
              · (intro w' hSw; obtain ⟨m0, m1⟩ := hSw; go_simp; try with_reducible rfl)
              try simp only [Act.put, List.setIfInBounds_toArray, List.set_cons_zero, List.set_cons_succ]
              refine wpAnyM_take (i := 6) [] (oi := { dst := some 46, op := Op.move (Operand.tmp 4), type := 3, pos := _, after := #[], guard := none }) (v := .int .i64 (j : Int)) rfl (by kernel_rfl) (by kernel_rfl) (by kernel_rfl) (by kernel_rfl) (fun _ _ _ h => h) (Or.inl ⟨by rfl, ?_⟩) hS ?_
              · (intro w' hSw; obtain ⟨m0, m1⟩ := hSw; go_simp; try with_reducible rfl)
              try simp only [Act.put, List.setIfInBounds_toArray, List.set_cons_zero, List.set_cons_succ]
              refine wpAnyM_take (i := 7) [] (oi := { dst := some 47, op := Op.indexAddr 22 (Operand.tmp 45) (Operand.tmp 46), type := 0, pos := _, after := #[{ on := 5, ground := Ground.data }, { on := 6, ground := Ground.data }], guard := none }) (v := .pointer (some ⟨b, o + j * 2, none⟩)) rfl (by kernel_rfl) (by kernel_rfl) (by kernel_rfl) (by kernel_rfl) (fun _ _ _ h => h) (Or.inl ⟨by rfl, ?_⟩) hS ?_
              · (intro w' hSw; obtain ⟨m0, m1⟩ := hSw; go_simp; try with_reducible rfl)
              try simp only [Act.put, List.setIfInBounds_toArray, List.set_cons_zero, List.set_cons_succ]
              refine wpAnyM_take (i := 8) [] (oi := { dst := some 48, op := Op.load 24 (Operand.tmp 47), type := 24, pos := _, after := #[{ on := 7, ground := Ground.data }], guard := none }) (v := .agg #[.string x.lo, .string x.hi]) rfl (by kernel_rfl) (by kernel_rfl) (by kernel_rfl) (by kernel_rfl) (fun _ _ _ h => h) (Or.inl ⟨by rfl, ?_⟩) hS ?_
              · (intro w' hSw; obtain ⟨m0, m1⟩ := hSw; go_simp; try with_reducible rfl)
              try simp only [Act.put, List.setIfInBounds_toArray, List.set_cons_zero, List.set_cons_succ]
              refine wpAnyM_take (i := 11) [] (oi := { dst := some 51, op := Op.move (Operand.tmp 3), type := 22, pos := _, after := #[], guard := none }) (v := .slice (some ⟨g, 0, none⟩) n c) rfl (by kernel_rfl) (by kernel_rfl) (by kernel_rfl) (by kernel_rfl) (fun _ _ _ h => h) (Or.inl ⟨by rfl, ?_⟩) hS ?_
              · (intro w' hSw; obtain ⟨m0, m1⟩ := hSw; go_simp; try with_reducible rfl)
              try simp only [Act.put, List.setIfInBounds_toArray, List.set_cons_zero, List.set_cons_succ]
              refine wpAnyM_take (i := 12) [] (oi := { dst := some 52, op := Op.move (Operand.tmp 5), type := 3, pos := _, after := #[], guard := none }) (v := .int .i64 (k : Int)) rfl (by kernel_rfl) (by kernel_rfl) (by kernel_rfl) (by kernel_rfl) (fun _ _ _ h => h) (Or.inl ⟨by rfl, ?_⟩) hS ?_
              · (intro w' hSw; obtain ⟨m0, m1⟩ := hSw; go_simp; try with_reducible rfl)
              try simp only [Act.put, List.setIfInBounds_toArray, List.set_cons_zero, List.set_cons_succ]
              refine wpAnyM_take (i := 13) [] (oi := { dst := some 53, op := Op.slice 22 (Operand.tmp 51) (some (Operand.tmp 52)) none none, type := 22, pos := _, after := #[{ on := 11, ground := Ground.data }, { on := 12, ground := Ground.data }], guard := none }) (v := .slice (some a7) (n - k) (c - k)) rfl (by kernel_rfl) (by kernel_rfl) (by kernel_rfl) (by kernel_rfl) (fun _ _ _ h => h) (Or.inl ⟨by rfl, ?_⟩) hS ?_
              · (intro w' hSw; obtain ⟨m0, m1⟩ := hSw; go_simp; exact E7.out)
              try simp only [Act.put, List.setIfInBounds_toArray, List.set_cons_zero, List.set_cons_succ]
              refine wpAnyM_ready (rs := [4, 9]) (by kernel_rfl) (by simp) ?_
              refine AllReadyM.cons (o := { dst := some 44, op := Op.call { callee := Callee.builtin Builtin.append, args := #[Operand.tmp 40, Operand.tmp 43], argTypes := #[22, 22] }, type := 22, pos := _, after := #[{ on := 0, ground := Ground.data }, { on := 3, ground := Ground.data }], guard := none }) rfl (fun K hK => ?_) (AllReadyM.cons (o := { dst := some 49, op := Op.buildSlice 22 1 #[(0, Operand.tmp 48)], type := 22, pos := _, after := #[{ on := 8, ground := Ground.data }], guard := none }) rfl (fun K hK => ?_) AllReadyM.nil)
              · have HK9' : Hid (∀ a w, _ → K a w) := hK
                clear hK
                obtain ⟨v1, w6, hr1, ho1, hb6, -⟩ := HA1.out _ (.slice none 0 0) hbD (OwnR.nil _ _)
                refine step_appR rfl _ _ _ rfl _ _ rfl rfl hr1 ?_
                refine HK9'.out _ _ ⟨fun _ => HS.out _ hb6, ?_⟩
                clear HK9' K
                try simp only [Act.put, List.setIfInBounds_toArray, List.set_cons_zero, List.set_cons_succ]
                refine wpAnyM_ready (rs := [9]) (by kernel_rfl) (by simp) ?_
                refine AllReadyM.cons (o := { dst := some 49, op := Op.buildSlice 22 1 #[(0, Operand.tmp 48)], type := 22, pos := _, after := #[{ on := 8, ground := Ground.data }], guard := none }) rfl (fun K hK => ?_) AllReadyM.nil
                have HK9 : Hid (∀ a w, _ → K a w) := hK
                clear hK
                go_simp
                have hb6' : Below wq.heap.size wq (w6.alloc (.cells #[.string x.lo, .string x.hi] 24)) := hb6.alloc hb6.size _
                refine HK9.out _ _ ⟨fun _ => HS.out _ hb6', ?_⟩
                clear HK9 K
                try simp only [Act.put, List.setIfInBounds_toArray, List.set_cons_zero, List.set_cons_succ]
                have ho1' := ho1.below ((Below.refl _ w6).alloc (Nat.le_refl _) (.cells #[.string x.lo, .string x.hi] 24)) (Nat.le_refl _)
                refine wpAnyM_ready (rs := [10]) (by kernel_rfl) (by simp) ?_
                refine AllReadyM.cons (o := { dst := some 50, op := Op.call { callee := Callee.builtin Builtin.append, args := #[Operand.tmp 44, Operand.tmp 49], argTypes := #[22, 22] }, type := 22, pos := _, after := #[{ on := 4, ground := Ground.data }, { on := 9, ground := Ground.data }, { on := 4, ground := Ground.chain }], guard := none }) rfl (fun K hK => ?_) AllReadyM.nil
                have HK9 : Hid (∀ a w, _ → K a w) := hK
                clear hK
                obtain ⟨v2, w7, hr2, ho2, hb7⟩ := HA2.out _ v1 w6.heap.size hb6' ho1' (rg_one w6 x)
                refine step_appR rfl _ _ _ rfl _ _ rfl (by go_simp) hr2 ?_
                refine HK9.out _ _ ⟨fun _ => HS.out _ hb7, ?_⟩
                clear HK9 K
                try simp only [Act.put, List.setIfInBounds_toArray, List.set_cons_zero, List.set_cons_succ]
                refine wpAnyM_ready (rs := [14]) (by kernel_rfl) (by simp) ?_
                refine AllReadyM.cons (o := { dst := some 54, op := Op.call { callee := Callee.builtin Builtin.append, args := #[Operand.tmp 50, Operand.tmp 53], argTypes := #[22, 22] }, type := 22, pos := _, after := #[{ on := 10, ground := Ground.data }, { on := 13, ground := Ground.data }, { on := 10, ground := Ground.chain }], guard := none }) rfl (fun K hK => ?_) AllReadyM.nil
                have HK9 : Hid (∀ a w, _ → K a w) := hK
                clear hK
                obtain ⟨v3, w8, hr3, ho3, hb8, -⟩ := HA3.out _ v2 hb7 ho2
                refine step_appR rfl _ _ _ rfl _ _ rfl rfl hr3 ?_
                refine HK9.out _ _ ⟨fun _ => HS.out _ hb8, ?_⟩
                clear HK9 K
                try simp only [Act.put, List.setIfInBounds_toArray, List.set_cons_zero, List.set_cons_succ]
                refine wpAnyM_ready (rs := [15]) (by kernel_rfl) (by simp) ?_
                refine AllReadyM.cons (o := { dst := some 6, op := Op.assign (Operand.tmp 54), type := 22, pos := _, after := #[{ on := 14, ground := Ground.data }, { on := 14, ground := Ground.chain }, { on := 0, ground := Ground.phase }, { on := 1, ground := Ground.phase }, { on := 2, ground := Ground.phase }, { on := 3, ground := Ground.phase }, { on := 4, ground := Ground.phase }, { on := 5, ground := Ground.phase }, { on := 6, ground := Ground.phase }, { on := 7, ground := Ground.phase }, { on := 8, ground := Ground.phase }, { on := 9, ground := Ground.phase }, { on := 10, ground := Ground.phase }, { on := 11, ground := Ground.phase }, { on := 12, ground := Ground.phase }, { on := 13, ground := Ground.phase }, { on := 14, ground := Ground.phase }], guard := none }) rfl (fun K hK => ?_) AllReadyM.nil
                have HK9 : Hid (∀ a w, _ → K a w) := hK
                clear hK
                go_simp
                refine HK9.out _ _ ⟨fun h => absurd h (by omega), ?_⟩
                clear HK9 K
                try simp only [Act.put, List.setIfInBounds_toArray, List.set_cons_zero, List.set_cons_succ]
                refine wpAnyM_done (by kernel_rfl) ?_ _
                obtain ⟨q9, n9, c9, hv9, hp9⟩ := ho3.pi
                have HP10 : Hid (Pi w8 q9 n9 c9 ((Ky.full (l.take (j + 1))).foldl Ky.ins [])) := by
                  rw [Hid, HM2.out]
                  unfold Ky.ins
                  rw [HK9.out]
                  simpa using hp9
                have HN9 : Hid (n9 ≤ j + 1) := by
                  have h1 := hp9.len
                  have h2 := HP9.out.len
                  rw [Hid, ← h1]
                  simp
                  omega
                have HW10 : Hid (Below w.heap.size w w8) := HW9.out.trans (hb8.mono HW9.out.size)
                subst hv9
                clear ho3 hp9 hb8 hS
                go_wp2
                go_roundw
                case rel => exact ⟨j + 1, q9, n9, c9, _, by omega, HN9.out, by go_num, rfl, HP10, rfl, HW10⟩
                case measure => simp [intOf]; omega
              · have HK9' : Hid (∀ a w, _ → K a w) := hK
                clear hK
                go_simp
                have hbE : Below wq.heap.size wq (wq.drew.alloc (.cells #[.string x.lo, .string x.hi] 24)) := hbD.alloc (Nat.le_refl _) _
                refine HK9'.out _ _ ⟨fun _ => HS.out _ hbE, ?_⟩
                clear HK9' K
                try simp only [Act.put, List.setIfInBounds_toArray, List.set_cons_zero, List.set_cons_succ]
                refine wpAnyM_ready (rs := [4]) (by kernel_rfl) (by simp) ?_
                refine AllReadyM.cons (o := { dst := some 44, op := Op.call { callee := Callee.builtin Builtin.append, args := #[Operand.tmp 40, Operand.tmp 43], argTypes := #[22, 22] }, type := 22, pos := _, after := #[{ on := 0, ground := Ground.data }, { on := 3, ground := Ground.data }], guard := none }) rfl (fun K hK => ?_) AllReadyM.nil
                have HK9 : Hid (∀ a w, _ → K a w) := hK
                clear hK
                obtain ⟨v1, w6, hr1, ho1, hb6, hb6E⟩ := HA1.out _ (.slice none 0 0) hbE (OwnR.nil _ _)
                refine step_appR rfl _ _ _ rfl _ _ rfl rfl hr1 ?_
                refine HK9.out _ _ ⟨fun _ => HS.out _ hb6, ?_⟩
                clear HK9 K
                try simp only [Act.put, List.setIfInBounds_toArray, List.set_cons_zero, List.set_cons_succ]
                have hent : Rgs w6 (some ⟨wq.heap.size, 0, none⟩) [x] := (rg_one wq.drew x).below (hb6E rfl) (Nat.le_refl _)
                refine wpAnyM_ready (rs := [10]) (by kernel_rfl) (by simp) ?_
                refine AllReadyM.cons (o := { dst := some 50, op := Op.call { callee := Callee.builtin Builtin.append, args := #[Operand.tmp 44, Operand.tmp 49], argTypes := #[22, 22] }, type := 22, pos := _, after := #[{ on := 4, ground := Ground.data }, { on := 9, ground := Ground.data }, { on := 4, ground := Ground.chain }], guard := none }) rfl (fun K hK => ?_) AllReadyM.nil
                have HK9 : Hid (∀ a w, _ → K a w) := hK
                clear hK
                obtain ⟨v2, w7, hr2, ho2, hb7⟩ := HA2.out _ v1 wq.heap.size hb6 ho1 hent
                refine step_appR rfl _ _ _ rfl _ _ rfl (by go_simp) hr2 ?_
                refine HK9.out _ _ ⟨fun _ => HS.out _ hb7, ?_⟩
                clear HK9 K
                try simp only [Act.put, List.setIfInBounds_toArray, List.set_cons_zero, List.set_cons_succ]
                refine wpAnyM_ready (rs := [14]) (by kernel_rfl) (by simp) ?_
                refine AllReadyM.cons (o := { dst := some 54, op := Op.call { callee := Callee.builtin Builtin.append, args := #[Operand.tmp 50, Operand.tmp 53], argTypes := #[22, 22] }, type := 22, pos := _, after := #[{ on := 10, ground := Ground.data }, { on := 13, ground := Ground.data }, { on := 10, ground := Ground.chain }], guard := none }) rfl (fun K hK => ?_) AllReadyM.nil
                have HK9 : Hid (∀ a w, _ → K a w) := hK
                clear hK
                obtain ⟨v3, w8, hr3, ho3, hb8, -⟩ := HA3.out _ v2 hb7 ho2
                refine step_appR rfl _ _ _ rfl _ _ rfl rfl hr3 ?_
                refine HK9.out _ _ ⟨fun _ => HS.out _ hb8, ?_⟩
                clear HK9 K
                try simp only [Act.put, List.setIfInBounds_toArray, List.set_cons_zero, List.set_cons_succ]
                refine wpAnyM_ready (rs := [15]) (by kernel_rfl) (by simp) ?_
                refine AllReadyM.cons (o := { dst := some 6, op := Op.assign (Operand.tmp 54), type := 22, pos := _, after := #[{ on := 14, ground := Ground.data }, { on := 14, ground := Ground.chain }, { on := 0, ground := Ground.phase }, { on := 1, ground := Ground.phase }, { on := 2, ground := Ground.phase }, { on := 3, ground := Ground.phase }, { on := 4, ground := Ground.phase }, { on := 5, ground := Ground.phase }, { on := 6, ground := Ground.phase }, { on := 7, ground := Ground.phase }, { on := 8, ground := Ground.phase }, { on := 9, ground := Ground.phase }, { on := 10, ground := Ground.phase }, { on := 11, ground := Ground.phase }, { on := 12, ground := Ground.phase }, { on := 13, ground := Ground.phase }, { on := 14, ground := Ground.phase }], guard := none }) rfl (fun K hK => ?_) AllReadyM.nil
                have HK9 : Hid (∀ a w, _ → K a w) := hK
                clear hK
                go_simp
                refine HK9.out _ _ ⟨fun h => absurd h (by omega), ?_⟩
                clear HK9 K
                try simp only [Act.put, List.setIfInBounds_toArray, List.set_cons_zero, List.set_cons_succ]
                refine wpAnyM_done (by kernel_rfl) ?_ _
                obtain ⟨q9, n9, c9, hv9, hp9⟩ := ho3.pi
                have HP10 : Hid (Pi w8 q9 n9 c9 ((Ky.full (l.take (j + 1))).foldl Ky.ins [])) := by
                  rw [Hid, HM2.out]
                  unfold Ky.ins
                  rw [HK9.out]
                  simpa using hp9
                have HN9 : Hid (n9 ≤ j + 1) := by
                  have h1 := hp9.len
                  have h2 := HP9.out.len
                  rw [Hid, ← h1]
                  simp
                  omega
                have HW10 : Hid (Below w.heap.size w w8) := HW9.out.trans (hb8.mono HW9.out.size)
                subst hv9
                clear ho3 hp9 hb8 hS
                go_wp2
                go_roundw
                case rel => exact ⟨j + 1, q9, n9, c9, _, by omega, HN9.out, by go_num, rfl, HP10, rfl, HW10⟩
                case measure => simp [intOf]; omega
            | false =>
              have HF2 : Hid (k + 1 ≤ Ky.lead x m) := by
                have h1 := HK.out
                rcases Nat.eq_or_lt_of_le h1 with h | h
                · have hkl := (List.getElem?_eq_some_iff.1 HY.out).1
                  have h3 : Ky.lt x.lo (m[Ky.lead x m]'(by omega)).lo = true := List.findIdx_getElem (p := fun y : Rg => Ky.lt x.lo y.lo) (xs := m) (w := by show Ky.lead x m < _; omega)
                  have h4 : m[Ky.lead x m]'(by omega) = y := by
                    have := HY.out
                    rw [h, List.getElem?_eq_getElem (by omega)] at this
                    exact Option.some.inj this
                  rw [h4, hq] at h3
                  cases h3
                · exact h
              cases hle1 : Op.bytesLess y.lo.toList x.lo.toList with
              | true =>
                clear hq
                go_wp2_with fail
                go_quiet (fail)
                have HF3 : Hid (Below w2.heap.size w2 (wr.drewN nq)) := below_drewN HB.out nq
                go_wp2
                go_roundw
                case rel => exact ⟨k + 1, by omega, by go_num, HF2, HF3⟩
                case measure => simp [intOf]; omega
              | false =>
                have hle2 : (y.lo.toList == x.lo.toList) = true := by
                  rw [Ky.lt_total (show Ky.lt y.lo x.lo = false from hle1) hq]
                  simp
                clear hq
                go_wp2_with fail
                go_quiet (fail)
                have HF3 : Hid (Below w2.heap.size w2 (wr.drewN nq)) := below_drewN HB.out nq
                go_wp2
                go_roundw
                case rel => exact ⟨k + 1, by omega, by go_num, HF2, HF3⟩
                case measure => simp [intOf]; omega
          · have hli2 : ¬ (k : Int) < (n : Int) := by omega
            have hli3 : decide (k < n) = false := by simp [hkn]
            obtain rfl : k = n := by omega
            have HK9 : Hid (Ky.lead x m = k) := by
              have h1 := HK.out
              have h2 : Ky.lead x m ≤ m.length := List.findIdx_le_length
              have h3 := HP3.out.len
              unfold Hid
              omega
            go_wp2_with fail
            go_quiet (fail)
            have HP9 : Hid (Pi (wr.drewN nq) q k c m) := HP3.out.below (below_drewN (Below.refl _ _) nq)
            have HW9 : Hid (Below w.heap.size w (wr.drewN nq)) := below_drewN HWr.out nq
            generalize wr.drewN nq = wq at HW9 HP9 ⊢
            clear x0 x1 HP3 HWr HB HK HP2 HW2 hli2 hli3
            cases q with
            | none =>
              obtain ⟨rfl, rfl⟩ := HP9.out.nil rfl
              have HREST : Hid (∀ W, Below wq.heap.size wq W → Rgs W none (m.drop 0)) := fun W hW => (HP9.out.below hW).rgs
              go_wp2_with fail
              have HS : Hid (∀ w', Below wq.heap.size wq w' → w'.cell? ⟨b, o + j * 2, none⟩ = some (.string x.lo) ∧ w'.cell? ⟨b, o + j * 2 + 1, none⟩ = some (.string x.hi)) := fun w' hW => HC.out w' (HW9.out.trans (hW.mono HW9.out.size))
              have HA1 : Hid _ := app_oneR (w0 := wq) (B0 := 0) (Nat.zero_le _) (l := []) (l2 := m.take 0) (p := none) (m := 0) (c := 0) (by rw [List.length_take]; have := HP9.out.len; omega) (fun W' hW' => (HP9.out.below hW').rgs.take 0) (fun h => ⟨rfl, rfl⟩) (by first | (simp; done) | (simp; omega))
              have HA2 : Hid _ := app_entryR (w0 := wq) (l := [] ++ m.take 0) (e := x) (by have := HP9.out.len; first | (simp; done) | (simp; omega))
              have HA3 : Hid _ := app_oneR (w0 := wq) (B0 := 0) (Nat.zero_le _) (l := [] ++ m.take 0 ++ [x]) (l2 := m.drop 0) (p := none) (m := (0 - 0)) (c := 0) (by rw [List.length_drop, HP9.out.len]) (fun W' hW' => HREST.out W' hW') (fun h => ⟨rfl, rfl⟩) (by have := HP9.out.len; first | (simp; done) | (simp; omega))
              have hS := HS.out wq.drew (Below.refl _ _).drew
              have hbD : Below wq.heap.size wq wq.drew := (Below.refl _ _).drew
              refine wp_region_mid (S := (fun w' => w'.cell? ⟨b, o + j * 2, none⟩ = some (.string x.lo) ∧ w'.cell? ⟨b, o + j * 2 + 1, none⟩ = some (.string x.hi))) 15 (by kernel_rfl) ?_
              refine wpAnyM_take (i := 0) [] (oi := { dst := some 40, op := Op.move (Operand.tmp 6), type := 22, pos := _, after := #[], guard := none }) (v := .slice none 0 0) rfl (by kernel_rfl) (by kernel_rfl) (by kernel_rfl) (by kernel_rfl) (fun _ _ _ h => h) (Or.inl ⟨by rfl, ?_⟩) hS ?_
              · (intro w' hSw; obtain ⟨m0, m1⟩ := hSw; go_simp; try with_reducible rfl)
              try simp only [Act.put, List.setIfInBounds_toArray, List.set_cons_zero, List.set_cons_succ]
              refine wpAnyM_take (i := 1) [] (oi := { dst := some 41, op := Op.move (Operand.tmp 3), type := 22, pos := _, after := #[], guard := none }) (v := .slice none 0 0) rfl (by kernel_rfl) (by kernel_rfl) (by kernel_rfl) (by kernel_rfl) (fun _ _ _ h => h) (Or.inl ⟨by rfl, ?_⟩) hS ?_
              · (intro w' hSw; obtain ⟨m0, m1⟩ := hSw; go_simp; try with_reducible rfl)
              try simp only [Act.put, List.setIfInBounds_toArray, List.set_cons_zero, List.set_cons_succ]
              refine wpAnyM_take (i := 2) [] (oi := { dst := some 42, op := Op.move (Operand.tmp 5), type := 3, pos := _, after := #[], guard := none }) (v := .int .i64 (0 : Int)) rfl (by kernel_rfl) (by kernel_rfl) (by kernel_rfl) (by kernel_rfl) (fun _ _ _ h => h) (Or.inl ⟨by rfl, ?_⟩) hS ?_
              · (intro w' hSw; obtain ⟨m0, m1⟩ := hSw; go_simp; try with_reducible rfl)
              try simp only [Act.put, List.setIfInBounds_toArray, List.set_cons_zero, List.set_cons_succ]
              refine wpAnyM_take (i := 3) [] (oi := { dst := some 43, op := Op.slice 22 (Operand.tmp 41) none (some (Operand.tmp 42)) none, type := 22, pos := _, after := #[{ on := 1, ground := Ground.data }, { on := 2, ground := Ground.data }], guard := none }) (v := .slice none 0 0) rfl (by kernel_rfl) (by kernel_rfl) (by kernel_rfl) (by kernel_rfl) (fun _ _ _ h => h) (Or.inl ⟨by rfl, ?_⟩) hS ?_
              · (intro w' hSw; obtain ⟨m0, m1⟩ := hSw; go_simp; try with_reducible rfl)
              try simp only [Act.put, List.setIfInBounds_toArray, List.set_cons_zero, List.set_cons_succ]
              refine wpAnyM_take (i := 5) [] (oi := { dst := some 45, op := Op.move (Operand.tmp 0), type := 22, pos := _, after := #[], guard := none }) (v := .slice (some ⟨b, o, none⟩) len cap) rfl (by kernel_rfl) (by kernel_rfl) (by kernel_rfl) (by kernel_rfl) (fun _ _ _ h => h) (Or.inl ⟨by rfl, ?_⟩) hS ?_
              · (intro w' hSw; obtain ⟨m0, m1⟩ := hSw; go_simp; try with_reducible rfl)
              try simp only [Act.put, List.setIfInBounds_toArray, List.set_cons_zero, List.set_cons_succ]
              refine wpAnyM_take (i := 6) [] (oi := { dst := some 46, op := Op.move (Operand.tmp 4), type := 3, pos := _, after := #[], guard := none }) (v := .int .i64 (j : Int)) rfl (by kernel_rfl) (by kernel_rfl) (by kernel_rfl) (by kernel_rfl) (fun _ _ _ h => h) (Or.inl ⟨by rfl, ?_⟩) hS ?_
              · (intro w' hSw; obtain ⟨m0, m1⟩ := hSw; go_simp; try with_reducible rfl)
              try simp only [Act.put, List.setIfInBounds_toArray, List.set_cons_zero, List.set_cons_succ]
              refine wpAnyM_take (i := 7) [] (oi := { dst := some 47, op := Op.indexAddr 22 (Operand.tmp 45) (Operand.tmp 46), type := 0, pos := _, after := #[{ on := 5, ground := Ground.data }, { on := 6, ground := Ground.data }], guard := none }) (v := .pointer (some ⟨b, o + j * 2, none⟩)) rfl (by kernel_rfl) (by kernel_rfl) (by kernel_rfl) (by kernel_rfl) (fun _ _ _ h => h) (Or.inl ⟨by rfl, ?_⟩) hS ?_
              · (intro w' hSw; obtain ⟨m0, m1⟩ := hSw; go_simp; try with_reducible rfl)
              try simp only [Act.put, List.setIfInBounds_toArray, List.set_cons_zero, List.set_cons_succ]
              refine wpAnyM_take (i := 8) [] (oi := { dst := some 48, op := Op.load 24 (Operand.tmp 47), type := 24, pos := _, after := #[{ on := 7, ground := Ground.data }], guard := none }) (v := .agg #[.string x.lo, .string x.hi]) rfl (by kernel_rfl) (by kernel_rfl) (by kernel_rfl) (by kernel_rfl) (fun _ _ _ h => h) (Or.inl ⟨by rfl, ?_⟩) hS ?_
              · (intro w' hSw; obtain ⟨m0, m1⟩ := hSw; go_simp; try with_reducible rfl)
              try simp only [Act.put, List.setIfInBounds_toArray, List.set_cons_zero, List.set_cons_succ]
              refine wpAnyM_take (i := 11) [] (oi := { dst := some 51, op := Op.move (Operand.tmp 3), type := 22, pos := _, after := #[], guard := none }) (v := .slice none 0 0) rfl (by kernel_rfl) (by kernel_rfl) (by kernel_rfl) (by kernel_rfl) (fun _ _ _ h => h) (Or.inl ⟨by rfl, ?_⟩) hS ?_
              · (intro w' hSw; obtain ⟨m0, m1⟩ := hSw; go_simp; try with_reducible rfl)
              try simp only [Act.put, List.setIfInBounds_toArray, List.set_cons_zero, List.set_cons_succ]
              refine wpAnyM_take (i := 12) [] (oi := { dst := some 52, op := Op.move (Operand.tmp 5), type := 3, pos := _, after := #[], guard := none }) (v := .int .i64 (0 : Int)) rfl (by kernel_rfl) (by kernel_rfl) (by kernel_rfl) (by kernel_rfl) (fun _ _ _ h => h) (Or.inl ⟨by rfl, ?_⟩) hS ?_
              · (intro w' hSw; obtain ⟨m0, m1⟩ := hSw; go_simp; try with_reducible rfl)
              try simp only [Act.put, List.setIfInBounds_toArray, List.set_cons_zero, List.set_cons_succ]
              refine wpAnyM_take (i := 13) [] (oi := { dst := some 53, op := Op.slice 22 (Operand.tmp 51) (some (Operand.tmp 52)) none none, type := 22, pos := _, after := #[{ on := 11, ground := Ground.data }, { on := 12, ground := Ground.data }], guard := none }) (v := .slice none (0 - 0) 0) rfl (by kernel_rfl) (by kernel_rfl) (by kernel_rfl) (by kernel_rfl) (fun _ _ _ h => h) (Or.inl ⟨by rfl, ?_⟩) hS ?_
              · (intro w' hSw; obtain ⟨m0, m1⟩ := hSw; go_simp; try with_reducible rfl)
              try simp only [Act.put, List.setIfInBounds_toArray, List.set_cons_zero, List.set_cons_succ]
              refine wpAnyM_ready (rs := [4, 9]) (by kernel_rfl) (by simp) ?_
              refine AllReadyM.cons (o := { dst := some 44, op := Op.call { callee := Callee.builtin Builtin.append, args := #[Operand.tmp 40, Operand.tmp 43], argTypes := #[22, 22] }, type := 22, pos := _, after := #[{ on := 0, ground := Ground.data }, { on := 3, ground := Ground.data }], guard := none }) rfl (fun K hK => ?_) (AllReadyM.cons (o := { dst := some 49, op := Op.buildSlice 22 1 #[(0, Operand.tmp 48)], type := 22, pos := _, after := #[{ on := 8, ground := Ground.data }], guard := none }) rfl (fun K hK => ?_) AllReadyM.nil)
              · have HK9' : Hid (∀ a w, _ → K a w) := hK
                clear hK
                obtain ⟨v1, w6, hr1, ho1, hb6, -⟩ := HA1.out _ (.slice none 0 0) hbD (OwnR.nil _ _)
                refine step_appR rfl _ _ _ rfl _ _ rfl rfl hr1 ?_
                refine HK9'.out _ _ ⟨fun _ => HS.out _ hb6, ?_⟩
                clear HK9' K
                try simp only [Act.put, List.setIfInBounds_toArray, List.set_cons_zero, List.set_cons_succ]
                refine wpAnyM_ready (rs := [9]) (by kernel_rfl) (by simp) ?_
                refine AllReadyM.cons (o := { dst := some 49, op := Op.buildSlice 22 1 #[(0, Operand.tmp 48)], type := 22, pos := _, after := #[{ on := 8, ground := Ground.data }], guard := none }) rfl (fun K hK => ?_) AllReadyM.nil
                have HK9 : Hid (∀ a w, _ → K a w) := hK
                clear hK
                go_simp
                have hb6' : Below wq.heap.size wq (w6.alloc (.cells #[.string x.lo, .string x.hi] 24)) := hb6.alloc hb6.size _
                refine HK9.out _ _ ⟨fun _ => HS.out _ hb6', ?_⟩
                clear HK9 K
                try simp only [Act.put, List.setIfInBounds_toArray, List.set_cons_zero, List.set_cons_succ]
                have ho1' := ho1.below ((Below.refl _ w6).alloc (Nat.le_refl _) (.cells #[.string x.lo, .string x.hi] 24)) (Nat.le_refl _)
                refine wpAnyM_ready (rs := [10]) (by kernel_rfl) (by simp) ?_
                refine AllReadyM.cons (o := { dst := some 50, op := Op.call { callee := Callee.builtin Builtin.append, args := #[Operand.tmp 44, Operand.tmp 49], argTypes := #[22, 22] }, type := 22, pos := _, after := #[{ on := 4, ground := Ground.data }, { on := 9, ground := Ground.data }, { on := 4, ground := Ground.chain }], guard := none }) rfl (fun K hK => ?_) AllReadyM.nil
                have HK9 : Hid (∀ a w, _ → K a w) := hK
                clear hK
                obtain ⟨v2, w7, hr2, ho2, hb7⟩ := HA2.out _ v1 w6.heap.size hb6' ho1' (rg_one w6 x)
                refine step_appR rfl _ _ _ rfl _ _ rfl (by go_simp) hr2 ?_
                refine HK9.out _ _ ⟨fun _ => HS.out _ hb7, ?_⟩
                clear HK9 K
                try simp only [Act.put, List.setIfInBounds_toArray, List.set_cons_zero, List.set_cons_succ]
                refine wpAnyM_ready (rs := [14]) (by kernel_rfl) (by simp) ?_
                refine AllReadyM.cons (o := { dst := some 54, op := Op.call { callee := Callee.builtin Builtin.append, args := #[Operand.tmp 50, Operand.tmp 53], argTypes := #[22, 22] }, type := 22, pos := _, after := #[{ on := 10, ground := Ground.data }, { on := 13, ground := Ground.data }, { on := 10, ground := Ground.chain }], guard := none }) rfl (fun K hK => ?_) AllReadyM.nil
                have HK9 : Hid (∀ a w, _ → K a w) := hK
                clear hK
                obtain ⟨v3, w8, hr3, ho3, hb8, -⟩ := HA3.out _ v2 hb7 ho2
                refine step_appR rfl _ _ _ rfl _ _ rfl rfl hr3 ?_
                refine HK9.out _ _ ⟨fun _ => HS.out _ hb8, ?_⟩
                clear HK9 K
                try simp only [Act.put, List.setIfInBounds_toArray, List.set_cons_zero, List.set_cons_succ]
                refine wpAnyM_ready (rs := [15]) (by kernel_rfl) (by simp) ?_
                refine AllReadyM.cons (o := { dst := some 6, op := Op.assign (Operand.tmp 54), type := 22, pos := _, after := #[{ on := 14, ground := Ground.data }, { on := 14, ground := Ground.chain }, { on := 0, ground := Ground.phase }, { on := 1, ground := Ground.phase }, { on := 2, ground := Ground.phase }, { on := 3, ground := Ground.phase }, { on := 4, ground := Ground.phase }, { on := 5, ground := Ground.phase }, { on := 6, ground := Ground.phase }, { on := 7, ground := Ground.phase }, { on := 8, ground := Ground.phase }, { on := 9, ground := Ground.phase }, { on := 10, ground := Ground.phase }, { on := 11, ground := Ground.phase }, { on := 12, ground := Ground.phase }, { on := 13, ground := Ground.phase }, { on := 14, ground := Ground.phase }], guard := none }) rfl (fun K hK => ?_) AllReadyM.nil
                have HK9 : Hid (∀ a w, _ → K a w) := hK
                clear hK
                go_simp
                refine HK9.out _ _ ⟨fun h => absurd h (by omega), ?_⟩
                clear HK9 K
                try simp only [Act.put, List.setIfInBounds_toArray, List.set_cons_zero, List.set_cons_succ]
                refine wpAnyM_done (by kernel_rfl) ?_ _
                obtain ⟨q9, n9, c9, hv9, hp9⟩ := ho3.pi
                have HP10 : Hid (Pi w8 q9 n9 c9 ((Ky.full (l.take (j + 1))).foldl Ky.ins [])) := by
                  rw [Hid, HM2.out]
                  unfold Ky.ins
                  rw [HK9.out]
                  simpa using hp9
                have HN9 : Hid (n9 ≤ j + 1) := by
                  have h1 := hp9.len
                  have h2 := HP9.out.len
                  rw [Hid, ← h1]
                  simp
                  omega
                have HW10 : Hid (Below w.heap.size w w8) := HW9.out.trans (hb8.mono HW9.out.size)
                subst hv9
                clear ho3 hp9 hb8 hS
                go_wp2
                go_roundw
                case rel => exact ⟨j + 1, q9, n9, c9, _, by omega, HN9.out, by go_num, rfl, HP10, rfl, HW10⟩
                case measure => simp [intOf]; omega
              · have HK9' : Hid (∀ a w, _ → K a w) := hK
                clear hK
                go_simp
                have hbE : Below wq.heap.size wq (wq.drew.alloc (.cells #[.string x.lo, .string x.hi] 24)) := hbD.alloc (Nat.le_refl _) _
                refine HK9'.out _ _ ⟨fun _ => HS.out _ hbE, ?_⟩
                clear HK9' K
                try simp only [Act.put, List.setIfInBounds_toArray, List.set_cons_zero, List.set_cons_succ]
                refine wpAnyM_ready (rs := [4]) (by kernel_rfl) (by simp) ?_
                refine AllReadyM.cons (o := { dst := some 44, op := Op.call { callee := Callee.builtin Builtin.append, args := #[Operand.tmp 40, Operand.tmp 43], argTypes := #[22, 22] }, type := 22, pos := _, after := #[{ on := 0, ground := Ground.data }, { on := 3, ground := Ground.data }], guard := none }) rfl (fun K hK => ?_) AllReadyM.nil
                have HK9 : Hid (∀ a w, _ → K a w) := hK
                clear hK
                obtain ⟨v1, w6, hr1, ho1, hb6, hb6E⟩ := HA1.out _ (.slice none 0 0) hbE (OwnR.nil _ _)
                refine step_appR rfl _ _ _ rfl _ _ rfl rfl hr1 ?_
                refine HK9.out _ _ ⟨fun _ => HS.out _ hb6, ?_⟩
                clear HK9 K
                try simp only [Act.put, List.setIfInBounds_toArray, List.set_cons_zero, List.set_cons_succ]
                have hent : Rgs w6 (some ⟨wq.heap.size, 0, none⟩) [x] := (rg_one wq.drew x).below (hb6E rfl) (Nat.le_refl _)
                refine wpAnyM_ready (rs := [10]) (by kernel_rfl) (by simp) ?_
                refine AllReadyM.cons (o := { dst := some 50, op := Op.call { callee := Callee.builtin Builtin.append, args := #[Operand.tmp 44, Operand.tmp 49], argTypes := #[22, 22] }, type := 22, pos := _, after := #[{ on := 4, ground := Ground.data }, { on := 9, ground := Ground.data }, { on := 4, ground := Ground.chain }], guard := none }) rfl (fun K hK => ?_) AllReadyM.nil
                have HK9 : Hid (∀ a w, _ → K a w) := hK
                clear hK
                obtain ⟨v2, w7, hr2, ho2, hb7⟩ := HA2.out _ v1 wq.heap.size hb6 ho1 hent
                refine step_appR rfl _ _ _ rfl _ _ rfl (by go_simp) hr2 ?_
                refine HK9.out _ _ ⟨fun _ => HS.out _ hb7, ?_⟩
                clear HK9 K
                try simp only [Act.put, List.setIfInBounds_toArray, List.set_cons_zero, List.set_cons_succ]
                refine wpAnyM_ready (rs := [14]) (by kernel_rfl) (by simp) ?_
                refine AllReadyM.cons (o := { dst := some 54, op := Op.call { callee := Callee.builtin Builtin.append, args := #[Operand.tmp 50, Operand.tmp 53], argTypes := #[22, 22] }, type := 22, pos := _, after := #[{ on := 10, ground := Ground.data }, { on := 13, ground := Ground.data }, { on := 10, ground := Ground.chain }], guard := none }) rfl (fun K hK => ?_) AllReadyM.nil
                have HK9 : Hid (∀ a w, _ → K a w) := hK
                clear hK
                obtain ⟨v3, w8, hr3, ho3, hb8, -⟩ := HA3.out _ v2 hb7 ho2
                refine step_appR rfl _ _ _ rfl _ _ rfl rfl hr3 ?_
                refine HK9.out _ _ ⟨fun _ => HS.out _ hb8, ?_⟩
                clear HK9 K
                try simp only [Act.put, List.setIfInBounds_toArray, List.set_cons_zero, List.set_cons_succ]
                refine wpAnyM_ready (rs := [15]) (by kernel_rfl) (by simp) ?_
                refine AllReadyM.cons (o := { dst := some 6, op := Op.assign (Operand.tmp 54), type := 22, pos := _, after := #[{ on := 14, ground := Ground.data }, { on := 14, ground := Ground.chain }, { on := 0, ground := Ground.phase }, { on := 1, ground := Ground.phase }, { on := 2, ground := Ground.phase }, { on := 3, ground := Ground.phase }, { on := 4, ground := Ground.phase }, { on := 5, ground := Ground.phase }, { on := 6, ground := Ground.phase }, { on := 7, ground := Ground.phase }, { on := 8, ground := Ground.phase }, { on := 9, ground := Ground.phase }, { on := 10, ground := Ground.phase }, { on := 11, ground := Ground.phase }, { on := 12, ground := Ground.phase }, { on := 13, ground := Ground.phase }, { on := 14, ground := Ground.phase }], guard := none }) rfl (fun K hK => ?_) AllReadyM.nil
                have HK9 : Hid (∀ a w, _ → K a w) := hK
                clear hK
                go_simp
                refine HK9.out _ _ ⟨fun h => absurd h (by omega), ?_⟩
                clear HK9 K
                try simp only [Act.put, List.setIfInBounds_toArray, List.set_cons_zero, List.set_cons_succ]
                refine wpAnyM_done (by kernel_rfl) ?_ _
                obtain ⟨q9, n9, c9, hv9, hp9⟩ := ho3.pi
                have HP10 : Hid (Pi w8 q9 n9 c9 ((Ky.full (l.take (j + 1))).foldl Ky.ins [])) := by
                  rw [Hid, HM2.out]
                  unfold Ky.ins
                  rw [HK9.out]
                  simpa using hp9
                have HN9 : Hid (n9 ≤ j + 1) := by
                  have h1 := hp9.len
                  have h2 := HP9.out.len
                  rw [Hid, ← h1]
                  simp
                  omega
                have HW10 : Hid (Below w.heap.size w w8) := HW9.out.trans (hb8.mono HW9.out.size)
                subst hv9
                clear ho3 hp9 hb8 hS
                go_wp2
                go_roundw
                case rel => exact ⟨j + 1, q9, n9, c9, _, by omega, HN9.out, by go_num, rfl, HP10, rfl, HW10⟩
                case measure => simp [intOf]; omega
            | some ad =>
              obtain ⟨g, rfl⟩ := HP9.out.at0 _ rfl
              obtain ⟨a7, ha7⟩ : ∃ a7 : Addr, (if c = k then some (⟨g, 0, none⟩ : Addr) else some ⟨g, k * 2, none⟩) = some a7 := by split <;> exact ⟨_, rfl⟩
              have HREST : Hid (∀ W, Below wq.heap.size wq W → Rgs W (some a7) (m.drop k)) := fun W hW => by
                have h1 := HP9.out.len
                have h2 := HP9.out.le
                by_cases hlast : k = k
                · rw [List.drop_of_length_le (by omega)]
                  exact Rgs.nil _ _
                · rw [if_neg (by omega)] at ha7
                  obtain rfl := Option.some.inj ha7
                  have := (HP9.out.below hW).rgs.drop k
                  simpa using this
              have E7 : Hid ((if c = k then some (⟨g, 0, none⟩ : Addr) else some ⟨g, k * 2, none⟩) = some a7) := ha7
              have hnc := HP9.out.le
              have e1 : (k : Int) ≤ (k : Int) := by omega
              have e2 : (k : Int) ≤ (c : Int) := by omega
              have e5 : (0 : Int) ≤ (k : Int) := by omega
              clear ha7
              go_wp2_with fail
              have HS : Hid (∀ w', Below wq.heap.size wq w' → w'.cell? ⟨b, o + j * 2, none⟩ = some (.string x.lo) ∧ w'.cell? ⟨b, o + j * 2 + 1, none⟩ = some (.string x.hi)) := fun w' hW => HC.out w' (HW9.out.trans (hW.mono HW9.out.size))
              have HA1 : Hid _ := app_oneR (w0 := wq) (B0 := 0) (Nat.zero_le _) (l := []) (l2 := m.take k) (p := (some ⟨g, 0, none⟩)) (m := k) (c := c) (by rw [List.length_take]; have := HP9.out.len; omega) (fun W' hW' => (HP9.out.below hW').rgs.take k) (fun h => by cases h) (by first | (simp; done) | (simp; omega))
              have HA2 : Hid _ := app_entryR (w0 := wq) (l := [] ++ m.take k) (e := x) (by have := HP9.out.len; first | (simp; done) | (simp; omega))
              have HA3 : Hid _ := app_oneR (w0 := wq) (B0 := 0) (Nat.zero_le _) (l := [] ++ m.take k ++ [x]) (l2 := m.drop k) (p := (some a7)) (m := 0) (c := (c - k)) (by rw [List.length_drop, HP9.out.len]; omega) (fun W' hW' => HREST.out W' hW') (fun h => by cases h) (by have := HP9.out.len; first | (simp; done) | (simp; omega))
              have hS := HS.out wq.drew (Below.refl _ _).drew
              have hbD : Below wq.heap.size wq wq.drew := (Below.refl _ _).drew
              refine wp_region_mid (S := (fun w' => w'.cell? ⟨b, o + j * 2, none⟩ = some (.string x.lo) ∧ w'.cell? ⟨b, o + j * 2 + 1, none⟩ = some (.string x.hi))) 15 (by kernel_rfl) ?_
              refine wpAnyM_take (i := 0) [] (oi := { dst := some 40, op := Op.move (Operand.tmp 6), type := 22, pos := _, after := #[], guard := none }) (v := .slice none 0 0) rfl (by kernel_rfl) (by kernel_rfl) (by kernel_rfl) (by kernel_rfl) (fun _ _ _ h => h) (Or.inl ⟨by rfl, ?_⟩) hS ?_
              · (intro w' hSw; obtain ⟨m0, m1⟩ := hSw; go_simp; try with_reducible rfl)
              try simp only [Act.put, List.setIfInBounds_toArray, List.set_cons_zero, List.set_cons_succ]
              refine wpAnyM_take (i := 1) [] (oi := { dst := some 41, op := Op.move (Operand.tmp 3), type := 22, pos := _, after := #[], guard := none }) (v := .slice (some ⟨g, 0, none⟩) k c) rfl (by kernel_rfl) (by kernel_rfl) (by kernel_rfl) (by kernel_rfl) (fun _ _ _ h => h) (Or.inl ⟨by rfl, ?_⟩) hS ?_
              · (intro w' hSw; obtain ⟨m0, m1⟩ := hSw; go_simp; try with_reducible rfl)
              try simp only [Act.put, List.setIfInBounds_toArray, List.set_cons_zero, List.set_cons_succ]
              refine wpAnyM_take (i := 2) [] (oi := { dst := some 42, op := Op.move (Operand.tmp 5), type := 3, pos := _, after := #[], guard := none }) (v := .int .i64 (k : Int)) rfl (by kernel_rfl) (by kernel_rfl) (by kernel_rfl) (by kernel_rfl) (fun _ _ _ h => h) (Or.inl ⟨by rfl, ?_⟩) hS ?_
              · (intro w' hSw; obtain ⟨m0, m1⟩ := hSw; go_simp; try with_reducible rfl)
              try simp only [Act.put, List.setIfInBounds_toArray, List.set_cons_zero, List.set_cons_succ]
              refine wpAnyM_take (i := 3) [] (oi := { dst := some 43, op := Op.slice 22 (Operand.tmp 41) none (some (Operand.tmp 42)) none, type := 22, pos := _, after := #[{ on := 1, ground := Ground.data }, { on := 2, ground := Ground.data }], guard := none }) (v := .slice (some ⟨g, 0, none⟩) k c) rfl (by kernel_rfl) (by kernel_rfl) (by kernel_rfl) (by kernel_rfl) (fun _ _ _ h => h) (Or.inl ⟨by rfl, ?_⟩) hS ?_
              · (intro w' hSw; obtain ⟨m0, m1⟩ := hSw; go_simp; try with_reducible rfl)
              try simp only [Act.put, List.setIfInBounds_toArray, List.set_cons_zero, List.set_cons_succ]
              refine wpAnyM_take (i := 5) [] (oi := { dst := some 45, op := Op.move (Operand.tmp 0), type := 22, pos := _, after := #[], guard := none }) (v := .slice (some ⟨b, o, none⟩) len cap) rfl (by kernel_rfl) (by kernel_rfl) (by kernel_rfl) (by kernel_rfl) (fun _ _ _ h => h) (Or.inl ⟨by rfl, ?_⟩) hS ?_
              · (intro w' hSw; obtain ⟨m0, m1⟩ := hSw; go_simp; try with_reducible rfl)
              try simp only [Act.put, List.setIfInBounds_toArray, List.set_cons_zero, List.set_cons_succ]
              refine wpAnyM_take (i := 6) [] (oi := { dst := some 46, op := Op.move (Operand.tmp 4), type := 3, pos := _, after := #[], guard := none }) (v := .int .i64 (j : Int)) rfl (by kernel_rfl) (by kernel_rfl) (by kernel_rfl) (by kernel_rfl) (fun _ _ _ h => h) (Or.inl ⟨by rfl, ?_⟩) hS ?_
              · (intro w' hSw; obtain ⟨m0, m1⟩ := hSw; go_simp; try with_reducible rfl)
              try simp only [Act.put, List.setIfInBounds_toArray, List.set_cons_zero, List.set_cons_succ]
              refine wpAnyM_take (i := 7) [] (oi := { dst := some 47, op := Op.indexAddr 22 (Operand.tmp 45) (Operand.tmp 46), type := 0, pos := _, after := #[{ on := 5, ground := Ground.data }, { on := 6, ground := Ground.data }], guard := none }) (v := .pointer (some ⟨b, o + j * 2, none⟩)) rfl (by kernel_rfl) (by kernel_rfl) (by kernel_rfl) (by kernel_rfl) (fun _ _ _ h => h) (Or.inl ⟨by rfl, ?_⟩) hS ?_
              · (intro w' hSw; obtain ⟨m0, m1⟩ := hSw; go_simp; try with_reducible rfl)
              try simp only [Act.put, List.setIfInBounds_toArray, List.set_cons_zero, List.set_cons_succ]
              refine wpAnyM_take (i := 8) [] (oi := { dst := some 48, op := Op.load 24 (Operand.tmp 47), type := 24, pos := _, after := #[{ on := 7, ground := Ground.data }], guard := none }) (v := .agg #[.string x.lo, .string x.hi]) rfl (by kernel_rfl) (by kernel_rfl) (by kernel_rfl) (by kernel_rfl) (fun _ _ _ h => h) (Or.inl ⟨by rfl, ?_⟩) hS ?_
              · (intro w' hSw; obtain ⟨m0, m1⟩ := hSw; go_simp; try with_reducible rfl)
              try simp only [Act.put, List.setIfInBounds_toArray, List.set_cons_zero, List.set_cons_succ]
              refine wpAnyM_take (i := 11) [] (oi := { dst := some 51, op := Op.move (Operand.tmp 3), type := 22, pos := _, after := #[], guard := none }) (v := .slice (some ⟨g, 0, none⟩) k c) rfl (by kernel_rfl) (by kernel_rfl) (by kernel_rfl) (by kernel_rfl) (fun _ _ _ h => h) (Or.inl ⟨by rfl, ?_⟩) hS ?_
              · (intro w' hSw; obtain ⟨m0, m1⟩ := hSw; go_simp; try with_reducible rfl)
              try simp only [Act.put, List.setIfInBounds_toArray, List.set_cons_zero, List.set_cons_succ]
              refine wpAnyM_take (i := 12) [] (oi := { dst := some 52, op := Op.move (Operand.tmp 5), type := 3, pos := _, after := #[], guard := none }) (v := .int .i64 (k : Int)) rfl (by kernel_rfl) (by kernel_rfl) (by kernel_rfl) (by kernel_rfl) (fun _ _ _ h => h) (Or.inl ⟨by rfl, ?_⟩) hS ?_
              · (intro w' hSw; obtain ⟨m0, m1⟩ := hSw; go_simp; try with_reducible rfl)
              try simp only [Act.put, List.setIfInBounds_toArray, List.set_cons_zero, List.set_cons_succ]
              refine wpAnyM_take (i := 13) [] (oi := { dst := some 53, op := Op.slice 22 (Operand.tmp 51) (some (Operand.tmp 52)) none none, type := 22, pos := _, after := #[{ on := 11, ground := Ground.data }, { on := 12, ground := Ground.data }], guard := none }) (v := .slice (some a7) 0 (c - k)) rfl (by kernel_rfl) (by kernel_rfl) (by kernel_rfl) (by kernel_rfl) (fun _ _ _ h => h) (Or.inl ⟨by rfl, ?_⟩) hS ?_
              · (intro w' hSw; obtain ⟨m0, m1⟩ := hSw; go_simp; exact E7.out)
              try simp only [Act.put, List.setIfInBounds_toArray, List.set_cons_zero, List.set_cons_succ]
              refine wpAnyM_ready (rs := [4, 9]) (by kernel_rfl) (by simp) ?_
              refine AllReadyM.cons (o := { dst := some 44, op := Op.call { callee := Callee.builtin Builtin.append, args := #[Operand.tmp 40, Operand.tmp 43], argTypes := #[22, 22] }, type := 22, pos := _, after := #[{ on := 0, ground := Ground.data }, { on := 3, ground := Ground.data }], guard := none }) rfl (fun K hK => ?_) (AllReadyM.cons (o := { dst := some 49, op := Op.buildSlice 22 1 #[(0, Operand.tmp 48)], type := 22, pos := _, after := #[{ on := 8, ground := Ground.data }], guard := none }) rfl (fun K hK => ?_) AllReadyM.nil)
              · have HK9' : Hid (∀ a w, _ → K a w) := hK
                clear hK
                obtain ⟨v1, w6, hr1, ho1, hb6, -⟩ := HA1.out _ (.slice none 0 0) hbD (OwnR.nil _ _)
                refine step_appR rfl _ _ _ rfl _ _ rfl rfl hr1 ?_
                refine HK9'.out _ _ ⟨fun _ => HS.out _ hb6, ?_⟩
                clear HK9' K
                try simp only [Act.put, List.setIfInBounds_toArray, List.set_cons_zero, List.set_cons_succ]
                refine wpAnyM_ready (rs := [9]) (by kernel_rfl) (by simp) ?_
                refine AllReadyM.cons (o := { dst := some 49, op := Op.buildSlice 22 1 #[(0, Operand.tmp 48)], type := 22, pos := _, after := #[{ on := 8, ground := Ground.data }], guard := none }) rfl (fun K hK => ?_) AllReadyM.nil
                have HK9 : Hid (∀ a w, _ → K a w) := hK
                clear hK
                go_simp
                have hb6' : Below wq.heap.size wq (w6.alloc (.cells #[.string x.lo, .string x.hi] 24)) := hb6.alloc hb6.size _
                refine HK9.out _ _ ⟨fun _ => HS.out _ hb6', ?_⟩
                clear HK9 K
                try simp only [Act.put, List.setIfInBounds_toArray, List.set_cons_zero, List.set_cons_succ]
                have ho1' := ho1.below ((Below.refl _ w6).alloc (Nat.le_refl _) (.cells #[.string x.lo, .string x.hi] 24)) (Nat.le_refl _)
                refine wpAnyM_ready (rs := [10]) (by kernel_rfl) (by simp) ?_
                refine AllReadyM.cons (o := { dst := some 50, op := Op.call { callee := Callee.builtin Builtin.append, args := #[Operand.tmp 44, Operand.tmp 49], argTypes := #[22, 22] }, type := 22, pos := _, after := #[{ on := 4, ground := Ground.data }, { on := 9, ground := Ground.data }, { on := 4, ground := Ground.chain }], guard := none }) rfl (fun K hK => ?_) AllReadyM.nil
                have HK9 : Hid (∀ a w, _ → K a w) := hK
                clear hK
                obtain ⟨v2, w7, hr2, ho2, hb7⟩ := HA2.out _ v1 w6.heap.size hb6' ho1' (rg_one w6 x)
                refine step_appR rfl _ _ _ rfl _ _ rfl (by go_simp) hr2 ?_
                refine HK9.out _ _ ⟨fun _ => HS.out _ hb7, ?_⟩
                clear HK9 K
                try simp only [Act.put, List.setIfInBounds_toArray, List.set_cons_zero, List.set_cons_succ]
                refine wpAnyM_ready (rs := [14]) (by kernel_rfl) (by simp) ?_
                refine AllReadyM.cons (o := { dst := some 54, op := Op.call { callee := Callee.builtin Builtin.append, args := #[Operand.tmp 50, Operand.tmp 53], argTypes := #[22, 22] }, type := 22, pos := _, after := #[{ on := 10, ground := Ground.data }, { on := 13, ground := Ground.data }, { on := 10, ground := Ground.chain }], guard := none }) rfl (fun K hK => ?_) AllReadyM.nil
                have HK9 : Hid (∀ a w, _ → K a w) := hK
                clear hK
                obtain ⟨v3, w8, hr3, ho3, hb8, -⟩ := HA3.out _ v2 hb7 ho2
                refine step_appR rfl _ _ _ rfl _ _ rfl rfl hr3 ?_
                refine HK9.out _ _ ⟨fun _ => HS.out _ hb8, ?_⟩
                clear HK9 K
                try simp only [Act.put, List.setIfInBounds_toArray, List.set_cons_zero, List.set_cons_succ]
                refine wpAnyM_ready (rs := [15]) (by kernel_rfl) (by simp) ?_
                refine AllReadyM.cons (o := { dst := some 6, op := Op.assign (Operand.tmp 54), type := 22, pos := _, after := #[{ on := 14, ground := Ground.data }, { on := 14, ground := Ground.chain }, { on := 0, ground := Ground.phase }, { on := 1, ground := Ground.phase }, { on := 2, ground := Ground.phase }, { on := 3, ground := Ground.phase }, { on := 4, ground := Ground.phase }, { on := 5, ground := Ground.phase }, { on := 6, ground := Ground.phase }, { on := 7, ground := Ground.phase }, { on := 8, ground := Ground.phase }, { on := 9, ground := Ground.phase }, { on := 10, ground := Ground.phase }, { on := 11, ground := Ground.phase }, { on := 12, ground := Ground.phase }, { on := 13, ground := Ground.phase }, { on := 14, ground := Ground.phase }], guard := none }) rfl (fun K hK => ?_) AllReadyM.nil
                have HK9 : Hid (∀ a w, _ → K a w) := hK
                clear hK
                go_simp
                refine HK9.out _ _ ⟨fun h => absurd h (by omega), ?_⟩
                clear HK9 K
                try simp only [Act.put, List.setIfInBounds_toArray, List.set_cons_zero, List.set_cons_succ]
                refine wpAnyM_done (by kernel_rfl) ?_ _
                obtain ⟨q9, n9, c9, hv9, hp9⟩ := ho3.pi
                have HP10 : Hid (Pi w8 q9 n9 c9 ((Ky.full (l.take (j + 1))).foldl Ky.ins [])) := by
                  rw [Hid, HM2.out]
                  unfold Ky.ins
                  rw [HK9.out]
                  simpa using hp9
                have HN9 : Hid (n9 ≤ j + 1) := by
                  have h1 := hp9.len
                  have h2 := HP9.out.len
                  rw [Hid, ← h1]
                  simp
                  omega
                have HW10 : Hid (Below w.heap.size w w8) := HW9.out.trans (hb8.mono HW9.out.size)
                subst hv9
                clear ho3 hp9 hb8 hS
                go_wp2
                go_roundw
                case rel => exact ⟨j + 1, q9, n9, c9, _, by omega, HN9.out, by go_num, rfl, HP10, rfl, HW10⟩
                case measure => simp [intOf]; omega
              · have HK9' : Hid (∀ a w, _ → K a w) := hK
                clear hK
                go_simp
                have hbE : Below wq.heap.size wq (wq.drew.alloc (.cells #[.string x.lo, .string x.hi] 24)) := hbD.alloc (Nat.le_refl _) _
                refine HK9'.out _ _ ⟨fun _ => HS.out _ hbE, ?_⟩
                clear HK9' K
                try simp only [Act.put, List.setIfInBounds_toArray, List.set_cons_zero, List.set_cons_succ]
                refine wpAnyM_ready (rs := [4]) (by kernel_rfl) (by simp) ?_
                refine AllReadyM.cons (o := { dst := some 44, op := Op.call { callee := Callee.builtin Builtin.append, args := #[Operand.tmp 40, Operand.tmp 43], argTypes := #[22, 22] }, type := 22, pos := _, after := #[{ on := 0, ground := Ground.data }, { on := 3, ground := Ground.data }], guard := none }) rfl (fun K hK => ?_) AllReadyM.nil
                have HK9 : Hid (∀ a w, _ → K a w) := hK
                clear hK
                obtain ⟨v1, w6, hr1, ho1, hb6, hb6E⟩ := HA1.out _ (.slice none 0 0) hbE (OwnR.nil _ _)
                refine step_appR rfl _ _ _ rfl _ _ rfl rfl hr1 ?_
                refine HK9.out _ _ ⟨fun _ => HS.out _ hb6, ?_⟩
                clear HK9 K
                try simp only [Act.put, List.setIfInBounds_toArray, List.set_cons_zero, List.set_cons_succ]
                have hent : Rgs w6 (some ⟨wq.heap.size, 0, none⟩) [x] := (rg_one wq.drew x).below (hb6E rfl) (Nat.le_refl _)
                refine wpAnyM_ready (rs := [10]) (by kernel_rfl) (by simp) ?_
                refine AllReadyM.cons (o := { dst := some 50, op := Op.call { callee := Callee.builtin Builtin.append, args := #[Operand.tmp 44, Operand.tmp 49], argTypes := #[22, 22] }, type := 22, pos := _, after := #[{ on := 4, ground := Ground.data }, { on := 9, ground := Ground.data }, { on := 4, ground := Ground.chain }], guard := none }) rfl (fun K hK => ?_) AllReadyM.nil
                have HK9 : Hid (∀ a w, _ → K a w) := hK
                clear hK
                obtain ⟨v2, w7, hr2, ho2, hb7⟩ := HA2.out _ v1 wq.heap.size hb6 ho1 hent
                refine step_appR rfl _ _ _ rfl _ _ rfl (by go_simp) hr2 ?_
                refine HK9.out _ _ ⟨fun _ => HS.out _ hb7, ?_⟩
                clear HK9 K
                try simp only [Act.put, List.setIfInBounds_toArray, List.set_cons_zero, List.set_cons_succ]
                refine wpAnyM_ready (rs := [14]) (by kernel_rfl) (by simp) ?_
                refine AllReadyM.cons (o := { dst := some 54, op := Op.call { callee := Callee.builtin Builtin.append, args := #[Operand.tmp 50, Operand.tmp 53], argTypes := #[22, 22] }, type := 22, pos := _, after := #[{ on := 10, ground := Ground.data }, { on := 13, ground := Ground.data }, { on := 10, ground := Ground.chain }], guard := none }) rfl (fun K hK => ?_) AllReadyM.nil
                have HK9 : Hid (∀ a w, _ → K a w) := hK
                clear hK
                obtain ⟨v3, w8, hr3, ho3, hb8, -⟩ := HA3.out _ v2 hb7 ho2
                refine step_appR rfl _ _ _ rfl _ _ rfl rfl hr3 ?_
                refine HK9.out _ _ ⟨fun _ => HS.out _ hb8, ?_⟩
                clear HK9 K
                try simp only [Act.put, List.setIfInBounds_toArray, List.set_cons_zero, List.set_cons_succ]
                refine wpAnyM_ready (rs := [15]) (by kernel_rfl) (by simp) ?_
                refine AllReadyM.cons (o := { dst := some 6, op := Op.assign (Operand.tmp 54), type := 22, pos := _, after := #[{ on := 14, ground := Ground.data }, { on := 14, ground := Ground.chain }, { on := 0, ground := Ground.phase }, { on := 1, ground := Ground.phase }, { on := 2, ground := Ground.phase }, { on := 3, ground := Ground.phase }, { on := 4, ground := Ground.phase }, { on := 5, ground := Ground.phase }, { on := 6, ground := Ground.phase }, { on := 7, ground := Ground.phase }, { on := 8, ground := Ground.phase }, { on := 9, ground := Ground.phase }, { on := 10, ground := Ground.phase }, { on := 11, ground := Ground.phase }, { on := 12, ground := Ground.phase }, { on := 13, ground := Ground.phase }, { on := 14, ground := Ground.phase }], guard := none }) rfl (fun K hK => ?_) AllReadyM.nil
                have HK9 : Hid (∀ a w, _ → K a w) := hK
                clear hK
                go_simp
                refine HK9.out _ _ ⟨fun h => absurd h (by omega), ?_⟩
                clear HK9 K
                try simp only [Act.put, List.setIfInBounds_toArray, List.set_cons_zero, List.set_cons_succ]
                refine wpAnyM_done (by kernel_rfl) ?_ _
                obtain ⟨q9, n9, c9, hv9, hp9⟩ := ho3.pi
                have HP10 : Hid (Pi w8 q9 n9 c9 ((Ky.full (l.take (j + 1))).foldl Ky.ins [])) := by
                  rw [Hid, HM2.out]
                  unfold Ky.ins
                  rw [HK9.out]
                  simpa using hp9
                have HN9 : Hid (n9 ≤ j + 1) := by
                  have h1 := hp9.len
                  have h2 := HP9.out.len
                  rw [Hid, ← h1]
                  simp
                  omega
                have HW10 : Hid (Below w.heap.size w w8) := HW9.out.trans (hb8.mono HW9.out.size)
                subst hv9
                clear ho3 hp9 hb8 hS
                go_wp2
                go_roundw
                case rel => exact ⟨j + 1, q9, n9, c9, _, by omega, HN9.out, by go_num, rfl, HP10, rfl, HW10⟩
                case measure => simp [intOf]; omega
    · have hli : ¬ (j : Int) < (len : Int) := by omega
      have HMP : Hid (m = Ky.puts l) := by
        rw [Hid, HM.out, List.take_of_length_le (by have := HL.out; omega)]
        rfl
      clear HM
      generalize wr = w5 at *
      go_wp2_with fail
      go_loopw [7, 8] (fun v i wr => ∃ (k : Nat) (out : List Rg), k ≤ n ∧ i = .int .i64 k ∧ Hid (OwnR wr w5.heap.size v out) ∧ Hid (out.length ≤ k) ∧ Hid ((m.take k).foldl Ky.step [] = out) ∧ Hid (Below w5.heap.size w5 wr)) (fun _ i _ => n - (intOf i).toNat)
      case atStart => exact ⟨0, [], Nat.zero_le _, rfl, ⟨rfl, .inl ⟨rfl, rfl⟩⟩, Nat.zero_le _, rfl, Below.refl _ _⟩
      case round =>
        obtain ⟨k, out, hk, rfl, HO, HOL, HQ, HW5⟩ := hrel
        have hnl : n ≤ 4194304 := by omega
        by_cases hlt2 : k < n
        · have hli2 : (k : Int) < (n : Int) := by omega
          have hk0 : (0 : Int) ≤ (k : Int) := by omega
          obtain ⟨b, o, x, rfl, hg, hblt, c0, c1⟩ := (HP.out.below HW5.out).rgs.at (j := k) (by have := HP.out.len; omega)
          have HQ1 : Hid ((m.take (k + 1)).foldl Ky.step [] = Ky.step out x) := by unfold Hid; rw [Ky.foldl_at _ _ hg, HQ.out]
          have hsz : w5.heap.size ≤ wr.heap.size := HW5.out.size
          have HG : Hid (b < wr.heap.size) := hblt
          clear hg hblt
          cases hlast : out.getLast? with
          | none =>
            have ho0 : out = [] := List.getLast?_eq_none_iff.1 hlast
            subst ho0
            have HST : Hid (Ky.step [] x = [x]) := rfl
            obtain ⟨pv, cv, rfl, -, -⟩ := HO.out.rgs
            clear hlast
            go_wp2_with fail
            go_quiet (fail)
            have HW6 : Hid (Below w5.heap.size w5 (wr.drewN nq)) := below_drewN HW5.out nq
            have HO6 : Hid (OwnR (wr.drewN nq) w5.heap.size (.slice pv [].length cv) []) := HO.out
            have d0 : (wr.drewN nq).cell? ⟨b, o + k * 2, none⟩ = some (.string x.lo) := c0
            have d1 : (wr.drewN nq).cell? ⟨b, o + k * 2 + 1, none⟩ = some (.string x.hi) := c1
            clear c0 c1
            generalize wr.drewN nq = w6 at HW6 HO6 d0 d1 ⊢
            go_wp2_with (at_builtin; refine appR w6 rfl _ _ rfl w5.heap.size (.slice pv [].length cv) [] rfl x _ rfl rfl HO6.out (by simp) HW6.out.size ?_; intro v7 w7 ho7 hb7)
            have HO7 : Hid (OwnR w7 w5.heap.size v7 ([] ++ [x])) := ho7
            have HW7 : Hid (Below w5.heap.size w5 w7) := HW6.out.trans hb7
            clear ho7 hb7 d0 d1
            go_wp2
            go_roundw
            case rel => exact ⟨k + 1, [] ++ [x], by omega, by go_num, HO7, by unfold Hid; simp, HQ1.out.trans HST.out, HW7⟩
            case measure => simp [intOf]; omega
          | some q =>
            obtain ⟨t, ht⟩ : ∃ t, out.length = t + 1 := by
              cases out with
              | nil => simp at hlast
              | cons y r => exact ⟨r.length, rfl⟩
            have hq : out[t]? = some q := by
              rw [List.getLast?_eq_getElem?, ht] at hlast
              exact hlast
            rcases HO.out.row with ⟨h1, h2⟩ | ⟨g, cap', rfl, h2, h3, h4, h5, h6⟩
            · subst h2
              simp at ht
            · have HM : Hid (out.length = t + 1) := ht
              have HLs : Hid (out.getLast? = some q) := hlast
              have HGG : Hid (w5.heap.size ≤ g ∧ g < wr.heap.size) := ⟨h2, h3⟩
              have HQQ : Hid (out[t]? = some q) := hq
              have HOR : Hid (Row wr g out) := h6
              have htb : t < 4194304 := by have := HOL.out; omega
              have ht0 : (0 : Int) ≤ (t : Int) := by omega
              have ht1 : (t : Int) < (t : Int) + 1 := by omega
              have htz : ¬ (t : Int) < 0 := by omega
              have htd : decide ((t : Int) < 0) = false := decide_eq_false htz
              obtain ⟨⟨a0, a1⟩, z0, z1⟩ := HOR.out t q HQQ.out
              have HSTP : Hid (Ky.step out x = if !Ky.nil q.hi && Ky.lt q.hi x.lo then out ++ [x] else if !Ky.nil q.hi && (Ky.nil x.hi || Ky.lt q.hi x.hi) then out.set t ⟨q.lo, x.hi⟩ else out) := by
                unfold Hid Ky.step
                rw [HLs.out]
                simp only [Ky.ends_pos, HM.out, Nat.add_sub_cancel]
                rfl
              rw [ht] at HO
              rw [ht]
              clear hlast h4 h5 ht hq h2 h3 h6
              cases hqn : q.hi.toList.isEmpty with
              | true =>
                have HST : Hid (Ky.step out x = out) := by
                  have : Ky.nil q.hi = true := hqn
                  rw [Hid, HSTP.out, this]
                  simp
                go_wp2_with fail
                go_quiet (fail)
                have HW6 : Hid (Below w5.heap.size w5 (wr.drewN nq)) := below_drewN HW5.out nq
                have HO6 : Hid (OwnR (wr.drewN nq) w5.heap.size (.slice (some ⟨g, 0, none⟩) (t + 1) cap') out) := HO.out
                have HOR6 : Hid (Row (wr.drewN nq) g out) := HOR.out.same rfl
                have d0 : (wr.drewN nq).cell? ⟨b, o + k * 2, none⟩ = some (.string x.lo) := c0
                have d1 : (wr.drewN nq).cell? ⟨b, o + k * 2 + 1, none⟩ = some (.string x.hi) := c1
                clear a0 a1 z0 z1 c0 c1
                generalize wr.drewN nq = w6 at HW6 HO6 HOR6 d0 d1 ⊢
                obtain ⟨⟨a0, a1⟩, z0, z1⟩ := HOR6.out t q HQQ.out
                go_wp2_with fail
                go_quiet (fail)
                have HW7 : Hid (Below w5.heap.size w5 (w6.drewN nq)) := below_drewN HW6.out nq
                have HO7 : Hid (OwnR (w6.drewN nq) w5.heap.size (.slice (some ⟨g, 0, none⟩) (t + 1) cap') out) := HO6.out
                have HOR7 : Hid (Row (w6.drewN nq) g out) := HOR6.out.same rfl
                have e1 : (w6.drewN nq).cell? ⟨b, o + k * 2 + 1, none⟩ = some (.string x.hi) := d1
                clear a0 a1 z0 z1 d0 d1
                generalize w6.drewN nq = w7 at HW7 HO7 HOR7 e1 ⊢
                go_wp2
                go_roundw
                case rel => exact ⟨k + 1, out, by omega, by go_num, HO7, by unfold Hid; have := HOL.out; omega, HQ1.out.trans HST.out, HW7⟩
                case measure => simp [intOf]; omega
              | false =>
                have hqn' : Ky.nil q.hi = false := hqn
                have HSTQ : Hid (Ky.step out x = if Ky.lt q.hi x.lo then out ++ [x] else if (Ky.nil x.hi || Ky.lt q.hi x.hi) then out.set t ⟨q.lo, x.hi⟩ else out) := by
                  rw [Hid, HSTP.out, hqn']
                  rfl
                clear HSTP hqn'
                cases hql : Op.bytesLess q.hi.toList x.lo.toList with
                | true =>
                  have HST : Hid (Ky.step out x = out ++ [x]) := by
                    have : Ky.lt q.hi x.lo = true := hql
                    rw [Hid, HSTQ.out, this]
                    rfl
                  go_wp2_with fail
                  go_quiet (fail)
                  have HW6 : Hid (Below w5.heap.size w5 (wr.drewN nq)) := below_drewN HW5.out nq
                  have HO6 : Hid (OwnR (wr.drewN nq) w5.heap.size (.slice (some ⟨g, 0, none⟩) (t + 1) cap') out) := HO.out
                  have HOR6 : Hid (Row (wr.drewN nq) g out) := HOR.out.same rfl
                  have d0 : (wr.drewN nq).cell? ⟨b, o + k * 2, none⟩ = some (.string x.lo) := c0
                  have d1 : (wr.drewN nq).cell? ⟨b, o + k * 2 + 1, none⟩ = some (.string x.hi) := c1
                  clear a0 a1 z0 z1 c0 c1
                  generalize wr.drewN nq = w6 at HW6 HO6 HOR6 d0 d1 ⊢
                  obtain ⟨⟨a0, a1⟩, z0, z1⟩ := HOR6.out t q HQQ.out
                  have HOA : Hid (OwnR w6 w5.heap.size (.slice (some ⟨g, 0, none⟩) (t + 1) cap') out) := HO6.out
                  go_wp2_with (at_builtin; refine appR w6 rfl _ _ rfl w5.heap.size (.slice (some ⟨g, 0, none⟩) (t + 1) cap') out rfl x _ rfl rfl HOA.out (by have := HM.out; omega) HW6.out.size ?_; intro v7 w7 ho7 hb7)
                  have HO7 : Hid (OwnR w7 w5.heap.size v7 (out ++ [x])) := ho7
                  have HW7 : Hid (Below w5.heap.size w5 w7) := HW6.out.trans hb7
                  clear ho7 hb7 d0 d1 a0 a1 z0 z1
                  go_wp2
                  go_roundw
                  case rel => exact ⟨k + 1, out ++ [x], by omega, by go_num, HO7, by unfold Hid; rw [List.length_append]; have := HOL.out; simp; omega, HQ1.out.trans HST.out, HW7⟩
                  case measure => simp [intOf]; omega
                | false =>
                  have HSTR : Hid (Ky.step out x = if (Ky.nil x.hi || Ky.lt q.hi x.hi) then out.set t ⟨q.lo, x.hi⟩ else out) := by
                    have : Ky.lt q.hi x.lo = false := hql
                    rw [Hid, HSTQ.out, this]
                    rfl
                  clear HSTQ
                  go_wp2_with fail
                  go_quiet (fail)
                  have HW6 : Hid (Below w5.heap.size w5 (wr.drewN nq)) := below_drewN HW5.out nq
                  have HO6 : Hid (OwnR (wr.drewN nq) w5.heap.size (.slice (some ⟨g, 0, none⟩) (t + 1) cap') out) := HO.out
                  have HOR6 : Hid (Row (wr.drewN nq) g out) := HOR.out.same rfl
                  have d0 : (wr.drewN nq).cell? ⟨b, o + k * 2, none⟩ = some (.string x.lo) := c0
                  have d1 : (wr.drewN nq).cell? ⟨b, o + k * 2 + 1, none⟩ = some (.string x.hi) := c1
                  clear a0 a1 z0 z1 c0 c1
                  generalize wr.drewN nq = w6 at HW6 HO6 HOR6 d0 d1 ⊢
                  obtain ⟨⟨a0, a1⟩, z0, z1⟩ := HOR6.out t q HQQ.out
                  cases hxn : x.hi.toList.isEmpty with
                  | true =>
                    have HST : Hid (Ky.step out x = out.set t ⟨q.lo, x.hi⟩) := by
                      have : Ky.nil x.hi = true := hxn
                      rw [Hid, HSTR.out, this]
                      rfl
                    go_wp2_with fail
                    go_quiet (fail)
                    have HW7 : Hid (Below w5.heap.size w5 (w6.drewN nq)) := below_drewN HW6.out nq
                    have HO7 : Hid (OwnR (w6.drewN nq) w5.heap.size (.slice (some ⟨g, 0, none⟩) (t + 1) cap') out) := HO6.out
                    have HOR7 : Hid (Row (w6.drewN nq) g out) := HOR6.out.same rfl
                    have e1 : (w6.drewN nq).cell? ⟨b, o + k * 2 + 1, none⟩ = some (.string x.hi) := d1
                    clear a0 a1 z0 z1 d0 d1
                    generalize w6.drewN nq = w7 at HW7 HO7 HOR7 e1 ⊢
                    obtain ⟨⟨a0, a1⟩, z0, z1⟩ := HOR7.out t q HQQ.out
                    have hown7 : w7.ownsRow w5.heap.size 24 2 (.slice (some ⟨g, 0, none⟩) (t + 1) cap') (t + 1) (flatR out) := by
                      have h0 := HO7.out
                      unfold OwnR at h0
                      rw [HM.out] at h0
                      exact h0
                    have hstored := World.ownsRow.stored hown7 (t * 2 + 1) (.string x.hi)
                    have HO8 : Hid (OwnR (w7.setCell ⟨g, t * 2 + 1, none⟩ (.string x.hi)) w5.heap.size (.slice (some ⟨g, 0, none⟩) (t + 1) cap') (out.set t ⟨q.lo, x.hi⟩)) := by
                      unfold Hid OwnR
                      rw [flatR_set out t q x.hi HQQ.out, List.length_set, HM.out]
                      exact hstored.1
                    have HW8 : Hid (Below w5.heap.size w5 (w7.setCell ⟨g, t * 2 + 1, none⟩ (.string x.hi))) := HW7.out.setCell (show w5.heap.size ≤ g from HGG.out.1) _
                    clear hstored hown7
                    go_wp2
                    go_roundw
                    case rel => exact ⟨k + 1, out.set t ⟨q.lo, x.hi⟩, by omega, by go_num, HO8, by unfold Hid; rw [List.length_set]; have := HOL.out; omega, HQ1.out.trans HST.out, HW8⟩
                    case measure => simp [intOf]; omega
                  | false =>
                    have hxn' : Ky.nil x.hi = false := hxn
                    cases hxl : Op.bytesLess q.hi.toList x.hi.toList with
                    | true =>
                      have hgt : (Op.bytesLess x.hi.toList q.hi.toList || x.hi.toList == q.hi.toList) = false := by
                        rw [Ky.leq_iff, hxl]
                        rfl
                      have HST : Hid (Ky.step out x = out.set t ⟨q.lo, x.hi⟩) := by
                        have : Ky.lt q.hi x.hi = true := hxl
                        rw [Hid, HSTR.out, hxn', this]
                        rfl
                      go_wp2_with fail
                      go_quiet (fail)
                      have HW7 : Hid (Below w5.heap.size w5 (w6.drewN nq)) := below_drewN HW6.out nq
                      have HO7 : Hid (OwnR (w6.drewN nq) w5.heap.size (.slice (some ⟨g, 0, none⟩) (t + 1) cap') out) := HO6.out
                      have HOR7 : Hid (Row (w6.drewN nq) g out) := HOR6.out.same rfl
                      have e1 : (w6.drewN nq).cell? ⟨b, o + k * 2 + 1, none⟩ = some (.string x.hi) := d1
                      clear a0 a1 z0 z1 d0 d1
                      generalize w6.drewN nq = w7 at HW7 HO7 HOR7 e1 ⊢
                      obtain ⟨⟨a0, a1⟩, z0, z1⟩ := HOR7.out t q HQQ.out
                      have hown7 : w7.ownsRow w5.heap.size 24 2 (.slice (some ⟨g, 0, none⟩) (t + 1) cap') (t + 1) (flatR out) := by
                        have h0 := HO7.out
                        unfold OwnR at h0
                        rw [HM.out] at h0
                        exact h0
                      have hstored := World.ownsRow.stored hown7 (t * 2 + 1) (.string x.hi)
                      have HO8 : Hid (OwnR (w7.setCell ⟨g, t * 2 + 1, none⟩ (.string x.hi)) w5.heap.size (.slice (some ⟨g, 0, none⟩) (t + 1) cap') (out.set t ⟨q.lo, x.hi⟩)) := by
                        unfold Hid OwnR
                        rw [flatR_set out t q x.hi HQQ.out, List.length_set, HM.out]
                        exact hstored.1
                      have HW8 : Hid (Below w5.heap.size w5 (w7.setCell ⟨g, t * 2 + 1, none⟩ (.string x.hi))) := HW7.out.setCell (show w5.heap.size ≤ g from HGG.out.1) _
                      clear hstored hown7
                      go_wp2
                      go_roundw
                      case rel => exact ⟨k + 1, out.set t ⟨q.lo, x.hi⟩, by omega, by go_num, HO8, by unfold Hid; rw [List.length_set]; have := HOL.out; omega, HQ1.out.trans HST.out, HW8⟩
                      case measure => simp [intOf]; omega
                    | false =>
                      have hgt : (Op.bytesLess x.hi.toList q.hi.toList || x.hi.toList == q.hi.toList) = true := by
                        rw [Ky.leq_iff, hxl]
                        rfl
                      have HST : Hid (Ky.step out x = out) := by
                        have : Ky.lt q.hi x.hi = false := hxl
                        rw [Hid, HSTR.out, hxn', this]
                        rfl
                      go_wp2_with fail
                      go_quiet (fail)
                      have HW7 : Hid (Below w5.heap.size w5 (w6.drewN nq)) := below_drewN HW6.out nq
                      have HO7 : Hid (OwnR (w6.drewN nq) w5.heap.size (.slice (some ⟨g, 0, none⟩) (t + 1) cap') out) := HO6.out
                      have HOR7 : Hid (Row (w6.drewN nq) g out) := HOR6.out.same rfl
                      have e1 : (w6.drewN nq).cell? ⟨b, o + k * 2 + 1, none⟩ = some (.string x.hi) := d1
                      clear a0 a1 z0 z1 d0 d1
                      generalize w6.drewN nq = w7 at HW7 HO7 HOR7 e1 ⊢
                      go_wp2
                      go_roundw
                      case rel => exact ⟨k + 1, out, by omega, by go_num, HO7, by unfold Hid; have := HOL.out; omega, HQ1.out.trans HST.out, HW7⟩
                      case measure => simp [intOf]; omega
        · have hkn : k = n := by omega
          have hli2 : ¬ (k : Int) < (n : Int) := by omega
          have HF : Hid (out = Ky.uni (Ky.puts l)) := by
            rw [Hid, ← HMP.out, ← HQ.out, List.take_of_length_le (by have := HP.out.len; omega)]
            rfl
          go_wp2
          go_ret
          refine ⟨_, rfl, ?_, HW.out.trans (HW5.out.mono HW.out.size)⟩
          rw [← HF.out]
          exact HO.out.mono HW.out.size

end Go.Proofs.Ytgppnbcneknpdaa
