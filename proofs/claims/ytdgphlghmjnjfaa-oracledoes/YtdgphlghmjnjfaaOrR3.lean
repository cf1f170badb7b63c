/- The document's oracle: Next, Publish. -/
import Derived.Test.YtdgphlghmjnjfaaOrR2
namespace Go.Proofs.Ytdgphlghmjnjfaa
open Go.RowKit Go.Maps Go.Shelf
set_option linter.unusedVariables false
set_option maxRecDepth 100000

/-- An append whose run is known, in a drawn region. -/
theorem step_appR {ops : Array Oper} {o : Oper} {a : Act} {w : World} {K : Act → World → Prop} {Q : Exit → Act → World → Prop} {E : Prop}
    (hg : o.guard = none) (s x : Operand) (t : TypeId) (hop : o.op = Op.call { callee := Callee.builtin Builtin.append, args := #[s, x], argTypes := #[t, t] })
    (v u : Value) (hs : a.eval s = v) (hx : a.eval x = u) {v' : Value} {w' : World} (hr : (Builtin.append_ #[t, t] o.type #[v, u]).run Try.prog w = .ok v' w') (hK : K (a.put o.dst v') w') :
    if Region.wanted o (yielded ops a.tmps) = true then Oper.wp Try.prog o a w K Q else E := by
  have hw : Region.wanted o (yielded ops a.tmps) = true := by simp [Region.wanted, hg]
  rw [if_pos hw]
  unfold Oper.wp
  simp [execOp, hop, resolve, invoke, builtin, hs, hx, hr, Result.andThen]
  exact hK

theorem cell_keep {w w' : World} (h : Tn [] w w') {b k : Nat} (hb : b < w.heap.size) : w'.cell? ⟨b, k, none⟩ = w.cell? ⟨b, k, none⟩ :=
  World.cell?_of_block (a := ⟨b, k, none⟩) (h.block b hb (by simp))
theorem cell_lt {w : World} {b k : Nat} {v : Value} (h : w.cell? ⟨b, k, none⟩ = some v) : b < w.heap.size := by
  rcases Nat.lt_or_ge b w.heap.size with h1 | h1
  · exact h1
  · simp [World.cell?, Array.getElem?_eq_none h1] at h

section
variable {w : World} {R : Nat} {v : Value} {o : Or} {ats : List Nat}

theorem IsRf.ltR (h : IsRf w R v o ats) : R < w.heap.size := h.blk.lt

/-- The row of those that are pending is a new one. -/
theorem IsRf.setRow {W : World} {v' : Value} {o' : Or} (h : IsRf w R v o ats) (ht : Tn [R] w W) (hb : Bk W R 40 (rfCells o'.last v o.views ats)) (ho : W.ownsRow 0 2 1 v' o'.pendL.length (ints o'.pendL)) (hn : ∀ b, v'.ownBlock = some b → w.heap.size ≤ b) (hv : o'.views = o.views) :
    IsRf (W.setCell ⟨R, 1, none⟩ v') R v' o' ats ∧ Tn [R] w (W.setCell ⟨R, 1, none⟩ v') := by
  refine ⟨⟨?_, owns_tn ho ((Tn.refl [R] W).setCell (.inl (by simp)) _) (fun b hb2 => ?_), h.a17, ?_⟩, ht.setCell (.inl (by simp)) _⟩
  · have := hb.set 1 v'
    rw [rf_setPend] at this
    rw [hv]
    exact this
  · have := hn b hb2
    have := h.ltR
    simp
    omega
  · intro s hs hx
    unfold Or.view at hx ⊢
    rw [hv] at hx ⊢
    exact h.rel s hs hx

/-- A copy of the row. -/
theorem row_copy {W : World} {q : Option Addr} {l : List Nat} {c : Nat} (hr : W.ownsRow 0 2 1 (.slice q l.length c) l.length (ints l)) (hl : l.length ≤ 1099511627776) :
    ∃ v' w', (Builtin.append_ #[36, 36] 36 #[.slice none 0 0, .slice q l.length c]).run Try.prog W = .ok v' w' ∧ w'.ownsRow 0 2 1 v' l.length (ints l) ∧ Tn [] W w' ∧ ∀ b, v'.ownBlock = some b → W.heap.size ≤ b := by
  obtain ⟨v', w', hr', ho, hg, hb⟩ := run_appI W 36 (.slice none 0 0) [] l q l.length c rfl (fun ad had j x hx => by
    subst had
    have hjl := (List.getElem?_eq_some_iff.1 hx).1
    obtain ⟨g, k, he⟩ := row_some hr (by omega)
    cases he
    rw [show (⟨g, 0, none⟩ : Addr).add j = ⟨g, j, none⟩ by unfold Addr.add; split <;> simp_all]
    rw [World.ownsRow.cellAt hr j (by omega)]
    simp [ints, hx]) (fun hq => by
    subst hq
    rcases hr.2 with ⟨hv, hn⟩ | ⟨g, cap, cur, hv, _⟩
    · simp only [Value.slice.injEq] at hv
      exact ⟨hv.2.1, hv.2.2⟩
    · simp at hv) (World.ownsRow_nil _ _ _ _) (by simp; omega)
  refine ⟨v', w', hr', ho, grown_tn hg, fun b hb' => ?_⟩
  rcases hb with e | e
  · rw [e] at hb'; cases hb'
  · rw [e] at hb'; simp at hb'; omega

set_option maxHeartbeats 2000000 in
theorem rnext_any (h : IsRf w R v o ats) (hk : o.Ok) : Calls Try.prog 28 #[.pointer (some ⟨R, 0, none⟩)] w fun e w' => e = .returned (.tuple #[.int .i64 o.nextR.1, .int .i64 o.nextR.2.1]) ∧ ∃ v', IsRf w' R v' o.nextR.2.2 ats ∧ Tn [R] w w' ∧ ∀ b, v'.ownBlock = some b → v.ownBlock = some b ∨ w.heap.size ≤ b := by
  have c0 := h.c0
  have f0 : w.frozen? ⟨R, 0, none⟩ = false := h.blk.frozen 0
  unfold Or.nextR
  by_cases hm : o.last = 1099511627776
  · rw [if_pos hm]
    rw [hm] at c0
    have HE : Hid (IsRf w R v o ats) := h
    clear h hk hm
    go_enter Try.func28, Try.ntmps28
    go_wp2
    go_ret2
    exact ⟨rfl, v, HE.out, Tn.refl _ _, fun b hb => .inl hb⟩
  · rw [if_neg hm]
    have hmx := hk.max
    obtain ⟨x, hx⟩ : ∃ x, o.last + 1 = x := ⟨_, rfl⟩
    obtain ⟨q, c, rfl, -⟩ := row_form h.row
    obtain ⟨w1, hw1⟩ : ∃ w1, w.setCell ⟨R, 0, none⟩ (.int .i64 (x : Int)) = w1 := ⟨_, rfl⟩
    have t1 : Tn [R] w w1 := by rw [← hw1]; exact (Tn.refl [R] w).setCell (.inl (by simp)) _
    have r1 := owns_tn h.row t1 (fun b hb => by simpa using h.neR b hb)
    have hpl := Nat.le_trans o.pendL_len hmx
    have hs1 : w1.heap.size = w.heap.size := by rw [← hw1]; simp
    have HA1 : Hid (∀ W, Tn [] w1 W → ∃ v1 W1, (Builtin.append_ #[36, 36] 36 #[.slice none 0 0, .slice q o.pendL.length c]).run Try.prog W = .ok v1 W1 ∧ W1.ownsRow 0 2 1 v1 o.pendL.length (ints o.pendL) ∧ Tn [] w1 W1 ∧ ∀ b, v1.ownBlock = some b → w.heap.size ≤ b) := fun W hW => by
      obtain ⟨v1, W1, a1, a2, a3, a4⟩ := row_copy (owns_tn r1 hW (by simp)) hpl
      refine ⟨v1, W1, a1, a2, hW.trans a3 (by simp), fun b hb => ?_⟩
      have := a4 b hb
      have := hW.size
      omega
    have k1 : Bk w1 R 40 (rfCells x (.slice q o.pendL.length c) o.views ats) := by
      have := h.blk.set 0 (.int .i64 (x : Int))
      rw [rf_setLast] at this
      rw [← hw1]
      exact this
    have HS : Hid (∀ W, Tn [] w1 W → W.cell? ⟨R, 1, none⟩ = some (.slice q o.pendL.length c) ∧ W.cell? ⟨R, 0, none⟩ = some (.int .i64 (x : Int))) := fun W hW => ⟨((k1.tn hW (by simp)).cell 1).trans rf_pend, ((k1.tn hW (by simp)).cell 0).trans rf_last⟩
    have HA2 : Hid (∀ W v1 g, Tn [] w1 W → W.ownsRow 0 2 1 v1 o.pendL.length (ints o.pendL) → (∀ b, v1.ownBlock = some b → w.heap.size ≤ b) → W.cell? ⟨g, 0, none⟩ = some (.int .i64 (x : Int)) →
        ∃ q2 n2 c2 w2, (Builtin.append_ #[36, 36] 36 #[v1, .slice (some ⟨g, 0, none⟩) 1 1]).run Try.prog W = .ok (.slice q2 n2 c2) w2 ∧ Tn [] w1 w2 ∧ w2.cell? ⟨R, 1, none⟩ = some (.slice q o.pendL.length c) ∧ w2.frozen? ⟨R, 1, none⟩ = false ∧
          Hid ((w2.setCell ⟨R, 1, none⟩ (.slice q2 n2 c2)).cell? ⟨R, 0, none⟩ = some (.int .i64 (x : Int)) ∧ IsRf (w2.setCell ⟨R, 1, none⟩ (.slice q2 n2 c2)) R (.slice q2 n2 c2) { o with last := x } ats ∧ Tn [R] w (w2.setCell ⟨R, 1, none⟩ (.slice q2 n2 c2)) ∧ ∀ b, (Value.slice q2 n2 c2).ownBlock = some b → (Value.slice q o.pendL.length c).ownBlock = some b ∨ w.heap.size ≤ b)) := by
      intro W v1 g hW ho hn hc
      obtain ⟨v2, w2, a1, a2, a3, a4⟩ := run_appI W 36 v1 o.pendL [x] (some ⟨g, 0, none⟩) 1 1 rfl (fun ad had j y hy => by
        cases had
        match j, hy with
        | 0, hy =>
          simp at hy
          subst hy
          exact hc) (by simp) ho (by omega)
      have n2 : ∀ b, v2.ownBlock = some b → w.heap.size ≤ b := fun b hb => by
        rcases a4 with e | e
        · exact hn b (e ▸ hb)
        · rw [e] at hb
          simp at hb
          have := hW.size
          omega
      have tw : Tn [] w1 w2 := hW.grown a3 (fun k hk => .inr (by have := hn k hk; omega))
      obtain ⟨q2, c2, hv2, -⟩ := row_form a2
      subst hv2
      have hbk := k1.tn tw (by simp)
      have e2 : (Or.pendL { o with last := x }) = o.pendL ++ [x] := by rw [← hx]; exact Or.pendL_next hk
      obtain ⟨i1, i2⟩ := h.setRow (o' := { o with last := x }) (W := w2) (t1.trans tw (by simp)) hbk (v' := .slice q2 (o.pendL ++ [x]).length c2) (by rw [e2]; exact a2) n2 rfl
      exact ⟨q2, _, c2, w2, a1, tw, (hbk.cell 1).trans rf_pend, hbk.frozen 1, i1.c0, i1, i2, fun b hb => .inr (n2 b hb)⟩
    have HA3 : Hid (∀ (W W1 : World) (g : Nat) {v1 : Value}, W.cell? ⟨g, 0, none⟩ = some (.int .i64 (x : Int)) → Tn [] w1 W → (Builtin.append_ #[36, 36] 36 #[.slice none 0 0, .slice q o.pendL.length c]).run Try.prog W = .ok v1 W1 → Tn [] w1 W1 → W1.cell? ⟨g, 0, none⟩ = some (.int .i64 (x : Int))) := by
      intro W W1 g v1 hc hW hr hW1
      obtain ⟨v1', W1', a1, a2, a3, a4⟩ := row_copy (owns_tn r1 hW (by simp)) hpl
      rw [a1] at hr
      cases hr
      rw [cell_keep a3 (cell_lt hc)]
      exact hc
    have hw : wrap64 ((o.last : Int) + 1) = (x : Int) := by unfold wrap64; omega
    have hlt : ¬ (1099511627776 : Int) ≤ (o.last : Int) := by omega
    rw [hx]
    clear h hk r1 t1 k1 hpl hs1 hm hmx hx
    generalize o.pendL.length = n at *
    generalize ((o.last : Nat) : Int) = lst at *
    go_enter Try.func28, Try.ntmps28
    go_wp2_with fail
    refine wp_region_mid (S := (fun w' => w'.cell? ⟨R, 1, none⟩ = some (.slice q n c) ∧ w'.cell? ⟨R, 0, none⟩ = some (.int .i64 (x : Int)))) 14 (by kernel_rfl) ?_
    obtain ⟨wd, hwd⟩ : ∃ wd, w1.drew = wd := ⟨_, rfl⟩
    have hT : Tn [] w1 wd := by rw [← hwd]; exact (Tn.refl _ _).drew
    have hS := HS.out wd hT
    rw [hwd]
    clear hwd
    refine wpAnyM_take (i := 0) [] (oi := { dst := some 16, op := Op.move (Operand.tmp 0), type := 27, pos := _, after := #[], guard := none }) (v := .pointer (some ⟨R, 0, none⟩)) rfl (by kernel_rfl) (by kernel_rfl) (by kernel_rfl) (by kernel_rfl) (fun _ _ _ h => h) (Or.inl ⟨by rfl, ?_⟩) hS ?_
    · (intro w' hSw; have k0 := hSw.1; have k1 := hSw.2; go_simp; try with_reducible rfl)
    try simp only [Act.put, List.setIfInBounds_toArray, List.set_cons_zero, List.set_cons_succ]
    refine wpAnyM_take (i := 1) [] (oi := { dst := some 17, op := Op.move (Operand.tmp 0), type := 27, pos := _, after := #[], guard := none }) (v := .pointer (some ⟨R, 0, none⟩)) rfl (by kernel_rfl) (by kernel_rfl) (by kernel_rfl) (by kernel_rfl) (fun _ _ _ h => h) (Or.inl ⟨by rfl, ?_⟩) hS ?_
    · (intro w' hSw; have k0 := hSw.1; have k1 := hSw.2; go_simp; try with_reducible rfl)
    try simp only [Act.put, List.setIfInBounds_toArray, List.set_cons_zero, List.set_cons_succ]
    refine wpAnyM_take (i := 2) [] (oi := { dst := some 18, op := Op.nilCheck (Operand.tmp 17), type := 0, pos := _, after := #[{ on := 1, ground := Ground.data }], guard := none }) (v := ?_) rfl (by kernel_rfl) (by kernel_rfl) (by kernel_rfl) (by kernel_rfl) (fun _ _ _ h => h) (Or.inl ⟨by rfl, ?_⟩) hS ?_
    rotate_left
    · (intro w' hSw; have k0 := hSw.1; have k1 := hSw.2; go_simp; try with_reducible rfl)
    try simp only [Act.put, List.setIfInBounds_toArray, List.set_cons_zero, List.set_cons_succ]
    refine wpAnyM_take (i := 3) [] (oi := { dst := some 19, op := Op.fieldAddr 40 (Operand.tmp 18) 1, type := 0, pos := _, after := #[{ on := 2, ground := Ground.data }], guard := none }) (v := ?_) rfl (by kernel_rfl) (by kernel_rfl) (by kernel_rfl) (by kernel_rfl) (fun _ _ _ h => h) (Or.inl ⟨by rfl, ?_⟩) hS ?_
    rotate_left
    · (intro w' hSw; have k0 := hSw.1; have k1 := hSw.2; go_simp; try with_reducible rfl)
    try simp only [Act.put, List.setIfInBounds_toArray, List.set_cons_zero, List.set_cons_succ]
    refine wpAnyM_take (i := 4) [] (oi := { dst := some 20, op := Op.load 36 (Operand.tmp 19), type := 36, pos := _, after := #[{ on := 3, ground := Ground.data }], guard := none }) (v := .slice q n c) rfl (by kernel_rfl) (by kernel_rfl) (by kernel_rfl) (by kernel_rfl) (fun _ _ _ h => h) (Or.inl ⟨by rfl, ?_⟩) hS ?_
    · (intro w' hSw; have k0 := hSw.1; have k1 := hSw.2; go_simp; try with_reducible rfl)
    try simp only [Act.put, List.setIfInBounds_toArray, List.set_cons_zero, List.set_cons_succ]
    refine wpAnyM_take (i := 6) [] (oi := { dst := some 22, op := Op.move (Operand.tmp 0), type := 27, pos := _, after := #[], guard := none }) (v := .pointer (some ⟨R, 0, none⟩)) rfl (by kernel_rfl) (by kernel_rfl) (by kernel_rfl) (by kernel_rfl) (fun _ _ _ h => h) (Or.inl ⟨by rfl, ?_⟩) hS ?_
    · (intro w' hSw; have k0 := hSw.1; have k1 := hSw.2; go_simp; try with_reducible rfl)
    try simp only [Act.put, List.setIfInBounds_toArray, List.set_cons_zero, List.set_cons_succ]
    refine wpAnyM_take (i := 7) [] (oi := { dst := some 23, op := Op.nilCheck (Operand.tmp 22), type := 0, pos := _, after := #[{ on := 6, ground := Ground.data }], guard := none }) (v := ?_) rfl (by kernel_rfl) (by kernel_rfl) (by kernel_rfl) (by kernel_rfl) (fun _ _ _ h => h) (Or.inl ⟨by rfl, ?_⟩) hS ?_
    rotate_left
    · (intro w' hSw; have k0 := hSw.1; have k1 := hSw.2; go_simp; try with_reducible rfl)
    try simp only [Act.put, List.setIfInBounds_toArray, List.set_cons_zero, List.set_cons_succ]
    refine wpAnyM_take (i := 8) [] (oi := { dst := some 24, op := Op.fieldAddr 40 (Operand.tmp 23) 0, type := 0, pos := _, after := #[{ on := 7, ground := Ground.data }], guard := none }) (v := ?_) rfl (by kernel_rfl) (by kernel_rfl) (by kernel_rfl) (by kernel_rfl) (fun _ _ _ h => h) (Or.inl ⟨by rfl, ?_⟩) hS ?_
    rotate_left
    · (intro w' hSw; have k0 := hSw.1; have k1 := hSw.2; go_simp; try with_reducible rfl)
    try simp only [Act.put, List.setIfInBounds_toArray, List.set_cons_zero, List.set_cons_succ]
    refine wpAnyM_take (i := 9) [] (oi := { dst := some 25, op := Op.load 2 (Operand.tmp 24), type := 2, pos := _, after := #[{ on := 8, ground := Ground.data }], guard := none }) (v := .int .i64 (x : Int)) rfl (by kernel_rfl) (by kernel_rfl) (by kernel_rfl) (by kernel_rfl) (fun _ _ _ h => h) (Or.inl ⟨by rfl, ?_⟩) hS ?_
    · (intro w' hSw; have k0 := hSw.1; have k1 := hSw.2; go_simp; try with_reducible rfl)
    try simp only [Act.put, List.setIfInBounds_toArray, List.set_cons_zero, List.set_cons_succ]
    refine wpAnyM_ready (rs := [5, 10]) (by kernel_rfl) (by simp) ?_
    refine AllReadyM.cons (o := { dst := some 21, op := Op.call { callee := Callee.builtin Builtin.append, args := #[Operand.const (Value.slice none 0 0), Operand.tmp 20], argTypes := #[36, 36] }, type := 36, pos := _, after := #[{ on := 4, ground := Ground.data }], guard := none }) rfl (fun K hK => ?_) (AllReadyM.cons (o := { dst := some 26, op := Op.buildSlice 36 1 #[(0, Operand.tmp 25)], type := 36, pos := _, after := #[{ on := 9, ground := Ground.data }], guard := none }) rfl (fun K hK => ?_) AllReadyM.nil)
    · as_aux_lemma =>
        have HK9 : Hid (∀ a w, _ → K a w) := hK
        clear hK
        obtain ⟨v1, wa, hr1, ho1, hT1, hn1⟩ := HA1.out wd hT
        refine step_appR rfl _ _ _ rfl _ _ rfl rfl hr1 ?_
        clear hr1
        have hT := hT1
        clear hT1
        have hS := HS.out wa hT
        refine HK9.out _ _ ⟨fun _ => hS, ?_⟩
        clear HK9 K
        try simp only [Act.put, List.setIfInBounds_toArray, List.set_cons_zero, List.set_cons_succ]
        refine wpAnyM_ready (rs := [10]) (by kernel_rfl) (by simp) ?_
        refine AllReadyM.cons (o := { dst := some 26, op := Op.buildSlice 36 1 #[(0, Operand.tmp 25)], type := 36, pos := _, after := #[{ on := 9, ground := Ground.data }], guard := none }) rfl (fun K hK => ?_) AllReadyM.nil
        have HK9 : Hid (∀ a w, _ → K a w) := hK
        clear hK
        obtain ⟨g, hg⟩ : ∃ g, wa.heap.size = g := ⟨_, rfl⟩
        obtain ⟨wb, hW2⟩ : ∃ wb, wa.alloc (.cells #[.int .i64 (x : Int)] 2) = wb := ⟨_, rfl⟩
        have hT0 := hT
        have hT : Tn [] w1 wb := by rw [← hW2]; exact hT0.alloc _
        have hc : wb.cell? ⟨g, 0, none⟩ = some (.int .i64 (x : Int)) := by rw [← hW2, ← hg]; exact (Bk.new _ _ _).cell 0
        have hS := HS.out wb hT
        go_simp
        refine HK9.out _ _ ⟨fun _ => hS, ?_⟩
        clear HK9 K
        try simp only [Act.put, List.setIfInBounds_toArray, List.set_cons_zero, List.set_cons_succ]
        have ho1 := owns_tn ho1 (show Tn [] wa wb by rw [← hW2]; exact (Tn.refl [] wa).alloc _) (by simp)
        clear hW2 hg hT0
        obtain ⟨q2, n2, c2, w5, hr2, hT5, d0, d1, HF⟩ := HA2.out wb v1 g hT ho1 hn1 hc
        clear hc hT hS ho1 hn1
        refine wpAnyM_ready (rs := [11]) (by kernel_rfl) (by simp) ?_
        refine AllReadyM.cons (o := { dst := some 27, op := Op.call { callee := Callee.builtin Builtin.append, args := #[Operand.tmp 21, Operand.tmp 26], argTypes := #[36, 36] }, type := 36, pos := _, after := #[{ on := 5, ground := Ground.data }, { on := 10, ground := Ground.data }, { on := 5, ground := Ground.chain }], guard := none }) rfl (fun K hK => ?_) AllReadyM.nil
        have HK9 : Hid (∀ a w, _ → K a w) := hK
        clear hK
        refine step_appR rfl _ _ _ rfl _ _ rfl rfl hr2 ?_
        clear hr2
        have hS := HS.out w5 hT5
        refine HK9.out _ _ ⟨fun _ => hS, ?_⟩
        clear HK9 K
        try simp only [Act.put, List.setIfInBounds_toArray, List.set_cons_zero, List.set_cons_succ]
        refine wpAnyM_take (i := 12) [13, 14] (oi := { dst := some 28, op := Op.nilCheck (Operand.tmp 16), type := 0, pos := _, after := #[{ on := 0, ground := Ground.data }, { on := 0, ground := Ground.phase }, { on := 1, ground := Ground.phase }, { on := 2, ground := Ground.phase }, { on := 3, ground := Ground.phase }, { on := 4, ground := Ground.phase }, { on := 5, ground := Ground.phase }, { on := 6, ground := Ground.phase }, { on := 7, ground := Ground.phase }, { on := 8, ground := Ground.phase }, { on := 9, ground := Ground.phase }, { on := 10, ground := Ground.phase }, { on := 11, ground := Ground.phase }], guard := none }) (v := ?_) rfl (by kernel_rfl) (by kernel_rfl) (by kernel_rfl) (by kernel_rfl) (fun _ _ _ h => h) (Or.inl ⟨by rfl, ?_⟩) hS ?_
        rotate_left
        · (intro w' hSw; have k0 := hSw.1; have k1 := hSw.2; go_simp; try with_reducible rfl)
        try simp only [Act.put, List.setIfInBounds_toArray, List.set_cons_zero, List.set_cons_succ]
        refine wpAnyM_take (i := 13) [] (oi := { dst := some 29, op := Op.fieldAddr 40 (Operand.tmp 28) 1, type := 0, pos := _, after := #[{ on := 12, ground := Ground.data }, { on := 0, ground := Ground.phase }, { on := 1, ground := Ground.phase }, { on := 2, ground := Ground.phase }, { on := 3, ground := Ground.phase }, { on := 4, ground := Ground.phase }, { on := 5, ground := Ground.phase }, { on := 6, ground := Ground.phase }, { on := 7, ground := Ground.phase }, { on := 8, ground := Ground.phase }, { on := 9, ground := Ground.phase }, { on := 10, ground := Ground.phase }, { on := 11, ground := Ground.phase }], guard := none }) (v := ?_) rfl (by kernel_rfl) (by kernel_rfl) (by kernel_rfl) (by kernel_rfl) (fun _ _ _ h => h) (Or.inl ⟨by rfl, ?_⟩) hS ?_
        rotate_left
        · (intro w' hSw; have k0 := hSw.1; have k1 := hSw.2; go_simp; try with_reducible rfl)
        try simp only [Act.put, List.setIfInBounds_toArray, List.set_cons_zero, List.set_cons_succ]
        refine wpAnyM_ready (rs := [14]) (by kernel_rfl) (by simp) ?_
        refine AllReadyM.cons (o := { dst := none, op := Op.store 36 (Operand.tmp 29) (Operand.tmp 27), type := 0, pos := _, after := #[{ on := 13, ground := Ground.data }, { on := 11, ground := Ground.data }, { on := 11, ground := Ground.chain }, { on := 0, ground := Ground.phase }, { on := 1, ground := Ground.phase }, { on := 2, ground := Ground.phase }, { on := 3, ground := Ground.phase }, { on := 4, ground := Ground.phase }, { on := 5, ground := Ground.phase }, { on := 6, ground := Ground.phase }, { on := 7, ground := Ground.phase }, { on := 8, ground := Ground.phase }, { on := 9, ground := Ground.phase }, { on := 10, ground := Ground.phase }, { on := 11, ground := Ground.phase }], guard := none }) rfl (fun K hK => ?_) AllReadyM.nil
        have HK9 : Hid (∀ a w, _ → K a w) := hK
        clear hK
        go_simp
        refine HK9.out _ _ ⟨fun h => absurd h (by omega), ?_⟩
        clear HK9 K
        try simp only [Act.put, List.setIfInBounds_toArray, List.set_cons_zero, List.set_cons_succ]
        refine wpAnyM_done (by kernel_rfl) ?_ _
        obtain ⟨wz, hwz⟩ : ∃ wz, w5.setCell ⟨R, 1, none⟩ (.slice q2 n2 c2) = wz := ⟨_, rfl⟩
        rw [hwz] at HF ⊢
        have z0 : wz.cell? ⟨R, 0, none⟩ = some (.int .i64 (x : Int)) := HF.out.1
        clear hwz d0 d1 hS hT5 HS HA1 HA2 c0 f0
        go_wp2
        go_ret2
        exact ⟨rfl, _, HF.out.2⟩
    · as_aux_lemma =>
        have HK9 : Hid (∀ a w, _ → K a w) := hK
        clear hK
        obtain ⟨g, hg⟩ : ∃ g, wd.heap.size = g := ⟨_, rfl⟩
        obtain ⟨wa, hW2⟩ : ∃ wa, wd.alloc (.cells #[.int .i64 (x : Int)] 2) = wa := ⟨_, rfl⟩
        have hT0 := hT
        have hT : Tn [] w1 wa := by rw [← hW2]; exact hT0.alloc _
        have hc : wa.cell? ⟨g, 0, none⟩ = some (.int .i64 (x : Int)) := by rw [← hW2, ← hg]; exact (Bk.new _ _ _).cell 0
        have hS := HS.out wa hT
        go_simp
        refine HK9.out _ _ ⟨fun _ => hS, ?_⟩
        clear HK9 K
        try simp only [Act.put, List.setIfInBounds_toArray, List.set_cons_zero, List.set_cons_succ]
        clear hW2 hg hT0
        refine wpAnyM_ready (rs := [5]) (by kernel_rfl) (by simp) ?_
        refine AllReadyM.cons (o := { dst := some 21, op := Op.call { callee := Callee.builtin Builtin.append, args := #[Operand.const (Value.slice none 0 0), Operand.tmp 20], argTypes := #[36, 36] }, type := 36, pos := _, after := #[{ on := 4, ground := Ground.data }], guard := none }) rfl (fun K hK => ?_) AllReadyM.nil
        have HK9 : Hid (∀ a w, _ → K a w) := hK
        clear hK
        obtain ⟨v1, wb, hr1, ho1, hT1, hn1⟩ := HA1.out wa hT
        have hc := HA3.out wa wb g hc hT hr1 hT1
        refine step_appR rfl _ _ _ rfl _ _ rfl rfl hr1 ?_
        clear hr1
        have hT := hT1
        clear hT1
        have hS := HS.out wb hT
        refine HK9.out _ _ ⟨fun _ => hS, ?_⟩
        clear HK9 K
        try simp only [Act.put, List.setIfInBounds_toArray, List.set_cons_zero, List.set_cons_succ]
        obtain ⟨q2, n2, c2, w5, hr2, hT5, d0, d1, HF⟩ := HA2.out wb v1 g hT ho1 hn1 hc
        clear hc hT hS ho1 hn1
        refine wpAnyM_ready (rs := [11]) (by kernel_rfl) (by simp) ?_
        refine AllReadyM.cons (o := { dst := some 27, op := Op.call { callee := Callee.builtin Builtin.append, args := #[Operand.tmp 21, Operand.tmp 26], argTypes := #[36, 36] }, type := 36, pos := _, after := #[{ on := 5, ground := Ground.data }, { on := 10, ground := Ground.data }, { on := 5, ground := Ground.chain }], guard := none }) rfl (fun K hK => ?_) AllReadyM.nil
        have HK9 : Hid (∀ a w, _ → K a w) := hK
        clear hK
        refine step_appR rfl _ _ _ rfl _ _ rfl rfl hr2 ?_
        clear hr2
        have hS := HS.out w5 hT5
        refine HK9.out _ _ ⟨fun _ => hS, ?_⟩
        clear HK9 K
        try simp only [Act.put, List.setIfInBounds_toArray, List.set_cons_zero, List.set_cons_succ]
        refine wpAnyM_take (i := 12) [13, 14] (oi := { dst := some 28, op := Op.nilCheck (Operand.tmp 16), type := 0, pos := _, after := #[{ on := 0, ground := Ground.data }, { on := 0, ground := Ground.phase }, { on := 1, ground := Ground.phase }, { on := 2, ground := Ground.phase }, { on := 3, ground := Ground.phase }, { on := 4, ground := Ground.phase }, { on := 5, ground := Ground.phase }, { on := 6, ground := Ground.phase }, { on := 7, ground := Ground.phase }, { on := 8, ground := Ground.phase }, { on := 9, ground := Ground.phase }, { on := 10, ground := Ground.phase }, { on := 11, ground := Ground.phase }], guard := none }) (v := ?_) rfl (by kernel_rfl) (by kernel_rfl) (by kernel_rfl) (by kernel_rfl) (fun _ _ _ h => h) (Or.inl ⟨by rfl, ?_⟩) hS ?_
        rotate_left
        · (intro w' hSw; have k0 := hSw.1; have k1 := hSw.2; go_simp; try with_reducible rfl)
        try simp only [Act.put, List.setIfInBounds_toArray, List.set_cons_zero, List.set_cons_succ]
        refine wpAnyM_take (i := 13) [] (oi := { dst := some 29, op := Op.fieldAddr 40 (Operand.tmp 28) 1, type := 0, pos := _, after := #[{ on := 12, ground := Ground.data }, { on := 0, ground := Ground.phase }, { on := 1, ground := Ground.phase }, { on := 2, ground := Ground.phase }, { on := 3, ground := Ground.phase }, { on := 4, ground := Ground.phase }, { on := 5, ground := Ground.phase }, { on := 6, ground := Ground.phase }, { on := 7, ground := Ground.phase }, { on := 8, ground := Ground.phase }, { on := 9, ground := Ground.phase }, { on := 10, ground := Ground.phase }, { on := 11, ground := Ground.phase }], guard := none }) (v := ?_) rfl (by kernel_rfl) (by kernel_rfl) (by kernel_rfl) (by kernel_rfl) (fun _ _ _ h => h) (Or.inl ⟨by rfl, ?_⟩) hS ?_
        rotate_left
        · (intro w' hSw; have k0 := hSw.1; have k1 := hSw.2; go_simp; try with_reducible rfl)
        try simp only [Act.put, List.setIfInBounds_toArray, List.set_cons_zero, List.set_cons_succ]
        refine wpAnyM_ready (rs := [14]) (by kernel_rfl) (by simp) ?_
        refine AllReadyM.cons (o := { dst := none, op := Op.store 36 (Operand.tmp 29) (Operand.tmp 27), type := 0, pos := _, after := #[{ on := 13, ground := Ground.data }, { on := 11, ground := Ground.data }, { on := 11, ground := Ground.chain }, { on := 0, ground := Ground.phase }, { on := 1, ground := Ground.phase }, { on := 2, ground := Ground.phase }, { on := 3, ground := Ground.phase }, { on := 4, ground := Ground.phase }, { on := 5, ground := Ground.phase }, { on := 6, ground := Ground.phase }, { on := 7, ground := Ground.phase }, { on := 8, ground := Ground.phase }, { on := 9, ground := Ground.phase }, { on := 10, ground := Ground.phase }, { on := 11, ground := Ground.phase }], guard := none }) rfl (fun K hK => ?_) AllReadyM.nil
        have HK9 : Hid (∀ a w, _ → K a w) := hK
        clear hK
        go_simp
        refine HK9.out _ _ ⟨fun h => absurd h (by omega), ?_⟩
        clear HK9 K
        try simp only [Act.put, List.setIfInBounds_toArray, List.set_cons_zero, List.set_cons_succ]
        refine wpAnyM_done (by kernel_rfl) ?_ _
        obtain ⟨wz, hwz⟩ : ∃ wz, w5.setCell ⟨R, 1, none⟩ (.slice q2 n2 c2) = wz := ⟨_, rfl⟩
        rw [hwz] at HF ⊢
        have z0 : wz.cell? ⟨R, 0, none⟩ = some (.int .i64 (x : Int)) := HF.out.1
        clear hwz d0 d1 hS hT5 HS HA1 HA2 c0 f0
        go_wp2
        go_ret2
        exact ⟨rfl, _, HF.out.2⟩

theorem ints_one (l : List Nat) : ∀ u ∈ ints l, u.oneCell' = true := fun u hu => by
  obtain ⟨x, _, rfl⟩ := List.mem_map.1 hu
  rfl
theorem ints_cells {W : World} {g c : Nat} {l : List Nat} (hr : W.ownsRow 0 2 1 (.slice (some ⟨g, 0, none⟩) l.length c) l.length (ints l)) {j y : Nat} (hy : l[j]? = some y) : W.cell? ⟨g, j, none⟩ = some (.int .i64 (y : Int)) := by
  have hjl := (List.getElem?_eq_some_iff.1 hy).1
  rw [World.ownsRow.cellAt hr j (by omega)]
  simp [ints, hy]

theorem Or.PubR.none {o o' : Or} {q e : Int} (h : o.PubR q e o') (hk : o.Ok) (hno : ∀ y ∈ o.pendL, (y : Int) ≠ q) : e = 1 ∧ o' = o := by
  rcases h with ⟨h1, h2, -⟩ | ⟨ts, rfl, h2, h3, h4, h5⟩
  · exact ⟨h1, h2⟩
  · exact absurd rfl (hno ts ((Or.mem_pendL ts).2 ⟨h3, h4⟩))
theorem Or.PubR.some {o o' : Or} {q e : Int} (h : o.PubR q e o') (hk : o.Ok) {j y : Nat} (hj : o.pendL[j]? = some y) (hy : (y : Int) = q) : e = 0 ∧ o'.pendL = o.pendL.take j ++ o.pendL.drop (j + 1) ∧ o'.last = o.last ∧ o'.views = o.views := by
  have hm := (Or.mem_pendL y).1 (List.mem_of_getElem? hj)
  have hmx := hk.max
  rcases h with ⟨h1, h2, h3⟩ | ⟨ts, hts, h2, h3, h4, h5⟩
  · exfalso
    subst hy
    rcases h3 with h3 | h3
    · omega
    · rw [Or.isPub_nat y (by simp only [NN]; omega), hm.2] at h3
      cases h3
  · obtain rfl : y = ts := by omega
    exact ⟨h2, Or.pendL_pub h5 hj, h5.last, h5.views⟩

set_option maxHeartbeats 2000000 in
theorem rpublish_any (h : IsRf w R v o ats) (hk : o.Ok) (q : Int) {x : Int} {o' : Or} (hP : o.PubR q x o') : Calls Try.prog 29 #[.pointer (some ⟨R, 0, none⟩), .int .i64 q] w fun e w' => e = .returned (.int .i64 x) ∧ ∃ v', IsRf w' R v' o' ats ∧ Tn [R] w w' ∧ ∀ b, v'.ownBlock = some b → v.ownBlock = some b ∨ w.heap.size ≤ b := by
  obtain ⟨p, c, rfl, hnc⟩ := row_form h.row
  have HH : Hid (IsRf w R (.slice p o.pendL.length c) o ats ∧ o.Ok ∧ o.PubR q x o') := ⟨h, hk, hP⟩
  have c1 := h.c1
  have hmx : o.pendL.length ≤ 1099511627776 := Nat.le_trans o.pendL_len hk.max
  obtain ⟨n, hn⟩ : ∃ n, o.pendL.length = n := ⟨_, rfl⟩
  have HN : Hid (o.pendL.length = n) := hn
  rw [hn] at c1 hmx hnc ⊢
  clear h hk hP hn
  go_enter Try.func29, Try.ntmps29
  go_wp2_with fail
  go_loopw [5] (fun i wr => ∃ j : Nat, j ≤ n ∧ i = .int .i64 (j : Int) ∧ wr = w ∧ Hid (∀ k y, k < j → o.pendL[k]? = some y → (y : Int) ≠ q)) (fun i _ => n - (intOf i).toNat)
  case atStart => exact ⟨0, by omega, rfl, rfl, fun k y hk => by omega⟩
  case round =>
    obtain ⟨j, hj, rfl, rfl, HF⟩ := hrel
    by_cases hlt : j < n
    · have hli : (j : Int) < (n : Int) := by omega
      have hj0 : (0 : Int) ≤ (j : Int) := by omega
      obtain ⟨g, kk, he⟩ := row_some HH.out.1.row (by rw [HN.out]; omega)
      cases he
      obtain ⟨y, hy⟩ : ∃ y, o.pendL[j]? = some y := ⟨_, List.getElem?_eq_getElem (by rw [HN.out]; exact hlt)⟩
      have e1 : wr.cell? ⟨g, j, none⟩ = some (.int .i64 (y : Int)) := ints_cells HH.out.1.row hy
      have HY : Hid (o.pendL[j]? = some y) := hy
      clear hy
      by_cases hyq : (y : Int) = q
      · obtain ⟨rfl, hpl, hla, hvw⟩ := HH.out.2.2.some HH.out.2.1 HY.out hyq
        have HP : Hid (o'.pendL = o.pendL.take j ++ o.pendL.drop (j + 1) ∧ o'.last = o.last ∧ o'.views = o.views) := ⟨hpl, hla, hvw⟩
        have HL1 : Hid ((ints (o.pendL.take j)).length = j * 1) := by
          show _ = _
          rw [ints_len, List.length_take, HN.out]
          omega
        have HL2 : Hid ((ints (o.pendL.drop (j + 1))).length = (n - (j + 1)) * 1) := by
          show _ = _
          rw [ints_len, List.length_drop, HN.out]
          omega
        have HN1 : Hid (∀ ad, some (⟨g, 0, none⟩ : Addr) = some ad → ∀ i u, (ints (o.pendL.take j))[i]? = some u → wr.cell? (ad.add i) = some u) := by
          intro ad had i u hu
          cases had
          obtain ⟨z, hz, rfl⟩ := ints_at hu
          rw [show (⟨g, 0, none⟩ : Addr).add i = ⟨g, i, none⟩ by unfold Addr.add; split <;> simp_all]
          rw [List.getElem?_take] at hz
          split at hz
          · exact ints_cells HH.out.1.row hz
          · cases hz
        have HO : Hid (wr.ownsRow 0 2 1 (.slice none 0 0) 0 []) := World.ownsRow_nil _ _ _ _
        have g2 : (j : Int) ≤ (c : Int) := by omega
        have g3 : ((j + 1 : Nat) : Int) ≤ (n : Int) := by omega
        have g4 : wrap64 ((j : Int) + 1) = ((j + 1 : Nat) : Int) := by unfold wrap64; omega
        have g5 : (0 : Int) ≤ ((j + 1 : Nat) : Int) := by omega
        have g6 : ((j + 1 : Nat) : Int) ≤ (c : Int) := by omega
        subst hyq
        clear hpl hla hvw HF
        go_wp2_with (at_builtin; refine appX _ rfl _ _ _ rfl 2 (.int .i64 0) 1 8 Try.underlying36 i64info rfl (by decide) (.slice none 0 0) 0 [] rfl HO.out (some ⟨g, 0, none⟩) j c (ints (o.pendL.take j)) rfl HL1.out HN1.out (ints_one _) (fun h => by cases h) (by unfold maxLen; omega) (by omega) ?_)
        intro v1 w1 o1 t1 b1
        have T1 : Tn [] wr w1 := grown_tn t1
        have n1 : ∀ b, v1.ownBlock = some b → wr.heap.size ≤ b := fun b hb => by
          rcases b1 with e | e
          · rw [e] at hb; cases hb
          · rw [e] at hb; simp at hb; omega
        obtain ⟨p1, k1, hv1, -⟩ := row_form o1
        subst hv1
        have d1 : w1.cell? ⟨R, 1, none⟩ = some (.slice (some ⟨g, 0, none⟩) n c) := by
          rw [cell_keep T1 HH.out.1.ltR, HH.out.1.c1, HN.out]
        have hG : g < wr.heap.size := row_block HH.out.1.row g rfl
        have HO1 : Hid (w1.ownsRow 0 2 1 (.slice p1 j k1) j (ints (o.pendL.take j))) := o1
        have HT1 : Hid (Tn [] wr w1 ∧ ∀ b, (Value.slice p1 j k1).ownBlock = some b → wr.heap.size ≤ b) := ⟨T1, by simpa using n1⟩
        have HN3 : Hid (∀ ad, some (⟨g, j + 1, none⟩ : Addr) = some ad → ∀ i u, (ints (o.pendL.drop (j + 1)))[i]? = some u → w1.cell? (ad.add i) = some u) := by
          intro ad had i u hu
          cases had
          obtain ⟨z, hz, rfl⟩ := ints_at hu
          rw [show (⟨g, j + 1, none⟩ : Addr).add i = ⟨g, j + 1 + i, none⟩ by unfold Addr.add; split <;> simp_all]
          rw [List.getElem?_drop] at hz
          rw [cell_keep HT1.out.1 hG]
          exact ints_cells HH.out.1.row hz
        have HE : Hid (∀ W2 p2 m2 k2, W2.ownsRow 0 2 1 (.slice p2 m2 k2) (j + (n - (j + 1))) (ints (o.pendL.take j) ++ ints (o.pendL.drop (j + 1))) → w1.grownBy W2 (Value.slice p1 j k1).ownBlock → ((Value.slice p2 m2 k2).ownBlock = (Value.slice p1 j k1).ownBlock ∨ (Value.slice p2 m2 k2).ownBlock = some w1.heap.size) → W2.cell? ⟨R, 1, none⟩ = some (.slice (some ⟨g, 0, none⟩) n c) ∧ W2.frozen? ⟨R, 1, none⟩ = false ∧ Hid (∃ v', IsRf (W2.setCell ⟨R, 1, none⟩ (.slice p2 m2 k2)) R v' o' ats ∧ Tn [R] wr (W2.setCell ⟨R, 1, none⟩ (.slice p2 m2 k2)) ∧ ∀ b, v'.ownBlock = some b → (Value.slice (some ⟨g, 0, none⟩) n c).ownBlock = some b ∨ wr.heap.size ≤ b)) := by
          intro W2 p2 m2 k2 o2 t2 b2
          have T2 : Tn [] wr W2 := HT1.out.1.grown t2 (fun k hk => .inr (HT1.out.2 k hk))
          have n2 : ∀ b, (Value.slice p2 m2 k2).ownBlock = some b → wr.heap.size ≤ b := fun b hb => by
            rcases b2 with e | e
            · exact HT1.out.2 b (e ▸ hb)
            · rw [e] at hb
              simp at hb
              have := HT1.out.1.size
              omega
          have hbk := HH.out.1.blk.tn T2 (by simp)
          have hlen : o'.pendL.length = j + (n - (j + 1)) := by rw [HP.out.1, List.length_append, List.length_take, List.length_drop, HN.out]; omega
          obtain ⟨i1, i2⟩ := HH.out.1.setRow (o' := o') (W := W2) (T2.mono (by simp)) (by rw [HP.out.2.1]; exact hbk) (v' := .slice p2 m2 k2) (by rw [hlen, HP.out.1, ints_app]; exact o2) n2 HP.out.2.2
          refine ⟨?_, hbk.frozen 1, _, i1, i2, fun b hb => .inr (n2 b hb)⟩
          rw [hbk.cell 1, rf_pend, HN.out]
        clear o1 t1 b1 T1 n1 c1 HO HN1 HL1 hG
        by_cases hc : c = j + 1
        · subst hc
          obtain rfl : n = j + 1 := by omega
          have HL3 : Hid (ints (o.pendL.drop (j + 1)) = []) := by
            refine List.eq_nil_of_length_eq_zero ?_
            rw [HL2.out]
            omega
          rw [HL3.out] at HE
          go_wp2_with (at_builtin; refine appX _ rfl _ _ _ rfl 2 (.int .i64 0) 1 8 Try.underlying36 i64info rfl (by decide) (.slice p1 j k1) j (ints (o.pendL.take j)) rfl HO1.out _ _ _ [] rfl (by simp) (by simp) (by simp) (fun h => by cases h) (by unfold maxLen; omega) (by omega) ?_)
          intro v2 w2 o2 t2 b2
          obtain ⟨p2, k2, hv2, -⟩ := row_form o2
          subst hv2
          obtain ⟨q1, q2, HQ⟩ := HE.out w2 _ _ _ (by simpa using o2) t2 b2
          clear o2 t2 b2 HE
          go_wp2
          go_ret
          exact ⟨rfl, HQ.out⟩
        · go_wp2_with (at_builtin; refine appX _ rfl _ _ _ rfl 2 (.int .i64 0) 1 8 Try.underlying36 i64info rfl (by decide) (.slice p1 j k1) j (ints (o.pendL.take j)) rfl HO1.out _ _ _ (ints (o.pendL.drop (j + 1))) rfl HL2.out HN3.out (ints_one _) (fun h => by cases h) (by unfold maxLen; omega) (by omega) ?_)
          intro v2 w2 o2 t2 b2
          obtain ⟨p2, k2, hv2, -⟩ := row_form o2
          subst hv2
          obtain ⟨q1, q2, HQ⟩ := HE.out w2 _ _ _ o2 t2 b2
          clear o2 t2 b2 HE
          go_wp2
          go_ret
          exact ⟨rfl, HQ.out⟩
      · have HF2 : Hid (∀ k y, k < j + 1 → o.pendL[k]? = some y → (y : Int) ≠ q) := fun k z hk hz => by
          rcases Nat.lt_or_ge k j with h1 | h1
          · exact HF.out k z h1 hz
          · obtain rfl : k = j := by omega
            rw [HY.out] at hz
            cases hz
            exact hyq
        go_wp2
        go_roundw
        case rel => exact ⟨j + 1, by omega, by go_num, trivial, HF2⟩
        case measure => simp [intOf]; omega
    · have hli : ¬ (j : Int) < (n : Int) := by omega
      obtain ⟨rfl, rfl⟩ := HH.out.2.2.none HH.out.2.1 (fun y hy => by
        obtain ⟨k, hk, he⟩ := List.getElem_of_mem hy
        exact HF.out k y (by have := HN.out; omega) (by rw [List.getElem?_eq_getElem hk, he]))
      go_wp2
      go_ret
      exact ⟨rfl, _, HH.out.1, Tn.refl _ _, fun b hb => .inl (by rw [HN.out] at hb; exact hb)⟩
end
end Go.Proofs.Ytdgphlghmjnjfaa
