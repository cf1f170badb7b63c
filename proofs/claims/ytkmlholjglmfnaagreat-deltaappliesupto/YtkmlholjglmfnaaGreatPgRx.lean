/- Remove (the document's). -/
import Derived.Test.YtkmlholjglmfnaaGreatPgRm
import Derived.Test.YtkmlholjglmfnaaGreatPgMg
import Derived.Test.YtkmlholjglmfnaaGreatRgM
import Derived.BigQuiet
namespace Go.Proofs.YtkmlholjglmfnaaGreat
open Go.RowKit Go.Sort
set_option linter.unusedVariables false
set_option maxRecDepth 100000

/-- An append whose run is known, in a drawn region. -/
theorem step_appR {ops : Array Oper} {o : Oper} {a : Act} {w : World} {K : Act → World → Prop} {Q : Exit → Act → World → Prop} {E : Prop}
    (hg : o.guard = none) (s x : Operand) (t : TypeId) (hop : o.op = Op.call { callee := Callee.builtin Builtin.append, args := #[s, x], argTypes := #[t, t] })
    (v u : Value) (hs : a.eval s = v) (hx : a.eval x = u) {v' : Value} {w' : World} (hr : (Builtin.append_ #[t, t] o.type #[v, u]).run Tryz.prog w = .ok v' w') (hK : K (a.put o.dst v') w') :
    if Region.wanted o (yielded ops a.tmps) = true then Oper.wp Tryz.prog o a w K Q else E := by
  have hw : Region.wanted o (yielded ops a.tmps) = true := by simp [Region.wanted, hg]
  rw [if_pos hw]
  unfold Oper.wp
  simp [execOp, hop, resolve, invoke, builtin, hs, hx, hr, Result.andThen]
  exact hK

theorem findIdx_hit {α : Type} {l : List α} {p : α → Bool} {j : Nat} {x : α} (hj : j ≤ l.findIdx p) (hx : l[j]? = some x) (hp : p x = true) : l.findIdx p = j := by
  rcases Nat.lt_or_ge j (l.findIdx p) with h | h
  · have hl := (List.getElem?_eq_some_iff.1 hx)
    obtain ⟨h1, h2⟩ := hl
    have := List.not_of_lt_findIdx h
    rw [h2] at this
    simp [hp] at this
  · omega

theorem findIdx_miss {α : Type} {l : List α} {p : α → Bool} {j : Nat} {x : α} (hj : j ≤ l.findIdx p) (hx : l[j]? = some x) (hp : p x = false) : j + 1 ≤ l.findIdx p := by
  rcases Nat.lt_or_ge j (l.findIdx p) with h | h
  · omega
  · have e : l.findIdx p = j := by omega
    obtain ⟨h1, h2⟩ := List.getElem?_eq_some_iff.1 hx
    have h3 : l.findIdx p < l.length := by omega
    have := List.findIdx_getElem (w := h3)
    simp only [e, h2, hp] at this
    cases this

theorem findIdx_none {α : Type} {l : List α} {p : α → Bool} (h : l.length ≤ l.findIdx p) : l.any p = false := by
  rw [List.any_eq_false]
  intro x hx
  obtain ⟨i, hi, rfl⟩ := List.getElem_of_mem hx
  have := List.not_of_lt_findIdx (p := p) (xs := l) (i := i) (by omega)
  simpa using this

theorem any_hit {α : Type} {l : List α} {p : α → Bool} {j : Nat} {x : α} (hx : l[j]? = some x) (hp : p x = true) : l.any p = true :=
  List.any_eq_true.2 ⟨x, List.mem_of_getElem? hx, hp⟩

set_option maxHeartbeats 8000000 in
theorem rremove_any (leaf : Bool) (lo hi : ByteArray) (r : Int) (p : Option Addr) (len cap : Nat) (l : List En) (key : ByteArray) (w : World) (hlen : l.length = len) (hx : Ens w p l) (hl : len ≤ 3518437208782) (hc : len ≤ cap) :
    Calls Tryz.prog 31 #[pgv leaf lo hi r p len cap, .string key] w fun e w' => ∃ v, e = .returned (.tuple #[v, .int .i64 (Pg.remove ⟨leaf, lo, hi, r, l⟩ key).2]) ∧ PgAt w' w.heap.size v (Pg.remove ⟨leaf, lo, hi, r, l⟩ key).1 ∧ Below w.heap.size w w' := by
  obtain ⟨w0, hw0⟩ : ∃ w0, (w.alloc (.cells #[.bool leaf, .string lo, .string hi, .int .i64 r, .slice p len cap] 24)).alloc (.cells zc 24) = w0 := ⟨_, rfl⟩
  have HB0 : Hid (Below w.heap.size w w0) := by rw [← hw0]; exact ((Below.refl _ _).alloc (Nat.le_refl _) _).alloc (by simp) _
  have HK0 : Hid (Bk w0 w.heap.size 24 #[.bool leaf, .string lo, .string hi, .int .i64 r, .slice p len cap]) := by rw [← hw0]; exact (Bk.new _ _ _).alloc _
  have HR0 : Hid (Bk w0 (w.heap.size + 1) 24 zc) := by rw [← hw0]; exact Bk.new1 _ _ _ _
  have HX : Hid (Ens w0 p l) := hx.below HB0.out (Nat.le_refl _)
  have HL : Hid (l.length = len) := hlen
  clear hx hlen
  obtain ⟨out, hout⟩ : ∃ out, Pg.remove ⟨leaf, lo, hi, r, l⟩ key = out := ⟨_, rfl⟩
  rw [hout]
  have HO : Hid (out = if l.any (Pg.is key) then (⟨leaf, lo, hi, r, Pg.del l (l.findIdx (Pg.is key))⟩, 0) else (Pg.zero, 4)) := hout.symm
  clear hout
  have a4 : w0.cell? ⟨w.heap.size, 4, none⟩ = some (.slice p len cap) := HK0.out.cell 4
  go_enter Tryz.func31, Tryz.ntmps31
  go_wp2_with fail
  clear hw0
  go_loopw [6] (fun iv wr => ∃ j : Nat, j ≤ len ∧ iv = .int .i64 j ∧ wr = w0 ∧ Hid (j ≤ l.findIdx (Pg.is key))) (fun iv _ => len - (intOf iv).toNat)
  case atStart => exact ⟨0, Nat.zero_le _, rfl, by trivial, Nat.zero_le _⟩
  case round =>
    obtain ⟨j, hj, rfl, rfl, HF⟩ := hrel
    by_cases hlt : j < len
    · have hli : (j : Int) < (len : Int) := by omega
      have hj0 : (0 : Int) ≤ (j : Int) := by omega
      obtain ⟨b, o, x, rfl, hgx, -, x0, -, -, -⟩ := HX.out.at (j := j) (by have := HL.out; omega)
      have HG : Hid (l[j]? = some x) := hgx
      clear hgx
      cases hq : Pg.is key x with
      | true =>
        have hqs : (x.key.toList == key.toList) = true := hq
        have HQ : Hid (out = (⟨leaf, lo, hi, r, Pg.del l j⟩, 0)) := by
          have := HO.out
          rw [any_hit HG.out hq, findIdx_hit HF.out HG.out hq] at this
          exact this
        clear hq HO HF
        obtain ⟨a7, ha7⟩ : ∃ a7 : Addr, (if cap = j + 1 then some (⟨b, o, none⟩ : Addr) else some ⟨b, o + (j + 1) * 4, none⟩) = some a7 := by split <;> exact ⟨_, rfl⟩
        have HE7 : Hid (∀ W, Below wr.heap.size wr W → Ens W (some a7) (l.drop (j + 1))) := fun W hW => by
          by_cases hlast : len = j + 1
          · rw [List.drop_of_length_le (by have := HL.out; omega)]
            exact Ens.nil _ _
          · rw [if_neg (by omega)] at ha7
            obtain rfl := Option.some.inj ha7
            exact ((HX.out.below hW (Nat.le_refl _)).drop (j + 1))
        have HE5 : Hid (∀ W, Below wr.heap.size wr W → Ens W (some ⟨b, o, none⟩) (l.take j)) := fun W hW => (HX.out.below hW (Nat.le_refl _)).take j
        have E7 : Hid ((if cap = j + 1 then some (⟨b, o, none⟩ : Addr) else some ⟨b, o + (j + 1) * 4, none⟩) = some a7) := ha7
        have e6 : (0 : Int) ≤ (j : Int) + 1 := by omega
        have HS : Hid (∀ W, Below wr.heap.size wr W → W.cell? ⟨w.heap.size, 4, none⟩ = some (.slice (some ⟨b, o, none⟩) len cap)) := fun W hW => (HK0.out.below hW HK0.out.lt).cell 4
        have e1 : (j : Int) ≤ (len : Int) := by omega
        have e2 : (j : Int) ≤ (cap : Int) := by omega
        have e4 : (j : Int) + 1 ≤ (len : Int) := by omega
        clear ha7
        go_wp2_with fail
        obtain ⟨v1, w6, hr1, ho1, hg1, hk1⟩ := run_appE wr.drew wr.heap.size 22 (.slice none 0 0) [] (l.take j) (some ⟨b, o, none⟩) j cap (by rw [List.length_take]; have := HL.out; omega) (HE5.out _ (Below.refl _ _).drew) (fun h => by cases h) (OwnE.nil _ _) (by simp; omega) (Nat.le_refl _)
        have hb6 : Below wr.heap.size wr w6 := ((Below.refl _ _).drew).grown hg1 (Nat.le_refl _) (fun k hk => by cases hk)
        rw [List.nil_append] at ho1
        obtain ⟨v2, w7, hr2, ho2, hg2, hk2⟩ := run_appE w6 wr.heap.size 22 v1 (l.take j) (l.drop (j + 1)) (some a7) (len - (j + 1)) (cap - (j + 1)) (by rw [List.length_drop, HL.out]) (HE7.out _ hb6) (fun h => by cases h) ho1 (by rw [List.length_take]; have := HL.out; omega) hb6.size
        have hb7 : Below wr.heap.size wr w7 := hb6.grown hg2 hb6.size (fun k hk => (World.ownsRow.lt ho1 k hk).1)
        obtain ⟨q2, c2, hv2, -, -⟩ := ho2.ens
        rw [hv2] at ho2 hr2
        have hlen2 : (l.take j ++ l.drop (j + 1)).length = len - 1 := by simp; have := HL.out; omega
        rw [hlen2] at ho2 hr2
        have HO2 : Hid (OwnE w7 wr.heap.size (.slice q2 (len - 1) c2) (Pg.del l j)) := ho2
        have HB7 : Hid (Below wr.heap.size wr w7) := hb7
        have HR1 : Hid _ := hr1
        have HR2 : Hid _ := hr2
        have HB6 : Hid (Below wr.heap.size wr w6) := hb6
        have HK7 : Hid (Bk w7 w.heap.size 24 #[.bool leaf, .string lo, .string hi, .int .i64 r, .slice (some ⟨b, o, none⟩) len cap]) := HK0.out.below hb7 HK0.out.lt
        have HZ7 : Hid (Bk w7 (w.heap.size + 1) 24 zc) := HR0.out.below hb7 HR0.out.lt
        clear hr1 ho1 hg1 hk1 hr2 ho2 hg2 hk2 hb6 hb7 hv2 hlen2
        have hS := HS.out wr.drew (Below.refl _ _).drew
        refine wp_region_mid (S := (fun w' => w'.cell? ⟨w.heap.size, 4, none⟩ = some (.slice (some ⟨b, o, none⟩) len cap))) 13 (by kernel_rfl) ?_
        refine wpAnyM_take (i := 0) [] (oi := { dst := some 23, op := Op.move (Operand.tmp 7), type := 22, pos := _, after := #[], guard := none }) (v := .slice none 0 0) rfl (by kernel_rfl) (by kernel_rfl) (by kernel_rfl) (by kernel_rfl) (fun _ _ _ h => h) (Or.inl ⟨by rfl, ?_⟩) hS ?_
        · (intro w' hSw; have k0 := hSw; go_simp; try with_reducible rfl)
        try simp only [Act.put, List.setIfInBounds_toArray, List.set_cons_zero, List.set_cons_succ]
        refine wpAnyM_take (i := 1) [] (oi := { dst := some 24, op := Op.fieldAddr 24 (Operand.tmp 2) 4, type := 0, pos := _, after := #[], guard := none }) (v := ?_) rfl (by kernel_rfl) (by kernel_rfl) (by kernel_rfl) (by kernel_rfl) (fun _ _ _ h => h) (Or.inl ⟨by rfl, ?_⟩) hS ?_
        rotate_left
        · (intro w' hSw; have k0 := hSw; go_simp; try with_reducible rfl)
        try simp only [Act.put, List.setIfInBounds_toArray, List.set_cons_zero, List.set_cons_succ]
        refine wpAnyM_take (i := 2) [] (oi := { dst := some 25, op := Op.load 22 (Operand.tmp 24), type := 22, pos := _, after := #[{ on := 1, ground := Ground.data }], guard := none }) (v := .slice (some ⟨b, o, none⟩) len cap) rfl (by kernel_rfl) (by kernel_rfl) (by kernel_rfl) (by kernel_rfl) (fun _ _ _ h => h) (Or.inl ⟨by rfl, ?_⟩) hS ?_
        · (intro w' hSw; have k0 := hSw; go_simp; try with_reducible rfl)
        try simp only [Act.put, List.setIfInBounds_toArray, List.set_cons_zero, List.set_cons_succ]
        refine wpAnyM_take (i := 3) [] (oi := { dst := some 26, op := Op.move (Operand.tmp 6), type := 3, pos := _, after := #[], guard := none }) (v := .int .i64 (j : Int)) rfl (by kernel_rfl) (by kernel_rfl) (by kernel_rfl) (by kernel_rfl) (fun _ _ _ h => h) (Or.inl ⟨by rfl, ?_⟩) hS ?_
        · (intro w' hSw; have k0 := hSw; go_simp; try with_reducible rfl)
        try simp only [Act.put, List.setIfInBounds_toArray, List.set_cons_zero, List.set_cons_succ]
        refine wpAnyM_take (i := 4) [] (oi := { dst := some 27, op := Op.slice 22 (Operand.tmp 25) none (some (Operand.tmp 26)) none, type := 22, pos := _, after := #[{ on := 2, ground := Ground.data }, { on := 3, ground := Ground.data }], guard := none }) (v := .slice (some ⟨b, o, none⟩) j cap) rfl (by kernel_rfl) (by kernel_rfl) (by kernel_rfl) (by kernel_rfl) (fun _ _ _ h => h) (Or.inl ⟨by rfl, ?_⟩) hS ?_
        · (intro w' hSw; have k0 := hSw; go_simp; try with_reducible rfl)
        try simp only [Act.put, List.setIfInBounds_toArray, List.set_cons_zero, List.set_cons_succ]
        refine wpAnyM_take (i := 6) [] (oi := { dst := some 29, op := Op.fieldAddr 24 (Operand.tmp 2) 4, type := 0, pos := _, after := #[], guard := none }) (v := ?_) rfl (by kernel_rfl) (by kernel_rfl) (by kernel_rfl) (by kernel_rfl) (fun _ _ _ h => h) (Or.inl ⟨by rfl, ?_⟩) hS ?_
        rotate_left
        · (intro w' hSw; have k0 := hSw; go_simp; try with_reducible rfl)
        try simp only [Act.put, List.setIfInBounds_toArray, List.set_cons_zero, List.set_cons_succ]
        refine wpAnyM_take (i := 7) [] (oi := { dst := some 30, op := Op.load 22 (Operand.tmp 29), type := 22, pos := _, after := #[{ on := 6, ground := Ground.data }], guard := none }) (v := .slice (some ⟨b, o, none⟩) len cap) rfl (by kernel_rfl) (by kernel_rfl) (by kernel_rfl) (by kernel_rfl) (fun _ _ _ h => h) (Or.inl ⟨by rfl, ?_⟩) hS ?_
        · (intro w' hSw; have k0 := hSw; go_simp; try with_reducible rfl)
        try simp only [Act.put, List.setIfInBounds_toArray, List.set_cons_zero, List.set_cons_succ]
        refine wpAnyM_take (i := 8) [] (oi := { dst := some 31, op := Op.move (Operand.tmp 6), type := 3, pos := _, after := #[], guard := none }) (v := .int .i64 (j : Int)) rfl (by kernel_rfl) (by kernel_rfl) (by kernel_rfl) (by kernel_rfl) (fun _ _ _ h => h) (Or.inl ⟨by rfl, ?_⟩) hS ?_
        · (intro w' hSw; have k0 := hSw; go_simp; try with_reducible rfl)
        try simp only [Act.put, List.setIfInBounds_toArray, List.set_cons_zero, List.set_cons_succ]
        refine wpAnyM_take (i := 9) [] (oi := { dst := some 32, op := Op.binOp BinOp.add 3 (Operand.tmp 31) (Operand.const (Value.int IntKind.i64 1)) 3, type := 3, pos := _, after := #[{ on := 8, ground := Ground.data }], guard := none }) (v := .int .i64 ((j : Int) + 1)) rfl (by kernel_rfl) (by kernel_rfl) (by kernel_rfl) (by kernel_rfl) (fun _ _ _ h => h) (Or.inl ⟨by rfl, ?_⟩) hS ?_
        · (intro w' hSw; have k0 := hSw; go_simp; exact wrap_id9 (by omega))
        try simp only [Act.put, List.setIfInBounds_toArray, List.set_cons_zero, List.set_cons_succ]
        refine wpAnyM_take (i := 10) [] (oi := { dst := some 33, op := Op.slice 22 (Operand.tmp 30) (some (Operand.tmp 32)) none none, type := 22, pos := _, after := #[{ on := 7, ground := Ground.data }, { on := 9, ground := Ground.data }], guard := none }) (v := .slice (some a7) (len - (j + 1)) (cap - (j + 1))) rfl (by kernel_rfl) (by kernel_rfl) (by kernel_rfl) (by kernel_rfl) (fun _ _ _ h => h) (Or.inl ⟨by rfl, ?_⟩) hS ?_
        · (intro w' hSw; have k0 := hSw; go_simp; exact E7.out)
        try simp only [Act.put, List.setIfInBounds_toArray, List.set_cons_zero, List.set_cons_succ]
        refine wpAnyM_ready (rs := [5]) (by kernel_rfl) (by simp) ?_
        refine AllReadyM.cons (o := { dst := some 28, op := Op.call { callee := Callee.builtin Builtin.append, args := #[Operand.tmp 23, Operand.tmp 27], argTypes := #[22, 22] }, type := 22, pos := _, after := #[{ on := 0, ground := Ground.data }, { on := 4, ground := Ground.data }], guard := none }) rfl (fun K hK => ?_) AllReadyM.nil
        have HK9 : Hid (∀ a w, _ → K a w) := hK
        clear hK
        refine step_appR rfl _ _ _ rfl _ _ rfl rfl HR1.out ?_
        refine HK9.out _ _ ⟨fun _ => HS.out _ HB6.out, ?_⟩
        clear HK9 K
        try simp only [Act.put, List.setIfInBounds_toArray, List.set_cons_zero, List.set_cons_succ]
        refine wpAnyM_ready (rs := [11]) (by kernel_rfl) (by simp) ?_
        refine AllReadyM.cons (o := { dst := some 34, op := Op.call { callee := Callee.builtin Builtin.append, args := #[Operand.tmp 28, Operand.tmp 33], argTypes := #[22, 22] }, type := 22, pos := _, after := #[{ on := 5, ground := Ground.data }, { on := 10, ground := Ground.data }, { on := 5, ground := Ground.chain }], guard := none }) rfl (fun K hK => ?_) AllReadyM.nil
        have HK9 : Hid (∀ a w, _ → K a w) := hK
        clear hK
        refine step_appR rfl _ _ _ rfl _ _ rfl rfl HR2.out ?_
        refine HK9.out _ _ ⟨fun _ => HS.out _ HB7.out, ?_⟩
        clear HK9 K
        try simp only [Act.put, List.setIfInBounds_toArray, List.set_cons_zero, List.set_cons_succ]
        have a4' : w7.cell? ⟨w.heap.size, 4, none⟩ = some (.slice (some ⟨b, o, none⟩) len cap) := HK7.out.cell 4
        have z4' : w7.frozen? ⟨w.heap.size, 4, none⟩ = false := HK7.out.frozen 4
        refine wpAnyM_ready (rs := [12]) (by kernel_rfl) (by simp) ?_
        refine AllReadyM.cons (o := { dst := some 35, op := Op.fieldAddr 24 (Operand.tmp 2) 4, type := 0, pos := _, after := #[{ on := 0, ground := Ground.phase }, { on := 1, ground := Ground.phase }, { on := 2, ground := Ground.phase }, { on := 3, ground := Ground.phase }, { on := 4, ground := Ground.phase }, { on := 5, ground := Ground.phase }, { on := 6, ground := Ground.phase }, { on := 7, ground := Ground.phase }, { on := 8, ground := Ground.phase }, { on := 9, ground := Ground.phase }, { on := 10, ground := Ground.phase }, { on := 11, ground := Ground.phase }], guard := none }) rfl (fun K hK => ?_) AllReadyM.nil
        have HK9 : Hid (∀ a w, _ → K a w) := hK
        clear hK
        go_simp
        refine HK9.out _ _ ⟨fun _ => a4', ?_⟩
        clear HK9 K
        try simp only [Act.put, List.setIfInBounds_toArray, List.set_cons_zero, List.set_cons_succ]
        refine wpAnyM_ready (rs := [13]) (by kernel_rfl) (by simp) ?_
        refine AllReadyM.cons (o := { dst := none, op := Op.store 22 (Operand.tmp 35) (Operand.tmp 34), type := 0, pos := _, after := #[{ on := 12, ground := Ground.data }, { on := 11, ground := Ground.data }, { on := 11, ground := Ground.chain }, { on := 0, ground := Ground.phase }, { on := 1, ground := Ground.phase }, { on := 2, ground := Ground.phase }, { on := 3, ground := Ground.phase }, { on := 4, ground := Ground.phase }, { on := 5, ground := Ground.phase }, { on := 6, ground := Ground.phase }, { on := 7, ground := Ground.phase }, { on := 8, ground := Ground.phase }, { on := 9, ground := Ground.phase }, { on := 10, ground := Ground.phase }, { on := 11, ground := Ground.phase }], guard := none }) rfl (fun K hK => ?_) AllReadyM.nil
        have HK9 : Hid (∀ a w, _ → K a w) := hK
        clear hK
        go_simp
        refine HK9.out _ _ ⟨fun h => absurd h (by omega), ?_⟩
        clear HK9 K
        try simp only [Act.put, List.setIfInBounds_toArray, List.set_cons_zero, List.set_cons_succ]
        refine wpAnyM_done (by kernel_rfl) ?_ _
        obtain ⟨w8, hw8⟩ : ∃ w8, w7.setCell ⟨w.heap.size, 4, none⟩ (.slice q2 (len - 1) c2) = w8 := ⟨_, rfl⟩
        have hk8 : Bk w8 w.heap.size 24 #[.bool leaf, .string lo, .string hi, .int .i64 r, .slice q2 (len - 1) c2] := by rw [← hw8]; exact HK7.out.set 4 _
        have hr8 : Bk w8 (w.heap.size + 1) 24 zc := by rw [← hw8]; exact HZ7.out.other (by simp) _
        have ht8 : Tn [w.heap.size] w7 w8 := by rw [← hw8]; exact (Tn.refl _ _).setCell (.inl (by simp)) _
        rw [hw8]
        clear hw8 a4' z4' hS
        have a0 : w8.cell? ⟨w.heap.size, 0, none⟩ = some (.bool leaf) := hk8.cell 0
        have a1 : w8.cell? ⟨w.heap.size, 1, none⟩ = some (.string lo) := hk8.cell 1
        have a2 : w8.cell? ⟨w.heap.size, 2, none⟩ = some (.string hi) := hk8.cell 2
        have a3 : w8.cell? ⟨w.heap.size, 3, none⟩ = some (.int .i64 r) := hk8.cell 3
        have a4 : w8.cell? ⟨w.heap.size, 4, none⟩ = some (.slice q2 (len - 1) c2) := hk8.cell 4
        have b0 : w8.cell? ⟨w.heap.size + 1, 0, none⟩ = some (.bool false) := hr8.cell 0
        have f0 : w8.frozen? ⟨w.heap.size + 1, 0, none⟩ = false := hr8.frozen 0
        have b1 : w8.cell? ⟨w.heap.size + 1, 1, none⟩ = some (.string ⟨#[]⟩) := hr8.cell 1
        have f1 : w8.frozen? ⟨w.heap.size + 1, 1, none⟩ = false := hr8.frozen 1
        have b2 : w8.cell? ⟨w.heap.size + 1, 2, none⟩ = some (.string ⟨#[]⟩) := hr8.cell 2
        have f2 : w8.frozen? ⟨w.heap.size + 1, 2, none⟩ = false := hr8.frozen 2
        have b3 : w8.cell? ⟨w.heap.size + 1, 3, none⟩ = some (.int .i64 0) := hr8.cell 3
        have f3 : w8.frozen? ⟨w.heap.size + 1, 3, none⟩ = false := hr8.frozen 3
        have b4 : w8.cell? ⟨w.heap.size + 1, 4, none⟩ = some (.slice none 0 0) := hr8.cell 4
        have f4 : w8.frozen? ⟨w.heap.size + 1, 4, none⟩ = false := hr8.frozen 4
        have HR8 : Hid (Bk w8 (w.heap.size + 1) 24 zc) := hr8
        have HT8 : Hid (Tn [w.heap.size] w7 w8) := ht8
        clear hk8 hr8 ht8
        go_wp2
        obtain ⟨we, hwe⟩ : ∃ we, we = put5 w8 (w.heap.size + 1) (.bool leaf) (.string lo) (.string hi) (.int .i64 r) (.slice q2 (len - 1) c2) := ⟨_, rfl⟩
        have hA : Bk we (w.heap.size + 1) 24 #[.bool leaf, .string lo, .string hi, .int .i64 r, .slice q2 (len - 1) c2] := by rw [hwe]; exact Bk.five HR8.out _ _ _ _ _
        have ht : Tn [w.heap.size + 1] w8 we := by rw [hwe]; exact (Tn.refl _ _).five (.inl (by simp)) _ _ _ _ _
        unfold put5 at hwe
        rw [← hwe]
        clear hwe
        refine bodyPost_ret (results_two (cs := [.bool leaf, .string lo, .string hi, .int .i64 r, .slice q2 (len - 1) c2]) rfl rfl pg_agg pg_size rfl hA) rfl ?_
        rw [HQ.out]
        have hs0 := HR0.out.lt
        have t7 : Tn [w.heap.size, w.heap.size + 1] w7 we := (HT8.out.mono (by simp)).trans ht (by simp)
        have hB7 := HB0.out.trans (HB7.out.mono HB0.out.size)
        have hdl : (Pg.del l j).length = len - 1 := by unfold Pg.del; simp; have := HL.out; omega
        refine ⟨_, rfl, ⟨q2, c2, by simp only [hdl], ?_⟩, hB7.trans (t7.below hB7.size (by simp))⟩
        simp only [hdl]
        exact ((HO2.out.seg).tn t7 (by simp; omega)).mono HB0.out.size
      | false =>
        have hqs : (x.key.toList == key.toList) = false := hq
        have HF2 : Hid (j + 1 ≤ l.findIdx (Pg.is key)) := findIdx_miss HF.out HG.out hq
        clear hq
        go_wp2
        go_roundw
        case rel => exact ⟨j + 1, by omega, by go_num, by trivial, HF2⟩
        case measure => simp [intOf]; omega
    · have hli : ¬ (j : Int) < (len : Int) := by omega
      have HQ : Hid (out = (Pg.zero, 4)) := by
        have := HO.out
        rw [findIdx_none (by have := HF.out; have := HL.out; omega)] at this
        exact this
      clear HO HF
      have b0 : wr.cell? ⟨w.heap.size + 1, 0, none⟩ = some (.bool false) := HR0.out.cell 0
      have f0 : wr.frozen? ⟨w.heap.size + 1, 0, none⟩ = false := HR0.out.frozen 0
      have b1 : wr.cell? ⟨w.heap.size + 1, 1, none⟩ = some (.string ⟨#[]⟩) := HR0.out.cell 1
      have f1 : wr.frozen? ⟨w.heap.size + 1, 1, none⟩ = false := HR0.out.frozen 1
      have b2 : wr.cell? ⟨w.heap.size + 1, 2, none⟩ = some (.string ⟨#[]⟩) := HR0.out.cell 2
      have f2 : wr.frozen? ⟨w.heap.size + 1, 2, none⟩ = false := HR0.out.frozen 2
      have b3 : wr.cell? ⟨w.heap.size + 1, 3, none⟩ = some (.int .i64 0) := HR0.out.cell 3
      have f3 : wr.frozen? ⟨w.heap.size + 1, 3, none⟩ = false := HR0.out.frozen 3
      have b4 : wr.cell? ⟨w.heap.size + 1, 4, none⟩ = some (.slice none 0 0) := HR0.out.cell 4
      have f4 : wr.frozen? ⟨w.heap.size + 1, 4, none⟩ = false := HR0.out.frozen 4
      go_wp2
      obtain ⟨we, hwe⟩ : ∃ we, we = put5 wr (w.heap.size + 1) (.bool false) (.string ⟨#[]⟩) (.string ⟨#[]⟩) (.int .i64 0) (.slice none 0 0) := ⟨_, rfl⟩
      have hA : Bk we (w.heap.size + 1) 24 #[.bool false, .string ⟨#[]⟩, .string ⟨#[]⟩, .int .i64 0, .slice none 0 0] := by rw [hwe]; exact Bk.five HR0.out _ _ _ _ _
      have ht : Tn [w.heap.size + 1] wr we := by rw [hwe]; exact (Tn.refl _ _).five (.inl (by simp)) _ _ _ _ _
      unfold put5 at hwe
      rw [← hwe]
      clear hwe
      refine bodyPost_ret (results_two (cs := [.bool false, .string ⟨#[]⟩, .string ⟨#[]⟩, .int .i64 0, .slice none 0 0]) rfl rfl pg_agg pg_size rfl hA) rfl ?_
      rw [HQ.out]
      exact ⟨_, rfl, PgAt.zero _ _, HB0.out.trans (ht.below HB0.out.size (by simp))⟩
end Go.Proofs.YtkmlholjglmfnaaGreat
