/- Chains: Page, over a chain that has a base. -/
import Derived.Test.YtoehlgigidgfpaaGreatPgRm
import Derived.Test.YtoehlgigidgfpaaGreatPgMg
import Derived.Test.YtoehlgigidgfpaaGreatRgM
import Derived.BigQuiet
import Derived.Test.YtoehlgigidgfpaaGreatChainPacksB
import Derived.Test.YtoehlgigidgfpaaGreatDlL
import Derived.Maps.AppendAt
import Derived.Sort.OwnSorted
import Derived.Lib.OwnBridge
import Derived.Shelf.SortM.Plain
import Derived.Shelf.SortM.SortNone
import Derived.Shelf.SlicesG.CompactS
import Derived.Test.YtoehlgigidgfpaaGreatPgPu
import Derived.Test.YtoehlgigidgfpaaGreatDlB
namespace Go.Proofs.YtoehlgigidgfpaaGreat
open Go.RowKit Go.Sort
set_option linter.unusedVariables false
set_option maxRecDepth 100000

/-- An append whose run is known, in a drawn region. -/
theorem step_appR {ops : Array Oper} {o : Oper} {a : Act} {w : World} {K : Act → World → Prop} {Q : Exit → Act → World → Prop} {E : Prop}
    (hg : o.guard = none) (s x : Operand) (t : TypeId) (hop : o.op = Op.call { callee := Callee.builtin Builtin.append, args := #[s, x], argTypes := #[t, t] })
    (v u : Value) (hs : a.eval s = v) (hx : a.eval x = u) {v' : Value} {w' : World} (hr : (Builtin.append_ #[t, t] o.type #[v, u]).run Tryz.prog w = .ok v' w') (hK : K (a.put o.dst v') w') :
    if Region.wanted o (yielded ops a.tmps) = true then Oper.wp Tryz.prog o a w K Q else E := by
  have hw : Region.wanted o (yielded ops a.tmps) = true := by simp [Region.wanted, hg]
  rw [if_pos hw]
  unfold Oper.wp
  simp [execOp, hop, resolve, invoke, builtin, hs, hx, hr, Result.andThen]
  exact hK

theorem findIdx_hit {α : Type} {l : List α} {p : α → Bool} {j : Nat} {x : α} (hj : j ≤ l.findIdx p) (hx : l[j]? = some x) (hp : p x = true) : l.findIdx p = j := by
  rcases Nat.lt_or_ge j (l.findIdx p) with h | h
  · have hl := (List.getElem?_eq_some_iff.1 hx)
    obtain ⟨h1, h2⟩ := hl
    have := List.not_of_lt_findIdx h
    rw [h2] at this
    simp [hp] at this
  · omega

theorem findIdx_miss {α : Type} {l : List α} {p : α → Bool} {j : Nat} {x : α} (hj : j ≤ l.findIdx p) (hx : l[j]? = some x) (hp : p x = false) : j + 1 ≤ l.findIdx p := by
  rcases Nat.lt_or_ge j (l.findIdx p) with h | h
  · omega
  · have e : l.findIdx p = j := by omega
    obtain ⟨h1, h2⟩ := List.getElem?_eq_some_iff.1 hx
    have h3 : l.findIdx p < l.length := by omega
    have := List.findIdx_getElem (w := h3)
    simp only [e, h2, hp] at this
    cases this

theorem findIdx_none {α : Type} {l : List α} {p : α → Bool} (h : l.length ≤ l.findIdx p) : l.any p = false := by
  rw [List.any_eq_false]
  intro x hx
  obtain ⟨i, hi, rfl⟩ := List.getElem_of_mem hx
  have := List.not_of_lt_findIdx (p := p) (xs := l) (i := i) (by omega)
  simpa using this

theorem any_hit {α : Type} {l : List α} {p : α → Bool} {j : Nat} {x : α} (hx : l[j]? = some x) (hp : p x = true) : l.any p = true :=
  List.any_eq_true.2 ⟨x, List.mem_of_getElem? hx, hp⟩

set_option maxHeartbeats 8000000 in
theorem rremove_any (leaf : Bool) (lo hi : ByteArray) (r : Int) (p : Option Addr) (len cap : Nat) (l : List En) (key : ByteArray) (w : World) (hlen : l.length = len) (hx : Ens w p l) (hl : len ≤ 3518437208782) (hc : len ≤ cap) :
    Calls Tryz.prog 56 #[pgv leaf lo hi r p len cap, .string key] w fun e w' => ∃ v, e = .returned (.tuple #[v, .int .i64 (Pg.remove ⟨leaf, lo, hi, r, l⟩ key).2]) ∧ PgAt w' w.heap.size v (Pg.remove ⟨leaf, lo, hi, r, l⟩ key).1 ∧ Below w.heap.size w w' := by
  obtain ⟨w0, hw0⟩ : ∃ w0, (w.alloc (.cells #[.bool leaf, .string lo, .string hi, .int .i64 r, .slice p len cap] 29)).alloc (.cells zc 29) = w0 := ⟨_, rfl⟩
  have HB0 : Hid (Below w.heap.size w w0) := by rw [← hw0]; exact ((Below.refl _ _).alloc (Nat.le_refl _) _).alloc (by simp) _
  have HK0 : Hid (Bk w0 w.heap.size 29 #[.bool leaf, .string lo, .string hi, .int .i64 r, .slice p len cap]) := by rw [← hw0]; exact (Bk.new _ _ _).alloc _
  have HR0 : Hid (Bk w0 (w.heap.size + 1) 29 zc) := by rw [← hw0]; exact Bk.new1 _ _ _ _
  have HX : Hid (Ens w0 p l) := hx.below HB0.out (Nat.le_refl _)
  have HL : Hid (l.length = len) := hlen
  clear hx hlen
  obtain ⟨out, hout⟩ : ∃ out, Pg.remove ⟨leaf, lo, hi, r, l⟩ key = out := ⟨_, rfl⟩
  rw [hout]
  have HO : Hid (out = if l.any (Pg.is key) then (⟨leaf, lo, hi, r, Pg.del l (l.findIdx (Pg.is key))⟩, 0) else (Pg.zero, 4)) := hout.symm
  clear hout
  have a4 : w0.cell? ⟨w.heap.size, 4, none⟩ = some (.slice p len cap) := HK0.out.cell 4
  go_enter Tryz.func56, Tryz.ntmps56
  go_wp2_with fail
  clear hw0
  go_loopw [6] (fun iv wr => ∃ j : Nat, j ≤ len ∧ iv = .int .i64 j ∧ wr = w0 ∧ Hid (j ≤ l.findIdx (Pg.is key))) (fun iv _ => len - (intOf iv).toNat)
  case atStart => exact ⟨0, Nat.zero_le _, rfl, by trivial, Nat.zero_le _⟩
  case round =>
    obtain ⟨j, hj, rfl, rfl, HF⟩ := hrel
    by_cases hlt : j < len
    · have hli : (j : Int) < (len : Int) := by omega
      have hj0 : (0 : Int) ≤ (j : Int) := by omega
      obtain ⟨b, o, x, rfl, hgx, -, x0, -, -, -⟩ := HX.out.at (j := j) (by have := HL.out; omega)
      have HG : Hid (l[j]? = some x) := hgx
      clear hgx
      cases hq : Pg.is key x with
      | true =>
        have hqs : (x.key.toList == key.toList) = true := hq
        have HQ : Hid (out = (⟨leaf, lo, hi, r, Pg.del l j⟩, 0)) := by
          have := HO.out
          rw [any_hit HG.out hq, findIdx_hit HF.out HG.out hq] at this
          exact this
        clear hq HO HF
        obtain ⟨a7, ha7⟩ : ∃ a7 : Addr, (if cap = j + 1 then some (⟨b, o, none⟩ : Addr) else some ⟨b, o + (j + 1) * 4, none⟩) = some a7 := by split <;> exact ⟨_, rfl⟩
        have HE7 : Hid (∀ W, Below wr.heap.size wr W → Ens W (some a7) (l.drop (j + 1))) := fun W hW => by
          by_cases hlast : len = j + 1
          · rw [List.drop_of_length_le (by have := HL.out; omega)]
            exact Ens.nil _ _
          · rw [if_neg (by omega)] at ha7
            obtain rfl := Option.some.inj ha7
            exact ((HX.out.below hW (Nat.le_refl _)).drop (j + 1))
        have HE5 : Hid (∀ W, Below wr.heap.size wr W → Ens W (some ⟨b, o, none⟩) (l.take j)) := fun W hW => (HX.out.below hW (Nat.le_refl _)).take j
        have E7 : Hid ((if cap = j + 1 then some (⟨b, o, none⟩ : Addr) else some ⟨b, o + (j + 1) * 4, none⟩) = some a7) := ha7
        have e6 : (0 : Int) ≤ (j : Int) + 1 := by omega
        have HS : Hid (∀ W, Below wr.heap.size wr W → W.cell? ⟨w.heap.size, 4, none⟩ = some (.slice (some ⟨b, o, none⟩) len cap)) := fun W hW => (HK0.out.below hW HK0.out.lt).cell 4
        have e1 : (j : Int) ≤ (len : Int) := by omega
        have e2 : (j : Int) ≤ (cap : Int) := by omega
        have e4 : (j : Int) + 1 ≤ (len : Int) := by omega
        clear ha7
        go_wp2_with fail
        obtain ⟨v1, w6, hr1, ho1, hg1, hk1⟩ := run_appE wr.drew wr.heap.size 27 (.slice none 0 0) [] (l.take j) (some ⟨b, o, none⟩) j cap (by rw [List.length_take]; have := HL.out; omega) (HE5.out _ (Below.refl _ _).drew) (fun h => by cases h) (OwnE.nil _ _) (by simp; omega) (Nat.le_refl _)
        have hb6 : Below wr.heap.size wr w6 := ((Below.refl _ _).drew).grown hg1 (Nat.le_refl _) (fun k hk => by cases hk)
        rw [List.nil_append] at ho1
        obtain ⟨v2, w7, hr2, ho2, hg2, hk2⟩ := run_appE w6 wr.heap.size 27 v1 (l.take j) (l.drop (j + 1)) (some a7) (len - (j + 1)) (cap - (j + 1)) (by rw [List.length_drop, HL.out]) (HE7.out _ hb6) (fun h => by cases h) ho1 (by rw [List.length_take]; have := HL.out; omega) hb6.size
        have hb7 : Below wr.heap.size wr w7 := hb6.grown hg2 hb6.size (fun k hk => (World.ownsRow.lt ho1 k hk).1)
        obtain ⟨q2, c2, hv2, -, -⟩ := ho2.ens
        rw [hv2] at ho2 hr2
        have hlen2 : (l.take j ++ l.drop (j + 1)).length = len - 1 := by simp; have := HL.out; omega
        rw [hlen2] at ho2 hr2
        have HO2 : Hid (OwnE w7 wr.heap.size (.slice q2 (len - 1) c2) (Pg.del l j)) := ho2
        have HB7 : Hid (Below wr.heap.size wr w7) := hb7
        have HR1 : Hid _ := hr1
        have HR2 : Hid _ := hr2
        have HB6 : Hid (Below wr.heap.size wr w6) := hb6
        have HK7 : Hid (Bk w7 w.heap.size 29 #[.bool leaf, .string lo, .string hi, .int .i64 r, .slice (some ⟨b, o, none⟩) len cap]) := HK0.out.below hb7 HK0.out.lt
        have HZ7 : Hid (Bk w7 (w.heap.size + 1) 29 zc) := HR0.out.below hb7 HR0.out.lt
        clear hr1 ho1 hg1 hk1 hr2 ho2 hg2 hk2 hb6 hb7 hv2 hlen2
        have hS := HS.out wr.drew (Below.refl _ _).drew
        refine wp_region_mid (S := (fun w' => w'.cell? ⟨w.heap.size, 4, none⟩ = some (.slice (some ⟨b, o, none⟩) len cap))) 13 (by kernel_rfl) ?_
        refine wpAnyM_take (i := 0) [] (oi := { dst := some 23, op := Op.move (Operand.tmp 7), type := 27, pos := _, after := #[], guard := none }) (v := .slice none 0 0) rfl (by kernel_rfl) (by kernel_rfl) (by kernel_rfl) (by kernel_rfl) (fun _ _ _ h => h) (Or.inl ⟨by rfl, ?_⟩) hS ?_
        · (intro w' hSw; have k0 := hSw; go_simp; try with_reducible rfl)
        try simp only [Act.put, List.setIfInBounds_toArray, List.set_cons_zero, List.set_cons_succ]
        refine wpAnyM_take (i := 1) [] (oi := { dst := some 24, op := Op.fieldAddr 29 (Operand.tmp 2) 4, type := 0, pos := _, after := #[], guard := none }) (v := ?_) rfl (by kernel_rfl) (by kernel_rfl) (by kernel_rfl) (by kernel_rfl) (fun _ _ _ h => h) (Or.inl ⟨by rfl, ?_⟩) hS ?_
        rotate_left
        · (intro w' hSw; have k0 := hSw; go_simp; try with_reducible rfl)
        try simp only [Act.put, List.setIfInBounds_toArray, List.set_cons_zero, List.set_cons_succ]
        refine wpAnyM_take (i := 2) [] (oi := { dst := some 25, op := Op.load 27 (Operand.tmp 24), type := 27, pos := _, after := #[{ on := 1, ground := Ground.data }], guard := none }) (v := .slice (some ⟨b, o, none⟩) len cap) rfl (by kernel_rfl) (by kernel_rfl) (by kernel_rfl) (by kernel_rfl) (fun _ _ _ h => h) (Or.inl ⟨by rfl, ?_⟩) hS ?_
        · (intro w' hSw; have k0 := hSw; go_simp; try with_reducible rfl)
        try simp only [Act.put, List.setIfInBounds_toArray, List.set_cons_zero, List.set_cons_succ]
        refine wpAnyM_take (i := 3) [] (oi := { dst := some 26, op := Op.move (Operand.tmp 6), type := 3, pos := _, after := #[], guard := none }) (v := .int .i64 (j : Int)) rfl (by kernel_rfl) (by kernel_rfl) (by kernel_rfl) (by kernel_rfl) (fun _ _ _ h => h) (Or.inl ⟨by rfl, ?_⟩) hS ?_
        · (intro w' hSw; have k0 := hSw; go_simp; try with_reducible rfl)
        try simp only [Act.put, List.setIfInBounds_toArray, List.set_cons_zero, List.set_cons_succ]
        refine wpAnyM_take (i := 4) [] (oi := { dst := some 27, op := Op.slice 27 (Operand.tmp 25) none (some (Operand.tmp 26)) none, type := 27, pos := _, after := #[{ on := 2, ground := Ground.data }, { on := 3, ground := Ground.data }], guard := none }) (v := .slice (some ⟨b, o, none⟩) j cap) rfl (by kernel_rfl) (by kernel_rfl) (by kernel_rfl) (by kernel_rfl) (fun _ _ _ h => h) (Or.inl ⟨by rfl, ?_⟩) hS ?_
        · (intro w' hSw; have k0 := hSw; go_simp; try with_reducible rfl)
        try simp only [Act.put, List.setIfInBounds_toArray, List.set_cons_zero, List.set_cons_succ]
        refine wpAnyM_take (i := 6) [] (oi := { dst := some 29, op := Op.fieldAddr 29 (Operand.tmp 2) 4, type := 0, pos := _, after := #[], guard := none }) (v := ?_) rfl (by kernel_rfl) (by kernel_rfl) (by kernel_rfl) (by kernel_rfl) (fun _ _ _ h => h) (Or.inl ⟨by rfl, ?_⟩) hS ?_
        rotate_left
        · (intro w' hSw; have k0 := hSw; go_simp; try with_reducible rfl)
        try simp only [Act.put, List.setIfInBounds_toArray, List.set_cons_zero, List.set_cons_succ]
        refine wpAnyM_take (i := 7) [] (oi := { dst := some 30, op := Op.load 27 (Operand.tmp 29), type := 27, pos := _, after := #[{ on := 6, ground := Ground.data }], guard := none }) (v := .slice (some ⟨b, o, none⟩) len cap) rfl (by kernel_rfl) (by kernel_rfl) (by kernel_rfl) (by kernel_rfl) (fun _ _ _ h => h) (Or.inl ⟨by rfl, ?_⟩) hS ?_
        · (intro w' hSw; have k0 := hSw; go_simp; try with_reducible rfl)
        try simp only [Act.put, List.setIfInBounds_toArray, List.set_cons_zero, List.set_cons_succ]
        refine wpAnyM_take (i := 8) [] (oi := { dst := some 31, op := Op.move (Operand.tmp 6), type := 3, pos := _, after := #[], guard := none }) (v := .int .i64 (j : Int)) rfl (by kernel_rfl) (by kernel_rfl) (by kernel_rfl) (by kernel_rfl) (fun _ _ _ h => h) (Or.inl ⟨by rfl, ?_⟩) hS ?_
        · (intro w' hSw; have k0 := hSw; go_simp; try with_reducible rfl)
        try simp only [Act.put, List.setIfInBounds_toArray, List.set_cons_zero, List.set_cons_succ]
        refine wpAnyM_take (i := 9) [] (oi := { dst := some 32, op := Op.binOp BinOp.add 3 (Operand.tmp 31) (Operand.const (Value.int IntKind.i64 1)) 3, type := 3, pos := _, after := #[{ on := 8, ground := Ground.data }], guard := none }) (v := .int .i64 ((j : Int) + 1)) rfl (by kernel_rfl) (by kernel_rfl) (by kernel_rfl) (by kernel_rfl) (fun _ _ _ h => h) (Or.inl ⟨by rfl, ?_⟩) hS ?_
        · (intro w' hSw; have k0 := hSw; go_simp; exact wrap_id9 (by omega))
        try simp only [Act.put, List.setIfInBounds_toArray, List.set_cons_zero, List.set_cons_succ]
        refine wpAnyM_take (i := 10) [] (oi := { dst := some 33, op := Op.slice 27 (Operand.tmp 30) (some (Operand.tmp 32)) none none, type := 27, pos := _, after := #[{ on := 7, ground := Ground.data }, { on := 9, ground := Ground.data }], guard := none }) (v := .slice (some a7) (len - (j + 1)) (cap - (j + 1))) rfl (by kernel_rfl) (by kernel_rfl) (by kernel_rfl) (by kernel_rfl) (fun _ _ _ h => h) (Or.inl ⟨by rfl, ?_⟩) hS ?_
        · (intro w' hSw; have k0 := hSw; go_simp; exact E7.out)
        try simp only [Act.put, List.setIfInBounds_toArray, List.set_cons_zero, List.set_cons_succ]
        refine wpAnyM_ready (rs := [5]) (by kernel_rfl) (by simp) ?_
        refine AllReadyM.cons (o := { dst := some 28, op := Op.call { callee := Callee.builtin Builtin.append, args := #[Operand.tmp 23, Operand.tmp 27], argTypes := #[27, 27] }, type := 27, pos := _, after := #[{ on := 0, ground := Ground.data }, { on := 4, ground := Ground.data }], guard := none }) rfl (fun K hK => ?_) AllReadyM.nil
        have HK9 : Hid (∀ a w, _ → K a w) := hK
        clear hK
        refine step_appR rfl _ _ _ rfl _ _ rfl rfl HR1.out ?_
        refine HK9.out _ _ ⟨fun _ => HS.out _ HB6.out, ?_⟩
        clear HK9 K
        try simp only [Act.put, List.setIfInBounds_toArray, List.set_cons_zero, List.set_cons_succ]
        refine wpAnyM_ready (rs := [11]) (by kernel_rfl) (by simp) ?_
        refine AllReadyM.cons (o := { dst := some 34, op := Op.call { callee := Callee.builtin Builtin.append, args := #[Operand.tmp 28, Operand.tmp 33], argTypes := #[27, 27] }, type := 27, pos := _, after := #[{ on := 5, ground := Ground.data }, { on := 10, ground := Ground.data }, { on := 5, ground := Ground.chain }], guard := none }) rfl (fun K hK => ?_) AllReadyM.nil
        have HK9 : Hid (∀ a w, _ → K a w) := hK
        clear hK
        refine step_appR rfl _ _ _ rfl _ _ rfl rfl HR2.out ?_
        refine HK9.out _ _ ⟨fun _ => HS.out _ HB7.out, ?_⟩
        clear HK9 K
        try simp only [Act.put, List.setIfInBounds_toArray, List.set_cons_zero, List.set_cons_succ]
        have a4' : w7.cell? ⟨w.heap.size, 4, none⟩ = some (.slice (some ⟨b, o, none⟩) len cap) := HK7.out.cell 4
        have z4' : w7.frozen? ⟨w.heap.size, 4, none⟩ = false := HK7.out.frozen 4
        refine wpAnyM_ready (rs := [12]) (by kernel_rfl) (by simp) ?_
        refine AllReadyM.cons (o := { dst := some 35, op := Op.fieldAddr 29 (Operand.tmp 2) 4, type := 0, pos := _, after := #[{ on := 0, ground := Ground.phase }, { on := 1, ground := Ground.phase }, { on := 2, ground := Ground.phase }, { on := 3, ground := Ground.phase }, { on := 4, ground := Ground.phase }, { on := 5, ground := Ground.phase }, { on := 6, ground := Ground.phase }, { on := 7, ground := Ground.phase }, { on := 8, ground := Ground.phase }, { on := 9, ground := Ground.phase }, { on := 10, ground := Ground.phase }, { on := 11, ground := Ground.phase }], guard := none }) rfl (fun K hK => ?_) AllReadyM.nil
        have HK9 : Hid (∀ a w, _ → K a w) := hK
        clear hK
        go_simp
        refine HK9.out _ _ ⟨fun _ => a4', ?_⟩
        clear HK9 K
        try simp only [Act.put, List.setIfInBounds_toArray, List.set_cons_zero, List.set_cons_succ]
        refine wpAnyM_ready (rs := [13]) (by kernel_rfl) (by simp) ?_
        refine AllReadyM.cons (o := { dst := none, op := Op.store 27 (Operand.tmp 35) (Operand.tmp 34), type := 0, pos := _, after := #[{ on := 12, ground := Ground.data }, { on := 11, ground := Ground.data }, { on := 11, ground := Ground.chain }, { on := 0, ground := Ground.phase }, { on := 1, ground := Ground.phase }, { on := 2, ground := Ground.phase }, { on := 3, ground := Ground.phase }, { on := 4, ground := Ground.phase }, { on := 5, ground := Ground.phase }, { on := 6, ground := Ground.phase }, { on := 7, ground := Ground.phase }, { on := 8, ground := Ground.phase }, { on := 9, ground := Ground.phase }, { on := 10, ground := Ground.phase }, { on := 11, ground := Ground.phase }], guard := none }) rfl (fun K hK => ?_) AllReadyM.nil
        have HK9 : Hid (∀ a w, _ → K a w) := hK
        clear hK
        go_simp
        refine HK9.out _ _ ⟨fun h => absurd h (by omega), ?_⟩
        clear HK9 K
        try simp only [Act.put, List.setIfInBounds_toArray, List.set_cons_zero, List.set_cons_succ]
        refine wpAnyM_done (by kernel_rfl) ?_ _
        obtain ⟨w8, hw8⟩ : ∃ w8, w7.setCell ⟨w.heap.size, 4, none⟩ (.slice q2 (len - 1) c2) = w8 := ⟨_, rfl⟩
        have hk8 : Bk w8 w.heap.size 29 #[.bool leaf, .string lo, .string hi, .int .i64 r, .slice q2 (len - 1) c2] := by rw [← hw8]; exact HK7.out.set 4 _
        have hr8 : Bk w8 (w.heap.size + 1) 29 zc := by rw [← hw8]; exact HZ7.out.other (by simp) _
        have ht8 : Tn [w.heap.size] w7 w8 := by rw [← hw8]; exact (Tn.refl _ _).setCell (.inl (by simp)) _
        rw [hw8]
        clear hw8 a4' z4' hS
        have a0 : w8.cell? ⟨w.heap.size, 0, none⟩ = some (.bool leaf) := hk8.cell 0
        have a1 : w8.cell? ⟨w.heap.size, 1, none⟩ = some (.string lo) := hk8.cell 1
        have a2 : w8.cell? ⟨w.heap.size, 2, none⟩ = some (.string hi) := hk8.cell 2
        have a3 : w8.cell? ⟨w.heap.size, 3, none⟩ = some (.int .i64 r) := hk8.cell 3
        have a4 : w8.cell? ⟨w.heap.size, 4, none⟩ = some (.slice q2 (len - 1) c2) := hk8.cell 4
        have b0 : w8.cell? ⟨w.heap.size + 1, 0, none⟩ = some (.bool false) := hr8.cell 0
        have f0 : w8.frozen? ⟨w.heap.size + 1, 0, none⟩ = false := hr8.frozen 0
        have b1 : w8.cell? ⟨w.heap.size + 1, 1, none⟩ = some (.string ⟨#[]⟩) := hr8.cell 1
        have f1 : w8.frozen? ⟨w.heap.size + 1, 1, none⟩ = false := hr8.frozen 1
        have b2 : w8.cell? ⟨w.heap.size + 1, 2, none⟩ = some (.string ⟨#[]⟩) := hr8.cell 2
        have f2 : w8.frozen? ⟨w.heap.size + 1, 2, none⟩ = false := hr8.frozen 2
        have b3 : w8.cell? ⟨w.heap.size + 1, 3, none⟩ = some (.int .i64 0) := hr8.cell 3
        have f3 : w8.frozen? ⟨w.heap.size + 1, 3, none⟩ = false := hr8.frozen 3
        have b4 : w8.cell? ⟨w.heap.size + 1, 4, none⟩ = some (.slice none 0 0) := hr8.cell 4
        have f4 : w8.frozen? ⟨w.heap.size + 1, 4, none⟩ = false := hr8.frozen 4
        have HR8 : Hid (Bk w8 (w.heap.size + 1) 29 zc) := hr8
        have HT8 : Hid (Tn [w.heap.size] w7 w8) := ht8
        clear hk8 hr8 ht8
        go_wp2
        obtain ⟨we, hwe⟩ : ∃ we, we = put5 w8 (w.heap.size + 1) (.bool leaf) (.string lo) (.string hi) (.int .i64 r) (.slice q2 (len - 1) c2) := ⟨_, rfl⟩
        have hA : Bk we (w.heap.size + 1) 29 #[.bool leaf, .string lo, .string hi, .int .i64 r, .slice q2 (len - 1) c2] := by rw [hwe]; exact Bk.five HR8.out _ _ _ _ _
        have ht : Tn [w.heap.size + 1] w8 we := by rw [hwe]; exact (Tn.refl _ _).five (.inl (by simp)) _ _ _ _ _
        unfold put5 at hwe
        rw [← hwe]
        clear hwe
        refine bodyPost_ret (results_two (cs := [.bool leaf, .string lo, .string hi, .int .i64 r, .slice q2 (len - 1) c2]) rfl rfl pg_agg pg_size rfl hA) rfl ?_
        rw [HQ.out]
        have hs0 := HR0.out.lt
        have t7 : Tn [w.heap.size, w.heap.size + 1] w7 we := (HT8.out.mono (by simp)).trans ht (by simp)
        have hB7 := HB0.out.trans (HB7.out.mono HB0.out.size)
        have hdl : (Pg.del l j).length = len - 1 := by unfold Pg.del; simp; have := HL.out; omega
        refine ⟨_, rfl, ⟨q2, c2, by simp only [hdl], ?_⟩, hB7.trans (t7.below hB7.size (by simp))⟩
        simp only [hdl]
        exact ((HO2.out.seg).tn t7 (by simp; omega)).mono HB0.out.size
      | false =>
        have hqs : (x.key.toList == key.toList) = false := hq
        have HF2 : Hid (j + 1 ≤ l.findIdx (Pg.is key)) := findIdx_miss HF.out HG.out hq
        clear hq
        go_wp2
        go_roundw
        case rel => exact ⟨j + 1, by omega, by go_num, by trivial, HF2⟩
        case measure => simp [intOf]; omega
    · have hli : ¬ (j : Int) < (len : Int) := by omega
      have HQ : Hid (out = (Pg.zero, 4)) := by
        have := HO.out
        rw [findIdx_none (by have := HF.out; have := HL.out; omega)] at this
        exact this
      clear HO HF
      have b0 : wr.cell? ⟨w.heap.size + 1, 0, none⟩ = some (.bool false) := HR0.out.cell 0
      have f0 : wr.frozen? ⟨w.heap.size + 1, 0, none⟩ = false := HR0.out.frozen 0
      have b1 : wr.cell? ⟨w.heap.size + 1, 1, none⟩ = some (.string ⟨#[]⟩) := HR0.out.cell 1
      have f1 : wr.frozen? ⟨w.heap.size + 1, 1, none⟩ = false := HR0.out.frozen 1
      have b2 : wr.cell? ⟨w.heap.size + 1, 2, none⟩ = some (.string ⟨#[]⟩) := HR0.out.cell 2
      have f2 : wr.frozen? ⟨w.heap.size + 1, 2, none⟩ = false := HR0.out.frozen 2
      have b3 : wr.cell? ⟨w.heap.size + 1, 3, none⟩ = some (.int .i64 0) := HR0.out.cell 3
      have f3 : wr.frozen? ⟨w.heap.size + 1, 3, none⟩ = false := HR0.out.frozen 3
      have b4 : wr.cell? ⟨w.heap.size + 1, 4, none⟩ = some (.slice none 0 0) := HR0.out.cell 4
      have f4 : wr.frozen? ⟨w.heap.size + 1, 4, none⟩ = false := HR0.out.frozen 4
      go_wp2
      obtain ⟨we, hwe⟩ : ∃ we, we = put5 wr (w.heap.size + 1) (.bool false) (.string ⟨#[]⟩) (.string ⟨#[]⟩) (.int .i64 0) (.slice none 0 0) := ⟨_, rfl⟩
      have hA : Bk we (w.heap.size + 1) 29 #[.bool false, .string ⟨#[]⟩, .string ⟨#[]⟩, .int .i64 0, .slice none 0 0] := by rw [hwe]; exact Bk.five HR0.out _ _ _ _ _
      have ht : Tn [w.heap.size + 1] wr we := by rw [hwe]; exact (Tn.refl _ _).five (.inl (by simp)) _ _ _ _ _
      unfold put5 at hwe
      rw [← hwe]
      clear hwe
      refine bodyPost_ret (results_two (cs := [.bool false, .string ⟨#[]⟩, .string ⟨#[]⟩, .int .i64 0, .slice none 0 0]) rfl rfl pg_agg pg_size rfl hA) rfl ?_
      rw [HQ.out]
      exact ⟨_, rfl, PgAt.zero _ _, HB0.out.trans (ht.below HB0.out.size (by simp))⟩
end Go.Proofs.YtoehlgigidgfpaaGreat

namespace Go.Proofs.YtoehlgigidgfpaaGreat
open Go.RowKit Go.Lib Go.Shelf Dr
attribute [local go_sem] Oper.semAt_some
set_option linter.unusedVariables false
set_option maxRecDepth 100000

theorem enc_key (key : ByteArray) : encStr key.toList = .string key := by
  rw [ByteArray.toList_eq]

section
variable {w w' : World} {base B : Nat} {T : TypeId} {vals : Array Value} {rows : List Rs}

/-- A row has grown. -/
theorem Cl.app (h : Cl w base B T vals rows) {i : Nat} {r : Rs} {v' : Value} {n' : Nat} {xs' : List Value} (hi : rows[i]? = some r) (hg : w.grownBy w' r.v.ownBlock) (ho : w'.ownsRow base r.t r.sz v' n' xs') (hv : v'.ownBlock = r.v.ownBlock ∨ v'.ownBlock = some w.heap.size) : Cl w' base B T vals (rows.set i ⟨r.t, r.sz, v', n', xs'⟩) := by
  have hil : i < rows.length := (List.getElem?_eq_some_iff.1 hi).1
  have ht := tn_grown hg
  have hold : ∀ (j : Nat) q k, rows[j]? = some q → q.v.ownBlock = some k → k < w.heap.size := fun j q k hj hk => ((h.row j q hj).lt k hk).2
  have key : ∀ (j : Nat) q, (rows.set i ⟨r.t, r.sz, v', n', xs'⟩)[j]? = some q → (j ≠ i ∧ rows[j]? = some q) ∨ (j = i ∧ q = ⟨r.t, r.sz, v', n', xs'⟩) := by
    intro j q hq
    by_cases hj : j = i
    · subst hj
      rw [List.getElem?_set_self hil] at hq
      cases hq
      exact .inr ⟨rfl, rfl⟩
    · rw [List.getElem?_set_ne (Ne.symm hj)] at hq
      exact .inl ⟨hj, hq⟩
  have hnot : ∀ k, k ∈ r.v.ownBlock.toList → r.v.ownBlock = some k := fun k hk => by
    cases hb : r.v.ownBlock with
    | none => rw [hb] at hk; simp at hk
    | some x => rw [hb] at hk; simp at hk; rw [hk]
  have hap : ∀ (j : Nat) q k, j ≠ i → rows[j]? = some q → q.v.ownBlock = some k → v'.ownBlock ≠ some k := by
    intro j q k hj hq hk hc
    rcases hv with h1 | h1
    · rw [h1] at hc
      exact hj (h.apart j i q r k hq hi hk hc)
    · rw [h1] at hc
      cases hc
      have := hold j q _ hq hk
      omega
  refine ⟨h.blk.tn ht (fun hm => h.ne i r hi (hnot _ hm)), h.ge, fun j q hq => ?_, fun j q hq => ?_, fun j k q p x hq hp h1 h2 => ?_⟩
  · rcases key j q hq with ⟨hj, h0⟩ | ⟨rfl, rfl⟩
    · exact row_tn (h.row j q h0) ht fun k hk hm => hj (h.apart j i q r k h0 hi hk (hnot k hm))
    · exact ho
  · rcases key j q hq with ⟨hj, h0⟩ | ⟨rfl, rfl⟩
    · exact h.ne j q h0
    · intro hc
      rcases hv with h1 | h1
      · rw [show (⟨r.t, r.sz, v', n', xs'⟩ : Rs).v = v' from rfl, h1] at hc
        exact h.ne _ r hi hc
      · rw [show (⟨r.t, r.sz, v', n', xs'⟩ : Rs).v = v' from rfl, h1] at hc
        cases hc
        have := h.blk.lt
        omega
  · rcases key j q hq with ⟨hj, h0⟩ | ⟨hj, rfl⟩
    · rcases key k p hp with ⟨hk, h3⟩ | ⟨hk, rfl⟩
      · exact h.apart j k q p x h0 h3 h1 h2
      · exact absurd h2 (hap j q x hj h0 h1)
    · rcases key k p hp with ⟨hk, h3⟩ | ⟨hk, rfl⟩
      · exact absurd h1 (hap k p x hk h3 h2)
      · omega
end

theorem strinfoD : (Tryz.prog.info? 9).map (fun i => (i.zero, i.size, i.bytes)) = some (some (.string ⟨#[]⟩), 1, 16) := by kernel_rfl

/-- 'append' of texts to a row of the call's own. -/
theorem run_appS (w : World) (base : Nat) (ty : TypeId) (v : Value) (ss news : List (List UInt8)) (E m : Nat) (hm : news.length = m) (hc : ∀ j u, (news.map encStr)[j]? = some u → w.cell? ((⟨E, 0, none⟩ : Addr).add j) = some u) (hown : w.ownsRow base 9 1 v ss.length (ss.map encStr)) (hb : (ss.length + m) * 16 ≤ 140737488355328) (hbase : base ≤ w.heap.size) :
    ∃ v' w', (Builtin.append_ #[211, 211] ty #[v, .slice (some ⟨E, 0, none⟩) m m]).run Tryz.prog w = .ok v' w' ∧ w'.ownsRow base 9 1 v' (ss ++ news).length ((ss ++ news).map encStr) ∧ w.grownBy w' v.ownBlock ∧ (v'.ownBlock = v.ownBlock ∨ v'.ownBlock = some w.heap.size) := by
  obtain ⟨i0, hi0, hz0, hz1, hz2⟩ := info_parts strinfoD
  obtain ⟨v', w', hr, h2, h3, h4, h5⟩ := run_append_own_at (P := Tryz.prog) w base 211 ty 9 i0 _ 1 16 Tryz.underlying211 hi0 hz0 hz1 hz2 rfl (by decide) v ss.length (ss.map encStr) hown ⟨E, 0, none⟩ m m (news.map encStr) (by simp [hm]) hc (fun u hu => by
    obtain ⟨x, _, rfl⟩ := List.mem_map.1 hu
    rfl) (by unfold maxLen; omega) hb hbase
  refine ⟨v', w', hr, ?_, h3, h5⟩
  rw [List.length_append, hm, List.map_append]
  exact h2

def ndVals (vK vR : Value) : Array Value := #[vK, vR, .int .i64 0, nilS, nilS, nilS, nilS, nilS, nilS, nilS]
def ndRows (ss : List (List UInt8)) (rl : List En) (vK vR : Value) : List Rs := [⟨9, 1, vK, ss.length, ss.map encStr⟩, ⟨33, 4, vR, rl.length, flatE rl⟩]

/-- A draft while its rows are gathered. -/
structure Nd (w W : World) (B P m : Nat) (ss : List (List UInt8)) (rl : List En) (vK vR : Value) : Prop where
  cl : Cl W w.heap.size B 214 (ndVals vK vR) (ndRows ss rl vK vR)
  bx : Bk W P 193 #[.pointer (some ⟨B, 0, none⟩)]
  np : B ≠ P ∧ ∀ k, vK.ownBlock = some k ∨ vR.ownBlock = some k → k ≠ P
  below : Below w.heap.size w W
  sz : m ≤ W.heap.size

theorem Nd.abides {w W W' : World} {B P m : Nat} {ss : List (List UInt8)} {rl : List En} {vK vR : Value} {rw' : Option Nat} {k : Nat} (h : Nd w W B P m ss rl vK vR) (hm : w.heap.size ≤ k) (hg : W.grownBy W' rw') (hr : ∀ r, rw' = some r → k ≤ r ∧ ∃ o : Obj, W.heap[r]? = some o ∧ o.isCells = false) : Nd w W' B P m ss rl vK vR where
  cl := h.cl.abides hg hr
  bx := bk_from h.bx hg hr
  np := h.np
  below := h.below.grown hg h.below.size (fun k hk => by have := (hr k hk).1; omega)
  sz := Nat.le_trans h.sz hg.size
theorem Nd.still {w W W' : World} {B P m : Nat} {ss : List (List UInt8)} {rl : List En} {vK vR : Value} (h : Nd w W B P m ss rl vK vR) (ht : Tn [] W W') : Nd w W' B P m ss rl vK vR where
  cl := h.cl.still ht
  bx := h.bx.tn ht (by simp)
  np := h.np
  below := h.below.trans (ht.below h.below.size (by simp))
  sz := Nat.le_trans h.sz ht.size

/-- The row of entries has grown, and is noted. -/
theorem Nd.appR {w W W1 : World} {B P m : Nat} {ss : List (List UInt8)} {rl rl' : List En} {vK vR v' : Value} (h : Nd w W B P m ss rl vK vR) (hg : W.grownBy W1 vR.ownBlock) (ho : OwnE W1 w.heap.size v' rl') (hv : v'.ownBlock = vR.ownBlock ∨ v'.ownBlock = some W.heap.size) :
    Nd w (W1.setCell ⟨B, 1, none⟩ v') B P m ss rl' vK v' ∧ Tn (B :: vR.ownBlock.toList) W (W1.setCell ⟨B, 1, none⟩ v') ∧ Bk W1 B 214 (ndVals vK vR) := by
  have h1 := h.cl.app (i := 1) rfl hg ho hv
  have ht := tn_grown hg
  obtain ⟨h2, ht2⟩ := h1.put 1 v'
  have ht3 : Tn (B :: vR.ownBlock.toList) W (W1.setCell ⟨B, 1, none⟩ v') := (ht.mono (fun x hx => List.mem_cons_of_mem _ hx)).trans ht2 (fun x hx => .inl (by simp at hx; subst hx; simp))
  have hown : ∀ k, k ∈ vR.ownBlock.toList → vR.ownBlock = some k := fun k hk => by
    cases hb : vR.ownBlock with
    | none => rw [hb] at hk; simp at hk
    | some x => rw [hb] at hk; simp at hk; rw [hk]
  have hP := h.bx.lt
  refine ⟨⟨h2, h.bx.tn ht3 ?_, ⟨h.np.1, fun k hk => ?_⟩, h.below.trans (ht3.below h.below.size ?_), Nat.le_trans h.sz ht3.size⟩, ht3, h1.blk⟩
  · intro hm
    rcases List.mem_cons.1 hm with h3 | h3
    · exact h.np.1 h3.symm
    · exact h.np.2 P (.inr (hown P h3)) rfl
  · rcases hk with h3 | h3
    · exact h.np.2 k (.inl h3)
    · rcases hv with h4 | h4
      · rw [h4] at h3; exact h.np.2 k (.inr h3)
      · rw [h4] at h3; cases h3; omega
  · intro x hx
    rcases List.mem_cons.1 hx with rfl | h3
    · exact h.cl.ge
    · exact ((h.cl.row 1 _ rfl).lt x (hown x h3)).1

/-- The row of keys has grown, and is noted. -/
theorem Nd.appK {w W W1 : World} {B P m : Nat} {ss ss' : List (List UInt8)} {rl : List En} {vK vR v' : Value} (h : Nd w W B P m ss rl vK vR) (hg : W.grownBy W1 vK.ownBlock) (ho : W1.ownsRow w.heap.size 9 1 v' ss'.length (ss'.map encStr)) (hv : v'.ownBlock = vK.ownBlock ∨ v'.ownBlock = some W.heap.size) :
    Nd w (W1.setCell ⟨B, 0, none⟩ v') B P m ss' rl v' vR ∧ Tn (B :: vK.ownBlock.toList) W (W1.setCell ⟨B, 0, none⟩ v') ∧ Bk W1 B 214 (ndVals vK vR) := by
  have h1 := h.cl.app (i := 0) rfl hg ho hv
  have ht := tn_grown hg
  obtain ⟨h2, ht2⟩ := h1.put 0 v'
  have ht3 : Tn (B :: vK.ownBlock.toList) W (W1.setCell ⟨B, 0, none⟩ v') := (ht.mono (fun x hx => List.mem_cons_of_mem _ hx)).trans ht2 (fun x hx => .inl (by simp at hx; subst hx; simp))
  have hown : ∀ k, k ∈ vK.ownBlock.toList → vK.ownBlock = some k := fun k hk => by
    cases hb : vK.ownBlock with
    | none => rw [hb] at hk; simp at hk
    | some x => rw [hb] at hk; simp at hk; rw [hk]
  have hP := h.bx.lt
  refine ⟨⟨h2, h.bx.tn ht3 ?_, ⟨h.np.1, fun k hk => ?_⟩, h.below.trans (ht3.below h.below.size ?_), Nat.le_trans h.sz ht3.size⟩, ht3, h1.blk⟩
  · intro hm
    rcases List.mem_cons.1 hm with h3 | h3
    · exact h.np.1 h3.symm
    · exact h.np.2 P (.inl (hown P h3)) rfl
  · rcases hk with h3 | h3
    · rcases hv with h4 | h4
      · rw [h4] at h3; exact h.np.2 k (.inl h3)
      · rw [h4] at h3; cases h3; omega
    · exact h.np.2 k (.inr h3)
  · intro x hx
    rcases List.mem_cons.1 hx with rfl | h3
    · exact h.cl.ge
    · exact ((h.cl.row 0 _ rfl).lt x (hown x h3)).1

/-- What the deltas bring: entries; keys. -/
def rowsOf (ds : List De) : List En := (ds.map fun d => d.rt.l).flatten
def textsOf (ds : List De) : List (List UInt8) := (ds.map fun d => [d.key.toList, d.e.key.toList]).flatten

theorem rowsOf_snoc (ds : List De) (d : De) : rowsOf (ds ++ [d]) = rowsOf ds ++ d.rt.l := by simp [rowsOf]
theorem textsOf_snoc (ds : List De) (d : De) : textsOf (ds ++ [d]) = textsOf ds ++ [d.key.toList, d.e.key.toList] := by simp [textsOf]

section
variable {P : Program} {Q : Exit → Act → World → Prop} {S : World → Prop} {l n : Nat}
theorem wpIn_mid {id : Nat} {os : List Oper} {a : Act} {w : World} (m : Nat) (hm : P.follows .mixedOrders = true) (hd : noDefer os = true) (hq : ¬ LetsOut Q)
    (h : wpAnyM P .any os.toArray Q S m os.toArray.size (Array.replicate os.toArray.size false) a w.drew) : (Code.region id os.toArray true).wpIn (Fence.wide.inRound l) n P Q a w :=
  wpIn_region_any hm (wpAnyIn_of_any (noDefer_out hd) hq _ _ _ _ (wpAny_of_mid _ _ _ _ h))
end
end Go.Proofs.YtoehlgigidgfpaaGreat

namespace Go.Proofs.YtoehlgigidgfpaaGreat
open Go.RowKit Go.Lib Go.Shelf Go.Sort Dr
set_option linter.unusedVariables false
set_option maxRecDepth 100000

theorem dsort_any {w : World} {base : Nat} {v : Value} {ss : List (List UInt8)} (h : w.ownsRow base 9 1 v ss.length (ss.map encStr)) (hb : ss.length ≤ 8796093022207) :
    Calls Tryz.prog 149 #[v] w fun e w' => e = .returned (.tuple #[]) ∧ w'.ownsRow base 9 1 v ss.length ((ss.mergeSort fun x y => decide (x ≤ y)).map encStr) ∧ w.grownBy w' v.ownBlock := by
  rcases h.2 with ⟨hv, hn⟩ | ⟨g, cap, cur, hv, hbase, hbk, h1, h2, h3, h4⟩
  · subst hv
    have hs : ss = [] := List.eq_nil_of_length_eq_zero hn
    subst hs
    refine (AnyM.slices_Sort_string_none Tryz.drSort none 0 w).mono ?_
    rintro e w' ⟨rfl, rfl⟩
    refine ⟨rfl, ?_, ?_⟩
    · simp
      exact World.ownsRow_nil _ _ _ _
    · exact ⟨rfl, rfl, rfl, Nat.le_refl _, fun _ _ _ => rfl⟩
  · subst hv
    refine (AnyM.slices_Sort_string Tryz.drSort g 0 cap ss w (holds_of_block hbk (by simpa using h4)) (Array.getElem?_eq_some_iff.1 hbk).1 (by omega)).mono ?_
    rintro e w' ⟨rfl, n, os, rfl⟩
    exact ⟨rfl, ownsRow_sorted (by simp) hbase hbk h1 h2 h3, grownBy_sorted _⟩

theorem dcompact_any {w : World} {base : Nat} {v : Value} {ss : List (List UInt8)} (h : w.ownsRow base 9 1 v ss.length (ss.map encStr)) (hb : ss.length ≤ 8796093022207) :
    Calls Tryz.prog 150 #[v] w fun e w' => ∃ v', e = .returned v' ∧ w'.ownsRow base 9 1 v' (compact ss).length ((compact ss).map encStr) ∧ w.grownBy w' v.ownBlock ∧ v'.ownBlock = v.ownBlock := by
  rcases h.2 with ⟨hv, hn⟩ | ⟨g, cap, cur, hv, hbase, hbk, h1, h2, h3, h4⟩
  · subst hv
    have hs : ss = [] := List.eq_nil_of_length_eq_zero hn
    subst hs
    refine (AnyG.slices_Compact_string_empty Tryz.drCompact none 0 w).mono ?_
    rintro e w' ⟨rfl, rfl⟩
    exact ⟨_, rfl, World.ownsRow_nil _ _ _ _, ⟨rfl, rfl, rfl, Nat.le_refl _, fun _ _ _ => rfl⟩, rfl⟩
  · subst hv
    refine (AnyG.slices_Compact_string Tryz.drCompact g 0 cap ss w (holds_of_block hbk (by simpa using h4)) (by omega) h1).mono ?_
    rintro e w' ⟨rfl, q, rfl⟩
    have hle := compact_length_le ss
    refine ⟨_, rfl, ?_, ?_, rfl⟩
    · have := ownsRow_putRow (enc := encStr) (q := q) (k := (compact ss).length) (ys := compact ss ++ List.replicate (ss.length - (compact ss).length) []) h (by simp; omega) hle
      rw [List.take_left' rfl] at this
      exact this
    · have := grownBy_sorted (w := w) (g := g) (n := q) (os := #[]) (compact ss ++ List.replicate (ss.length - (compact ss).length) []).toArray
      rw [grow_empty] at this
      exact this

/-- A draft while its rows are laid. -/
structure Nwd (w W : World) (B P D : Nat) (vals : Array Value) (rows : List Rs) : Prop where
  cl : Cl W w.heap.size B 214 vals rows
  bx : Bk W P 193 #[.pointer (some ⟨B, 0, none⟩)]
  np : B ≠ P ∧ ∀ (i : Nat) r, rows[i]? = some r → r.v.ownBlock ≠ some P
  dd : W.heap[D]? = some (.deferred (some []))
  below : Below w.heap.size w W

section
variable {w W W' : World} {B P D : Nat} {vals : Array Value} {rows : List Rs}
theorem dd_ne {k : Nat} (hd : W.heap[D]? = some (.deferred (some []))) {o : Obj} (ho : W.heap[k]? = some o) (hc : o.isCells = true) : D ≠ k := fun e => by
  rw [← e, hd] at ho
  cases ho
  cases hc

theorem Nwd.still (h : Nwd w W B P D vals rows) (ht : Tn [] W W') : Nwd w W' B P D vals rows :=
  ⟨h.cl.still ht, h.bx.tn ht (by simp), h.np, (ht.block D (Array.getElem?_eq_some_iff.1 h.dd).1 (by simp)).trans h.dd, h.below.trans (ht.below h.below.size (by simp))⟩

theorem Nwd.put (h : Nwd w W B P D vals rows) (j : Nat) (u : Value) : Nwd w (W.setCell ⟨B, j, none⟩ u) B P D (vals.setIfInBounds j u) rows := by
  obtain ⟨h1, ht⟩ := h.cl.put j u
  exact ⟨h1, h.bx.tn ht (by simp; exact Ne.symm h.np.1), h.np, (ht.block D (Array.getElem?_eq_some_iff.1 h.dd).1 (by simp; exact dd_ne h.dd h.cl.blk rfl)).trans h.dd, h.below.trans (ht.below h.below.size (by simp; exact h.cl.ge))⟩

theorem Nwd.app (h : Nwd w W B P D vals rows) {i : Nat} {r : Rs} {v' : Value} {n' : Nat} {xs' : List Value} (hi : rows[i]? = some r) (hg : W.grownBy W' r.v.ownBlock) (ho : W'.ownsRow w.heap.size r.t r.sz v' n' xs') (hv : v'.ownBlock = r.v.ownBlock ∨ v'.ownBlock = some W.heap.size) : Nwd w W' B P D vals (rows.set i ⟨r.t, r.sz, v', n', xs'⟩) := by
  have hil : i < rows.length := (List.getElem?_eq_some_iff.1 hi).1
  have ht := tn_grown hg
  have hnm : ∀ k, k ∈ r.v.ownBlock.toList → r.v.ownBlock = some k := fun k hk => by
    cases hb : r.v.ownBlock with
    | none => rw [hb] at hk; simp at hk
    | some x => rw [hb] at hk; simp at hk; rw [hk]
  refine ⟨h.cl.app hi hg ho hv, h.bx.tn ht (fun hm => h.np.2 i r hi (hnm _ hm)), ⟨h.np.1, fun j q hq => ?_⟩, (ht.block D (Array.getElem?_eq_some_iff.1 h.dd).1 (fun hm => ?_)).trans h.dd, h.below.trans (ht.below h.below.size (fun x hx => ((h.cl.row i r hi).lt x (hnm x hx)).1))⟩
  · by_cases hj : j = i
    · subst hj
      rw [List.getElem?_set_self hil] at hq
      cases hq
      rcases hv with h1 | h1
      · show v'.ownBlock ≠ some P
        rw [h1]; exact h.np.2 _ r hi
      · show v'.ownBlock ≠ some P
        rw [h1]
        have := h.bx.lt
        intro e; cases e; omega
    · rw [List.getElem?_set_ne (Ne.symm hj)] at hq
      exact h.np.2 j q hq
  · obtain ⟨o, ho', hc⟩ := row_kind (h.cl.row i r hi) (hnm _ hm)
    exact dd_ne h.dd ho' hc rfl

theorem Nwd.add (h : Nwd w W B P D vals rows) (ht : Tn [] W W') {r : Rs} {g : Nat} (ho : W'.ownsRow w.heap.size r.t r.sz r.v r.n r.xs) (hv : r.v.ownBlock = some g) (hg : W.heap.size ≤ g) : Nwd w W' B P D vals (rows ++ [r]) := by
  have h1 := h.still ht
  refine ⟨h.cl.add ht ho hv hg, h1.bx, ⟨h.np.1, fun i q hi => ?_⟩, h1.dd, h1.below⟩
  by_cases hl : i < rows.length
  · rw [List.getElem?_append_left hl] at hi
    exact h.np.2 i q hi
  · rw [List.getElem?_append_right (by omega)] at hi
    have h0 : i - rows.length = 0 := by have := (List.getElem?_eq_some_iff.1 hi).1; simp at this; omega
    rw [h0] at hi
    simp at hi
    rw [← hi, hv]
    have := h.bx.lt
    intro e; cases e; omega

theorem bk_ne_row {t e : TypeId} {cs : Array Value} {base size n k : Nat} {v : Value} {xs : List Value} (h : Bk W P t cs) (hr : W.ownsRow base e size v n xs) (hv : v.ownBlock = some k) (hte : t ≠ e) : v.ownBlock ≠ some P := fun hP => by
  rcases hr.2 with ⟨h1, _⟩ | ⟨g, c, cur, h1, _, h2, _⟩
  · rw [h1] at hv; cases hv
  · rw [h1] at hP
    have hgx : g = P := Option.some.inj hP
    rw [hgx, show W.heap[P]? = _ from h] at h2
    cases h2
    exact hte rfl

theorem made_ens (n : Nat) : (madeCells (Value.agg #[.string ⟨#[]⟩, .int .i64 0, .int .i64 0, .int .i64 0]).cells (n * 4)).toList = flatE (List.replicate n En.zero) := by
  apply List.ext_getElem?
  intro j
  by_cases hj : j < n * 4
  · have hi : j / 4 < n := by omega
    have he : (List.replicate n En.zero)[j / 4]? = some En.zero := by simp [hi]
    obtain ⟨h0, h1, h2, h3⟩ := flatE_at (List.replicate n En.zero) (j / 4) _ he
    have hm : j = j / 4 * 4 + j % 4 := by omega
    have hlhs : (madeCells (Value.agg #[.string ⟨#[]⟩, .int .i64 0, .int .i64 0, .int .i64 0]).cells (n * 4)).toList[j]? = some ((#[Value.string ⟨#[]⟩, .int .i64 0, .int .i64 0, .int .i64 0] : Array Value).getD (j % 4) undef) := by
      have h4 : j % 4 = 0 ∨ j % 4 = 1 ∨ j % 4 = 2 ∨ j % 4 = 3 := by omega
      rcases h4 with h | h | h | h <;> simp [madeCells, Value.cells, hj, h]
    rw [hlhs]
    have h4 : j % 4 = 0 ∨ j % 4 = 1 ∨ j % 4 = 2 ∨ j % 4 = 3 := by omega
    rcases h4 with h | h | h | h
    · rw [h]; rw [h] at hm; rw [hm]; simp only [Nat.add_zero]; rw [h0]; rfl
    · rw [h]; rw [h] at hm; rw [hm]; rw [h1]; rfl
    · rw [h]; rw [h] at hm; rw [hm]; rw [h2]; rfl
    · rw [h]; rw [h] at hm; rw [hm]; rw [h3]; rfl
  · rw [List.getElem?_eq_none (by simp [madeCells]; omega), List.getElem?_eq_none (by rw [flatE_len]; simp; omega)]

/-- A row of entries is made. -/
theorem Nwd.makeE (h : Nwd w W B P D vals rows) (n : Nat) (hn : n ≤ 7036874417766) :
    ∃ W1, (Instr.makeSlice 27 (.int .i64 (n : Int)) (.int .i64 (n : Int))).run Tryz.prog W.drew = .ok (.slice (some ⟨W.heap.size, 0, none⟩) n n) W1 ∧ Nwd w W1 B P D vals (rows ++ [⟨33, 4, sl W.heap.size n n, n, flatE (List.replicate n En.zero)⟩]) := by
  obtain ⟨i0, hi, hz0, hz1, hz2⟩ := en_info
  obtain ⟨W1, h1, h2, h3⟩ := run_make_full (P := Tryz.prog) W.drew w.heap.size 27 33 i0 _ 4 Tryz.underlying27 hi hz0 hz1 .i64 .i64 n (by rw [hz2]; omega) (by unfold maxLen; omega) h.below.size
  have ht : Tn [] W W1 := (Tn.drew (Tn.refl [] W)).trans (T := []) ⟨h3.os, h3.tape, h3.output, h3.size, fun k hk _ => h3.block k hk (by simp)⟩ (by simp)
  refine ⟨W1, h1, h.add ht (r := ⟨33, 4, sl W.heap.size n n, n, flatE (List.replicate n En.zero)⟩) (g := W.heap.size) ?_ rfl (Nat.le_refl _)⟩
  rw [made_ens] at h2
  exact h2

theorem Nwd.makeI (h : Nwd w W B P D vals rows) (n : Nat) (hn : n ≤ 35184372088832) :
    ∃ W1, (Instr.makeSlice 93 (.int .i64 (n : Int)) (.int .i64 (n : Int))).run Tryz.prog W.drew = .ok (.slice (some ⟨W.heap.size, 0, none⟩) n n) W1 ∧ Nwd w W1 B P D vals (rows ++ [⟨3, 1, sl W.heap.size n n, n, ints (List.replicate n 0)⟩]) := by
  obtain ⟨W1, h1, hI, hB⟩ := make_ints 93 Tryz.underlying93 n hn W.drew
  have ht : Tn [] W W1 := (Tn.drew (Tn.refl [] W)).trans (Tn.of_below hB []) (by simp)
  refine ⟨W1, h1, h.add ht (r := ⟨3, 1, sl W.heap.size n n, n, ints (List.replicate n 0)⟩) (g := W.heap.size) ?_ rfl (Nat.le_refl _)⟩
  have h2 := hI
  unfold Ir at h2
  rw [List.length_replicate] at h2
  exact row_mono h2 h.below.size
end
end Go.Proofs.YtoehlgigidgfpaaGreat

namespace Go.Proofs.YtoehlgigidgfpaaGreat
open Go.RowKit Go.Lib Go.Shelf Dr
attribute [local go_sem] Oper.semAt_some
set_option linter.unusedVariables false
set_option maxRecDepth 100000

/-- All texts that a draft knows. -/
def allTexts (pl : List En) (ds : List De) : List (List UInt8) := textsOf ds ++ (pl ++ rowsOf ds).map fun e => e.key.toList

/-- A new draft that is answered. -/
def Ndr (w : World) (pl : List En) (ds : List De) (e : Ending) (w' : World) : Prop :=
  ∃ B V, e = .returned (.pointer (some ⟨B, 0, none⟩)) ∧ Drn w' w.heap.size B (keysOf (allTexts pl ds)) (fx0 (keysOf (allTexts pl ds)) (pl ++ rowsOf ds)) (df0 (keysOf (allTexts pl ds)) (pl ++ rowsOf ds)) V ∧ Below w.heap.size w w'

set_option maxHeartbeats 16000000 in
theorem newDraft_any (pf : Bool) (plo phi : ByteArray) (pr : Int) (pp : Option Addr) (pn pc : Nat) (pl : List En) (p : Option Addr) (len cap : Nat) (L : List Dm) (w : World) (hlen : pl.length = pn) (hx : Ens w pp pl) (hp : pp = none → pn = 0) (hL : L.length = len) (hD : Des w p L)
    (hRt : (pl ++ rowsOf (L.map (·.d)).reverse).length ≤ 3518437208782) (hKt : (allTexts pl (L.map (·.d)).reverse).length ≤ 7036874417766) :
    Calls Tryz.prog 132 #[pgv pf plo phi pr pp pn pc, .slice p len cap] w fun e w' => Ndr w pl (L.map (·.d)).reverse e w' := by
  have hll : len ≤ 4398046511104 := by
    have h1 : (textsOf (L.map (·.d)).reverse).length = 2 * len := by
      have : ∀ ds : List De, (textsOf ds).length = 2 * ds.length := fun ds => by
        induction ds with
        | nil => rfl
        | cons d r ih => simp only [textsOf, List.map_cons, List.flatten_cons, List.length_append, List.length_cons, List.length_nil] at ih ⊢; omega
      rw [this]; simp [hL]
    unfold allTexts at hKt
    rw [List.length_append] at hKt
    omega
  have hpl : pn ≤ 3518437208782 := by
    rw [List.length_append] at hRt
    omega
  refine calls_of_wpAt Tryz.func132 rfl ?_
  simp only [Tryz.ntmps132, List.size_toArray, List.length_cons, List.length_nil, Nat.reduceAdd, Nat.reduceSub, Array.replicate_succ, Array.replicate_zero, List.push_toArray, List.append_toArray, List.nil_append, List.cons_append]
  have HX : Hid (Ens w pp pl) := hx
  have HLn : Hid (pl.length = pn) := hlen
  have HPN : Hid (pp = none → pn = 0) := hp
  have HD : Hid (Des w p L) := hD
  have HL : Hid (L.length = len) := hL
  have HRT : Hid ((pl ++ rowsOf (L.map (·.d)).reverse).length ≤ 3518437208782) := hRt
  have HKT : Hid ((allTexts pl (L.map (·.d)).reverse).length ≤ 7036874417766) := hKt
  clear hx hlen hp hD hL hRt hKt
  obtain ⟨w0, hw0⟩ : ∃ w0, w0 = w.alloc (.cells #[.bool pf, .string plo, .string phi, .int .i64 pr, .slice pp pn pc] 29) := ⟨_, rfl⟩
  have HB0 : Hid (Below w.heap.size w w0) := by rw [hw0]; exact (Below.refl _ _).alloc (Nat.le_refl _) _
  have HK0 : Hid (Bk w0 w.heap.size 29 #[.bool pf, .string plo, .string phi, .int .i64 pr, .slice pp pn pc]) := by rw [hw0]; exact Bk.new _ _ _
  have a4 : w0.cell? ⟨w.heap.size, 4, none⟩ = some (.slice pp pn pc) := HK0.out.cell 4
  refine wpAt_seq_k fun K hK => wpAt_of_wp ?_
  go_wp2
  rw [← hw0]
  clear hw0
  refine wpAt_seq_k fun K hK => wpAt_of_wp ?_
  go_wp2_with fail
  refine (eclone_any pp pn pc pl w0 HLn.out (HX.out.below HB0.out (Nat.le_refl _)) hpl HPN.out).mono ?_
  rintro e w1 ⟨v1, rfl, ho1, hb1⟩
  obtain ⟨q1, c1, hv1⟩ : ∃ q c, v1 = .slice q pn c := by
    obtain ⟨q, c, hv, _, _⟩ := ho1.ens
    rw [HLn.out] at hv
    exact ⟨q, c, hv⟩
  obtain ⟨B, hB⟩ : ∃ B, w1.heap.size = B := ⟨_, rfl⟩
  obtain ⟨PP, hPP⟩ : ∃ PP, B + 1 = PP := ⟨_, rfl⟩
  obtain ⟨w2, hw2⟩ : ∃ w2, w2 = (w1.alloc (.cells #[nilS, v1, .int .i64 0, nilS, nilS, nilS, nilS, nilS, nilS, nilS] 214)).alloc (.cells #[.pointer (some ⟨B, 0, none⟩)] 193) := ⟨_, rfl⟩
  have HN2 : Hid (Nd w w2 B PP 0 [] pl nilS v1) := by
    have hb01 : Below w.heap.size w w1 := HB0.out.trans (hb1.mono HB0.out.size)
    have hv1b : ∀ k, v1.ownBlock = some k → w.heap.size ≤ k ∧ k < w1.heap.size := fun k hk => by
      have h1 := World.ownsRow.lt ho1 k hk
      have h2 := HB0.out.size
      omega
    have ht : Tn [] w1 w2 := by rw [hw2]; exact ((Tn.refl [] w1).alloc _).alloc _
    have hblk : Bk w2 B 214 #[nilS, v1, .int .i64 0, nilS, nilS, nilS, nilS, nilS, nilS, nilS] := by rw [hw2, ← hB]; exact (Bk.new _ _ _).alloc _
    have hbp : Bk w2 PP 193 #[.pointer (some ⟨B, 0, none⟩)] := by
      have := Bk.new (w1.alloc (.cells #[nilS, v1, .int .i64 0, nilS, nilS, nilS, nilS, nilS, nilS, nilS] 214)) 193 #[.pointer (some ⟨B, 0, none⟩)]
      have e : PP = w1.heap.size + 1 := by omega
      rw [hw2, e]
      simpa using this
    refine ⟨⟨hblk, ?_, fun i r hi => ?_, fun i r hi => ?_, fun i j r q k hi hj h1 h2 => ?_⟩, hbp, ⟨by omega, fun k hk => ?_⟩, hb01.trans (ht.below hb01.size (by simp)), Nat.zero_le _⟩
    · have := hb01.size; omega
    · match i, hi with
      | 0, hi => cases hi; exact World.ownsRow_nil _ _ _ _
      | 1, hi => cases hi; exact row_tn (row_mono ho1 HB0.out.size) ht (by simp)
      | n + 2, hi => simp [ndRows] at hi
    · match i, hi with
      | 0, hi => cases hi; intro h; cases h
      | 1, hi => cases hi; intro h; have := hv1b B h; omega
      | n + 2, hi => simp [ndRows] at hi
    · match i, hi, j, hj with
      | 0, hi, _, _ => cases hi; cases h1
      | 1, hi, 0, hj => cases hj; cases h2
      | 1, hi, 1, hj => rfl
      | 1, hi, n + 2, hj => simp [ndRows] at hj
      | n + 2, hi, _, _ => simp [ndRows] at hi
    · rcases hk with h | h
      · cases h
      · have := hv1b k h; omega
  clear ho1 hb1
  rw [hv1] at hw2 ⊢
  go_wp2
  rw [← hw2]
  clear hw2
  refine wpAt_seq_k fun K hK => ?_
  have HK : Hid _ := hK
  clear hK
  refine wpAt_seq_k fun K2 hK2 => wpAt_of_wp ?_
  go_wp2_with fail
  refine (backD_any p len cap w2).mono ?_
  rintro e w3 ⟨rfl, hw3⟩
  have ht3 : Tn [] w2 w3 := by rw [hw3]; exact (Tn.refl _ _).alloc _
  have hN3 : Nd w w3 B PP w3.heap.size [] pl nilS v1 := { HN2.out.still ht3 with sz := Nat.le_refl _ }
  have hk3 : Bk w3 w2.heap.size 64 #[.slice p len cap] := by rw [hw3]; exact Bk.new _ _ _
  have hs3 : w2.heap.size < w3.heap.size := hk3.lt
  have hseq := backD_stops HL.out hll HD.out hk3 (Alike.of_below hN3.below) hN3.below.size
  have HDS : Hid (∀ W, Below w.heap.size w W → Des W p L) := fun W hW => HD.out.below hW (Nat.le_refl _)
  have hws := hN3.below.size
  have hPl : PP < w2.heap.size := HN2.out.bx.lt
  have hBl : B < w2.heap.size := HN2.out.cl.blk.lt
  have hBg := HN2.out.cl.ge
  have hI3 : ∃ vK vR, Nd w w3 B PP w3.heap.size (textsOf []) (pl ++ rowsOf []) vK vR ∧ ∀ k, vK.ownBlock = some k ∨ vR.ownBlock = some k → k ≠ w2.heap.size := by
    refine ⟨nilS, v1, ?_, fun k hk => ?_⟩
    · have e : pl ++ rowsOf [] = pl := by simp [rowsOf]
      rw [e]
      exact hN3
    · rcases hk with h | h
      · cases h
      · have := ((HN2.out.cl.row 1 _ rfl).lt k h).2
        omega
  clear hw3 ht3 hk3
  go_wp2
  refine wpAt_block ?_
  refine wpAt_boxed ?A Tryz.func132 (gf := 142) (lb := #[.pointer (some ⟨w2.heap.size, 0, none⟩)]) rfl (enters_of Tryz.func142 (by kernel_rfl) rfl)
    hseq KpB.t (fun W l o o' hl _ _ _ => ⟨fun k hk => World.putObj_heap_other (by omega), World.putObj_heap_other (by omega)⟩) (Below.refl _ _) (fun _ => rfl)
    (fun pre W => ∃ vK vR, Nd w W B PP w3.heap.size (textsOf (pre.map (·.2.d))) (pl ++ rowsOf (pre.map (·.2.d))) vK vR ∧ ∀ k, vK.ownBlock = some k ∨ vR.ownBlock = some k → k ≠ w2.heap.size)
    (fun _ _ _ => False)
    (fun _ _ _ => False)
    (fun s A B' row hs hg hr => by
      obtain ⟨vK, vR, h1, h2⟩ := hs
      exact ⟨vK, vR, h1.abides (k := w3.heap.size) (by omega) hg hr, h2⟩)
    (fun cc s A B row hs hg hr => hs.elim)
    hI3
    (fun x bx W => w3.heap.size ≤ bx ∧ Bk W bx 35 x.2.cells.toArray)
    (fun x bx _ A B' row hs hg hr => ⟨hs.1, bk_from hs.2 hg hr⟩)
    ?assign ?body ?done (fun D cc pre W _ _ h _ => h.elim) (fun D cc pre W _ _ h _ => h.elim)
  case assign =>
    rintro l pre x W K hL hK
    obtain ⟨vK, vR, hL, hnb⟩ := hL
    gi_wp2
    have ht : Tn [] W (W.alloc (.cells x.2.cells.toArray 35)) := (Tn.refl _ _).alloc _
    obtain ⟨bx, hbx⟩ : ∃ bx, W.heap.size = bx := ⟨_, rfl⟩
    have kx : Bk (W.alloc (.cells x.2.cells.toArray 35)) bx 35 x.2.cells.toArray := by rw [← hbx]; exact Bk.new _ _ _
    have hle : w3.heap.size ≤ bx := by have := hL.sz; omega
    rw [hbx]
    refine hK bx _ ((keeps_tn ht (by simp)).from _) ⟨fun k hk => ht.block k (by omega) (by simp), ht.block _ (by omega) (by simp)⟩ ⟨vK, vR, hL.still ht, hnb⟩ ⟨hle, kx⟩
  case done =>
    rintro D zs W hD rfl hT hK2
    obtain ⟨vK, vR, hN, -⟩ := hT
    rw [Dl.bw_map] at hN
    obtain ⟨ds, hds⟩ : ∃ ds : List De, (L.map (·.d)).reverse = ds := ⟨_, rfl⟩
    have HRT2 := HRT.out
    have HKT2 := HKT.out
    rw [hds] at hN HRT2 HKT2 ⊢
    have HR0 : Hid ((pl ++ rowsOf ds).length ≤ 3518437208782 ∧ (allTexts pl ds).length ≤ 7036874417766) := ⟨HRT2, HKT2⟩
    have HDSE : Hid ((L.map (·.d)).reverse = ds) := hds
    clear HRT2 HKT2 hds
    obtain ⟨row, hrow⟩ : ∃ row, pl ++ rowsOf ds = row := ⟨_, rfl⟩
    rw [hrow] at hN
    have HROW : Hid (pl ++ rowsOf ds = row) := hrow
    obtain ⟨pR, nR, cR, hvR, hnRl⟩ : ∃ p n c, vR = .slice p n c ∧ row.length = n := by
      have h1 : OwnE W w.heap.size vR row := hN.cl.row 1 _ rfl
      obtain ⟨q, c, hv, _, _⟩ := h1.ens
      exact ⟨q, _, c, hv, rfl⟩
    have hnb : nR ≤ 3518437208782 := by have := HR0.out.1; rw [hrow] at this; omega
    subst hvR
    have HS0 : Hid (∃ vK, Nd w W B PP 0 (textsOf ds ++ (row.take 0).map fun e => e.key.toList) row vK (.slice pR nR cR)) := ⟨vK, by simpa using { hN with sz := Nat.zero_le _ }⟩
    have p0 : W.cell? ⟨PP, 0, none⟩ = some (.pointer (some ⟨B, 0, none⟩)) := hN.bx.cell 0
    have x1 : W.cell? ⟨B, 1, none⟩ = some (.slice pR nR cR) := hN.cl.blk.cell 1
    have HDD : Hid (D < W.heap.size ∧ w.heap.size ≤ D) := ⟨(Array.getElem?_eq_some_iff.1 hK2).1, by omega⟩
    clear hN
    refine HK.out _ _ (wpAt_of_wp ?_)
    clear HK K
    go_wp2_with fail
    clear p0 x1
    have HDW : Hid (W.heap[D]? = some (.deferred (some []))) := hK2
    clear hK2
    go_loopw [49] (fun iv wr => ∃ j : Nat, j ≤ nR ∧ iv = .int .i64 (j : Int) ∧ Hid (∃ vK, Nd w wr B PP 0 (textsOf ds ++ (row.take j).map fun e => e.key.toList) row vK (.slice pR nR cR)) ∧ Hid (wr.heap[D]? = some (.deferred (some [])))) (fun iv _ => nR - (intOf iv).toNat)
    case atStart => exact ⟨0, Nat.zero_le _, rfl, HS0, HDW⟩
    case round =>
      obtain ⟨j, hj, rfl, HW, HDr⟩ := hrel
      clear HS0 HDW
      by_cases hlt : j < nR
      · have hli : (j : Int) < (nR : Int) := by omega
        have hj0 : (0 : Int) ≤ (j : Int) := by omega
        obtain ⟨vK, hN⟩ := HW.out
        have hrr : wr.ownsRow w.heap.size 33 4 (.slice pR nR cR) nR (flatE row) := by have := hN.cl.row 1 _ rfl; simp only [hnRl] at this; exact this
        obtain ⟨gR, hpR⟩ : ∃ g, pR = some ⟨g, 0, none⟩ := by
          rcases hrr.2 with ⟨h1, h2⟩ | ⟨g, cap, cur, hv, _⟩
          · omega
          · cases hv; exact ⟨g, rfl⟩
        subst hpR
        obtain ⟨z0, z1, z2, z3⟩ := row_en hrr j hlt
        obtain ⟨xe, hxe⟩ : ∃ e, row.getD j En.zero = e := ⟨_, rfl⟩
        rw [hxe] at z0 z1 z2 z3
        obtain ⟨ss, hss⟩ : ∃ ss, textsOf ds ++ (row.take j).map (fun e => e.key.toList) = ss := ⟨_, rfl⟩
        rw [hss] at hN
        have hss2 : textsOf ds ++ (row.take (j + 1)).map (fun e => e.key.toList) = ss ++ [xe.key.toList] := by
          have hjl : j < row.length := by omega
          have : row[j]? = some xe := by rw [← hxe]; simp [List.getD, hjl]
          rw [List.take_add_one, this, List.map_append, ← List.append_assoc, hss]
          rfl
        have hsl : ss.length + 1 ≤ 8796093022207 := by
          have h1 := HR0.out.2
          unfold allTexts at h1
          rw [HROW.out] at h1
          rw [← hss]
          simp only [List.length_append, List.length_map, List.length_take] at h1 ⊢
          omega
        obtain ⟨w4, hw4⟩ : ∃ w4, wr.alloc (.cells #[.string xe.key, .int .i64 xe.s, .int .i64 xe.g, .int .i64 xe.c] 33) = w4 := ⟨_, rfl⟩
        obtain ⟨bx, hbx⟩ : ∃ bx, wr.heap.size = bx := ⟨_, rfl⟩
        have ht4 : Tn [] wr w4 := by rw [← hw4]; exact (Tn.refl [] wr).alloc _
        have hkx : Bk w4 bx 33 #[.string xe.key, .int .i64 xe.s, .int .i64 xe.g, .int .i64 xe.c] := by rw [← hw4, ← hbx]; exact Bk.new _ _ _
        have hN4 := (hN.still ht4).still (Tn.drew (Tn.refl [] w4))
        have hnK : ∀ k, vK.ownBlock = some k → k ≠ bx := fun k hk => by have := ((hN.cl.row 0 _ rfl).lt k hk).2; omega
        have hBx : B ≠ bx := by have := hN.cl.blk.lt; omega
        obtain ⟨pK, nK, cK, hvK⟩ : ∃ p n c, vK = .slice p n c := by
          rcases (hN.cl.row 0 _ rfl).2 with ⟨h1, h2⟩ | ⟨g, c, cur, h1, _⟩
          · exact ⟨none, 0, 0, h1⟩
          · exact ⟨_, _, c, h1⟩
        obtain ⟨W3, hW3⟩ : ∃ W3, w4.drew.alloc (.cells #[.string xe.key] 9) = W3 := ⟨_, rfl⟩
        have ht3 : Tn [] w4.drew W3 := by rw [← hW3]; exact (Tn.refl [] _).alloc _
        have hN3 := hN4.still ht3
        have hE3 : Bk W3 w4.heap.size 9 #[.string xe.key] := by rw [← hW3]; exact Bk.new w4.drew _ _
        have hkx3 : Bk W3 bx 33 _ := (show Bk w4.drew bx 33 _ from hkx).tn ht3 (by simp)
        obtain ⟨v5, W4, hr5, ho5, hg5, hb5⟩ := run_appS W3 w.heap.size 211 vK ss [xe.key.toList] w4.heap.size 1 rfl (fun q u hu => by
          have hq : q = 0 := by have := (List.getElem?_eq_some_iff.1 hu).1; simp at this; omega
          subst hq
          have e1 := enc_key xe.key
          simp only [List.map_cons, List.map_nil, List.getElem?_cons_zero, Option.some.injEq] at hu
          rw [← hu, e1]
          exact hE3.cell 0) (hN3.cl.row 0 _ rfl) (by omega) hN3.below.size
        obtain ⟨p5, n5, c5, hv5⟩ : ∃ p n c, v5 = .slice p n c := by
          rcases ho5.2 with ⟨h1, h2⟩ | ⟨g, c, cur, h1, _⟩
          · exact ⟨none, 0, 0, h1⟩
          · exact ⟨_, _, c, h1⟩
        subst hv5
        obtain ⟨hN5, ht5, hblk4⟩ := hN3.appK hg5 ho5 hb5
        have hnm : ∀ y, y ∈ vK.ownBlock.toList → vK.ownBlock = some y := fun y hk => by
          cases hb : vK.ownBlock with
          | none => rw [hb] at hk; simp at hk
          | some x => rw [hb] at hk; simp at hk; rw [hk]
        have hkx4 : Bk W4 bx 33 _ := hkx3.tn (tn_grown hg5) (fun hm => hnK _ (hnm _ hm) rfl)
        have hbx4 : Bk W4 PP 193 #[.pointer (some ⟨B, 0, none⟩)] := hN3.bx.tn (tn_grown hg5) (fun hm => hN.np.2 _ (.inl (hnm _ hm)) rfl)
        have HT4 : Hid (w4.drew.cell? ⟨PP, 0, none⟩ = some (.pointer (some ⟨B, 0, none⟩)) ∧ w4.drew.cell? ⟨B, 0, none⟩ = some (.slice pK nK cK) ∧ w4.drew.cell? ⟨bx, 0, none⟩ = some (.string xe.key)) := ⟨hN4.bx.cell 0, by rw [← hvK]; exact hN4.cl.blk.cell 0, hkx.cell 0⟩
        have HT5 : Hid (W3.cell? ⟨PP, 0, none⟩ = some (.pointer (some ⟨B, 0, none⟩)) ∧ W3.cell? ⟨B, 0, none⟩ = some (.slice pK nK cK) ∧ W3.cell? ⟨bx, 0, none⟩ = some (.string xe.key)) := ⟨hN3.bx.cell 0, by rw [← hvK]; exact hN3.cl.blk.cell 0, hkx3.cell 0⟩
        have HT6 : Hid (W4.cell? ⟨PP, 0, none⟩ = some (.pointer (some ⟨B, 0, none⟩)) ∧ W4.cell? ⟨B, 0, none⟩ = some (.slice pK nK cK) ∧ W4.cell? ⟨bx, 0, none⟩ = some (.string xe.key)) := ⟨hbx4.cell 0, by rw [← hvK]; exact hblk4.cell 0, hkx4.cell 0⟩
        have y0 : W4.cell? ⟨B, 0, none⟩ = some (.slice pK nK cK) := HT6.out.2.1
        have f0 : W4.frozen? ⟨B, 0, none⟩ = false := hblk4.frozen 0
        obtain ⟨W5, hW5⟩ : ∃ W5, W4.setCell ⟨B, 0, none⟩ (.slice p5 n5 c5) = W5 := ⟨_, rfl⟩
        rw [hW5] at hN5 ht5
        have HE : Hid ((∃ vK, Nd w W5 B PP 0 (textsOf ds ++ (row.take (j + 1)).map fun e => e.key.toList) row vK (.slice (some ⟨gR, 0, none⟩) nR cR)) ∧ W5.heap[D]? = some (.deferred (some []))) := by
          refine ⟨⟨_, by rw [hss2]; exact hN5⟩, ?_⟩
          have h1 : W3.heap[D]? = some (.deferred (some [])) := (ht3.block D (by have := (Array.getElem?_eq_some_iff.1 (show w4.heap[D]? = _ from (ht4.block D (Array.getElem?_eq_some_iff.1 HDr.out).1 (by simp)).trans HDr.out)).1; exact this) (by simp)).trans ((ht4.block D (Array.getElem?_eq_some_iff.1 HDr.out).1 (by simp)).trans HDr.out)
          refine (ht5.block D (Array.getElem?_eq_some_iff.1 h1).1 (fun hm => ?_)).trans h1
          rcases List.mem_cons.1 hm with h2 | h2
          · have h5 : W3.heap[B]? = _ := hN3.cl.blk
            rw [← h2, h1] at h5
            cases h5
          · obtain ⟨o, ho, hc⟩ := row_kind (hN3.cl.row 0 _ rfl) (hnm _ h2)
            rw [h1] at ho
            cases ho
            cases hc
        rw [hvK] at hr5
        have HR5 : Hid _ := hr5
        clear hr5 ho5 hg5 hb5 hN hN3 hN4 hN5 ht3 ht4 ht5 hblk4 hkx hkx3 hkx4 hbx4 hE3 hrr hss hss2 hxe hvK hnK hnm HW
        go_wp2_with fail
        refine wp_mono (Q := NoPanic _) ?_ NoPanic.imp
        refine wp_region_mid (S := (fun w' => w'.cell? ⟨PP, 0, none⟩ = some (.pointer (some ⟨B, 0, none⟩)) ∧ w'.cell? ⟨B, 0, none⟩ = some (.slice pK nK cK) ∧ w'.cell? ⟨bx, 0, none⟩ = some (.string xe.key))) 11 (by kernel_rfl) ?_
        refine wpAnyM_take (i := 0) [] (oi := { dst := some 53, op := Op.load 193 (Operand.tmp 5), type := 193, pos := _, after := #[], guard := none }) (v := .pointer (some ⟨B, 0, none⟩)) rfl (by kernel_rfl) (by kernel_rfl) (by kernel_rfl) (by kernel_rfl) (fun _ _ _ h => h) (Or.inl ⟨by rfl, ?_⟩) HT4.out ?_
        · (intro w' hSw; obtain ⟨m0, m1, m2⟩ := hSw; go_simp; try with_reducible rfl)
        try simp only [Act.put, List.setIfInBounds_toArray, List.set_cons_zero, List.set_cons_succ]
        refine wpAnyM_take (i := 1) [] (oi := { dst := some 54, op := Op.load 193 (Operand.tmp 5), type := 193, pos := _, after := #[], guard := none }) (v := .pointer (some ⟨B, 0, none⟩)) rfl (by kernel_rfl) (by kernel_rfl) (by kernel_rfl) (by kernel_rfl) (fun _ _ _ h => h) (Or.inl ⟨by rfl, ?_⟩) HT4.out ?_
        · (intro w' hSw; obtain ⟨m0, m1, m2⟩ := hSw; go_simp; try with_reducible rfl)
        try simp only [Act.put, List.setIfInBounds_toArray, List.set_cons_zero, List.set_cons_succ]
        refine wpAnyM_take (i := 2) [] (oi := { dst := some 55, op := Op.nilCheck (Operand.tmp 54), type := 0, pos := _, after := #[{ on := 1, ground := Ground.data }], guard := none }) (v := .pointer (some ⟨B, 0, none⟩)) rfl (by kernel_rfl) (by kernel_rfl) (by kernel_rfl) (by kernel_rfl) (fun _ _ _ h => h) (Or.inl ⟨by rfl, ?_⟩) HT4.out ?_
        · (intro w' hSw; obtain ⟨m0, m1, m2⟩ := hSw; go_simp; try with_reducible rfl)
        try simp only [Act.put, List.setIfInBounds_toArray, List.set_cons_zero, List.set_cons_succ]
        refine wpAnyM_take (i := 3) [] (oi := { dst := some 56, op := Op.fieldAddr 214 (Operand.tmp 55) 0, type := 0, pos := _, after := #[{ on := 2, ground := Ground.data }], guard := none }) (v := .pointer (some ⟨B, 0, none⟩)) rfl (by kernel_rfl) (by kernel_rfl) (by kernel_rfl) (by kernel_rfl) (fun _ _ _ h => h) (Or.inl ⟨by rfl, ?_⟩) HT4.out ?_
        · (intro w' hSw; obtain ⟨m0, m1, m2⟩ := hSw; go_simp; try with_reducible rfl)
        try simp only [Act.put, List.setIfInBounds_toArray, List.set_cons_zero, List.set_cons_succ]
        refine wpAnyM_take (i := 4) [] (oi := { dst := some 57, op := Op.load 211 (Operand.tmp 56), type := 211, pos := _, after := #[{ on := 3, ground := Ground.data }], guard := none }) (v := .slice pK nK cK) rfl (by kernel_rfl) (by kernel_rfl) (by kernel_rfl) (by kernel_rfl) (fun _ _ _ h => h) (Or.inl ⟨by rfl, ?_⟩) HT4.out ?_
        · (intro w' hSw; obtain ⟨m0, m1, m2⟩ := hSw; go_simp; try with_reducible rfl)
        try simp only [Act.put, List.setIfInBounds_toArray, List.set_cons_zero, List.set_cons_succ]
        refine wpAnyM_take (i := 5) [] (oi := { dst := some 58, op := Op.fieldAddr 33 (Operand.tmp 9) 0, type := 0, pos := _, after := #[], guard := none }) (v := .pointer (some ⟨bx, 0, none⟩)) rfl (by kernel_rfl) (by kernel_rfl) (by kernel_rfl) (by kernel_rfl) (fun _ _ _ h => h) (Or.inl ⟨by rfl, ?_⟩) HT4.out ?_
        · (intro w' hSw; obtain ⟨m0, m1, m2⟩ := hSw; go_simp; try with_reducible rfl)
        try simp only [Act.put, List.setIfInBounds_toArray, List.set_cons_zero, List.set_cons_succ]
        refine wpAnyM_take (i := 6) [] (oi := { dst := some 59, op := Op.load 9 (Operand.tmp 58), type := 9, pos := _, after := #[{ on := 5, ground := Ground.data }], guard := none }) (v := .string xe.key) rfl (by kernel_rfl) (by kernel_rfl) (by kernel_rfl) (by kernel_rfl) (fun _ _ _ h => h) (Or.inl ⟨by rfl, ?_⟩) HT4.out ?_
        · (intro w' hSw; obtain ⟨m0, m1, m2⟩ := hSw; go_simp; try with_reducible rfl)
        try simp only [Act.put, List.setIfInBounds_toArray, List.set_cons_zero, List.set_cons_succ]
        refine wpAnyM_ready (rs := [7]) (by kernel_rfl) (by simp) ?_
        refine AllReadyM.cons (o := { dst := some 60, op := Op.buildSlice 211 1 #[(0, Operand.tmp 59)], type := 211, pos := _, after := #[{ on := 6, ground := Ground.data }], guard := none }) rfl (fun K hK => ?_) AllReadyM.nil
        have HK9 : Hid (∀ a w, _ → K a w) := hK
        clear hK
        go_simp
        refine HK9.out _ _ ⟨fun _ => HT5.out, ?_⟩
        clear HK9 K
        try simp only [Act.put, List.setIfInBounds_toArray, List.set_cons_zero, List.set_cons_succ]
        refine wpAnyM_ready (rs := [8]) (by kernel_rfl) (by simp) ?_
        refine AllReadyM.cons (o := { dst := some 61, op := Op.call { callee := Callee.builtin Builtin.append, args := #[Operand.tmp 57, Operand.tmp 60], argTypes := #[211, 211] }, type := 211, pos := _, after := #[{ on := 4, ground := Ground.data }, { on := 7, ground := Ground.data }], guard := none }) rfl (fun K hK => ?_) AllReadyM.nil
        have HK9 : Hid (∀ a w, _ → K a w) := hK
        clear hK
        refine step_appR rfl _ _ _ rfl _ _ rfl rfl HR5.out ?_
        refine HK9.out _ _ ⟨fun _ => HT6.out, ?_⟩
        clear HK9 K
        try simp only [Act.put, List.setIfInBounds_toArray, List.set_cons_zero, List.set_cons_succ]
        refine wpAnyM_take (i := 9) [10] (oi := { dst := some 62, op := Op.nilCheck (Operand.tmp 53), type := 0, pos := _, after := #[{ on := 0, ground := Ground.data }, { on := 0, ground := Ground.phase }, { on := 1, ground := Ground.phase }, { on := 2, ground := Ground.phase }, { on := 3, ground := Ground.phase }, { on := 4, ground := Ground.phase }, { on := 5, ground := Ground.phase }, { on := 6, ground := Ground.phase }, { on := 7, ground := Ground.phase }, { on := 8, ground := Ground.phase }], guard := none }) (v := .pointer (some ⟨B, 0, none⟩)) rfl (by kernel_rfl) (by kernel_rfl) (by kernel_rfl) (by kernel_rfl) (fun _ _ _ h => h) (Or.inl ⟨by rfl, ?_⟩) HT6.out ?_
        · (intro w' hSw; obtain ⟨m0, m1, m2⟩ := hSw; go_simp; try with_reducible rfl)
        try simp only [Act.put, List.setIfInBounds_toArray, List.set_cons_zero, List.set_cons_succ]
        refine wpAnyM_take (i := 10) [] (oi := { dst := some 63, op := Op.fieldAddr 214 (Operand.tmp 62) 0, type := 0, pos := _, after := #[{ on := 9, ground := Ground.data }, { on := 0, ground := Ground.phase }, { on := 1, ground := Ground.phase }, { on := 2, ground := Ground.phase }, { on := 3, ground := Ground.phase }, { on := 4, ground := Ground.phase }, { on := 5, ground := Ground.phase }, { on := 6, ground := Ground.phase }, { on := 7, ground := Ground.phase }, { on := 8, ground := Ground.phase }], guard := none }) (v := .pointer (some ⟨B, 0, none⟩)) rfl (by kernel_rfl) (by kernel_rfl) (by kernel_rfl) (by kernel_rfl) (fun _ _ _ h => h) (Or.inl ⟨by rfl, ?_⟩) HT6.out ?_
        · (intro w' hSw; obtain ⟨m0, m1, m2⟩ := hSw; go_simp; try with_reducible rfl)
        try simp only [Act.put, List.setIfInBounds_toArray, List.set_cons_zero, List.set_cons_succ]
        refine wpAnyM_ready (rs := [11]) (by kernel_rfl) (by simp) ?_
        refine AllReadyM.cons (o := { dst := none, op := Op.store 211 (Operand.tmp 63) (Operand.tmp 61), type := 0, pos := _, after := #[{ on := 10, ground := Ground.data }, { on := 8, ground := Ground.data }, { on := 8, ground := Ground.chain }, { on := 0, ground := Ground.phase }, { on := 1, ground := Ground.phase }, { on := 2, ground := Ground.phase }, { on := 3, ground := Ground.phase }, { on := 4, ground := Ground.phase }, { on := 5, ground := Ground.phase }, { on := 6, ground := Ground.phase }, { on := 7, ground := Ground.phase }, { on := 8, ground := Ground.phase }], guard := none }) rfl (fun K hK => ?_) AllReadyM.nil
        have HK9 : Hid (∀ a w, _ → K a w) := hK
        clear hK
        go_simp
        refine HK9.out _ _ ⟨fun h => absurd h (by decide), ?_⟩
        clear HK9 K
        try simp only [Act.put, List.setIfInBounds_toArray, List.set_cons_zero, List.set_cons_succ]
        refine wpAnyM_done (by kernel_rfl) ?_ _
        refine NoPanic.normal ?_
        go_wp2
        exact ⟨⟨j + 1, by omega, by go_num, HE.out.1, HE.out.2⟩, by simp [intOf]; omega⟩
      · have hli : ¬ (j : Int) < (nR : Int) := by omega
        obtain ⟨vK, hN⟩ := HW.out
        have hjE : j = nR := by omega
        rw [hjE, List.take_of_length_le (by omega)] at hN
        have hss : textsOf ds ++ row.map (fun e => e.key.toList) = allTexts pl ds := by unfold allTexts; rw [HROW.out]
        rw [hss] at hN
        have hb2 : (allTexts pl ds).length ≤ 8796093022207 := by have := HR0.out.2; omega
        have hb3 := HR0.out.2
        obtain ⟨pK, nK, cK, hvK⟩ : ∃ p n c, vK = .slice p n c := by
          rcases (hN.cl.row 0 _ rfl).2 with ⟨h1, h2⟩ | ⟨g, c, cur, h1, _⟩
          · exact ⟨none, 0, 0, h1⟩
          · exact ⟨_, _, c, h1⟩
        subst hvK
        have p0 : wr.cell? ⟨PP, 0, none⟩ = some (.pointer (some ⟨B, 0, none⟩)) := hN.bx.cell 0
        have x0 : wr.cell? ⟨B, 0, none⟩ = some (.slice pK nK cK) := hN.cl.blk.cell 0
        have HN : Hid (Nd w wr B PP 0 (allTexts pl ds) row (.slice pK nK cK) (.slice pR nR cR)) := hN
        clear hN HW hlt hj hjE hss
        go_wp2_with fail
        refine (dsort_any (HN.out.cl.row 0 _ rfl) hb2).mono ?_
        rintro e w4 ⟨rfl, ho4, hg4⟩
        have hNw0 : Nwd w wr B PP D (ndVals (.slice pK nK cK) (.slice pR nR cR)) (ndRows (allTexts pl ds) row (.slice pK nK cK) (.slice pR nR cR)) := ⟨HN.out.cl, HN.out.bx, ⟨HN.out.np.1, fun i r hi => by
          match i, hi with
          | 0, hi => cases hi; exact fun e => HN.out.np.2 PP (.inl e) rfl
          | 1, hi => cases hi; exact fun e => HN.out.np.2 PP (.inr e) rfl
          | n + 2, hi => simp [ndRows] at hi⟩, HDr.out, HN.out.below⟩
        have hNw4 := hNw0.app (i := 0) rfl hg4 ho4 (.inl rfl)
        obtain ⟨ts, hts⟩ : ∃ ts, (allTexts pl ds).mergeSort (fun x y => decide (x ≤ y)) = ts := ⟨_, rfl⟩
        have htl : ts.length = (allTexts pl ds).length := by rw [← hts]; simp
        have hks : compact ts = keysOf (allTexts pl ds) := by rw [← hts]; rfl
        rw [hts] at hNw4
        have HN4 : Hid (Nwd w w4 B PP D (ndVals (.slice pK nK cK) (.slice pR nR cR)) [⟨9, 1, .slice pK nK cK, ts.length, ts.map encStr⟩, ⟨33, 4, .slice pR nR cR, row.length, flatE row⟩]) := by rw [htl]; exact hNw4
        have hN4d := HN4.out.still (Tn.drew (Tn.refl [] w4))
        have HC4 : Hid (w4.drew.cell? ⟨PP, 0, none⟩ = some (.pointer (some ⟨B, 0, none⟩)) ∧ w4.drew.cell? ⟨B, 0, none⟩ = some (.slice pK nK cK)) := ⟨hN4d.bx.cell 0, hN4d.cl.blk.cell 0⟩
        have HD4 : Hid (Nwd w w4.drew B PP D (ndVals (.slice pK nK cK) (.slice pR nR cR)) [⟨9, 1, .slice pK nK cK, ts.length, ts.map encStr⟩, ⟨33, 4, .slice pR nR cR, row.length, flatE row⟩]) := hN4d
        clear hNw0 hNw4 ho4 hg4 p0 x0 hN4d hts
        go_wp2_with fail
        refine wp_mono (Q := NoPanic _) ?_ NoPanic.imp
        refine wp_region_mid (S := (fun w' => w'.cell? ⟨PP, 0, none⟩ = some (.pointer (some ⟨B, 0, none⟩)) ∧ w'.cell? ⟨B, 0, none⟩ = some (.slice pK nK cK))) 8 (by kernel_rfl) ?_
        refine wpAnyM_take (i := 0) [] (oi := { dst := some 70, op := Op.load 193 (Operand.tmp 5), type := 193, pos := _, after := #[], guard := none }) (v := .pointer (some ⟨B, 0, none⟩)) rfl (by kernel_rfl) (by kernel_rfl) (by kernel_rfl) (by kernel_rfl) (fun _ _ _ h => h) (Or.inl ⟨by rfl, ?_⟩) HC4.out ?_
        · (intro w' hSw; obtain ⟨m0, m1⟩ := hSw; go_simp; try with_reducible rfl)
        try simp only [Act.put, List.setIfInBounds_toArray, List.set_cons_zero, List.set_cons_succ]
        refine wpAnyM_take (i := 1) [] (oi := { dst := some 71, op := Op.load 193 (Operand.tmp 5), type := 193, pos := _, after := #[], guard := none }) (v := .pointer (some ⟨B, 0, none⟩)) rfl (by kernel_rfl) (by kernel_rfl) (by kernel_rfl) (by kernel_rfl) (fun _ _ _ h => h) (Or.inl ⟨by rfl, ?_⟩) HC4.out ?_
        · (intro w' hSw; obtain ⟨m0, m1⟩ := hSw; go_simp; try with_reducible rfl)
        try simp only [Act.put, List.setIfInBounds_toArray, List.set_cons_zero, List.set_cons_succ]
        refine wpAnyM_take (i := 2) [] (oi := { dst := some 72, op := Op.nilCheck (Operand.tmp 71), type := 0, pos := _, after := #[{ on := 1, ground := Ground.data }], guard := none }) (v := .pointer (some ⟨B, 0, none⟩)) rfl (by kernel_rfl) (by kernel_rfl) (by kernel_rfl) (by kernel_rfl) (fun _ _ _ h => h) (Or.inl ⟨by rfl, ?_⟩) HC4.out ?_
        · (intro w' hSw; obtain ⟨m0, m1⟩ := hSw; go_simp; try with_reducible rfl)
        try simp only [Act.put, List.setIfInBounds_toArray, List.set_cons_zero, List.set_cons_succ]
        refine wpAnyM_take (i := 3) [] (oi := { dst := some 73, op := Op.fieldAddr 214 (Operand.tmp 72) 0, type := 0, pos := _, after := #[{ on := 2, ground := Ground.data }], guard := none }) (v := .pointer (some ⟨B, 0, none⟩)) rfl (by kernel_rfl) (by kernel_rfl) (by kernel_rfl) (by kernel_rfl) (fun _ _ _ h => h) (Or.inl ⟨by rfl, ?_⟩) HC4.out ?_
        · (intro w' hSw; obtain ⟨m0, m1⟩ := hSw; go_simp; try with_reducible rfl)
        try simp only [Act.put, List.setIfInBounds_toArray, List.set_cons_zero, List.set_cons_succ]
        refine wpAnyM_take (i := 4) [] (oi := { dst := some 74, op := Op.load 211 (Operand.tmp 73), type := 211, pos := _, after := #[{ on := 3, ground := Ground.data }], guard := none }) (v := .slice pK nK cK) rfl (by kernel_rfl) (by kernel_rfl) (by kernel_rfl) (by kernel_rfl) (fun _ _ _ h => h) (Or.inl ⟨by rfl, ?_⟩) HC4.out ?_
        · (intro w' hSw; obtain ⟨m0, m1⟩ := hSw; go_simp; try with_reducible rfl)
        try simp only [Act.put, List.setIfInBounds_toArray, List.set_cons_zero, List.set_cons_succ]
        refine wpAnyM_ready (rs := [5]) (by kernel_rfl) (by simp) ?_
        refine AllReadyM.cons (o := { dst := some 75, op := Op.call { callee := Callee.value (Operand.func 150), args := #[Operand.tmp 74], argTypes := #[211] }, type := 211, pos := _, after := #[{ on := 4, ground := Ground.data }], guard := none }) rfl (fun K hK => ?_) AllReadyM.nil
        have HK9 : Hid (∀ a w, _ → K a w) := hK
        clear hK
        go_simp
        refine (dcompact_any (HD4.out.cl.row 0 _ rfl) (by rw [htl]; exact hb2)).mono ?_
        rintro e w5 ⟨v5, rfl, ho5, hg5, hv5⟩
        obtain ⟨p5, n5, c5, hv5e⟩ : ∃ p n c, v5 = .slice p n c := by
          rcases ho5.2 with ⟨h1, h2⟩ | ⟨g, c, cur, h1, _⟩
          · exact ⟨none, 0, 0, h1⟩
          · exact ⟨_, _, c, h1⟩
        subst hv5e
        have hN5 := HD4.out.app (i := 0) rfl hg5 ho5 (.inl hv5)
        rw [hks] at hN5
        have HC5 : Hid (w5.cell? ⟨PP, 0, none⟩ = some (.pointer (some ⟨B, 0, none⟩)) ∧ w5.cell? ⟨B, 0, none⟩ = some (.slice pK nK cK)) := ⟨hN5.bx.cell 0, hN5.cl.blk.cell 0⟩
        have y0 : w5.cell? ⟨B, 0, none⟩ = some (.slice pK nK cK) := HC5.out.2
        have f0 : w5.frozen? ⟨B, 0, none⟩ = false := hN5.cl.blk.frozen 0
        have HN6 : Hid (Nwd w (w5.setCell ⟨B, 0, none⟩ (.slice p5 n5 c5)) B PP D #[.slice p5 n5 c5, .slice pR nR cR, .int .i64 0, nilS, nilS, nilS, nilS, nilS, nilS, nilS] [⟨9, 1, .slice p5 n5 c5, (keysOf (allTexts pl ds)).length, (keysOf (allTexts pl ds)).map encStr⟩, ⟨33, 4, .slice pR nR cR, row.length, flatE row⟩]) := hN5.put 0 (.slice p5 n5 c5)
        clear hN5 ho5 hg5 hv5
        refine HK9.out _ _ ⟨fun _ => HC5.out, ?_⟩
        clear HK9 K
        try simp only [Act.put, List.setIfInBounds_toArray, List.set_cons_zero, List.set_cons_succ]
        refine wpAnyM_take (i := 6) [7] (oi := { dst := some 76, op := Op.nilCheck (Operand.tmp 70), type := 0, pos := _, after := #[{ on := 0, ground := Ground.data }, { on := 0, ground := Ground.phase }, { on := 1, ground := Ground.phase }, { on := 2, ground := Ground.phase }, { on := 3, ground := Ground.phase }, { on := 4, ground := Ground.phase }, { on := 5, ground := Ground.phase }], guard := none }) (v := .pointer (some ⟨B, 0, none⟩)) rfl (by kernel_rfl) (by kernel_rfl) (by kernel_rfl) (by kernel_rfl) (fun _ _ _ h => h) (Or.inl ⟨by rfl, ?_⟩) HC5.out ?_
        · (intro w' hSw; obtain ⟨m0, m1⟩ := hSw; go_simp; try with_reducible rfl)
        try simp only [Act.put, List.setIfInBounds_toArray, List.set_cons_zero, List.set_cons_succ]
        refine wpAnyM_take (i := 7) [] (oi := { dst := some 77, op := Op.fieldAddr 214 (Operand.tmp 76) 0, type := 0, pos := _, after := #[{ on := 6, ground := Ground.data }, { on := 0, ground := Ground.phase }, { on := 1, ground := Ground.phase }, { on := 2, ground := Ground.phase }, { on := 3, ground := Ground.phase }, { on := 4, ground := Ground.phase }, { on := 5, ground := Ground.phase }], guard := none }) (v := .pointer (some ⟨B, 0, none⟩)) rfl (by kernel_rfl) (by kernel_rfl) (by kernel_rfl) (by kernel_rfl) (fun _ _ _ h => h) (Or.inl ⟨by rfl, ?_⟩) HC5.out ?_
        · (intro w' hSw; obtain ⟨m0, m1⟩ := hSw; go_simp; try with_reducible rfl)
        try simp only [Act.put, List.setIfInBounds_toArray, List.set_cons_zero, List.set_cons_succ]
        refine wpAnyM_ready (rs := [8]) (by kernel_rfl) (by simp) ?_
        refine AllReadyM.cons (o := { dst := none, op := Op.store 211 (Operand.tmp 77) (Operand.tmp 75), type := 0, pos := _, after := #[{ on := 7, ground := Ground.data }, { on := 5, ground := Ground.data }, { on := 5, ground := Ground.chain }, { on := 0, ground := Ground.phase }, { on := 1, ground := Ground.phase }, { on := 2, ground := Ground.phase }, { on := 3, ground := Ground.phase }, { on := 4, ground := Ground.phase }, { on := 5, ground := Ground.phase }], guard := none }) rfl (fun K hK => ?_) AllReadyM.nil
        have HK9 : Hid (∀ a w, _ → K a w) := hK
        clear hK
        go_simp
        refine HK9.out _ _ ⟨fun h => absurd h (by decide), ?_⟩
        clear HK9 K
        try simp only [Act.put, List.setIfInBounds_toArray, List.set_cons_zero, List.set_cons_succ]
        refine wpAnyM_done (by kernel_rfl) ?_ _
        refine NoPanic.normal ?_
        obtain ⟨ks, hksE⟩ : ∃ ks, keysOf (allTexts pl ds) = ks := ⟨_, rfl⟩
        have hrise : Rise ks := by rw [← hksE]; exact (keysOf_facts _).1
        have hkmem : ∀ e ∈ row, kw ks e.key := fun e he => by
          rw [← hksE]
          refine (keysOf_facts _).2 _ ?_
          unfold allTexts
          rw [HROW.out]
          exact List.mem_append_right _ (List.mem_map.2 ⟨e, he, rfl⟩)
        have hklen : ks.length ≤ 7036874417766 := by
          have := keysOf_len (allTexts pl ds)
          rw [hksE] at this
          omega
        rw [hksE] at HN6
        have HKS : Hid (keysOf (allTexts pl ds) = ks) := hksE
        clear hksE hks htl HD4 HN4 HC4 HC5 y0 f0
        obtain ⟨K, hK⟩ : ∃ K, ks.length = K := ⟨_, rfl⟩
        rw [hK] at HN6 hklen
        rw [hnRl] at HN6
        obtain ⟨w6, hw6⟩ : ∃ w6, w5.setCell ⟨B, 0, none⟩ (.slice p5 n5 c5) = w6 := ⟨_, rfl⟩
        rw [hw6] at HN6
        obtain ⟨pR5, hn5⟩ : ∃ p, Value.slice p5 n5 c5 = .slice p K c5 := by
          rcases (HN6.out.cl.row 0 _ rfl).2 with ⟨h1, h2⟩ | ⟨g, c, cur, h1, _⟩
          · simp only at h1 h2; cases h1; exact ⟨none, by rw [h2]⟩
          · simp only at h1; cases h1; exact ⟨_, rfl⟩
        simp only [Value.slice.injEq] at hn5
        obtain ⟨hp5, hn5, -⟩ := hn5
        subst hp5
        subst hn5
        have q0 : w6.cell? ⟨PP, 0, none⟩ = some (.pointer (some ⟨B, 0, none⟩)) := HN6.out.bx.cell 0
        go_wp2_with fail
        refine (link_any HN6.out.cl hK hnRl hrise hkmem (by omega) (by omega)).mono ?_
        rintro e w7 ⟨rfl, ⟨gk, gn, gf, hc7⟩, ht7⟩
        have HN7 : Hid (Nwd w w7 B PP D #[.slice p5 n5 c5, .slice pR nR cR, .int .i64 0, sl gk nR nR, sl gn nR nR, sl gf n5 n5, nilS, nilS, nilS, nilS] [⟨9, 1, .slice p5 n5 c5, n5, ks.map encStr⟩, ⟨33, 4, .slice pR nR cR, nR, flatE row⟩, ⟨3, 1, sl gk nR nR, nR, ints (ofs (knOf ks row))⟩, ⟨3, 1, sl gn nR nR, nR, ints (ofs (nxOf (knOf ks row)))⟩, ⟨3, 1, sl gf n5 n5, n5, ints (ofs (fsOf (knOf ks row) n5 0))⟩]) := by
          have hbx7 := HN6.out.bx.tn ht7 (by simp; exact Ne.symm HN6.out.np.1)
          refine ⟨hc7, hbx7, ⟨HN6.out.np.1, fun i r hi => ?_⟩, (ht7.block D (Array.getElem?_eq_some_iff.1 HN6.out.dd).1 (by simp; exact dd_ne HN6.out.dd HN6.out.cl.blk rfl)).trans HN6.out.dd, HN6.out.below.trans (ht7.below HN6.out.below.size (by simp; exact HN6.out.cl.ge))⟩
          have hrow := hc7.row i r hi
          cases hv : r.v.ownBlock with
          | none => simp
          | some k =>
            rw [← hv]
            refine bk_ne_row hbx7 hrow hv ?_
            match i, hi with
            | 0, hi => cases hi; show (193 : Nat) ≠ 9; decide
            | 1, hi => cases hi; show (193 : Nat) ≠ 33; decide
            | 2, hi => cases hi; show (193 : Nat) ≠ 3; decide
            | 3, hi => cases hi; show (193 : Nat) ≠ 3; decide
            | 4, hi => cases hi; show (193 : Nat) ≠ 3; decide
            | n + 5, hi => simp at hi
        clear hc7 ht7 q0 hw6 HN6
        have p0 : w7.cell? ⟨PP, 0, none⟩ = some (.pointer (some ⟨B, 0, none⟩)) := HN7.out.bx.cell 0
        have x1 : w7.cell? ⟨B, 1, none⟩ = some (.slice pR nR cR) := HN7.out.cl.blk.cell 1
        have hN9 := HN7.out.still (Tn.drew (Tn.refl [] w7))
        have HNd : Hid (Nwd w w7.drew B PP D #[.slice p5 n5 c5, .slice pR nR cR, .int .i64 0, sl gk nR nR, sl gn nR nR, sl gf n5 n5, nilS, nilS, nilS, nilS] [⟨9, 1, .slice p5 n5 c5, n5, ks.map encStr⟩, ⟨33, 4, .slice pR nR cR, nR, flatE row⟩, ⟨3, 1, sl gk nR nR, nR, ints (ofs (knOf ks row))⟩, ⟨3, 1, sl gn nR nR, nR, ints (ofs (nxOf (knOf ks row)))⟩, ⟨3, 1, sl gf n5 n5, n5, ints (ofs (fsOf (knOf ks row) n5 0))⟩]) := hN9
        clear hN9
        go_wp2_with fail
        refine wp_mono (Q := NoPanic _) ?_ NoPanic.imp
        go_region_held3 (fun w' => w'.cell? ⟨PP, 0, none⟩ = some (.pointer (some ⟨B, 0, none⟩)) ∧ w'.cell? ⟨B, 1, none⟩ = some (.slice pR nR cR)) (go_keep) (first | (go_at_call 152; refine (newPeaks_any nR (by omega) w7.drew).mono ?_; rintro e w9 ⟨n1, t1, D1, rfl, hI9, hl9, hi9, hr9, hb9, hB9⟩; have hN9 := HNd.out.add (Tn.of_below hB9 []) (r := ⟨3, 1, sl w7.heap.size n1 n1, n1, ints t1⟩) (g := w7.heap.size) (by (have h2 := hI9; unfold Ir at h2; rw [hl9] at h2; exact row_mono h2 HNd.out.below.size)) rfl (Nat.le_refl _); have q0 : w9.cell? ⟨PP, 0, none⟩ = some (.pointer (some ⟨B, 0, none⟩)) := hN9.bx.cell 0; have q1 : w9.cell? ⟨B, 1, none⟩ = some (.slice pR nR cR) := hN9.cl.blk.cell 1; have y6 : w9.cell? ⟨B, 6, none⟩ = some nilS := hN9.cl.blk.cell 6; have f6 : w9.frozen? ⟨B, 6, none⟩ = false := hN9.cl.blk.frozen 6; have r0 : ∀ u, (w9.setCell ⟨B, 6, none⟩ u).cell? ⟨PP, 0, none⟩ = some (.pointer (some ⟨B, 0, none⟩)) := fun u => (hN9.put 6 u).bx.cell 0; have r1 : ∀ u, (w9.setCell ⟨B, 6, none⟩ u).cell? ⟨B, 1, none⟩ = some (.slice pR nR cR) := fun u => (hN9.put 6 u).cl.blk.cell 1))
        refine NoPanic.normal ?_
        have hN10 := hN9.put 6 (sl w7.heap.size n1 n1)
        obtain ⟨gt, hgt⟩ : ∃ g, w7.heap.size = g := ⟨_, rfl⟩
        obtain ⟨w8, hW2⟩ : ∃ W2, w9.setCell ⟨B, 6, none⟩ (sl w7.heap.size n1 n1) = W2 := ⟨_, rfl⟩
        rw [hW2] at hN10 ⊢
        rw [hgt] at hN10 ⊢
        have HN8 : Hid (Nwd w w8 B PP D #[.slice p5 n5 c5, .slice pR nR cR, .int .i64 0, sl gk nR nR, sl gn nR nR, sl gf n5 n5, sl gt n1 n1, nilS, nilS, nilS] [⟨9, 1, .slice p5 n5 c5, n5, ks.map encStr⟩, ⟨33, 4, .slice pR nR cR, nR, flatE row⟩, ⟨3, 1, sl gk nR nR, nR, ints (ofs (knOf ks row))⟩, ⟨3, 1, sl gn nR nR, nR, ints (ofs (nxOf (knOf ks row)))⟩, ⟨3, 1, sl gf n5 n5, n5, ints (ofs (fsOf (knOf ks row) n5 0))⟩, ⟨3, 1, sl gt n1 n1, n1, ints t1⟩]) := hN10
        have HP1 : Hid (t1.length = n1 ∧ Pk.Is t1 D1 (Pk.upd (fun _ => 0) nR 9223372036854775807) ∧ nR < 2 ^ D1 ∧ n1 ≤ 35184372088832) := ⟨hl9, hi9, hr9, hb9⟩
        clear hN9 hN10 hI9 hl9 hi9 hr9 hb9 hB9 q0 q1 y6 f6 r0 r1 p0 x1 hW2 hgt HNd HN7
        have p0 : w8.cell? ⟨PP, 0, none⟩ = some (.pointer (some ⟨B, 0, none⟩)) := HN8.out.bx.cell 0
        have x1 : w8.cell? ⟨B, 0, none⟩ = some (.slice p5 n5 c5) := HN8.out.cl.blk.cell 0
        obtain ⟨w9, hmk, hN9⟩ := HN8.out.makeE n5 (by omega)
        have q0 : w9.cell? ⟨PP, 0, none⟩ = some (.pointer (some ⟨B, 0, none⟩)) := hN9.bx.cell 0
        have q1 : w9.cell? ⟨B, 0, none⟩ = some (.slice p5 n5 c5) := hN9.cl.blk.cell 0
        have y6 : w9.cell? ⟨B, 7, none⟩ = some nilS := hN9.cl.blk.cell 7
        have f6 : w9.frozen? ⟨B, 7, none⟩ = false := hN9.cl.blk.frozen 7
        go_wp2_with fail
        refine wp_mono (Q := NoPanic _) ?_ NoPanic.imp
        go_region
        refine NoPanic.normal ?_
        have hN10 := hN9.put 7 (sl w8.heap.size n5 n5)
        obtain ⟨ga, hga⟩ : ∃ g, w8.heap.size = g := ⟨_, rfl⟩
        obtain ⟨w10, hW2⟩ : ∃ W2, w9.setCell ⟨B, 7, none⟩ (sl w8.heap.size n5 n5) = W2 := ⟨_, rfl⟩
        rw [hW2] at hN10 ⊢
        rw [hga] at hN10 ⊢
        have HN10 : Hid (Nwd w w10 B PP D #[.slice p5 n5 c5, .slice pR nR cR, .int .i64 0, sl gk nR nR, sl gn nR nR, sl gf n5 n5, sl gt n1 n1, sl ga n5 n5, nilS, nilS] [⟨9, 1, .slice p5 n5 c5, n5, ks.map encStr⟩, ⟨33, 4, .slice pR nR cR, nR, flatE row⟩, ⟨3, 1, sl gk nR nR, nR, ints (ofs (knOf ks row))⟩, ⟨3, 1, sl gn nR nR, nR, ints (ofs (nxOf (knOf ks row)))⟩, ⟨3, 1, sl gf n5 n5, n5, ints (ofs (fsOf (knOf ks row) n5 0))⟩, ⟨3, 1, sl gt n1 n1, n1, ints t1⟩, ⟨33, 4, sl ga n5 n5, n5, flatE (List.replicate n5 En.zero)⟩]) := hN10
        clear hN9 hN10 hmk p0 x1 q0 q1 y6 f6 hW2 hga
        have p0 : w10.cell? ⟨PP, 0, none⟩ = some (.pointer (some ⟨B, 0, none⟩)) := HN10.out.bx.cell 0
        have x1 : w10.cell? ⟨B, 0, none⟩ = some (.slice p5 n5 c5) := HN10.out.cl.blk.cell 0
        obtain ⟨w9, hmk, hN9⟩ := HN10.out.makeI n5 (by omega)
        have q0 : w9.cell? ⟨PP, 0, none⟩ = some (.pointer (some ⟨B, 0, none⟩)) := hN9.bx.cell 0
        have q1 : w9.cell? ⟨B, 0, none⟩ = some (.slice p5 n5 c5) := hN9.cl.blk.cell 0
        have y6 : w9.cell? ⟨B, 8, none⟩ = some nilS := hN9.cl.blk.cell 8
        have f6 : w9.frozen? ⟨B, 8, none⟩ = false := hN9.cl.blk.frozen 8
        go_wp2_with fail
        refine wp_mono (Q := NoPanic _) ?_ NoPanic.imp
        go_region
        refine NoPanic.normal ?_
        have hN10 := hN9.put 8 (sl w10.heap.size n5 n5)
        obtain ⟨gg, hgg⟩ : ∃ g, w10.heap.size = g := ⟨_, rfl⟩
        obtain ⟨w11, hW2⟩ : ∃ W2, w9.setCell ⟨B, 8, none⟩ (sl w10.heap.size n5 n5) = W2 := ⟨_, rfl⟩
        rw [hW2] at hN10 ⊢
        rw [hgg] at hN10 ⊢
        have HN11 : Hid (Nwd w w11 B PP D #[.slice p5 n5 c5, .slice pR nR cR, .int .i64 0, sl gk nR nR, sl gn nR nR, sl gf n5 n5, sl gt n1 n1, sl ga n5 n5, sl gg n5 n5, nilS] [⟨9, 1, .slice p5 n5 c5, n5, ks.map encStr⟩, ⟨33, 4, .slice pR nR cR, nR, flatE row⟩, ⟨3, 1, sl gk nR nR, nR, ints (ofs (knOf ks row))⟩, ⟨3, 1, sl gn nR nR, nR, ints (ofs (nxOf (knOf ks row)))⟩, ⟨3, 1, sl gf n5 n5, n5, ints (ofs (fsOf (knOf ks row) n5 0))⟩, ⟨3, 1, sl gt n1 n1, n1, ints t1⟩, ⟨33, 4, sl ga n5 n5, n5, flatE (List.replicate n5 En.zero)⟩, ⟨3, 1, sl gg n5 n5, n5, ints (List.replicate n5 0)⟩]) := hN10
        clear hN9 hN10 hmk p0 x1 q0 q1 y6 f6 hW2 hgg
        have p0 : w11.cell? ⟨PP, 0, none⟩ = some (.pointer (some ⟨B, 0, none⟩)) := HN11.out.bx.cell 0
        have x1 : w11.cell? ⟨B, 0, none⟩ = some (.slice p5 n5 c5) := HN11.out.cl.blk.cell 0
        have hN9 := HN11.out.still (Tn.drew (Tn.refl [] w11))
        have HNd : Hid (Nwd w w11.drew B PP D #[.slice p5 n5 c5, .slice pR nR cR, .int .i64 0, sl gk nR nR, sl gn nR nR, sl gf n5 n5, sl gt n1 n1, sl ga n5 n5, sl gg n5 n5, nilS] [⟨9, 1, .slice p5 n5 c5, n5, ks.map encStr⟩, ⟨33, 4, .slice pR nR cR, nR, flatE row⟩, ⟨3, 1, sl gk nR nR, nR, ints (ofs (knOf ks row))⟩, ⟨3, 1, sl gn nR nR, nR, ints (ofs (nxOf (knOf ks row)))⟩, ⟨3, 1, sl gf n5 n5, n5, ints (ofs (fsOf (knOf ks row) n5 0))⟩, ⟨3, 1, sl gt n1 n1, n1, ints t1⟩, ⟨33, 4, sl ga n5 n5, n5, flatE (List.replicate n5 En.zero)⟩, ⟨3, 1, sl gg n5 n5, n5, ints (List.replicate n5 0)⟩]) := hN9
        clear hN9
        go_wp2_with fail
        refine wp_mono (Q := NoPanic _) ?_ NoPanic.imp
        go_region_held3 (fun w' => w'.cell? ⟨PP, 0, none⟩ = some (.pointer (some ⟨B, 0, none⟩)) ∧ w'.cell? ⟨B, 0, none⟩ = some (.slice p5 n5 c5)) (go_keep) (first | (go_at_call 152; refine (newPeaks_any n5 (by omega) w11.drew).mono ?_; rintro e w9 ⟨n2, t2, D2, rfl, hI9, hl9, hi9, hr9, hb9, hB9⟩; have hN9 := HNd.out.add (Tn.of_below hB9 []) (r := ⟨3, 1, sl w11.heap.size n2 n2, n2, ints t2⟩) (g := w11.heap.size) (by (have h2 := hI9; unfold Ir at h2; rw [hl9] at h2; exact row_mono h2 HNd.out.below.size)) rfl (Nat.le_refl _); have q0 : w9.cell? ⟨PP, 0, none⟩ = some (.pointer (some ⟨B, 0, none⟩)) := hN9.bx.cell 0; have q1 : w9.cell? ⟨B, 0, none⟩ = some (.slice p5 n5 c5) := hN9.cl.blk.cell 0; have y6 : w9.cell? ⟨B, 9, none⟩ = some nilS := hN9.cl.blk.cell 9; have f6 : w9.frozen? ⟨B, 9, none⟩ = false := hN9.cl.blk.frozen 9; have r0 : ∀ u, (w9.setCell ⟨B, 9, none⟩ u).cell? ⟨PP, 0, none⟩ = some (.pointer (some ⟨B, 0, none⟩)) := fun u => (hN9.put 9 u).bx.cell 0; have r1 : ∀ u, (w9.setCell ⟨B, 9, none⟩ u).cell? ⟨B, 0, none⟩ = some (.slice p5 n5 c5) := fun u => (hN9.put 9 u).cl.blk.cell 0))
        refine NoPanic.normal ?_
        have hN10 := hN9.put 9 (sl w11.heap.size n2 n2)
        obtain ⟨gs, hgs⟩ : ∃ g, w11.heap.size = g := ⟨_, rfl⟩
        obtain ⟨w12, hW2⟩ : ∃ W2, w9.setCell ⟨B, 9, none⟩ (sl w11.heap.size n2 n2) = W2 := ⟨_, rfl⟩
        rw [hW2] at hN10 ⊢
        rw [hgs] at hN10 ⊢
        have HN12 : Hid (Nwd w w12 B PP D #[.slice p5 n5 c5, .slice pR nR cR, .int .i64 0, sl gk nR nR, sl gn nR nR, sl gf n5 n5, sl gt n1 n1, sl ga n5 n5, sl gg n5 n5, sl gs n2 n2] [⟨9, 1, .slice p5 n5 c5, n5, ks.map encStr⟩, ⟨33, 4, .slice pR nR cR, nR, flatE row⟩, ⟨3, 1, sl gk nR nR, nR, ints (ofs (knOf ks row))⟩, ⟨3, 1, sl gn nR nR, nR, ints (ofs (nxOf (knOf ks row)))⟩, ⟨3, 1, sl gf n5 n5, n5, ints (ofs (fsOf (knOf ks row) n5 0))⟩, ⟨3, 1, sl gt n1 n1, n1, ints t1⟩, ⟨33, 4, sl ga n5 n5, n5, flatE (List.replicate n5 En.zero)⟩, ⟨3, 1, sl gg n5 n5, n5, ints (List.replicate n5 0)⟩, ⟨3, 1, sl gs n2 n2, n2, ints t2⟩]) := hN10
        have HP2 : Hid (t2.length = n2 ∧ Pk.Is t2 D2 (Pk.upd (fun _ => 0) n5 9223372036854775807) ∧ n5 < 2 ^ D2 ∧ n2 ≤ 35184372088832) := ⟨hl9, hi9, hr9, hb9⟩
        clear hN9 hN10 hI9 hl9 hi9 hr9 hb9 hB9 q0 q1 y6 f6 r0 r1 p0 x1 hW2 hgs HNd HN11
        have p0 : w12.cell? ⟨PP, 0, none⟩ = some (.pointer (some ⟨B, 0, none⟩)) := HN12.out.bx.cell 0
        go_wp2
        have hD12 := HN12.out.dd
        refine ⟨by simp, .inl ⟨_, _, rfl, run_takeDeferred hD12, ?_⟩⟩
        have hg : w12.grownBy (w12.putObj D (.deferred none)) (some D) := ⟨rfl, rfl, rfl, by simp, fun k _ hk => World.putObj_heap_other (fun e => hk (by rw [e]))⟩
        have hcl := HN12.out.cl.abides (m := 0) hg (fun r hr => by cases hr; exact ⟨Nat.zero_le _, _, hD12, rfl⟩)
        refine ⟨.pointer (some ⟨B, 0, none⟩), ?_, B, ⟨.slice p5 n5 c5, .slice pR nR cR, gk, nR, gn, nR, gf, n5, gt, n1, ga, n5, gg, n5, gs, n2⟩, rfl, ⟨t1, t2, n1, n2, D1, D2, ?_⟩, ?_⟩
        · exact results_tmp (fn := Tryz.f132) (t := 4) rfl _ _ _
        · rw [HDSE.out, HKS.out, HROW.out]
          have hF : fx0 ks row = ⟨n5, nR, knOf ks row, nxOf (knOf ks row)⟩ := by unfold fx0; rw [hK, hnRl]
          have e0 : ints (List.replicate n5 0) = ints (ofs (List.replicate n5 0)) := by simp [ofs]
          refine { cl := ?_, inv := inv0 hrise hkmem, rise := hrise, kl := rfl, l1 := HP1.out.1, l2 := HP2.out.1, i1 := ?_, i2 := ?_, r1 := ?_, r2 := ?_, b1 := HP1.out.2.2.2, b2 := HP2.out.2.2.2, bR := ?_, bK := ?_ }
          · unfold drVals drRows df0
            rw [hF, hK]
            simp only [← e0]
            exact hcl
          · have : xT (fx0 ks row) (df0 ks row) = Pk.upd (fun _ => 0) nR 9223372036854775807 := by
              funext a
              unfold xT Pk.upd th
              rw [hF]
              simp [df0]
            rw [this]
            exact HP1.out.2.1
          · have : xS (fx0 ks row) (df0 ks row) = Pk.upd (fun _ => 0) n5 9223372036854775807 := by
              funext a
              unfold xS Pk.upd
              rw [hF]
              simp [df0]
            rw [this]
            exact HP2.out.2.1
          · rw [hF]; exact HP1.out.2.2.1
          · rw [hF]; exact HP2.out.2.2.1
          · rw [hF]; show nR ≤ _; omega
          · rw [hF]; show n5 ≤ _; omega
        · refine HN12.out.below.trans ⟨rfl, rfl, rfl, by simp, fun k hk => World.putObj_heap_other (by have := HDD.out.2; omega)⟩
  case body =>
    rintro l pre x bx W hl2 hT ⟨hbx, kx⟩ hpre
    obtain ⟨vK, vR, hN, hnb⟩ := hT
    have hOk : x.2.Ok W := by
      have hx := Dl.bw_mem hpre
      obtain ⟨b, o, -, hc⟩ := HDS.out W hN.below (by have := (List.getElem?_eq_some_iff.1 hx).1; omega)
      exact (hc _ _ hx).2
    obtain ⟨xi, ⟨⟨dk, ⟨dek, des, deg, dec⟩, dkey, dpg, ⟨dleaf, dlo, dhi, dr, dl⟩⟩, dp, dn, dc⟩⟩ := x
    obtain ⟨ds, hds⟩ : ∃ ds : List De, pre.map (·.2.d) = ds := ⟨_, rfl⟩
    have hds2 : (pre ++ [(xi, (⟨⟨dk, ⟨dek, des, deg, dec⟩, dkey, dpg, ⟨dleaf, dlo, dhi, dr, dl⟩⟩, dp, dn, dc⟩ : Dm))]).map (·.2.d) = ds ++ [⟨dk, ⟨dek, des, deg, dec⟩, dkey, dpg, ⟨dleaf, dlo, dhi, dr, dl⟩⟩] := by rw [List.map_append, hds]; rfl
    have hlens : (pl ++ rowsOf ds ++ dl).length ≤ 3518437208782 ∧ (textsOf ds).length + 2 ≤ 8796093022207 := by
      obtain ⟨tl, htl⟩ := hpre
      have h1 : (L.map (·.d)).reverse = ds ++ [⟨dk, ⟨dek, des, deg, dec⟩, dkey, dpg, ⟨dleaf, dlo, dhi, dr, dl⟩⟩] ++ tl.map (·.2.d) := by
        rw [← Dl.bw_map, ← htl, List.map_append, hds2]
      have h2 := HRT.out
      have h3 := HKT.out
      unfold allTexts at h3
      rw [h1] at h2 h3
      simp only [rowsOf, textsOf, List.map_append, List.flatten_append, List.length_append, List.map_cons, List.map_nil, List.flatten_cons, List.flatten_nil, List.length_cons, List.length_nil] at h2 h3 ⊢
      omega
    rw [hds] at hN
    have hnR : ∀ k, vR.ownBlock = some k → k ≠ bx := fun k hk e => by
      rw [e] at hk
      rcases (hN.cl.row 1 _ rfl).2 with ⟨h1, _⟩ | ⟨g, c, cur, h1, _, h2, _⟩
      · have : vR = nilS := h1
        rw [this] at hk; cases hk
      · have : vR = _ := h1
        rw [this] at hk
        have hgx : g = bx := Option.some.inj hk
        rw [hgx, show W.heap[bx]? = _ from kx] at h2
        cases h2
    have hnK : ∀ k, vK.ownBlock = some k → k ≠ bx := fun k hk e => by
      rw [e] at hk
      rcases (hN.cl.row 0 _ rfl).2 with ⟨h1, _⟩ | ⟨g, c, cur, h1, _, h2, _⟩
      · have : vK = nilS := h1
        rw [this] at hk; cases hk
      · have : vK = _ := h1
        rw [this] at hk
        have hgx : g = bx := Option.some.inj hk
        rw [hgx, show W.heap[bx]? = _ from kx] at h2
        cases h2
    have hBx : B ≠ bx := by omega
    have hPx : PP ≠ bx := by omega
    obtain ⟨pR, nR, cR, hvR, hnRl⟩ : ∃ p n c, vR = .slice p n c ∧ n = (pl ++ rowsOf ds).length := by
      have h1 : OwnE W w.heap.size vR (pl ++ rowsOf ds) := hN.cl.row 1 _ rfl
      obtain ⟨q, c, hv, _, _⟩ := h1.ens
      exact ⟨q, _, c, hv, rfl⟩
    obtain ⟨pK, nK, cK, hvK, hnKl⟩ : ∃ p n c, vK = .slice p n c ∧ n = (textsOf ds).length := by
      rcases (hN.cl.row 0 _ rfl).2 with ⟨h1, h2⟩ | ⟨g, c, cur, h1, _⟩
      · exact ⟨none, 0, 0, h1, h2.symm⟩
      · exact ⟨_, _, c, h1, rfl⟩
    -- the row
    have hNd := hN.still (Tn.drew (Tn.refl [] W))
    have hkxd : Bk W.drew bx 35 #[.int .i64 dk, .string dek, .int .i64 des, .int .i64 deg, .int .i64 dec, .string dkey, .int .i64 dpg, .bool dleaf, .string dlo, .string dhi, .int .i64 dr, .slice dp dn dc] := kx
    have hensd : Ens W.drew dp dl := hOk.ens.alike (fun k hk => rfl)
    obtain ⟨v4, W1, hr4, ho4, hg4, hb4⟩ := run_appE W.drew w.heap.size 27 vR (pl ++ rowsOf ds) dl dp dn dc hOk.len hensd hOk.nil (hNd.cl.row 1 _ rfl) (by
      have h1 := hlens.1
      have h2 := hOk.len
      simp only at h2
      rw [List.length_append] at h1
      omega) hNd.below.size
    obtain ⟨p4, n4, c4, hv4⟩ : ∃ p n c, v4 = .slice p n c := by
      obtain ⟨q, c, hv, _, _⟩ := ho4.ens
      exact ⟨q, _, c, hv⟩
    subst hv4
    obtain ⟨hN2, ht2, hblk1⟩ := hNd.appR hg4 ho4 hb4
    have hkx1 : Bk W1 bx 35 #[.int .i64 dk, .string dek, .int .i64 des, .int .i64 deg, .int .i64 dec, .string dkey, .int .i64 dpg, .bool dleaf, .string dlo, .string dhi, .int .i64 dr, .slice dp dn dc] := hkxd.tn (tn_grown hg4) (fun hm => by
      cases hb : vR.ownBlock with
      | none => rw [hb] at hm; simp at hm
      | some y => rw [hb] at hm; simp at hm; exact hnR y hb hm.symm)
    have hbx1 : Bk W1 PP 193 #[.pointer (some ⟨B, 0, none⟩)] := hNd.bx.tn (tn_grown hg4) (fun hm => by
      cases hb : vR.ownBlock with
      | none => rw [hb] at hm; simp at hm
      | some y => rw [hb] at hm; simp at hm; exact hN.np.2 y (.inr hb) hm.symm)
    have hnb2 : ∀ k, vK.ownBlock = some k ∨ (Value.slice p4 n4 c4).ownBlock = some k → k ≠ w2.heap.size := fun k hk => by
      rcases hk with h | h
      · exact hnb k (.inl h)
      · rcases hb4 with h5 | h5
        · rw [h5] at h; exact hnb k (.inr h)
        · rw [h5] at h
          cases h
          have := hN.sz
          show W.drew.heap.size ≠ _
          show W.heap.size ≠ _
          omega
    have HS4 : Hid (W.drew.cell? ⟨PP, 0, none⟩ = some (.pointer (some ⟨B, 0, none⟩)) ∧ W.drew.cell? ⟨B, 1, none⟩ = some (.slice pR nR cR) ∧ W.drew.cell? ⟨bx, 11, none⟩ = some (.slice dp dn dc)) := ⟨hNd.bx.cell 0, by rw [← hvR]; exact hNd.cl.blk.cell 1, hkxd.cell 11⟩
    have HS5 : Hid (W1.cell? ⟨PP, 0, none⟩ = some (.pointer (some ⟨B, 0, none⟩)) ∧ W1.cell? ⟨B, 1, none⟩ = some (.slice pR nR cR) ∧ W1.cell? ⟨bx, 11, none⟩ = some (.slice dp dn dc)) := ⟨hbx1.cell 0, by rw [← hvR]; exact hblk1.cell 1, hkx1.cell 11⟩
    have y1 : W1.cell? ⟨B, 1, none⟩ = some (.slice pR nR cR) := HS5.out.2.1
    have f1 : W1.frozen? ⟨B, 1, none⟩ = false := hblk1.frozen 1
    rw [hvR] at hr4
    have HR4 : Hid _ := hr4
    -- the keys
    obtain ⟨W2, hW2⟩ : ∃ W2, W1.setCell ⟨B, 1, none⟩ (.slice p4 n4 c4) = W2 := ⟨_, rfl⟩
    rw [hW2] at hN2 ht2
    have ht2' : Tn (B :: vR.ownBlock.toList) W W2 := ⟨ht2.os, ht2.tape, ht2.output, ht2.size, ht2.block⟩
    have hkx2 : Bk W2 bx 35 #[.int .i64 dk, .string dek, .int .i64 des, .int .i64 deg, .int .i64 dec, .string dkey, .int .i64 dpg, .bool dleaf, .string dlo, .string dhi, .int .i64 dr, .slice dp dn dc] := by rw [← hW2]; exact hkx1.other (p := ⟨B, 1, none⟩) (Ne.symm hBx) _
    have hN2d := hN2.still (Tn.drew (Tn.refl [] W2))
    obtain ⟨W3, hW3⟩ : ∃ W3, W2.drew.alloc (.cells #[.string dkey, .string dek] 9) = W3 := ⟨_, rfl⟩
    have ht3 : Tn [] W2.drew W3 := by rw [← hW3]; exact (Tn.refl [] _).alloc _
    have hN3 := hN2d.still ht3
    have hE3 : Bk W3 W2.heap.size 9 #[.string dkey, .string dek] := by rw [← hW3]; exact Bk.new W2.drew _ _
    have hkx3 : Bk W3 bx 35 _ := (show Bk W2.drew bx 35 _ from hkx2).tn ht3 (by simp)
    obtain ⟨v5, W4, hr5, ho5, hg5, hb5⟩ := run_appS W3 w.heap.size 211 vK (textsOf ds) [dkey.toList, dek.toList] W2.heap.size 2 rfl (fun j u hu => by
      have hj : j < 2 := by have := (List.getElem?_eq_some_iff.1 hu).1; simpa using this
      rw [show (⟨W2.heap.size, 0, none⟩ : Addr).add j = ⟨W2.heap.size, j, none⟩ by unfold Addr.add; split <;> simp_all]
      rw [hE3.cell j]
      have e1 := enc_key dkey
      have e2 := enc_key dek
      match j, hj, hu with
      | 0, _, hu => simp only [List.map_cons, List.getElem?_cons_zero, Option.some.injEq] at hu; rw [← hu, e1]; rfl
      | 1, _, hu => simp only [List.map_cons, List.map_nil, List.getElem?_cons_succ, List.getElem?_cons_zero, Option.some.injEq] at hu; rw [← hu, e2]; rfl) (hN3.cl.row 0 _ rfl) (by have := hlens.2; omega) hN3.below.size
    obtain ⟨p5, n5, c5, hv5⟩ : ∃ p n c, v5 = .slice p n c := by
      rcases ho5.2 with ⟨h1, h2⟩ | ⟨g, c, cur, h1, _⟩
      · exact ⟨none, 0, 0, h1⟩
      · exact ⟨_, _, c, h1⟩
    subst hv5
    obtain ⟨hN5, ht5, hblk4⟩ := hN3.appK hg5 ho5 hb5
    have hkx4 : Bk W4 bx 35 _ := hkx3.tn (tn_grown hg5) (fun hm => by
      cases hb : vK.ownBlock with
      | none => rw [hb] at hm; simp at hm
      | some y => rw [hb] at hm; simp at hm; exact hnK y hb hm.symm)
    have hbx4 : Bk W4 PP 193 #[.pointer (some ⟨B, 0, none⟩)] := hN3.bx.tn (tn_grown hg5) (fun hm => by
      cases hb : vK.ownBlock with
      | none => rw [hb] at hm; simp at hm
      | some y => rw [hb] at hm; simp at hm; exact hN.np.2 y (.inl hb) hm.symm)
    have hnb5 : ∀ k, (Value.slice p5 n5 c5).ownBlock = some k ∨ (Value.slice p4 n4 c4).ownBlock = some k → k ≠ w2.heap.size := fun k hk => by
      rcases hk with h | h
      · rcases hb5 with h5 | h5
        · rw [h5] at h; exact hnb k (.inl h)
        · rw [h5] at h
          cases h
          have := hN3.sz
          omega
      · exact hnb2 k (.inr h)
    have HT4 : Hid (W2.drew.cell? ⟨PP, 0, none⟩ = some (.pointer (some ⟨B, 0, none⟩)) ∧ W2.drew.cell? ⟨B, 0, none⟩ = some (.slice pK nK cK) ∧ W2.drew.cell? ⟨bx, 5, none⟩ = some (.string dkey) ∧ W2.drew.cell? ⟨bx, 1, none⟩ = some (.string dek)) := ⟨hN2d.bx.cell 0, by rw [← hvK]; exact hN2d.cl.blk.cell 0, hkx2.cell 5, hkx2.cell 1⟩
    have HT5 : Hid (W3.cell? ⟨PP, 0, none⟩ = some (.pointer (some ⟨B, 0, none⟩)) ∧ W3.cell? ⟨B, 0, none⟩ = some (.slice pK nK cK) ∧ W3.cell? ⟨bx, 5, none⟩ = some (.string dkey) ∧ W3.cell? ⟨bx, 1, none⟩ = some (.string dek)) := ⟨hN3.bx.cell 0, by rw [← hvK]; exact hN3.cl.blk.cell 0, hkx3.cell 5, hkx3.cell 1⟩
    have HT6 : Hid (W4.cell? ⟨PP, 0, none⟩ = some (.pointer (some ⟨B, 0, none⟩)) ∧ W4.cell? ⟨B, 0, none⟩ = some (.slice pK nK cK) ∧ W4.cell? ⟨bx, 5, none⟩ = some (.string dkey) ∧ W4.cell? ⟨bx, 1, none⟩ = some (.string dek)) := ⟨hbx4.cell 0, by rw [← hvK]; exact hblk4.cell 0, hkx4.cell 5, hkx4.cell 1⟩
    have y0 : W4.cell? ⟨B, 0, none⟩ = some (.slice pK nK cK) := HT6.out.2.1
    have f0 : W4.frozen? ⟨B, 0, none⟩ = false := hblk4.frozen 0
    rw [hvK] at hr5
    have HR5 : Hid _ := hr5
    obtain ⟨W5, hW5⟩ : ∃ W5, W4.setCell ⟨B, 0, none⟩ (.slice p5 n5 c5) = W5 := ⟨_, rfl⟩
    rw [hW5] at hN5 ht5
    have HE : Hid ((∃ vK vR, Nd w W5 B PP w3.heap.size (textsOf (ds ++ [⟨dk, ⟨dek, des, deg, dec⟩, dkey, dpg, ⟨dleaf, dlo, dhi, dr, dl⟩⟩])) (pl ++ rowsOf (ds ++ [⟨dk, ⟨dek, des, deg, dec⟩, dkey, dpg, ⟨dleaf, dlo, dhi, dr, dl⟩⟩])) vK vR ∧ ∀ k, vK.ownBlock = some k ∨ vR.ownBlock = some k → k ≠ w2.heap.size) ∧ Tn (B :: (vR.ownBlock.toList ++ vK.ownBlock.toList)) W W5) := by
      refine ⟨⟨.slice p5 n5 c5, .slice p4 n4 c4, ?_, hnb5⟩, ?_⟩
      · rw [textsOf_snoc, rowsOf_snoc, ← List.append_assoc]
        exact hN5
      · refine Tn.trans (ht2'.mono (by intro x hx; simp only [List.mem_cons, List.mem_append] at hx ⊢; rcases hx with h | h; exact .inl h; exact .inr (.inl h))) (T := B :: (vR.ownBlock.toList ++ vK.ownBlock.toList)) ?_ (fun x hx => .inl hx)
        refine Tn.trans ((Tn.drew (Tn.refl [] W2)).mono (by simp)) (T := B :: (vR.ownBlock.toList ++ vK.ownBlock.toList)) ?_ (fun x hx => .inl hx)
        refine Tn.trans (ht3.mono (by simp)) (T := B :: (vR.ownBlock.toList ++ vK.ownBlock.toList)) ?_ (fun x hx => .inl hx)
        exact ht5.mono (by intro x hx; simp only [List.mem_cons, List.mem_append] at hx ⊢; rcases hx with h | h; exact .inl h; exact .inr (.inr h))
    have HCK : Hid (∀ y ∈ B :: (vR.ownBlock.toList ++ vK.ownBlock.toList), (∃ o : Obj, W.heap[y]? = some o ∧ o.isCells = true) ∧ w.heap.size ≤ y ∧ y ≠ w2.heap.size) := by
      intro y hy
      simp only [List.mem_cons, List.mem_append] at hy
      have hmem : ∀ (v : Value), y ∈ v.ownBlock.toList → v.ownBlock = some y := fun v hk => by
        cases hb : v.ownBlock with
        | none => rw [hb] at hk; simp at hk
        | some x => rw [hb] at hk; simp at hk; rw [hk]
      rcases hy with rfl | h | h
      · exact ⟨⟨_, hN.cl.blk, rfl⟩, hN.cl.ge, by omega⟩
      · have h1 := hmem vR h
        exact ⟨row_kind (hN.cl.row 1 _ rfl) h1, ((hN.cl.row 1 _ rfl).lt y h1).1, hnb y (.inr h1)⟩
      · have h1 := hmem vK h
        exact ⟨row_kind (hN.cl.row 0 _ rfl) h1, ((hN.cl.row 0 _ rfl).lt y h1).1, hnb y (.inl h1)⟩
    have HWS : Hid (w3.heap.size ≤ W.heap.size) := hN.sz
    have x11 : W.cell? ⟨bx, 11, none⟩ = some (.slice dp dn dc) := kx.cell 11
    clear hOk hN hNd hkxd hensd hr4 ho4 hg4 hb4 hN2 ht2 hblk1 hkx1 hbx1 ht2' hkx2 hN2d ht3 hN3 hE3 hkx3 hr5 ho5 hg5 hb5 hN5 ht5 hblk4 hkx4 hbx4 hnb2 hnb5 hnb kx hvR hvK hnRl hnKl hnR hnK x11
    gi_wp2_with fail
    refine wpIn_mid (S := (fun w' => w'.cell? ⟨PP, 0, none⟩ = some (.pointer (some ⟨B, 0, none⟩)) ∧ w'.cell? ⟨B, 1, none⟩ = some (.slice pR nR cR) ∧ w'.cell? ⟨bx, 11, none⟩ = some (.slice dp dn dc))) 11 (by kernel_rfl) (by rfl) (by rintro ⟨a, w, h⟩; exact h) ?_
    refine wpAnyM_take (i := 0) [] (oi := { dst := some 19, op := Op.load 193 (Operand.tmp 5), type := 193, pos := _, after := #[], guard := none }) (v := .pointer (some ⟨B, 0, none⟩)) rfl (by kernel_rfl) (by kernel_rfl) (by kernel_rfl) (by kernel_rfl) (fun _ _ _ h => h) (Or.inl ⟨by rfl, ?_⟩) HS4.out ?_
    · (intro w' hSw; obtain ⟨m0, m1, m2⟩ := hSw; go_simp; try with_reducible rfl)
    try simp only [Act.put, List.setIfInBounds_toArray, List.set_cons_zero, List.set_cons_succ]
    refine wpAnyM_take (i := 1) [] (oi := { dst := some 20, op := Op.load 193 (Operand.tmp 5), type := 193, pos := _, after := #[], guard := none }) (v := .pointer (some ⟨B, 0, none⟩)) rfl (by kernel_rfl) (by kernel_rfl) (by kernel_rfl) (by kernel_rfl) (fun _ _ _ h => h) (Or.inl ⟨by rfl, ?_⟩) HS4.out ?_
    · (intro w' hSw; obtain ⟨m0, m1, m2⟩ := hSw; go_simp; try with_reducible rfl)
    try simp only [Act.put, List.setIfInBounds_toArray, List.set_cons_zero, List.set_cons_succ]
    refine wpAnyM_take (i := 2) [] (oi := { dst := some 21, op := Op.nilCheck (Operand.tmp 20), type := 0, pos := _, after := #[{ on := 1, ground := Ground.data }], guard := none }) (v := .pointer (some ⟨B, 0, none⟩)) rfl (by kernel_rfl) (by kernel_rfl) (by kernel_rfl) (by kernel_rfl) (fun _ _ _ h => h) (Or.inl ⟨by rfl, ?_⟩) HS4.out ?_
    · (intro w' hSw; obtain ⟨m0, m1, m2⟩ := hSw; go_simp; try with_reducible rfl)
    try simp only [Act.put, List.setIfInBounds_toArray, List.set_cons_zero, List.set_cons_succ]
    refine wpAnyM_take (i := 3) [] (oi := { dst := some 22, op := Op.fieldAddr 214 (Operand.tmp 21) 1, type := 0, pos := _, after := #[{ on := 2, ground := Ground.data }], guard := none }) (v := .pointer (some ⟨B, 1, none⟩)) rfl (by kernel_rfl) (by kernel_rfl) (by kernel_rfl) (by kernel_rfl) (fun _ _ _ h => h) (Or.inl ⟨by rfl, ?_⟩) HS4.out ?_
    · (intro w' hSw; obtain ⟨m0, m1, m2⟩ := hSw; go_simp; try with_reducible rfl)
    try simp only [Act.put, List.setIfInBounds_toArray, List.set_cons_zero, List.set_cons_succ]
    refine wpAnyM_take (i := 4) [] (oi := { dst := some 23, op := Op.load 27 (Operand.tmp 22), type := 27, pos := _, after := #[{ on := 3, ground := Ground.data }], guard := none }) (v := .slice pR nR cR) rfl (by kernel_rfl) (by kernel_rfl) (by kernel_rfl) (by kernel_rfl) (fun _ _ _ h => h) (Or.inl ⟨by rfl, ?_⟩) HS4.out ?_
    · (intro w' hSw; obtain ⟨m0, m1, m2⟩ := hSw; go_simp; try with_reducible rfl)
    try simp only [Act.put, List.setIfInBounds_toArray, List.set_cons_zero, List.set_cons_succ]
    refine wpAnyM_take (i := 5) [] (oi := { dst := some 24, op := Op.fieldAddr 35 (Operand.tmp 7) 4, type := 0, pos := _, after := #[], guard := none }) (v := .pointer (some ⟨bx, 7, none⟩)) rfl (by kernel_rfl) (by kernel_rfl) (by kernel_rfl) (by kernel_rfl) (fun _ _ _ h => h) (Or.inl ⟨by rfl, ?_⟩) HS4.out ?_
    · (intro w' hSw; obtain ⟨m0, m1, m2⟩ := hSw; go_simp; try with_reducible rfl)
    try simp only [Act.put, List.setIfInBounds_toArray, List.set_cons_zero, List.set_cons_succ]
    refine wpAnyM_take (i := 6) [] (oi := { dst := some 25, op := Op.fieldAddr 29 (Operand.tmp 24) 4, type := 0, pos := _, after := #[{ on := 5, ground := Ground.data }], guard := none }) (v := .pointer (some ⟨bx, 11, none⟩)) rfl (by kernel_rfl) (by kernel_rfl) (by kernel_rfl) (by kernel_rfl) (fun _ _ _ h => h) (Or.inl ⟨by rfl, ?_⟩) HS4.out ?_
    · (intro w' hSw; obtain ⟨m0, m1, m2⟩ := hSw; go_simp; try with_reducible rfl)
    try simp only [Act.put, List.setIfInBounds_toArray, List.set_cons_zero, List.set_cons_succ]
    refine wpAnyM_take (i := 7) [] (oi := { dst := some 26, op := Op.load 27 (Operand.tmp 25), type := 27, pos := _, after := #[{ on := 6, ground := Ground.data }], guard := none }) (v := .slice dp dn dc) rfl (by kernel_rfl) (by kernel_rfl) (by kernel_rfl) (by kernel_rfl) (fun _ _ _ h => h) (Or.inl ⟨by rfl, ?_⟩) HS4.out ?_
    · (intro w' hSw; obtain ⟨m0, m1, m2⟩ := hSw; go_simp; try with_reducible rfl)
    try simp only [Act.put, List.setIfInBounds_toArray, List.set_cons_zero, List.set_cons_succ]
    refine wpAnyM_ready (rs := [8]) (by kernel_rfl) (by simp) ?_
    refine AllReadyM.cons (o := { dst := some 27, op := Op.call { callee := Callee.builtin Builtin.append, args := #[Operand.tmp 23, Operand.tmp 26], argTypes := #[27, 27] }, type := 27, pos := _, after := #[{ on := 4, ground := Ground.data }, { on := 7, ground := Ground.data }], guard := none }) rfl (fun K hK => ?_) AllReadyM.nil
    have HK9 : Hid (∀ a w, _ → K a w) := hK
    clear hK
    refine step_appR rfl _ _ _ rfl _ _ rfl rfl HR4.out ?_
    refine HK9.out _ _ ⟨fun _ => HS5.out, ?_⟩
    clear HK9 K
    try simp only [Act.put, List.setIfInBounds_toArray, List.set_cons_zero, List.set_cons_succ]
    refine wpAnyM_take (i := 9) [10] (oi := { dst := some 28, op := Op.nilCheck (Operand.tmp 19), type := 0, pos := _, after := #[{ on := 0, ground := Ground.data }, { on := 0, ground := Ground.phase }, { on := 1, ground := Ground.phase }, { on := 2, ground := Ground.phase }, { on := 3, ground := Ground.phase }, { on := 4, ground := Ground.phase }, { on := 5, ground := Ground.phase }, { on := 6, ground := Ground.phase }, { on := 7, ground := Ground.phase }, { on := 8, ground := Ground.phase }], guard := none }) (v := .pointer (some ⟨B, 0, none⟩)) rfl (by kernel_rfl) (by kernel_rfl) (by kernel_rfl) (by kernel_rfl) (fun _ _ _ h => h) (Or.inl ⟨by rfl, ?_⟩) HS5.out ?_
    · (intro w' hSw; obtain ⟨m0, m1, m2⟩ := hSw; go_simp; try with_reducible rfl)
    try simp only [Act.put, List.setIfInBounds_toArray, List.set_cons_zero, List.set_cons_succ]
    refine wpAnyM_take (i := 10) [] (oi := { dst := some 29, op := Op.fieldAddr 214 (Operand.tmp 28) 1, type := 0, pos := _, after := #[{ on := 9, ground := Ground.data }, { on := 0, ground := Ground.phase }, { on := 1, ground := Ground.phase }, { on := 2, ground := Ground.phase }, { on := 3, ground := Ground.phase }, { on := 4, ground := Ground.phase }, { on := 5, ground := Ground.phase }, { on := 6, ground := Ground.phase }, { on := 7, ground := Ground.phase }, { on := 8, ground := Ground.phase }], guard := none }) (v := .pointer (some ⟨B, 1, none⟩)) rfl (by kernel_rfl) (by kernel_rfl) (by kernel_rfl) (by kernel_rfl) (fun _ _ _ h => h) (Or.inl ⟨by rfl, ?_⟩) HS5.out ?_
    · (intro w' hSw; obtain ⟨m0, m1, m2⟩ := hSw; go_simp; try with_reducible rfl)
    try simp only [Act.put, List.setIfInBounds_toArray, List.set_cons_zero, List.set_cons_succ]
    refine wpAnyM_ready (rs := [11]) (by kernel_rfl) (by simp) ?_
    refine AllReadyM.cons (o := { dst := none, op := Op.store 27 (Operand.tmp 29) (Operand.tmp 27), type := 0, pos := _, after := #[{ on := 10, ground := Ground.data }, { on := 8, ground := Ground.data }, { on := 8, ground := Ground.chain }, { on := 0, ground := Ground.phase }, { on := 1, ground := Ground.phase }, { on := 2, ground := Ground.phase }, { on := 3, ground := Ground.phase }, { on := 4, ground := Ground.phase }, { on := 5, ground := Ground.phase }, { on := 6, ground := Ground.phase }, { on := 7, ground := Ground.phase }, { on := 8, ground := Ground.phase }], guard := none }) rfl (fun K hK => ?_) AllReadyM.nil
    have HK9 : Hid (∀ a w, _ → K a w) := hK
    clear hK
    go_simp
    refine HK9.out _ _ ⟨fun h => absurd h (by decide), ?_⟩
    clear HK9 K
    try simp only [Act.put, List.setIfInBounds_toArray, List.set_cons_zero, List.set_cons_succ]
    refine wpAnyM_done (by kernel_rfl) ?_ _
    gi_wp2_with fail
    clear HS4 HS5 HR4 hW2 y1 f1
    refine wpIn_mid (S := (fun w' => w'.cell? ⟨PP, 0, none⟩ = some (.pointer (some ⟨B, 0, none⟩)) ∧ w'.cell? ⟨B, 0, none⟩ = some (.slice pK nK cK) ∧ w'.cell? ⟨bx, 5, none⟩ = some (.string dkey) ∧ w'.cell? ⟨bx, 1, none⟩ = some (.string dek))) 14 (by kernel_rfl) (by rfl) (by rintro ⟨a, w, h⟩; exact h) ?_
    refine wpAnyM_take (i := 0) [] (oi := { dst := some 30, op := Op.load 193 (Operand.tmp 5), type := 193, pos := _, after := #[], guard := none }) (v := .pointer (some ⟨B, 0, none⟩)) rfl (by kernel_rfl) (by kernel_rfl) (by kernel_rfl) (by kernel_rfl) (fun _ _ _ h => h) (Or.inl ⟨by rfl, ?_⟩) HT4.out ?_
    · (intro w' hSw; obtain ⟨m0, m1, m2, m3⟩ := hSw; go_simp; try with_reducible rfl)
    try simp only [Act.put, List.setIfInBounds_toArray, List.set_cons_zero, List.set_cons_succ]
    refine wpAnyM_take (i := 1) [] (oi := { dst := some 31, op := Op.load 193 (Operand.tmp 5), type := 193, pos := _, after := #[], guard := none }) (v := .pointer (some ⟨B, 0, none⟩)) rfl (by kernel_rfl) (by kernel_rfl) (by kernel_rfl) (by kernel_rfl) (fun _ _ _ h => h) (Or.inl ⟨by rfl, ?_⟩) HT4.out ?_
    · (intro w' hSw; obtain ⟨m0, m1, m2, m3⟩ := hSw; go_simp; try with_reducible rfl)
    try simp only [Act.put, List.setIfInBounds_toArray, List.set_cons_zero, List.set_cons_succ]
    refine wpAnyM_take (i := 2) [] (oi := { dst := some 32, op := Op.nilCheck (Operand.tmp 31), type := 0, pos := _, after := #[{ on := 1, ground := Ground.data }], guard := none }) (v := .pointer (some ⟨B, 0, none⟩)) rfl (by kernel_rfl) (by kernel_rfl) (by kernel_rfl) (by kernel_rfl) (fun _ _ _ h => h) (Or.inl ⟨by rfl, ?_⟩) HT4.out ?_
    · (intro w' hSw; obtain ⟨m0, m1, m2, m3⟩ := hSw; go_simp; try with_reducible rfl)
    try simp only [Act.put, List.setIfInBounds_toArray, List.set_cons_zero, List.set_cons_succ]
    refine wpAnyM_take (i := 3) [] (oi := { dst := some 33, op := Op.fieldAddr 214 (Operand.tmp 32) 0, type := 0, pos := _, after := #[{ on := 2, ground := Ground.data }], guard := none }) (v := .pointer (some ⟨B, 0, none⟩)) rfl (by kernel_rfl) (by kernel_rfl) (by kernel_rfl) (by kernel_rfl) (fun _ _ _ h => h) (Or.inl ⟨by rfl, ?_⟩) HT4.out ?_
    · (intro w' hSw; obtain ⟨m0, m1, m2, m3⟩ := hSw; go_simp; try with_reducible rfl)
    try simp only [Act.put, List.setIfInBounds_toArray, List.set_cons_zero, List.set_cons_succ]
    refine wpAnyM_take (i := 4) [] (oi := { dst := some 34, op := Op.load 211 (Operand.tmp 33), type := 211, pos := _, after := #[{ on := 3, ground := Ground.data }], guard := none }) (v := .slice pK nK cK) rfl (by kernel_rfl) (by kernel_rfl) (by kernel_rfl) (by kernel_rfl) (fun _ _ _ h => h) (Or.inl ⟨by rfl, ?_⟩) HT4.out ?_
    · (intro w' hSw; obtain ⟨m0, m1, m2, m3⟩ := hSw; go_simp; try with_reducible rfl)
    try simp only [Act.put, List.setIfInBounds_toArray, List.set_cons_zero, List.set_cons_succ]
    refine wpAnyM_take (i := 5) [] (oi := { dst := some 35, op := Op.fieldAddr 35 (Operand.tmp 7) 2, type := 0, pos := _, after := #[], guard := none }) (v := .pointer (some ⟨bx, 5, none⟩)) rfl (by kernel_rfl) (by kernel_rfl) (by kernel_rfl) (by kernel_rfl) (fun _ _ _ h => h) (Or.inl ⟨by rfl, ?_⟩) HT4.out ?_
    · (intro w' hSw; obtain ⟨m0, m1, m2, m3⟩ := hSw; go_simp; try with_reducible rfl)
    try simp only [Act.put, List.setIfInBounds_toArray, List.set_cons_zero, List.set_cons_succ]
    refine wpAnyM_take (i := 6) [] (oi := { dst := some 36, op := Op.load 9 (Operand.tmp 35), type := 9, pos := _, after := #[{ on := 5, ground := Ground.data }], guard := none }) (v := .string dkey) rfl (by kernel_rfl) (by kernel_rfl) (by kernel_rfl) (by kernel_rfl) (fun _ _ _ h => h) (Or.inl ⟨by rfl, ?_⟩) HT4.out ?_
    · (intro w' hSw; obtain ⟨m0, m1, m2, m3⟩ := hSw; go_simp; try with_reducible rfl)
    try simp only [Act.put, List.setIfInBounds_toArray, List.set_cons_zero, List.set_cons_succ]
    refine wpAnyM_take (i := 7) [] (oi := { dst := some 37, op := Op.fieldAddr 35 (Operand.tmp 7) 1, type := 0, pos := _, after := #[], guard := none }) (v := .pointer (some ⟨bx, 1, none⟩)) rfl (by kernel_rfl) (by kernel_rfl) (by kernel_rfl) (by kernel_rfl) (fun _ _ _ h => h) (Or.inl ⟨by rfl, ?_⟩) HT4.out ?_
    · (intro w' hSw; obtain ⟨m0, m1, m2, m3⟩ := hSw; go_simp; try with_reducible rfl)
    try simp only [Act.put, List.setIfInBounds_toArray, List.set_cons_zero, List.set_cons_succ]
    refine wpAnyM_take (i := 8) [] (oi := { dst := some 38, op := Op.fieldAddr 33 (Operand.tmp 37) 0, type := 0, pos := _, after := #[{ on := 7, ground := Ground.data }], guard := none }) (v := .pointer (some ⟨bx, 1, none⟩)) rfl (by kernel_rfl) (by kernel_rfl) (by kernel_rfl) (by kernel_rfl) (fun _ _ _ h => h) (Or.inl ⟨by rfl, ?_⟩) HT4.out ?_
    · (intro w' hSw; obtain ⟨m0, m1, m2, m3⟩ := hSw; go_simp; try with_reducible rfl)
    try simp only [Act.put, List.setIfInBounds_toArray, List.set_cons_zero, List.set_cons_succ]
    refine wpAnyM_take (i := 9) [] (oi := { dst := some 39, op := Op.load 9 (Operand.tmp 38), type := 9, pos := _, after := #[{ on := 8, ground := Ground.data }], guard := none }) (v := .string dek) rfl (by kernel_rfl) (by kernel_rfl) (by kernel_rfl) (by kernel_rfl) (fun _ _ _ h => h) (Or.inl ⟨by rfl, ?_⟩) HT4.out ?_
    · (intro w' hSw; obtain ⟨m0, m1, m2, m3⟩ := hSw; go_simp; try with_reducible rfl)
    try simp only [Act.put, List.setIfInBounds_toArray, List.set_cons_zero, List.set_cons_succ]
    refine wpAnyM_ready (rs := [10]) (by kernel_rfl) (by simp) ?_
    refine AllReadyM.cons (o := { dst := some 40, op := Op.buildSlice 211 2 #[(0, Operand.tmp 36), (1, Operand.tmp 39)], type := 211, pos := _, after := #[{ on := 6, ground := Ground.data }, { on := 9, ground := Ground.data }], guard := none }) rfl (fun K hK => ?_) AllReadyM.nil
    have HK9 : Hid (∀ a w, _ → K a w) := hK
    clear hK
    go_simp
    refine HK9.out _ _ ⟨fun _ => HT5.out, ?_⟩
    clear HK9 K
    try simp only [Act.put, List.setIfInBounds_toArray, List.set_cons_zero, List.set_cons_succ]
    refine wpAnyM_ready (rs := [11]) (by kernel_rfl) (by simp) ?_
    refine AllReadyM.cons (o := { dst := some 41, op := Op.call { callee := Callee.builtin Builtin.append, args := #[Operand.tmp 34, Operand.tmp 40], argTypes := #[211, 211] }, type := 211, pos := _, after := #[{ on := 4, ground := Ground.data }, { on := 10, ground := Ground.data }], guard := none }) rfl (fun K hK => ?_) AllReadyM.nil
    have HK9 : Hid (∀ a w, _ → K a w) := hK
    clear hK
    refine step_appR rfl _ _ _ rfl _ _ rfl rfl HR5.out ?_
    refine HK9.out _ _ ⟨fun _ => HT6.out, ?_⟩
    clear HK9 K
    try simp only [Act.put, List.setIfInBounds_toArray, List.set_cons_zero, List.set_cons_succ]
    refine wpAnyM_take (i := 12) [13] (oi := { dst := some 42, op := Op.nilCheck (Operand.tmp 30), type := 0, pos := _, after := #[{ on := 0, ground := Ground.data }, { on := 0, ground := Ground.phase }, { on := 1, ground := Ground.phase }, { on := 2, ground := Ground.phase }, { on := 3, ground := Ground.phase }, { on := 4, ground := Ground.phase }, { on := 5, ground := Ground.phase }, { on := 6, ground := Ground.phase }, { on := 7, ground := Ground.phase }, { on := 8, ground := Ground.phase }, { on := 9, ground := Ground.phase }, { on := 10, ground := Ground.phase }, { on := 11, ground := Ground.phase }], guard := none }) (v := .pointer (some ⟨B, 0, none⟩)) rfl (by kernel_rfl) (by kernel_rfl) (by kernel_rfl) (by kernel_rfl) (fun _ _ _ h => h) (Or.inl ⟨by rfl, ?_⟩) HT6.out ?_
    · (intro w' hSw; obtain ⟨m0, m1, m2, m3⟩ := hSw; go_simp; try with_reducible rfl)
    try simp only [Act.put, List.setIfInBounds_toArray, List.set_cons_zero, List.set_cons_succ]
    refine wpAnyM_take (i := 13) [] (oi := { dst := some 43, op := Op.fieldAddr 214 (Operand.tmp 42) 0, type := 0, pos := _, after := #[{ on := 12, ground := Ground.data }, { on := 0, ground := Ground.phase }, { on := 1, ground := Ground.phase }, { on := 2, ground := Ground.phase }, { on := 3, ground := Ground.phase }, { on := 4, ground := Ground.phase }, { on := 5, ground := Ground.phase }, { on := 6, ground := Ground.phase }, { on := 7, ground := Ground.phase }, { on := 8, ground := Ground.phase }, { on := 9, ground := Ground.phase }, { on := 10, ground := Ground.phase }, { on := 11, ground := Ground.phase }], guard := none }) (v := .pointer (some ⟨B, 0, none⟩)) rfl (by kernel_rfl) (by kernel_rfl) (by kernel_rfl) (by kernel_rfl) (fun _ _ _ h => h) (Or.inl ⟨by rfl, ?_⟩) HT6.out ?_
    · (intro w' hSw; obtain ⟨m0, m1, m2, m3⟩ := hSw; go_simp; try with_reducible rfl)
    try simp only [Act.put, List.setIfInBounds_toArray, List.set_cons_zero, List.set_cons_succ]
    refine wpAnyM_ready (rs := [14]) (by kernel_rfl) (by simp) ?_
    refine AllReadyM.cons (o := { dst := none, op := Op.store 211 (Operand.tmp 43) (Operand.tmp 41), type := 0, pos := _, after := #[{ on := 13, ground := Ground.data }, { on := 11, ground := Ground.data }, { on := 11, ground := Ground.chain }, { on := 0, ground := Ground.phase }, { on := 1, ground := Ground.phase }, { on := 2, ground := Ground.phase }, { on := 3, ground := Ground.phase }, { on := 4, ground := Ground.phase }, { on := 5, ground := Ground.phase }, { on := 6, ground := Ground.phase }, { on := 7, ground := Ground.phase }, { on := 8, ground := Ground.phase }, { on := 9, ground := Ground.phase }, { on := 10, ground := Ground.phase }, { on := 11, ground := Ground.phase }], guard := none }) rfl (fun K hK => ?_) AllReadyM.nil
    have HK9 : Hid (∀ a w, _ → K a w) := hK
    clear hK
    go_simp
    refine HK9.out _ _ ⟨fun h => absurd h (by decide), ?_⟩
    clear HK9 K
    try simp only [Act.put, List.setIfInBounds_toArray, List.set_cons_zero, List.set_cons_succ]
    refine wpAnyM_done (by kernel_rfl) ?_ _
    gi_wp2_with fail
    have hws3 := HWS.out
    refine ⟨(keeps_tn HE.out.2 (fun y hy => (HCK.out y hy).1)).from _, ⟨fun k hk => HE.out.2.block k (by omega) (fun hm => by have := (HCK.out k hm).2.1; omega), HE.out.2.block _ (by omega) (fun hm => (HCK.out _ hm).2.2 rfl)⟩, ?_⟩
    show ∃ vK vR, Nd w _ B PP w3.heap.size (textsOf (List.map _ _)) (pl ++ rowsOf (List.map _ _)) vK vR ∧ _
    rw [hds2]
    exact HE.out.1
end Go.Proofs.YtoehlgigidgfpaaGreat

namespace Go.Proofs.YtoehlgigidgfpaaGreat
open Go.RowKit Go.Lib Go.Shelf Dr
set_option linter.unusedVariables false
set_option maxRecDepth 100000

section
variable {w : World} {base B : Nat} {ks : List (List UInt8)} {F : Fx} {s : Df} {V : Dv}

theorem xT_gt (h : Inv F (num ks) (kw ks) s) {a : Nat} {x : Int} (hx : 0 ≤ x) (hgt : x < xT F s a) (ha : a < F.R) : th F s a = true ∧ x ≤ (F.k a : Int) := by
  unfold xT at hgt
  rw [if_neg (by omega)] at hgt
  cases ht : th F s a with
  | true => rw [ht] at hgt; simp at hgt; exact ⟨rfl, by omega⟩
  | false => rw [ht] at hgt; simp at hgt; omega

theorem xT_le {a : Nat} {x : Int} (hle : xT F s a ≤ x) (ht : th F s a = true) (ha : a < F.R) : (F.k a : Int) + 1 ≤ x := by
  unfold xT at hle
  rw [if_neg (by omega), ht] at hle
  simpa using hle

theorem th_lt (h : Inv F (num ks) (kw ks) s) {a : Nat} (ht : th F s a = true) : a < s.came ∧ a < F.R ∧ s.f (F.k a) ≤ a := by
  unfold th at ht
  simp only [Bool.and_eq_true, decide_eq_true_eq] at ht
  have := h.came
  exact ⟨ht.1, by omega, ht.2⟩

theorem gap_of (h : Inv F (num ks) (kw ks) s) {n r r2 g0 : Nat} (hn : n < F.K) (h1 : Pk.Fst (xT F s) 0 ((n : Int) + 1) r) (hr : r ≤ F.R) (h2 : Pk.Fst (xS F s) (n + 1) 0 r2) (hr2 : r2 ≤ F.K) (hg0 : g0 = min s.came r) :
    (r2 < F.K → Gap F s n (min g0 (s.g r2))) ∧ (¬ r2 < F.K → Gap F s n g0) := by
  have hrow : ∀ a, th F s a = true → n < F.k a → g0 ≤ a := by
    intro a ht hlt
    obtain ⟨_, haR, _⟩ := th_lt h ht
    by_cases hc : a < r
    · have := xT_le (h1.le a (Nat.zero_le _) hc) ht haR
      omega
    · omega
  have hone : g0 = s.came ∨ (th F s g0 = true ∧ n < F.k g0) := by
    by_cases hc : s.came ≤ r
    · left; omega
    · right
      have e : g0 = r := by omega
      rw [e]
      have := xT_gt h (by omega) h1.gt (by have := h.came; omega)
      exact ⟨this.1, by omega⟩
  have hst : ∀ m, s.st m = true → n < m → r2 ≤ m := by
    intro m hm hnm
    by_cases hc : m < r2
    · have hmK := (h.st m hm).1
      have := h2.le m (by omega) hc
      unfold xS at this
      rw [if_neg (by omega), hm] at this
      simp at this
    · omega
  constructor
  · intro hlt
    have hs2 : s.st r2 = true := by
      have := h2.gt
      unfold xS at this
      rw [if_neg (by omega)] at this
      cases hh : s.st r2 with
      | true => rfl
      | false => rw [hh] at this; simp at this
    have hge := h2.ge
    refine ⟨by omega, fun a ht hna => by have := hrow a ht hna; omega, fun m hm hnm => ?_, ?_⟩
    · have := hst m hm hnm
      by_cases he : m = r2
      · subst he; omega
      · have := h.rise r2 m hs2 hm (by omega)
        omega
    · by_cases hc : g0 ≤ s.g r2
      · rw [show min g0 (s.g r2) = g0 by omega]
        rcases hone with h3 | h3
        · exact .inl h3
        · exact .inr (.inl h3)
      · rw [show min g0 (s.g r2) = s.g r2 by omega]
        exact .inr (.inr ⟨r2, hs2, by omega, rfl⟩)
  · intro hge
    refine ⟨by omega, hrow, fun m hm hnm => ?_, ?_⟩
    · have := hst m hm hnm
      have := (h.st m hm).1
      omega
    · rcases hone with h3 | h3
      · exact .inl h3
      · exact .inr (.inl h3)

theorem first_ex {xs : Nat → Int} {a : Int} : ∀ (k f : Nat), a < xs (f + k) → ∃ r, Pk.Fst xs f a r ∧ r ≤ f + k := by
  intro k
  induction k with
  | zero => exact fun f h => ⟨f, ⟨Nat.le_refl _, h, fun i h1 h2 => by omega⟩, Nat.le_refl _⟩
  | succ k ih =>
    intro f h
    by_cases hf : a < xs f
    · exact ⟨f, ⟨Nat.le_refl _, hf, fun i h1 h2 => by omega⟩, by omega⟩
    · obtain ⟨r, hr, hle⟩ := ih (f + 1) (by rw [show f + 1 + k = f + (k + 1) by omega]; exact h)
      refine ⟨r, ⟨by have := hr.ge; omega, hr.gt, fun i h1 h2 => ?_⟩, by omega⟩
      by_cases hi : i = f
      · subst hi; omega
      · exact hr.le i (by omega) h2

theorem pfirst_eq {g c n : Nat} {t : List Int} {D : Nat} {xs : Nat → Int} (h : Ir w base (.slice (some ⟨g, 0, none⟩) n c) t) (hn : t.length = n) (hI : Pk.Is t D xs) (hb : n ≤ 35184372088832) (f P : Nat) (a : Int) (hP : P < 2 ^ D) {r : Nat} (hr : Pk.Fst xs f a r) (hrP : r ≤ P) :
    Calls Tryz.prog 158 #[.slice (some ⟨g, 0, none⟩) n c, .int .i64 (f : Int), .int .i64 a] w fun e w' => e = .returned (.int .i64 (r : Int)) ∧ w' = w := by
  refine (pfirst_any h hn hI hb f r a hr.ge (by omega) hr.gt).mono ?_
  rintro e w' ⟨⟨r', rfl, h1, _⟩, rfl⟩
  rw [h1.one hr]
  exact ⟨rfl, rfl⟩

theorem Drc.first1 {t1 t2 : List Int} {n1 n2 D1 D2 : Nat} (h : Drc w base B ks F s V t1 t2 n1 n2 D1 D2) (f : Nat) (x : Int) (hf : f ≤ F.R) (hx : x < 9223372036854775807) : ∃ r, Pk.Fst (xT F s) f x r ∧ r ≤ F.R := by
  obtain ⟨r, h1, h2⟩ := first_ex (xs := xT F s) (a := x) (F.R - f) f (by rw [show f + (F.R - f) = F.R by omega]; unfold xT; rw [if_pos rfl]; exact hx)
  exact ⟨r, h1, by omega⟩
theorem Drc.first2 {t1 t2 : List Int} {n1 n2 D1 D2 : Nat} (h : Drc w base B ks F s V t1 t2 n1 n2 D1 D2) (f : Nat) (x : Int) (hf : f ≤ F.K) (hx : x < 9223372036854775807) : ∃ r, Pk.Fst (xS F s) f x r ∧ r ≤ F.K := by
  obtain ⟨r, h1, h2⟩ := first_ex (xs := xS F s) (a := x) (F.K - f) f (by rw [show f + (F.K - f) = F.K by omega]; unfold xS; rw [if_pos rfl]; exact hx)
  exact ⟨r, h1, by omega⟩

set_option maxHeartbeats 4000000 in
theorem gapOf_any (h : Drn w base B ks F s V) (n : Nat) (hn : n < F.K) :
    Calls Tryz.prog 156 #[.pointer (some ⟨B, 0, none⟩), .int .i64 (n : Int)] w fun e w' => (∃ g : Nat, e = .returned (.int .i64 (g : Int)) ∧ Gap F s n g) ∧ Tn [] w w' := by
  obtain ⟨t1, t2, n1, n2, D1, D2, h⟩ := h
  have hbK := h.bK
  have hbR := h.bR
  have hcR := h.inv.came
  obtain ⟨c, hc⟩ : ∃ c : Nat, s.came = c := ⟨_, rfl⟩
  have x2 : w.cell? ⟨B, 2, none⟩ = some (.int .i64 (c : Int)) := by rw [← hc]; exact h.at 2
  have x6 : w.cell? ⟨B, 6, none⟩ = some (sl V.gt n1 V.ct) := h.at 6
  have x9 : w.cell? ⟨B, 9, none⟩ = some (sl V.gs n2 V.cs) := h.at 9
  have x8 : w.cell? ⟨B, 8, none⟩ = some (sl V.gg F.K V.cg) := h.at 8
  have x0 : w.cell? ⟨B, 0, none⟩ = some V.vK := h.at 0
  obtain ⟨pK, cK, hvK⟩ : ∃ p c, V.vK = .slice p F.K c := by
    rcases h.srow.2 with ⟨hv, hn⟩ | ⟨g, cap, cur, hv, _⟩
    · exact ⟨none, 0, by rw [hv, hn]⟩
    · exact ⟨_, cap, hv⟩
  rw [hvK] at x0
  obtain ⟨r, hF, hrR⟩ := h.first1 0 ((n : Int) + 1) (Nat.zero_le _) (by omega)
  obtain ⟨r2, hF2, hr2⟩ := h.first2 (n + 1) 0 (by omega) (by omega)
  obtain ⟨g0, hg0⟩ : ∃ g0 : Nat, g0 = min c r := ⟨_, rfl⟩
  have HG := gap_of h.inv hn hF hrR hF2 hr2 (show g0 = min s.came r by rw [hc]; exact hg0)
  have HH : Hid (Drc w base B ks F s V t1 t2 n1 n2 D1 D2) := h
  have HD : Hid (∀ k, Drc (w.drewN k) base B ks F s V t1 t2 n1 n2 D1 D2) := fun k => h.still (Tn.of_below (below_drewN (Below.refl _ _) _) _)
  have HF : Hid (Pk.Fst (xT F s) 0 ((n : Int) + 1) r ∧ r ≤ F.R) := ⟨hF, hrR⟩
  have HF2 : Hid (Pk.Fst (xS F s) (n + 1) 0 r2 ∧ r2 ≤ F.K) := ⟨hF2, hr2⟩
  have HG0 : Hid (g0 = min c r) := hg0
  have hcb : c ≤ 8796093022207 := by omega
  have hrb : r ≤ 8796093022207 := by omega
  clear h hvK hcR hc hF hrR hF2 hg0
  go_enter Tryz.func156, Tryz.ntmps156
  go_wp2_with fail
  go_quiet (first | (go_at_call 158; refine Calls.quiet_of_same (pfirst_eq (HD.out _).trow HH.out.l1 HH.out.i1 HH.out.b1 0 F.R ((n : Int) + 1) HH.out.r1 HF.out.1 HF.out.2)))
  go_wp2_with fail
  refine (pfirst_eq (HD.out _).irow HH.out.l2 HH.out.i2 HH.out.b2 (n + 1) F.K 0 HH.out.r2 HF2.out.1 HF2.out.2).mono ?_
  rintro e w1 ⟨rfl, rfl⟩
  by_cases hlt : r2 < F.K
  · have hli : (r2 : Int) < (F.K : Int) := by omega
    have hl0 : (0 : Int) ≤ (r2 : Int) := by omega
    have gc := HH.out.gcell hlt
    have HG1 : Hid (Gap F s n (min g0 (s.g r2))) := HG.1 hlt
    obtain ⟨y, hy⟩ : ∃ y : Nat, s.g r2 = y := ⟨_, rfl⟩
    obtain ⟨g, hg⟩ : ∃ g : Nat, g = min g0 y := ⟨_, rfl⟩
    rw [hy] at gc HG1
    rw [← hg] at HG1
    have HGG : Hid (g = min g0 y) := hg
    clear HG hy hg
    go_wp2
    go_ret
    exact ⟨⟨g, ret_int (by have := HGG.out; have := HG0.out; omega), HG1.out⟩, Tn.of_below (below_drewN (Below.refl _ _) _) _⟩
  · have hli : ¬ (r2 : Int) < (F.K : Int) := by omega
    have HG1 : Hid (Gap F s n g0) := HG.2 hlt
    clear HG
    go_wp2
    go_ret
    exact ⟨⟨g0, ret_int (by have := HG0.out; omega), HG1.out⟩, Tn.of_below (below_drewN (Below.refl _ _) _) _⟩
end
end Go.Proofs.YtoehlgigidgfpaaGreat

namespace Go.Proofs.YtoehlgigidgfpaaGreat
open Go.RowKit Go.Lib Go.Shelf Dr
set_option linter.unusedVariables false
set_option maxRecDepth 100000

section
variable {w w1 : World} {base B : Nat} {ks : List (List UInt8)} {F : Fx} {s : Df} {V : Dv} {t1 t2 : List Int} {n1 n2 D1 D2 : Nat}

theorem Drc.setS (h : Drc w base B ks F s V t1 t2 n1 n2 D1 D2) {t2' : List Int} (g1 : Ir w1 base (sl V.gs n2 V.cs) t2') (g2 : t2'.length = n2) (g4 : Tn [V.gs] w w1) : Cl w1 base B 214 (drVals F s V n1 n2) (drRows ks F s V t1 t2' n1 n2) ∧ Bw V B w w1 := by
  have ho : w1.ownsRow base 3 1 (sl V.gs n2 V.cs) n2 (ints t2') := by unfold Ir at g1; rw [g2] at g1; exact g1
  exact ⟨h.cl.turn (i := 8) rfl rfl g4 ho, Bw.of g4 (by simp [Dv.bs])⟩

theorem Drc.xSn (h : Drc w base B ks F s V t1 t2 n1 n2 D1 D2) {n : Nat} (hn : n < F.K) : xS F s n = if s.st n then 1 else 0 := by
  unfold xS; rw [if_neg (by omega)]

theorem xS_set (n : Nat) (hn : n < F.K) (b : Bool) (s' : Df) (hs : ∀ m, s'.st m = if m = n then b else s.st m) : xS F s' = Pk.upd (xS F s) n (if b then 1 else 0) := by
  funext m
  unfold xS Pk.upd
  rw [hs]
  by_cases hm : m = n
  · subst hm
    rw [if_neg (by omega), if_pos rfl, if_pos rfl]
  · rw [if_neg hm, if_neg hm]

/-- What a step leaves. -/
def Stp (w : World) (base B : Nat) (ks : List (List UInt8)) (F : Fx) (s : Df) (V : Dv) (l : List En) (e : Ending) (w' : World) : Prop :=
  e = .returned (.tuple #[]) ∧ ∃ s', Drn w' base B ks F s' V ∧ view F s' = l ∧ s'.came = s.came ∧ Bw V B w w' ∧ ∀ a, s.came ≤ a → s'.r a = s.r a

theorem Drn.inv (h : Drn w base B ks F s V) : Inv F (num ks) (kw ks) s := by
  obtain ⟨t1, t2, n1, n2, D1, D2, h⟩ := h
  exact h.inv
theorem Drn.size (h : Drn w base B ks F s V) : base ≤ w.heap.size := by
  obtain ⟨t1, t2, n1, n2, D1, D2, h⟩ := h
  exact h.below

set_option maxHeartbeats 4000000 in
theorem dremove_any (h : Drn w base B ks F s V) (key : ByteArray) (hk : kw ks key) :
    Calls Tryz.prog 135 #[.pointer (some ⟨B, 0, none⟩), .string key] w fun e w' => Stp w base B ks F s V (without (view F s) key) e w' := by
  have hnK := h.inv.nu.lt key hk
  have HH : Hid (Drn w base B ks F s V) := h
  clear h
  obtain ⟨n, hn⟩ : ∃ n : Nat, num ks key = n := ⟨_, rfl⟩
  have HN : Hid (num ks key = n) := hn
  rw [hn] at hnK
  clear hn
  go_enter Tryz.func135, Tryz.ntmps135
  go_wp2_with fail
  refine (number_any HH.out key).mono ?_
  rintro e w1 ⟨rfl, ht1⟩
  rw [HN.out]
  obtain ⟨t1, t2, n1, n2, D1, D2, h⟩ := HH.out.still ht1
  have HB1 : Hid (Bw V B w w1) := Bw.of ht1 (by simp)
  have hbK := h.bK
  have hbR := h.bR
  have hcR := h.inv.came
  have x9 : w1.cell? ⟨B, 9, none⟩ = some (sl V.gs n2 V.cs) := h.at 9
  have x5 : w1.cell? ⟨B, 5, none⟩ = some (sl V.gf F.K V.cf) := h.at 5
  have x2 : w1.cell? ⟨B, 2, none⟩ = some (.int .i64 (s.came : Int)) := h.at 2
  have fc := h.fcell hnK
  have HD : Hid (Drc w1 base B ks F s V t1 t2 n1 n2 D1 D2) := h
  clear h ht1
  go_wp2_with fail
  refine (pat_any HD.out.irow HD.out.l2 HD.out.i2 HD.out.b2 n (by have := HD.out.r2; omega)).mono ?_
  rintro e w2 ⟨rfl, rfl⟩
  rw [HD.out.xSn hnK]
  cases hs : s.st n with
  | true =>
    simp only [if_true]
    go_wp2_with fail
    refine (pset_any HD.out.irow HD.out.l2 HD.out.i2 HD.out.b2 n (by have := HD.out.r2; omega) 0).mono ?_
    rintro e w3 ⟨rfl, t2', g1, g2, g3, g4⟩
    obtain ⟨hcl, hB3⟩ := HD.out.setS g1 g2 g4
    have HE : Hid (∃ s', Drn w3 base B ks F s' V ∧ view F s' = without (view F s) key ∧ s'.came = s.came ∧ Bw V B w w3 ∧ ∀ a, s.came ≤ a → s'.r a = s.r a) := by
      refine ⟨rmA s n, ⟨t1, t2', n1, n2, D1, D2, { HD.out with cl := hcl, inv := rmA_inv HD.out.inv n, l2 := g2, i1 := HD.out.i1, i2 := ?_ }⟩, rmA_view HD.out.inv hs hk HN.out, rfl, HB1.out.trans hB3, fun _ _ => rfl⟩
      rw [xS_set n hnK false (rmA s n) (fun _ => rfl)]
      exact g3
    clear g1 g2 g3 g4 hcl hB3
    go_wp2
    go_end0
    exact ⟨rfl, HE.out⟩
  | false =>
    simp only [Bool.false_eq_true, if_false]
    have n0 : (0 : Int) ≤ (n : Int) := by omega
    have nk : (n : Int) < (F.K : Int) := by omega
    have hfle := HD.out.inv.fle n hnK
    by_cases hf : s.f n < s.came
    · have hfi : ((s.f n : Nat) : Int) < (s.came : Int) := by omega
      go_wp2_with fail
      have hkf := HD.out.inv.fkey n hnK (by omega)
      refine (dtake_any ⟨t1, t2, n1, n2, D1, D2, HD.out⟩ (s.f n) hf (by rw [hkf])).mono ?_
      rintro e w3 ⟨rfl, hd, hB3⟩
      have HE : Hid (∃ s', Drn w3 base B ks F s' V ∧ view F s' = without (view F s) key ∧ s'.came = s.came ∧ Bw V B w w3 ∧ ∀ a, s.came ≤ a → s'.r a = s.r a) :=
        ⟨_, hd, take_view HD.out.inv hnK hs hf hk HN.out, rfl, HB1.out.trans hB3, fun _ _ => rfl⟩
      clear hd hB3
      go_wp2
      go_end0
      exact ⟨rfl, HE.out⟩
    · have hfi : ¬ ((s.f n : Nat) : Int) < (s.came : Int) := by omega
      have HE : Hid (∃ s', Drn w2 base B ks F s' V ∧ view F s' = without (view F s) key ∧ s'.came = s.came ∧ Bw V B w w2 ∧ ∀ a, s.came ≤ a → s'.r a = s.r a) :=
        ⟨s, ⟨t1, t2, n1, n2, D1, D2, HD.out⟩, (none_view HD.out.inv hs (by omega) hk HN.out).symm, rfl, HB1.out, fun _ _ => rfl⟩
      go_wp2
      go_end0
      exact ⟨rfl, HE.out⟩

/-- An entry of a row of a draft is written over. -/
theorem over_row {g n c : Nat} {l : List En} (h : w.ownsRow base 33 4 (sl g n c) n (flatE l)) {i : Nat} (hi : i < n) (e : En) :
    (put4i w g (i * 4) (.string e.key) (.int .i64 e.s) (.int .i64 e.g) (.int .i64 e.c)).ownsRow base 33 4 (sl g n c) n (flatE (l.set i e)) ∧ Tn [g] w (put4i w g (i * 4) (.string e.key) (.int .i64 e.s) (.int .i64 e.g) (.int .i64 e.c)) := by
  have hl := h.1
  rw [flatE_len] at hl
  have hl2 : l.length = n := by omega
  have h2 : OwnE w base (sl g n c) l := by unfold OwnE; rw [hl2]; exact h
  have h3 := h2.over hl2 hi e
  unfold OwnE at h3
  rw [List.length_set, hl2] at h3
  exact ⟨h3, (Tn.refl _ _).four4 (.inl (by simp)) _ _ _ _ _⟩

set_option maxHeartbeats 4000000 in
theorem dput_any (h : Drn w base B ks F s V) (x : En) (hk : kw ks x.key) :
    Calls Tryz.prog 134 #[.pointer (some ⟨B, 0, none⟩), x.val] w fun e w' => Stp w base B ks F s V (Pg.putL (view F s) x) e w' := by
  have hnK := h.inv.nu.lt x.key hk
  obtain ⟨w0, hw0⟩ : ∃ w0, w.alloc (.cells #[.string x.key, .int .i64 x.s, .int .i64 x.g, .int .i64 x.c] 33) = w0 := ⟨_, rfl⟩
  have ht0 : Tn [] w w0 := by rw [← hw0]; exact (Tn.refl [] w).alloc _
  have HK0 : Hid (Bk w0 w.heap.size 33 #[.string x.key, .int .i64 x.s, .int .i64 x.g, .int .i64 x.c]) := by rw [← hw0]; exact Bk.new _ _ _
  have HH : Hid (Drn w0 base B ks F s V) := h.still ht0
  have HB0 : Hid (Bw V B w w0) := Bw.of ht0 (by simp)
  obtain ⟨n, hn⟩ : ∃ n : Nat, num ks x.key = n := ⟨_, rfl⟩
  have HN : Hid (num ks x.key = n) := hn
  rw [hn] at hnK
  have e0 : w0.cell? ⟨w.heap.size, 0, none⟩ = some (.string x.key) := HK0.out.cell 0
  clear hn h ht0
  go_enter Tryz.func134, Tryz.ntmps134
  go_wp2_with fail
  refine (number_any HH.out x.key).mono ?_
  rintro e w1 ⟨rfl, ht1⟩
  rw [HN.out]
  have HK1 : Hid (Bk w1 w.heap.size 33 #[.string x.key, .int .i64 x.s, .int .i64 x.g, .int .i64 x.c]) := HK0.out.tn ht1 (by simp)
  obtain ⟨t1, t2, n1, n2, D1, D2, h⟩ := HH.out.still ht1
  have HB1 : Hid (Bw V B w w1) := HB0.out.trans (Bw.of ht1 (by simp))
  have hbK := h.bK
  have hbR := h.bR
  have hcR := h.inv.came
  have x9 : w1.cell? ⟨B, 9, none⟩ = some (sl V.gs n2 V.cs) := h.at 9
  have x7 : w1.cell? ⟨B, 7, none⟩ = some (sl V.ga F.K V.ca) := h.at 7
  have x5 : w1.cell? ⟨B, 5, none⟩ = some (sl V.gf F.K V.cf) := h.at 5
  have x2 : w1.cell? ⟨B, 2, none⟩ = some (.int .i64 (s.came : Int)) := h.at 2
  have x1 : w1.cell? ⟨B, 1, none⟩ = some V.vR := h.at 1
  have fc := h.fcell hnK
  have y0 : w1.cell? ⟨w.heap.size, 0, none⟩ = some (.string x.key) := HK1.out.cell 0
  have y1 : w1.cell? ⟨w.heap.size, 1, none⟩ = some (.int .i64 x.s) := HK1.out.cell 1
  have y2 : w1.cell? ⟨w.heap.size, 2, none⟩ = some (.int .i64 x.g) := HK1.out.cell 2
  have y3 : w1.cell? ⟨w.heap.size, 3, none⟩ = some (.int .i64 x.c) := HK1.out.cell 3
  have HD : Hid (Drc w1 base B ks F s V t1 t2 n1 n2 D1 D2) := h
  have n0 : (0 : Int) ≤ (n : Int) := by omega
  have nk : (n : Int) < (F.K : Int) := by omega
  obtain ⟨z0, z1, z2, z3⟩ := row_en h.arow n hnK
  have u0 : w1.frozen? ⟨V.ga, n * 4, none⟩ = false := h.arow.frozenAt _
  have u1 : w1.frozen? ⟨V.ga, n * 4 + 1, none⟩ = false := h.arow.frozenAt _
  have u2 : w1.frozen? ⟨V.ga, n * 4 + 2, none⟩ = false := h.arow.frozenAt _
  have u3 : w1.frozen? ⟨V.ga, n * 4 + 3, none⟩ = false := h.arow.frozenAt _
  obtain ⟨hv1, hv2⟩ := over_row h.arow hnK x
  obtain ⟨w2, hw2⟩ : ∃ w2, put4i w1 V.ga (n * 4) (.string x.key) (.int .i64 x.s) (.int .i64 x.g) (.int .i64 x.c) = w2 := ⟨_, rfl⟩
  rw [hw2] at hv1 hv2
  have HC2 : Hid (Cl w2.drew base B 214 (drVals F s V n1 n2) ((drRows ks F s V t1 t2 n1 n2).set 6 ⟨33, 4, sl V.ga F.K V.ca, F.K, flatE (s.al.set n x)⟩) ∧ Bw V B w w2.drew) := by
    refine ⟨(h.cl.turn (i := 6) rfl rfl hv2 hv1).still (Tn.drew (Tn.refl [] _)), HB1.out.trans (Bw.of hv2.drew (by simp [Dv.bs]))⟩
  unfold put4i at hw2
  generalize (s.al.getD n En.zero) = old at *
  clear h ht1 hw0 e0 hv1 hv2
  go_wp2_with fail
  refine (pat_any HD.out.irow HD.out.l2 HD.out.i2 HD.out.b2 n (by have := HD.out.r2; omega)).mono ?_
  rintro e w3 ⟨rfl, rfl⟩
  rw [HD.out.xSn hnK]
  cases hs : s.st n with
  | true =>
    simp only [if_true]
    have HE : Hid (∃ s', Drn w2.drew base B ks F s' V ∧ view F s' = Pg.putL (view F s) x ∧ s'.came = s.came ∧ Bw V B w w2.drew ∧ ∀ a, s.came ≤ a → s'.r a = s.r a) :=
      ⟨putA s n x, ⟨t1, t2, n1, n2, D1, D2, { HD.out with cl := HC2.out.1, inv := putA_inv HD.out.inv hs hk HN.out, i1 := HD.out.i1, i2 := HD.out.i2 }⟩, putA_view HD.out.inv hs hk HN.out, rfl, HC2.out.2, fun _ _ => rfl⟩
    go_wp2_with fail
    go_region
    go_wp2
    go_end0
    exact ⟨rfl, HE.out⟩
  | false =>
    simp only [Bool.false_eq_true, if_false]
    have hfle := HD.out.inv.fle n hnK
    obtain ⟨f, hf0⟩ : ∃ f : Nat, s.f n = f := ⟨_, rfl⟩
    have HF0 : Hid (s.f n = f) := hf0
    rw [hf0] at fc hfle
    clear hf0
    go_wp2_with fail
    go_quiet (fail)
    obtain ⟨w5, hw5⟩ : ∃ w5, w5 = w3.drewN nq := ⟨_, rfl⟩
    rw [← hw5]
    have ht5 : Tn [] w3 w5 := by rw [hw5]; exact Tn.of_below (below_drewN (Below.refl _ _) _) _
    clear hw5 hw2 HC2 z0 z1 z2 z3 u0 u1 u2 u3 x9 x7 x5 x2 x1 fc y0 y1 y2 y3
    have h := HD.out.still ht5
    have HB5 : Hid (Bw V B w w5) := HB1.out.trans (Bw.of ht5 (by simp))
    have HK5 : Hid (Bk w5 w.heap.size 33 #[.string x.key, .int .i64 x.s, .int .i64 x.g, .int .i64 x.c]) := HK1.out.tn ht5 (by simp)
    clear HD HK1 HB1 ht5
    have x1 : w5.cell? ⟨B, 1, none⟩ = some V.vR := h.at 1
    have x5 : w5.cell? ⟨B, 5, none⟩ = some (sl V.gf F.K V.cf) := h.at 5
    have x7 : w5.cell? ⟨B, 7, none⟩ = some (sl V.ga F.K V.ca) := h.at 7
    have fc : w5.cell? ⟨V.gf, n, none⟩ = some (.int .i64 (f : Int)) := by rw [← HF0.out]; exact h.fcell hnK
    have y0 : w5.cell? ⟨w.heap.size, 0, none⟩ = some (.string x.key) := HK5.out.cell 0
    have y1 : w5.cell? ⟨w.heap.size, 1, none⟩ = some (.int .i64 x.s) := HK5.out.cell 1
    have y2 : w5.cell? ⟨w.heap.size, 2, none⟩ = some (.int .i64 x.g) := HK5.out.cell 2
    have y3 : w5.cell? ⟨w.heap.size, 3, none⟩ = some (.int .i64 x.c) := HK5.out.cell 3
    have HD : Hid (Drc w5 base B ks F s V t1 t2 n1 n2 D1 D2) := h
    clear h
    by_cases hf : f < s.came
    · have hfi : (f : Int) < (s.came : Int) := by omega
      have hfR : (f : Int) < (F.R : Int) := by omega
      have f0 : (0 : Int) ≤ (f : Int) := by omega
      obtain ⟨gR, cR, hvR⟩ : ∃ g c, V.vR = sl g F.R c := by
        rcases HD.out.rrow.2 with ⟨_, hn⟩ | ⟨g, cap, cur, hv, _⟩
        · omega
        · exact ⟨_, cap, hv⟩
      have hrr := HD.out.rrow
      rw [hvR] at hrr x1
      obtain ⟨z0, z1, z2, z3⟩ := row_en hrr f (by omega)
      have u0 : w5.frozen? ⟨gR, f * 4, none⟩ = false := hrr.frozenAt _
      have u1 : w5.frozen? ⟨gR, f * 4 + 1, none⟩ = false := hrr.frozenAt _
      have u2 : w5.frozen? ⟨gR, f * 4 + 2, none⟩ = false := hrr.frozenAt _
      have u3 : w5.frozen? ⟨gR, f * 4 + 3, none⟩ = false := hrr.frozenAt _
      obtain ⟨hv1, hv2⟩ := over_row hrr (show f < F.R by omega) x
      obtain ⟨w4, hw4⟩ : ∃ w4, put4i w5 gR (f * 4) (.string x.key) (.int .i64 x.s) (.int .i64 x.g) (.int .i64 x.c) = w4 := ⟨_, rfl⟩
      rw [hw4] at hv1 hv2
      have HE : Hid (∃ s', Drn w4.drew base B ks F s' V ∧ view F s' = Pg.putL (view F s) x ∧ s'.came = s.came ∧ Bw V B w w4.drew ∧ ∀ a, s.came ≤ a → s'.r a = s.r a) := by
        have hfn : s.f n < s.came := by rw [HF0.out]; exact hf
        have hcl : Cl w4 base B 214 (drVals F s V n1 n2) (drRows ks F (putR s (s.f n) x) V t1 t2 n1 n2) := by
          have ho : w4.ownsRow base 33 4 V.vR F.R (flatE (s.row.set (s.f n) x)) := by rw [hvR, HF0.out]; exact hv1
          have := HD.out.cl.turn (i := 1) (r := ⟨33, 4, V.vR, F.R, flatE s.row⟩) rfl (by show V.vR.ownBlock = _; rw [hvR]; rfl) hv2 ho
          exact this
        refine ⟨putR s (s.f n) x, ⟨t1, t2, n1, n2, D1, D2, { HD.out with cl := hcl.still (Tn.drew (Tn.refl [] _)), inv := putR_inv HD.out.inv hnK hfn hk HN.out, i1 := HD.out.i1, i2 := HD.out.i2 }⟩, putR_view HD.out.inv hnK hs hfn hk HN.out, rfl, HB5.out.trans (Bw.of hv2.drew (by simp [Dv.bs, hvR, Value.ownBlock])), fun a ha => by
          have hlr := HD.out.inv.lr
          show (s.row.set (s.f n) x).getD a En.zero = s.row.getD a En.zero
          rw [getD_set _ _ _ _ _ (by omega), if_neg (by omega)]⟩
      unfold put4i at hw4
      generalize (s.row.getD f En.zero) = old2 at *
      clear hrr hv1 hv2 hvR
      go_wp2_with fail
      go_region
      go_wp2
      go_end0
      exact ⟨rfl, HE.out⟩
    · have hfi : ¬ (f : Int) < (s.came : Int) := by omega
      obtain ⟨z0, z1, z2, z3⟩ := row_en HD.out.arow n hnK
      have u0 : w5.frozen? ⟨V.ga, n * 4, none⟩ = false := HD.out.arow.frozenAt _
      have u1 : w5.frozen? ⟨V.ga, n * 4 + 1, none⟩ = false := HD.out.arow.frozenAt _
      have u2 : w5.frozen? ⟨V.ga, n * 4 + 2, none⟩ = false := HD.out.arow.frozenAt _
      have u3 : w5.frozen? ⟨V.ga, n * 4 + 3, none⟩ = false := HD.out.arow.frozenAt _
      obtain ⟨hv1, hv2⟩ := over_row HD.out.arow hnK x
      obtain ⟨w4, hw4⟩ : ∃ w4, put4i w5 V.ga (n * 4) (.string x.key) (.int .i64 x.s) (.int .i64 x.g) (.int .i64 x.c) = w4 := ⟨_, rfl⟩
      rw [hw4] at hv1 hv2
      have HC4 : Hid (Drc w4.drew base B ks F { s with al := s.al.set n x } V t1 t2 n1 n2 D1 D2 ∧ Bw V B w w4.drew) := by
        refine ⟨{ HD.out with cl := (HD.out.cl.turn (i := 6) rfl rfl hv2 hv1).still (Tn.drew (Tn.refl [] _)), inv := ?_, i1 := HD.out.i1, i2 := HD.out.i2 }, HB5.out.trans (Bw.of hv2.drew (by simp [Dv.bs]))⟩
        have hla := HD.out.inv.la
        refine { HD.out.inv with la := by simpa using hla, ka := fun m hm => ?_ }
        have hmn : m ≠ n := fun e => by rw [e] at hm; have : s.st n = true := hm; rw [hs] at this; cases this
        show kw ks ((s.al.set n x).getD m En.zero).key ∧ num ks ((s.al.set n x).getD m En.zero).key = m
        rw [getD_set _ _ _ _ _ (by omega), if_neg hmn]
        exact HD.out.inv.ka m hm
      unfold put4i at hw4
      generalize (s.al.getD n En.zero) = old2 at *
      clear hv1 hv2
      go_wp2_with fail
      go_region
      clear hw4
      obtain ⟨w6, hw6⟩ : ∃ w6, w6 = w4.drew := ⟨_, rfl⟩
      rw [← hw6]
      rw [← hw6] at HC4
      clear hw6 z0 z1 z2 z3 u0 u1 u2 u3 x1 x5 x7 fc y0 y1 y2 y3
      have x8 : w6.cell? ⟨B, 8, none⟩ = some (sl V.gg F.K V.cg) := HC4.out.1.at 8
      have HC6 : Hid (Drn w6.drew base B ks F { s with al := s.al.set n x } V) := ⟨t1, t2, n1, n2, D1, D2, HC4.out.1.still (Tn.drew (Tn.refl [] _))⟩
      have hBg : B ≠ V.gg := fun e => HC4.out.1.cl.ne 7 _ rfl (by rw [e]; rfl)
      have hgB : V.gg ≠ B := Ne.symm hBg
      go_wp2_with fail
      go_region_held3 (fun w' => w'.cell? ⟨B, 8, none⟩ = some (sl V.gg F.K V.cg)) (go_keep) (first | (go_at_call 156; refine (gapOf_any HC6.out n hnK).mono ?_; rintro e w7 ⟨⟨g, rfl, hgap⟩, ht7⟩; have h7 := (HC4.out.1.still (Tn.drew (Tn.refl [] _))).still ht7; have z8 : w7.cell? ⟨B, 8, none⟩ = some (sl V.gg F.K V.cg) := h7.at 8; have zg := h7.gcell hnK; have ug : w7.frozen? ⟨V.gg, n, none⟩ = false := h7.grow.frozenAt _))
      have hfc : s.came ≤ s.f n := by rw [HF0.out]; omega
      have hgap2 : Gap F s n g := ⟨hgap.came, hgap.row, hgap.gap, hgap.one⟩
      have hst := World.ownsRow.stored h7.grow n (.int .i64 (g : Int))
      have ht8 := tn_grown hst.2
      obtain ⟨w8, hw8⟩ : ∃ w8, w8 = w7.setCell ⟨V.gg, n, none⟩ (.int .i64 (g : Int)) := ⟨_, rfl⟩
      rw [← hw8] at ht8 hst ⊢
      have hcl8 := h7.cl.turn (i := 7) rfl rfl ht8 hst.1
      have hB8 : Bw V B w w8 := HC4.out.2.trans ((Bw.of (Tn.drew (Tn.refl [] w6)) (by simp)).trans ((Bw.of ht7 (by simp)).trans (Bw.of ht8 (by simp [Dv.bs, Value.ownBlock]))))
      have hi8 : Ir w8 base (sl V.gs n2 V.cs) t2 := by
        have : w8.ownsRow base 3 1 (sl V.gs n2 V.cs) n2 (ints t2) := hcl8.row 8 _ rfl
        unfold Ir
        rw [h7.l2]
        exact this
      have x9 : w8.cell? ⟨B, 9, none⟩ = some (sl V.gs n2 V.cs) := hcl8.blk.cell 9
      have HC8 : Hid (Cl w8 base B 214 (drVals F (putN s n x g) V n1 n2) (drRows ks F (putN s n x g) V t1 t2 n1 n2)) := by
        have e : drRows ks F (putN s n x g) V t1 t2 n1 n2 = (drRows ks F { s with al := s.al.set n x } V t1 t2 n1 n2).set 7 ⟨3, 1, sl V.gg F.K V.cg, F.K, (ints (ofs s.gp)).set n (.int .i64 (g : Int))⟩ := by
          have : ints (ofs (putN s n x g).gp) = (ints (ofs s.gp)).set n (.int .i64 (g : Int)) := by
            show ints (ofs (s.gp.set n g)) = _
            rw [ofs_set]; simp [ints, List.map_set]
          unfold drRows
          rw [this]; rfl
        rw [Hid, e]
        exact hcl8
      have HI8 : Hid (Ir w8 base (sl V.gs n2 V.cs) t2 ∧ Bw V B w w8 ∧ Gap F s n g) := ⟨hi8, hB8, hgap2⟩
      have HL8 : Hid (base ≤ w8.heap.size) := by have := hcl8.blk.lt; have := hcl8.ge; rw [Hid]; omega
      clear hgap hgap2 hst ht8 hcl8 hB8 hi8 h7 ht7 z8 zg ug hw8
      go_wp2_with fail
      refine (pset_any HI8.out.1 HD.out.l2 HD.out.i2 HD.out.b2 n (by have := HD.out.r2; omega) 1).mono ?_
      rintro e w9 ⟨rfl, t2', g1, g2, g3, g4⟩
      have HE : Hid (∃ s', Drn w9 base B ks F s' V ∧ view F s' = Pg.putL (view F s) x ∧ s'.came = s.came ∧ Bw V B w w9 ∧ ∀ a, s.came ≤ a → s'.r a = s.r a) := by
        have ho : w9.ownsRow base 3 1 (sl V.gs n2 V.cs) n2 (ints t2') := by unfold Ir at g1; rw [g2] at g1; exact g1
        have hcl9 := HC8.out.turn (i := 8) rfl rfl g4 ho
        refine ⟨putN s n x g, ⟨t1, t2', n1, n2, D1, D2, { HD.out with cl := hcl9, inv := putN_inv HD.out.inv hnK hs hfc HI8.out.2.2 hk HN.out, l2 := g2, i1 := HD.out.i1, i2 := ?_ }⟩, putN_view HD.out.inv hnK hs hfc HI8.out.2.2 hk HN.out, rfl, HI8.out.2.1.trans (Bw.of g4 (by simp [Dv.bs])), fun _ _ => rfl⟩
        rw [xS_set n hnK true (putN s n x g) (fun _ => rfl)]
        exact g3
      clear g1 g2 g3 g4
      go_wp2
      go_end0
      exact ⟨rfl, HE.out⟩
end
end Go.Proofs.YtoehlgigidgfpaaGreat

namespace Go.Proofs.YtoehlgigidgfpaaGreat
open Go.RowKit Go.Lib Go.Shelf Dr
set_option linter.unusedVariables false
set_option maxRecDepth 100000

section
variable {w w1 : World} {base B : Nat} {ks : List (List UInt8)} {F : Fx} {s s' : Df} {V : Dv} {t1 t2 : List Int} {n1 n2 D1 D2 : Nat}

/-- Between the rounds that take places out. -/
structure Ct1 (F : Fx) (s s' : Df) (n at' : Nat) : Prop where
  came : s'.came = s.came
  row : s'.row = s.row
  al : s'.al = s.al
  gp : s'.gp = s.gp
  st : s'.st = s.st
  sub : ∀ a, th F s' a = true → th F s a = true
  keep : ∀ a, th F s a = true → F.k a < n → th F s' a = true
  low : ∀ a, a < at' → th F s' a = true → F.k a < n
  is : at' < s.came → th F s' at' = true ∧ n ≤ F.k at'
  le : at' ≤ F.R

theorem Ct1.start (h : Inv F (num ks) (kw ks) s) {n r : Nat} (hF : Pk.Fst (xT F s) 0 (n : Int) r) (hr : r ≤ F.R) : Ct1 F s s n r := by
  refine ⟨rfl, rfl, rfl, rfl, rfl, fun _ h => h, fun _ h _ => h, fun a ha ht => ?_, fun hlt => ?_, hr⟩
  · have := xT_le (hF.le a (Nat.zero_le _) ha) ht (th_lt h ht).2.1
    omega
  · have := xT_gt h (by omega) hF.gt (by have := h.came; omega)
    exact ⟨this.1, by omega⟩

theorem Ct1.first (h' : Inv F (num ks) (kw ks) s') {n a : Nat} (hc : Ct1 F s s' n a) (hlt : a < s.came) : s'.f (F.k a) = a := by
  obtain ⟨ht, hn⟩ := hc.is hlt
  obtain ⟨h1, h2, h3⟩ := th_lt h' ht
  by_cases he : s'.f (F.k a) = a
  · exact he
  · have hb : s'.f (F.k a) < a := by omega
    have hkb := h'.fkey (F.k a) (h'.fx.key a h2) (by omega)
    have htb : th F s' (s'.f (F.k a)) = true := by
      unfold th
      rw [hkb]
      simp only [Nat.le_refl, decide_true, Bool.and_true, decide_eq_true_eq]
      omega
    have := hc.low _ hb htb
    omega

theorem Ct1.next (h' : Inv F (num ks) (kw ks) s') {n a r : Nat} (hc : Ct1 F s s' n a) (hlt : a < s.came) (hF : Pk.Fst (xT F (take F s' a)) a (n : Int) r) (hr : r ≤ F.R) : Ct1 F s (take F s' a) n r ∧ a < r := by
  have hlt' : a < s'.came := by rw [hc.came]; exact hlt
  have hf := hc.first h' hlt
  have hth := take_th h' hlt' hf
  have hi := take_inv h' hlt' hf
  have hna := (hc.is hlt).2
  have har : a < r := by
    have h1 := hF.ge
    by_cases he : r = a
    · subst he
      have := xT_gt hi (by omega) hF.gt (by have := h'.came; omega)
      rw [hth] at this
      simp at this
    · omega
  refine ⟨⟨hc.came, hc.row, hc.al, hc.gp, hc.st, fun b hb => ?_, fun b hb hk => ?_, fun b hb ht => ?_, fun hlt2 => ?_, hr⟩, har⟩
  · rw [hth] at hb
    simp only [Bool.and_eq_true] at hb
    exact hc.sub b hb.1
  · rw [hth, hc.keep b hb hk]
    have : b ≠ a := fun e => by subst e; omega
    simp [this]
  · by_cases hba : b < a
    · rw [hth] at ht
      simp only [Bool.and_eq_true] at ht
      exact hc.low b hba ht.1
    · have := xT_le (hF.le b (by omega) hb) ht (th_lt hi ht).2.1
      omega
  · have := xT_gt hi (by omega) hF.gt (by have := h'.came; have := hc.came; omega)
    exact ⟨this.1, by omega⟩

/-- Between the rounds that take out of gaps. -/
structure Ct2 (F : Fx) (s s' : Df) (n at' : Nat) : Prop where
  came : s'.came = s.came
  row : s'.row = s.row
  al : s'.al = s.al
  gp : s'.gp = s.gp
  th : ∀ a, th F s' a = (th F s a && decide (F.k a < n))
  sub : ∀ m, s'.st m = true → s.st m = true
  keep : ∀ m, s.st m = true → m < n → s'.st m = true
  low : ∀ m, n ≤ m → m < at' → s'.st m = false
  is : at' < F.K → s'.st at' = true
  ge : n ≤ at'
  le : at' ≤ F.K

theorem xS_gt {m : Nat} (hgt : 0 < xS F s m) (hm : m < F.K) : s.st m = true := by
  unfold xS at hgt
  rw [if_neg (by omega)] at hgt
  cases h : s.st m with
  | true => rfl
  | false => rw [h] at hgt; simp at hgt
theorem xS_le {m : Nat} (hle : xS F s m ≤ 0) (hm : m < F.K) : s.st m = false := by
  unfold xS at hle
  rw [if_neg (by omega)] at hle
  cases h : s.st m with
  | false => rfl
  | true => rw [h] at hle; simp at hle

theorem Ct1.done {n a r : Nat} (hc : Ct1 F s s' n a) (ha : s.came ≤ a) (h : Inv F (num ks) (kw ks) s) (hF : Pk.Fst (xS F s') n 0 r) (hr : r ≤ F.K) : Ct2 F s s' n r := by
  refine ⟨hc.came, hc.row, hc.al, hc.gp, fun b => ?_, fun m hm => by rw [hc.st] at hm; exact hm, fun m hm _ => by rw [hc.st]; exact hm, fun m h1 h2 => xS_le (hF.le m h1 h2) (by omega), fun hlt => xS_gt hF.gt hlt, hF.ge, hr⟩
  rw [Bool.eq_iff_iff, Bool.and_eq_true, decide_eq_true_eq]
  constructor
  · intro hb
    have hs := hc.sub b hb
    have := (th_lt h hs).1
    exact ⟨hs, hc.low b (by omega) hb⟩
  · intro ⟨h1, h2⟩
    exact hc.keep b h1 h2

theorem Ct2.next {n a r : Nat} (hc : Ct2 F s s' n a) (hlt : a < F.K) (hF : Pk.Fst (xS F (rmA s' a)) a 0 r) (hr : r ≤ F.K) : Ct2 F s (rmA s' a) n r ∧ a < r := by
  have hst : ∀ m, (rmA s' a).st m = if m = a then false else s'.st m := fun _ => rfl
  have hge := hc.ge
  have har : a < r := by
    have h1 := hF.ge
    by_cases he : r = a
    · subst he
      have := xS_gt hF.gt hlt
      rw [hst] at this
      simp at this
    · omega
  refine ⟨⟨hc.came, hc.row, hc.al, hc.gp, hc.th, fun m hm => ?_, fun m hm hn => ?_, fun m h1 h2 => ?_, fun h1 => xS_gt hF.gt h1, by omega, hr⟩, har⟩
  · rw [hst] at hm
    split at hm
    · cases hm
    · exact hc.sub m hm
  · rw [hst, if_neg (by omega)]
    exact hc.keep m hm hn
  · by_cases hma : m < a
    · rw [hst, if_neg (by omega)]
      exact hc.low m h1 hma
    · exact xS_le (hF.le m (by omega) h2) (by omega)

theorem Ct2.done {n a : Nat} (hc : Ct2 F s s' n a) (ha : ¬ a < F.K) (h : Inv F (num ks) (kw ks) s) (h' : Inv F (num ks) (kw ks) s') : Cutd F s s' n := by
  refine ⟨hc.came, hc.row, hc.al, hc.gp, fun m => ?_, hc.th⟩
  rw [Bool.eq_iff_iff, Bool.and_eq_true, decide_eq_true_eq]
  constructor
  · intro hm
    have hmK := (h'.st m hm).1
    refine ⟨hc.sub m hm, ?_⟩
    by_cases hn : m < n
    · exact hn
    · have := hc.low m (by omega) (by have := hc.le; omega)
      rw [this] at hm
      cases hm
  · intro ⟨h1, h2⟩
    exact hc.keep m h1 h2

set_option maxHeartbeats 4000000 in
theorem dcut_any (h : Drn w base B ks F s V) (key : ByteArray) (hk : kw ks key) :
    Calls Tryz.prog 136 #[.pointer (some ⟨B, 0, none⟩), .string key] w fun e w' => Stp w base B ks F s V ((view F s).filter fun e => Ky.lt e.key key) e w' := by
  have hnK := h.inv.nu.lt key hk
  have HI : Hid (Inv F (num ks) (kw ks) s) := h.inv
  have HH : Hid (Drn w base B ks F s V) := h
  clear h
  obtain ⟨n, hn⟩ : ∃ n : Nat, num ks key = n := ⟨_, rfl⟩
  have HN : Hid (num ks key = n) := hn
  rw [hn] at hnK
  clear hn
  go_enter Tryz.func136, Tryz.ntmps136
  go_wp2_with fail
  refine (number_any HH.out key).mono ?_
  rintro e w1 ⟨rfl, ht1⟩
  rw [HN.out]
  obtain ⟨t1, t2, n1, n2, D1, D2, h⟩ := HH.out.still ht1
  have hbK := h.bK
  have hbR := h.bR
  have hcR := h.inv.came
  have x6 : w1.cell? ⟨B, 6, none⟩ = some (sl V.gt n1 V.ct) := h.at 6
  obtain ⟨r, hF, hrR⟩ := h.first1 0 (n : Int) (Nat.zero_le _) (by omega)
  have HD : Hid (Drc w1 base B ks F s V t1 t2 n1 n2 D1 D2 ∧ Pk.Fst (xT F s) 0 (n : Int) r ∧ r ≤ F.R) := ⟨h, hF, hrR⟩
  have HS : Hid (∃ s', Drn w1 base B ks F s' V ∧ Ct1 F s s' n r ∧ Bw V B w w1) := ⟨s, ⟨_, _, _, _, _, _, h⟩, Ct1.start h.inv hF hrR, Bw.of ht1 (by simp)⟩
  clear h ht1 hF hrR
  go_wp2_with fail
  refine (pfirst_eq HD.out.1.trow HD.out.1.l1 HD.out.1.i1 HD.out.1.b1 0 F.R (n : Int) HD.out.1.r1 HD.out.2.1 HD.out.2.2).mono ?_
  rintro e w2 ⟨rfl, rfl⟩
  clear HD x6
  go_wp2_with fail
  go_loopw [5] (fun i wr => ∃ a : Nat, i = .int .i64 (a : Int) ∧ Hid (∃ s', Drn wr base B ks F s' V ∧ Ct1 F s s' n a ∧ Bw V B w wr)) (fun i _ => F.R + 1 - (intOf i).toNat)
  case atStart => exact ⟨r, rfl, HS⟩
  case round =>
    obtain ⟨a, rfl, HW⟩ := hrel
    clear HS
    obtain ⟨s1, hd, hct, hB⟩ := HW.out
    have haR := hct.le
    obtain ⟨t1, t2, n1, n2, D1, D2, h⟩ := hd
    have x2 : wr.cell? ⟨B, 2, none⟩ = some (.int .i64 (s.came : Int)) := by rw [← hct.came]; exact h.at 2
    by_cases hlt : a < s.came
    · have hli : (a : Int) < (s.came : Int) := by omega
      have HD : Hid (Drn wr base B ks F s1 V ∧ Ct1 F s s1 n a ∧ Bw V B w wr) := ⟨⟨_, _, _, _, _, _, h⟩, hct, hB⟩
      have hf := hct.first h.inv hlt
      have hca : a < s1.came := by rw [hct.came]; exact hlt
      clear h hct hB HW
      go_wp2_with fail
      refine (dtake_any HD.out.1 a hca hf).mono ?_
      rintro e w3 ⟨rfl, hd3, hB3⟩
      have HB3 : Hid (Bw V B w w3) := HD.out.2.2.trans hB3
      obtain ⟨t1, t2, n1, n2, D1, D2, h⟩ := hd3
      have x6 : w3.cell? ⟨B, 6, none⟩ = some (sl V.gt n1 V.ct) := h.at 6
      obtain ⟨r', hF, hrR⟩ := h.first1 a (n : Int) (by omega) (by omega)
      obtain ⟨hnx, hgt⟩ := HD.out.2.1.next HD.out.1.inv hlt hF hrR
      have HS : Hid (∃ s', Drn w3 base B ks F s' V ∧ Ct1 F s s' n r' ∧ Bw V B w w3) := ⟨_, ⟨_, _, _, _, _, _, h⟩, hnx, HB3.out⟩
      have HG : Hid (Drc w3 base B ks F (take F s1 a) V t1 t2 n1 n2 D1 D2 ∧ Pk.Fst (xT F (take F s1 a)) a (n : Int) r' ∧ r' ≤ F.R) := ⟨h, hF, hrR⟩
      clear h hF hnx hB3 x2
      go_wp2_with fail
      refine (pfirst_eq HG.out.1.trow HG.out.1.l1 HG.out.1.i1 HG.out.1.b1 a F.R (n : Int) HG.out.1.r1 HG.out.2.1 HG.out.2.2).mono ?_
      rintro e w4 ⟨rfl, rfl⟩
      go_wp2
      exact ⟨⟨r', rfl, HS⟩, by simp [intOf]; omega⟩
    · have hli : ¬ (a : Int) < (s.came : Int) := by omega
      obtain ⟨r2, hF2, hr2⟩ := h.first2 n 0 (by omega) (by omega)
      have HS : Hid (∃ s', Drn wr base B ks F s' V ∧ Ct2 F s s' n r2 ∧ Bw V B w wr) := ⟨s1, ⟨_, _, _, _, _, _, h⟩, hct.done (by omega) HI.out hF2 hr2, hB⟩
      have x9 : wr.cell? ⟨B, 9, none⟩ = some (sl V.gs n2 V.cs) := h.at 9
      have HG : Hid (Drc wr base B ks F s1 V t1 t2 n1 n2 D1 D2 ∧ Pk.Fst (xS F s1) n 0 r2 ∧ r2 ≤ F.K) := ⟨h, hF2, hr2⟩
      clear h hct hB HW hF2 hr2
      go_wp2_with fail
      refine (pfirst_eq HG.out.1.irow HG.out.1.l2 HG.out.1.i2 HG.out.1.b2 n F.K 0 HG.out.1.r2 HG.out.2.1 HG.out.2.2).mono ?_
      rintro e w4 ⟨rfl, rfl⟩
      clear HG x9 x2
      go_wp2_with fail
      go_loopw [6] (fun i wr => ∃ a : Nat, i = .int .i64 (a : Int) ∧ Hid (∃ s', Drn wr base B ks F s' V ∧ Ct2 F s s' n a ∧ Bw V B w wr)) (fun i _ => F.K + 1 - (intOf i).toNat)
      case atStart => exact ⟨r2, rfl, HS⟩
      case round =>
        obtain ⟨q, rfl, HW⟩ := hrel
        clear HS
        obtain ⟨s2, hd, hct, hB⟩ := HW.out
        have hqK := hct.le
        obtain ⟨t1, t2, n1, n2, D1, D2, h⟩ := hd
        have x0 : wr.cell? ⟨B, 0, none⟩ = some V.vK := h.at 0
        obtain ⟨pK, cK, hvK⟩ : ∃ p c, V.vK = .slice p F.K c := by
          rcases h.srow.2 with ⟨hv, hn⟩ | ⟨g, cap, cur, hv, _⟩
          · exact ⟨none, 0, by rw [hv, hn]⟩
          · exact ⟨_, cap, hv⟩
        rw [hvK] at x0
        clear hvK
        by_cases hlt2 : q < F.K
        · have hli2 : (q : Int) < (F.K : Int) := by omega
          have x9 : wr.cell? ⟨B, 9, none⟩ = some (sl V.gs n2 V.cs) := h.at 9
          have HD : Hid (Drc wr base B ks F s2 V t1 t2 n1 n2 D1 D2 ∧ Ct2 F s s2 n q ∧ Bw V B w wr) := ⟨h, hct, hB⟩
          clear h hct hB HW
          go_wp2_with fail
          refine (pset_any HD.out.1.irow HD.out.1.l2 HD.out.1.i2 HD.out.1.b2 q (by have := HD.out.1.r2; omega) 0).mono ?_
          rintro e w3 ⟨rfl, t2', g1, g2, g3, g4⟩
          obtain ⟨hcl, hB3⟩ := HD.out.1.setS g1 g2 g4
          have h : Drc w3 base B ks F (rmA s2 q) V t1 t2' n1 n2 D1 D2 := { HD.out.1 with cl := hcl, inv := rmA_inv HD.out.1.inv q, l2 := g2, i1 := HD.out.1.i1, i2 := by rw [xS_set q hlt2 false (rmA s2 q) (fun _ => rfl)]; exact g3 }
          have HB3 : Hid (Bw V B w w3) := HD.out.2.2.trans hB3
          obtain ⟨r3, hF3, hr3⟩ := h.first2 q 0 (by omega) (by omega)
          obtain ⟨hnx, hgt⟩ := HD.out.2.1.next hlt2 hF3 hr3
          have HS : Hid (∃ s', Drn w3 base B ks F s' V ∧ Ct2 F s s' n r3 ∧ Bw V B w w3) := ⟨_, ⟨_, _, _, _, _, _, h⟩, hnx, HB3.out⟩
          have y9 : w3.cell? ⟨B, 9, none⟩ = some (sl V.gs n2 V.cs) := h.at 9
          have HG : Hid (Drc w3 base B ks F (rmA s2 q) V t1 t2' n1 n2 D1 D2 ∧ Pk.Fst (xS F (rmA s2 q)) q 0 r3 ∧ r3 ≤ F.K) := ⟨h, hF3, hr3⟩
          clear h hF3 hnx hB3 hcl g1 g2 g3 g4 x9 x0
          go_wp2_with fail
          refine (pfirst_eq HG.out.1.irow HG.out.1.l2 HG.out.1.i2 HG.out.1.b2 q F.K 0 HG.out.1.r2 HG.out.2.1 HG.out.2.2).mono ?_
          rintro e w4 ⟨rfl, rfl⟩
          go_wp2
          exact ⟨⟨r3, rfl, HS⟩, by simp [intOf]; omega⟩
        · have hli2 : ¬ (q : Int) < (F.K : Int) := by omega
          have HE : Hid (∃ s', Drn wr base B ks F s' V ∧ view F s' = (view F s).filter (fun e => Ky.lt e.key key) ∧ s'.came = s.came ∧ Bw V B w wr ∧ ∀ a, s.came ≤ a → s'.r a = s.r a) := ⟨s2, ⟨_, _, _, _, _, _, h⟩, cut_view HI.out (hct.done hlt2 HI.out h.inv) hk HN.out, hct.came, hB, fun a _ => by unfold Df.r; rw [hct.row]⟩
          clear h hct hB HW
          go_wp2
          go_end0
          exact ⟨rfl, HE.out⟩
end
end Go.Proofs.YtoehlgigidgfpaaGreat

namespace Go.Proofs.YtoehlgigidgfpaaGreat
open Go.RowKit Go.Lib Go.Shelf Dr
set_option linter.unusedVariables false
set_option maxRecDepth 100000

section
variable {w w1 : World} {base B : Nat} {ks : List (List UInt8)} {F : Fx} {s s' : Df} {V : Dv} {t1 t2 : List Int} {n1 n2 D1 D2 : Nat}

/-- Where the telling stands. -/
structure Dtl (F : Fx) (s : Df) (a m : Nat) : Prop where
  low : ∀ j, s.st j = true → j < m → s.g j ≤ a
  high : ∀ j, s.st j = true → m ≤ j → a ≤ s.g j
  is : m < F.K → s.st m = true
  le : m ≤ F.K

theorem Dtl.start (h : Inv F (num ks) (kw ks) s) {m : Nat} (hF : Pk.Fst (xS F s) 0 0 m) (hm : m ≤ F.K) : Dtl F s 0 m ∧ pv F s (0 * (F.K + 1) + m) = [] := by
  have hl : ∀ j, j < m → s.st j = false := fun j hj => xS_le (hF.le j (Nat.zero_le _) hj) (by omega)
  refine ⟨⟨fun j hs hj => ?_, fun _ _ _ => Nat.zero_le _, fun hlt => xS_gt hF.gt hlt, hm⟩, ?_⟩
  · rw [hl j hj] at hs; cases hs
  · have := pv_skip F s 0 0 m (by omega) fun j _ hj => .inl (hl j (by omega))
    rw [Nat.zero_add] at this
    rw [this, Nat.zero_mul]; rfl

theorem Dtl.emit (h : Inv F (num ks) (kw ks) s) {a m r : Nat} (ht : Dtl F s a m) (hm : m < F.K) (hg : s.g m = a) (hF : Pk.Fst (xS F s) (m + 1) 0 r) (hr : r ≤ F.K) : Dtl F s a r ∧ pv F s (a * (F.K + 1) + r) = pv F s (a * (F.K + 1) + m) ++ [s.a m] ∧ m < r := by
  have hl : ∀ j, m + 1 ≤ j → j < r → s.st j = false := fun j h1 hj => xS_le (hF.le j h1 hj) (by omega)
  have hge := hF.ge
  have hs := ht.is hm
  refine ⟨⟨fun j hj hlt => ?_, fun j hj hle => ?_, fun hlt => xS_gt hF.gt hlt, hr⟩, ?_, by omega⟩
  · by_cases h1 : j < m
    · exact ht.low j hj h1
    · by_cases h2 : j = m
      · subst h2; omega
      · rw [hl j (by omega) hlt] at hj; cases hj
  · have := h.rise m j hs hj (by omega)
    omega
  · have h2 := pv_skip F s a (m + 1) (r - (m + 1)) (by omega) fun j h1 h2 => .inl (hl j h1 (by omega))
    rw [show m + 1 + (r - (m + 1)) = r by omega] at h2
    rw [h2]
    have := pv_gap F s m hm hs
    rw [hg] at this
    exact this

theorem Dtl.over (h : Inv F (num ks) (kw ks) s) {a m : Nat} (ht : Dtl F s a m) (hx : m < F.K → s.g m ≠ a) : Dtl F s (a + 1) m ∧ pv F s ((a + 1) * (F.K + 1) + m) = pv F s (a * (F.K + 1) + m) ++ (if th F s a then [s.r a] else []) := by
  have hgt : ∀ j, s.st j = true → m ≤ j → a < s.g j := by
    intro j hj hle
    have hjK := (h.st j hj).1
    have h1 := ht.high m (ht.is (by omega)) (Nat.le_refl _)
    have h2 := hx (by omega)
    by_cases he : j = m
    · subst he; omega
    · have := h.rise m j (ht.is (by omega)) hj (by omega)
      omega
  refine ⟨⟨fun j hj hlt => by have := ht.low j hj hlt; omega, fun j hj hle => by have := hgt j hj hle; omega, ht.is, ht.le⟩, ?_⟩
  have h1 := pv_skip F s a m (F.K - m) (by have := ht.le; omega) fun j hj h2 => by
    cases hs : s.st j with
    | false => exact .inl rfl
    | true => have := hgt j hs hj; exact .inr (by omega)
  rw [show m + (F.K - m) = F.K by have := ht.le; omega] at h1
  have h2 := pv_skip F s (a + 1) 0 m (by have := ht.le; omega) fun j _ hj => by
    cases hs : s.st j with
    | false => exact .inl rfl
    | true => have := ht.low j hs (by omega); exact .inr (by omega)
  rw [Nat.zero_add] at h2
  rw [h2, Nat.add_zero, pv_row, h1]

theorem Dtl.done (h : Inv F (num ks) (kw ks) s) {m : Nat} (ht : Dtl F s s.came m) (hx : m < F.K → s.g m ≠ s.came) : pv F s ((s.came + 1) * (F.K + 1) + m) = view F s := by
  have h1 := (ht.over h hx).2
  rw [h1]
  have hn : th F s s.came = false := by unfold th; simp
  rw [hn]
  simp only [Bool.false_eq_true, if_false, List.append_nil]
  have hgt : ∀ j, s.st j = true → m ≤ j → False := by
    intro j hj hle
    have hjK := (h.st j hj)
    have h1 := ht.high m (ht.is (by omega)) (Nat.le_refl _)
    have h2 := hx (by omega)
    by_cases he : j = m
    · subst he; omega
    · have := h.rise m j (ht.is (by omega)) hj (by omega)
      omega
  have h1 := pv_skip F s s.came m (F.K - m) (by have := ht.le; omega) fun j hj h2 => by
    cases hs : s.st j with
    | false => exact .inl rfl
    | true => exact (hgt j hs hj).elim
  rw [show m + (F.K - m) = F.K by have := ht.le; omega] at h1
  rw [← h1]
  rfl

theorem pv_len (F : Fx) (s : Df) {c d : Nat} (h : c ≤ d) : (pv F s c).length ≤ (pv F s d).length := by
  unfold pv
  obtain ⟨k, rfl⟩ : ∃ k, d = c + k := ⟨d - c, by omega⟩
  rw [List.range_add, List.filterMap_append, List.length_append]
  omega

/-- 'append' of one entry to a row of the call's own. -/
theorem app_oneD {w0 : World} {l : List En} {e : En} (hb : (l.length + 1) * 40 ≤ 140737488355328) :
    ∀ W v (E : Nat), Below w0.heap.size w0 W → OwnE W w0.heap.size v l → Ens W (some ⟨E, 0, none⟩) [e] → ∃ v' W', (Builtin.append_ #[27, 27] 27 #[v, .slice (some ⟨E, 0, none⟩) 1 1]).run Tryz.prog W = .ok v' W' ∧ OwnE W' w0.heap.size v' (l ++ [e]) ∧ Below w0.heap.size w0 W' := by
  intro W v E hW hv hE
  obtain ⟨v', W', hr, ho, hg, hk⟩ := run_appE W w0.heap.size 27 v l [e] (some ⟨E, 0, none⟩) 1 1 rfl hE (fun h => by cases h) hv hb hW.size
  exact ⟨v', W', hr, ho, hW.grown hg hW.size (fun k hk => (World.ownsRow.lt hv k hk).1)⟩

/-- Between the rounds of the telling. -/
def Lw (w wr : World) (F : Fx) (s : Df) (out : Value) (a m : Nat) : Prop := OwnE wr w.heap.size out (pv F s (a * (F.K + 1) + m)) ∧ Below w.heap.size w wr ∧ Dtl F s a m

set_option maxHeartbeats 8000000 in
theorem dlist_any (h : Drn w base B ks F s V) (hv : (view F s).length ≤ 3518437208783) :
    Calls Tryz.prog 137 #[.pointer (some ⟨B, 0, none⟩)] w fun e w' => ∃ v, e = .returned v ∧ OwnE w' w.heap.size v (view F s) ∧ Below w.heap.size w w' := by
  obtain ⟨t1, t2, n1, n2, D1, D2, h⟩ := h
  have hbK := h.bK
  have hbR := h.bR
  have hcR := h.inv.came
  have HI : Hid (Inv F (num ks) (kw ks) s) := h.inv
  have HH : Hid (Drc w base B ks F s V t1 t2 n1 n2 D1 D2) := h
  have HD : Hid (∀ wr, Below w.heap.size w wr → Drc wr base B ks F s V t1 t2 n1 n2 D1 D2) := fun wr hb => h.still (Tn.of_below hb _)
  have HV : Hid ((view F s).length ≤ 3518437208783) := hv
  obtain ⟨pK, cK, hvK⟩ : ∃ p c, V.vK = .slice p F.K c := by
    rcases h.srow.2 with ⟨hv, hn⟩ | ⟨g, cap, cur, hv, _⟩
    · exact ⟨none, 0, by rw [hv, hn]⟩
    · exact ⟨_, cap, hv⟩
  have HK : Hid (V.vK = .slice pK F.K cK) := hvK
  obtain ⟨m0, hF, hm0⟩ := h.first2 0 0 (Nat.zero_le _) (by omega)
  have HF : Hid (Pk.Fst (xS F s) 0 0 m0 ∧ m0 ≤ F.K) := ⟨hF, hm0⟩
  obtain ⟨C, hC⟩ : ∃ C : Nat, s.came = C := ⟨_, rfl⟩
  have HC : Hid (s.came = C) := hC
  have x9 : w.cell? ⟨B, 9, none⟩ = some (sl V.gs n2 V.cs) := h.at 9
  have x2 : w.cell? ⟨B, 2, none⟩ = some (.int .i64 (C : Int)) := by rw [← hC]; exact h.at 2
  have HS : Hid (Lw w w F s (.slice none 0 0) 0 m0) := by
    obtain ⟨h1, h2⟩ := Dtl.start h.inv hF hm0
    exact ⟨by rw [h2]; exact OwnE.nil _ _, Below.refl _ _, h1⟩
  have hCb : C ≤ 8796093022207 := by omega
  clear h hv hvK hF hm0 hC hcR
  go_enter Tryz.func137, Tryz.ntmps137
  go_wp2_with fail
  refine (pfirst_eq HH.out.irow HH.out.l2 HH.out.i2 HH.out.b2 0 F.K 0 HH.out.r2 HF.out.1 HF.out.2).mono ?_
  rintro e w2 ⟨rfl, rfl⟩
  go_wp2_with fail
  clear x9 x2
  go_loopw [3, 4, 16] (fun ov mv iv wr => ∃ a m : Nat, a ≤ C + 1 ∧ mv = .int .i64 (m : Int) ∧ iv = .int .i64 (a : Int) ∧ Hid (Lw w2 wr F s ov a m) ∧ Hid (a = s.came + 1 → pv F s (a * (F.K + 1) + m) = view F s)) (fun _ _ iv _ => C + 1 - (intOf iv).toNat)
  case atStart => exact ⟨0, m0, Nat.zero_le _, rfl, rfl, HS, fun e => by omega⟩
  case round =>
    obtain ⟨a, m, haC, rfl, rfl, HW, HQ⟩ := hrel
    clear HS
    by_cases hlt : a < C + 1
    · have hli : (a : Int) < (C : Int) + 1 := by omega
      have hib : a ≤ 8796093022208 := by omega
      go_wp2_with fail
      go_loopw [3, 4] (fun ov mv wx => ∃ m : Nat, mv = .int .i64 (m : Int) ∧ Hid (Lw w2 wx F s ov a m)) (fun _ mv _ => F.K + 1 - (intOf mv).toNat)
      case atStart => exact ⟨m, rfl, HW⟩
      case round =>
        obtain ⟨m, rfl, HL⟩ := hrel
        clear HW
        have h := HD.out wr HL.out.2.1
        have hmK := HL.out.2.2.le
        have x0 : wr.cell? ⟨B, 0, none⟩ = some (.slice pK F.K cK) := by rw [← HK.out]; exact h.at 0
        have x8 : wr.cell? ⟨B, 8, none⟩ = some (sl V.gg F.K V.cg) := h.at 8
        have HX : Hid (Drc wr base B ks F s V t1 t2 n1 n2 D1 D2) := h
        clear h
        by_cases hm : m < F.K
        · have hmi : (m : Int) < (F.K : Int) := by omega
          have hm0 : (0 : Int) ≤ (m : Int) := by omega
          have gc := HX.out.gcell hm
          obtain ⟨y, hy⟩ : ∃ y : Nat, s.g m = y := ⟨_, rfl⟩
          have HY : Hid (s.g m = y) := hy
          rw [hy] at gc
          clear hy
          by_cases hya : y = a
          · subst hya
            obtain ⟨r, hF, hrK⟩ := HX.out.first2 (m + 1) 0 (by omega) (by omega)
            obtain ⟨hT, hpv, hgt⟩ := HL.out.2.2.emit HI.out hm HY.out hF hrK
            have HT : Hid (Dtl F s y r ∧ pv F s (y * (F.K + 1) + r) = pv F s (y * (F.K + 1) + m) ++ [s.a m] ∧ Pk.Fst (xS F s) (m + 1) 0 r ∧ r ≤ F.K) := ⟨hT, hpv, hF, hrK⟩
            obtain ⟨z0, z1, z2, z3⟩ := row_en HX.out.arow m hm
            have hsa : s.al.getD m En.zero = s.a m := rfl
            rw [hsa] at z0 z1 z2 z3
            obtain ⟨e, he⟩ : ∃ e, s.a m = e := ⟨_, rfl⟩
            rw [he] at z0 z1 z2 z3 HT
            have x7 : wr.cell? ⟨B, 7, none⟩ = some (sl V.ga F.K V.ca) := HX.out.at 7
            have hlen : (pv F s (y * (F.K + 1) + m)).length + 1 ≤ 3518437208783 := by
              have h1 : (pv F s (y * (F.K + 1) + r)).length ≤ (view F s).length := pv_len F s (by
                have h5 : y ≤ s.came := by have := (HI.out.st m (HL.out.2.2.is hm)).2; rw [HY.out] at this; exact this
                have h6 : y * (F.K + 1) ≤ s.came * (F.K + 1) := Nat.mul_le_mul_right _ h5
                unfold top
                omega)
              have := HV.out
              rw [hpv, List.length_append] at h1
              simp at h1
              omega
            have hbA : Below w2.heap.size w2 (wr.alloc (.cells #[.string e.key, .int .i64 e.s, .int .i64 e.g, .int .i64 e.c] 33)) := HL.out.2.1.alloc HL.out.2.1.size _
            obtain ⟨v3, w3, hr3, ho3, hb3⟩ := app_oneD (w0 := w2) (l := pv F s (y * (F.K + 1) + m)) (e := e) (by omega) _ u3 wr.heap.size hbA (HL.out.1.below ((Below.refl _ wr).alloc (Nat.le_refl _) _) (Nat.le_refl _)) (ens_one wr e)
            have HR3 : Hid _ := hr3
            have HS3 : Hid (Lw w2 w3 F s v3 y r) := ⟨by rw [HT.out.2.1]; exact ho3, hb3, HT.out.1⟩
            clear hr3 ho3 hb3 hbA hT hpv hF he hsa hlen
            have h3 := HD.out w3 HS3.out.2.1
            have y9 : w3.cell? ⟨B, 9, none⟩ = some (sl V.gs n2 V.cs) := h3.at 9
            have H3 : Hid (Drc w3 base B ks F s V t1 t2 n1 n2 D1 D2) := h3
            clear h3
            go_wp2_with (at_builtin; refine Lib.wpList_append_run _ rfl _ _ _ _ rfl _ _ rfl rfl _ _ HR3.out ?_)
            clear HX HR3 HL x0 x8 x7 gc z0 z1 z2 z3
            refine (pfirst_eq H3.out.irow H3.out.l2 H3.out.i2 H3.out.b2 (m + 1) F.K 0 H3.out.r2 HT.out.2.2.1 HT.out.2.2.2).mono ?_
            rintro e' w4 ⟨rfl, rfl⟩
            go_wp2
            exact ⟨⟨r, rfl, HS3⟩, by simp [intOf]; omega⟩
          · have hyi : ((y : Int) == (a : Int)) = false := by simp; omega
            have HO : Hid (Dtl F s (a + 1) m ∧ pv F s ((a + 1) * (F.K + 1) + m) = pv F s (a * (F.K + 1) + m) ++ (if th F s a then [s.r a] else [])) := HL.out.2.2.over HI.out (fun _ => by rw [HY.out]; exact hya)
            have HZ : Hid (a = s.came → pv F s ((a + 1) * (F.K + 1) + m) = view F s) := fun e => by subst e; exact HL.out.2.2.done HI.out (fun _ => by rw [HY.out]; exact hya)
            have x2 : wr.cell? ⟨B, 2, none⟩ = some (.int .i64 (C : Int)) := by rw [← HC.out]; exact HX.out.at 2
            have x6 : wr.cell? ⟨B, 6, none⟩ = some (sl V.gt n1 V.ct) := HX.out.at 6
            have x1 : wr.cell? ⟨B, 1, none⟩ = some V.vR := HX.out.at 1
            by_cases haC2 : a < C
            · have hai : (a : Int) < (C : Int) := by omega
              have haR : a < F.R := by have := HI.out.came; have := HC.out; omega
              have haRi : (a : Int) < (F.R : Int) := by omega
              have ha0 : (0 : Int) ≤ (a : Int) := by omega
              go_wp2_with fail
              refine (pat_any HX.out.trow HX.out.l1 HX.out.i1 HX.out.b1 a (by have := HX.out.r1; omega)).mono ?_
              rintro e' w4 ⟨rfl, rfl⟩
              have hxa : xT F s a = if th F s a then (F.k a : Int) + 1 else 0 := by unfold xT; rw [if_neg (by omega)]
              rw [hxa]
              cases hth : th F s a with
              | true =>
                have hkp : (0 : Int) < (F.k a : Int) + 1 := by omega
                simp only [if_true]
                generalize (F.k a : Int) + 1 = kk at *
                obtain ⟨gR, cR, hvR⟩ : ∃ g c, V.vR = sl g F.R c := by
                  rcases HX.out.rrow.2 with ⟨_, hn⟩ | ⟨g, cap, cur, hv, _⟩
                  · omega
                  · exact ⟨_, cap, hv⟩
                have hrr := HX.out.rrow
                rw [hvR] at hrr x1
                obtain ⟨z0, z1, z2, z3⟩ := row_en hrr a haR
                have hsa : s.row.getD a En.zero = s.r a := rfl
                rw [hsa] at z0 z1 z2 z3
                have hpv := HO.out.2
                rw [hth] at hpv
                simp only [if_true] at hpv
                obtain ⟨e, he⟩ : ∃ e, s.r a = e := ⟨_, rfl⟩
                rw [he] at z0 z1 z2 z3 hpv
                have hlen : (pv F s (a * (F.K + 1) + m)).length + 1 ≤ 3518437208783 := by
                  have h1 : (pv F s ((a + 1) * (F.K + 1) + m)).length ≤ (view F s).length := pv_len F s (by
                    have h6 : (a + 1) * (F.K + 1) ≤ s.came * (F.K + 1) := Nat.mul_le_mul_right _ (by have := HC.out; omega)
                    unfold top
                    omega)
                  have := HV.out
                  rw [hpv, List.length_append] at h1
                  simp at h1
                  omega
                have hbA : Below w2.heap.size w2 (w4.alloc (.cells #[.string e.key, .int .i64 e.s, .int .i64 e.g, .int .i64 e.c] 33)) := HL.out.2.1.alloc HL.out.2.1.size _
                obtain ⟨v3, w3, hr3, ho3, hb3⟩ := app_oneD (w0 := w2) (l := pv F s (a * (F.K + 1) + m)) (e := e) (by omega) _ u3 w4.heap.size hbA (HL.out.1.below ((Below.refl _ w4).alloc (Nat.le_refl _) _) (Nat.le_refl _)) (ens_one w4 e)
                have HR3 : Hid _ := hr3
                have HS3 : Hid (Lw w2 w3 F s v3 (a + 1) m) := ⟨by rw [hpv]; exact ho3, hb3, HO.out.1⟩
                clear hr3 ho3 hb3 hbA hpv he hsa hlen hrr hvR
                go_wp2_with (at_builtin; refine Lib.wpList_append_run _ rfl _ _ _ _ rfl _ _ rfl rfl _ _ HR3.out ?_)
                go_roundw
                case rel => exact ⟨a + 1, m, by omega, rfl, by go_num, HS3, fun e => HZ.out (by omega)⟩
                case measure => simp [intOf]; omega
              | false =>
                simp only [Bool.false_eq_true, if_false]
                have HS3 : Hid (Lw w2 w4 F s u3 (a + 1) m) := ⟨by have := HO.out.2; rw [hth] at this; simp only [Bool.false_eq_true, if_false, List.append_nil] at this; rw [this]; exact HL.out.1, HL.out.2.1, HO.out.1⟩
                go_wp2
                go_roundw
                case rel => exact ⟨a + 1, m, by omega, rfl, by go_num, HS3, fun e => HZ.out (by omega)⟩
                case measure => simp [intOf]; omega
            · have hai : ¬ (a : Int) < (C : Int) := by omega
              have HS3 : Hid (Lw w2 wr F s u3 (a + 1) m) := by
                have hth : th F s a = false := by unfold th; have := HC.out; simp; omega
                exact ⟨by have := HO.out.2; rw [hth] at this; simp only [Bool.false_eq_true, if_false, List.append_nil] at this; rw [this]; exact HL.out.1, HL.out.2.1, HO.out.1⟩
              go_wp2
              go_roundw
              case rel => exact ⟨a + 1, m, by omega, rfl, by go_num, HS3, fun e => HZ.out (by omega)⟩
              case measure => simp [intOf]; omega
        · have hmi : ¬ (m : Int) < (F.K : Int) := by omega
          have HO : Hid (Dtl F s (a + 1) m ∧ pv F s ((a + 1) * (F.K + 1) + m) = pv F s (a * (F.K + 1) + m) ++ (if th F s a then [s.r a] else [])) := HL.out.2.2.over HI.out (fun h => absurd h hm)
          have HZ : Hid (a = s.came → pv F s ((a + 1) * (F.K + 1) + m) = view F s) := fun e => by subst e; exact HL.out.2.2.done HI.out (fun h => absurd h hm)
          have x2 : wr.cell? ⟨B, 2, none⟩ = some (.int .i64 (C : Int)) := by rw [← HC.out]; exact HX.out.at 2
          have x6 : wr.cell? ⟨B, 6, none⟩ = some (sl V.gt n1 V.ct) := HX.out.at 6
          have x1 : wr.cell? ⟨B, 1, none⟩ = some V.vR := HX.out.at 1
          by_cases haC2 : a < C
          · have hai : (a : Int) < (C : Int) := by omega
            have haR : a < F.R := by have := HI.out.came; have := HC.out; omega
            have haRi : (a : Int) < (F.R : Int) := by omega
            have ha0 : (0 : Int) ≤ (a : Int) := by omega
            go_wp2_with fail
            refine (pat_any HX.out.trow HX.out.l1 HX.out.i1 HX.out.b1 a (by have := HX.out.r1; omega)).mono ?_
            rintro e' w4 ⟨rfl, rfl⟩
            have hxa : xT F s a = if th F s a then (F.k a : Int) + 1 else 0 := by unfold xT; rw [if_neg (by omega)]
            rw [hxa]
            cases hth : th F s a with
            | true =>
              have hkp : (0 : Int) < (F.k a : Int) + 1 := by omega
              simp only [if_true]
              generalize (F.k a : Int) + 1 = kk at *
              obtain ⟨gR, cR, hvR⟩ : ∃ g c, V.vR = sl g F.R c := by
                rcases HX.out.rrow.2 with ⟨_, hn⟩ | ⟨g, cap, cur, hv, _⟩
                · omega
                · exact ⟨_, cap, hv⟩
              have hrr := HX.out.rrow
              rw [hvR] at hrr x1
              obtain ⟨z0, z1, z2, z3⟩ := row_en hrr a haR
              have hsa : s.row.getD a En.zero = s.r a := rfl
              rw [hsa] at z0 z1 z2 z3
              have hpv := HO.out.2
              rw [hth] at hpv
              simp only [if_true] at hpv
              obtain ⟨e, he⟩ : ∃ e, s.r a = e := ⟨_, rfl⟩
              rw [he] at z0 z1 z2 z3 hpv
              have hlen : (pv F s (a * (F.K + 1) + m)).length + 1 ≤ 3518437208783 := by
                have h1 : (pv F s ((a + 1) * (F.K + 1) + m)).length ≤ (view F s).length := pv_len F s (by
                  have h6 : (a + 1) * (F.K + 1) ≤ s.came * (F.K + 1) := Nat.mul_le_mul_right _ (by have := HC.out; omega)
                  unfold top
                  omega)
                have := HV.out
                rw [hpv, List.length_append] at h1
                simp at h1
                omega
              have hbA : Below w2.heap.size w2 (w4.alloc (.cells #[.string e.key, .int .i64 e.s, .int .i64 e.g, .int .i64 e.c] 33)) := HL.out.2.1.alloc HL.out.2.1.size _
              obtain ⟨v3, w3, hr3, ho3, hb3⟩ := app_oneD (w0 := w2) (l := pv F s (a * (F.K + 1) + m)) (e := e) (by omega) _ u3 w4.heap.size hbA (HL.out.1.below ((Below.refl _ w4).alloc (Nat.le_refl _) _) (Nat.le_refl _)) (ens_one w4 e)
              have HR3 : Hid _ := hr3
              have HS3 : Hid (Lw w2 w3 F s v3 (a + 1) m) := ⟨by rw [hpv]; exact ho3, hb3, HO.out.1⟩
              clear hr3 ho3 hb3 hbA hpv he hsa hlen hrr hvR
              go_wp2_with (at_builtin; refine Lib.wpList_append_run _ rfl _ _ _ _ rfl _ _ rfl rfl _ _ HR3.out ?_)
              go_roundw
              case rel => exact ⟨a + 1, m, by omega, rfl, by go_num, HS3, fun e => HZ.out (by omega)⟩
              case measure => simp [intOf]; omega
            | false =>
              simp only [Bool.false_eq_true, if_false]
              have HS3 : Hid (Lw w2 w4 F s u3 (a + 1) m) := ⟨by have := HO.out.2; rw [hth] at this; simp only [Bool.false_eq_true, if_false, List.append_nil] at this; rw [this]; exact HL.out.1, HL.out.2.1, HO.out.1⟩
              go_wp2
              go_roundw
              case rel => exact ⟨a + 1, m, by omega, rfl, by go_num, HS3, fun e => HZ.out (by omega)⟩
              case measure => simp [intOf]; omega
          · have hai : ¬ (a : Int) < (C : Int) := by omega
            have HS3 : Hid (Lw w2 wr F s u3 (a + 1) m) := by
              have hth : th F s a = false := by unfold th; have := HC.out; simp; omega
              exact ⟨by have := HO.out.2; rw [hth] at this; simp only [Bool.false_eq_true, if_false, List.append_nil] at this; rw [this]; exact HL.out.1, HL.out.2.1, HO.out.1⟩
            go_wp2
            go_roundw
            case rel => exact ⟨a + 1, m, by omega, rfl, by go_num, HS3, fun e => HZ.out (by omega)⟩
            case measure => simp [intOf]; omega
    · have hli : ¬ (a : Int) < (C : Int) + 1 := by omega
      have HE : Hid (OwnE wr w2.heap.size u3 (view F s) ∧ Below w2.heap.size w2 wr) := by
        have h1 := HW.out.1
        rw [HQ.out (by rw [HC.out]; omega)] at h1
        exact ⟨h1, HW.out.2.1⟩
      clear HW HQ
      go_wp2
      go_ret
      exact ⟨_, rfl, HE.out.1, HE.out.2⟩
end
end Go.Proofs.YtoehlgigidgfpaaGreat

namespace Go.Proofs.YtoehlgigidgfpaaGreat
open Go.RowKit Go.Lib Go.Shelf Dr
attribute [local go_sem] Oper.semAt_some
set_option linter.unusedVariables false
set_option maxRecDepth 100000

/-- Entries by a delta, of which it is known that it is not refused. -/
def entS (l : List En) (d : De) : List En :=
  if d.k = 1 then Pg.putL l d.e
  else if d.k = 2 then without l d.key
  else if d.k = 3 then l.filter fun e => Ky.lt e.key d.key
  else if d.k = 4 then l ++ d.rt.l
  else l
def entsL (pl : List En) (ds : List De) : List En := ds.foldl entS pl

theorem entsL_snoc (pl : List En) (ds : List De) (d : De) : entsL pl (ds ++ [d]) = entS (entsL pl ds) d := by simp [entsL]

section
variable {w w' : World} {base B : Nat} {ks : List (List UInt8)} {F : Fx} {s : Df} {V : Dv}

theorem Drn.abides (h : Drn w base B ks F s V) {row : Option Nat} {m : Nat} (hg : w.grownBy w' row) (hr : ∀ r, row = some r → m ≤ r ∧ ∃ o : Obj, w.heap[r]? = some o ∧ o.isCells = false) : Drn w' base B ks F s V := by
  obtain ⟨t1, t2, n1, n2, D1, D2, h⟩ := h
  exact ⟨t1, t2, n1, n2, D1, D2, { h with cl := h.cl.abides hg hr }⟩

theorem Drn.bs (h : Drn w base B ks F s V) : ∀ x ∈ V.bs B, base ≤ x ∧ x < w.heap.size ∧ ∃ o : Obj, w.heap[x]? = some o ∧ o.isCells = true := by
  obtain ⟨t1, t2, n1, n2, D1, D2, h⟩ := h
  intro x hx
  obtain ⟨h1, cs, t, h2⟩ := h.bs_ge x hx
  exact ⟨h1, (Array.getElem?_eq_some_iff.1 h2).1, _, h2, rfl⟩

theorem comes_view (h : Inv F (num ks) (kw ks) s) : ∀ m, s.came + m ≤ F.R → view F (comes s m) = view F s ++ (List.range m).map fun i => s.r (s.came + i) := by
  intro m
  induction m with
  | zero => intro _; simp; rfl
  | succ m ih =>
    intro hm
    have h1 := come_view (Inv.comes h (m := m) (by omega)) (by show s.came + m < F.R; omega)
    have h2 : comes s (m + 1) = come1 (comes s m) := rfl
    rw [h2, h1, ih (by omega), List.range_succ, List.map_append, List.append_assoc]
    rfl
end

/-- Between the rounds of entries. -/
structure Es (w W : World) (base B P b m : Nat) (ks : List (List UInt8)) (F : Fx) (V : Dv) (row l : List En) (c : Nat) : Prop where
  dr : ∃ s, Drn W base B ks F s V ∧ view F s = l ∧ s.came = c ∧ ∀ a, c ≤ a → s.r a = row.getD a En.zero
  bx : Bk W P 193 #[.pointer (some ⟨B, 0, none⟩)]
  np : P ∉ V.bs B ∧ b ∉ V.bs B
  below : Below w.heap.size w W
  sz : m ≤ W.heap.size

theorem Es.abides {w W W' : World} {base B P b m c : Nat} {ks : List (List UInt8)} {F : Fx} {V : Dv} {row l : List En} {rw' : Option Nat} {k : Nat} (h : Es w W base B P b m ks F V row l c) (hm : w.heap.size ≤ k) (hg : W.grownBy W' rw') (hr : ∀ r, rw' = some r → k ≤ r ∧ ∃ o : Obj, W.heap[r]? = some o ∧ o.isCells = false) : Es w W' base B P b m ks F V row l c where
  dr := by
    obtain ⟨s, h1, h2⟩ := h.dr
    exact ⟨s, h1.abides hg hr, h2⟩
  bx := bk_from h.bx hg hr
  np := h.np
  below := h.below.grown hg h.below.size (fun k hk => by have := (hr k hk).1; omega)
  sz := Nat.le_trans h.sz hg.size
theorem Es.still {w W W' : World} {base B P b m c : Nat} {ks : List (List UInt8)} {F : Fx} {V : Dv} {row l : List En} (h : Es w W base B P b m ks F V row l c) (ht : Tn [] W W') : Es w W' base B P b m ks F V row l c where
  dr := by
    obtain ⟨s, h1, h2⟩ := h.dr
    exact ⟨s, h1.still ht, h2⟩
  bx := h.bx.tn ht (by simp)
  np := h.np
  below := h.below.trans (ht.below h.below.size (by simp))
  sz := Nat.le_trans h.sz ht.size
/-- A step of the draft is done. -/
theorem Es.step {w W W' : World} {base B P b m c c' : Nat} {ks : List (List UInt8)} {F : Fx} {V : Dv} {row l l' : List En} (h : Es w W base B P b m ks F V row l c) (hb : w.heap.size ≤ base) {s' : Df} (hd : Drn W' base B ks F s' V) (hv : view F s' = l') (hc : s'.came = c') (hr : ∀ a, c' ≤ a → s'.r a = row.getD a En.zero) (ht : Bw V B W W') : Es w W' base B P b m ks F V row l' c' ∧ Tn (V.bs B) W W' := by
  obtain ⟨s, h1, _⟩ := h.dr
  refine ⟨⟨⟨s', hd, hv, hc, hr⟩, h.bx.tn ht h.np.1, h.np, h.below.trans (Tn.below ht h.below.size (fun x hx => by have := (h1.bs x hx).1; omega)), Nat.le_trans h.sz ht.size⟩, ht⟩

theorem keys_known (pl : List En) (ds : List De) : ∀ d ∈ ds, kw (keysOf (allTexts pl ds)) d.key ∧ kw (keysOf (allTexts pl ds)) d.e.key := by
  intro d hd
  have h := (keysOf_facts (allTexts pl ds)).2
  have hm : ∀ x ∈ [d.key.toList, d.e.key.toList], x ∈ allTexts pl ds := fun x hx => by
    unfold allTexts textsOf
    exact List.mem_append_left _ (List.mem_flatten.2 ⟨_, List.mem_map.2 ⟨d, hd, rfl⟩, hx⟩)
  exact ⟨h _ (hm _ (by simp)), h _ (hm _ (by simp))⟩

set_option maxHeartbeats 16000000 in
theorem entries_any (pf : Bool) (plo phi : ByteArray) (pr : Int) (pp : Option Addr) (pn pc : Nat) (pl : List En) (p : Option Addr) (len cap : Nat) (L : List Dm) (w : World) (hlen : pl.length = pn) (hx : Ens w pp pl) (hp : pp = none → pn = 0) (hL : L.length = len) (hD : Des w p L)
    (hRt : (pl ++ rowsOf (L.map (·.d)).reverse).length ≤ 3518437208782) (hKt : (allTexts pl (L.map (·.d)).reverse).length ≤ 7036874417766) (hEn : (entsL pl (L.map (·.d)).reverse).length ≤ 3518437208783)
    (hnr : ∀ d ∈ (L.map (·.d)).reverse, d.k ≠ 4 → d.rt.l = []) :
    Calls Tryz.prog 120 #[pgv pf plo phi pr pp pn pc, .slice p len cap] w fun e w' => ∃ v, e = .returned v ∧ OwnE w' w.heap.size v (entsL pl (L.map (·.d)).reverse) ∧ Below w.heap.size w w' := by
  have hll : len ≤ 4398046511104 := by
    have h1 : (textsOf (L.map (·.d)).reverse).length = 2 * len := by
      have : ∀ ds : List De, (textsOf ds).length = 2 * ds.length := fun ds => by
        induction ds with
        | nil => rfl
        | cons d r ih => simp only [textsOf, List.map_cons, List.flatten_cons, List.length_append, List.length_cons, List.length_nil] at ih ⊢; omega
      rw [this]; simp [hL]
    unfold allTexts at hKt
    rw [List.length_append] at hKt
    omega
  have hpnb : pn ≤ 3518437208782 := by rw [List.length_append] at hRt; omega
  obtain ⟨ds, hds⟩ : ∃ ds : List De, (L.map (·.d)).reverse = ds := ⟨_, rfl⟩
  rw [hds] at hRt hKt hEn hnr ⊢
  have HDSE : Hid ((L.map (·.d)).reverse = ds) := hds
  have hknown := keys_known pl ds
  obtain ⟨ks, hks⟩ : ∃ ks, keysOf (allTexts pl ds) = ks := ⟨_, rfl⟩
  rw [hks] at hknown
  obtain ⟨row, hrow⟩ : ∃ row, pl ++ rowsOf ds = row := ⟨_, rfl⟩
  refine calls_of_wpAt Tryz.func120 rfl ?_
  simp only [Tryz.ntmps120, List.size_toArray, List.length_cons, List.length_nil, Nat.reduceAdd, Nat.reduceSub, Array.replicate_succ, Array.replicate_zero, List.push_toArray, List.append_toArray, List.nil_append, List.cons_append]
  have HX : Hid (Ens w pp pl) := hx
  have HLn : Hid (pl.length = pn) := hlen
  have HPN : Hid (pp = none → pn = 0) := hp
  have HD : Hid (Des w p L) := hD
  have HL : Hid (L.length = len) := hL
  obtain ⟨w0, hw0⟩ : ∃ w0, w0 = w.alloc (.cells #[.bool pf, .string plo, .string phi, .int .i64 pr, .slice pp pn pc] 29) := ⟨_, rfl⟩
  have HB0 : Hid (Below w.heap.size w w0) := by rw [hw0]; exact (Below.refl _ _).alloc (Nat.le_refl _) _
  have HK0 : Hid (Bk w0 w.heap.size 29 #[.bool pf, .string plo, .string phi, .int .i64 pr, .slice pp pn pc]) := by rw [hw0]; exact Bk.new _ _ _
  have HND : Hid (Calls Tryz.prog 132 #[pgv pf plo phi pr pp pn pc, .slice p len cap] w0 fun e w' => Ndr w0 pl ds e w') := by
    have := newDraft_any pf plo phi pr pp pn pc pl p len cap L w0 hlen (hx.below HB0.out (Nat.le_refl _)) hp hL (hD.below HB0.out (Nat.le_refl _)) (by rw [hds]; exact hRt) (by rw [hds]; exact hKt)
    rw [hds] at this
    exact this
  have hw0s : w.heap.size ≤ w0.heap.size := HB0.out.size
  clear hx hlen hp hD hL
  have a0 : w0.cell? ⟨w.heap.size, 0, none⟩ = some (.bool pf) := HK0.out.cell 0
  have a1 : w0.cell? ⟨w.heap.size, 1, none⟩ = some (.string plo) := HK0.out.cell 1
  have a2 : w0.cell? ⟨w.heap.size, 2, none⟩ = some (.string phi) := HK0.out.cell 2
  have a3 : w0.cell? ⟨w.heap.size, 3, none⟩ = some (.int .i64 pr) := HK0.out.cell 3
  have a4 : w0.cell? ⟨w.heap.size, 4, none⟩ = some (.slice pp pn pc) := HK0.out.cell 4
  refine wpAt_seq_k fun K hK => wpAt_of_wp ?_
  go_wp2
  rw [← hw0]
  clear hw0
  refine wpAt_seq_k fun K hK => wpAt_of_wp ?_
  go_wp2_with fail
  refine HND.out.mono ?_
  rintro e w1 ⟨B, V, rfl, hdr, hb1⟩
  rw [hks, hrow] at hdr
  clear HND a0 a1 a2 a3 a4
  obtain ⟨PP, hPP⟩ : ∃ PP, w1.heap.size = PP := ⟨_, rfl⟩
  obtain ⟨w2, hw2⟩ : ∃ w2, w2 = w1.alloc (.cells #[.pointer (some ⟨B, 0, none⟩)] 193) := ⟨_, rfl⟩
  have ht2 : Tn [] w1 w2 := by rw [hw2]; exact (Tn.refl [] _).alloc _
  have hK2' : Bk w2 w.heap.size 29 #[.bool pf, .string plo, .string phi, .int .i64 pr, .slice pp pn pc] := (HK0.out.below hb1 HK0.out.lt).tn ht2 (by simp)
  have hbs := hdr.bs
  have hPn : PP ∉ V.bs B := fun h => by have := (hbs PP h).2.1; omega
  have hP2 : Bk w2 PP 193 #[.pointer (some ⟨B, 0, none⟩)] := by rw [hw2, ← hPP]; exact Bk.new _ _ _
  have hAn : w.heap.size ∉ V.bs B := fun h => by have := (hbs _ h).1; have := HK0.out.lt; omega
  have HP2 : Hid (Bk w2 PP 193 #[.pointer (some ⟨B, 0, none⟩)] ∧ Bk w2 w.heap.size 29 #[.bool pf, .string plo, .string phi, .int .i64 pr, .slice pp pn pc] ∧ Drn w2 w0.heap.size B ks (fx0 ks row) (df0 ks row) V ∧ Below w.heap.size w w2) := ⟨hP2, hK2', hdr.still ht2, HB0.out.trans ((hb1.mono hw0s).trans (ht2.below (by have := hb1.size; omega) (by simp)))⟩
  clear hdr hb1 ht2 hK2' hbs hP2
  go_wp2
  rw [← hw2]
  clear hw2
  refine wpAt_seq_k fun K hK => wpAt_of_wp ?_
  have p0 : w2.cell? ⟨PP, 0, none⟩ = some (.pointer (some ⟨B, 0, none⟩)) := HP2.out.1.cell 0
  have a4 : w2.cell? ⟨w.heap.size, 4, none⟩ = some (.slice pp pn pc) := HP2.out.2.1.cell 4
  go_wp2_with fail
  have hrl : row.length = pn + (rowsOf ds).length := by rw [← hrow, List.length_append, HLn.out]
  refine (come_any HP2.out.2.2.1 pn (by show 0 + pn ≤ row.length; omega)).mono ?_
  rintro e w3 ⟨rfl, hdr3, hbw3⟩
  have hinv0 := HP2.out.2.2.1.inv
  have hE3 : ∀ b, b ∉ V.bs B → Es w w3 w0.heap.size B PP b 0 ks (fx0 ks row) V row pl pn := fun b hb => by
    refine ⟨⟨_, hdr3, ?_, ?_, fun a _ => rfl⟩, HP2.out.1.tn hbw3 hPn, ⟨hPn, hb⟩, HP2.out.2.2.2.trans (Tn.below hbw3 HP2.out.2.2.2.size (fun x hx => by have := (HP2.out.2.2.1.bs x hx).1; omega)), Nat.zero_le _⟩
    · rw [comes_view hinv0 pn (by show 0 + pn ≤ row.length; omega), view0, List.nil_append]
      apply List.ext_getElem?
      intro j
      by_cases hj : j < pn
      · have hjl : j < pl.length := by rw [HLn.out]; exact hj
        have hjr : j < row.length := by omega
        simp only [List.getElem?_map, List.getElem?_range hj, Option.map_some]
        show some (row.getD (0 + j) En.zero) = _
        rw [Nat.zero_add, List.getD_eq_getElem?_getD, ← hrow, List.getElem?_append_left hjl, List.getElem?_eq_getElem hjl]
        rfl
      · rw [List.getElem?_eq_none (by simp; omega), List.getElem?_eq_none (by rw [HLn.out]; omega)]
    · show 0 + pn = pn
      omega
  have HE3 : Hid (∀ b, b ∉ V.bs B → Es w w3 w0.heap.size B PP b 0 ks (fx0 ks row) V row pl pn) := hE3
  have hbs3 := hdr3.bs
  clear hE3 hdr3 hbw3 p0 a4 hinv0
  go_wp2
  refine wpAt_seq_k fun K hK => ?_
  have HK : Hid _ := hK
  clear hK
  refine wpAt_seq_k fun K2 hK2 => wpAt_of_wp ?_
  go_wp2_with fail
  refine (backD_any p len cap w3).mono ?_
  rintro e w4 ⟨rfl, hw4⟩
  have hbn : w3.heap.size ∉ V.bs B := fun h => by have := (hbs3 _ h).2.1; omega
  have ht4 : Tn [] w3 w4 := by rw [hw4]; exact (Tn.refl _ _).alloc _
  have hE4 : Es w w4 w0.heap.size B PP w3.heap.size w4.heap.size ks (fx0 ks row) V row pl pn := { (HE3.out _ hbn).still ht4 with sz := Nat.le_refl _ }
  have hk4 : Bk w4 w3.heap.size 64 #[.slice p len cap] := by rw [hw4]; exact Bk.new _ _ _
  have hs4 : w3.heap.size < w4.heap.size := hk4.lt
  have hseq := backD_stops HL.out hll HD.out hk4 (Alike.of_below hE4.below) hE4.below.size
  have HDS : Hid (∀ W, Below w.heap.size w W → Des W p L) := fun W hW => HD.out.below hW (Nat.le_refl _)
  have hws := hE4.below.size
  have hs3 : w.heap.size ≤ w3.heap.size := (HE3.out _ hbn).below.size
  clear hw4 ht4 hk4 HE3 hbs3
  go_wp2
  refine wpAt_block ?_
  refine wpAt_boxed ?A Tryz.func120 (gf := 142) (lb := #[.pointer (some ⟨w3.heap.size, 0, none⟩)]) rfl (enters_of Tryz.func142 (by kernel_rfl) rfl)
    hseq KpB.t (fun W l o o' hl _ _ _ => ⟨fun k hk => World.putObj_heap_other (by omega), World.putObj_heap_other (by omega)⟩) (Below.refl _ _) (fun _ => rfl)
    (fun pre W => Es w W w0.heap.size B PP w3.heap.size w4.heap.size ks (fx0 ks row) V row (entsL pl (pre.map (·.2.d))) (pl ++ rowsOf (pre.map (·.2.d))).length)
    (fun _ _ _ => False)
    (fun _ _ _ => False)
    (fun s A B' row hs hg hr => hs.abides (k := w4.heap.size) (by omega) hg hr)
    (fun cc s A B row hs hg hr => hs.elim)
    (by
      have e : (pl ++ rowsOf []).length = pn := by simp [rowsOf, HLn.out]
      show Es _ _ _ _ _ _ _ _ _ _ _ (entsL pl []) (pl ++ rowsOf []).length
      rw [e]
      exact hE4)
    (fun x bx W => w4.heap.size ≤ bx ∧ Bk W bx 35 x.2.cells.toArray)
    (fun x bx _ A B' row hs hg hr => ⟨hs.1, bk_from hs.2 hg hr⟩)
    ?assign ?body ?done (fun D cc pre W _ _ h _ => h.elim) (fun D cc pre W _ _ h _ => h.elim)
  case assign =>
    rintro l pre x W K hL hK
    gi_wp2
    have ht : Tn [] W (W.alloc (.cells x.2.cells.toArray 35)) := (Tn.refl _ _).alloc _
    obtain ⟨bx, hbx⟩ : ∃ bx, W.heap.size = bx := ⟨_, rfl⟩
    have kx : Bk (W.alloc (.cells x.2.cells.toArray 35)) bx 35 x.2.cells.toArray := by rw [← hbx]; exact Bk.new _ _ _
    have hle : w4.heap.size ≤ bx := by have := hL.sz; omega
    rw [hbx]
    refine hK bx _ ((keeps_tn ht (by simp)).from _) ⟨fun k hk => ht.block k (by omega) (by simp), ht.block _ (by omega) (by simp)⟩ (hL.still ht) ⟨hle, kx⟩
  case done =>
    rintro D zs W hD rfl hT hK2
    rw [Dl.bw_map, hds] at hT
    have HT : Hid (Es w W w0.heap.size B PP w3.heap.size w4.heap.size ks (fx0 ks row) V row (entsL pl ds) (pl ++ rowsOf ds).length) := hT
    have HDW : Hid (W.heap[D]? = some (.deferred (some []))) := hK2
    have p0 : W.cell? ⟨PP, 0, none⟩ = some (.pointer (some ⟨B, 0, none⟩)) := hT.bx.cell 0
    clear hT hK2
    refine HK.out _ _ (wpAt_of_wp ?_)
    clear HK K
    go_wp2_with fail
    obtain ⟨s, hd, hv, _⟩ := HT.out.dr
    refine (dlist_any hd (by rw [hv]; exact hEn)).mono ?_
    rw [hv]
    rintro e w5 ⟨v5, rfl, ho5, hb5⟩
    have hdl : D < W.heap.size := (Array.getElem?_eq_some_iff.1 HDW.out).1
    have hD5 : w5.heap[D]? = some (.deferred (some [])) := (hb5.block D hdl).trans HDW.out
    have HE : Hid (OwnE w5 w.heap.size v5 (entsL pl ds) ∧ Below w.heap.size w w5) := ⟨ho5.mono HT.out.below.size, HT.out.below.trans (hb5.mono HT.out.below.size)⟩
    clear ho5 hb5 hd hv
    go_wp2
    refine ⟨by simp, .inl ⟨_, _, rfl, run_takeDeferred hD5, ?_⟩⟩
    have hbe : Below w.heap.size w5 (w5.putObj D (.deferred none)) := ⟨rfl, rfl, rfl, by simp, fun k hk => World.putObj_heap_other (by omega)⟩
    refine ⟨v5, results_tmp (fn := Tryz.f120) (t := 4) rfl _ _ _, v5, rfl, ?_, HE.out.2.trans hbe⟩
    have hg : w5.grownBy (w5.putObj D (.deferred none)) (some D) := ⟨rfl, rfl, rfl, by simp, fun k _ hk => World.putObj_heap_other (fun e => hk (by rw [e]))⟩
    refine row_tn HE.out.1 (tn_grown hg) fun k hk hm => ?_
    obtain ⟨o, ho, hc⟩ := row_kind HE.out.1 hk
    simp at hm
    subst hm
    exact dd_ne hD5 ho hc rfl
  case body =>
    rintro l pre x bx W hl2 hT ⟨hbx, kx⟩ hpre
    have hxm := Dl.bw_mem hpre
    have hxds : x.2.d ∈ ds := by
      rw [← hds]
      exact List.mem_reverse.2 (List.mem_map.2 ⟨x.2, List.mem_of_getElem? hxm, rfl⟩)
    have hnrx := hnr _ hxds
    obtain ⟨hkn1, hkn2⟩ := hknown _ hxds
    have hOk : x.2.Ok W := by
      obtain ⟨b, o, -, hc⟩ := HDS.out W hT.below (by have := (List.getElem?_eq_some_iff.1 hxm).1; omega)
      exact (hc _ _ hxm).2
    obtain ⟨xi, ⟨⟨dk, ⟨dek, des, deg, dec⟩, dkey, dpg, ⟨dleaf, dlo, dhi, dr, dl⟩⟩, dp, dn, dc⟩⟩ := x
    simp only at hnrx hkn1 hkn2
    obtain ⟨ds1, hds1⟩ : ∃ ds1 : List De, pre.map (·.2.d) = ds1 := ⟨_, rfl⟩
    have hds2 : (pre ++ [(xi, (⟨⟨dk, ⟨dek, des, deg, dec⟩, dkey, dpg, ⟨dleaf, dlo, dhi, dr, dl⟩⟩, dp, dn, dc⟩ : Dm))]).map (·.2.d) = ds1 ++ [⟨dk, ⟨dek, des, deg, dec⟩, dkey, dpg, ⟨dleaf, dlo, dhi, dr, dl⟩⟩] := by rw [List.map_append, hds1]; rfl
    rw [hds1] at hT
    have hpart : ∃ tl, row = pl ++ rowsOf ds1 ++ dl ++ tl := by
      obtain ⟨tl, htl⟩ := hpre
      refine ⟨rowsOf (tl.map (·.2.d)), ?_⟩
      have h1 : ds = ds1 ++ [⟨dk, ⟨dek, des, deg, dec⟩, dkey, dpg, ⟨dleaf, dlo, dhi, dr, dl⟩⟩] ++ tl.map (·.2.d) := by
        rw [← hds, ← Dl.bw_map, ← htl, List.map_append, hds2]
      rw [← hrow, h1]
      simp [rowsOf]
    have HT : Hid (Es w W w0.heap.size B PP w3.heap.size w4.heap.size ks (fx0 ks row) V row (entsL pl ds1) (pl ++ rowsOf ds1).length) := hT
    have HKX : Hid (Bk W bx 35 #[.int .i64 dk, .string dek, .int .i64 des, .int .i64 deg, .int .i64 dec, .string dkey, .int .i64 dpg, .bool dleaf, .string dlo, .string dhi, .int .i64 dr, .slice dp dn dc]) := kx
    have hdn := hOk.len
    simp only at hdn
    have p0 : W.cell? ⟨PP, 0, none⟩ = some (.pointer (some ⟨B, 0, none⟩)) := hT.bx.cell 0
    have x0 : W.cell? ⟨bx, 0, none⟩ = some (.int .i64 dk) := HKX.out.cell 0
    have x1 : W.cell? ⟨bx, 1, none⟩ = some (.string dek) := HKX.out.cell 1
    have x2 : W.cell? ⟨bx, 2, none⟩ = some (.int .i64 des) := HKX.out.cell 2
    have x3 : W.cell? ⟨bx, 3, none⟩ = some (.int .i64 deg) := HKX.out.cell 3
    have x4 : W.cell? ⟨bx, 4, none⟩ = some (.int .i64 dec) := HKX.out.cell 4
    have x5 : W.cell? ⟨bx, 5, none⟩ = some (.string dkey) := HKX.out.cell 5
    have x11 : W.cell? ⟨bx, 11, none⟩ = some (.slice dp dn dc) := HKX.out.cell 11
    have HFIN : Hid (∀ W', Es w W' w0.heap.size B PP w3.heap.size w4.heap.size ks (fx0 ks row) V row (entsL pl (ds1 ++ [⟨dk, ⟨dek, des, deg, dec⟩, dkey, dpg, ⟨dleaf, dlo, dhi, dr, dl⟩⟩])) (pl ++ rowsOf (ds1 ++ [⟨dk, ⟨dek, des, deg, dec⟩, dkey, dpg, ⟨dleaf, dlo, dhi, dr, dl⟩⟩])).length ∧ Tn (V.bs B) W W' → KeepsFrom w4.heap.size W W' ∧ KpB w.heap.size w3.heap.size W W' ∧ Es w W' w0.heap.size B PP w3.heap.size w4.heap.size ks (fx0 ks row) V row (entsL pl ((pre ++ [(xi, (⟨⟨dk, ⟨dek, des, deg, dec⟩, dkey, dpg, ⟨dleaf, dlo, dhi, dr, dl⟩⟩, dp, dn, dc⟩ : Dm))]).map (·.2.d))) (pl ++ rowsOf ((pre ++ [(xi, (⟨⟨dk, ⟨dek, des, deg, dec⟩, dkey, dpg, ⟨dleaf, dlo, dhi, dr, dl⟩⟩, dp, dn, dc⟩ : Dm))]).map (·.2.d))).length) := by
      rintro W' ⟨h1, h2⟩
      obtain ⟨s, hd, _⟩ := HT.out.dr
      have hbs := hd.bs
      have hsz := HT.out.sz
      refine ⟨(keeps_tn h2 (fun y hy => (hbs y hy).2.2)).from _, ⟨fun k hk => h2.block k (by omega) (fun hm => by have := (hbs k hm).1; omega), h2.block _ (by omega) HT.out.np.2⟩, ?_⟩
      rw [hds2]
      exact h1
    by_cases k1 : dk = 1
    · subst k1
      obtain ⟨s, hd, hv, hc, hr⟩ := HT.out.dr
      have hdl0 : dl = [] := hnrx (by decide)
      gi_wp2_with fail
      refine ⟨trivial, ?_⟩
      refine (CallsIn.inRound l (callsIn_wide.2 (dput_any hd ⟨dek, des, deg, dec⟩ hkn2))).mono ?_
      rintro e W2 ⟨rfl, s', h1, h2, h3, h4, h5⟩
      have HE : Hid (Es w W2 w0.heap.size B PP w3.heap.size w4.heap.size ks (fx0 ks row) V row (entsL pl (ds1 ++ [⟨1, ⟨dek, des, deg, dec⟩, dkey, dpg, ⟨dleaf, dlo, dhi, dr, dl⟩⟩])) (pl ++ rowsOf (ds1 ++ [⟨1, ⟨dek, des, deg, dec⟩, dkey, dpg, ⟨dleaf, dlo, dhi, dr, dl⟩⟩])).length ∧ Tn (V.bs B) W W2) := by
        have el : (pl ++ rowsOf (ds1 ++ [⟨1, ⟨dek, des, deg, dec⟩, dkey, dpg, ⟨dleaf, dlo, dhi, dr, dl⟩⟩])).length = (pl ++ rowsOf ds1).length := by rw [rowsOf_snoc]; simp [hdl0]
        rw [el]
        refine HT.out.step hw0s h1 ?_ (by rw [h3, hc]) (fun a ha => (h5 a (by rw [hc]; exact ha)).trans (hr a ha)) h4
        rw [h2, hv, entsL_snoc]
        rfl
      clear h1 h2 h3 h4 h5 hd hv hc hr
      gi_wp2
      exact HFIN.out _ HE.out
    · by_cases k2 : dk = 2
      · subst k2
        obtain ⟨s, hd, hv, hc, hr⟩ := HT.out.dr
        have hdl0 : dl = [] := hnrx (by decide)
        gi_wp2_with fail
        refine ⟨trivial, ?_⟩
        refine (CallsIn.inRound l (callsIn_wide.2 (dremove_any hd dkey hkn1))).mono ?_
        rintro e W2 ⟨rfl, s', h1, h2, h3, h4, h5⟩
        have HE : Hid (Es w W2 w0.heap.size B PP w3.heap.size w4.heap.size ks (fx0 ks row) V row (entsL pl (ds1 ++ [⟨2, ⟨dek, des, deg, dec⟩, dkey, dpg, ⟨dleaf, dlo, dhi, dr, dl⟩⟩])) (pl ++ rowsOf (ds1 ++ [⟨2, ⟨dek, des, deg, dec⟩, dkey, dpg, ⟨dleaf, dlo, dhi, dr, dl⟩⟩])).length ∧ Tn (V.bs B) W W2) := by
          have el : (pl ++ rowsOf (ds1 ++ [⟨2, ⟨dek, des, deg, dec⟩, dkey, dpg, ⟨dleaf, dlo, dhi, dr, dl⟩⟩])).length = (pl ++ rowsOf ds1).length := by rw [rowsOf_snoc]; simp [hdl0]
          rw [el]
          refine HT.out.step hw0s h1 ?_ (by rw [h3, hc]) (fun a ha => (h5 a (by rw [hc]; exact ha)).trans (hr a ha)) h4
          rw [h2, hv, entsL_snoc]
          rfl
        clear h1 h2 h3 h4 h5 hd hv hc hr
        gi_wp2
        exact HFIN.out _ HE.out
      · by_cases k3 : dk = 3
        · subst k3
          obtain ⟨s, hd, hv, hc, hr⟩ := HT.out.dr
          have hdl0 : dl = [] := hnrx (by decide)
          gi_wp2_with fail
          refine ⟨trivial, ?_⟩
          refine (CallsIn.inRound l (callsIn_wide.2 (dcut_any hd dkey hkn1))).mono ?_
          rintro e W2 ⟨rfl, s', h1, h2, h3, h4, h5⟩
          have HE : Hid (Es w W2 w0.heap.size B PP w3.heap.size w4.heap.size ks (fx0 ks row) V row (entsL pl (ds1 ++ [⟨3, ⟨dek, des, deg, dec⟩, dkey, dpg, ⟨dleaf, dlo, dhi, dr, dl⟩⟩])) (pl ++ rowsOf (ds1 ++ [⟨3, ⟨dek, des, deg, dec⟩, dkey, dpg, ⟨dleaf, dlo, dhi, dr, dl⟩⟩])).length ∧ Tn (V.bs B) W W2) := by
            have el : (pl ++ rowsOf (ds1 ++ [⟨3, ⟨dek, des, deg, dec⟩, dkey, dpg, ⟨dleaf, dlo, dhi, dr, dl⟩⟩])).length = (pl ++ rowsOf ds1).length := by rw [rowsOf_snoc]; simp [hdl0]
            rw [el]
            refine HT.out.step hw0s h1 ?_ (by rw [h3, hc]) (fun a ha => (h5 a (by rw [hc]; exact ha)).trans (hr a ha)) h4
            rw [h2, hv, entsL_snoc]
            rfl
          clear h1 h2 h3 h4 h5 hd hv hc hr
          gi_wp2
          exact HFIN.out _ HE.out
        · by_cases k4 : dk = 4
          · subst k4
            obtain ⟨s, hd, hv, hc, hr⟩ := HT.out.dr
            obtain ⟨tl, htl⟩ := hpart
            have hroom : s.came + dn ≤ (fx0 ks row).R := by
              show s.came + dn ≤ row.length
              rw [hc, htl]
              simp only [List.length_append]
              omega
            gi_wp2_with fail
            refine ⟨trivial, ?_⟩
            refine (CallsIn.inRound l (callsIn_wide.2 (come_any hd dn hroom))).mono ?_
            rintro e W2 ⟨rfl, h1, h4⟩
            have HE : Hid (Es w W2 w0.heap.size B PP w3.heap.size w4.heap.size ks (fx0 ks row) V row (entsL pl (ds1 ++ [⟨4, ⟨dek, des, deg, dec⟩, dkey, dpg, ⟨dleaf, dlo, dhi, dr, dl⟩⟩])) (pl ++ rowsOf (ds1 ++ [⟨4, ⟨dek, des, deg, dec⟩, dkey, dpg, ⟨dleaf, dlo, dhi, dr, dl⟩⟩])).length ∧ Tn (V.bs B) W W2) := by
              have el : (pl ++ rowsOf (ds1 ++ [⟨4, ⟨dek, des, deg, dec⟩, dkey, dpg, ⟨dleaf, dlo, dhi, dr, dl⟩⟩])).length = (pl ++ rowsOf ds1).length + dn := by rw [rowsOf_snoc, ← List.append_assoc, List.length_append]; show _ + dl.length = _; omega
              refine HT.out.step hw0s h1 ?_ (by rw [el]; show s.came + dn = _; rw [hc]) (fun a ha => hr a (by rw [el] at ha; omega)) h4
              rw [comes_view hd.inv dn hroom, hv, entsL_snoc]
              show _ = entsL pl ds1 ++ dl
              congr 1
              apply List.ext_getElem?
              intro j
              by_cases hj : j < dn
              · have hjl : j < dl.length := by omega
                simp only [List.getElem?_map, List.getElem?_range hj, Option.map_some]
                rw [hr _ (by omega), hc, htl, List.getD_eq_getElem?_getD, List.getElem?_append_left (by simp only [List.length_append]; omega), List.getElem?_append_right (by omega), Nat.add_sub_cancel_left, List.getElem?_eq_getElem hjl]
                rfl
              · rw [List.getElem?_eq_none (by simp; omega), List.getElem?_eq_none (by omega)]
            clear h1 h4 hd hv hc hr hroom
            gi_wp2
            exact HFIN.out _ HE.out
          · have hdl0 : dl = [] := hnrx k4
            have HE : Hid (Es w W w0.heap.size B PP w3.heap.size w4.heap.size ks (fx0 ks row) V row (entsL pl (ds1 ++ [⟨dk, ⟨dek, des, deg, dec⟩, dkey, dpg, ⟨dleaf, dlo, dhi, dr, dl⟩⟩])) (pl ++ rowsOf (ds1 ++ [⟨dk, ⟨dek, des, deg, dec⟩, dkey, dpg, ⟨dleaf, dlo, dhi, dr, dl⟩⟩])).length ∧ Tn (V.bs B) W W) := by
              have el : (pl ++ rowsOf (ds1 ++ [⟨dk, ⟨dek, des, deg, dec⟩, dkey, dpg, ⟨dleaf, dlo, dhi, dr, dl⟩⟩])).length = (pl ++ rowsOf ds1).length := by rw [rowsOf_snoc]; simp [hdl0]
              refine ⟨?_, Tn.refl _ _⟩
              rw [el, entsL_snoc]
              have : entS (entsL pl ds1) ⟨dk, ⟨dek, des, deg, dec⟩, dkey, dpg, ⟨dleaf, dlo, dhi, dr, dl⟩⟩ = entsL pl ds1 := by unfold entS; simp [k1, k2, k3, k4]
              rw [this]
              exact HT.out
            clear hdl0 hnrx
            have hF := HFIN.out _ HE.out
            rw [List.length_append] at hF
            have HF : Hid _ := hF
            clear hF
            gi_wp2
            exact HF.out
end Go.Proofs.YtoehlgigidgfpaaGreat

namespace Go.Proofs.YtoehlgigidgfpaaGreat
open Go.RowKit Go.Shelf Go.Sort
attribute [local go_sem] Oper.semAt_some
set_option linter.unusedVariables false
set_option maxRecDepth 100000

namespace Dl
/-- A page without its entries. -/
def hd (g : Pp) : Pp := ⟨g.leaf, g.lo, g.hi, g.r, []⟩
def stp (acc : Pp × Int) (d : De) : Pp × Int := if acc.2 = 0 then (hd (apply acc.1 d).1, (apply acc.1 d).2) else acc
/-- A page by deltas, the oldest one first, but for its entries. -/
def outl (g : Pp) (ds : List De) : Pp × Int := ds.foldl stp (hd g, 0)

theorem outl_snoc (g : Pp) (ds : List De) (d : De) : outl g (ds ++ [d]) = stp (outl g ds) d := by unfold outl; rw [List.foldl_append]; rfl

theorem stp_err (acc : Pp × Int) (ds : List De) (h : acc.2 ≠ 0) : ds.foldl stp acc = acc := by
  induction ds with
  | nil => rfl
  | cons d r ih =>
    rw [List.foldl_cons, show stp acc d = acc by unfold stp; rw [if_neg h]]
    exact ih

theorem outl_err (g : Pp) (pre rest : List De) (h : (outl g pre).2 ≠ 0) : outl g (pre ++ rest) = outl g pre := by
  unfold outl at h ⊢
  rw [List.foldl_append]
  exact stp_err _ _ h

theorem hd_nil (g : Pp) (ds : List De) : (outl g ds).1.l = [] := by
  unfold outl
  have : ∀ (acc : Pp × Int), acc.1.l = [] → (ds.foldl stp acc).1.l = [] := by
    induction ds with
    | nil => exact fun _ h => h
    | cons d r ih =>
      intro acc h
      rw [List.foldl_cons]
      refine ih _ ?_
      unfold stp
      split
      · rfl
      · exact h
  exact this _ rfl
end Dl

theorem Tn.widen {S : List Nat} {X Y : World} (h : Tn [] X Y) : Tn S X Y := ⟨h.os, h.tape, h.output, h.size, fun k hk _ => h.block k hk (by simp)⟩

/-- Between the rounds of outline. -/
structure Ol (w W : World) (B : Nat) (g : Pp) (pre : List (Nat × Dm)) : Prop where
  b1 : Bk W (w.heap.size + 1) 29 zc
  b2 : Bk W (w.heap.size + 1 + 1) 29 (pgc (Dl.outl g (pre.map (·.2.d))).1.leaf (Dl.outl g (pre.map (·.2.d))).1.lo (Dl.outl g (pre.map (·.2.d))).1.hi (Dl.outl g (pre.map (·.2.d))).1.r none 0 0)
  ok : (Dl.outl g (pre.map (·.2.d))).2 = 0
  below : Below w.heap.size w W
  sz : B ≤ W.heap.size

theorem Ol.abides {w W W' : World} {B : Nat} {g : Pp} {pre : List (Nat × Dm)} {row : Option Nat} {k : Nat} (h : Ol w W B g pre) (hm : w.heap.size ≤ k) (hg : W.grownBy W' row) (hr : ∀ r, row = some r → k ≤ r ∧ ∃ o : Obj, W.heap[r]? = some o ∧ o.isCells = false) : Ol w W' B g pre where
  b1 := bk_from h.b1 hg hr
  b2 := bk_from h.b2 hg hr
  ok := h.ok
  below := h.below.grown hg h.below.size (fun k hk => by have := (hr k hk).1; omega)
  sz := Nat.le_trans h.sz hg.size
theorem Ol.still {w W W' : World} {B : Nat} {g : Pp} {pre : List (Nat × Dm)} (h : Ol w W B g pre) (ht : Tn [] W W') : Ol w W' B g pre where
  b1 := h.b1.tn ht (by simp)
  b2 := h.b2.tn ht (by simp)
  ok := h.ok
  below := h.below.trans (ht.below h.below.size (by simp))
  sz := Nat.le_trans h.sz ht.size

set_option maxHeartbeats 4000000 in
theorem outline_any (g : Pp) (pp : Option Addr) (pn pc : Nat) (p : Option Addr) (len cap : Nat) (L : List Dm) (w : World) (hL : L.length = len) (hl : len ≤ 4398046511104) (hD : Des w p L) :
    Calls Tryz.prog 119 #[pgv g.leaf g.lo g.hi g.r pp pn pc, .slice p len cap] w fun e w' =>
      (((Dl.outl g (L.map (·.d)).reverse).2 = 0 ∧ e = .returned (pgv (Dl.outl g (L.map (·.d)).reverse).1.leaf (Dl.outl g (L.map (·.d)).reverse).1.lo (Dl.outl g (L.map (·.d)).reverse).1.hi (Dl.outl g (L.map (·.d)).reverse).1.r none 0 0)) ∨
        ((Dl.outl g (L.map (·.d)).reverse).2 ≠ 0 ∧ e = pan (Dl.outl g (L.map (·.d)).reverse).2)) ∧ Below w.heap.size w w' := by
  refine calls_of_wpAt Tryz.func119 rfl ?_
  simp only [Tryz.ntmps119, List.size_toArray, List.length_cons, List.length_nil, Nat.reduceAdd, Nat.reduceSub, Array.replicate_succ, Array.replicate_zero, List.push_toArray, List.append_toArray, List.nil_append, List.cons_append]
  obtain ⟨out, HOUT⟩ : ∃ out, Hid (Dl.outl g (L.map (·.d)).reverse = out) := ⟨_, rfl⟩
  rw [HOUT.out]
  have HOB : Hid (Dl.outl g ((Dl.bw L).map (·.2.d)) = out) := by rw [Hid, Dl.bw_map]; exact HOUT.out
  have HOE : Hid (∀ pre, pre <+: Dl.bw L → (Dl.outl g (pre.map (·.2.d))).2 ≠ 0 → out = Dl.outl g (pre.map (·.2.d))) := by
    rintro pre ⟨t, ht⟩ h0
    rw [← HOB.out, ← ht, List.map_append]
    exact Dl.outl_err g _ _ h0
  have HD : Hid (Des w p L) := hD
  have HL : Hid (L.length = len) := hL
  clear hD hL HOUT
  obtain ⟨w1, hw1⟩ : ∃ w1, ((w.alloc (.cells (pgc g.leaf g.lo g.hi g.r pp pn pc) 29)).alloc (.cells zc 29)).alloc (.cells (pgc g.leaf g.lo g.hi g.r none 0 0) 29) = w1 := ⟨_, rfl⟩
  have HU1 : Hid (Ol w w1 0 g []) := by
    rw [← hw1]
    exact ⟨(Bk.new1 _ _ _ _).alloc _, Bk.new2 _ _ _ _ _, rfl, (((Below.refl _ _).alloc (Nat.le_refl _) _).alloc (by simp) _).alloc (by simp; omega) _, Nat.zero_le _⟩
  obtain ⟨gf, glo, ghi, gr, gl⟩ := g
  simp only at hw1
  replace hw1 := hw1.symm
  refine wpAt_seq_k fun K hK => wpAt_of_wp ?_
  go_wp2
  refine wpAt_seq_k fun K hK => wpAt_of_wp ?_
  go_wp2
  refine wpAt_seq_k fun K hK => wpAt_of_wp ?_
  go_wp2
  rw [← hw1]
  clear hw1
  refine wpAt_seq_k fun K hK => ?_
  have HK : Hid _ := hK
  clear hK
  refine wpAt_seq_k fun K2 hK2 => wpAt_of_wp ?_
  go_wp2_with fail
  refine (backD_any p len cap w1).mono ?_
  rintro e w2 ⟨rfl, hw2⟩
  have ht2 : Tn [] w1 w2 := by rw [hw2]; exact (Tn.refl _ _).alloc _
  have hU2 : Ol w w2 w2.heap.size ⟨gf, glo, ghi, gr, gl⟩ [] := { HU1.out.still ht2 with sz := Nat.le_refl _ }
  have hs1 : w.heap.size + 1 + 1 < w1.heap.size := HU1.out.b2.lt
  have hk2 : Bk w2 w1.heap.size 64 #[.slice p len cap] := by rw [hw2]; exact Bk.new _ _ _
  have hs2 : w1.heap.size < w2.heap.size := hk2.lt
  have hseq := backD_stops HL.out hl HD.out hk2 (Alike.of_below hU2.below) hU2.below.size
  have HDS : Hid (∀ W, Below w.heap.size w W → Des W p L) := fun W hW => HD.out.below hW (Nat.le_refl _)
  clear hw2 ht2 hk2
  go_wp2
  refine wpAt_block ?_
  refine wpAt_boxed ?A Tryz.func119 (gf := 142) (lb := #[.pointer (some ⟨w1.heap.size, 0, none⟩)]) rfl (enters_of Tryz.func142 (by kernel_rfl) rfl)
    hseq KpB.t (fun W l o o' hl _ _ _ => ⟨fun k hk => World.putObj_heap_other (by have := hU2.below.size; omega), World.putObj_heap_other (by omega)⟩) (Below.refl _ _) (fun _ => rfl)
    (fun pre W => Ol w W w2.heap.size ⟨gf, glo, ghi, gr, gl⟩ pre)
    (fun _ _ _ => False)
    (fun chain pre W => chain = [{ v := .iface 24 (.int .i64 (Dl.outl ⟨gf, glo, ghi, gr, gl⟩ (pre.map (·.2.d))).2), recovered := false }] ∧ (Dl.outl ⟨gf, glo, ghi, gr, gl⟩ (pre.map (·.2.d))).2 ≠ 0 ∧ Below w.heap.size w W)
    (fun s A B' row hs hg hr => hs.abides (k := w2.heap.size) (by omega) hg hr)
    (fun cc s A B row hs hg hr => hs.elim)
    hU2
    (fun x bx W => w2.heap.size ≤ bx ∧ Bk W bx 35 x.2.cells.toArray)
    (fun x bx _ A B' row hs hg hr => ⟨hs.1, bk_from hs.2 hg hr⟩)
    ?assign ?body ?done (fun D cc pre W _ _ h _ => h.elim) ?pan
  case assign =>
    rintro l pre x W K hL hK
    gi_wp2
    have ht : Tn [] W (W.alloc (.cells x.2.cells.toArray 35)) := (Tn.refl _ _).alloc _
    obtain ⟨bx, hbx⟩ : ∃ bx, W.heap.size = bx := ⟨_, rfl⟩
    have kx : Bk (W.alloc (.cells x.2.cells.toArray 35)) bx 35 x.2.cells.toArray := by rw [← hbx]; exact Bk.new _ _ _
    have hle : w2.heap.size ≤ bx := by have := hL.sz; omega
    have hws := hL.below.size
    rw [hbx]
    refine hK bx _ ((keeps_tn ht (by simp)).from _) ⟨fun k hk => ht.block k (by omega) (by simp), ht.block _ (by omega) (by simp)⟩ (hL.still ht) ⟨hle, kx⟩
  case pan =>
    rintro D chain pre W hD hpre ⟨rfl, hk0, hB⟩ hK
    refine ⟨by simp, .inl ⟨_, _, rfl, run_takeDeferred hK, ?_⟩⟩
    have ho := HOE.out pre hpre hk0
    refine ⟨.inr ⟨by rw [ho]; exact hk0, by rw [ho]⟩, hB.trans ⟨rfl, rfl, rfl, by simp, fun k hk => World.putObj_heap_other (by have := hU2.below.size; omega)⟩⟩
  case body =>
    rintro l pre x bx W hl2 hT ⟨hbx, kx⟩ hpre
    have hOk : x.2.Ok W := by
      have hx := Dl.bw_mem hpre
      obtain ⟨b, o, -, hc⟩ := HDS.out W hT.below (by have := (List.getElem?_eq_some_iff.1 hx).1; omega)
      exact (hc _ _ hx).2
    obtain ⟨xi, ⟨⟨dk, ⟨dek, des, deg, dec⟩, dkey, dpg, ⟨dleaf, dlo, dhi, dr, dl⟩⟩, dp, dn, dc⟩⟩ := x
    have HT : Hid (Ol w W w2.heap.size ⟨gf, glo, ghi, gr, gl⟩ pre) := hT
    have hlnil := Dl.hd_nil ⟨gf, glo, ghi, gr, gl⟩ (pre.map (·.2.d))
    have hsn := Dl.outl_snoc ⟨gf, glo, ghi, gr, gl⟩ (pre.map (·.2.d)) ⟨dk, ⟨dek, des, deg, dec⟩, dkey, dpg, ⟨dleaf, dlo, dhi, dr, dl⟩⟩
    have hok := hT.ok
    have hb2 := hT.b2
    obtain ⟨⟨⟨pf, plo, phi, pr, pl⟩, kk⟩, hG⟩ : ∃ o, Dl.outl ⟨gf, glo, ghi, gr, gl⟩ (pre.map (·.2.d)) = o := ⟨_, rfl⟩
    rw [hG] at hlnil hsn hok hb2
    simp only at hlnil hok hb2
    subst hlnil hok
    have hap := applied_any ⟨pf, plo, phi, pr, []⟩ ⟨dk, ⟨dek, des, deg, dec⟩, dkey, dpg, ⟨dleaf, dlo, dhi, dr, dl⟩⟩ none dp 0 0 dn dc W rfl (Ens.nil _ _) (by omega) (fun _ => ⟨rfl, rfl⟩) hOk.len hOk.ens (by have := hOk.room; simp only at this; omega) hOk.nil
    have HSN : Hid (Dl.outl ⟨gf, glo, ghi, gr, gl⟩ ((pre ++ [(xi, (⟨⟨dk, ⟨dek, des, deg, dec⟩, dkey, dpg, ⟨dleaf, dlo, dhi, dr, dl⟩⟩, dp, dn, dc⟩ : Dm))]).map (·.2.d)) = (Dl.hd (Dl.apply ⟨pf, plo, phi, pr, []⟩ ⟨dk, ⟨dek, des, deg, dec⟩, dkey, dpg, ⟨dleaf, dlo, dhi, dr, dl⟩⟩).1, (Dl.apply ⟨pf, plo, phi, pr, []⟩ ⟨dk, ⟨dek, des, deg, dec⟩, dkey, dpg, ⟨dleaf, dlo, dhi, dr, dl⟩⟩).2)) := by
      rw [Hid, List.map_append]
      refine hsn.trans ?_
      unfold Dl.stp
      rw [if_pos rfl]
    obtain ⟨res, hres⟩ : ∃ res, Dl.apply ⟨pf, plo, phi, pr, []⟩ ⟨dk, ⟨dek, des, deg, dec⟩, dkey, dpg, ⟨dleaf, dlo, dhi, dr, dl⟩⟩ = res := ⟨_, rfl⟩
    rw [hres] at hap HSN
    have HAP : Hid _ := hap
    have HB2 : Hid (Bk W (w.heap.size + 1 + 1) 29 #[.bool pf, .string plo, .string phi, .int .i64 pr, .slice none 0 0]) := hb2
    have HKX : Hid (Bk W bx 35 #[.int .i64 dk, .string dek, .int .i64 des, .int .i64 deg, .int .i64 dec, .string dkey, .int .i64 dpg, .bool dleaf, .string dlo, .string dhi, .int .i64 dr, .slice dp dn dc]) := kx
    clear hOk hT hsn hG hap hres hb2 kx
    have a0 : W.cell? ⟨w.heap.size + 1 + 1, 0, none⟩ = some (.bool pf) := HB2.out.cell 0
    have a1 : W.cell? ⟨w.heap.size + 1 + 1, 1, none⟩ = some (.string plo) := HB2.out.cell 1
    have a2 : W.cell? ⟨w.heap.size + 1 + 1, 2, none⟩ = some (.string phi) := HB2.out.cell 2
    have a3 : W.cell? ⟨w.heap.size + 1 + 1, 3, none⟩ = some (.int .i64 pr) := HB2.out.cell 3
    have a4 : W.cell? ⟨w.heap.size + 1 + 1, 4, none⟩ = some (.slice none 0 0) := HB2.out.cell 4
    have x0 : W.cell? ⟨bx, 0, none⟩ = some (.int .i64 dk) := HKX.out.cell 0
    have x1 : W.cell? ⟨bx, 1, none⟩ = some (.string dek) := HKX.out.cell 1
    have x2 : W.cell? ⟨bx, 2, none⟩ = some (.int .i64 des) := HKX.out.cell 2
    have x3 : W.cell? ⟨bx, 3, none⟩ = some (.int .i64 deg) := HKX.out.cell 3
    have x4 : W.cell? ⟨bx, 4, none⟩ = some (.int .i64 dec) := HKX.out.cell 4
    have x5 : W.cell? ⟨bx, 5, none⟩ = some (.string dkey) := HKX.out.cell 5
    have x6 : W.cell? ⟨bx, 6, none⟩ = some (.int .i64 dpg) := HKX.out.cell 6
    have x7 : W.cell? ⟨bx, 7, none⟩ = some (.bool dleaf) := HKX.out.cell 7
    have x8 : W.cell? ⟨bx, 8, none⟩ = some (.string dlo) := HKX.out.cell 8
    have x9 : W.cell? ⟨bx, 9, none⟩ = some (.string dhi) := HKX.out.cell 9
    have x10 : W.cell? ⟨bx, 10, none⟩ = some (.int .i64 dr) := HKX.out.cell 10
    have x11 : W.cell? ⟨bx, 11, none⟩ = some (.slice dp dn dc) := HKX.out.cell 11
    gi_wp2_with fail
    refine ⟨trivial, ?_⟩
    refine (CallsIn.inRound l (callsIn_wide.2 HAP.out)).mono ?_
    rintro e W3 ⟨hdone, hb3⟩
    clear a0 a1 a2 a3 a4
    clear x0 x1 x2 x3 x4 x5 x6 x7 x8 x9 x10 x11
    have hws := HT.out.below.size
    have hsz := HT.out.sz
    have HB3 : Hid (Bk W3 (w.heap.size + 1 + 1) 29 #[.bool pf, .string plo, .string phi, .int .i64 pr, .slice none 0 0]) := HB2.out.below hb3 HB2.out.lt
    have HT3 : Hid (Tn [] W W3) := Tn.of_below hb3 []
    clear hb3
    rcases hdone with ⟨hk0, v3, rfl, hg3⟩ | ⟨hk0, rfl⟩
    · obtain ⟨⟨Gf, Glo, Ghi, Gr, Gl⟩, kk⟩ := res
      simp only at hk0 hg3
      subst hk0
      obtain ⟨Gp, Gc, rfl, -⟩ := hg3.pv
      simp only
      clear hg3
      generalize Gl.length = Gn
      have b0 : W3.cell? ⟨w.heap.size + 1 + 1, 0, none⟩ = some (.bool pf) := HB3.out.cell 0
      have bf0 : W3.frozen? ⟨w.heap.size + 1 + 1, 0, none⟩ = false := HB3.out.frozen 0
      have b1 : W3.cell? ⟨w.heap.size + 1 + 1, 1, none⟩ = some (.string plo) := HB3.out.cell 1
      have bf1 : W3.frozen? ⟨w.heap.size + 1 + 1, 1, none⟩ = false := HB3.out.frozen 1
      have b2 : W3.cell? ⟨w.heap.size + 1 + 1, 2, none⟩ = some (.string phi) := HB3.out.cell 2
      have bf2 : W3.frozen? ⟨w.heap.size + 1 + 1, 2, none⟩ = false := HB3.out.frozen 2
      have b3 : W3.cell? ⟨w.heap.size + 1 + 1, 3, none⟩ = some (.int .i64 pr) := HB3.out.cell 3
      have bf3 : W3.frozen? ⟨w.heap.size + 1 + 1, 3, none⟩ = false := HB3.out.frozen 3
      have b4 : W3.cell? ⟨w.heap.size + 1 + 1, 4, none⟩ = some (.slice none 0 0) := HB3.out.cell 4
      have bf4 : W3.frozen? ⟨w.heap.size + 1 + 1, 4, none⟩ = false := HB3.out.frozen 4
      gi_wp2
      have ht : Tn [w.heap.size + 1 + 1] W _ := (((HT3.out.widen).five (R := w.heap.size + 1 + 1) (.inl (by simp)) (.bool Gf) (.string Glo) (.string Ghi) (.int .i64 Gr) (.slice Gp Gn Gc)).setCell (p := ⟨w.heap.size + 1 + 1, 4, none⟩) (.inl (by simp)) (.slice none 0 0))
      have k2 := (HB3.out.five (.bool Gf) (.string Glo) (.string Ghi) (.int .i64 Gr) (.slice Gp Gn Gc)).set 4 (.slice none 0 0)
      refine ⟨(keeps_tn ht (fun y hy => ?_)).from _, ⟨fun k hk => ht.block k (by omega) (by simp; omega), ht.block _ (by omega) (by simp; omega)⟩, ?_⟩
      · simp only [List.mem_cons, List.not_mem_nil, or_false] at hy
        subst hy
        exact ⟨_, HB2.out, rfl⟩
      · refine ⟨HT.out.b1.tn ht (by simp), ?_, by rw [HSN.out], HT.out.below.trans (ht.below hws (by simp; omega)), Nat.le_trans hsz ht.size⟩
        rw [HSN.out]
        exact k2
    · refine ⟨rfl, (keeps_tn HT3.out (by simp)).from _, ?_, ?_, HT.out.below.trans (HT3.out.below hws (by simp))⟩
      · rw [HSN.out]
      · rw [HSN.out]
        exact hk0
  case done =>
    rintro D zs W hD rfl hT hK
    have HT : Hid (Ol w W w2.heap.size ⟨gf, glo, ghi, gr, gl⟩ (Dl.bw L)) := hT
    have hb2 := hT.b2
    have hok := hT.ok
    rw [HOB.out] at hb2 hok
    obtain ⟨⟨pf, plo, phi, pr, pl⟩, kk⟩ := out
    simp only at hb2 hok
    have HB2 : Hid (Bk W (w.heap.size + 1 + 1) 29 #[.bool pf, .string plo, .string phi, .int .i64 pr, .slice none 0 0]) := hb2
    have HB1 : Hid (Bk W (w.heap.size + 1) 29 #[.bool false, .string ⟨#[]⟩, .string ⟨#[]⟩, .int .i64 0, .slice none 0 0]) := hT.b1
    subst hok
    clear hT hb2
    refine HK.out _ _ (wpAt_of_wp ?_)
    clear HK K
    have a0 : W.cell? ⟨w.heap.size + 1 + 1, 0, none⟩ = some (.bool pf) := HB2.out.cell 0
    have a1 : W.cell? ⟨w.heap.size + 1 + 1, 1, none⟩ = some (.string plo) := HB2.out.cell 1
    have a2 : W.cell? ⟨w.heap.size + 1 + 1, 2, none⟩ = some (.string phi) := HB2.out.cell 2
    have a3 : W.cell? ⟨w.heap.size + 1 + 1, 3, none⟩ = some (.int .i64 pr) := HB2.out.cell 3
    have a4 : W.cell? ⟨w.heap.size + 1 + 1, 4, none⟩ = some (.slice none 0 0) := HB2.out.cell 4
    have b0 : W.cell? ⟨w.heap.size + 1, 0, none⟩ = some (.bool false) := HB1.out.cell 0
    have bf0 : W.frozen? ⟨w.heap.size + 1, 0, none⟩ = false := HB1.out.frozen 0
    have b1 : W.cell? ⟨w.heap.size + 1, 1, none⟩ = some (.string ⟨#[]⟩) := HB1.out.cell 1
    have bf1 : W.frozen? ⟨w.heap.size + 1, 1, none⟩ = false := HB1.out.frozen 1
    have b2 : W.cell? ⟨w.heap.size + 1, 2, none⟩ = some (.string ⟨#[]⟩) := HB1.out.cell 2
    have bf2 : W.frozen? ⟨w.heap.size + 1, 2, none⟩ = false := HB1.out.frozen 2
    have b3 : W.cell? ⟨w.heap.size + 1, 3, none⟩ = some (.int .i64 0) := HB1.out.cell 3
    have bf3 : W.frozen? ⟨w.heap.size + 1, 3, none⟩ = false := HB1.out.frozen 3
    have b4 : W.cell? ⟨w.heap.size + 1, 4, none⟩ = some (.slice none 0 0) := HB1.out.cell 4
    have bf4 : W.frozen? ⟨w.heap.size + 1, 4, none⟩ = false := HB1.out.frozen 4
    go_wp2
    clear a0 a1 a2 a3 a4
    clear b0 bf0 b1 bf1 b2 bf2 b3 bf3 b4 bf4
    have hws := hU2.below.size
    have hne : D ≠ w.heap.size + 1 := by omega
    obtain ⟨we, hwe⟩ : ∃ we, we = put5 W (w.heap.size + 1) (.bool pf) (.string plo) (.string phi) (.int .i64 pr) (.slice none 0 0) := ⟨_, rfl⟩
    have k1 : Bk we (w.heap.size + 1) 29 #[.bool pf, .string plo, .string phi, .int .i64 pr, .slice none 0 0] := by rw [hwe]; exact HB1.out.five _ _ _ _ _
    have ht : Tn [w.heap.size + 1] W we := by rw [hwe]; exact (Tn.refl _ W).five (.inl (by simp)) _ _ _ _ _
    have hKe : we.heap[D]? = some (.deferred (some [])) := (ht.block D (Array.getElem?_eq_some_iff.1 hK).1 (by simp; omega)).trans hK
    unfold put5 at hwe
    rw [← hwe]
    clear hwe
    have k2 : Bk (we.putObj D (.deferred none)) (w.heap.size + 1) 29 #[.bool pf, .string plo, .string phi, .int .i64 pr, .slice none 0 0] := (World.putObj_heap_other (by omega)).trans k1
    refine ⟨by simp, .inl ⟨_, _, rfl, run_takeDeferred hKe, ?_⟩⟩
    refine ⟨_, results_one (T' := 29) (cs := [.bool pf, .string plo, .string phi, .int .i64 pr, .slice none 0 0]) rfl rfl pg_agg pg_size rfl k2, ?_⟩
    exact ⟨rfl, (HT.out.below.trans (ht.below HT.out.below.size (by simp))).trans ⟨rfl, rfl, rfl, by simp, fun k hk => World.putObj_heap_other (by omega)⟩⟩

end Go.Proofs.YtoehlgigidgfpaaGreat

namespace Go.Proofs.YtoehlgigidgfpaaGreat
open Go.RowKit Go.Lib Go.Shelf
set_option linter.unusedVariables false
set_option maxRecDepth 100000

namespace Dl
def ap (acc : Pp × Int) (d : De) : Pp × Int := if acc.2 = 0 then apply acc.1 d else acc
/-- A page by deltas, the oldest one first. -/
def fo (g : Pp) (ds : List De) : Pp × Int := ds.foldl ap (g, 0)

theorem apply_ok {g : Pp} {d : De} (h : (apply g d).2 = 0) : may d = true ∧ d.k ≠ 5 := by
  unfold apply at h
  by_cases hm : may d = true
  · refine ⟨hm, fun h5 => ?_⟩
    rw [if_pos hm] at h
    simp [h5] at h
  · rw [if_neg hm] at h
    simp at h

theorem may_rt {d : De} (h : may d = true) (h4 : d.k ≠ 4) : d.rt.l = [] := by
  unfold may at h
  rw [Bool.and_eq_true] at h
  have h1 := h.1
  unfold same at h1
  simp only [Bool.and_eq_true] at h1
  have h2 := h1.2.2.2.2
  have h3 : (named d).rt.l = [] := by
    unfold named
    simp only [h4, if_false]
    split
    · rfl
    · split
      · rfl
      · split
        · rfl
        · split <;> rfl
  unfold Pg.same at h2
  simp only [Bool.and_eq_true] at h2
  have h6 := h2.2.2.2.2
  rw [h3] at h6
  exact (Pg.eqL_iff _ _).1 h6

theorem hd_put (g : Pp) (e : En) : (hd (Pg.put g e).1, (Pg.put g e).2) = (hd (Pg.put (hd g) e).1, (Pg.put (hd g) e).2) := by
  have : ∀ g : Pp, Pg.put g e = if Ky.inn ⟨g.lo, g.hi⟩ e.key then (⟨g.leaf, g.lo, g.hi, g.r, Pg.putL g.l e⟩, 0) else (Pg.zero, 73) := fun _ => rfl
  by_cases h : Ky.inn ⟨g.lo, g.hi⟩ e.key = true
  · rw [this, this, if_pos h, if_pos (show Ky.inn ⟨(hd g).lo, (hd g).hi⟩ e.key = true from h)]
    rfl
  · rw [this, this, if_neg h, if_neg (show ¬Ky.inn ⟨(hd g).lo, (hd g).hi⟩ e.key = true from h)]
theorem hd_without (g : Pp) (key : ByteArray) : hd (without g key) = hd g := by
  unfold without
  split <;> rfl
theorem hd_apply (g : Pp) (d : De) : (hd (apply g d).1, (apply g d).2) = (hd (apply (hd g) d).1, (apply (hd g) d).2) := by
  by_cases hm : may d = true
  · obtain ⟨k, e, key, pg, rt⟩ := d
    rcases may_kind hm with h1 | h1 | h1 | h1 | h1
    · simp only at h1
      subst h1
      rw [apply_1 hm, apply_1 hm]
      exact hd_put g e
    · simp only at h1
      subst h1
      rw [apply_2 hm, apply_2 hm]
      by_cases h : Ky.inn ⟨g.lo, g.hi⟩ key = true
      · rw [if_pos h, if_pos (show Ky.inn ⟨(hd g).lo, (hd g).hi⟩ key = true from h)]
        simp only [hd_without]
        rfl
      · rw [if_neg h, if_neg (show ¬Ky.inn ⟨(hd g).lo, (hd g).hi⟩ key = true from h)]
    · simp only at h1
      subst h1
      rw [apply_3 hm, apply_3 hm]
      by_cases h : (Ky.lt g.lo key && Ky.inn ⟨g.lo, g.hi⟩ key) = true
      · rw [if_pos h, if_pos (show (Ky.lt (hd g).lo key && Ky.inn ⟨(hd g).lo, (hd g).hi⟩ key) = true from h)]
        rfl
      · rw [if_neg h, if_neg (show ¬(Ky.lt (hd g).lo key && Ky.inn ⟨(hd g).lo, (hd g).hi⟩ key) = true from h)]
    · simp only at h1
      subst h1
      rw [apply_4 hm, apply_4 hm]
      unfold Pg.merge
      by_cases h : Pg.joins g rt = true
      · rw [if_pos h, if_pos (show Pg.joins (hd g) rt = true from h)]
        rfl
      · rw [if_neg h, if_neg (show ¬Pg.joins (hd g) rt = true from h)]
    · simp only at h1
      subst h1
      rw [apply_5 hm, apply_5 hm]
  · rw [apply_not (by simpa using hm), apply_not (by simpa using hm)]

theorem outl_fo (g : Pp) (ds : List De) : outl g ds = (hd (fo g ds).1, (fo g ds).2) := by
  have : ∀ (a b : Pp × Int), a = (hd b.1, b.2) → ds.foldl stp a = (hd (ds.foldl ap b).1, (ds.foldl ap b).2) := by
    induction ds with
    | nil => exact fun a b h => h
    | cons d r ih =>
      intro a b h
      rw [List.foldl_cons, List.foldl_cons]
      refine ih _ _ ?_
      rw [h]
      unfold stp ap
      by_cases h0 : b.2 = 0
      · rw [if_pos h0, if_pos h0]
        exact (hd_apply b.1 d).symm
      · rw [if_neg h0, if_neg h0]
  exact this _ _ rfl

theorem fo_snoc (g : Pp) (ds : List De) (d : De) : fo g (ds ++ [d]) = ap (fo g ds) d := by unfold fo; rw [List.foldl_append]; rfl

theorem fo_zero (g : Pp) (ds : List De) (h : (fo g ds).2 ≠ 0) : (fo g ds).1 = Pg.zero := by
  have : ∀ (a : Pp × Int), (a.2 ≠ 0 → a.1 = Pg.zero) → ((ds.foldl ap a).2 ≠ 0 → (ds.foldl ap a).1 = Pg.zero) := by
    clear h
    induction ds with
    | nil => exact fun a h => h
    | cons d r ih =>
      intro a h0 h1
      rw [List.foldl_cons] at h1 ⊢
      refine ih _ ?_ h1
      unfold ap
      split
      · exact apply_zero _ _
      · exact h0
  exact this _ (by simp) h

theorem apply_l {g : Pp} {d : De} (h : (apply g d).2 = 0) : (apply g d).1.l = entS g.l d := by
  obtain ⟨hm, h5⟩ := apply_ok h
  obtain ⟨k, e, key, pg, rt⟩ := d
  rcases may_kind hm with h1 | h1 | h1 | h1 | h1
  · simp only at h1
    subst h1
    rw [apply_1 hm] at h ⊢
    unfold Pg.put at h ⊢
    split at h
    · rename_i hi
      rw [if_pos hi]; rfl
    · simp at h
  · simp only at h1
    subst h1
    rw [apply_2 hm] at h ⊢
    split at h
    · rename_i hi
      rw [if_pos hi]
      show (without g key).l = Dr.without g.l key
      unfold without Dr.without
      split <;> rfl
    · simp at h
  · simp only at h1
    subst h1
    rw [apply_3 hm] at h ⊢
    split at h
    · rename_i hi
      rw [if_pos hi]; rfl
    · simp at h
  · simp only at h1
    subst h1
    rw [apply_4 hm] at h ⊢
    unfold Pg.merge at h ⊢
    split at h
    · rename_i hi
      rw [if_pos hi]; rfl
    · simp at h
  · exact absurd h1 h5

theorem fo_ok (g : Pp) (ds : List De) (h : (fo g ds).2 = 0) : (fo g ds).1.l = entsL g.l ds ∧ ∀ d ∈ ds, may d = true ∧ d.k ≠ 5 := by
  obtain ⟨n, hn⟩ : ∃ n, ds.length = n := ⟨_, rfl⟩
  induction n generalizing ds with
  | zero =>
    rw [List.eq_nil_of_length_eq_zero hn]
    exact ⟨rfl, by simp⟩
  | succ n ih' =>
    obtain ⟨r, d, rfl⟩ : ∃ r d, ds = r ++ [d] := ⟨ds.dropLast, ds.getLast (by intro h; simp [h] at hn), (List.dropLast_concat_getLast _).symm⟩
    have ih := fun h => ih' r h (by simpa using hn)
    rw [fo_snoc] at h ⊢
    rw [entsL_snoc]
    unfold ap at h ⊢
    by_cases h0 : (fo g r).2 = 0
    · rw [if_pos h0] at h ⊢
      obtain ⟨h1, h2⟩ := ih h0
      refine ⟨by rw [apply_l h, h1], fun x hx => ?_⟩
      rcases List.mem_append.1 hx with hx | hx
      · exact h2 x hx
      · simp at hx
        subst hx
        exact apply_ok h
    · rw [if_neg h0] at h
      exact absurd h h0
end Dl
end Go.Proofs.YtoehlgigidgfpaaGreat

namespace Go.Proofs.YtoehlgigidgfpaaGreat
open Go.RowKit Go.Lib Go.Shelf
set_option linter.unusedVariables false
set_option maxRecDepth 100000

/-- What bounds the deltas that are folded. -/
structure Fit (pl : List En) (ds : List De) : Prop where
  row : (pl ++ rowsOf ds).length ≤ 3518437208782
  texts : (allTexts pl ds).length ≤ 7036874417766
  ents : (entsL pl ds).length ≤ 3518437208783

set_option maxHeartbeats 4000000 in
theorem folded_any (pf : Bool) (plo phi : ByteArray) (pr : Int) (pp : Option Addr) (pn pc : Nat) (pl : List En) (p : Option Addr) (len cap : Nat) (L : List Dm) (w : World) (hlen : pl.length = pn) (hx : Ens w pp pl) (hp : pp = none → pn = 0) (hL : L.length = len) (hll : len ≤ 4398046511104) (hD : Des w p L) (hF : (Dl.fo ⟨pf, plo, phi, pr, pl⟩ (L.map (·.d)).reverse).2 = 0 → Fit pl (L.map (·.d)).reverse) :
    Calls Tryz.prog 101 #[pgv pf plo phi pr pp pn pc, .slice p len cap] w fun e w' => Done w (Dl.fo ⟨pf, plo, phi, pr, pl⟩ (L.map (·.d)).reverse) e w' := by
  have hO := fun (W : World) (h : Below w.heap.size w W) => outline_any ⟨pf, plo, phi, pr, pl⟩ pp pn pc p len cap L W hL hll (hD.below h (Nat.le_refl _))
  rw [Dl.outl_fo] at hO
  have hE := fun (h0 : (Dl.fo ⟨pf, plo, phi, pr, pl⟩ (L.map (·.d)).reverse).2 = 0) (W : World) (h : Below w.heap.size w W) => entries_any pf plo phi pr pp pn pc pl p len cap L W hlen (hx.below h (Nat.le_refl _)) hp hL (hD.below h (Nat.le_refl _)) (hF h0).row (hF h0).texts (hF h0).ents (fun d hd => Dl.may_rt ((Dl.fo_ok _ _ h0).2 d hd).1)
  have hel := fun h0 => (Dl.fo_ok ⟨pf, plo, phi, pr, pl⟩ (L.map (·.d)).reverse h0).1
  revert hO hE hel hF
  generalize Dl.fo ⟨pf, plo, phi, pr, pl⟩ (L.map (·.d)).reverse = out
  generalize entsL pl (L.map (·.d)).reverse = EL
  intro hF hO hE hel
  have HO : Hid _ := hO
  have HE : Hid (out.2 = 0 → ∀ W, Below w.heap.size w W → Calls Tryz.prog 120 #[pgv pf plo phi pr pp pn pc, .slice p len cap] W fun e w' => ∃ v, e = .returned v ∧ OwnE w' W.heap.size v EL ∧ Below W.heap.size W w') := hE
  have HEL : Hid (out.2 = 0 → out.1.l = EL) := hel
  clear hO hE hel hx hD hF hL hlen
  obtain ⟨w0, hw0⟩ : ∃ w0, (w.alloc (.cells #[.bool pf, .string plo, .string phi, .int .i64 pr, .slice pp pn pc] 29)).alloc (.cells #[.bool false, .string ⟨#[]⟩, .string ⟨#[]⟩, .int .i64 0, .slice none 0 0] 29) = w0 := ⟨_, rfl⟩
  have HB0 : Hid (Below w.heap.size w w0) := by rw [← hw0]; exact ((Below.refl _ _).alloc (Nat.le_refl _) _).alloc (by simp) _
  have HK0 : Hid (Bk w0 w.heap.size 29 #[.bool pf, .string plo, .string phi, .int .i64 pr, .slice pp pn pc]) := by rw [← hw0]; exact (Bk.new _ _ _).alloc _
  have HR0 : Hid (Bk w0 (w.heap.size + 1) 29 #[.bool false, .string ⟨#[]⟩, .string ⟨#[]⟩, .int .i64 0, .slice none 0 0]) := by rw [← hw0]; exact Bk.new1 _ _ _ _
  have HS0 : Hid (w.heap.size + 1 < w0.heap.size) := HR0.out.lt
  have a0 : w0.cell? ⟨w.heap.size, 0, none⟩ = some (.bool pf) := HK0.out.cell 0
  have a1 : w0.cell? ⟨w.heap.size, 1, none⟩ = some (.string plo) := HK0.out.cell 1
  have a2 : w0.cell? ⟨w.heap.size, 2, none⟩ = some (.string phi) := HK0.out.cell 2
  have a3 : w0.cell? ⟨w.heap.size, 3, none⟩ = some (.int .i64 pr) := HK0.out.cell 3
  have a4 : w0.cell? ⟨w.heap.size, 4, none⟩ = some (.slice pp pn pc) := HK0.out.cell 4
  go_enter Tryz.func101, Tryz.ntmps101
  go_wp2_with fail
  clear hw0
  refine (HO.out w0 HB0.out).mono ?_
  rintro e w1 ⟨hdone, hb1⟩
  clear a0 a1 a2 a3 a4
  have HB1 : Hid (Below w.heap.size w w1) := HB0.out.trans (hb1.mono HB0.out.size)
  have HK1 : Hid (Bk w1 w.heap.size 29 #[.bool pf, .string plo, .string phi, .int .i64 pr, .slice pp pn pc]) := HK0.out.below hb1 HK0.out.lt
  have HR1 : Hid (Bk w1 (w.heap.size + 1) 29 #[.bool false, .string ⟨#[]⟩, .string ⟨#[]⟩, .int .i64 0, .slice none 0 0]) := HR0.out.below hb1 HR0.out.lt
  clear hb1
  rcases hdone with ⟨hk0, rfl⟩ | ⟨hk0, rfl⟩
  · obtain ⟨⟨Gf, Glo, Ghi, Gr, Gl⟩, kk⟩ := out
    simp only at hk0
    subst hk0
    have hGl : Gl = EL := HEL.out rfl
    subst hGl
    have HE1 := HE.out rfl
    have HE2 : Hid _ := HE1
    clear HE1
    simp only [Dl.hd]
    obtain ⟨w2, hw2⟩ : ∃ w2, w1.alloc (.cells #[.bool Gf, .string Glo, .string Ghi, .int .i64 Gr, .slice none 0 0] 29) = w2 := ⟨_, rfl⟩
    have HB2 : Hid (Below w.heap.size w w2) := by rw [← hw2]; exact HB1.out.alloc HB1.out.size _
    have HK2 : Hid (Bk w2 w.heap.size 29 #[.bool pf, .string plo, .string phi, .int .i64 pr, .slice pp pn pc]) := by rw [← hw2]; exact HK1.out.alloc _
    have HR2 : Hid (Bk w2 (w.heap.size + 1) 29 #[.bool false, .string ⟨#[]⟩, .string ⟨#[]⟩, .int .i64 0, .slice none 0 0]) := by rw [← hw2]; exact HR1.out.alloc _
    have HP2 : Hid (Bk w2 w1.heap.size 29 #[.bool Gf, .string Glo, .string Ghi, .int .i64 Gr, .slice none 0 0]) := by rw [← hw2]; exact Bk.new _ _ _
    have HPP : Hid (w.heap.size + 1 < w1.heap.size) := HR1.out.lt
    have a0 : (w1.alloc (.cells #[.bool Gf, .string Glo, .string Ghi, .int .i64 Gr, .slice none 0 0] 29)).cell? ⟨w.heap.size, 0, none⟩ = some (.bool pf) := (HK1.out.alloc _).cell 0
    have a1 : (w1.alloc (.cells #[.bool Gf, .string Glo, .string Ghi, .int .i64 Gr, .slice none 0 0] 29)).cell? ⟨w.heap.size, 1, none⟩ = some (.string plo) := (HK1.out.alloc _).cell 1
    have a2 : (w1.alloc (.cells #[.bool Gf, .string Glo, .string Ghi, .int .i64 Gr, .slice none 0 0] 29)).cell? ⟨w.heap.size, 2, none⟩ = some (.string phi) := (HK1.out.alloc _).cell 2
    have a3 : (w1.alloc (.cells #[.bool Gf, .string Glo, .string Ghi, .int .i64 Gr, .slice none 0 0] 29)).cell? ⟨w.heap.size, 3, none⟩ = some (.int .i64 pr) := (HK1.out.alloc _).cell 3
    have a4 : (w1.alloc (.cells #[.bool Gf, .string Glo, .string Ghi, .int .i64 Gr, .slice none 0 0] 29)).cell? ⟨w.heap.size, 4, none⟩ = some (.slice pp pn pc) := (HK1.out.alloc _).cell 4
    have hne1 : w.heap.size ≠ w1.heap.size := by have := HPP.out; omega
    replace hw2 := hw2.symm
    go_wp2_with fail
    rw [← hw2]
    generalize w1.heap.size = P at *
    clear hw2
    refine (HE2.out w2 HB2.out).mono ?_
    rintro e w3 ⟨v3, rfl, ho3, hb3⟩
    clear a0 a1 a2 a3 a4
    obtain ⟨q, c, rfl, -⟩ := ho3.ens
    have HO3 : Hid (OwnE w3 w2.heap.size (.slice q Gl.length c) Gl) := ho3
    have HB3 : Hid (Below w.heap.size w w3) := HB2.out.trans (hb3.mono HB2.out.size)
    have HR3 : Hid (Bk w3 (w.heap.size + 1) 29 #[.bool false, .string ⟨#[]⟩, .string ⟨#[]⟩, .int .i64 0, .slice none 0 0]) := HR2.out.below hb3 HR2.out.lt
    have HP3 : Hid (Bk w3 P 29 #[.bool Gf, .string Glo, .string Ghi, .int .i64 Gr, .slice none 0 0]) := HP2.out.below hb3 HP2.out.lt
    have HPS : Hid (P < w2.heap.size) := HP2.out.lt
    clear ho3 hb3
    obtain ⟨Gn, HGn⟩ : ∃ Gn, Hid (Gl.length = Gn) := ⟨_, rfl⟩
    rw [HGn.out] at HO3 ⊢
    have p4 : w3.cell? ⟨P, 4, none⟩ = some (.slice none 0 0) := HP3.out.cell 4
    have pf4 : w3.frozen? ⟨P, 4, none⟩ = false := HP3.out.frozen 4
    have HP4 : Hid (Bk (w3.setCell ⟨P, 4, none⟩ (.slice q Gn c)) P 29 #[.bool Gf, .string Glo, .string Ghi, .int .i64 Gr, .slice q Gn c]) := HP3.out.set 4 _
    have hne : w.heap.size + 1 ≠ P := by have := HPP.out; omega
    have HT4 : Hid (Tn [P] w3 (w3.setCell ⟨P, 4, none⟩ (.slice q Gn c))) := (Tn.refl _ _).setCell (p := ⟨P, 4, none⟩) (.inl (by simp)) _
    have HR4 : Hid (Bk (w3.setCell ⟨P, 4, none⟩ (.slice q Gn c)) (w.heap.size + 1) 29 #[.bool false, .string ⟨#[]⟩, .string ⟨#[]⟩, .int .i64 0, .slice none 0 0]) := HR3.out.tn HT4.out (by simp; exact hne)
    generalize hw4 : w3.setCell ⟨P, 4, none⟩ (.slice q Gn c) = w4 at HP4 HR4 HT4
    have b0 : w4.cell? ⟨P, 0, none⟩ = some (.bool Gf) := HP4.out.cell 0
    have b1 : w4.cell? ⟨P, 1, none⟩ = some (.string Glo) := HP4.out.cell 1
    have b2 : w4.cell? ⟨P, 2, none⟩ = some (.string Ghi) := HP4.out.cell 2
    have b3 : w4.cell? ⟨P, 3, none⟩ = some (.int .i64 Gr) := HP4.out.cell 3
    have b4 : w4.cell? ⟨P, 4, none⟩ = some (.slice q Gn c) := HP4.out.cell 4
    have c0 : w4.cell? ⟨w.heap.size + 1, 0, none⟩ = some (.bool false) := HR4.out.cell 0
    have cf0 : w4.frozen? ⟨w.heap.size + 1, 0, none⟩ = false := HR4.out.frozen 0
    have c1 : w4.cell? ⟨w.heap.size + 1, 1, none⟩ = some (.string ⟨#[]⟩) := HR4.out.cell 1
    have cf1 : w4.frozen? ⟨w.heap.size + 1, 1, none⟩ = false := HR4.out.frozen 1
    have c2 : w4.cell? ⟨w.heap.size + 1, 2, none⟩ = some (.string ⟨#[]⟩) := HR4.out.cell 2
    have cf2 : w4.frozen? ⟨w.heap.size + 1, 2, none⟩ = false := HR4.out.frozen 2
    have c3 : w4.cell? ⟨w.heap.size + 1, 3, none⟩ = some (.int .i64 0) := HR4.out.cell 3
    have cf3 : w4.frozen? ⟨w.heap.size + 1, 3, none⟩ = false := HR4.out.frozen 3
    have c4 : w4.cell? ⟨w.heap.size + 1, 4, none⟩ = some (.slice none 0 0) := HR4.out.cell 4
    have cf4 : w4.frozen? ⟨w.heap.size + 1, 4, none⟩ = false := HR4.out.frozen 4
    go_wp2
    clear b0 b1 b2 b3 b4 c0 cf0 c1 cf1 c2 cf2 c3 cf3 c4 cf4 p4 pf4
    have k1 := HR4.out.five (.bool Gf) (.string Glo) (.string Ghi) (.int .i64 Gr) (.slice q Gn c)
    have ht : Tn [w.heap.size + 1] w4 _ := (Tn.refl _ w4).five (R := w.heap.size + 1) (.inl (by simp)) (.bool Gf) (.string Glo) (.string Ghi) (.int .i64 Gr) (.slice q Gn c)
    refine bodyPost_ret (results_one (T' := 29) (cs := [.bool Gf, .string Glo, .string Ghi, .int .i64 Gr, .slice q Gn c]) rfl rfl pg_agg pg_size rfl k1) rfl ?_
    have h1 := HPP.out
    have h2 := HPS.out
    have h3 := HB3.out.size
    have ho4 := HO3.out.tn HT4.out (by simp; omega)
    have ho5 := ho4.tn ht (by simp; omega)
    have hb4 := HB3.out.trans (HT4.out.below h3 (by simp; omega))
    exact ⟨.inl ⟨rfl, _, rfl, PgAt.own HGn.out (ho5.mono HB2.out.size)⟩, hb4.trans (ht.below hb4.size (by simp))⟩
  · refine ⟨rfl, ?_⟩
    exact ⟨.inr ⟨hk0, rfl⟩, HB1.out⟩

end Go.Proofs.YtoehlgigidgfpaaGreat

namespace Go.Proofs.YtoehlgigidgfpaaGreat
open Go.RowKit Go.Lib Go.Shelf
set_option linter.unusedVariables false
set_option maxRecDepth 100000

set_option maxHeartbeats 2000000 in
theorem fold1_any (pf : Bool) (plo phi : ByteArray) (pr : Int) (pp : Option Addr) (pn pc : Nat) (pl : List En) (p : Option Addr) (len cap : Nat) (L : List Dm) (B C : Nat) (w : World) (hB : Bk w B 29 (pgc pf plo phi pr pp pn pc)) (hC : Bk w C 64 #[.slice p len cap])
    (hlen : pl.length = pn) (hx : Ens w pp pl) (hp : pp = none → pn = 0) (hL : L.length = len) (hll : len ≤ 4398046511104) (hD : Des w p L) (hF : (Dl.fo ⟨pf, plo, phi, pr, pl⟩ (L.map (·.d)).reverse).2 = 0 → Fit pl (L.map (·.d)).reverse) :
    Calls Tryz.prog 100 #[.pointer (some ⟨B, 0, none⟩), .pointer (some ⟨C, 0, none⟩)] w fun e w' => Done w (Dl.fo ⟨pf, plo, phi, pr, pl⟩ (L.map (·.d)).reverse) e w' := by
  have hq := fun (W : World) (h : Below w.heap.size w W) => folded_any pf plo phi pr pp pn pc pl p len cap L W hlen (hx.below h (Nat.le_refl _)) hp hL hll (hD.below h (Nat.le_refl _)) hF
  revert hq hF
  generalize (Dl.fo ⟨pf, plo, phi, pr, pl⟩ (L.map (·.d)).reverse) = out
  intro hF hq
  have HQ : Hid _ := hq
  clear hq hlen hx hL hD hF
  obtain ⟨w0, hw0⟩ : ∃ w0, w.alloc (.cells #[.bool false, .string ⟨#[]⟩, .string ⟨#[]⟩, .int .i64 0, .slice none 0 0] 29) = w0 := ⟨_, rfl⟩
  have HB0 : Hid (Below w.heap.size w w0) := by rw [← hw0]; exact (Below.refl _ _).alloc (Nat.le_refl _) _
  have HK0 : Hid (Bk w0 B 29 #[.bool pf, .string plo, .string phi, .int .i64 pr, .slice pp pn pc]) := by rw [← hw0]; exact hB.alloc _
  have HD0 : Hid (Bk w0 C 64 #[.slice p len cap]) := by rw [← hw0]; exact hC.alloc _
  have HR0 : Hid (Bk w0 w.heap.size 29 #[.bool false, .string ⟨#[]⟩, .string ⟨#[]⟩, .int .i64 0, .slice none 0 0]) := by rw [← hw0]; exact Bk.new _ _ _
  have HS0 : Hid (w.heap.size < w0.heap.size) := HR0.out.lt
  clear hB hC
  have a0 : w0.cell? ⟨B, 0, none⟩ = some (.bool pf) := HK0.out.cell 0
  have a1 : w0.cell? ⟨B, 1, none⟩ = some (.string plo) := HK0.out.cell 1
  have a2 : w0.cell? ⟨B, 2, none⟩ = some (.string phi) := HK0.out.cell 2
  have a3 : w0.cell? ⟨B, 3, none⟩ = some (.int .i64 pr) := HK0.out.cell 3
  have a4 : w0.cell? ⟨B, 4, none⟩ = some (.slice pp pn pc) := HK0.out.cell 4
  have x0 : w0.cell? ⟨C, 0, none⟩ = some (.slice p len cap) := HD0.out.cell 0
  go_enter Tryz.func100, Tryz.ntmps100
  go_wp2_with fail
  clear hw0
  refine (HQ.out _ HB0.out).mono ?_
  rintro e w1 ⟨hdone, hb1⟩
  clear a0 a1 a2 a3 a4
  clear x0
  have HB1 : Hid (Below w.heap.size w w1) := HB0.out.trans (hb1.mono HB0.out.size)
  have HR1 : Hid (Bk w1 w.heap.size 29 #[.bool false, .string ⟨#[]⟩, .string ⟨#[]⟩, .int .i64 0, .slice none 0 0]) := HR0.out.below hb1 HR0.out.lt
  clear hb1
  rcases hdone with ⟨hk0, v3, rfl, hg3⟩ | ⟨hk0, rfl⟩
  · obtain ⟨⟨Gf, Glo, Ghi, Gr, Gl⟩, kk⟩ := out
    simp only at hk0 hg3
    subst hk0
    obtain ⟨Gp, Gc, rfl, hg4⟩ := hg3.pv
    simp only at hg4 ⊢
    obtain ⟨Gn, hGn⟩ : ∃ Gn, Gl.length = Gn := ⟨_, rfl⟩
    rw [hGn] at hg4 ⊢
    have HG3 : Hid (PgAt w1 w0.heap.size (pgv Gf Glo Ghi Gr Gp Gn Gc) ⟨Gf, Glo, Ghi, Gr, Gl⟩) := hg4
    clear hg3 hg4 hGn
    have b0 : w1.cell? ⟨w.heap.size, 0, none⟩ = some (.bool false) := HR1.out.cell 0
    have bf0 : w1.frozen? ⟨w.heap.size, 0, none⟩ = false := HR1.out.frozen 0
    have b1 : w1.cell? ⟨w.heap.size, 1, none⟩ = some (.string ⟨#[]⟩) := HR1.out.cell 1
    have bf1 : w1.frozen? ⟨w.heap.size, 1, none⟩ = false := HR1.out.frozen 1
    have b2 : w1.cell? ⟨w.heap.size, 2, none⟩ = some (.string ⟨#[]⟩) := HR1.out.cell 2
    have bf2 : w1.frozen? ⟨w.heap.size, 2, none⟩ = false := HR1.out.frozen 2
    have b3 : w1.cell? ⟨w.heap.size, 3, none⟩ = some (.int .i64 0) := HR1.out.cell 3
    have bf3 : w1.frozen? ⟨w.heap.size, 3, none⟩ = false := HR1.out.frozen 3
    have b4 : w1.cell? ⟨w.heap.size, 4, none⟩ = some (.slice none 0 0) := HR1.out.cell 4
    have bf4 : w1.frozen? ⟨w.heap.size, 4, none⟩ = false := HR1.out.frozen 4
    go_wp2
    clear b0 bf0 b1 bf1 b2 bf2 b3 bf3 b4 bf4
    have k1 := HR1.out.five (.bool Gf) (.string Glo) (.string Ghi) (.int .i64 Gr) (.slice Gp Gn Gc)
    have ht : Tn [w.heap.size] w1 _ := (Tn.refl _ w1).five (R := w.heap.size) (.inl (by simp)) (.bool Gf) (.string Glo) (.string Ghi) (.int .i64 Gr) (.slice Gp Gn Gc)
    refine bodyPost_ret (results_one (T' := 29) (cs := [.bool Gf, .string Glo, .string Ghi, .int .i64 Gr, .slice Gp Gn Gc]) rfl rfl pg_agg pg_size rfl k1) rfl ?_
    exact ⟨.inl ⟨rfl, _, rfl, (HG3.out.tn ht (by have := HS0.out; simp; omega)).mono HB0.out.size⟩, HB1.out.trans (ht.below HB1.out.size (by simp))⟩
  · refine ⟨rfl, ?_⟩
    exact ⟨.inr ⟨hk0, rfl⟩, HB1.out⟩

set_option maxHeartbeats 2000000 in
theorem fold_any (pf : Bool) (plo phi : ByteArray) (pr : Int) (pp : Option Addr) (pn pc : Nat) (pl : List En) (p : Option Addr) (len cap : Nat) (L : List Dm) (w : World) (hlen : pl.length = pn) (hx : Ens w pp pl) (hp : pp = none → pn = 0) (hL : L.length = len) (hll : len ≤ 4398046511104) (hD : Des w p L) (hF : (Dl.fo ⟨pf, plo, phi, pr, pl⟩ (L.map (·.d)).reverse).2 = 0 → Fit pl (L.map (·.d)).reverse) :
    Calls Tryz.prog 62 #[pgv pf plo phi pr pp pn pc, .slice p len cap] w fun e w' => ∃ v, e = .returned (.tuple #[v, .int .i64 (Dl.fo ⟨pf, plo, phi, pr, pl⟩ (L.map (·.d)).reverse).2]) ∧ PgAt w' w.heap.size v (Dl.fo ⟨pf, plo, phi, pr, pl⟩ (L.map (·.d)).reverse).1 ∧ Below w.heap.size w w' := by
  have hmf : ∀ (fn : Fn) (first cap : Array Value) (w : World), (Instr.makeFunc fn first cap).run Tryz.prog w = .ok (.func fn first cap) w := fun _ _ _ _ => rfl
  have eg : ∀ args w, (callFunc 100 args).run Tryz.prog w = .ok (.enter 100 args) w := enters_of Tryz.func100 (by kernel_rfl) rfl
  obtain ⟨w0, hw0⟩ : ∃ w0, ((w.alloc (.cells (pgc pf plo phi pr pp pn pc) 29)).alloc (.cells #[.slice p len cap] 64)).alloc (.cells #[.bool false, .string ⟨#[]⟩, .string ⟨#[]⟩, .int .i64 0, .slice none 0 0] 29) = w0 := ⟨_, rfl⟩
  have HB0 : Hid (Below w.heap.size w w0) := by rw [← hw0]; exact (((Below.refl _ _).alloc (Nat.le_refl _) _).alloc (by simp) _).alloc (by simp; omega) _
  have HR0 : Hid (Bk w0 (w.heap.size + 1 + 1) 29 #[.bool false, .string ⟨#[]⟩, .string ⟨#[]⟩, .int .i64 0, .slice none 0 0]) := by rw [← hw0]; exact Bk.new2 _ _ _ _ _
  have HS0 : Hid (w.heap.size + 1 + 1 < w0.heap.size) := HR0.out.lt
  have hk0 : Bk w0 w.heap.size 29 (pgc pf plo phi pr pp pn pc) := by rw [← hw0]; exact ((Bk.new _ _ _).alloc _).alloc _
  have hd0 : Bk w0 (w.heap.size + 1) 64 #[.slice p len cap] := by rw [← hw0]; exact (Bk.new1 _ _ _ _).alloc _
  have hbb : Below w.heap.size w ((w0.alloc (.cells zc 29)).alloc (.cells #[.int .i64 0] 24)) := (HB0.out.alloc HB0.out.size _).alloc (by have := HB0.out.size; simp; omega) _
  have hq := fold1_any pf plo phi pr pp pn pc pl p len cap L w.heap.size (w.heap.size + 1) ((w0.alloc (.cells zc 29)).alloc (.cells #[.int .i64 0] 24)) ((hk0.alloc _).alloc _) ((hd0.alloc _).alloc _) hlen (hx.below hbb (Nat.le_refl _)) hp hL hll (hD.below hbb (Nat.le_refl _)) hF
  have hz := Dl.fo_zero ⟨pf, plo, phi, pr, pl⟩ (L.map (·.d)).reverse
  have hcc : Calls Tryz.prog 99 #[.func (.func 100) #[] #[.pointer (some ⟨w.heap.size, 0, none⟩), .pointer (some ⟨w.heap.size + 1, 0, none⟩)]] w0 fun e w' => ∃ v, e = .returned (.tuple #[v, .int .i64 (Dl.fo ⟨pf, plo, phi, pr, pl⟩ (L.map (·.d)).reverse).2]) ∧ PgAt w' w0.heap.size v (Dl.fo ⟨pf, plo, phi, pr, pl⟩ (L.map (·.d)).reverse).1 ∧ Below w0.heap.size w0 w' := by
    by_cases h0 : (Dl.fo ⟨pf, plo, phi, pr, pl⟩ (L.map (·.d)).reverse).2 = 0
    · rw [h0]
      refine caughtP_ok _ _ eg (Dl.fo ⟨pf, plo, phi, pr, pl⟩ (L.map (·.d)).reverse).1 w0 (hq.mono ?_)
      rintro e w' ⟨hdone, hb⟩
      rcases hdone with ⟨-, v, rfl, hg⟩ | ⟨h1, -⟩
      · exact ⟨v, rfl, by simpa using hg, by simpa using hb⟩
      · exact absurd h0 h1
    · rw [hz h0]
      refine (caughtP_err _ _ eg (Dl.fo ⟨pf, plo, phi, pr, pl⟩ (L.map (·.d)).reverse).2 w0 (hq.mono ?_)).mono ?_
      · rintro e w' ⟨hdone, hb⟩
        rcases hdone with ⟨h1, -⟩ | ⟨-, rfl⟩
        · exact absurd h1 h0
        · exact ⟨rfl, by simpa using hb⟩
      · rintro e w' ⟨rfl, hb⟩
        exact ⟨_, rfl, PgAt.zero _ _, hb⟩
  have HQ : Hid _ := hcc
  obtain ⟨⟨⟨Gf, Glo, Ghi, Gr, Gl⟩, kk⟩, HO⟩ : ∃ out : Pp × Int, Hid (Dl.fo ⟨pf, plo, phi, pr, pl⟩ (L.map (·.d)).reverse = out) := ⟨_, rfl⟩
  rw [HO.out] at HQ
  rw [HO.out]
  clear hq hz hcc hlen hx hL hD hF HO hk0 hd0 hbb
  go_enter Tryz.func62, Tryz.ntmps62
  go_wp2_with fail
  clear hw0
  refine Calls.mono HQ.out ?_
  rintro e w1 ⟨v, rfl, hg3, hb1⟩
  obtain ⟨Gp, Gc, rfl, hg4⟩ := hg3.pv
  simp only at hg4 ⊢
  obtain ⟨Gn, hGn⟩ : ∃ Gn, Gl.length = Gn := ⟨_, rfl⟩
  rw [hGn] at hg4 ⊢
  have HG3 : Hid (PgAt w1 w0.heap.size (pgv Gf Glo Ghi Gr Gp Gn Gc) ⟨Gf, Glo, Ghi, Gr, Gl⟩) := hg4
  have HB1 : Hid (Below w.heap.size w w1) := HB0.out.trans (hb1.mono HB0.out.size)
  have HR1 : Hid (Bk w1 (w.heap.size + 1 + 1) 29 #[.bool false, .string ⟨#[]⟩, .string ⟨#[]⟩, .int .i64 0, .slice none 0 0]) := HR0.out.below hb1 HR0.out.lt
  clear hg3 hg4 hb1 hGn
  have b0 : w1.cell? ⟨w.heap.size + 1 + 1, 0, none⟩ = some (.bool false) := HR1.out.cell 0
  have bf0 : w1.frozen? ⟨w.heap.size + 1 + 1, 0, none⟩ = false := HR1.out.frozen 0
  have b1 : w1.cell? ⟨w.heap.size + 1 + 1, 1, none⟩ = some (.string ⟨#[]⟩) := HR1.out.cell 1
  have bf1 : w1.frozen? ⟨w.heap.size + 1 + 1, 1, none⟩ = false := HR1.out.frozen 1
  have b2 : w1.cell? ⟨w.heap.size + 1 + 1, 2, none⟩ = some (.string ⟨#[]⟩) := HR1.out.cell 2
  have bf2 : w1.frozen? ⟨w.heap.size + 1 + 1, 2, none⟩ = false := HR1.out.frozen 2
  have b3 : w1.cell? ⟨w.heap.size + 1 + 1, 3, none⟩ = some (.int .i64 0) := HR1.out.cell 3
  have bf3 : w1.frozen? ⟨w.heap.size + 1 + 1, 3, none⟩ = false := HR1.out.frozen 3
  have b4 : w1.cell? ⟨w.heap.size + 1 + 1, 4, none⟩ = some (.slice none 0 0) := HR1.out.cell 4
  have bf4 : w1.frozen? ⟨w.heap.size + 1 + 1, 4, none⟩ = false := HR1.out.frozen 4
  go_wp2
  clear b0 bf0 b1 bf1 b2 bf2 b3 bf3 b4 bf4
  have k1 := HR1.out.five (.bool Gf) (.string Glo) (.string Ghi) (.int .i64 Gr) (.slice Gp Gn Gc)
  have ht : Tn [w.heap.size + 1 + 1] w1 _ := (Tn.refl _ w1).five (R := w.heap.size + 1 + 1) (.inl (by simp)) (.bool Gf) (.string Glo) (.string Ghi) (.int .i64 Gr) (.slice Gp Gn Gc)
  refine bodyPost_ret (results_two (T' := 29) (cs := [.bool Gf, .string Glo, .string Ghi, .int .i64 Gr, .slice Gp Gn Gc]) rfl rfl pg_agg pg_size rfl k1) rfl ?_
  exact ⟨_, rfl, (HG3.out.tn ht (by have := HS0.out; simp; omega)).mono HB0.out.size, HB1.out.trans (ht.below HB1.out.size (by simp; omega))⟩

end Go.Proofs.YtoehlgigidgfpaaGreat

namespace Go.Proofs.YtoehlgigidgfpaaGreat
open Go.RowKit Go.Shelf
set_option linter.unusedVariables false
set_option linter.unusedSimpArgs false
set_option maxRecDepth 100000
set_option linter.unusedSectionVars false

/-- A row of deltas leads to them. -/
theorem own_des {w : World} {base : Nat} {v : Value} {l : List Dm} (h : Own Dm.cells 12 35 w base v l) (hok : ∀ m ∈ l, m.Ok w) : ∃ p c, v = .slice p l.length c ∧ Des w p l := by
  obtain ⟨p, c, hv, hE, -⟩ := h.els dmK
  refine ⟨p, c, hv, fun hl => ?_⟩
  obtain ⟨b, o, rfl, hc⟩ := hE hl
  exact ⟨b, o, rfl, fun i m hm => ⟨fun t v hv => hc i m hm t v hv, hok m (List.mem_of_getElem? hm)⟩⟩

variable [Inhabited Nod]

/-- A chain's nodes lie in memory. -/
theorem Chs.node {m : Nat} {w : World} {B : Nat} {a : Ar Nod} {lv av : List Nat} (h : Chs m w B a lv av) {s g : Int} {L : List Nod} (hL : ChnN a s g L) : ∀ x ∈ L, NdIn w lv x := by
  intro x hx
  obtain ⟨i, hi⟩ := List.mem_iff_getElem?.1 hx
  obtain ⟨h1, h2⟩ := hL.at hi
  rw [← h2]
  exact h.sits _ (slAt_mem (by have := h1.1; have := h1.2.1; omega))

/-- The page that a chain makes. -/
def ChnN.fo (L : List Nod) (k : Nat) (X : Nod) : Pp × Int := Dl.fo X.P.g ((L.take k).map (·.D.d)).reverse

set_option maxHeartbeats 4000000 in
theorem page_good {m : Nat} {w : World} {B : Nat} {a : Ar Nod} {lv av : List Nat} (h : Chs m w B a lv av) (s g : Int) (L : List Nod) (hL : ChnN a s g L) (hlen : L.length ≤ live a.us) (k : Nat) (hk : L.length = k + 1) (X : Nod) (hX : L[k]? = some X)
    (hF : (ChnN.fo L k X).2 = 0 → Fit X.P.g.l ((L.take k).map (·.D.d)).reverse) :
    Calls Tryz.prog 24 #[.pointer (some ⟨B, 0, none⟩), .agg #[.int .i64 s, .int .i64 g]] w fun e w' => ∃ v, e = .returned (.tuple #[v, .int .i64 (ChnN.fo L k X).2]) ∧ PgAt w' w.heap.size v (ChnN.fo L k X).1 ∧ Tn [] w w' := by
  obtain ⟨w0, hw0⟩ : ∃ w0, (w.alloc (.cells #[.int .i64 s, .int .i64 g] 31)).alloc (.cells #[.bool false, .string ⟨#[]⟩, .string ⟨#[]⟩, .int .i64 0, .slice none 0 0] 29) = w0 := ⟨_, rfl⟩
  have HT0 : Hid (Tn [] w w0) := by rw [← hw0]; exact ((Tn.refl _ _).alloc _).alloc _
  have HA0 : Hid (Bk w0 w.heap.size 31 #[.int .i64 s, .int .i64 g]) := by rw [← hw0]; exact (Bk.new _ _ _).alloc _
  have HR0 : Hid (Bk w0 (w.heap.size + 1) 29 #[.bool false, .string ⟨#[]⟩, .string ⟨#[]⟩, .int .i64 0, .slice none 0 0]) := by rw [← hw0]; exact Bk.new1 _ _ _ _
  have HC : Hid (Chs m w B a lv av) := h
  have hll : live a.us ≤ 65536 := by
    obtain ⟨bs, ⟨uv, fv, fr, -, h1⟩, h2, h3⟩ := h.ar
    have := live_le a.us
    have := h1.le
    have := h1.s2
    omega
  have HLL : Hid (ChnN a s g L ∧ L.length ≤ live a.us ∧ L.length = k + 1 ∧ L[k]? = some X ∧ k + 1 ≤ 65536) := ⟨hL, hlen, hk, hX, by omega⟩
  have HF : Hid ((ChnN.fo L k X).2 = 0 → Fit X.P.g.l ((L.take k).map (·.D.d)).reverse) := hF
  have b0 : w0.cell? ⟨w.heap.size, 0, none⟩ = some (.int .i64 s) := HA0.out.cell 0
  have b1 : w0.cell? ⟨w.heap.size, 1, none⟩ = some (.int .i64 g) := HA0.out.cell 1
  clear h hL hlen hk hX hll hF
  go_enter Tryz.func24, Tryz.ntmps24
  go_wp2_with fail
  refine (take_good (HC.out.quiet HT0.out) s g L HLL.out.1 HLL.out.2.1 k HLL.out.2.2.1 X HLL.out.2.2.2.1).mono ?_
  rintro e w1 ⟨v1, v2, rfl, o1, o2, ht1⟩
  clear hw0
  have HT1 : Hid (Tn [] w w1) := HT0.out.trans ht1 (by simp)
  have HR1 : Hid (Bk w1 (w.heap.size + 1) 29 #[.bool false, .string ⟨#[]⟩, .string ⟨#[]⟩, .int .i64 0, .slice none 0 0]) := HR0.out.tn ht1 (by simp)
  have hnd := (HC.out.quiet HT1.out).node HLL.out.1
  obtain ⟨q2, d2, rfl, hD⟩ := own_des o2 (fun x hx => by
    obtain ⟨y, hy, rfl⟩ := List.mem_map.1 hx
    exact (hnd y (List.mem_of_mem_take hy)).dl)
  have hXi := hnd X (List.mem_of_getElem? HLL.out.2.2.2.1)
  obtain ⟨q1, d1, rfl, -⟩ := o1.els hdK
  have hlk : ((L.take k).map (·.D)).length = k := by rw [List.length_map, List.length_take, HLL.out.2.2.1]; omega
  have hmm : ((L.take k).map (·.D)).map (·.d) = (L.take k).map (·.D.d) := by rw [List.map_map]; rfl
  have HFO : Hid (∀ W, Tn [] w1 W → Calls Tryz.prog 62 #[pgv X.P.g.leaf X.P.g.lo X.P.g.hi X.P.g.r X.P.p X.P.n X.P.c, .slice q2 ((L.take k).map (·.D)).length d2] W fun e w' => ∃ v, e = .returned (.tuple #[v, .int .i64 (ChnN.fo L k X).2]) ∧ PgAt w' W.heap.size v (ChnN.fo L k X).1 ∧ Below W.heap.size W w') := fun W hW => by
    have hb : Below w1.heap.size w1 W := hW.below (Nat.le_refl _) (by simp)
    have := fold_any X.P.g.leaf X.P.g.lo X.P.g.hi X.P.g.r X.P.p X.P.n X.P.c X.P.g.l q2 _ d2 ((L.take k).map (·.D)) W hXi.len (hXi.ens.below hb (Nat.le_refl _)) (fun hp => (hXi.nil hp).1) rfl (by rw [hlk]; have := HLL.out; omega) (hD.below hb (Nat.le_refl _)) (by rw [hmm]; exact HF.out)
    rw [hmm] at this
    exact this
  generalize ((L.take k).map (·.D)).length = n2 at *
  generalize (hdn s g L).length = n1 at *
  clear o1 o2 hD hXi hnd hlk hmm ht1 b0 b1
  generalize hout : ChnN.fo L k X = out at *
  obtain ⟨w2, hw2⟩ : ∃ w2, w1.alloc (.cells #[.slice q1 n1 d1, .slice q2 n2 d2, .bool X.P.g.leaf, .string X.P.g.lo, .string X.P.g.hi, .int .i64 X.P.g.r, .slice X.P.p X.P.n X.P.c] 124) = w2 := ⟨_, rfl⟩
  have HT2 : Hid (Tn [] w1 w2) := by rw [← hw2]; exact (Tn.refl _ _).alloc _
  have HP2 : Hid (Bk w2 w1.heap.size 124 #[.slice q1 n1 d1, .slice q2 n2 d2, .bool X.P.g.leaf, .string X.P.g.lo, .string X.P.g.hi, .int .i64 X.P.g.r, .slice X.P.p X.P.n X.P.c]) := by rw [← hw2]; exact Bk.new _ _ _
  have p1 : w2.cell? ⟨w1.heap.size, 1, none⟩ = some (.slice q2 n2 d2) := HP2.out.cell 1
  have p2 : w2.cell? ⟨w1.heap.size, 2, none⟩ = some (.bool X.P.g.leaf) := HP2.out.cell 2
  have p3 : w2.cell? ⟨w1.heap.size, 3, none⟩ = some (.string X.P.g.lo) := HP2.out.cell 3
  have p4 : w2.cell? ⟨w1.heap.size, 4, none⟩ = some (.string X.P.g.hi) := HP2.out.cell 4
  have p5 : w2.cell? ⟨w1.heap.size, 5, none⟩ = some (.int .i64 X.P.g.r) := HP2.out.cell 5
  have p6 : w2.cell? ⟨w1.heap.size, 6, none⟩ = some (.slice X.P.p X.P.n X.P.c) := HP2.out.cell 6
  go_wp2_with fail
  refine (HFO.out w2 HT2.out).mono ?_
  rintro e w3 ⟨v, rfl, hpg, hb3⟩
  clear p1 p2 p3 p4 p5 p6 hw2
  have HT3 : Hid (Tn [] w w3) := (HT1.out.trans HT2.out (by simp)).trans (Tn.of_below hb3 []) (by simp)
  have hR3 : Bk w3 (w.heap.size + 1) 29 #[.bool false, .string ⟨#[]⟩, .string ⟨#[]⟩, .int .i64 0, .slice none 0 0] := (HR1.out.tn HT2.out (by simp)).tn (Tn.of_below hb3 []) (by simp)
  have HR3 : Hid (Bk w3 (w.heap.size + 1) 29 #[.bool false, .string ⟨#[]⟩, .string ⟨#[]⟩, .int .i64 0, .slice none 0 0]) := hR3
  have HZ : Hid (w.heap.size + 1 < w2.heap.size) := by have := HR1.out.lt; have := HT2.out.size; unfold Hid; omega
  obtain ⟨⟨gf, glo, ghi, gr, gl⟩, er⟩ := out
  obtain ⟨p, c, rfl, hpg⟩ := hpg.pv
  have HPG : Hid (PgAt w3 w2.heap.size (pgv gf glo ghi gr p gl.length c) ⟨gf, glo, ghi, gr, gl⟩) := hpg
  simp only at *
  generalize hgn : gl.length = gn at *
  have x0 : w3.cell? ⟨w.heap.size + 1, 0, none⟩ = some (.bool false) := hR3.cell 0
  have x1 : w3.cell? ⟨w.heap.size + 1, 1, none⟩ = some (.string ⟨#[]⟩) := hR3.cell 1
  have x2 : w3.cell? ⟨w.heap.size + 1, 2, none⟩ = some (.string ⟨#[]⟩) := hR3.cell 2
  have x3 : w3.cell? ⟨w.heap.size + 1, 3, none⟩ = some (.int .i64 0) := hR3.cell 3
  have x4 : w3.cell? ⟨w.heap.size + 1, 4, none⟩ = some (.slice none 0 0) := hR3.cell 4
  have f0 := hR3.frozen 0
  have f1 := hR3.frozen 1
  have f2 := hR3.frozen 2
  have f3 := hR3.frozen 3
  have f4 := hR3.frozen 4
  clear hpg hR3 hb3
  go_wp2
  refine bodyPost_ret (results_two (T' := 29) (cs := [.bool gf, .string glo, .string ghi, .int .i64 gr, .slice p gn c]) rfl rfl pg_agg pg_size rfl (by exact (((((HR3.out.set 0 _).set 1 _).set 2 _).set 3 _).set 4 _))) rfl ?_
  have t4 := (Tn.refl [w.heap.size + 1] w3).five (R := w.heap.size + 1) (.inl (by simp)) (.bool gf) (.string glo) (.string ghi) (.int .i64 gr) (.slice p gn c)
  rw [hout]
  refine ⟨_, rfl, ?_, (HT3.out.mono (by simp)).trans t4 (fun x hx => .inl hx) |>.nil_of (by intro x hx; simp only [List.mem_cons, List.not_mem_nil, or_false] at hx; omega)⟩
  have hz := HZ.out
  have := HPG.out.tn t4 (by simp; omega)
  exact this.mono (by have := HT1.out.size; have := HT2.out.size; omega)
end Go.Proofs.YtoehlgigidgfpaaGreat
