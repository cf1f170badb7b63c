/- Put (the document's). -/
import Derived.Test.YtkmlholjglmfnaaGreatPgRx
import Derived.Test.YtkmlholjglmfnaaGreatPgPu
namespace Go.Proofs.YtkmlholjglmfnaaGreat
open Go.RowKit Go.Sort
set_option linter.unusedVariables false
set_option maxRecDepth 100000

/-- Three appends to a row of the call's own, whatever is made between them. -/
theorem app_one {w0 : World} {B0 : Nat} (hB0 : B0 ≤ w0.heap.size) {l l2 : List En} {p : Option Addr} {m c : Nat} (hm : l2.length = m) (hens : ∀ W, Below w0.heap.size w0 W → Ens W p l2) (hnil : p = none → m = 0 ∧ c = 0) (hb : (l.length + m) * 40 ≤ 140737488355328) :
    ∀ W v, Below w0.heap.size w0 W → OwnE W w0.heap.size v l → ∃ v' W', (Builtin.append_ #[22, 22] 22 #[v, .slice p m c]).run Tryz.prog W = .ok v' W' ∧ OwnE W' w0.heap.size v' (l ++ l2) ∧ Below w0.heap.size w0 W' ∧ (v.ownBlock = none → Below W.heap.size W W') := by
  intro W v hW hv
  obtain ⟨v', W', hr, ho, hg, hk⟩ := run_appE W w0.heap.size 22 v l l2 p m c hm (hens W hW) hnil hv hb hW.size
  exact ⟨v', W', hr, ho, hW.grown hg hW.size (fun k hk => (World.ownsRow.lt hv k hk).1), fun h0 => (Below.refl _ W).grown hg (Nat.le_refl _) (fun k hk => by rw [h0] at hk; cases hk)⟩

theorem app_entry {w0 : World} {l : List En} {e : En} (hb : (l.length + 1) * 40 ≤ 140737488355328) :
    ∀ W v (E : Nat), Below w0.heap.size w0 W → OwnE W w0.heap.size v l → Ens W (some ⟨E, 0, none⟩) [e] → ∃ v' W', (Builtin.append_ #[22, 22] 22 #[v, .slice (some ⟨E, 0, none⟩) 1 1]).run Tryz.prog W = .ok v' W' ∧ OwnE W' w0.heap.size v' (l ++ [e]) ∧ Below w0.heap.size w0 W' := by
  intro W v E hW hv hE
  obtain ⟨v', W', hr, ho, hg, hk⟩ := run_appE W w0.heap.size 22 v l [e] (some ⟨E, 0, none⟩) 1 1 rfl hE (fun h => by cases h) hv hb hW.size
  exact ⟨v', W', hr, ho, hW.grown hg hW.size (fun k hk => (World.ownsRow.lt hv k hk).1)⟩

set_option maxHeartbeats 16000000 in
theorem rput_any (leaf : Bool) (lo hi : ByteArray) (r : Int) (p : Option Addr) (len cap : Nat) (l : List En) (e : En) (w : World) (hlen : l.length = len) (hx : Ens w p l) (hl : len ≤ 3518437208782) (hp : p = none → len = 0 ∧ cap = 0) (hc : len ≤ cap) :
    Calls Tryz.prog 30 #[pgv leaf lo hi r p len cap, e.val] w fun x w' => ∃ v, x = .returned (.tuple #[v, .int .i64 (Pg.put ⟨leaf, lo, hi, r, l⟩ e).2]) ∧ PgAt w' w.heap.size v (Pg.put ⟨leaf, lo, hi, r, l⟩ e).1 ∧ Below w.heap.size w w' := by
  obtain ⟨w0, hw0⟩ : ∃ w0, ((w.alloc (.cells #[.bool leaf, .string lo, .string hi, .int .i64 r, .slice p len cap] 24)).alloc (.cells #[.string e.key, .int .i64 e.s, .int .i64 e.g, .int .i64 e.c] 28)).alloc (.cells zc 24) = w0 := ⟨_, rfl⟩
  have HB0 : Hid (Below w.heap.size w w0) := by rw [← hw0]; exact (((Below.refl _ _).alloc (Nat.le_refl _) _).alloc (by simp) _).alloc (by simp; omega) _
  have HK0 : Hid (Bk w0 w.heap.size 24 #[.bool leaf, .string lo, .string hi, .int .i64 r, .slice p len cap]) := by rw [← hw0]; exact ((Bk.new _ _ _).alloc _).alloc _
  have HE0 : Hid (Bk w0 (w.heap.size + 1) 28 #[.string e.key, .int .i64 e.s, .int .i64 e.g, .int .i64 e.c]) := by rw [← hw0]; exact (Bk.new1 _ _ _ _).alloc _
  have HR0 : Hid (Bk w0 (w.heap.size + 1 + 1) 24 zc) := by rw [← hw0]; exact Bk.new2 _ _ _ _ _
  have HX0 : Hid (Ens w0 p l) := hx.below HB0.out (Nat.le_refl _)
  have HL : Hid (l.length = len) := hlen
  have HP : Hid (p = none → len = 0 ∧ cap = 0) := hp
  clear hx hlen hp
  obtain ⟨out, hout⟩ : ∃ out, Pg.put ⟨leaf, lo, hi, r, l⟩ e = out := ⟨_, rfl⟩
  rw [hout]
  have HO : Hid (out = if Ky.inn ⟨lo, hi⟩ e.key then (⟨leaf, lo, hi, r, Pg.putL l e⟩, 0) else (Pg.zero, 73)) := hout.symm
  clear hout
  have a0 : w0.cell? ⟨w.heap.size, 0, none⟩ = some (.bool leaf) := HK0.out.cell 0
  have a1 : w0.cell? ⟨w.heap.size, 1, none⟩ = some (.string lo) := HK0.out.cell 1
  have a2 : w0.cell? ⟨w.heap.size, 2, none⟩ = some (.string hi) := HK0.out.cell 2
  have a3 : w0.cell? ⟨w.heap.size, 3, none⟩ = some (.int .i64 r) := HK0.out.cell 3
  have a4 : w0.cell? ⟨w.heap.size, 4, none⟩ = some (.slice p len cap) := HK0.out.cell 4
  have k0 : w0.cell? ⟨w.heap.size + 1, 0, none⟩ = some (.string e.key) := HE0.out.cell 0
  go_enter Tryz.func30, Tryz.ntmps30
  go_wp2_with fail
  refine (rhas_any leaf lo hi r p len cap _ e.key).mono ?_
  rintro x w1 ⟨rfl, hb1⟩
  have HB1 : Hid (Below w.heap.size w w1) := HB0.out.trans (hb1.mono HB0.out.size)
  have HK1 : Hid (Bk w1 w.heap.size 24 #[.bool leaf, .string lo, .string hi, .int .i64 r, .slice p len cap]) := HK0.out.below hb1 HK0.out.lt
  have HE1 : Hid (Bk w1 (w.heap.size + 1) 28 #[.string e.key, .int .i64 e.s, .int .i64 e.g, .int .i64 e.c]) := HE0.out.below hb1 HE0.out.lt
  have HR1 : Hid (Bk w1 (w.heap.size + 1 + 1) 24 zc) := HR0.out.below hb1 HR0.out.lt
  have HX1 : Hid (Ens w1 p l) := HX0.out.below hb1 (Nat.le_refl _)
  clear hb1 hw0 a0 a1 a2 a3 a4 k0 HB0 HK0 HE0 HR0 HX0
  cases hinn : Ky.inn ⟨lo, hi⟩ e.key with
  | false =>
    have HQ : Hid (out = (Pg.zero, 73)) := by
      have := HO.out
      rw [hinn] at this
      exact this
    clear hinn HO
    have b0 : w1.cell? ⟨w.heap.size + 1 + 1, 0, none⟩ = some (.bool false) := HR1.out.cell 0
    have f0 : w1.frozen? ⟨w.heap.size + 1 + 1, 0, none⟩ = false := HR1.out.frozen 0
    have b1 : w1.cell? ⟨w.heap.size + 1 + 1, 1, none⟩ = some (.string ⟨#[]⟩) := HR1.out.cell 1
    have f1 : w1.frozen? ⟨w.heap.size + 1 + 1, 1, none⟩ = false := HR1.out.frozen 1
    have b2 : w1.cell? ⟨w.heap.size + 1 + 1, 2, none⟩ = some (.string ⟨#[]⟩) := HR1.out.cell 2
    have f2 : w1.frozen? ⟨w.heap.size + 1 + 1, 2, none⟩ = false := HR1.out.frozen 2
    have b3 : w1.cell? ⟨w.heap.size + 1 + 1, 3, none⟩ = some (.int .i64 0) := HR1.out.cell 3
    have f3 : w1.frozen? ⟨w.heap.size + 1 + 1, 3, none⟩ = false := HR1.out.frozen 3
    have b4 : w1.cell? ⟨w.heap.size + 1 + 1, 4, none⟩ = some (.slice none 0 0) := HR1.out.cell 4
    have f4 : w1.frozen? ⟨w.heap.size + 1 + 1, 4, none⟩ = false := HR1.out.frozen 4
    go_wp2
    obtain ⟨we, hwe⟩ : ∃ we, we = put5 w1 (w.heap.size + 1 + 1) (.bool false) (.string ⟨#[]⟩) (.string ⟨#[]⟩) (.int .i64 0) (.slice none 0 0) := ⟨_, rfl⟩
    have hA : Bk we (w.heap.size + 1 + 1) 24 #[.bool false, .string ⟨#[]⟩, .string ⟨#[]⟩, .int .i64 0, .slice none 0 0] := by rw [hwe]; exact Bk.five HR1.out _ _ _ _ _
    have ht : Tn [w.heap.size + 1 + 1] w1 we := by rw [hwe]; exact (Tn.refl _ _).five (.inl (by simp)) _ _ _ _ _
    unfold put5 at hwe
    rw [← hwe]
    clear hwe
    refine bodyPost_ret (results_two (cs := [.bool false, .string ⟨#[]⟩, .string ⟨#[]⟩, .int .i64 0, .slice none 0 0]) rfl rfl pg_agg pg_size rfl hA) rfl ?_
    rw [HQ.out]
    exact ⟨_, rfl, PgAt.zero _ _, HB1.out.trans (ht.below HB1.out.size (by simp; omega))⟩
  | true =>
    have HO2 : Hid (out = (⟨leaf, lo, hi, r, Pg.putL l e⟩, 0)) := by
      have := HO.out
      rw [hinn] at this
      exact this
    clear hinn HO
    go_wp2_with fail
    go_loopw [6, 7] (fun lv iv wr => ∃ j : Nat, j ≤ len ∧ lv = .slice none 0 0 ∧ iv = .int .i64 j ∧ Hid (j ≤ l.findIdx (Pg.is e.key) ∧ Below w1.heap.size w1 wr)) (fun _ iv _ => len - (intOf iv).toNat)
    case atStart => exact ⟨0, Nat.zero_le _, rfl, rfl, Nat.zero_le _, Below.refl _ _⟩
    case round =>
      obtain ⟨j, hj, rfl, rfl, HF⟩ := hrel
      have a4 : wr.cell? ⟨w.heap.size, 4, none⟩ = some (.slice p len cap) := (HK1.out.below HF.out.2 HK1.out.lt).cell 4
      have k0 : wr.cell? ⟨w.heap.size + 1, 0, none⟩ = some (.string e.key) := (HE1.out.below HF.out.2 HE1.out.lt).cell 0
      by_cases hlt : j < len
      · have hli : (j : Int) < (len : Int) := by omega
        have hj0 : (0 : Int) ≤ (j : Int) := by omega
        obtain ⟨b, o, x, rfl, hgx, -, x0, -, -, -⟩ := (HX1.out.below HF.out.2 (Nat.le_refl _)).at (j := j) (by have := HL.out; omega)
        have HG : Hid (l[j]? = some x) := hgx
        clear hgx
        cases hq : Pg.is e.key x with
        | true =>
          have hqs : (x.key.toList == e.key.toList) = true := hq
          have HQ : Hid (out = (⟨leaf, lo, hi, r, l.take j ++ [e] ++ l.drop (j + 1)⟩, 0)) := by
            have := HO2.out
            unfold Pg.putL at this
            rw [any_hit HG.out hq, findIdx_hit HF.out.1 HG.out hq, if_pos rfl, List.set_eq_take_append_cons_drop, if_pos (by have := HL.out; omega)] at this
            rw [Hid, this]
            simp
          clear hq
          go_wp2_with fail
          go_quiet (fail)
          have HW9 : Hid (Below w1.heap.size w1 (wr.drewN nq)) := below_drewN HF.out.2 nq
          generalize wr.drewN nq = wq at HW9 ⊢
          clear a4 k0 x0 HF HO2
          obtain ⟨a7, ha7⟩ : ∃ a7 : Addr, (if cap = j + 1 then some (⟨b, o, none⟩ : Addr) else some ⟨b, o + (j + 1) * 4, none⟩) = some a7 := by split <;> exact ⟨_, rfl⟩
          have HREST : Hid (∀ W, Below wq.heap.size wq W → Ens W (some a7) (l.drop (j + 1))) := fun W hW => by
            by_cases hlast : len = j + 1
            · rw [List.drop_of_length_le (by have := HL.out; omega)]
              exact Ens.nil _ _
            · rw [if_neg (by omega)] at ha7
              obtain rfl := Option.some.inj ha7
              exact ((HX1.out.below (HW9.out.trans (hW.mono HW9.out.size)) (Nat.le_refl _)).drop (j + 1))
          have E7 : Hid ((if cap = j + 1 then some (⟨b, o, none⟩ : Addr) else some ⟨b, o + (j + 1) * 4, none⟩) = some a7) := ha7
          have e6 : (0 : Int) ≤ (j : Int) + 1 := by omega
          have e1 : (j : Int) ≤ (len : Int) := by omega
          have e2 : (j : Int) ≤ (cap : Int) := by omega
          have e4 : (j : Int) + 1 ≤ (len : Int) := by omega
          clear ha7
          go_wp2_with fail
          have HS : Hid (∀ w', Below wq.heap.size wq w' → w'.cell? ⟨w.heap.size, 4, none⟩ = some (.slice (some ⟨b, o, none⟩) len cap) ∧ w'.cell? ⟨w.heap.size + 1, 0, none⟩ = some (.string e.key) ∧ w'.cell? ⟨w.heap.size + 1, 1, none⟩ = some (.int .i64 e.s) ∧ w'.cell? ⟨w.heap.size + 1, 2, none⟩ = some (.int .i64 e.g) ∧ w'.cell? ⟨w.heap.size + 1, 3, none⟩ = some (.int .i64 e.c)) := fun w' hW => by
            have h1 := HW9.out.trans (hW.mono HW9.out.size)
            have h2 := HK1.out.below h1 HK1.out.lt
            have h3 := HE1.out.below h1 HE1.out.lt
            exact ⟨h2.cell 4, h3.cell 0, h3.cell 1, h3.cell 2, h3.cell 3⟩
          have HA1 : Hid _ := app_one (w0 := wq) (B0 := 0) (Nat.zero_le _) (l := []) (l2 := l.take j) (p := (some ⟨b, o, none⟩)) (m := j) (c := cap) (by rw [List.length_take]; have := HL.out; omega) (fun W' hW' => (HX1.out.below (HW9.out.trans (hW'.mono HW9.out.size)) (Nat.le_refl _)).take j) (fun h => by cases h) (by first | (simp; done) | (simp; omega) | (have := HL.out; simp; omega))
          have HA2 : Hid _ := app_entry (w0 := wq) (l := [] ++ l.take j) (e := e) (by first | (simp; done) | (simp; omega) | (have := HL.out; simp; omega))
          have HA3 : Hid _ := app_one (w0 := wq) (B0 := 0) (Nat.zero_le _) (l := [] ++ l.take j ++ [e]) (l2 := l.drop (j + 1)) (p := (some a7)) (m := (len - (j + 1))) (c := (cap - (j + 1))) (by rw [List.length_drop, HL.out]; try omega) (fun W' hW' => HREST.out W' hW') (fun h => by cases h) (by have := HL.out; first | (simp; done) | (simp; omega))
          have hS := HS.out wq.drew (Below.refl _ _).drew
          have hbD : Below wq.heap.size wq wq.drew := (Below.refl _ _).drew
          refine wp_region_mid (S := (fun w' => w'.cell? ⟨w.heap.size, 4, none⟩ = some (.slice (some ⟨b, o, none⟩) len cap) ∧ w'.cell? ⟨w.heap.size + 1, 0, none⟩ = some (.string e.key) ∧ w'.cell? ⟨w.heap.size + 1, 1, none⟩ = some (.int .i64 e.s) ∧ w'.cell? ⟨w.heap.size + 1, 2, none⟩ = some (.int .i64 e.g) ∧ w'.cell? ⟨w.heap.size + 1, 3, none⟩ = some (.int .i64 e.c))) 15 (by kernel_rfl) ?_
          refine wpAnyM_take (i := 0) [] (oi := { dst := some 31, op := Op.move (Operand.tmp 6), type := 22, pos := _, after := #[], guard := none }) (v := .slice none 0 0) rfl (by kernel_rfl) (by kernel_rfl) (by kernel_rfl) (by kernel_rfl) (fun _ _ _ h => h) (Or.inl ⟨by rfl, ?_⟩) hS ?_
          · (intro w' hSw; obtain ⟨m0, m1, m2, m3, m4⟩ := hSw; go_simp; try with_reducible rfl)
          try simp only [Act.put, List.setIfInBounds_toArray, List.set_cons_zero, List.set_cons_succ]
          refine wpAnyM_take (i := 1) [] (oi := { dst := some 32, op := Op.fieldAddr 24 (Operand.tmp 2) 4, type := 0, pos := _, after := #[], guard := none }) (v := ?_) rfl (by kernel_rfl) (by kernel_rfl) (by kernel_rfl) (by kernel_rfl) (fun _ _ _ h => h) (Or.inl ⟨by rfl, ?_⟩) hS ?_
          rotate_left
          · (intro w' hSw; obtain ⟨m0, m1, m2, m3, m4⟩ := hSw; go_simp; try with_reducible rfl)
          try simp only [Act.put, List.setIfInBounds_toArray, List.set_cons_zero, List.set_cons_succ]
          refine wpAnyM_take (i := 2) [] (oi := { dst := some 33, op := Op.load 22 (Operand.tmp 32), type := 22, pos := _, after := #[{ on := 1, ground := Ground.data }], guard := none }) (v := .slice (some ⟨b, o, none⟩) len cap) rfl (by kernel_rfl) (by kernel_rfl) (by kernel_rfl) (by kernel_rfl) (fun _ _ _ h => h) (Or.inl ⟨by rfl, ?_⟩) hS ?_
          · (intro w' hSw; obtain ⟨m0, m1, m2, m3, m4⟩ := hSw; go_simp; try with_reducible rfl)
          try simp only [Act.put, List.setIfInBounds_toArray, List.set_cons_zero, List.set_cons_succ]
          refine wpAnyM_take (i := 3) [] (oi := { dst := some 34, op := Op.move (Operand.tmp 7), type := 3, pos := _, after := #[], guard := none }) (v := .int .i64 (j : Int)) rfl (by kernel_rfl) (by kernel_rfl) (by kernel_rfl) (by kernel_rfl) (fun _ _ _ h => h) (Or.inl ⟨by rfl, ?_⟩) hS ?_
          · (intro w' hSw; obtain ⟨m0, m1, m2, m3, m4⟩ := hSw; go_simp; try with_reducible rfl)
          try simp only [Act.put, List.setIfInBounds_toArray, List.set_cons_zero, List.set_cons_succ]
          refine wpAnyM_take (i := 4) [] (oi := { dst := some 35, op := Op.slice 22 (Operand.tmp 33) none (some (Operand.tmp 34)) none, type := 22, pos := _, after := #[{ on := 2, ground := Ground.data }, { on := 3, ground := Ground.data }], guard := none }) (v := .slice (some ⟨b, o, none⟩) j cap) rfl (by kernel_rfl) (by kernel_rfl) (by kernel_rfl) (by kernel_rfl) (fun _ _ _ h => h) (Or.inl ⟨by rfl, ?_⟩) hS ?_
          · (intro w' hSw; obtain ⟨m0, m1, m2, m3, m4⟩ := hSw; go_simp; try with_reducible rfl)
          try simp only [Act.put, List.setIfInBounds_toArray, List.set_cons_zero, List.set_cons_succ]
          refine wpAnyM_take (i := 6) [] (oi := { dst := some 37, op := Op.load 28 (Operand.tmp 3), type := 28, pos := _, after := #[], guard := none }) (v := .agg #[.string e.key, .int .i64 e.s, .int .i64 e.g, .int .i64 e.c]) rfl (by kernel_rfl) (by kernel_rfl) (by kernel_rfl) (by kernel_rfl) (fun _ _ _ h => h) (Or.inl ⟨by rfl, ?_⟩) hS ?_
          · (intro w' hSw; obtain ⟨m0, m1, m2, m3, m4⟩ := hSw; go_simp; try with_reducible rfl)
          try simp only [Act.put, List.setIfInBounds_toArray, List.set_cons_zero, List.set_cons_succ]
          refine wpAnyM_take (i := 9) [] (oi := { dst := some 40, op := Op.fieldAddr 24 (Operand.tmp 2) 4, type := 0, pos := _, after := #[], guard := none }) (v := ?_) rfl (by kernel_rfl) (by kernel_rfl) (by kernel_rfl) (by kernel_rfl) (fun _ _ _ h => h) (Or.inl ⟨by rfl, ?_⟩) hS ?_
          rotate_left
          · (intro w' hSw; obtain ⟨m0, m1, m2, m3, m4⟩ := hSw; go_simp; try with_reducible rfl)
          try simp only [Act.put, List.setIfInBounds_toArray, List.set_cons_zero, List.set_cons_succ]
          refine wpAnyM_take (i := 10) [] (oi := { dst := some 41, op := Op.load 22 (Operand.tmp 40), type := 22, pos := _, after := #[{ on := 9, ground := Ground.data }], guard := none }) (v := .slice (some ⟨b, o, none⟩) len cap) rfl (by kernel_rfl) (by kernel_rfl) (by kernel_rfl) (by kernel_rfl) (fun _ _ _ h => h) (Or.inl ⟨by rfl, ?_⟩) hS ?_
          · (intro w' hSw; obtain ⟨m0, m1, m2, m3, m4⟩ := hSw; go_simp; try with_reducible rfl)
          try simp only [Act.put, List.setIfInBounds_toArray, List.set_cons_zero, List.set_cons_succ]
          refine wpAnyM_take (i := 11) [] (oi := { dst := some 42, op := Op.move (Operand.tmp 7), type := 3, pos := _, after := #[], guard := none }) (v := .int .i64 (j : Int)) rfl (by kernel_rfl) (by kernel_rfl) (by kernel_rfl) (by kernel_rfl) (fun _ _ _ h => h) (Or.inl ⟨by rfl, ?_⟩) hS ?_
          · (intro w' hSw; obtain ⟨m0, m1, m2, m3, m4⟩ := hSw; go_simp; try with_reducible rfl)
          try simp only [Act.put, List.setIfInBounds_toArray, List.set_cons_zero, List.set_cons_succ]
          refine wpAnyM_take (i := 12) [] (oi := { dst := some 43, op := Op.binOp BinOp.add 3 (Operand.tmp 42) (Operand.const (Value.int IntKind.i64 1)) 3, type := 3, pos := _, after := #[{ on := 11, ground := Ground.data }], guard := none }) (v := .int .i64 ((j : Int) + 1)) rfl (by kernel_rfl) (by kernel_rfl) (by kernel_rfl) (by kernel_rfl) (fun _ _ _ h => h) (Or.inl ⟨by rfl, ?_⟩) hS ?_
          · (intro w' hSw; obtain ⟨m0, m1, m2, m3, m4⟩ := hSw; go_simp; exact wrap_id9 (by omega))
          try simp only [Act.put, List.setIfInBounds_toArray, List.set_cons_zero, List.set_cons_succ]
          refine wpAnyM_take (i := 13) [] (oi := { dst := some 44, op := Op.slice 22 (Operand.tmp 41) (some (Operand.tmp 43)) none none, type := 22, pos := _, after := #[{ on := 10, ground := Ground.data }, { on := 12, ground := Ground.data }], guard := none }) (v := .slice (some a7) (len - (j + 1)) (cap - (j + 1))) rfl (by kernel_rfl) (by kernel_rfl) (by kernel_rfl) (by kernel_rfl) (fun _ _ _ h => h) (Or.inl ⟨by rfl, ?_⟩) hS ?_
          · (intro w' hSw; obtain ⟨m0, m1, m2, m3, m4⟩ := hSw; go_simp; exact E7.out)
          try simp only [Act.put, List.setIfInBounds_toArray, List.set_cons_zero, List.set_cons_succ]
          refine wpAnyM_ready (rs := [5, 7]) (by kernel_rfl) (by simp) ?_
          refine AllReadyM.cons (o := { dst := some 36, op := Op.call { callee := Callee.builtin Builtin.append, args := #[Operand.tmp 31, Operand.tmp 35], argTypes := #[22, 22] }, type := 22, pos := _, after := #[{ on := 0, ground := Ground.data }, { on := 4, ground := Ground.data }], guard := none }) rfl (fun K hK => ?_) (AllReadyM.cons (o := { dst := some 38, op := Op.buildSlice 22 1 #[(0, Operand.tmp 37)], type := 22, pos := _, after := #[{ on := 6, ground := Ground.data }], guard := none }) rfl (fun K hK => ?_) AllReadyM.nil)
          · have HK9' : Hid (∀ a w, _ → K a w) := hK
            clear hK
            obtain ⟨v1, w6, hr1, ho1, hb6, -⟩ := HA1.out _ (.slice none 0 0) hbD (OwnE.nil _ _)
            refine step_appR rfl _ _ _ rfl _ _ rfl rfl hr1 ?_
            refine HK9'.out _ _ ⟨fun _ => HS.out _ hb6, ?_⟩
            clear HK9' K
            try simp only [Act.put, List.setIfInBounds_toArray, List.set_cons_zero, List.set_cons_succ]
            refine wpAnyM_ready (rs := [7]) (by kernel_rfl) (by simp) ?_
            refine AllReadyM.cons (o := { dst := some 38, op := Op.buildSlice 22 1 #[(0, Operand.tmp 37)], type := 22, pos := _, after := #[{ on := 6, ground := Ground.data }], guard := none }) rfl (fun K hK => ?_) AllReadyM.nil
            have HK9 : Hid (∀ a w, _ → K a w) := hK
            clear hK
            go_simp
            have hb6' : Below wq.heap.size wq (w6.alloc (.cells #[.string e.key, .int .i64 e.s, .int .i64 e.g, .int .i64 e.c] 28)) := hb6.alloc hb6.size _
            refine HK9.out _ _ ⟨fun _ => HS.out _ hb6', ?_⟩
            clear HK9 K
            try simp only [Act.put, List.setIfInBounds_toArray, List.set_cons_zero, List.set_cons_succ]
            have ho1' := ho1.below ((Below.refl _ w6).alloc (Nat.le_refl _) (.cells #[.string e.key, .int .i64 e.s, .int .i64 e.g, .int .i64 e.c] 28)) (Nat.le_refl _)
            refine wpAnyM_ready (rs := [8]) (by kernel_rfl) (by simp) ?_
            refine AllReadyM.cons (o := { dst := some 39, op := Op.call { callee := Callee.builtin Builtin.append, args := #[Operand.tmp 36, Operand.tmp 38], argTypes := #[22, 22] }, type := 22, pos := _, after := #[{ on := 5, ground := Ground.data }, { on := 7, ground := Ground.data }, { on := 5, ground := Ground.chain }], guard := none }) rfl (fun K hK => ?_) AllReadyM.nil
            have HK9 : Hid (∀ a w, _ → K a w) := hK
            clear hK
            obtain ⟨v2, w7, hr2, ho2, hb7⟩ := HA2.out _ v1 w6.heap.size hb6' ho1' (ens_one w6 e)
            refine step_appR rfl _ _ _ rfl _ _ rfl (by go_simp) hr2 ?_
            refine HK9.out _ _ ⟨fun _ => HS.out _ hb7, ?_⟩
            clear HK9 K
            try simp only [Act.put, List.setIfInBounds_toArray, List.set_cons_zero, List.set_cons_succ]
            refine wpAnyM_ready (rs := [14]) (by kernel_rfl) (by simp) ?_
            refine AllReadyM.cons (o := { dst := some 45, op := Op.call { callee := Callee.builtin Builtin.append, args := #[Operand.tmp 39, Operand.tmp 44], argTypes := #[22, 22] }, type := 22, pos := _, after := #[{ on := 8, ground := Ground.data }, { on := 13, ground := Ground.data }, { on := 8, ground := Ground.chain }], guard := none }) rfl (fun K hK => ?_) AllReadyM.nil
            have HK9 : Hid (∀ a w, _ → K a w) := hK
            clear hK
            obtain ⟨v3, w8, hr3, ho3, hb8, -⟩ := HA3.out _ v2 hb7 ho2
            refine step_appR rfl _ _ _ rfl _ _ rfl rfl hr3 ?_
            refine HK9.out _ _ ⟨fun _ => HS.out _ hb8, ?_⟩
            clear HK9 K
            try simp only [Act.put, List.setIfInBounds_toArray, List.set_cons_zero, List.set_cons_succ]
            obtain ⟨q9, c9, hv9, -, -⟩ := ho3.ens
            subst hv9
            have HO8 : Hid (OwnE w8 wq.heap.size (.slice q9 ([] ++ l.take j ++ [e] ++ l.drop (j + 1)).length c9) ([] ++ l.take j ++ [e] ++ l.drop (j + 1))) := ho3
            have hln : ([] ++ l.take j ++ [e] ++ l.drop (j + 1)).length = len := by have := HL.out; first | (simp; done) | (simp; omega) | (simp [List.eq_nil_of_length_eq_zero HL.out])
            rw [hln] at HO8
            rw [hln]
            clear hln
            have HB8 : Hid (Below w1.heap.size w1 w8) := HW9.out.trans (hb8.mono HW9.out.size)
            have hk8 := HK1.out.below HB8.out HK1.out.lt
            have hz8 := HR1.out.below HB8.out HR1.out.lt
            have a4' : w8.cell? ⟨w.heap.size, 4, none⟩ = some (.slice (some ⟨b, o, none⟩) len cap) := hk8.cell 4
            have z4' : w8.frozen? ⟨w.heap.size, 4, none⟩ = false := hk8.frozen 4
            refine wpAnyM_ready (rs := [15]) (by kernel_rfl) (by simp) ?_
            refine AllReadyM.cons (o := { dst := some 6, op := Op.assign (Operand.tmp 45), type := 22, pos := _, after := #[{ on := 14, ground := Ground.data }, { on := 14, ground := Ground.chain }, { on := 0, ground := Ground.phase }, { on := 1, ground := Ground.phase }, { on := 2, ground := Ground.phase }, { on := 3, ground := Ground.phase }, { on := 4, ground := Ground.phase }, { on := 5, ground := Ground.phase }, { on := 6, ground := Ground.phase }, { on := 7, ground := Ground.phase }, { on := 8, ground := Ground.phase }, { on := 9, ground := Ground.phase }, { on := 10, ground := Ground.phase }, { on := 11, ground := Ground.phase }, { on := 12, ground := Ground.phase }, { on := 13, ground := Ground.phase }, { on := 14, ground := Ground.phase }], guard := none }) rfl (fun K hK => ?_) AllReadyM.nil
            have HK9 : Hid (∀ a w, _ → K a w) := hK
            clear hK
            go_simp
            refine HK9.out _ _ ⟨fun h => absurd h (by omega), ?_⟩
            clear HK9 K
            try simp only [Act.put, List.setIfInBounds_toArray, List.set_cons_zero, List.set_cons_succ]
            refine wpAnyM_done (by kernel_rfl) ?_ _
            obtain ⟨w9, hw9⟩ : ∃ w9, w8.setCell ⟨w.heap.size, 4, none⟩ (.slice q9 len c9) = w9 := ⟨_, rfl⟩
            have hk9 : Bk w9 w.heap.size 24 #[.bool leaf, .string lo, .string hi, .int .i64 r, .slice q9 len c9] := by rw [← hw9]; exact hk8.set 4 _
            have hr9 : Bk w9 (w.heap.size + 1 + 1) 24 zc := by rw [← hw9]; exact hz8.other (by simp; omega) _
            have ht9 : Tn [w.heap.size] w8 w9 := by rw [← hw9]; exact (Tn.refl _ _).setCell (.inl (by simp)) _
            clear hS
            have a0 : w9.cell? ⟨w.heap.size, 0, none⟩ = some (.bool leaf) := hk9.cell 0
            have a1 : w9.cell? ⟨w.heap.size, 1, none⟩ = some (.string lo) := hk9.cell 1
            have a2 : w9.cell? ⟨w.heap.size, 2, none⟩ = some (.string hi) := hk9.cell 2
            have a3 : w9.cell? ⟨w.heap.size, 3, none⟩ = some (.int .i64 r) := hk9.cell 3
            have a4 : w9.cell? ⟨w.heap.size, 4, none⟩ = some (.slice q9 len c9) := hk9.cell 4
            have b0 : w9.cell? ⟨w.heap.size + 1 + 1, 0, none⟩ = some (.bool false) := hr9.cell 0
            have f0 : w9.frozen? ⟨w.heap.size + 1 + 1, 0, none⟩ = false := hr9.frozen 0
            have b1 : w9.cell? ⟨w.heap.size + 1 + 1, 1, none⟩ = some (.string ⟨#[]⟩) := hr9.cell 1
            have f1 : w9.frozen? ⟨w.heap.size + 1 + 1, 1, none⟩ = false := hr9.frozen 1
            have b2 : w9.cell? ⟨w.heap.size + 1 + 1, 2, none⟩ = some (.string ⟨#[]⟩) := hr9.cell 2
            have f2 : w9.frozen? ⟨w.heap.size + 1 + 1, 2, none⟩ = false := hr9.frozen 2
            have b3 : w9.cell? ⟨w.heap.size + 1 + 1, 3, none⟩ = some (.int .i64 0) := hr9.cell 3
            have f3 : w9.frozen? ⟨w.heap.size + 1 + 1, 3, none⟩ = false := hr9.frozen 3
            have b4 : w9.cell? ⟨w.heap.size + 1 + 1, 4, none⟩ = some (.slice none 0 0) := hr9.cell 4
            have f4 : w9.frozen? ⟨w.heap.size + 1 + 1, 4, none⟩ = false := hr9.frozen 4
            have HR9 : Hid (Bk w9 (w.heap.size + 1 + 1) 24 zc) := hr9
            have HT9 : Hid (Tn [w.heap.size] w8 w9) := ht9
            clear hk9 hr9 ht9
            go_wp2
            obtain ⟨we, hwe⟩ : ∃ we, we = put5 w9 (w.heap.size + 1 + 1) (.bool leaf) (.string lo) (.string hi) (.int .i64 r) (.slice q9 len c9) := ⟨_, rfl⟩
            have hA : Bk we (w.heap.size + 1 + 1) 24 #[.bool leaf, .string lo, .string hi, .int .i64 r, .slice q9 len c9] := by rw [hwe]; exact Bk.five HR9.out _ _ _ _ _
            have ht : Tn [w.heap.size + 1 + 1] w9 we := by rw [hwe]; exact (Tn.refl _ _).five (.inl (by simp)) _ _ _ _ _
            unfold put5 at hwe
            rw [← hwe]
            clear hwe
            refine bodyPost_ret (results_two (cs := [.bool leaf, .string lo, .string hi, .int .i64 r, .slice q9 len c9]) rfl rfl pg_agg pg_size rfl hA) rfl ?_
            rw [HQ.out]
            have hs0 := HR1.out.lt
            have t8 : Tn [w.heap.size, w.heap.size + 1 + 1] w8 we := (HT9.out.mono (by simp)).trans ht (by simp)
            have hB8 := HB1.out.trans (HB8.out.mono HB1.out.size)
            have hsw := HW9.out.size
            have hdl : (l.take j ++ [e] ++ l.drop (j + 1)).length = len := by have := HL.out; first | (simp; done) | (simp; omega) | (simp [List.eq_nil_of_length_eq_zero HL.out])
            refine ⟨_, rfl, ⟨q9, c9, by simp only [hdl], ?_⟩, hB8.trans (t8.below hB8.size (by simp; omega))⟩
            simp only [hdl]
            have hsg := (HO8.out.seg).tn t8 (by intro y hy; simp at hy; omega)
            have hsb := HB1.out.size
            exact (show Seg we wq.heap.size q9 (len) c9 (l.take j ++ [e] ++ l.drop (j + 1)) by simpa using hsg).mono (by omega)
          · have HK9' : Hid (∀ a w, _ → K a w) := hK
            clear hK
            go_simp
            have hbE : Below wq.heap.size wq (wq.drew.alloc (.cells #[.string e.key, .int .i64 e.s, .int .i64 e.g, .int .i64 e.c] 28)) := hbD.alloc (Nat.le_refl _) _
            refine HK9'.out _ _ ⟨fun _ => HS.out _ hbE, ?_⟩
            clear HK9' K
            try simp only [Act.put, List.setIfInBounds_toArray, List.set_cons_zero, List.set_cons_succ]
            refine wpAnyM_ready (rs := [5]) (by kernel_rfl) (by simp) ?_
            refine AllReadyM.cons (o := { dst := some 36, op := Op.call { callee := Callee.builtin Builtin.append, args := #[Operand.tmp 31, Operand.tmp 35], argTypes := #[22, 22] }, type := 22, pos := _, after := #[{ on := 0, ground := Ground.data }, { on := 4, ground := Ground.data }], guard := none }) rfl (fun K hK => ?_) AllReadyM.nil
            have HK9 : Hid (∀ a w, _ → K a w) := hK
            clear hK
            obtain ⟨v1, w6, hr1, ho1, hb6, hb6E⟩ := HA1.out _ (.slice none 0 0) hbE (OwnE.nil _ _)
            refine step_appR rfl _ _ _ rfl _ _ rfl rfl hr1 ?_
            refine HK9.out _ _ ⟨fun _ => HS.out _ hb6, ?_⟩
            clear HK9 K
            try simp only [Act.put, List.setIfInBounds_toArray, List.set_cons_zero, List.set_cons_succ]
            have hent : Ens w6 (some ⟨wq.heap.size, 0, none⟩) [e] := (ens_one wq.drew e).below (hb6E rfl) (Nat.le_refl _)
            refine wpAnyM_ready (rs := [8]) (by kernel_rfl) (by simp) ?_
            refine AllReadyM.cons (o := { dst := some 39, op := Op.call { callee := Callee.builtin Builtin.append, args := #[Operand.tmp 36, Operand.tmp 38], argTypes := #[22, 22] }, type := 22, pos := _, after := #[{ on := 5, ground := Ground.data }, { on := 7, ground := Ground.data }, { on := 5, ground := Ground.chain }], guard := none }) rfl (fun K hK => ?_) AllReadyM.nil
            have HK9 : Hid (∀ a w, _ → K a w) := hK
            clear hK
            obtain ⟨v2, w7, hr2, ho2, hb7⟩ := HA2.out _ v1 wq.heap.size hb6 ho1 hent
            refine step_appR rfl _ _ _ rfl _ _ rfl (by go_simp) hr2 ?_
            refine HK9.out _ _ ⟨fun _ => HS.out _ hb7, ?_⟩
            clear HK9 K
            try simp only [Act.put, List.setIfInBounds_toArray, List.set_cons_zero, List.set_cons_succ]
            refine wpAnyM_ready (rs := [14]) (by kernel_rfl) (by simp) ?_
            refine AllReadyM.cons (o := { dst := some 45, op := Op.call { callee := Callee.builtin Builtin.append, args := #[Operand.tmp 39, Operand.tmp 44], argTypes := #[22, 22] }, type := 22, pos := _, after := #[{ on := 8, ground := Ground.data }, { on := 13, ground := Ground.data }, { on := 8, ground := Ground.chain }], guard := none }) rfl (fun K hK => ?_) AllReadyM.nil
            have HK9 : Hid (∀ a w, _ → K a w) := hK
            clear hK
            obtain ⟨v3, w8, hr3, ho3, hb8, -⟩ := HA3.out _ v2 hb7 ho2
            refine step_appR rfl _ _ _ rfl _ _ rfl rfl hr3 ?_
            refine HK9.out _ _ ⟨fun _ => HS.out _ hb8, ?_⟩
            clear HK9 K
            try simp only [Act.put, List.setIfInBounds_toArray, List.set_cons_zero, List.set_cons_succ]
            obtain ⟨q9, c9, hv9, -, -⟩ := ho3.ens
            subst hv9
            have HO8 : Hid (OwnE w8 wq.heap.size (.slice q9 ([] ++ l.take j ++ [e] ++ l.drop (j + 1)).length c9) ([] ++ l.take j ++ [e] ++ l.drop (j + 1))) := ho3
            have hln : ([] ++ l.take j ++ [e] ++ l.drop (j + 1)).length = len := by have := HL.out; first | (simp; done) | (simp; omega) | (simp [List.eq_nil_of_length_eq_zero HL.out])
            rw [hln] at HO8
            rw [hln]
            clear hln
            have HB8 : Hid (Below w1.heap.size w1 w8) := HW9.out.trans (hb8.mono HW9.out.size)
            have hk8 := HK1.out.below HB8.out HK1.out.lt
            have hz8 := HR1.out.below HB8.out HR1.out.lt
            have a4' : w8.cell? ⟨w.heap.size, 4, none⟩ = some (.slice (some ⟨b, o, none⟩) len cap) := hk8.cell 4
            have z4' : w8.frozen? ⟨w.heap.size, 4, none⟩ = false := hk8.frozen 4
            refine wpAnyM_ready (rs := [15]) (by kernel_rfl) (by simp) ?_
            refine AllReadyM.cons (o := { dst := some 6, op := Op.assign (Operand.tmp 45), type := 22, pos := _, after := #[{ on := 14, ground := Ground.data }, { on := 14, ground := Ground.chain }, { on := 0, ground := Ground.phase }, { on := 1, ground := Ground.phase }, { on := 2, ground := Ground.phase }, { on := 3, ground := Ground.phase }, { on := 4, ground := Ground.phase }, { on := 5, ground := Ground.phase }, { on := 6, ground := Ground.phase }, { on := 7, ground := Ground.phase }, { on := 8, ground := Ground.phase }, { on := 9, ground := Ground.phase }, { on := 10, ground := Ground.phase }, { on := 11, ground := Ground.phase }, { on := 12, ground := Ground.phase }, { on := 13, ground := Ground.phase }, { on := 14, ground := Ground.phase }], guard := none }) rfl (fun K hK => ?_) AllReadyM.nil
            have HK9 : Hid (∀ a w, _ → K a w) := hK
            clear hK
            go_simp
            refine HK9.out _ _ ⟨fun h => absurd h (by omega), ?_⟩
            clear HK9 K
            try simp only [Act.put, List.setIfInBounds_toArray, List.set_cons_zero, List.set_cons_succ]
            refine wpAnyM_done (by kernel_rfl) ?_ _
            obtain ⟨w9, hw9⟩ : ∃ w9, w8.setCell ⟨w.heap.size, 4, none⟩ (.slice q9 len c9) = w9 := ⟨_, rfl⟩
            have hk9 : Bk w9 w.heap.size 24 #[.bool leaf, .string lo, .string hi, .int .i64 r, .slice q9 len c9] := by rw [← hw9]; exact hk8.set 4 _
            have hr9 : Bk w9 (w.heap.size + 1 + 1) 24 zc := by rw [← hw9]; exact hz8.other (by simp; omega) _
            have ht9 : Tn [w.heap.size] w8 w9 := by rw [← hw9]; exact (Tn.refl _ _).setCell (.inl (by simp)) _
            clear hS
            have a0 : w9.cell? ⟨w.heap.size, 0, none⟩ = some (.bool leaf) := hk9.cell 0
            have a1 : w9.cell? ⟨w.heap.size, 1, none⟩ = some (.string lo) := hk9.cell 1
            have a2 : w9.cell? ⟨w.heap.size, 2, none⟩ = some (.string hi) := hk9.cell 2
            have a3 : w9.cell? ⟨w.heap.size, 3, none⟩ = some (.int .i64 r) := hk9.cell 3
            have a4 : w9.cell? ⟨w.heap.size, 4, none⟩ = some (.slice q9 len c9) := hk9.cell 4
            have b0 : w9.cell? ⟨w.heap.size + 1 + 1, 0, none⟩ = some (.bool false) := hr9.cell 0
            have f0 : w9.frozen? ⟨w.heap.size + 1 + 1, 0, none⟩ = false := hr9.frozen 0
            have b1 : w9.cell? ⟨w.heap.size + 1 + 1, 1, none⟩ = some (.string ⟨#[]⟩) := hr9.cell 1
            have f1 : w9.frozen? ⟨w.heap.size + 1 + 1, 1, none⟩ = false := hr9.frozen 1
            have b2 : w9.cell? ⟨w.heap.size + 1 + 1, 2, none⟩ = some (.string ⟨#[]⟩) := hr9.cell 2
            have f2 : w9.frozen? ⟨w.heap.size + 1 + 1, 2, none⟩ = false := hr9.frozen 2
            have b3 : w9.cell? ⟨w.heap.size + 1 + 1, 3, none⟩ = some (.int .i64 0) := hr9.cell 3
            have f3 : w9.frozen? ⟨w.heap.size + 1 + 1, 3, none⟩ = false := hr9.frozen 3
            have b4 : w9.cell? ⟨w.heap.size + 1 + 1, 4, none⟩ = some (.slice none 0 0) := hr9.cell 4
            have f4 : w9.frozen? ⟨w.heap.size + 1 + 1, 4, none⟩ = false := hr9.frozen 4
            have HR9 : Hid (Bk w9 (w.heap.size + 1 + 1) 24 zc) := hr9
            have HT9 : Hid (Tn [w.heap.size] w8 w9) := ht9
            clear hk9 hr9 ht9
            go_wp2
            obtain ⟨we, hwe⟩ : ∃ we, we = put5 w9 (w.heap.size + 1 + 1) (.bool leaf) (.string lo) (.string hi) (.int .i64 r) (.slice q9 len c9) := ⟨_, rfl⟩
            have hA : Bk we (w.heap.size + 1 + 1) 24 #[.bool leaf, .string lo, .string hi, .int .i64 r, .slice q9 len c9] := by rw [hwe]; exact Bk.five HR9.out _ _ _ _ _
            have ht : Tn [w.heap.size + 1 + 1] w9 we := by rw [hwe]; exact (Tn.refl _ _).five (.inl (by simp)) _ _ _ _ _
            unfold put5 at hwe
            rw [← hwe]
            clear hwe
            refine bodyPost_ret (results_two (cs := [.bool leaf, .string lo, .string hi, .int .i64 r, .slice q9 len c9]) rfl rfl pg_agg pg_size rfl hA) rfl ?_
            rw [HQ.out]
            have hs0 := HR1.out.lt
            have t8 : Tn [w.heap.size, w.heap.size + 1 + 1] w8 we := (HT9.out.mono (by simp)).trans ht (by simp)
            have hB8 := HB1.out.trans (HB8.out.mono HB1.out.size)
            have hsw := HW9.out.size
            have hdl : (l.take j ++ [e] ++ l.drop (j + 1)).length = len := by have := HL.out; first | (simp; done) | (simp; omega) | (simp [List.eq_nil_of_length_eq_zero HL.out])
            refine ⟨_, rfl, ⟨q9, c9, by simp only [hdl], ?_⟩, hB8.trans (t8.below hB8.size (by simp; omega))⟩
            simp only [hdl]
            have hsg := (HO8.out.seg).tn t8 (by intro y hy; simp at hy; omega)
            have hsb := HB1.out.size
            exact (show Seg we wq.heap.size q9 (len) c9 (l.take j ++ [e] ++ l.drop (j + 1)) by simpa using hsg).mono (by omega)
        | false =>
          have hqs : (x.key.toList == e.key.toList) = false := hq
          have HF2 : Hid (j + 1 ≤ l.findIdx (Pg.is e.key)) := findIdx_miss HF.out.1 HG.out hq
          clear hq
          go_wp2_with fail
          go_quiet (fail)
          have HF3 : Hid (j + 1 ≤ l.findIdx (Pg.is e.key) ∧ Below w1.heap.size w1 (wr.drewN nq)) := ⟨HF2.out, below_drewN HF.out.2 nq⟩
          go_wp2
          go_roundw
          case rel => exact ⟨j + 1, by omega, rfl, by go_num, HF3⟩
          case measure => simp [intOf]; omega
      · have hli : ¬ (j : Int) < (len : Int) := by omega
        have HO3 : Hid (out = (⟨leaf, lo, hi, r, Pg.ins l (l.findIdx fun x => Ky.lt e.key x.key) e⟩, 0)) := by
          have := HO2.out
          unfold Pg.putL at this
          rw [findIdx_none (by have := HF.out.1; have := HL.out; omega)] at this
          exact this
        have HW : Hid (Below w1.heap.size w1 wr) := HF.out.2
        clear HF
        go_wp2_with fail
        clear a4 k0
        go_loopw [8] (fun iv wr => ∃ k : Nat, k ≤ len ∧ iv = .int .i64 k ∧ Hid (k ≤ l.findIdx (fun x => Ky.lt e.key x.key) ∧ Below w1.heap.size w1 wr)) (fun iv _ => len - (intOf iv).toNat)
        case atStart => exact ⟨0, Nat.zero_le _, rfl, Nat.zero_le _, HW.out⟩
        case round =>
          obtain ⟨k, hk, rfl, HF⟩ := hrel
          have a4 : wr.cell? ⟨w.heap.size, 4, none⟩ = some (.slice p len cap) := (HK1.out.below HF.out.2 HK1.out.lt).cell 4
          have k0 : wr.cell? ⟨w.heap.size + 1, 0, none⟩ = some (.string e.key) := (HE1.out.below HF.out.2 HE1.out.lt).cell 0
          by_cases hlt2 : k < len
          · have hli2 : (k : Int) < (len : Int) := by omega
            have hli3 : decide (k < len) = true := by simp [hlt2]
            have hk0 : (0 : Int) ≤ (k : Int) := by omega
            obtain ⟨b, o, x, rfl, hgx, -, x0, -, -, -⟩ := (HX1.out.below HF.out.2 (Nat.le_refl _)).at (j := k) (by have := HL.out; omega)
            have HG : Hid (l[k]? = some x) := hgx
            clear hgx
            cases hq : Ky.lt e.key x.key with
            | true =>
              have hle1 : Op.bytesLess x.key.toList e.key.toList = false := by
                cases h : Op.bytesLess x.key.toList e.key.toList with
                | false => rfl
                | true =>
                  have := Ky.less_trans _ _ _ hq h
                  rw [Ky.less_irrefl] at this
                  exact this.symm
              have hle2 : (x.key.toList == e.key.toList) = false := by
                cases h : (x.key.toList == e.key.toList) with
                | false => rfl
                | true =>
                  have h2 := hq
                  unfold Ky.lt at h2
                  rw [beq_iff_eq] at h
                  rw [h, Ky.less_irrefl] at h2
                  exact h2.symm
              have HK9 : Hid (l.findIdx (fun x => Ky.lt e.key x.key) = k) := findIdx_hit HF.out.1 HG.out hq
              clear hq
              go_wp2_with fail
              go_quiet (fail)
              have HW9 : Hid (Below w1.heap.size w1 (wr.drewN nq)) := below_drewN HF.out.2 nq
              generalize wr.drewN nq = wq at HW9 ⊢
              clear a4 k0 x0 HF
              have HQ : Hid (out = (⟨leaf, lo, hi, r, l.take k ++ [e] ++ l.drop k⟩, 0)) := by
                rw [Hid, HO3.out, HK9.out]
                simp [Pg.ins]
              obtain ⟨a7, ha7⟩ : ∃ a7 : Addr, (if cap = k then some (⟨b, o, none⟩ : Addr) else some ⟨b, o + k * 4, none⟩) = some a7 := by split <;> exact ⟨_, rfl⟩
              have HREST : Hid (∀ W, Below wq.heap.size wq W → Ens W (some a7) (l.drop k)) := fun W hW => by
                by_cases hlast : len = k
                · rw [List.drop_of_length_le (by have := HL.out; omega)]
                  exact Ens.nil _ _
                · rw [if_neg (by omega)] at ha7
                  obtain rfl := Option.some.inj ha7
                  exact ((HX1.out.below (HW9.out.trans (hW.mono HW9.out.size)) (Nat.le_refl _)).drop k)
              have E7 : Hid ((if cap = k then some (⟨b, o, none⟩ : Addr) else some ⟨b, o + k * 4, none⟩) = some a7) := ha7
              have e1 : (k : Int) ≤ (len : Int) := by omega
              have e2 : (k : Int) ≤ (cap : Int) := by omega
              have e5 : (0 : Int) ≤ (k : Int) := by omega
              clear ha7 HO2 HO3 HK9
              go_wp2_with fail
              have HS : Hid (∀ w', Below wq.heap.size wq w' → w'.cell? ⟨w.heap.size, 4, none⟩ = some (.slice (some ⟨b, o, none⟩) len cap) ∧ w'.cell? ⟨w.heap.size + 1, 0, none⟩ = some (.string e.key) ∧ w'.cell? ⟨w.heap.size + 1, 1, none⟩ = some (.int .i64 e.s) ∧ w'.cell? ⟨w.heap.size + 1, 2, none⟩ = some (.int .i64 e.g) ∧ w'.cell? ⟨w.heap.size + 1, 3, none⟩ = some (.int .i64 e.c)) := fun w' hW => by
                have h1 := HW9.out.trans (hW.mono HW9.out.size)
                have h2 := HK1.out.below h1 HK1.out.lt
                have h3 := HE1.out.below h1 HE1.out.lt
                exact ⟨h2.cell 4, h3.cell 0, h3.cell 1, h3.cell 2, h3.cell 3⟩
              have HA1 : Hid _ := app_one (w0 := wq) (B0 := 0) (Nat.zero_le _) (l := []) (l2 := l.take k) (p := (some ⟨b, o, none⟩)) (m := k) (c := cap) (by rw [List.length_take]; have := HL.out; omega) (fun W' hW' => (HX1.out.below (HW9.out.trans (hW'.mono HW9.out.size)) (Nat.le_refl _)).take k) (fun h => by cases h) (by first | (simp; done) | (simp; omega) | (have := HL.out; simp; omega))
              have HA2 : Hid _ := app_entry (w0 := wq) (l := [] ++ l.take k) (e := e) (by first | (simp; done) | (simp; omega) | (have := HL.out; simp; omega))
              have HA3 : Hid _ := app_one (w0 := wq) (B0 := 0) (Nat.zero_le _) (l := [] ++ l.take k ++ [e]) (l2 := l.drop k) (p := (some a7)) (m := (len - k)) (c := (cap - k)) (by rw [List.length_drop, HL.out]; try omega) (fun W' hW' => HREST.out W' hW') (fun h => by cases h) (by have := HL.out; first | (simp; done) | (simp; omega))
              have hS := HS.out wq.drew (Below.refl _ _).drew
              have hbD : Below wq.heap.size wq wq.drew := (Below.refl _ _).drew
              refine wp_region_mid (S := (fun w' => w'.cell? ⟨w.heap.size, 4, none⟩ = some (.slice (some ⟨b, o, none⟩) len cap) ∧ w'.cell? ⟨w.heap.size + 1, 0, none⟩ = some (.string e.key) ∧ w'.cell? ⟨w.heap.size + 1, 1, none⟩ = some (.int .i64 e.s) ∧ w'.cell? ⟨w.heap.size + 1, 2, none⟩ = some (.int .i64 e.g) ∧ w'.cell? ⟨w.heap.size + 1, 3, none⟩ = some (.int .i64 e.c))) 15 (by kernel_rfl) ?_
              refine wpAnyM_take (i := 0) [] (oi := { dst := some 67, op := Op.move (Operand.tmp 6), type := 22, pos := _, after := #[], guard := none }) (v := .slice none 0 0) rfl (by kernel_rfl) (by kernel_rfl) (by kernel_rfl) (by kernel_rfl) (fun _ _ _ h => h) (Or.inl ⟨by rfl, ?_⟩) hS ?_
              · (intro w' hSw; obtain ⟨m0, m1, m2, m3, m4⟩ := hSw; go_simp; try with_reducible rfl)
              try simp only [Act.put, List.setIfInBounds_toArray, List.set_cons_zero, List.set_cons_succ]
              refine wpAnyM_take (i := 1) [] (oi := { dst := some 68, op := Op.fieldAddr 24 (Operand.tmp 2) 4, type := 0, pos := _, after := #[], guard := none }) (v := ?_) rfl (by kernel_rfl) (by kernel_rfl) (by kernel_rfl) (by kernel_rfl) (fun _ _ _ h => h) (Or.inl ⟨by rfl, ?_⟩) hS ?_
              rotate_left
              · (intro w' hSw; obtain ⟨m0, m1, m2, m3, m4⟩ := hSw; go_simp; try with_reducible rfl)
              try simp only [Act.put, List.setIfInBounds_toArray, List.set_cons_zero, List.set_cons_succ]
              refine wpAnyM_take (i := 2) [] (oi := { dst := some 69, op := Op.load 22 (Operand.tmp 68), type := 22, pos := _, after := #[{ on := 1, ground := Ground.data }], guard := none }) (v := .slice (some ⟨b, o, none⟩) len cap) rfl (by kernel_rfl) (by kernel_rfl) (by kernel_rfl) (by kernel_rfl) (fun _ _ _ h => h) (Or.inl ⟨by rfl, ?_⟩) hS ?_
              · (intro w' hSw; obtain ⟨m0, m1, m2, m3, m4⟩ := hSw; go_simp; try with_reducible rfl)
              try simp only [Act.put, List.setIfInBounds_toArray, List.set_cons_zero, List.set_cons_succ]
              refine wpAnyM_take (i := 3) [] (oi := { dst := some 70, op := Op.move (Operand.tmp 8), type := 3, pos := _, after := #[], guard := none }) (v := .int .i64 (k : Int)) rfl (by kernel_rfl) (by kernel_rfl) (by kernel_rfl) (by kernel_rfl) (fun _ _ _ h => h) (Or.inl ⟨by rfl, ?_⟩) hS ?_
              · (intro w' hSw; obtain ⟨m0, m1, m2, m3, m4⟩ := hSw; go_simp; try with_reducible rfl)
              try simp only [Act.put, List.setIfInBounds_toArray, List.set_cons_zero, List.set_cons_succ]
              refine wpAnyM_take (i := 4) [] (oi := { dst := some 71, op := Op.slice 22 (Operand.tmp 69) none (some (Operand.tmp 70)) none, type := 22, pos := _, after := #[{ on := 2, ground := Ground.data }, { on := 3, ground := Ground.data }], guard := none }) (v := .slice (some ⟨b, o, none⟩) k cap) rfl (by kernel_rfl) (by kernel_rfl) (by kernel_rfl) (by kernel_rfl) (fun _ _ _ h => h) (Or.inl ⟨by rfl, ?_⟩) hS ?_
              · (intro w' hSw; obtain ⟨m0, m1, m2, m3, m4⟩ := hSw; go_simp; try with_reducible rfl)
              try simp only [Act.put, List.setIfInBounds_toArray, List.set_cons_zero, List.set_cons_succ]
              refine wpAnyM_take (i := 6) [] (oi := { dst := some 73, op := Op.load 28 (Operand.tmp 3), type := 28, pos := _, after := #[], guard := none }) (v := .agg #[.string e.key, .int .i64 e.s, .int .i64 e.g, .int .i64 e.c]) rfl (by kernel_rfl) (by kernel_rfl) (by kernel_rfl) (by kernel_rfl) (fun _ _ _ h => h) (Or.inl ⟨by rfl, ?_⟩) hS ?_
              · (intro w' hSw; obtain ⟨m0, m1, m2, m3, m4⟩ := hSw; go_simp; try with_reducible rfl)
              try simp only [Act.put, List.setIfInBounds_toArray, List.set_cons_zero, List.set_cons_succ]
              refine wpAnyM_take (i := 9) [] (oi := { dst := some 76, op := Op.fieldAddr 24 (Operand.tmp 2) 4, type := 0, pos := _, after := #[], guard := none }) (v := ?_) rfl (by kernel_rfl) (by kernel_rfl) (by kernel_rfl) (by kernel_rfl) (fun _ _ _ h => h) (Or.inl ⟨by rfl, ?_⟩) hS ?_
              rotate_left
              · (intro w' hSw; obtain ⟨m0, m1, m2, m3, m4⟩ := hSw; go_simp; try with_reducible rfl)
              try simp only [Act.put, List.setIfInBounds_toArray, List.set_cons_zero, List.set_cons_succ]
              refine wpAnyM_take (i := 10) [] (oi := { dst := some 77, op := Op.load 22 (Operand.tmp 76), type := 22, pos := _, after := #[{ on := 9, ground := Ground.data }], guard := none }) (v := .slice (some ⟨b, o, none⟩) len cap) rfl (by kernel_rfl) (by kernel_rfl) (by kernel_rfl) (by kernel_rfl) (fun _ _ _ h => h) (Or.inl ⟨by rfl, ?_⟩) hS ?_
              · (intro w' hSw; obtain ⟨m0, m1, m2, m3, m4⟩ := hSw; go_simp; try with_reducible rfl)
              try simp only [Act.put, List.setIfInBounds_toArray, List.set_cons_zero, List.set_cons_succ]
              refine wpAnyM_take (i := 11) [] (oi := { dst := some 78, op := Op.move (Operand.tmp 8), type := 3, pos := _, after := #[], guard := none }) (v := .int .i64 (k : Int)) rfl (by kernel_rfl) (by kernel_rfl) (by kernel_rfl) (by kernel_rfl) (fun _ _ _ h => h) (Or.inl ⟨by rfl, ?_⟩) hS ?_
              · (intro w' hSw; obtain ⟨m0, m1, m2, m3, m4⟩ := hSw; go_simp; try with_reducible rfl)
              try simp only [Act.put, List.setIfInBounds_toArray, List.set_cons_zero, List.set_cons_succ]
              refine wpAnyM_take (i := 12) [] (oi := { dst := some 79, op := Op.slice 22 (Operand.tmp 77) (some (Operand.tmp 78)) none none, type := 22, pos := _, after := #[{ on := 10, ground := Ground.data }, { on := 11, ground := Ground.data }], guard := none }) (v := .slice (some a7) (len - k) (cap - k)) rfl (by kernel_rfl) (by kernel_rfl) (by kernel_rfl) (by kernel_rfl) (fun _ _ _ h => h) (Or.inl ⟨by rfl, ?_⟩) hS ?_
              · (intro w' hSw; obtain ⟨m0, m1, m2, m3, m4⟩ := hSw; go_simp; exact E7.out)
              try simp only [Act.put, List.setIfInBounds_toArray, List.set_cons_zero, List.set_cons_succ]
              refine wpAnyM_ready (rs := [5, 7]) (by kernel_rfl) (by simp) ?_
              refine AllReadyM.cons (o := { dst := some 72, op := Op.call { callee := Callee.builtin Builtin.append, args := #[Operand.tmp 67, Operand.tmp 71], argTypes := #[22, 22] }, type := 22, pos := _, after := #[{ on := 0, ground := Ground.data }, { on := 4, ground := Ground.data }], guard := none }) rfl (fun K hK => ?_) (AllReadyM.cons (o := { dst := some 74, op := Op.buildSlice 22 1 #[(0, Operand.tmp 73)], type := 22, pos := _, after := #[{ on := 6, ground := Ground.data }], guard := none }) rfl (fun K hK => ?_) AllReadyM.nil)
              · have HK9' : Hid (∀ a w, _ → K a w) := hK
                clear hK
                obtain ⟨v1, w6, hr1, ho1, hb6, -⟩ := HA1.out _ (.slice none 0 0) hbD (OwnE.nil _ _)
                refine step_appR rfl _ _ _ rfl _ _ rfl rfl hr1 ?_
                refine HK9'.out _ _ ⟨fun _ => HS.out _ hb6, ?_⟩
                clear HK9' K
                try simp only [Act.put, List.setIfInBounds_toArray, List.set_cons_zero, List.set_cons_succ]
                refine wpAnyM_ready (rs := [7]) (by kernel_rfl) (by simp) ?_
                refine AllReadyM.cons (o := { dst := some 74, op := Op.buildSlice 22 1 #[(0, Operand.tmp 73)], type := 22, pos := _, after := #[{ on := 6, ground := Ground.data }], guard := none }) rfl (fun K hK => ?_) AllReadyM.nil
                have HK9 : Hid (∀ a w, _ → K a w) := hK
                clear hK
                go_simp
                have hb6' : Below wq.heap.size wq (w6.alloc (.cells #[.string e.key, .int .i64 e.s, .int .i64 e.g, .int .i64 e.c] 28)) := hb6.alloc hb6.size _
                refine HK9.out _ _ ⟨fun _ => HS.out _ hb6', ?_⟩
                clear HK9 K
                try simp only [Act.put, List.setIfInBounds_toArray, List.set_cons_zero, List.set_cons_succ]
                have ho1' := ho1.below ((Below.refl _ w6).alloc (Nat.le_refl _) (.cells #[.string e.key, .int .i64 e.s, .int .i64 e.g, .int .i64 e.c] 28)) (Nat.le_refl _)
                refine wpAnyM_ready (rs := [8]) (by kernel_rfl) (by simp) ?_
                refine AllReadyM.cons (o := { dst := some 75, op := Op.call { callee := Callee.builtin Builtin.append, args := #[Operand.tmp 72, Operand.tmp 74], argTypes := #[22, 22] }, type := 22, pos := _, after := #[{ on := 5, ground := Ground.data }, { on := 7, ground := Ground.data }, { on := 5, ground := Ground.chain }], guard := none }) rfl (fun K hK => ?_) AllReadyM.nil
                have HK9 : Hid (∀ a w, _ → K a w) := hK
                clear hK
                obtain ⟨v2, w7, hr2, ho2, hb7⟩ := HA2.out _ v1 w6.heap.size hb6' ho1' (ens_one w6 e)
                refine step_appR rfl _ _ _ rfl _ _ rfl (by go_simp) hr2 ?_
                refine HK9.out _ _ ⟨fun _ => HS.out _ hb7, ?_⟩
                clear HK9 K
                try simp only [Act.put, List.setIfInBounds_toArray, List.set_cons_zero, List.set_cons_succ]
                refine wpAnyM_ready (rs := [13]) (by kernel_rfl) (by simp) ?_
                refine AllReadyM.cons (o := { dst := some 80, op := Op.call { callee := Callee.builtin Builtin.append, args := #[Operand.tmp 75, Operand.tmp 79], argTypes := #[22, 22] }, type := 22, pos := _, after := #[{ on := 8, ground := Ground.data }, { on := 12, ground := Ground.data }, { on := 8, ground := Ground.chain }], guard := none }) rfl (fun K hK => ?_) AllReadyM.nil
                have HK9 : Hid (∀ a w, _ → K a w) := hK
                clear hK
                obtain ⟨v3, w8, hr3, ho3, hb8, -⟩ := HA3.out _ v2 hb7 ho2
                refine step_appR rfl _ _ _ rfl _ _ rfl rfl hr3 ?_
                refine HK9.out _ _ ⟨fun _ => HS.out _ hb8, ?_⟩
                clear HK9 K
                try simp only [Act.put, List.setIfInBounds_toArray, List.set_cons_zero, List.set_cons_succ]
                obtain ⟨q9, c9, hv9, -, -⟩ := ho3.ens
                subst hv9
                have HO8 : Hid (OwnE w8 wq.heap.size (.slice q9 ([] ++ l.take k ++ [e] ++ l.drop k).length c9) ([] ++ l.take k ++ [e] ++ l.drop k)) := ho3
                have hln : ([] ++ l.take k ++ [e] ++ l.drop k).length = (len + 1) := by have := HL.out; first | (simp; done) | (simp; omega) | (simp [List.eq_nil_of_length_eq_zero HL.out])
                rw [hln] at HO8
                rw [hln]
                clear hln
                have HB8 : Hid (Below w1.heap.size w1 w8) := HW9.out.trans (hb8.mono HW9.out.size)
                have hk8 := HK1.out.below HB8.out HK1.out.lt
                have hz8 := HR1.out.below HB8.out HR1.out.lt
                have a4' : w8.cell? ⟨w.heap.size, 4, none⟩ = some (.slice (some ⟨b, o, none⟩) len cap) := hk8.cell 4
                have z4' : w8.frozen? ⟨w.heap.size, 4, none⟩ = false := hk8.frozen 4
                refine wpAnyM_ready (rs := [14]) (by kernel_rfl) (by simp) ?_
                refine AllReadyM.cons (o := { dst := some 81, op := Op.fieldAddr 24 (Operand.tmp 2) 4, type := 0, pos := _, after := #[{ on := 0, ground := Ground.phase }, { on := 1, ground := Ground.phase }, { on := 2, ground := Ground.phase }, { on := 3, ground := Ground.phase }, { on := 4, ground := Ground.phase }, { on := 5, ground := Ground.phase }, { on := 6, ground := Ground.phase }, { on := 7, ground := Ground.phase }, { on := 8, ground := Ground.phase }, { on := 9, ground := Ground.phase }, { on := 10, ground := Ground.phase }, { on := 11, ground := Ground.phase }, { on := 12, ground := Ground.phase }, { on := 13, ground := Ground.phase }], guard := none }) rfl (fun K hK => ?_) AllReadyM.nil
                have HK9 : Hid (∀ a w, _ → K a w) := hK
                clear hK
                go_simp
                refine HK9.out _ _ ⟨fun _ => HS.out _ hb8, ?_⟩
                clear HK9 K
                try simp only [Act.put, List.setIfInBounds_toArray, List.set_cons_zero, List.set_cons_succ]
                refine wpAnyM_ready (rs := [15]) (by kernel_rfl) (by simp) ?_
                refine AllReadyM.cons (o := { dst := none, op := Op.store 22 (Operand.tmp 81) (Operand.tmp 80), type := 0, pos := _, after := #[{ on := 14, ground := Ground.data }, { on := 13, ground := Ground.data }, { on := 13, ground := Ground.chain }, { on := 0, ground := Ground.phase }, { on := 1, ground := Ground.phase }, { on := 2, ground := Ground.phase }, { on := 3, ground := Ground.phase }, { on := 4, ground := Ground.phase }, { on := 5, ground := Ground.phase }, { on := 6, ground := Ground.phase }, { on := 7, ground := Ground.phase }, { on := 8, ground := Ground.phase }, { on := 9, ground := Ground.phase }, { on := 10, ground := Ground.phase }, { on := 11, ground := Ground.phase }, { on := 12, ground := Ground.phase }, { on := 13, ground := Ground.phase }], guard := none }) rfl (fun K hK => ?_) AllReadyM.nil
                have HK9 : Hid (∀ a w, _ → K a w) := hK
                clear hK
                go_simp
                refine HK9.out _ _ ⟨fun h => absurd h (by omega), ?_⟩
                clear HK9 K
                try simp only [Act.put, List.setIfInBounds_toArray, List.set_cons_zero, List.set_cons_succ]
                refine wpAnyM_done (by kernel_rfl) ?_ _
                obtain ⟨w9, hw9⟩ : ∃ w9, w8.setCell ⟨w.heap.size, 4, none⟩ (.slice q9 (len + 1) c9) = w9 := ⟨_, rfl⟩
                have hk9 : Bk w9 w.heap.size 24 #[.bool leaf, .string lo, .string hi, .int .i64 r, .slice q9 (len + 1) c9] := by rw [← hw9]; exact hk8.set 4 _
                have hr9 : Bk w9 (w.heap.size + 1 + 1) 24 zc := by rw [← hw9]; exact hz8.other (by simp; omega) _
                have ht9 : Tn [w.heap.size] w8 w9 := by rw [← hw9]; exact (Tn.refl _ _).setCell (.inl (by simp)) _
                rw [hw9]
                clear hw9 a4' z4' hS
                have a0 : w9.cell? ⟨w.heap.size, 0, none⟩ = some (.bool leaf) := hk9.cell 0
                have a1 : w9.cell? ⟨w.heap.size, 1, none⟩ = some (.string lo) := hk9.cell 1
                have a2 : w9.cell? ⟨w.heap.size, 2, none⟩ = some (.string hi) := hk9.cell 2
                have a3 : w9.cell? ⟨w.heap.size, 3, none⟩ = some (.int .i64 r) := hk9.cell 3
                have a4 : w9.cell? ⟨w.heap.size, 4, none⟩ = some (.slice q9 (len + 1) c9) := hk9.cell 4
                have b0 : w9.cell? ⟨w.heap.size + 1 + 1, 0, none⟩ = some (.bool false) := hr9.cell 0
                have f0 : w9.frozen? ⟨w.heap.size + 1 + 1, 0, none⟩ = false := hr9.frozen 0
                have b1 : w9.cell? ⟨w.heap.size + 1 + 1, 1, none⟩ = some (.string ⟨#[]⟩) := hr9.cell 1
                have f1 : w9.frozen? ⟨w.heap.size + 1 + 1, 1, none⟩ = false := hr9.frozen 1
                have b2 : w9.cell? ⟨w.heap.size + 1 + 1, 2, none⟩ = some (.string ⟨#[]⟩) := hr9.cell 2
                have f2 : w9.frozen? ⟨w.heap.size + 1 + 1, 2, none⟩ = false := hr9.frozen 2
                have b3 : w9.cell? ⟨w.heap.size + 1 + 1, 3, none⟩ = some (.int .i64 0) := hr9.cell 3
                have f3 : w9.frozen? ⟨w.heap.size + 1 + 1, 3, none⟩ = false := hr9.frozen 3
                have b4 : w9.cell? ⟨w.heap.size + 1 + 1, 4, none⟩ = some (.slice none 0 0) := hr9.cell 4
                have f4 : w9.frozen? ⟨w.heap.size + 1 + 1, 4, none⟩ = false := hr9.frozen 4
                have HR9 : Hid (Bk w9 (w.heap.size + 1 + 1) 24 zc) := hr9
                have HT9 : Hid (Tn [w.heap.size] w8 w9) := ht9
                clear hk9 hr9 ht9
                go_wp2
                obtain ⟨we, hwe⟩ : ∃ we, we = put5 w9 (w.heap.size + 1 + 1) (.bool leaf) (.string lo) (.string hi) (.int .i64 r) (.slice q9 (len + 1) c9) := ⟨_, rfl⟩
                have hA : Bk we (w.heap.size + 1 + 1) 24 #[.bool leaf, .string lo, .string hi, .int .i64 r, .slice q9 (len + 1) c9] := by rw [hwe]; exact Bk.five HR9.out _ _ _ _ _
                have ht : Tn [w.heap.size + 1 + 1] w9 we := by rw [hwe]; exact (Tn.refl _ _).five (.inl (by simp)) _ _ _ _ _
                unfold put5 at hwe
                rw [← hwe]
                clear hwe
                refine bodyPost_ret (results_two (cs := [.bool leaf, .string lo, .string hi, .int .i64 r, .slice q9 (len + 1) c9]) rfl rfl pg_agg pg_size rfl hA) rfl ?_
                rw [HQ.out]
                have hs0 := HR1.out.lt
                have t8 : Tn [w.heap.size, w.heap.size + 1 + 1] w8 we := (HT9.out.mono (by simp)).trans ht (by simp)
                have hB8 := HB1.out.trans (HB8.out.mono HB1.out.size)
                have hsw := HW9.out.size
                have hdl : (l.take k ++ [e] ++ l.drop k).length = (len + 1) := by have := HL.out; first | (simp; done) | (simp; omega) | (simp [List.eq_nil_of_length_eq_zero HL.out])
                refine ⟨_, rfl, ⟨q9, c9, by simp only [hdl], ?_⟩, hB8.trans (t8.below hB8.size (by simp; omega))⟩
                simp only [hdl]
                have hsg := (HO8.out.seg).tn t8 (by intro y hy; simp at hy; omega)
                have hsb := HB1.out.size
                exact (show Seg we wq.heap.size q9 ((len + 1)) c9 (l.take k ++ [e] ++ l.drop k) by simpa using hsg).mono (by omega)
              · have HK9' : Hid (∀ a w, _ → K a w) := hK
                clear hK
                go_simp
                have hbE : Below wq.heap.size wq (wq.drew.alloc (.cells #[.string e.key, .int .i64 e.s, .int .i64 e.g, .int .i64 e.c] 28)) := hbD.alloc (Nat.le_refl _) _
                refine HK9'.out _ _ ⟨fun _ => HS.out _ hbE, ?_⟩
                clear HK9' K
                try simp only [Act.put, List.setIfInBounds_toArray, List.set_cons_zero, List.set_cons_succ]
                refine wpAnyM_ready (rs := [5]) (by kernel_rfl) (by simp) ?_
                refine AllReadyM.cons (o := { dst := some 72, op := Op.call { callee := Callee.builtin Builtin.append, args := #[Operand.tmp 67, Operand.tmp 71], argTypes := #[22, 22] }, type := 22, pos := _, after := #[{ on := 0, ground := Ground.data }, { on := 4, ground := Ground.data }], guard := none }) rfl (fun K hK => ?_) AllReadyM.nil
                have HK9 : Hid (∀ a w, _ → K a w) := hK
                clear hK
                obtain ⟨v1, w6, hr1, ho1, hb6, hb6E⟩ := HA1.out _ (.slice none 0 0) hbE (OwnE.nil _ _)
                refine step_appR rfl _ _ _ rfl _ _ rfl rfl hr1 ?_
                refine HK9.out _ _ ⟨fun _ => HS.out _ hb6, ?_⟩
                clear HK9 K
                try simp only [Act.put, List.setIfInBounds_toArray, List.set_cons_zero, List.set_cons_succ]
                have hent : Ens w6 (some ⟨wq.heap.size, 0, none⟩) [e] := (ens_one wq.drew e).below (hb6E rfl) (Nat.le_refl _)
                refine wpAnyM_ready (rs := [8]) (by kernel_rfl) (by simp) ?_
                refine AllReadyM.cons (o := { dst := some 75, op := Op.call { callee := Callee.builtin Builtin.append, args := #[Operand.tmp 72, Operand.tmp 74], argTypes := #[22, 22] }, type := 22, pos := _, after := #[{ on := 5, ground := Ground.data }, { on := 7, ground := Ground.data }, { on := 5, ground := Ground.chain }], guard := none }) rfl (fun K hK => ?_) AllReadyM.nil
                have HK9 : Hid (∀ a w, _ → K a w) := hK
                clear hK
                obtain ⟨v2, w7, hr2, ho2, hb7⟩ := HA2.out _ v1 wq.heap.size hb6 ho1 hent
                refine step_appR rfl _ _ _ rfl _ _ rfl (by go_simp) hr2 ?_
                refine HK9.out _ _ ⟨fun _ => HS.out _ hb7, ?_⟩
                clear HK9 K
                try simp only [Act.put, List.setIfInBounds_toArray, List.set_cons_zero, List.set_cons_succ]
                refine wpAnyM_ready (rs := [13]) (by kernel_rfl) (by simp) ?_
                refine AllReadyM.cons (o := { dst := some 80, op := Op.call { callee := Callee.builtin Builtin.append, args := #[Operand.tmp 75, Operand.tmp 79], argTypes := #[22, 22] }, type := 22, pos := _, after := #[{ on := 8, ground := Ground.data }, { on := 12, ground := Ground.data }, { on := 8, ground := Ground.chain }], guard := none }) rfl (fun K hK => ?_) AllReadyM.nil
                have HK9 : Hid (∀ a w, _ → K a w) := hK
                clear hK
                obtain ⟨v3, w8, hr3, ho3, hb8, -⟩ := HA3.out _ v2 hb7 ho2
                refine step_appR rfl _ _ _ rfl _ _ rfl rfl hr3 ?_
                refine HK9.out _ _ ⟨fun _ => HS.out _ hb8, ?_⟩
                clear HK9 K
                try simp only [Act.put, List.setIfInBounds_toArray, List.set_cons_zero, List.set_cons_succ]
                obtain ⟨q9, c9, hv9, -, -⟩ := ho3.ens
                subst hv9
                have HO8 : Hid (OwnE w8 wq.heap.size (.slice q9 ([] ++ l.take k ++ [e] ++ l.drop k).length c9) ([] ++ l.take k ++ [e] ++ l.drop k)) := ho3
                have hln : ([] ++ l.take k ++ [e] ++ l.drop k).length = (len + 1) := by have := HL.out; first | (simp; done) | (simp; omega) | (simp [List.eq_nil_of_length_eq_zero HL.out])
                rw [hln] at HO8
                rw [hln]
                clear hln
                have HB8 : Hid (Below w1.heap.size w1 w8) := HW9.out.trans (hb8.mono HW9.out.size)
                have hk8 := HK1.out.below HB8.out HK1.out.lt
                have hz8 := HR1.out.below HB8.out HR1.out.lt
                have a4' : w8.cell? ⟨w.heap.size, 4, none⟩ = some (.slice (some ⟨b, o, none⟩) len cap) := hk8.cell 4
                have z4' : w8.frozen? ⟨w.heap.size, 4, none⟩ = false := hk8.frozen 4
                refine wpAnyM_ready (rs := [14]) (by kernel_rfl) (by simp) ?_
                refine AllReadyM.cons (o := { dst := some 81, op := Op.fieldAddr 24 (Operand.tmp 2) 4, type := 0, pos := _, after := #[{ on := 0, ground := Ground.phase }, { on := 1, ground := Ground.phase }, { on := 2, ground := Ground.phase }, { on := 3, ground := Ground.phase }, { on := 4, ground := Ground.phase }, { on := 5, ground := Ground.phase }, { on := 6, ground := Ground.phase }, { on := 7, ground := Ground.phase }, { on := 8, ground := Ground.phase }, { on := 9, ground := Ground.phase }, { on := 10, ground := Ground.phase }, { on := 11, ground := Ground.phase }, { on := 12, ground := Ground.phase }, { on := 13, ground := Ground.phase }], guard := none }) rfl (fun K hK => ?_) AllReadyM.nil
                have HK9 : Hid (∀ a w, _ → K a w) := hK
                clear hK
                go_simp
                refine HK9.out _ _ ⟨fun _ => HS.out _ hb8, ?_⟩
                clear HK9 K
                try simp only [Act.put, List.setIfInBounds_toArray, List.set_cons_zero, List.set_cons_succ]
                refine wpAnyM_ready (rs := [15]) (by kernel_rfl) (by simp) ?_
                refine AllReadyM.cons (o := { dst := none, op := Op.store 22 (Operand.tmp 81) (Operand.tmp 80), type := 0, pos := _, after := #[{ on := 14, ground := Ground.data }, { on := 13, ground := Ground.data }, { on := 13, ground := Ground.chain }, { on := 0, ground := Ground.phase }, { on := 1, ground := Ground.phase }, { on := 2, ground := Ground.phase }, { on := 3, ground := Ground.phase }, { on := 4, ground := Ground.phase }, { on := 5, ground := Ground.phase }, { on := 6, ground := Ground.phase }, { on := 7, ground := Ground.phase }, { on := 8, ground := Ground.phase }, { on := 9, ground := Ground.phase }, { on := 10, ground := Ground.phase }, { on := 11, ground := Ground.phase }, { on := 12, ground := Ground.phase }, { on := 13, ground := Ground.phase }], guard := none }) rfl (fun K hK => ?_) AllReadyM.nil
                have HK9 : Hid (∀ a w, _ → K a w) := hK
                clear hK
                go_simp
                refine HK9.out _ _ ⟨fun h => absurd h (by omega), ?_⟩
                clear HK9 K
                try simp only [Act.put, List.setIfInBounds_toArray, List.set_cons_zero, List.set_cons_succ]
                refine wpAnyM_done (by kernel_rfl) ?_ _
                obtain ⟨w9, hw9⟩ : ∃ w9, w8.setCell ⟨w.heap.size, 4, none⟩ (.slice q9 (len + 1) c9) = w9 := ⟨_, rfl⟩
                have hk9 : Bk w9 w.heap.size 24 #[.bool leaf, .string lo, .string hi, .int .i64 r, .slice q9 (len + 1) c9] := by rw [← hw9]; exact hk8.set 4 _
                have hr9 : Bk w9 (w.heap.size + 1 + 1) 24 zc := by rw [← hw9]; exact hz8.other (by simp; omega) _
                have ht9 : Tn [w.heap.size] w8 w9 := by rw [← hw9]; exact (Tn.refl _ _).setCell (.inl (by simp)) _
                rw [hw9]
                clear hw9 a4' z4' hS
                have a0 : w9.cell? ⟨w.heap.size, 0, none⟩ = some (.bool leaf) := hk9.cell 0
                have a1 : w9.cell? ⟨w.heap.size, 1, none⟩ = some (.string lo) := hk9.cell 1
                have a2 : w9.cell? ⟨w.heap.size, 2, none⟩ = some (.string hi) := hk9.cell 2
                have a3 : w9.cell? ⟨w.heap.size, 3, none⟩ = some (.int .i64 r) := hk9.cell 3
                have a4 : w9.cell? ⟨w.heap.size, 4, none⟩ = some (.slice q9 (len + 1) c9) := hk9.cell 4
                have b0 : w9.cell? ⟨w.heap.size + 1 + 1, 0, none⟩ = some (.bool false) := hr9.cell 0
                have f0 : w9.frozen? ⟨w.heap.size + 1 + 1, 0, none⟩ = false := hr9.frozen 0
                have b1 : w9.cell? ⟨w.heap.size + 1 + 1, 1, none⟩ = some (.string ⟨#[]⟩) := hr9.cell 1
                have f1 : w9.frozen? ⟨w.heap.size + 1 + 1, 1, none⟩ = false := hr9.frozen 1
                have b2 : w9.cell? ⟨w.heap.size + 1 + 1, 2, none⟩ = some (.string ⟨#[]⟩) := hr9.cell 2
                have f2 : w9.frozen? ⟨w.heap.size + 1 + 1, 2, none⟩ = false := hr9.frozen 2
                have b3 : w9.cell? ⟨w.heap.size + 1 + 1, 3, none⟩ = some (.int .i64 0) := hr9.cell 3
                have f3 : w9.frozen? ⟨w.heap.size + 1 + 1, 3, none⟩ = false := hr9.frozen 3
                have b4 : w9.cell? ⟨w.heap.size + 1 + 1, 4, none⟩ = some (.slice none 0 0) := hr9.cell 4
                have f4 : w9.frozen? ⟨w.heap.size + 1 + 1, 4, none⟩ = false := hr9.frozen 4
                have HR9 : Hid (Bk w9 (w.heap.size + 1 + 1) 24 zc) := hr9
                have HT9 : Hid (Tn [w.heap.size] w8 w9) := ht9
                clear hk9 hr9 ht9
                go_wp2
                obtain ⟨we, hwe⟩ : ∃ we, we = put5 w9 (w.heap.size + 1 + 1) (.bool leaf) (.string lo) (.string hi) (.int .i64 r) (.slice q9 (len + 1) c9) := ⟨_, rfl⟩
                have hA : Bk we (w.heap.size + 1 + 1) 24 #[.bool leaf, .string lo, .string hi, .int .i64 r, .slice q9 (len + 1) c9] := by rw [hwe]; exact Bk.five HR9.out _ _ _ _ _
                have ht : Tn [w.heap.size + 1 + 1] w9 we := by rw [hwe]; exact (Tn.refl _ _).five (.inl (by simp)) _ _ _ _ _
                unfold put5 at hwe
                rw [← hwe]
                clear hwe
                refine bodyPost_ret (results_two (cs := [.bool leaf, .string lo, .string hi, .int .i64 r, .slice q9 (len + 1) c9]) rfl rfl pg_agg pg_size rfl hA) rfl ?_
                rw [HQ.out]
                have hs0 := HR1.out.lt
                have t8 : Tn [w.heap.size, w.heap.size + 1 + 1] w8 we := (HT9.out.mono (by simp)).trans ht (by simp)
                have hB8 := HB1.out.trans (HB8.out.mono HB1.out.size)
                have hsw := HW9.out.size
                have hdl : (l.take k ++ [e] ++ l.drop k).length = (len + 1) := by have := HL.out; first | (simp; done) | (simp; omega) | (simp [List.eq_nil_of_length_eq_zero HL.out])
                refine ⟨_, rfl, ⟨q9, c9, by simp only [hdl], ?_⟩, hB8.trans (t8.below hB8.size (by simp; omega))⟩
                simp only [hdl]
                have hsg := (HO8.out.seg).tn t8 (by intro y hy; simp at hy; omega)
                have hsb := HB1.out.size
                exact (show Seg we wq.heap.size q9 ((len + 1)) c9 (l.take k ++ [e] ++ l.drop k) by simpa using hsg).mono (by omega)
            | false =>
              have HF2 : Hid (k + 1 ≤ l.findIdx (fun x => Ky.lt e.key x.key)) := findIdx_miss HF.out.1 HG.out hq
              cases hle1 : Op.bytesLess x.key.toList e.key.toList with
              | true =>
                clear hq
                go_wp2_with fail
                go_quiet (fail)
                have HF3 : Hid (k + 1 ≤ l.findIdx (fun x => Ky.lt e.key x.key) ∧ Below w1.heap.size w1 (wr.drewN nq)) := ⟨HF2.out, below_drewN HF.out.2 nq⟩
                go_wp2
                go_roundw
                case rel => exact ⟨k + 1, by omega, by go_num, HF3⟩
                case measure => simp [intOf]; omega
              | false =>
                have hle2 : (x.key.toList == e.key.toList) = true := by
                  rw [Ky.lt_total (show Ky.lt x.key e.key = false from hle1) hq]
                  simp
                clear hq
                go_wp2_with fail
                go_quiet (fail)
                have HF3 : Hid (k + 1 ≤ l.findIdx (fun x => Ky.lt e.key x.key) ∧ Below w1.heap.size w1 (wr.drewN nq)) := ⟨HF2.out, below_drewN HF.out.2 nq⟩
                go_wp2
                go_roundw
                case rel => exact ⟨k + 1, by omega, by go_num, HF3⟩
                case measure => simp [intOf]; omega
          · have hli2 : ¬ (k : Int) < (len : Int) := by omega
            have hli3 : decide (k < len) = false := by simp [hlt2]
            obtain rfl : k = len := by omega
            have HK9 : Hid (l.findIdx (fun x => Ky.lt e.key x.key) = k) := by
              have h1 := HF.out.1
              have h2 : l.findIdx (fun x => Ky.lt e.key x.key) ≤ l.length := List.findIdx_le_length
              have h3 := HL.out
              unfold Hid
              omega
            go_wp2_with fail
            go_quiet (fail)
            have HW9 : Hid (Below w1.heap.size w1 (wr.drewN nq)) := below_drewN HF.out.2 nq
            generalize wr.drewN nq = wq at HW9 ⊢
            clear a4 k0 HF
            cases p with
            | none =>
              obtain ⟨rfl, rfl⟩ := HP.out rfl
              have HQ : Hid (out = (⟨leaf, lo, hi, r, l.take 0 ++ [e] ++ l.drop 0⟩, 0)) := by
                rw [Hid, HO3.out, HK9.out]
                simp [Pg.ins]
              have HREST : Hid (∀ W, Below wq.heap.size wq W → Ens W none (l.drop 0)) := fun W hW => HX1.out.below (HW9.out.trans (hW.mono HW9.out.size)) (Nat.le_refl _)
              clear HO2 HO3 HK9
              go_wp2_with fail
              have HS : Hid (∀ w', Below wq.heap.size wq w' → w'.cell? ⟨w.heap.size, 4, none⟩ = some (.slice none 0 0) ∧ w'.cell? ⟨w.heap.size + 1, 0, none⟩ = some (.string e.key) ∧ w'.cell? ⟨w.heap.size + 1, 1, none⟩ = some (.int .i64 e.s) ∧ w'.cell? ⟨w.heap.size + 1, 2, none⟩ = some (.int .i64 e.g) ∧ w'.cell? ⟨w.heap.size + 1, 3, none⟩ = some (.int .i64 e.c)) := fun w' hW => by
                have h1 := HW9.out.trans (hW.mono HW9.out.size)
                have h2 := HK1.out.below h1 HK1.out.lt
                have h3 := HE1.out.below h1 HE1.out.lt
                exact ⟨h2.cell 4, h3.cell 0, h3.cell 1, h3.cell 2, h3.cell 3⟩
              have HA1 : Hid _ := app_one (w0 := wq) (B0 := 0) (Nat.zero_le _) (l := []) (l2 := l.take 0) (p := none) (m := 0) (c := 0) (by rw [List.length_take]; have := HL.out; omega) (fun W' hW' => (HX1.out.below (HW9.out.trans (hW'.mono HW9.out.size)) (Nat.le_refl _)).take 0) (fun h => ⟨rfl, rfl⟩) (by first | (simp; done) | (simp; omega) | (have := HL.out; simp; omega))
              have HA2 : Hid _ := app_entry (w0 := wq) (l := [] ++ l.take 0) (e := e) (by first | (simp; done) | (simp; omega) | (have := HL.out; simp; omega))
              have HA3 : Hid _ := app_one (w0 := wq) (B0 := 0) (Nat.zero_le _) (l := [] ++ l.take 0 ++ [e]) (l2 := l.drop 0) (p := none) (m := (0 - 0)) (c := 0) (by rw [List.length_drop, HL.out]; try omega) (fun W' hW' => HREST.out W' hW') (fun h => ⟨rfl, rfl⟩) (by have := HL.out; first | (simp; done) | (simp; omega))
              have hS := HS.out wq.drew (Below.refl _ _).drew
              have hbD : Below wq.heap.size wq wq.drew := (Below.refl _ _).drew
              refine wp_region_mid (S := (fun w' => w'.cell? ⟨w.heap.size, 4, none⟩ = some (.slice none 0 0) ∧ w'.cell? ⟨w.heap.size + 1, 0, none⟩ = some (.string e.key) ∧ w'.cell? ⟨w.heap.size + 1, 1, none⟩ = some (.int .i64 e.s) ∧ w'.cell? ⟨w.heap.size + 1, 2, none⟩ = some (.int .i64 e.g) ∧ w'.cell? ⟨w.heap.size + 1, 3, none⟩ = some (.int .i64 e.c))) 15 (by kernel_rfl) ?_
              refine wpAnyM_take (i := 0) [] (oi := { dst := some 67, op := Op.move (Operand.tmp 6), type := 22, pos := _, after := #[], guard := none }) (v := .slice none 0 0) rfl (by kernel_rfl) (by kernel_rfl) (by kernel_rfl) (by kernel_rfl) (fun _ _ _ h => h) (Or.inl ⟨by rfl, ?_⟩) hS ?_
              · (intro w' hSw; obtain ⟨m0, m1, m2, m3, m4⟩ := hSw; go_simp; try with_reducible rfl)
              try simp only [Act.put, List.setIfInBounds_toArray, List.set_cons_zero, List.set_cons_succ]
              refine wpAnyM_take (i := 1) [] (oi := { dst := some 68, op := Op.fieldAddr 24 (Operand.tmp 2) 4, type := 0, pos := _, after := #[], guard := none }) (v := ?_) rfl (by kernel_rfl) (by kernel_rfl) (by kernel_rfl) (by kernel_rfl) (fun _ _ _ h => h) (Or.inl ⟨by rfl, ?_⟩) hS ?_
              rotate_left
              · (intro w' hSw; obtain ⟨m0, m1, m2, m3, m4⟩ := hSw; go_simp; try with_reducible rfl)
              try simp only [Act.put, List.setIfInBounds_toArray, List.set_cons_zero, List.set_cons_succ]
              refine wpAnyM_take (i := 2) [] (oi := { dst := some 69, op := Op.load 22 (Operand.tmp 68), type := 22, pos := _, after := #[{ on := 1, ground := Ground.data }], guard := none }) (v := .slice none 0 0) rfl (by kernel_rfl) (by kernel_rfl) (by kernel_rfl) (by kernel_rfl) (fun _ _ _ h => h) (Or.inl ⟨by rfl, ?_⟩) hS ?_
              · (intro w' hSw; obtain ⟨m0, m1, m2, m3, m4⟩ := hSw; go_simp; try with_reducible rfl)
              try simp only [Act.put, List.setIfInBounds_toArray, List.set_cons_zero, List.set_cons_succ]
              refine wpAnyM_take (i := 3) [] (oi := { dst := some 70, op := Op.move (Operand.tmp 8), type := 3, pos := _, after := #[], guard := none }) (v := .int .i64 (0 : Int)) rfl (by kernel_rfl) (by kernel_rfl) (by kernel_rfl) (by kernel_rfl) (fun _ _ _ h => h) (Or.inl ⟨by rfl, ?_⟩) hS ?_
              · (intro w' hSw; obtain ⟨m0, m1, m2, m3, m4⟩ := hSw; go_simp; try with_reducible rfl)
              try simp only [Act.put, List.setIfInBounds_toArray, List.set_cons_zero, List.set_cons_succ]
              refine wpAnyM_take (i := 4) [] (oi := { dst := some 71, op := Op.slice 22 (Operand.tmp 69) none (some (Operand.tmp 70)) none, type := 22, pos := _, after := #[{ on := 2, ground := Ground.data }, { on := 3, ground := Ground.data }], guard := none }) (v := .slice none 0 0) rfl (by kernel_rfl) (by kernel_rfl) (by kernel_rfl) (by kernel_rfl) (fun _ _ _ h => h) (Or.inl ⟨by rfl, ?_⟩) hS ?_
              · (intro w' hSw; obtain ⟨m0, m1, m2, m3, m4⟩ := hSw; go_simp; try with_reducible rfl)
              try simp only [Act.put, List.setIfInBounds_toArray, List.set_cons_zero, List.set_cons_succ]
              refine wpAnyM_take (i := 6) [] (oi := { dst := some 73, op := Op.load 28 (Operand.tmp 3), type := 28, pos := _, after := #[], guard := none }) (v := .agg #[.string e.key, .int .i64 e.s, .int .i64 e.g, .int .i64 e.c]) rfl (by kernel_rfl) (by kernel_rfl) (by kernel_rfl) (by kernel_rfl) (fun _ _ _ h => h) (Or.inl ⟨by rfl, ?_⟩) hS ?_
              · (intro w' hSw; obtain ⟨m0, m1, m2, m3, m4⟩ := hSw; go_simp; try with_reducible rfl)
              try simp only [Act.put, List.setIfInBounds_toArray, List.set_cons_zero, List.set_cons_succ]
              refine wpAnyM_take (i := 9) [] (oi := { dst := some 76, op := Op.fieldAddr 24 (Operand.tmp 2) 4, type := 0, pos := _, after := #[], guard := none }) (v := ?_) rfl (by kernel_rfl) (by kernel_rfl) (by kernel_rfl) (by kernel_rfl) (fun _ _ _ h => h) (Or.inl ⟨by rfl, ?_⟩) hS ?_
              rotate_left
              · (intro w' hSw; obtain ⟨m0, m1, m2, m3, m4⟩ := hSw; go_simp; try with_reducible rfl)
              try simp only [Act.put, List.setIfInBounds_toArray, List.set_cons_zero, List.set_cons_succ]
              refine wpAnyM_take (i := 10) [] (oi := { dst := some 77, op := Op.load 22 (Operand.tmp 76), type := 22, pos := _, after := #[{ on := 9, ground := Ground.data }], guard := none }) (v := .slice none 0 0) rfl (by kernel_rfl) (by kernel_rfl) (by kernel_rfl) (by kernel_rfl) (fun _ _ _ h => h) (Or.inl ⟨by rfl, ?_⟩) hS ?_
              · (intro w' hSw; obtain ⟨m0, m1, m2, m3, m4⟩ := hSw; go_simp; try with_reducible rfl)
              try simp only [Act.put, List.setIfInBounds_toArray, List.set_cons_zero, List.set_cons_succ]
              refine wpAnyM_take (i := 11) [] (oi := { dst := some 78, op := Op.move (Operand.tmp 8), type := 3, pos := _, after := #[], guard := none }) (v := .int .i64 (0 : Int)) rfl (by kernel_rfl) (by kernel_rfl) (by kernel_rfl) (by kernel_rfl) (fun _ _ _ h => h) (Or.inl ⟨by rfl, ?_⟩) hS ?_
              · (intro w' hSw; obtain ⟨m0, m1, m2, m3, m4⟩ := hSw; go_simp; try with_reducible rfl)
              try simp only [Act.put, List.setIfInBounds_toArray, List.set_cons_zero, List.set_cons_succ]
              refine wpAnyM_take (i := 12) [] (oi := { dst := some 79, op := Op.slice 22 (Operand.tmp 77) (some (Operand.tmp 78)) none none, type := 22, pos := _, after := #[{ on := 10, ground := Ground.data }, { on := 11, ground := Ground.data }], guard := none }) (v := .slice none (0 - 0) 0) rfl (by kernel_rfl) (by kernel_rfl) (by kernel_rfl) (by kernel_rfl) (fun _ _ _ h => h) (Or.inl ⟨by rfl, ?_⟩) hS ?_
              · (intro w' hSw; obtain ⟨m0, m1, m2, m3, m4⟩ := hSw; go_simp; try with_reducible rfl)
              try simp only [Act.put, List.setIfInBounds_toArray, List.set_cons_zero, List.set_cons_succ]
              refine wpAnyM_ready (rs := [5, 7]) (by kernel_rfl) (by simp) ?_
              refine AllReadyM.cons (o := { dst := some 72, op := Op.call { callee := Callee.builtin Builtin.append, args := #[Operand.tmp 67, Operand.tmp 71], argTypes := #[22, 22] }, type := 22, pos := _, after := #[{ on := 0, ground := Ground.data }, { on := 4, ground := Ground.data }], guard := none }) rfl (fun K hK => ?_) (AllReadyM.cons (o := { dst := some 74, op := Op.buildSlice 22 1 #[(0, Operand.tmp 73)], type := 22, pos := _, after := #[{ on := 6, ground := Ground.data }], guard := none }) rfl (fun K hK => ?_) AllReadyM.nil)
              · have HK9' : Hid (∀ a w, _ → K a w) := hK
                clear hK
                obtain ⟨v1, w6, hr1, ho1, hb6, -⟩ := HA1.out _ (.slice none 0 0) hbD (OwnE.nil _ _)
                refine step_appR rfl _ _ _ rfl _ _ rfl rfl hr1 ?_
                refine HK9'.out _ _ ⟨fun _ => HS.out _ hb6, ?_⟩
                clear HK9' K
                try simp only [Act.put, List.setIfInBounds_toArray, List.set_cons_zero, List.set_cons_succ]
                refine wpAnyM_ready (rs := [7]) (by kernel_rfl) (by simp) ?_
                refine AllReadyM.cons (o := { dst := some 74, op := Op.buildSlice 22 1 #[(0, Operand.tmp 73)], type := 22, pos := _, after := #[{ on := 6, ground := Ground.data }], guard := none }) rfl (fun K hK => ?_) AllReadyM.nil
                have HK9 : Hid (∀ a w, _ → K a w) := hK
                clear hK
                go_simp
                have hb6' : Below wq.heap.size wq (w6.alloc (.cells #[.string e.key, .int .i64 e.s, .int .i64 e.g, .int .i64 e.c] 28)) := hb6.alloc hb6.size _
                refine HK9.out _ _ ⟨fun _ => HS.out _ hb6', ?_⟩
                clear HK9 K
                try simp only [Act.put, List.setIfInBounds_toArray, List.set_cons_zero, List.set_cons_succ]
                have ho1' := ho1.below ((Below.refl _ w6).alloc (Nat.le_refl _) (.cells #[.string e.key, .int .i64 e.s, .int .i64 e.g, .int .i64 e.c] 28)) (Nat.le_refl _)
                refine wpAnyM_ready (rs := [8]) (by kernel_rfl) (by simp) ?_
                refine AllReadyM.cons (o := { dst := some 75, op := Op.call { callee := Callee.builtin Builtin.append, args := #[Operand.tmp 72, Operand.tmp 74], argTypes := #[22, 22] }, type := 22, pos := _, after := #[{ on := 5, ground := Ground.data }, { on := 7, ground := Ground.data }, { on := 5, ground := Ground.chain }], guard := none }) rfl (fun K hK => ?_) AllReadyM.nil
                have HK9 : Hid (∀ a w, _ → K a w) := hK
                clear hK
                obtain ⟨v2, w7, hr2, ho2, hb7⟩ := HA2.out _ v1 w6.heap.size hb6' ho1' (ens_one w6 e)
                refine step_appR rfl _ _ _ rfl _ _ rfl (by go_simp) hr2 ?_
                refine HK9.out _ _ ⟨fun _ => HS.out _ hb7, ?_⟩
                clear HK9 K
                try simp only [Act.put, List.setIfInBounds_toArray, List.set_cons_zero, List.set_cons_succ]
                refine wpAnyM_ready (rs := [13]) (by kernel_rfl) (by simp) ?_
                refine AllReadyM.cons (o := { dst := some 80, op := Op.call { callee := Callee.builtin Builtin.append, args := #[Operand.tmp 75, Operand.tmp 79], argTypes := #[22, 22] }, type := 22, pos := _, after := #[{ on := 8, ground := Ground.data }, { on := 12, ground := Ground.data }, { on := 8, ground := Ground.chain }], guard := none }) rfl (fun K hK => ?_) AllReadyM.nil
                have HK9 : Hid (∀ a w, _ → K a w) := hK
                clear hK
                obtain ⟨v3, w8, hr3, ho3, hb8, -⟩ := HA3.out _ v2 hb7 ho2
                refine step_appR rfl _ _ _ rfl _ _ rfl rfl hr3 ?_
                refine HK9.out _ _ ⟨fun _ => HS.out _ hb8, ?_⟩
                clear HK9 K
                try simp only [Act.put, List.setIfInBounds_toArray, List.set_cons_zero, List.set_cons_succ]
                obtain ⟨q9, c9, hv9, -, -⟩ := ho3.ens
                subst hv9
                have HO8 : Hid (OwnE w8 wq.heap.size (.slice q9 ([] ++ l.take 0 ++ [e] ++ l.drop 0).length c9) ([] ++ l.take 0 ++ [e] ++ l.drop 0)) := ho3
                have hln : ([] ++ l.take 0 ++ [e] ++ l.drop 0).length = (0 + 1) := by have := HL.out; first | (simp; done) | (simp; omega) | (simp [List.eq_nil_of_length_eq_zero HL.out])
                rw [hln] at HO8
                rw [hln]
                clear hln
                have HB8 : Hid (Below w1.heap.size w1 w8) := HW9.out.trans (hb8.mono HW9.out.size)
                have hk8 := HK1.out.below HB8.out HK1.out.lt
                have hz8 := HR1.out.below HB8.out HR1.out.lt
                have a4' : w8.cell? ⟨w.heap.size, 4, none⟩ = some (.slice none 0 0) := hk8.cell 4
                have z4' : w8.frozen? ⟨w.heap.size, 4, none⟩ = false := hk8.frozen 4
                refine wpAnyM_ready (rs := [14]) (by kernel_rfl) (by simp) ?_
                refine AllReadyM.cons (o := { dst := some 81, op := Op.fieldAddr 24 (Operand.tmp 2) 4, type := 0, pos := _, after := #[{ on := 0, ground := Ground.phase }, { on := 1, ground := Ground.phase }, { on := 2, ground := Ground.phase }, { on := 3, ground := Ground.phase }, { on := 4, ground := Ground.phase }, { on := 5, ground := Ground.phase }, { on := 6, ground := Ground.phase }, { on := 7, ground := Ground.phase }, { on := 8, ground := Ground.phase }, { on := 9, ground := Ground.phase }, { on := 10, ground := Ground.phase }, { on := 11, ground := Ground.phase }, { on := 12, ground := Ground.phase }, { on := 13, ground := Ground.phase }], guard := none }) rfl (fun K hK => ?_) AllReadyM.nil
                have HK9 : Hid (∀ a w, _ → K a w) := hK
                clear hK
                go_simp
                refine HK9.out _ _ ⟨fun _ => HS.out _ hb8, ?_⟩
                clear HK9 K
                try simp only [Act.put, List.setIfInBounds_toArray, List.set_cons_zero, List.set_cons_succ]
                refine wpAnyM_ready (rs := [15]) (by kernel_rfl) (by simp) ?_
                refine AllReadyM.cons (o := { dst := none, op := Op.store 22 (Operand.tmp 81) (Operand.tmp 80), type := 0, pos := _, after := #[{ on := 14, ground := Ground.data }, { on := 13, ground := Ground.data }, { on := 13, ground := Ground.chain }, { on := 0, ground := Ground.phase }, { on := 1, ground := Ground.phase }, { on := 2, ground := Ground.phase }, { on := 3, ground := Ground.phase }, { on := 4, ground := Ground.phase }, { on := 5, ground := Ground.phase }, { on := 6, ground := Ground.phase }, { on := 7, ground := Ground.phase }, { on := 8, ground := Ground.phase }, { on := 9, ground := Ground.phase }, { on := 10, ground := Ground.phase }, { on := 11, ground := Ground.phase }, { on := 12, ground := Ground.phase }, { on := 13, ground := Ground.phase }], guard := none }) rfl (fun K hK => ?_) AllReadyM.nil
                have HK9 : Hid (∀ a w, _ → K a w) := hK
                clear hK
                go_simp
                refine HK9.out _ _ ⟨fun h => absurd h (by omega), ?_⟩
                clear HK9 K
                try simp only [Act.put, List.setIfInBounds_toArray, List.set_cons_zero, List.set_cons_succ]
                refine wpAnyM_done (by kernel_rfl) ?_ _
                obtain ⟨w9, hw9⟩ : ∃ w9, w8.setCell ⟨w.heap.size, 4, none⟩ (.slice q9 (0 + 1) c9) = w9 := ⟨_, rfl⟩
                have hk9 : Bk w9 w.heap.size 24 #[.bool leaf, .string lo, .string hi, .int .i64 r, .slice q9 (0 + 1) c9] := by rw [← hw9]; exact hk8.set 4 _
                have hr9 : Bk w9 (w.heap.size + 1 + 1) 24 zc := by rw [← hw9]; exact hz8.other (by simp; omega) _
                have ht9 : Tn [w.heap.size] w8 w9 := by rw [← hw9]; exact (Tn.refl _ _).setCell (.inl (by simp)) _
                rw [hw9]
                clear hw9 a4' z4' hS
                have a0 : w9.cell? ⟨w.heap.size, 0, none⟩ = some (.bool leaf) := hk9.cell 0
                have a1 : w9.cell? ⟨w.heap.size, 1, none⟩ = some (.string lo) := hk9.cell 1
                have a2 : w9.cell? ⟨w.heap.size, 2, none⟩ = some (.string hi) := hk9.cell 2
                have a3 : w9.cell? ⟨w.heap.size, 3, none⟩ = some (.int .i64 r) := hk9.cell 3
                have a4 : w9.cell? ⟨w.heap.size, 4, none⟩ = some (.slice q9 (0 + 1) c9) := hk9.cell 4
                have b0 : w9.cell? ⟨w.heap.size + 1 + 1, 0, none⟩ = some (.bool false) := hr9.cell 0
                have f0 : w9.frozen? ⟨w.heap.size + 1 + 1, 0, none⟩ = false := hr9.frozen 0
                have b1 : w9.cell? ⟨w.heap.size + 1 + 1, 1, none⟩ = some (.string ⟨#[]⟩) := hr9.cell 1
                have f1 : w9.frozen? ⟨w.heap.size + 1 + 1, 1, none⟩ = false := hr9.frozen 1
                have b2 : w9.cell? ⟨w.heap.size + 1 + 1, 2, none⟩ = some (.string ⟨#[]⟩) := hr9.cell 2
                have f2 : w9.frozen? ⟨w.heap.size + 1 + 1, 2, none⟩ = false := hr9.frozen 2
                have b3 : w9.cell? ⟨w.heap.size + 1 + 1, 3, none⟩ = some (.int .i64 0) := hr9.cell 3
                have f3 : w9.frozen? ⟨w.heap.size + 1 + 1, 3, none⟩ = false := hr9.frozen 3
                have b4 : w9.cell? ⟨w.heap.size + 1 + 1, 4, none⟩ = some (.slice none 0 0) := hr9.cell 4
                have f4 : w9.frozen? ⟨w.heap.size + 1 + 1, 4, none⟩ = false := hr9.frozen 4
                have HR9 : Hid (Bk w9 (w.heap.size + 1 + 1) 24 zc) := hr9
                have HT9 : Hid (Tn [w.heap.size] w8 w9) := ht9
                clear hk9 hr9 ht9
                go_wp2
                obtain ⟨we, hwe⟩ : ∃ we, we = put5 w9 (w.heap.size + 1 + 1) (.bool leaf) (.string lo) (.string hi) (.int .i64 r) (.slice q9 (0 + 1) c9) := ⟨_, rfl⟩
                have hA : Bk we (w.heap.size + 1 + 1) 24 #[.bool leaf, .string lo, .string hi, .int .i64 r, .slice q9 (0 + 1) c9] := by rw [hwe]; exact Bk.five HR9.out _ _ _ _ _
                have ht : Tn [w.heap.size + 1 + 1] w9 we := by rw [hwe]; exact (Tn.refl _ _).five (.inl (by simp)) _ _ _ _ _
                unfold put5 at hwe
                rw [← hwe]
                clear hwe
                refine bodyPost_ret (results_two (cs := [.bool leaf, .string lo, .string hi, .int .i64 r, .slice q9 (0 + 1) c9]) rfl rfl pg_agg pg_size rfl hA) rfl ?_
                rw [HQ.out]
                have hs0 := HR1.out.lt
                have t8 : Tn [w.heap.size, w.heap.size + 1 + 1] w8 we := (HT9.out.mono (by simp)).trans ht (by simp)
                have hB8 := HB1.out.trans (HB8.out.mono HB1.out.size)
                have hsw := HW9.out.size
                have hdl : (l.take 0 ++ [e] ++ l.drop 0).length = (0 + 1) := by have := HL.out; first | (simp; done) | (simp; omega) | (simp [List.eq_nil_of_length_eq_zero HL.out])
                refine ⟨_, rfl, ⟨q9, c9, by simp only [hdl], ?_⟩, hB8.trans (t8.below hB8.size (by simp; omega))⟩
                simp only [hdl]
                have hsg := (HO8.out.seg).tn t8 (by intro y hy; simp at hy; omega)
                have hsb := HB1.out.size
                exact (show Seg we wq.heap.size q9 ((0 + 1)) c9 (l.take 0 ++ [e] ++ l.drop 0) by simpa using hsg).mono (by omega)
              · have HK9' : Hid (∀ a w, _ → K a w) := hK
                clear hK
                go_simp
                have hbE : Below wq.heap.size wq (wq.drew.alloc (.cells #[.string e.key, .int .i64 e.s, .int .i64 e.g, .int .i64 e.c] 28)) := hbD.alloc (Nat.le_refl _) _
                refine HK9'.out _ _ ⟨fun _ => HS.out _ hbE, ?_⟩
                clear HK9' K
                try simp only [Act.put, List.setIfInBounds_toArray, List.set_cons_zero, List.set_cons_succ]
                refine wpAnyM_ready (rs := [5]) (by kernel_rfl) (by simp) ?_
                refine AllReadyM.cons (o := { dst := some 72, op := Op.call { callee := Callee.builtin Builtin.append, args := #[Operand.tmp 67, Operand.tmp 71], argTypes := #[22, 22] }, type := 22, pos := _, after := #[{ on := 0, ground := Ground.data }, { on := 4, ground := Ground.data }], guard := none }) rfl (fun K hK => ?_) AllReadyM.nil
                have HK9 : Hid (∀ a w, _ → K a w) := hK
                clear hK
                obtain ⟨v1, w6, hr1, ho1, hb6, hb6E⟩ := HA1.out _ (.slice none 0 0) hbE (OwnE.nil _ _)
                refine step_appR rfl _ _ _ rfl _ _ rfl rfl hr1 ?_
                refine HK9.out _ _ ⟨fun _ => HS.out _ hb6, ?_⟩
                clear HK9 K
                try simp only [Act.put, List.setIfInBounds_toArray, List.set_cons_zero, List.set_cons_succ]
                have hent : Ens w6 (some ⟨wq.heap.size, 0, none⟩) [e] := (ens_one wq.drew e).below (hb6E rfl) (Nat.le_refl _)
                refine wpAnyM_ready (rs := [8]) (by kernel_rfl) (by simp) ?_
                refine AllReadyM.cons (o := { dst := some 75, op := Op.call { callee := Callee.builtin Builtin.append, args := #[Operand.tmp 72, Operand.tmp 74], argTypes := #[22, 22] }, type := 22, pos := _, after := #[{ on := 5, ground := Ground.data }, { on := 7, ground := Ground.data }, { on := 5, ground := Ground.chain }], guard := none }) rfl (fun K hK => ?_) AllReadyM.nil
                have HK9 : Hid (∀ a w, _ → K a w) := hK
                clear hK
                obtain ⟨v2, w7, hr2, ho2, hb7⟩ := HA2.out _ v1 wq.heap.size hb6 ho1 hent
                refine step_appR rfl _ _ _ rfl _ _ rfl (by go_simp) hr2 ?_
                refine HK9.out _ _ ⟨fun _ => HS.out _ hb7, ?_⟩
                clear HK9 K
                try simp only [Act.put, List.setIfInBounds_toArray, List.set_cons_zero, List.set_cons_succ]
                refine wpAnyM_ready (rs := [13]) (by kernel_rfl) (by simp) ?_
                refine AllReadyM.cons (o := { dst := some 80, op := Op.call { callee := Callee.builtin Builtin.append, args := #[Operand.tmp 75, Operand.tmp 79], argTypes := #[22, 22] }, type := 22, pos := _, after := #[{ on := 8, ground := Ground.data }, { on := 12, ground := Ground.data }, { on := 8, ground := Ground.chain }], guard := none }) rfl (fun K hK => ?_) AllReadyM.nil
                have HK9 : Hid (∀ a w, _ → K a w) := hK
                clear hK
                obtain ⟨v3, w8, hr3, ho3, hb8, -⟩ := HA3.out _ v2 hb7 ho2
                refine step_appR rfl _ _ _ rfl _ _ rfl rfl hr3 ?_
                refine HK9.out _ _ ⟨fun _ => HS.out _ hb8, ?_⟩
                clear HK9 K
                try simp only [Act.put, List.setIfInBounds_toArray, List.set_cons_zero, List.set_cons_succ]
                obtain ⟨q9, c9, hv9, -, -⟩ := ho3.ens
                subst hv9
                have HO8 : Hid (OwnE w8 wq.heap.size (.slice q9 ([] ++ l.take 0 ++ [e] ++ l.drop 0).length c9) ([] ++ l.take 0 ++ [e] ++ l.drop 0)) := ho3
                have hln : ([] ++ l.take 0 ++ [e] ++ l.drop 0).length = (0 + 1) := by have := HL.out; first | (simp; done) | (simp; omega) | (simp [List.eq_nil_of_length_eq_zero HL.out])
                rw [hln] at HO8
                rw [hln]
                clear hln
                have HB8 : Hid (Below w1.heap.size w1 w8) := HW9.out.trans (hb8.mono HW9.out.size)
                have hk8 := HK1.out.below HB8.out HK1.out.lt
                have hz8 := HR1.out.below HB8.out HR1.out.lt
                have a4' : w8.cell? ⟨w.heap.size, 4, none⟩ = some (.slice none 0 0) := hk8.cell 4
                have z4' : w8.frozen? ⟨w.heap.size, 4, none⟩ = false := hk8.frozen 4
                refine wpAnyM_ready (rs := [14]) (by kernel_rfl) (by simp) ?_
                refine AllReadyM.cons (o := { dst := some 81, op := Op.fieldAddr 24 (Operand.tmp 2) 4, type := 0, pos := _, after := #[{ on := 0, ground := Ground.phase }, { on := 1, ground := Ground.phase }, { on := 2, ground := Ground.phase }, { on := 3, ground := Ground.phase }, { on := 4, ground := Ground.phase }, { on := 5, ground := Ground.phase }, { on := 6, ground := Ground.phase }, { on := 7, ground := Ground.phase }, { on := 8, ground := Ground.phase }, { on := 9, ground := Ground.phase }, { on := 10, ground := Ground.phase }, { on := 11, ground := Ground.phase }, { on := 12, ground := Ground.phase }, { on := 13, ground := Ground.phase }], guard := none }) rfl (fun K hK => ?_) AllReadyM.nil
                have HK9 : Hid (∀ a w, _ → K a w) := hK
                clear hK
                go_simp
                refine HK9.out _ _ ⟨fun _ => HS.out _ hb8, ?_⟩
                clear HK9 K
                try simp only [Act.put, List.setIfInBounds_toArray, List.set_cons_zero, List.set_cons_succ]
                refine wpAnyM_ready (rs := [15]) (by kernel_rfl) (by simp) ?_
                refine AllReadyM.cons (o := { dst := none, op := Op.store 22 (Operand.tmp 81) (Operand.tmp 80), type := 0, pos := _, after := #[{ on := 14, ground := Ground.data }, { on := 13, ground := Ground.data }, { on := 13, ground := Ground.chain }, { on := 0, ground := Ground.phase }, { on := 1, ground := Ground.phase }, { on := 2, ground := Ground.phase }, { on := 3, ground := Ground.phase }, { on := 4, ground := Ground.phase }, { on := 5, ground := Ground.phase }, { on := 6, ground := Ground.phase }, { on := 7, ground := Ground.phase }, { on := 8, ground := Ground.phase }, { on := 9, ground := Ground.phase }, { on := 10, ground := Ground.phase }, { on := 11, ground := Ground.phase }, { on := 12, ground := Ground.phase }, { on := 13, ground := Ground.phase }], guard := none }) rfl (fun K hK => ?_) AllReadyM.nil
                have HK9 : Hid (∀ a w, _ → K a w) := hK
                clear hK
                go_simp
                refine HK9.out _ _ ⟨fun h => absurd h (by omega), ?_⟩
                clear HK9 K
                try simp only [Act.put, List.setIfInBounds_toArray, List.set_cons_zero, List.set_cons_succ]
                refine wpAnyM_done (by kernel_rfl) ?_ _
                obtain ⟨w9, hw9⟩ : ∃ w9, w8.setCell ⟨w.heap.size, 4, none⟩ (.slice q9 (0 + 1) c9) = w9 := ⟨_, rfl⟩
                have hk9 : Bk w9 w.heap.size 24 #[.bool leaf, .string lo, .string hi, .int .i64 r, .slice q9 (0 + 1) c9] := by rw [← hw9]; exact hk8.set 4 _
                have hr9 : Bk w9 (w.heap.size + 1 + 1) 24 zc := by rw [← hw9]; exact hz8.other (by simp; omega) _
                have ht9 : Tn [w.heap.size] w8 w9 := by rw [← hw9]; exact (Tn.refl _ _).setCell (.inl (by simp)) _
                rw [hw9]
                clear hw9 a4' z4' hS
                have a0 : w9.cell? ⟨w.heap.size, 0, none⟩ = some (.bool leaf) := hk9.cell 0
                have a1 : w9.cell? ⟨w.heap.size, 1, none⟩ = some (.string lo) := hk9.cell 1
                have a2 : w9.cell? ⟨w.heap.size, 2, none⟩ = some (.string hi) := hk9.cell 2
                have a3 : w9.cell? ⟨w.heap.size, 3, none⟩ = some (.int .i64 r) := hk9.cell 3
                have a4 : w9.cell? ⟨w.heap.size, 4, none⟩ = some (.slice q9 (0 + 1) c9) := hk9.cell 4
                have b0 : w9.cell? ⟨w.heap.size + 1 + 1, 0, none⟩ = some (.bool false) := hr9.cell 0
                have f0 : w9.frozen? ⟨w.heap.size + 1 + 1, 0, none⟩ = false := hr9.frozen 0
                have b1 : w9.cell? ⟨w.heap.size + 1 + 1, 1, none⟩ = some (.string ⟨#[]⟩) := hr9.cell 1
                have f1 : w9.frozen? ⟨w.heap.size + 1 + 1, 1, none⟩ = false := hr9.frozen 1
                have b2 : w9.cell? ⟨w.heap.size + 1 + 1, 2, none⟩ = some (.string ⟨#[]⟩) := hr9.cell 2
                have f2 : w9.frozen? ⟨w.heap.size + 1 + 1, 2, none⟩ = false := hr9.frozen 2
                have b3 : w9.cell? ⟨w.heap.size + 1 + 1, 3, none⟩ = some (.int .i64 0) := hr9.cell 3
                have f3 : w9.frozen? ⟨w.heap.size + 1 + 1, 3, none⟩ = false := hr9.frozen 3
                have b4 : w9.cell? ⟨w.heap.size + 1 + 1, 4, none⟩ = some (.slice none 0 0) := hr9.cell 4
                have f4 : w9.frozen? ⟨w.heap.size + 1 + 1, 4, none⟩ = false := hr9.frozen 4
                have HR9 : Hid (Bk w9 (w.heap.size + 1 + 1) 24 zc) := hr9
                have HT9 : Hid (Tn [w.heap.size] w8 w9) := ht9
                clear hk9 hr9 ht9
                go_wp2
                obtain ⟨we, hwe⟩ : ∃ we, we = put5 w9 (w.heap.size + 1 + 1) (.bool leaf) (.string lo) (.string hi) (.int .i64 r) (.slice q9 (0 + 1) c9) := ⟨_, rfl⟩
                have hA : Bk we (w.heap.size + 1 + 1) 24 #[.bool leaf, .string lo, .string hi, .int .i64 r, .slice q9 (0 + 1) c9] := by rw [hwe]; exact Bk.five HR9.out _ _ _ _ _
                have ht : Tn [w.heap.size + 1 + 1] w9 we := by rw [hwe]; exact (Tn.refl _ _).five (.inl (by simp)) _ _ _ _ _
                unfold put5 at hwe
                rw [← hwe]
                clear hwe
                refine bodyPost_ret (results_two (cs := [.bool leaf, .string lo, .string hi, .int .i64 r, .slice q9 (0 + 1) c9]) rfl rfl pg_agg pg_size rfl hA) rfl ?_
                rw [HQ.out]
                have hs0 := HR1.out.lt
                have t8 : Tn [w.heap.size, w.heap.size + 1 + 1] w8 we := (HT9.out.mono (by simp)).trans ht (by simp)
                have hB8 := HB1.out.trans (HB8.out.mono HB1.out.size)
                have hsw := HW9.out.size
                have hdl : (l.take 0 ++ [e] ++ l.drop 0).length = (0 + 1) := by have := HL.out; first | (simp; done) | (simp; omega) | (simp [List.eq_nil_of_length_eq_zero HL.out])
                refine ⟨_, rfl, ⟨q9, c9, by simp only [hdl], ?_⟩, hB8.trans (t8.below hB8.size (by simp; omega))⟩
                simp only [hdl]
                have hsg := (HO8.out.seg).tn t8 (by intro y hy; simp at hy; omega)
                have hsb := HB1.out.size
                exact (show Seg we wq.heap.size q9 ((0 + 1)) c9 (l.take 0 ++ [e] ++ l.drop 0) by simpa using hsg).mono (by omega)
            | some ad =>
              have HQ : Hid (out = (⟨leaf, lo, hi, r, l.take k ++ [e] ++ l.drop k⟩, 0)) := by
                rw [Hid, HO3.out, HK9.out]
                simp [Pg.ins]
              obtain ⟨a7, ha7⟩ : ∃ a7 : Addr, (if cap = k then some ad else some (ad.add (k * 4))) = some a7 := by split <;> exact ⟨_, rfl⟩
              have HREST : Hid (∀ W, Below wq.heap.size wq W → Ens W (some a7) (l.drop k)) := fun W hW => by
                rw [List.drop_of_length_le (by have := HL.out; omega)]
                exact Ens.nil _ _
              have E7 : Hid ((if cap = k then some ad else some (ad.add (k * 4))) = some a7) := ha7
              have e1 : (k : Int) ≤ (k : Int) := by omega
              have e2 : (k : Int) ≤ (cap : Int) := by omega
              have e5 : (0 : Int) ≤ (k : Int) := by omega
              clear ha7 HO2 HO3 HK9
              go_wp2_with fail
              have HS : Hid (∀ w', Below wq.heap.size wq w' → w'.cell? ⟨w.heap.size, 4, none⟩ = some (.slice (some ad) k cap) ∧ w'.cell? ⟨w.heap.size + 1, 0, none⟩ = some (.string e.key) ∧ w'.cell? ⟨w.heap.size + 1, 1, none⟩ = some (.int .i64 e.s) ∧ w'.cell? ⟨w.heap.size + 1, 2, none⟩ = some (.int .i64 e.g) ∧ w'.cell? ⟨w.heap.size + 1, 3, none⟩ = some (.int .i64 e.c)) := fun w' hW => by
                have h1 := HW9.out.trans (hW.mono HW9.out.size)
                have h2 := HK1.out.below h1 HK1.out.lt
                have h3 := HE1.out.below h1 HE1.out.lt
                exact ⟨h2.cell 4, h3.cell 0, h3.cell 1, h3.cell 2, h3.cell 3⟩
              have HA1 : Hid _ := app_one (w0 := wq) (B0 := 0) (Nat.zero_le _) (l := []) (l2 := l.take k) (p := (some ad)) (m := k) (c := cap) (by rw [List.length_take]; have := HL.out; omega) (fun W' hW' => (HX1.out.below (HW9.out.trans (hW'.mono HW9.out.size)) (Nat.le_refl _)).take k) (fun h => by cases h) (by first | (simp; done) | (simp; omega) | (have := HL.out; simp; omega))
              have HA2 : Hid _ := app_entry (w0 := wq) (l := [] ++ l.take k) (e := e) (by first | (simp; done) | (simp; omega) | (have := HL.out; simp; omega))
              have HA3 : Hid _ := app_one (w0 := wq) (B0 := 0) (Nat.zero_le _) (l := [] ++ l.take k ++ [e]) (l2 := l.drop k) (p := (some a7)) (m := 0) (c := (cap - k)) (by rw [List.length_drop, HL.out]; try omega) (fun W' hW' => HREST.out W' hW') (fun h => by cases h) (by have := HL.out; first | (simp; done) | (simp; omega))
              have hS := HS.out wq.drew (Below.refl _ _).drew
              have hbD : Below wq.heap.size wq wq.drew := (Below.refl _ _).drew
              refine wp_region_mid (S := (fun w' => w'.cell? ⟨w.heap.size, 4, none⟩ = some (.slice (some ad) k cap) ∧ w'.cell? ⟨w.heap.size + 1, 0, none⟩ = some (.string e.key) ∧ w'.cell? ⟨w.heap.size + 1, 1, none⟩ = some (.int .i64 e.s) ∧ w'.cell? ⟨w.heap.size + 1, 2, none⟩ = some (.int .i64 e.g) ∧ w'.cell? ⟨w.heap.size + 1, 3, none⟩ = some (.int .i64 e.c))) 15 (by kernel_rfl) ?_
              refine wpAnyM_take (i := 0) [] (oi := { dst := some 67, op := Op.move (Operand.tmp 6), type := 22, pos := _, after := #[], guard := none }) (v := .slice none 0 0) rfl (by kernel_rfl) (by kernel_rfl) (by kernel_rfl) (by kernel_rfl) (fun _ _ _ h => h) (Or.inl ⟨by rfl, ?_⟩) hS ?_
              · (intro w' hSw; obtain ⟨m0, m1, m2, m3, m4⟩ := hSw; go_simp; try with_reducible rfl)
              try simp only [Act.put, List.setIfInBounds_toArray, List.set_cons_zero, List.set_cons_succ]
              refine wpAnyM_take (i := 1) [] (oi := { dst := some 68, op := Op.fieldAddr 24 (Operand.tmp 2) 4, type := 0, pos := _, after := #[], guard := none }) (v := ?_) rfl (by kernel_rfl) (by kernel_rfl) (by kernel_rfl) (by kernel_rfl) (fun _ _ _ h => h) (Or.inl ⟨by rfl, ?_⟩) hS ?_
              rotate_left
              · (intro w' hSw; obtain ⟨m0, m1, m2, m3, m4⟩ := hSw; go_simp; try with_reducible rfl)
              try simp only [Act.put, List.setIfInBounds_toArray, List.set_cons_zero, List.set_cons_succ]
              refine wpAnyM_take (i := 2) [] (oi := { dst := some 69, op := Op.load 22 (Operand.tmp 68), type := 22, pos := _, after := #[{ on := 1, ground := Ground.data }], guard := none }) (v := .slice (some ad) k cap) rfl (by kernel_rfl) (by kernel_rfl) (by kernel_rfl) (by kernel_rfl) (fun _ _ _ h => h) (Or.inl ⟨by rfl, ?_⟩) hS ?_
              · (intro w' hSw; obtain ⟨m0, m1, m2, m3, m4⟩ := hSw; go_simp; try with_reducible rfl)
              try simp only [Act.put, List.setIfInBounds_toArray, List.set_cons_zero, List.set_cons_succ]
              refine wpAnyM_take (i := 3) [] (oi := { dst := some 70, op := Op.move (Operand.tmp 8), type := 3, pos := _, after := #[], guard := none }) (v := .int .i64 (k : Int)) rfl (by kernel_rfl) (by kernel_rfl) (by kernel_rfl) (by kernel_rfl) (fun _ _ _ h => h) (Or.inl ⟨by rfl, ?_⟩) hS ?_
              · (intro w' hSw; obtain ⟨m0, m1, m2, m3, m4⟩ := hSw; go_simp; try with_reducible rfl)
              try simp only [Act.put, List.setIfInBounds_toArray, List.set_cons_zero, List.set_cons_succ]
              refine wpAnyM_take (i := 4) [] (oi := { dst := some 71, op := Op.slice 22 (Operand.tmp 69) none (some (Operand.tmp 70)) none, type := 22, pos := _, after := #[{ on := 2, ground := Ground.data }, { on := 3, ground := Ground.data }], guard := none }) (v := .slice (some ad) k cap) rfl (by kernel_rfl) (by kernel_rfl) (by kernel_rfl) (by kernel_rfl) (fun _ _ _ h => h) (Or.inl ⟨by rfl, ?_⟩) hS ?_
              · (intro w' hSw; obtain ⟨m0, m1, m2, m3, m4⟩ := hSw; go_simp; try with_reducible rfl)
              try simp only [Act.put, List.setIfInBounds_toArray, List.set_cons_zero, List.set_cons_succ]
              refine wpAnyM_take (i := 6) [] (oi := { dst := some 73, op := Op.load 28 (Operand.tmp 3), type := 28, pos := _, after := #[], guard := none }) (v := .agg #[.string e.key, .int .i64 e.s, .int .i64 e.g, .int .i64 e.c]) rfl (by kernel_rfl) (by kernel_rfl) (by kernel_rfl) (by kernel_rfl) (fun _ _ _ h => h) (Or.inl ⟨by rfl, ?_⟩) hS ?_
              · (intro w' hSw; obtain ⟨m0, m1, m2, m3, m4⟩ := hSw; go_simp; try with_reducible rfl)
              try simp only [Act.put, List.setIfInBounds_toArray, List.set_cons_zero, List.set_cons_succ]
              refine wpAnyM_take (i := 9) [] (oi := { dst := some 76, op := Op.fieldAddr 24 (Operand.tmp 2) 4, type := 0, pos := _, after := #[], guard := none }) (v := ?_) rfl (by kernel_rfl) (by kernel_rfl) (by kernel_rfl) (by kernel_rfl) (fun _ _ _ h => h) (Or.inl ⟨by rfl, ?_⟩) hS ?_
              rotate_left
              · (intro w' hSw; obtain ⟨m0, m1, m2, m3, m4⟩ := hSw; go_simp; try with_reducible rfl)
              try simp only [Act.put, List.setIfInBounds_toArray, List.set_cons_zero, List.set_cons_succ]
              refine wpAnyM_take (i := 10) [] (oi := { dst := some 77, op := Op.load 22 (Operand.tmp 76), type := 22, pos := _, after := #[{ on := 9, ground := Ground.data }], guard := none }) (v := .slice (some ad) k cap) rfl (by kernel_rfl) (by kernel_rfl) (by kernel_rfl) (by kernel_rfl) (fun _ _ _ h => h) (Or.inl ⟨by rfl, ?_⟩) hS ?_
              · (intro w' hSw; obtain ⟨m0, m1, m2, m3, m4⟩ := hSw; go_simp; try with_reducible rfl)
              try simp only [Act.put, List.setIfInBounds_toArray, List.set_cons_zero, List.set_cons_succ]
              refine wpAnyM_take (i := 11) [] (oi := { dst := some 78, op := Op.move (Operand.tmp 8), type := 3, pos := _, after := #[], guard := none }) (v := .int .i64 (k : Int)) rfl (by kernel_rfl) (by kernel_rfl) (by kernel_rfl) (by kernel_rfl) (fun _ _ _ h => h) (Or.inl ⟨by rfl, ?_⟩) hS ?_
              · (intro w' hSw; obtain ⟨m0, m1, m2, m3, m4⟩ := hSw; go_simp; try with_reducible rfl)
              try simp only [Act.put, List.setIfInBounds_toArray, List.set_cons_zero, List.set_cons_succ]
              refine wpAnyM_take (i := 12) [] (oi := { dst := some 79, op := Op.slice 22 (Operand.tmp 77) (some (Operand.tmp 78)) none none, type := 22, pos := _, after := #[{ on := 10, ground := Ground.data }, { on := 11, ground := Ground.data }], guard := none }) (v := .slice (some a7) 0 (cap - k)) rfl (by kernel_rfl) (by kernel_rfl) (by kernel_rfl) (by kernel_rfl) (fun _ _ _ h => h) (Or.inl ⟨by rfl, ?_⟩) hS ?_
              · (intro w' hSw; obtain ⟨m0, m1, m2, m3, m4⟩ := hSw; go_simp; exact E7.out)
              try simp only [Act.put, List.setIfInBounds_toArray, List.set_cons_zero, List.set_cons_succ]
              refine wpAnyM_ready (rs := [5, 7]) (by kernel_rfl) (by simp) ?_
              refine AllReadyM.cons (o := { dst := some 72, op := Op.call { callee := Callee.builtin Builtin.append, args := #[Operand.tmp 67, Operand.tmp 71], argTypes := #[22, 22] }, type := 22, pos := _, after := #[{ on := 0, ground := Ground.data }, { on := 4, ground := Ground.data }], guard := none }) rfl (fun K hK => ?_) (AllReadyM.cons (o := { dst := some 74, op := Op.buildSlice 22 1 #[(0, Operand.tmp 73)], type := 22, pos := _, after := #[{ on := 6, ground := Ground.data }], guard := none }) rfl (fun K hK => ?_) AllReadyM.nil)
              · have HK9' : Hid (∀ a w, _ → K a w) := hK
                clear hK
                obtain ⟨v1, w6, hr1, ho1, hb6, -⟩ := HA1.out _ (.slice none 0 0) hbD (OwnE.nil _ _)
                refine step_appR rfl _ _ _ rfl _ _ rfl rfl hr1 ?_
                refine HK9'.out _ _ ⟨fun _ => HS.out _ hb6, ?_⟩
                clear HK9' K
                try simp only [Act.put, List.setIfInBounds_toArray, List.set_cons_zero, List.set_cons_succ]
                refine wpAnyM_ready (rs := [7]) (by kernel_rfl) (by simp) ?_
                refine AllReadyM.cons (o := { dst := some 74, op := Op.buildSlice 22 1 #[(0, Operand.tmp 73)], type := 22, pos := _, after := #[{ on := 6, ground := Ground.data }], guard := none }) rfl (fun K hK => ?_) AllReadyM.nil
                have HK9 : Hid (∀ a w, _ → K a w) := hK
                clear hK
                go_simp
                have hb6' : Below wq.heap.size wq (w6.alloc (.cells #[.string e.key, .int .i64 e.s, .int .i64 e.g, .int .i64 e.c] 28)) := hb6.alloc hb6.size _
                refine HK9.out _ _ ⟨fun _ => HS.out _ hb6', ?_⟩
                clear HK9 K
                try simp only [Act.put, List.setIfInBounds_toArray, List.set_cons_zero, List.set_cons_succ]
                have ho1' := ho1.below ((Below.refl _ w6).alloc (Nat.le_refl _) (.cells #[.string e.key, .int .i64 e.s, .int .i64 e.g, .int .i64 e.c] 28)) (Nat.le_refl _)
                refine wpAnyM_ready (rs := [8]) (by kernel_rfl) (by simp) ?_
                refine AllReadyM.cons (o := { dst := some 75, op := Op.call { callee := Callee.builtin Builtin.append, args := #[Operand.tmp 72, Operand.tmp 74], argTypes := #[22, 22] }, type := 22, pos := _, after := #[{ on := 5, ground := Ground.data }, { on := 7, ground := Ground.data }, { on := 5, ground := Ground.chain }], guard := none }) rfl (fun K hK => ?_) AllReadyM.nil
                have HK9 : Hid (∀ a w, _ → K a w) := hK
                clear hK
                obtain ⟨v2, w7, hr2, ho2, hb7⟩ := HA2.out _ v1 w6.heap.size hb6' ho1' (ens_one w6 e)
                refine step_appR rfl _ _ _ rfl _ _ rfl (by go_simp) hr2 ?_
                refine HK9.out _ _ ⟨fun _ => HS.out _ hb7, ?_⟩
                clear HK9 K
                try simp only [Act.put, List.setIfInBounds_toArray, List.set_cons_zero, List.set_cons_succ]
                refine wpAnyM_ready (rs := [13]) (by kernel_rfl) (by simp) ?_
                refine AllReadyM.cons (o := { dst := some 80, op := Op.call { callee := Callee.builtin Builtin.append, args := #[Operand.tmp 75, Operand.tmp 79], argTypes := #[22, 22] }, type := 22, pos := _, after := #[{ on := 8, ground := Ground.data }, { on := 12, ground := Ground.data }, { on := 8, ground := Ground.chain }], guard := none }) rfl (fun K hK => ?_) AllReadyM.nil
                have HK9 : Hid (∀ a w, _ → K a w) := hK
                clear hK
                obtain ⟨v3, w8, hr3, ho3, hb8, -⟩ := HA3.out _ v2 hb7 ho2
                refine step_appR rfl _ _ _ rfl _ _ rfl rfl hr3 ?_
                refine HK9.out _ _ ⟨fun _ => HS.out _ hb8, ?_⟩
                clear HK9 K
                try simp only [Act.put, List.setIfInBounds_toArray, List.set_cons_zero, List.set_cons_succ]
                obtain ⟨q9, c9, hv9, -, -⟩ := ho3.ens
                subst hv9
                have HO8 : Hid (OwnE w8 wq.heap.size (.slice q9 ([] ++ l.take k ++ [e] ++ l.drop k).length c9) ([] ++ l.take k ++ [e] ++ l.drop k)) := ho3
                have hln : ([] ++ l.take k ++ [e] ++ l.drop k).length = (k + 1) := by have := HL.out; first | (simp; done) | (simp; omega) | (simp [List.eq_nil_of_length_eq_zero HL.out])
                rw [hln] at HO8
                rw [hln]
                clear hln
                have HB8 : Hid (Below w1.heap.size w1 w8) := HW9.out.trans (hb8.mono HW9.out.size)
                have hk8 := HK1.out.below HB8.out HK1.out.lt
                have hz8 := HR1.out.below HB8.out HR1.out.lt
                have a4' : w8.cell? ⟨w.heap.size, 4, none⟩ = some (.slice (some ad) k cap) := hk8.cell 4
                have z4' : w8.frozen? ⟨w.heap.size, 4, none⟩ = false := hk8.frozen 4
                refine wpAnyM_ready (rs := [14]) (by kernel_rfl) (by simp) ?_
                refine AllReadyM.cons (o := { dst := some 81, op := Op.fieldAddr 24 (Operand.tmp 2) 4, type := 0, pos := _, after := #[{ on := 0, ground := Ground.phase }, { on := 1, ground := Ground.phase }, { on := 2, ground := Ground.phase }, { on := 3, ground := Ground.phase }, { on := 4, ground := Ground.phase }, { on := 5, ground := Ground.phase }, { on := 6, ground := Ground.phase }, { on := 7, ground := Ground.phase }, { on := 8, ground := Ground.phase }, { on := 9, ground := Ground.phase }, { on := 10, ground := Ground.phase }, { on := 11, ground := Ground.phase }, { on := 12, ground := Ground.phase }, { on := 13, ground := Ground.phase }], guard := none }) rfl (fun K hK => ?_) AllReadyM.nil
                have HK9 : Hid (∀ a w, _ → K a w) := hK
                clear hK
                go_simp
                refine HK9.out _ _ ⟨fun _ => HS.out _ hb8, ?_⟩
                clear HK9 K
                try simp only [Act.put, List.setIfInBounds_toArray, List.set_cons_zero, List.set_cons_succ]
                refine wpAnyM_ready (rs := [15]) (by kernel_rfl) (by simp) ?_
                refine AllReadyM.cons (o := { dst := none, op := Op.store 22 (Operand.tmp 81) (Operand.tmp 80), type := 0, pos := _, after := #[{ on := 14, ground := Ground.data }, { on := 13, ground := Ground.data }, { on := 13, ground := Ground.chain }, { on := 0, ground := Ground.phase }, { on := 1, ground := Ground.phase }, { on := 2, ground := Ground.phase }, { on := 3, ground := Ground.phase }, { on := 4, ground := Ground.phase }, { on := 5, ground := Ground.phase }, { on := 6, ground := Ground.phase }, { on := 7, ground := Ground.phase }, { on := 8, ground := Ground.phase }, { on := 9, ground := Ground.phase }, { on := 10, ground := Ground.phase }, { on := 11, ground := Ground.phase }, { on := 12, ground := Ground.phase }, { on := 13, ground := Ground.phase }], guard := none }) rfl (fun K hK => ?_) AllReadyM.nil
                have HK9 : Hid (∀ a w, _ → K a w) := hK
                clear hK
                go_simp
                refine HK9.out _ _ ⟨fun h => absurd h (by omega), ?_⟩
                clear HK9 K
                try simp only [Act.put, List.setIfInBounds_toArray, List.set_cons_zero, List.set_cons_succ]
                refine wpAnyM_done (by kernel_rfl) ?_ _
                obtain ⟨w9, hw9⟩ : ∃ w9, w8.setCell ⟨w.heap.size, 4, none⟩ (.slice q9 (k + 1) c9) = w9 := ⟨_, rfl⟩
                have hk9 : Bk w9 w.heap.size 24 #[.bool leaf, .string lo, .string hi, .int .i64 r, .slice q9 (k + 1) c9] := by rw [← hw9]; exact hk8.set 4 _
                have hr9 : Bk w9 (w.heap.size + 1 + 1) 24 zc := by rw [← hw9]; exact hz8.other (by simp; omega) _
                have ht9 : Tn [w.heap.size] w8 w9 := by rw [← hw9]; exact (Tn.refl _ _).setCell (.inl (by simp)) _
                rw [hw9]
                clear hw9 a4' z4' hS
                have a0 : w9.cell? ⟨w.heap.size, 0, none⟩ = some (.bool leaf) := hk9.cell 0
                have a1 : w9.cell? ⟨w.heap.size, 1, none⟩ = some (.string lo) := hk9.cell 1
                have a2 : w9.cell? ⟨w.heap.size, 2, none⟩ = some (.string hi) := hk9.cell 2
                have a3 : w9.cell? ⟨w.heap.size, 3, none⟩ = some (.int .i64 r) := hk9.cell 3
                have a4 : w9.cell? ⟨w.heap.size, 4, none⟩ = some (.slice q9 (k + 1) c9) := hk9.cell 4
                have b0 : w9.cell? ⟨w.heap.size + 1 + 1, 0, none⟩ = some (.bool false) := hr9.cell 0
                have f0 : w9.frozen? ⟨w.heap.size + 1 + 1, 0, none⟩ = false := hr9.frozen 0
                have b1 : w9.cell? ⟨w.heap.size + 1 + 1, 1, none⟩ = some (.string ⟨#[]⟩) := hr9.cell 1
                have f1 : w9.frozen? ⟨w.heap.size + 1 + 1, 1, none⟩ = false := hr9.frozen 1
                have b2 : w9.cell? ⟨w.heap.size + 1 + 1, 2, none⟩ = some (.string ⟨#[]⟩) := hr9.cell 2
                have f2 : w9.frozen? ⟨w.heap.size + 1 + 1, 2, none⟩ = false := hr9.frozen 2
                have b3 : w9.cell? ⟨w.heap.size + 1 + 1, 3, none⟩ = some (.int .i64 0) := hr9.cell 3
                have f3 : w9.frozen? ⟨w.heap.size + 1 + 1, 3, none⟩ = false := hr9.frozen 3
                have b4 : w9.cell? ⟨w.heap.size + 1 + 1, 4, none⟩ = some (.slice none 0 0) := hr9.cell 4
                have f4 : w9.frozen? ⟨w.heap.size + 1 + 1, 4, none⟩ = false := hr9.frozen 4
                have HR9 : Hid (Bk w9 (w.heap.size + 1 + 1) 24 zc) := hr9
                have HT9 : Hid (Tn [w.heap.size] w8 w9) := ht9
                clear hk9 hr9 ht9
                go_wp2
                obtain ⟨we, hwe⟩ : ∃ we, we = put5 w9 (w.heap.size + 1 + 1) (.bool leaf) (.string lo) (.string hi) (.int .i64 r) (.slice q9 (k + 1) c9) := ⟨_, rfl⟩
                have hA : Bk we (w.heap.size + 1 + 1) 24 #[.bool leaf, .string lo, .string hi, .int .i64 r, .slice q9 (k + 1) c9] := by rw [hwe]; exact Bk.five HR9.out _ _ _ _ _
                have ht : Tn [w.heap.size + 1 + 1] w9 we := by rw [hwe]; exact (Tn.refl _ _).five (.inl (by simp)) _ _ _ _ _
                unfold put5 at hwe
                rw [← hwe]
                clear hwe
                refine bodyPost_ret (results_two (cs := [.bool leaf, .string lo, .string hi, .int .i64 r, .slice q9 (k + 1) c9]) rfl rfl pg_agg pg_size rfl hA) rfl ?_
                rw [HQ.out]
                have hs0 := HR1.out.lt
                have t8 : Tn [w.heap.size, w.heap.size + 1 + 1] w8 we := (HT9.out.mono (by simp)).trans ht (by simp)
                have hB8 := HB1.out.trans (HB8.out.mono HB1.out.size)
                have hsw := HW9.out.size
                have hdl : (l.take k ++ [e] ++ l.drop k).length = (k + 1) := by have := HL.out; first | (simp; done) | (simp; omega) | (simp [List.eq_nil_of_length_eq_zero HL.out])
                refine ⟨_, rfl, ⟨q9, c9, by simp only [hdl], ?_⟩, hB8.trans (t8.below hB8.size (by simp; omega))⟩
                simp only [hdl]
                have hsg := (HO8.out.seg).tn t8 (by intro y hy; simp at hy; omega)
                have hsb := HB1.out.size
                exact (show Seg we wq.heap.size q9 ((k + 1)) c9 (l.take k ++ [e] ++ l.drop k) by simpa using hsg).mono (by omega)
              · have HK9' : Hid (∀ a w, _ → K a w) := hK
                clear hK
                go_simp
                have hbE : Below wq.heap.size wq (wq.drew.alloc (.cells #[.string e.key, .int .i64 e.s, .int .i64 e.g, .int .i64 e.c] 28)) := hbD.alloc (Nat.le_refl _) _
                refine HK9'.out _ _ ⟨fun _ => HS.out _ hbE, ?_⟩
                clear HK9' K
                try simp only [Act.put, List.setIfInBounds_toArray, List.set_cons_zero, List.set_cons_succ]
                refine wpAnyM_ready (rs := [5]) (by kernel_rfl) (by simp) ?_
                refine AllReadyM.cons (o := { dst := some 72, op := Op.call { callee := Callee.builtin Builtin.append, args := #[Operand.tmp 67, Operand.tmp 71], argTypes := #[22, 22] }, type := 22, pos := _, after := #[{ on := 0, ground := Ground.data }, { on := 4, ground := Ground.data }], guard := none }) rfl (fun K hK => ?_) AllReadyM.nil
                have HK9 : Hid (∀ a w, _ → K a w) := hK
                clear hK
                obtain ⟨v1, w6, hr1, ho1, hb6, hb6E⟩ := HA1.out _ (.slice none 0 0) hbE (OwnE.nil _ _)
                refine step_appR rfl _ _ _ rfl _ _ rfl rfl hr1 ?_
                refine HK9.out _ _ ⟨fun _ => HS.out _ hb6, ?_⟩
                clear HK9 K
                try simp only [Act.put, List.setIfInBounds_toArray, List.set_cons_zero, List.set_cons_succ]
                have hent : Ens w6 (some ⟨wq.heap.size, 0, none⟩) [e] := (ens_one wq.drew e).below (hb6E rfl) (Nat.le_refl _)
                refine wpAnyM_ready (rs := [8]) (by kernel_rfl) (by simp) ?_
                refine AllReadyM.cons (o := { dst := some 75, op := Op.call { callee := Callee.builtin Builtin.append, args := #[Operand.tmp 72, Operand.tmp 74], argTypes := #[22, 22] }, type := 22, pos := _, after := #[{ on := 5, ground := Ground.data }, { on := 7, ground := Ground.data }, { on := 5, ground := Ground.chain }], guard := none }) rfl (fun K hK => ?_) AllReadyM.nil
                have HK9 : Hid (∀ a w, _ → K a w) := hK
                clear hK
                obtain ⟨v2, w7, hr2, ho2, hb7⟩ := HA2.out _ v1 wq.heap.size hb6 ho1 hent
                refine step_appR rfl _ _ _ rfl _ _ rfl (by go_simp) hr2 ?_
                refine HK9.out _ _ ⟨fun _ => HS.out _ hb7, ?_⟩
                clear HK9 K
                try simp only [Act.put, List.setIfInBounds_toArray, List.set_cons_zero, List.set_cons_succ]
                refine wpAnyM_ready (rs := [13]) (by kernel_rfl) (by simp) ?_
                refine AllReadyM.cons (o := { dst := some 80, op := Op.call { callee := Callee.builtin Builtin.append, args := #[Operand.tmp 75, Operand.tmp 79], argTypes := #[22, 22] }, type := 22, pos := _, after := #[{ on := 8, ground := Ground.data }, { on := 12, ground := Ground.data }, { on := 8, ground := Ground.chain }], guard := none }) rfl (fun K hK => ?_) AllReadyM.nil
                have HK9 : Hid (∀ a w, _ → K a w) := hK
                clear hK
                obtain ⟨v3, w8, hr3, ho3, hb8, -⟩ := HA3.out _ v2 hb7 ho2
                refine step_appR rfl _ _ _ rfl _ _ rfl rfl hr3 ?_
                refine HK9.out _ _ ⟨fun _ => HS.out _ hb8, ?_⟩
                clear HK9 K
                try simp only [Act.put, List.setIfInBounds_toArray, List.set_cons_zero, List.set_cons_succ]
                obtain ⟨q9, c9, hv9, -, -⟩ := ho3.ens
                subst hv9
                have HO8 : Hid (OwnE w8 wq.heap.size (.slice q9 ([] ++ l.take k ++ [e] ++ l.drop k).length c9) ([] ++ l.take k ++ [e] ++ l.drop k)) := ho3
                have hln : ([] ++ l.take k ++ [e] ++ l.drop k).length = (k + 1) := by have := HL.out; first | (simp; done) | (simp; omega) | (simp [List.eq_nil_of_length_eq_zero HL.out])
                rw [hln] at HO8
                rw [hln]
                clear hln
                have HB8 : Hid (Below w1.heap.size w1 w8) := HW9.out.trans (hb8.mono HW9.out.size)
                have hk8 := HK1.out.below HB8.out HK1.out.lt
                have hz8 := HR1.out.below HB8.out HR1.out.lt
                have a4' : w8.cell? ⟨w.heap.size, 4, none⟩ = some (.slice (some ad) k cap) := hk8.cell 4
                have z4' : w8.frozen? ⟨w.heap.size, 4, none⟩ = false := hk8.frozen 4
                refine wpAnyM_ready (rs := [14]) (by kernel_rfl) (by simp) ?_
                refine AllReadyM.cons (o := { dst := some 81, op := Op.fieldAddr 24 (Operand.tmp 2) 4, type := 0, pos := _, after := #[{ on := 0, ground := Ground.phase }, { on := 1, ground := Ground.phase }, { on := 2, ground := Ground.phase }, { on := 3, ground := Ground.phase }, { on := 4, ground := Ground.phase }, { on := 5, ground := Ground.phase }, { on := 6, ground := Ground.phase }, { on := 7, ground := Ground.phase }, { on := 8, ground := Ground.phase }, { on := 9, ground := Ground.phase }, { on := 10, ground := Ground.phase }, { on := 11, ground := Ground.phase }, { on := 12, ground := Ground.phase }, { on := 13, ground := Ground.phase }], guard := none }) rfl (fun K hK => ?_) AllReadyM.nil
                have HK9 : Hid (∀ a w, _ → K a w) := hK
                clear hK
                go_simp
                refine HK9.out _ _ ⟨fun _ => HS.out _ hb8, ?_⟩
                clear HK9 K
                try simp only [Act.put, List.setIfInBounds_toArray, List.set_cons_zero, List.set_cons_succ]
                refine wpAnyM_ready (rs := [15]) (by kernel_rfl) (by simp) ?_
                refine AllReadyM.cons (o := { dst := none, op := Op.store 22 (Operand.tmp 81) (Operand.tmp 80), type := 0, pos := _, after := #[{ on := 14, ground := Ground.data }, { on := 13, ground := Ground.data }, { on := 13, ground := Ground.chain }, { on := 0, ground := Ground.phase }, { on := 1, ground := Ground.phase }, { on := 2, ground := Ground.phase }, { on := 3, ground := Ground.phase }, { on := 4, ground := Ground.phase }, { on := 5, ground := Ground.phase }, { on := 6, ground := Ground.phase }, { on := 7, ground := Ground.phase }, { on := 8, ground := Ground.phase }, { on := 9, ground := Ground.phase }, { on := 10, ground := Ground.phase }, { on := 11, ground := Ground.phase }, { on := 12, ground := Ground.phase }, { on := 13, ground := Ground.phase }], guard := none }) rfl (fun K hK => ?_) AllReadyM.nil
                have HK9 : Hid (∀ a w, _ → K a w) := hK
                clear hK
                go_simp
                refine HK9.out _ _ ⟨fun h => absurd h (by omega), ?_⟩
                clear HK9 K
                try simp only [Act.put, List.setIfInBounds_toArray, List.set_cons_zero, List.set_cons_succ]
                refine wpAnyM_done (by kernel_rfl) ?_ _
                obtain ⟨w9, hw9⟩ : ∃ w9, w8.setCell ⟨w.heap.size, 4, none⟩ (.slice q9 (k + 1) c9) = w9 := ⟨_, rfl⟩
                have hk9 : Bk w9 w.heap.size 24 #[.bool leaf, .string lo, .string hi, .int .i64 r, .slice q9 (k + 1) c9] := by rw [← hw9]; exact hk8.set 4 _
                have hr9 : Bk w9 (w.heap.size + 1 + 1) 24 zc := by rw [← hw9]; exact hz8.other (by simp; omega) _
                have ht9 : Tn [w.heap.size] w8 w9 := by rw [← hw9]; exact (Tn.refl _ _).setCell (.inl (by simp)) _
                rw [hw9]
                clear hw9 a4' z4' hS
                have a0 : w9.cell? ⟨w.heap.size, 0, none⟩ = some (.bool leaf) := hk9.cell 0
                have a1 : w9.cell? ⟨w.heap.size, 1, none⟩ = some (.string lo) := hk9.cell 1
                have a2 : w9.cell? ⟨w.heap.size, 2, none⟩ = some (.string hi) := hk9.cell 2
                have a3 : w9.cell? ⟨w.heap.size, 3, none⟩ = some (.int .i64 r) := hk9.cell 3
                have a4 : w9.cell? ⟨w.heap.size, 4, none⟩ = some (.slice q9 (k + 1) c9) := hk9.cell 4
                have b0 : w9.cell? ⟨w.heap.size + 1 + 1, 0, none⟩ = some (.bool false) := hr9.cell 0
                have f0 : w9.frozen? ⟨w.heap.size + 1 + 1, 0, none⟩ = false := hr9.frozen 0
                have b1 : w9.cell? ⟨w.heap.size + 1 + 1, 1, none⟩ = some (.string ⟨#[]⟩) := hr9.cell 1
                have f1 : w9.frozen? ⟨w.heap.size + 1 + 1, 1, none⟩ = false := hr9.frozen 1
                have b2 : w9.cell? ⟨w.heap.size + 1 + 1, 2, none⟩ = some (.string ⟨#[]⟩) := hr9.cell 2
                have f2 : w9.frozen? ⟨w.heap.size + 1 + 1, 2, none⟩ = false := hr9.frozen 2
                have b3 : w9.cell? ⟨w.heap.size + 1 + 1, 3, none⟩ = some (.int .i64 0) := hr9.cell 3
                have f3 : w9.frozen? ⟨w.heap.size + 1 + 1, 3, none⟩ = false := hr9.frozen 3
                have b4 : w9.cell? ⟨w.heap.size + 1 + 1, 4, none⟩ = some (.slice none 0 0) := hr9.cell 4
                have f4 : w9.frozen? ⟨w.heap.size + 1 + 1, 4, none⟩ = false := hr9.frozen 4
                have HR9 : Hid (Bk w9 (w.heap.size + 1 + 1) 24 zc) := hr9
                have HT9 : Hid (Tn [w.heap.size] w8 w9) := ht9
                clear hk9 hr9 ht9
                go_wp2
                obtain ⟨we, hwe⟩ : ∃ we, we = put5 w9 (w.heap.size + 1 + 1) (.bool leaf) (.string lo) (.string hi) (.int .i64 r) (.slice q9 (k + 1) c9) := ⟨_, rfl⟩
                have hA : Bk we (w.heap.size + 1 + 1) 24 #[.bool leaf, .string lo, .string hi, .int .i64 r, .slice q9 (k + 1) c9] := by rw [hwe]; exact Bk.five HR9.out _ _ _ _ _
                have ht : Tn [w.heap.size + 1 + 1] w9 we := by rw [hwe]; exact (Tn.refl _ _).five (.inl (by simp)) _ _ _ _ _
                unfold put5 at hwe
                rw [← hwe]
                clear hwe
                refine bodyPost_ret (results_two (cs := [.bool leaf, .string lo, .string hi, .int .i64 r, .slice q9 (k + 1) c9]) rfl rfl pg_agg pg_size rfl hA) rfl ?_
                rw [HQ.out]
                have hs0 := HR1.out.lt
                have t8 : Tn [w.heap.size, w.heap.size + 1 + 1] w8 we := (HT9.out.mono (by simp)).trans ht (by simp)
                have hB8 := HB1.out.trans (HB8.out.mono HB1.out.size)
                have hsw := HW9.out.size
                have hdl : (l.take k ++ [e] ++ l.drop k).length = (k + 1) := by have := HL.out; first | (simp; done) | (simp; omega) | (simp [List.eq_nil_of_length_eq_zero HL.out])
                refine ⟨_, rfl, ⟨q9, c9, by simp only [hdl], ?_⟩, hB8.trans (t8.below hB8.size (by simp; omega))⟩
                simp only [hdl]
                have hsg := (HO8.out.seg).tn t8 (by intro y hy; simp at hy; omega)
                have hsb := HB1.out.size
                exact (show Seg we wq.heap.size q9 ((k + 1)) c9 (l.take k ++ [e] ++ l.drop k) by simpa using hsg).mono (by omega)
end Go.Proofs.YtkmlholjglmfnaaGreat
