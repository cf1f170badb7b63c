/- Split (the document's). -/
import Derived.Test.YtakibndjmhadnaaPgMd
import Derived.Laws.BitsLemmas
namespace Go.Proofs.Ytakibndjmhadnaa
open Go.RowKit Go.Sort
set_option linter.unusedVariables false
set_option linter.unusedSimpArgs false
set_option maxRecDepth 100000

set_option maxHeartbeats 16000000 in
theorem rsplit_any (leaf : Bool) (lo hi : ByteArray) (r : Int) (p : Option Addr) (len cap : Nat) (l : List En) (id : Int) (w : World) (hlen : l.length = len) (hx : Ens w p l) (hl : len ≤ 3518437208782) (hks : ∀ e ∈ l, e.key.size ≤ 140737488351232) (hp : p = none → len = 0 ∧ cap = 0) :
    Calls Try.prog 29 #[pgv leaf lo hi r p len cap, .int .i64 id] w fun e w' => ∃ v1 v2, e = .returned (.tuple #[v1, v2, .int .i64 (Pg.split ⟨leaf, lo, hi, r, l⟩ id).2.2]) ∧ PgAt w' w.heap.size v1 (Pg.split ⟨leaf, lo, hi, r, l⟩ id).1 ∧ PgAt w' w.heap.size v2 (Pg.split ⟨leaf, lo, hi, r, l⟩ id).2.1 ∧ Below w.heap.size w w' := by
  obtain ⟨w0, hw0⟩ : ∃ w0, w0 = ((w.alloc (.cells (pgc leaf lo hi r p len cap) 24)).alloc (.cells zc 24)).alloc (.cells zc 24) := ⟨_, rfl⟩
  have HB0 : Hid (Below w.heap.size w w0) := by rw [hw0]; exact (((Below.refl _ _).alloc (Nat.le_refl _) _).alloc (by simp) _).alloc (by simp; omega) _
  have HK0 : Hid (Bk w0 w.heap.size 24 (pgc leaf lo hi r p len cap)) := by rw [hw0]; exact ((Bk.new _ _ _).alloc _).alloc _
  have HR0 : Hid (Bk w0 (w.heap.size + 1) 24 zc) := by rw [hw0]; exact (Bk.new1 _ _ _ _).alloc _
  have HS0 : Hid (Bk w0 (w.heap.size + 1 + 1) 24 zc) := by rw [hw0]; exact Bk.new2 _ _ _ _ _
  have HX : Hid (Ens w p l) := hx
  have HL : Hid (l.length = len) := hlen
  have HP : Hid (p = none → len = 0 ∧ cap = 0) := hp
  have HKS : Hid (∀ e ∈ l, e.key.size ≤ 140737488351232) := hks
  clear hx hlen hks hp
  obtain ⟨out, hout⟩ : ∃ out, Pg.split ⟨leaf, lo, hi, r, l⟩ id = out := ⟨_, rfl⟩
  rw [hout]
  have HO : Hid (Pg.split ⟨leaf, lo, hi, r, l⟩ id = out) := hout
  clear hout
  by_cases hid : id < 1
  · have HQ : Hid (out = (Pg.zero, Pg.zero, 1)) := by
      rw [Hid, ← HO.out]; unfold Pg.split; rw [if_pos hid]
    as_aux_lemma =>
      go_enter Try.func29, Try.ntmps29
      go_wp2_with fail
      all_goals try rw [← hw0]
      all_goals try clear hw0
      refine bodyPost_ret (results_pp (cs := [.bool false, .string ⟨#[]⟩, .string ⟨#[]⟩, .int .i64 0, .slice none 0 0]) (ds := [.bool false, .string ⟨#[]⟩, .string ⟨#[]⟩, .int .i64 0, .slice none 0 0]) rfl rfl rfl pg_agg pg_size rfl rfl HR0.out HS0.out) rfl ?_
      rw [HQ.out]
      exact ⟨_, _, rfl, PgAt.zero _ _, PgAt.zero _ _, HB0.out⟩
  · by_cases h2 : len < 2
    · have HQ : Hid (out = (Pg.zero, Pg.zero, 71)) := by
        rw [Hid, ← HO.out]; unfold Pg.split; rw [if_neg hid, if_pos (by show l.length < 2; rw [HL.out]; exact h2)]
      have h2i : (len : Int) < 2 := by omega
      as_aux_lemma =>
        go_enter Try.func29, Try.ntmps29
        go_wp2_with fail
        all_goals try rw [← hw0]
        all_goals try clear hw0
        refine bodyPost_ret (results_pp (cs := [.bool false, .string ⟨#[]⟩, .string ⟨#[]⟩, .int .i64 0, .slice none 0 0]) (ds := [.bool false, .string ⟨#[]⟩, .string ⟨#[]⟩, .int .i64 0, .slice none 0 0]) rfl rfl rfl pg_agg pg_size rfl rfl HR0.out HS0.out) rfl ?_
        rw [HQ.out]
        exact ⟨_, _, rfl, PgAt.zero _ _, PgAt.zero _ _, HB0.out⟩
    · have h2i : ¬ (len : Int) < 2 := by omega
      obtain ⟨h, hi2⟩ : ∃ h, len / 2 = h := ⟨_, rfl⟩
      obtain ⟨i, hhi⟩ : ∃ i, h = i + 1 := ⟨h - 1, by omega⟩
      have hil : h < len := by omega
      have hhj : (len : Int) / 2 = (h : Int) := by omega
      have hm1 : (h : Int) - 1 = (i : Int) := by omega
      obtain ⟨b, o, x, rfl, hgx, -, x0, -, -, -⟩ := (HX.out.below HB0.out (Nat.le_refl _)).at (j := i) (by have := HL.out; omega)
      obtain ⟨_, _, y, hpy, hgy, -, y0, -, -, -⟩ := (HX.out.below HB0.out (Nat.le_refl _)).at (j := h) (by have := HL.out; omega)
      cases hpy
      have hxs : x.key.size ≤ 140737488351232 := HKS.out x (List.mem_of_getElem? hgx)
      have hys : y.key.size ≤ 140737488351232 := HKS.out y (List.mem_of_getElem? hgy)
      have HQ0 : Hid (out = match Pg.part leaf x.key y.key with
          | none => (Pg.zero, Pg.zero, 70)
          | some m => (⟨leaf, lo, m, id, l.take h⟩, ⟨leaf, m, hi, r, l.drop h⟩, 0)) := by
        rw [Hid, ← HO.out]; unfold Pg.split
        rw [if_neg hid, if_neg (by show ¬ l.length < 2; rw [HL.out]; exact h2)]
        simp only [HL.out, hi2, show h - 1 = i by omega, Pg.keyAt_some hgx, Pg.keyAt_some hgy]
        try rfl
      obtain ⟨xk, xs, xg, xc⟩ := x
      obtain ⟨yk, ys, yg, yc⟩ := y
      simp only at x0 y0 hxs hys HQ0
      clear hgx hgy
      have hi1 : (h : Int) < (len : Int) := by omega
      have hi3 : (i : Int) < (len : Int) := by omega
      have hi4 : (0 : Int) ≤ (i : Int) := by omega
      have hi5 : (0 : Int) ≤ (h : Int) := by omega
      have HHI : Hid (h = i + 1) := hhi
      clear hhi
      rw [hw0] at x0 y0
      cases leaf with
      | false =>
        have HQ : Hid (out = (⟨false, lo, yk, id, l.take h⟩, ⟨false, yk, hi, r, l.drop h⟩, 0)) := HQ0
        clear HQ0
        go_enter Try.func29, Try.ntmps29
        go_wp2_with fail
        all_goals try rw [← hw0]
        all_goals try clear hw0
        clear x0 y0
        as_aux_lemma =>
          refine (rclone_any false lo hi r (some ⟨b, o, none⟩) len cap l _ HL.out (HX.out.below HB0.out (Nat.le_refl _)) hl HP.out).mono ?_
          rintro e w2 ⟨p1, c1, rfl, ho1, hb1⟩
          have hs := ho1.seg
          have hle := hs.le
          rcases hs.form with ⟨-, h0, -⟩ | ⟨g, og, cur, rfl, -, -, -, -⟩
          · omega
          have ho0 : og = 0 := by
            rcases ho1.2 with ⟨hv, _⟩ | ⟨g', c', cur', hv, _⟩
            · cases hv
            · cases hv; rfl
          subst ho0
          obtain ⟨wa, hwa⟩ : ∃ wa, w2.alloc (.cells #[.bool false, .string lo, .string hi, .int .i64 r, .slice (some ⟨g, 0, none⟩) len c1] 24) = wa := ⟨_, rfl⟩
          have hba : Below w2.heap.size w2 wa := by rw [← hwa]; exact (Below.refl _ _).alloc (Nat.le_refl _) _
          have hXa : Bk wa w2.heap.size 24 #[.bool false, .string lo, .string hi, .int .i64 r, .slice (some ⟨g, 0, none⟩) len c1] := by rw [← hwa]; exact Bk.new _ _ _
          have hsa : wa.heap.size = w2.heap.size + 1 := by rw [← hwa]; simp
          have hb1a : Below w0.heap.size w0 wa := hb1.trans (hba.mono hb1.size)
          have HKa : Hid (Bk wa w.heap.size 24 (pgc false lo hi r (some ⟨b, o, none⟩) len cap)) := HK0.out.below hb1a HK0.out.lt
          have HRa : Hid (Bk wa (w.heap.size + 1) 24 zc) := HR0.out.below hb1a HR0.out.lt
          have HSa : Hid (Bk wa (w.heap.size + 1 + 1) 24 zc) := HS0.out.below hb1a HS0.out.lt
          have HBa : Hid (Below w.heap.size w wa) := HB0.out.trans (hb1a.mono HB0.out.size)
          have HGa : Hid (Seg wa w.heap.size (some ⟨g, 0, none⟩) len c1 l) := (hs.below hba (Nat.le_refl _)).mono HB0.out.size
          have HSZ : Hid (w.heap.size + 1 + 1 < w2.heap.size) := Nat.lt_of_lt_of_le HS0.out.lt hb1.size
          have HWA : Hid (wa.heap.size = w2.heap.size + 1) := hsa
          have x4 : wa.cell? ⟨w2.heap.size, 4, none⟩ = some (.slice (some ⟨g, 0, none⟩) len c1) := hXa.cell 4
          have a0 : wa.cell? ⟨w.heap.size, 0, none⟩ = some (.bool false) := HKa.out.cell 0
          have a1 : wa.cell? ⟨w.heap.size, 1, none⟩ = some (.string lo) := HKa.out.cell 1
          have HXa : Hid (Bk wa w2.heap.size 24 #[.bool false, .string lo, .string hi, .int .i64 r, .slice (some ⟨g, 0, none⟩) len c1]) := hXa
          have i1 : (h : Int) ≤ (c1 : Int) := by omega
          have i2 : (h : Int) ≤ (len : Int) := by omega
          have i3 : ¬ c1 = h := by omega
          have i4 : ¬ h = c1 := by omega
          clear ho1 hb1 hs hba hXa hsa hb1a
          have hb0 : w.heap.size < wa.heap.size := HKa.out.lt
          have hb1 : w2.heap.size < wa.heap.size := HXa.out.lt
          go_wp2_with fail
          clear hwa
          have HS : Hid (∀ w', Below wa.heap.size wa w' → w'.cell? ⟨w2.heap.size, 4, none⟩ = some (.slice (some ⟨g, 0, none⟩) len c1) ∧ w'.cell? ⟨w.heap.size, 0, none⟩ = some (.bool false) ∧ w'.cell? ⟨w.heap.size, 1, none⟩ = some (.string lo)) := fun w' hh => ⟨(HXa.out.below hh HXa.out.lt).cell 4, (HKa.out.below hh HKa.out.lt).cell 0, (HKa.out.below hh HKa.out.lt).cell 1⟩
          have j1 : Int.tdiv (len : Int) 2 = (h : Int) := by rw [Int.tdiv_eq_ediv_of_nonneg (by omega)]; exact hhj
          have j2 : IntKind.i64.wrap (h : Int) = (h : Int) := wrap_id9 (by omega)
          have hS := HS.out wa.drew (Below.refl _ _).drew
          refine wp_region_mid (S := (fun w' => w'.cell? ⟨w2.heap.size, 4, none⟩ = some (.slice (some ⟨g, 0, none⟩) len c1) ∧ w'.cell? ⟨w.heap.size, 0, none⟩ = some (.bool false) ∧ w'.cell? ⟨w.heap.size, 1, none⟩ = some (.string lo))) 13 (by kernel_rfl) ?_
          refine wpAnyM_take (i := 0) [] (oi := { dst := some 54, op := Op.fieldAddr 24 (Operand.tmp 2) 0, type := 0, pos := _, after := #[], guard := none }) (v := ?_) rfl (by kernel_rfl) (by kernel_rfl) (by kernel_rfl) (by kernel_rfl) (fun _ _ _ h => h) (Or.inl ⟨by rfl, ?_⟩) hS ?_
          rotate_left
          · (intro w' hSw; obtain ⟨k0, k1, k2⟩ := hSw; go_simp; try with_reducible rfl)
          try simp only [Act.put, List.setIfInBounds_toArray, List.set_cons_zero, List.set_cons_succ]
          refine wpAnyM_take (i := 1) [] (oi := { dst := some 55, op := Op.load 4 (Operand.tmp 54), type := 4, pos := _, after := #[{ on := 0, ground := Ground.data }], guard := none }) (v := ?_) rfl (by kernel_rfl) (by kernel_rfl) (by kernel_rfl) (by kernel_rfl) (fun _ _ _ h => h) (Or.inl ⟨by rfl, ?_⟩) hS ?_
          rotate_left
          · (intro w' hSw; obtain ⟨k0, k1, k2⟩ := hSw; go_simp; try with_reducible rfl)
          try simp only [Act.put, List.setIfInBounds_toArray, List.set_cons_zero, List.set_cons_succ]
          refine wpAnyM_take (i := 2) [] (oi := { dst := some 56, op := Op.fieldAddr 24 (Operand.tmp 2) 1, type := 0, pos := _, after := #[], guard := none }) (v := ?_) rfl (by kernel_rfl) (by kernel_rfl) (by kernel_rfl) (by kernel_rfl) (fun _ _ _ h => h) (Or.inl ⟨by rfl, ?_⟩) hS ?_
          rotate_left
          · (intro w' hSw; obtain ⟨k0, k1, k2⟩ := hSw; go_simp; try with_reducible rfl)
          try simp only [Act.put, List.setIfInBounds_toArray, List.set_cons_zero, List.set_cons_succ]
          refine wpAnyM_take (i := 3) [] (oi := { dst := some 57, op := Op.load 9 (Operand.tmp 56), type := 9, pos := _, after := #[{ on := 2, ground := Ground.data }], guard := none }) (v := ?_) rfl (by kernel_rfl) (by kernel_rfl) (by kernel_rfl) (by kernel_rfl) (fun _ _ _ h => h) (Or.inl ⟨by rfl, ?_⟩) hS ?_
          rotate_left
          · (intro w' hSw; obtain ⟨k0, k1, k2⟩ := hSw; go_simp; try with_reducible rfl)
          try simp only [Act.put, List.setIfInBounds_toArray, List.set_cons_zero, List.set_cons_succ]
          refine wpAnyM_take (i := 4) [] (oi := { dst := some 58, op := Op.move (Operand.tmp 8), type := 9, pos := _, after := #[], guard := none }) (v := ?_) rfl (by kernel_rfl) (by kernel_rfl) (by kernel_rfl) (by kernel_rfl) (fun _ _ _ h => h) (Or.inl ⟨by rfl, ?_⟩) hS ?_
          rotate_left
          · (intro w' hSw; obtain ⟨k0, k1, k2⟩ := hSw; go_simp; try with_reducible rfl)
          try simp only [Act.put, List.setIfInBounds_toArray, List.set_cons_zero, List.set_cons_succ]
          refine wpAnyM_take (i := 5) [] (oi := { dst := some 59, op := Op.move (Operand.tmp 1), type := 3, pos := _, after := #[], guard := none }) (v := ?_) rfl (by kernel_rfl) (by kernel_rfl) (by kernel_rfl) (by kernel_rfl) (fun _ _ _ h => h) (Or.inl ⟨by rfl, ?_⟩) hS ?_
          rotate_left
          · (intro w' hSw; obtain ⟨k0, k1, k2⟩ := hSw; go_simp; try with_reducible rfl)
          try simp only [Act.put, List.setIfInBounds_toArray, List.set_cons_zero, List.set_cons_succ]
          refine wpAnyM_take (i := 6) [] (oi := { dst := some 60, op := Op.fieldAddr 24 (Operand.tmp 11) 4, type := 0, pos := _, after := #[], guard := none }) (v := ?_) rfl (by kernel_rfl) (by kernel_rfl) (by kernel_rfl) (by kernel_rfl) (fun _ _ _ h => h) (Or.inl ⟨by rfl, ?_⟩) hS ?_
          rotate_left
          · (intro w' hSw; obtain ⟨k0, k1, k2⟩ := hSw; go_simp; try with_reducible rfl)
          try simp only [Act.put, List.setIfInBounds_toArray, List.set_cons_zero, List.set_cons_succ]
          refine wpAnyM_take (i := 7) [] (oi := { dst := some 61, op := Op.load 22 (Operand.tmp 60), type := 22, pos := _, after := #[{ on := 6, ground := Ground.data }], guard := none }) (v := ?_) rfl (by kernel_rfl) (by kernel_rfl) (by kernel_rfl) (by kernel_rfl) (fun _ _ _ h => h) (Or.inl ⟨by rfl, ?_⟩) hS ?_
          rotate_left
          · (intro w' hSw; obtain ⟨k0, k1, k2⟩ := hSw; go_simp; try with_reducible rfl)
          try simp only [Act.put, List.setIfInBounds_toArray, List.set_cons_zero, List.set_cons_succ]
          refine wpAnyM_take (i := 8) [] (oi := { dst := some 62, op := Op.move (Operand.tmp 7), type := 3, pos := _, after := #[], guard := none }) (v := ?_) rfl (by kernel_rfl) (by kernel_rfl) (by kernel_rfl) (by kernel_rfl) (fun _ _ _ h => h) (Or.inl ⟨by rfl, ?_⟩) hS ?_
          rotate_left
          · (intro w' hSw; obtain ⟨k0, k1, k2⟩ := hSw; go_simp; try with_reducible rfl)
          try simp only [Act.put, List.setIfInBounds_toArray, List.set_cons_zero, List.set_cons_succ]
          refine wpAnyM_take (i := 9) [] (oi := { dst := some 63, op := Op.binOp BinOp.quo 3 (Operand.tmp 62) (Operand.const (Value.int IntKind.i64 2)) 3, type := 3, pos := _, after := #[{ on := 8, ground := Ground.data }], guard := none }) (v := .int .i64 (h : Int)) rfl (by kernel_rfl) (by kernel_rfl) (by kernel_rfl) (by kernel_rfl) (fun _ _ _ h => h) (Or.inl ⟨by rfl, ?_⟩) hS ?_
          · (intro w' hSw; obtain ⟨k0, k1, k2⟩ := hSw; go_simp; try with_reducible rfl)
          try simp only [Act.put, List.setIfInBounds_toArray, List.set_cons_zero, List.set_cons_succ]
          refine wpAnyM_take (i := 10) [] (oi := { dst := some 64, op := Op.slice 22 (Operand.tmp 61) none (some (Operand.tmp 63)) none, type := 22, pos := _, after := #[{ on := 7, ground := Ground.data }, { on := 9, ground := Ground.data }], guard := none }) (v := .slice (some ⟨g, 0, none⟩) h c1) rfl (by kernel_rfl) (by kernel_rfl) (by kernel_rfl) (by kernel_rfl) (fun _ _ _ h => h) (Or.inl ⟨by rfl, ?_⟩) hS ?_
          · (intro w' hSw; obtain ⟨k0, k1, k2⟩ := hSw; go_simp; try with_reducible rfl)
          try simp only [Act.put, List.setIfInBounds_toArray, List.set_cons_zero, List.set_cons_succ]
          refine wpAnyM_take (i := 11) [] (oi := { dst := some 65, op := Op.build 24 #[(0, Operand.tmp 55), (1, Operand.tmp 57), (2, Operand.tmp 58), (3, Operand.tmp 59), (4, Operand.tmp 64)], type := 24, pos := _, after := #[{ on := 1, ground := Ground.data }, { on := 3, ground := Ground.data }, { on := 4, ground := Ground.data }, { on := 5, ground := Ground.data }, { on := 10, ground := Ground.data }], guard := none }) (v := ?_) rfl (by kernel_rfl) (by kernel_rfl) (by kernel_rfl) (by kernel_rfl) (fun _ _ _ h => h) (Or.inl ⟨by rfl, ?_⟩) hS ?_
          rotate_left
          · (intro w' hSw; obtain ⟨k0, k1, k2⟩ := hSw; go_simp; try with_reducible rfl)
          try simp only [Act.put, List.setIfInBounds_toArray, List.set_cons_zero, List.set_cons_succ]
          refine wpAnyM_ready (rs := [12]) (by kernel_rfl) (by simp) ?_
          refine AllReadyM.cons (o := { dst := some 12, op := Op.alloc 24, type := 0, pos := _, after := #[], guard := none }) rfl (fun K hK => ?_) AllReadyM.nil
          have HK9 : Hid (∀ a w, _ → K a w) := hK
          clear hK
          go_simp
          refine HK9.out _ _ ⟨fun _ => HS.out _ ((Below.refl _ _).drew.alloc (Nat.le_refl _) _), ?_⟩
          clear HK9 K
          try simp only [Act.put, List.setIfInBounds_toArray, List.set_cons_zero, List.set_cons_succ]
          refine wpAnyM_ready (rs := [13]) (by kernel_rfl) (by simp) ?_
          refine AllReadyM.cons (o := { dst := none, op := Op.store 24 (Operand.tmp 12) (Operand.tmp 65), type := 0, pos := _, after := #[{ on := 12, ground := Ground.data }, { on := 11, ground := Ground.data }, { on := 0, ground := Ground.phase }, { on := 1, ground := Ground.phase }, { on := 2, ground := Ground.phase }, { on := 3, ground := Ground.phase }, { on := 4, ground := Ground.phase }, { on := 5, ground := Ground.phase }, { on := 6, ground := Ground.phase }, { on := 7, ground := Ground.phase }, { on := 8, ground := Ground.phase }, { on := 9, ground := Ground.phase }, { on := 10, ground := Ground.phase }, { on := 11, ground := Ground.phase }, { on := 12, ground := Ground.phase }], guard := none }) rfl (fun K hK => ?_) AllReadyM.nil
          have HK9 : Hid (∀ a w, _ → K a w) := hK
          clear hK
          go_simp
          refine HK9.out _ _ ⟨fun h => absurd h (by omega), ?_⟩
          clear HK9 K
          try simp only [Act.put, List.setIfInBounds_toArray, List.set_cons_zero, List.set_cons_succ]
          refine wpAnyM_done (by kernel_rfl) ?_ _
          clear j1 j2 hS HS
          clear hb0 hb1
          obtain ⟨wb, hwb⟩ : ∃ wb, wb = (wa.alloc (.cells #[.bool false, .string lo, .string yk, .int .i64 id, .slice (some ⟨g, 0, none⟩) h c1] 24)).drew := ⟨_, rfl⟩
          rw [← hwb]
          have hbb : Below wa.heap.size wa wb := by rw [hwb]; exact ((Below.refl _ _).alloc (Nat.le_refl _) _).drew
          have HYb : Hid (Bk wb wa.heap.size 24 #[.bool false, .string lo, .string yk, .int .i64 id, .slice (some ⟨g, 0, none⟩) h c1]) := by rw [hwb]; exact (Bk.new _ _ _).drew
          have HKb : Hid (Bk wb w.heap.size 24 (pgc false lo hi r (some ⟨b, o, none⟩) len cap)) := HKa.out.below hbb HKa.out.lt
          have HXb : Hid (Bk wb w2.heap.size 24 #[.bool false, .string lo, .string hi, .int .i64 r, .slice (some ⟨g, 0, none⟩) len c1]) := HXa.out.below hbb HXa.out.lt
          have HBBb : Hid (Below wa.heap.size wa wb) := hbb
          clear hwb hbb a0 a1 x4
          have x4 : wb.cell? ⟨w2.heap.size, 4, none⟩ = some (.slice (some ⟨g, 0, none⟩) len c1) := HXb.out.cell 4
          have a0 : wb.cell? ⟨w.heap.size, 0, none⟩ = some (.bool false) := HKb.out.cell 0
          have a2 : wb.cell? ⟨w.heap.size, 2, none⟩ = some (.string hi) := HKb.out.cell 2
          have a3 : wb.cell? ⟨w.heap.size, 3, none⟩ = some (.int .i64 r) := HKb.out.cell 3
          have hb0 : w.heap.size < wb.heap.size := HKb.out.lt
          have hb1 : w2.heap.size < wb.heap.size := HXb.out.lt
          as_aux_lemma =>
            go_wp2_with fail
            have HS : Hid (∀ w', Below wb.heap.size wb w' → w'.cell? ⟨w2.heap.size, 4, none⟩ = some (.slice (some ⟨g, 0, none⟩) len c1) ∧ w'.cell? ⟨w.heap.size, 0, none⟩ = some (.bool false) ∧ w'.cell? ⟨w.heap.size, 2, none⟩ = some (.string hi) ∧ w'.cell? ⟨w.heap.size, 3, none⟩ = some (.int .i64 r)) := fun w' hh => ⟨(HXb.out.below hh HXb.out.lt).cell 4, (HKb.out.below hh HKb.out.lt).cell 0, (HKb.out.below hh HKb.out.lt).cell 2, (HKb.out.below hh HKb.out.lt).cell 3⟩
            have j1 : Int.tdiv (len : Int) 2 = (h : Int) := by rw [Int.tdiv_eq_ediv_of_nonneg (by omega)]; exact hhj
            have j2 : IntKind.i64.wrap (h : Int) = (h : Int) := wrap_id9 (by omega)
            have hS := HS.out wb.drew (Below.refl _ _).drew
            refine wp_region_mid (S := (fun w' => w'.cell? ⟨w2.heap.size, 4, none⟩ = some (.slice (some ⟨g, 0, none⟩) len c1) ∧ w'.cell? ⟨w.heap.size, 0, none⟩ = some (.bool false) ∧ w'.cell? ⟨w.heap.size, 2, none⟩ = some (.string hi) ∧ w'.cell? ⟨w.heap.size, 3, none⟩ = some (.int .i64 r))) 14 (by kernel_rfl) ?_
            refine wpAnyM_take (i := 0) [] (oi := { dst := some 66, op := Op.fieldAddr 24 (Operand.tmp 2) 0, type := 0, pos := _, after := #[], guard := none }) (v := ?_) rfl (by kernel_rfl) (by kernel_rfl) (by kernel_rfl) (by kernel_rfl) (fun _ _ _ h => h) (Or.inl ⟨by rfl, ?_⟩) hS ?_
            rotate_left
            · (intro w' hSw; obtain ⟨k0, k1, k2, k3⟩ := hSw; go_simp; try with_reducible rfl)
            try simp only [Act.put, List.setIfInBounds_toArray, List.set_cons_zero, List.set_cons_succ]
            refine wpAnyM_take (i := 1) [] (oi := { dst := some 67, op := Op.load 4 (Operand.tmp 66), type := 4, pos := _, after := #[{ on := 0, ground := Ground.data }], guard := none }) (v := ?_) rfl (by kernel_rfl) (by kernel_rfl) (by kernel_rfl) (by kernel_rfl) (fun _ _ _ h => h) (Or.inl ⟨by rfl, ?_⟩) hS ?_
            rotate_left
            · (intro w' hSw; obtain ⟨k0, k1, k2, k3⟩ := hSw; go_simp; try with_reducible rfl)
            try simp only [Act.put, List.setIfInBounds_toArray, List.set_cons_zero, List.set_cons_succ]
            refine wpAnyM_take (i := 2) [] (oi := { dst := some 68, op := Op.move (Operand.tmp 8), type := 9, pos := _, after := #[], guard := none }) (v := ?_) rfl (by kernel_rfl) (by kernel_rfl) (by kernel_rfl) (by kernel_rfl) (fun _ _ _ h => h) (Or.inl ⟨by rfl, ?_⟩) hS ?_
            rotate_left
            · (intro w' hSw; obtain ⟨k0, k1, k2, k3⟩ := hSw; go_simp; try with_reducible rfl)
            try simp only [Act.put, List.setIfInBounds_toArray, List.set_cons_zero, List.set_cons_succ]
            refine wpAnyM_take (i := 3) [] (oi := { dst := some 69, op := Op.fieldAddr 24 (Operand.tmp 2) 2, type := 0, pos := _, after := #[], guard := none }) (v := ?_) rfl (by kernel_rfl) (by kernel_rfl) (by kernel_rfl) (by kernel_rfl) (fun _ _ _ h => h) (Or.inl ⟨by rfl, ?_⟩) hS ?_
            rotate_left
            · (intro w' hSw; obtain ⟨k0, k1, k2, k3⟩ := hSw; go_simp; try with_reducible rfl)
            try simp only [Act.put, List.setIfInBounds_toArray, List.set_cons_zero, List.set_cons_succ]
            refine wpAnyM_take (i := 4) [] (oi := { dst := some 70, op := Op.load 9 (Operand.tmp 69), type := 9, pos := _, after := #[{ on := 3, ground := Ground.data }], guard := none }) (v := ?_) rfl (by kernel_rfl) (by kernel_rfl) (by kernel_rfl) (by kernel_rfl) (fun _ _ _ h => h) (Or.inl ⟨by rfl, ?_⟩) hS ?_
            rotate_left
            · (intro w' hSw; obtain ⟨k0, k1, k2, k3⟩ := hSw; go_simp; try with_reducible rfl)
            try simp only [Act.put, List.setIfInBounds_toArray, List.set_cons_zero, List.set_cons_succ]
            refine wpAnyM_take (i := 5) [] (oi := { dst := some 71, op := Op.fieldAddr 24 (Operand.tmp 2) 3, type := 0, pos := _, after := #[], guard := none }) (v := ?_) rfl (by kernel_rfl) (by kernel_rfl) (by kernel_rfl) (by kernel_rfl) (fun _ _ _ h => h) (Or.inl ⟨by rfl, ?_⟩) hS ?_
            rotate_left
            · (intro w' hSw; obtain ⟨k0, k1, k2, k3⟩ := hSw; go_simp; try with_reducible rfl)
            try simp only [Act.put, List.setIfInBounds_toArray, List.set_cons_zero, List.set_cons_succ]
            refine wpAnyM_take (i := 6) [] (oi := { dst := some 72, op := Op.load 3 (Operand.tmp 71), type := 3, pos := _, after := #[{ on := 5, ground := Ground.data }], guard := none }) (v := ?_) rfl (by kernel_rfl) (by kernel_rfl) (by kernel_rfl) (by kernel_rfl) (fun _ _ _ h => h) (Or.inl ⟨by rfl, ?_⟩) hS ?_
            rotate_left
            · (intro w' hSw; obtain ⟨k0, k1, k2, k3⟩ := hSw; go_simp; try with_reducible rfl)
            try simp only [Act.put, List.setIfInBounds_toArray, List.set_cons_zero, List.set_cons_succ]
            refine wpAnyM_take (i := 7) [] (oi := { dst := some 73, op := Op.fieldAddr 24 (Operand.tmp 11) 4, type := 0, pos := _, after := #[], guard := none }) (v := ?_) rfl (by kernel_rfl) (by kernel_rfl) (by kernel_rfl) (by kernel_rfl) (fun _ _ _ h => h) (Or.inl ⟨by rfl, ?_⟩) hS ?_
            rotate_left
            · (intro w' hSw; obtain ⟨k0, k1, k2, k3⟩ := hSw; go_simp; try with_reducible rfl)
            try simp only [Act.put, List.setIfInBounds_toArray, List.set_cons_zero, List.set_cons_succ]
            refine wpAnyM_take (i := 8) [] (oi := { dst := some 74, op := Op.load 22 (Operand.tmp 73), type := 22, pos := _, after := #[{ on := 7, ground := Ground.data }], guard := none }) (v := ?_) rfl (by kernel_rfl) (by kernel_rfl) (by kernel_rfl) (by kernel_rfl) (fun _ _ _ h => h) (Or.inl ⟨by rfl, ?_⟩) hS ?_
            rotate_left
            · (intro w' hSw; obtain ⟨k0, k1, k2, k3⟩ := hSw; go_simp; try with_reducible rfl)
            try simp only [Act.put, List.setIfInBounds_toArray, List.set_cons_zero, List.set_cons_succ]
            refine wpAnyM_take (i := 9) [] (oi := { dst := some 75, op := Op.move (Operand.tmp 7), type := 3, pos := _, after := #[], guard := none }) (v := ?_) rfl (by kernel_rfl) (by kernel_rfl) (by kernel_rfl) (by kernel_rfl) (fun _ _ _ h => h) (Or.inl ⟨by rfl, ?_⟩) hS ?_
            rotate_left
            · (intro w' hSw; obtain ⟨k0, k1, k2, k3⟩ := hSw; go_simp; try with_reducible rfl)
            try simp only [Act.put, List.setIfInBounds_toArray, List.set_cons_zero, List.set_cons_succ]
            refine wpAnyM_take (i := 10) [] (oi := { dst := some 76, op := Op.binOp BinOp.quo 3 (Operand.tmp 75) (Operand.const (Value.int IntKind.i64 2)) 3, type := 3, pos := _, after := #[{ on := 9, ground := Ground.data }], guard := none }) (v := .int .i64 (h : Int)) rfl (by kernel_rfl) (by kernel_rfl) (by kernel_rfl) (by kernel_rfl) (fun _ _ _ h => h) (Or.inl ⟨by rfl, ?_⟩) hS ?_
            · (intro w' hSw; obtain ⟨k0, k1, k2, k3⟩ := hSw; go_simp; try with_reducible rfl)
            try simp only [Act.put, List.setIfInBounds_toArray, List.set_cons_zero, List.set_cons_succ]
            refine wpAnyM_take (i := 11) [] (oi := { dst := some 77, op := Op.slice 22 (Operand.tmp 74) (some (Operand.tmp 76)) none none, type := 22, pos := _, after := #[{ on := 8, ground := Ground.data }, { on := 10, ground := Ground.data }], guard := none }) (v := .slice (some ⟨g, h * 4, none⟩) (len - h) (c1 - h)) rfl (by kernel_rfl) (by kernel_rfl) (by kernel_rfl) (by kernel_rfl) (fun _ _ _ h => h) (Or.inl ⟨by rfl, ?_⟩) hS ?_
            · (intro w' hSw; obtain ⟨k0, k1, k2, k3⟩ := hSw; go_simp; try with_reducible rfl)
            try simp only [Act.put, List.setIfInBounds_toArray, List.set_cons_zero, List.set_cons_succ]
            refine wpAnyM_take (i := 12) [] (oi := { dst := some 78, op := Op.build 24 #[(0, Operand.tmp 67), (1, Operand.tmp 68), (2, Operand.tmp 70), (3, Operand.tmp 72), (4, Operand.tmp 77)], type := 24, pos := _, after := #[{ on := 1, ground := Ground.data }, { on := 2, ground := Ground.data }, { on := 4, ground := Ground.data }, { on := 6, ground := Ground.data }, { on := 11, ground := Ground.data }], guard := none }) (v := ?_) rfl (by kernel_rfl) (by kernel_rfl) (by kernel_rfl) (by kernel_rfl) (fun _ _ _ h => h) (Or.inl ⟨by rfl, ?_⟩) hS ?_
            rotate_left
            · (intro w' hSw; obtain ⟨k0, k1, k2, k3⟩ := hSw; go_simp; try with_reducible rfl)
            try simp only [Act.put, List.setIfInBounds_toArray, List.set_cons_zero, List.set_cons_succ]
            refine wpAnyM_ready (rs := [13]) (by kernel_rfl) (by simp) ?_
            refine AllReadyM.cons (o := { dst := some 13, op := Op.alloc 24, type := 0, pos := _, after := #[], guard := none }) rfl (fun K hK => ?_) AllReadyM.nil
            have HK9 : Hid (∀ a w, _ → K a w) := hK
            clear hK
            go_simp
            refine HK9.out _ _ ⟨fun _ => HS.out _ ((Below.refl _ _).drew.alloc (Nat.le_refl _) _), ?_⟩
            clear HK9 K
            try simp only [Act.put, List.setIfInBounds_toArray, List.set_cons_zero, List.set_cons_succ]
            refine wpAnyM_ready (rs := [14]) (by kernel_rfl) (by simp) ?_
            refine AllReadyM.cons (o := { dst := none, op := Op.store 24 (Operand.tmp 13) (Operand.tmp 78), type := 0, pos := _, after := #[{ on := 13, ground := Ground.data }, { on := 12, ground := Ground.data }, { on := 0, ground := Ground.phase }, { on := 1, ground := Ground.phase }, { on := 2, ground := Ground.phase }, { on := 3, ground := Ground.phase }, { on := 4, ground := Ground.phase }, { on := 5, ground := Ground.phase }, { on := 6, ground := Ground.phase }, { on := 7, ground := Ground.phase }, { on := 8, ground := Ground.phase }, { on := 9, ground := Ground.phase }, { on := 10, ground := Ground.phase }, { on := 11, ground := Ground.phase }, { on := 12, ground := Ground.phase }, { on := 13, ground := Ground.phase }], guard := none }) rfl (fun K hK => ?_) AllReadyM.nil
            have HK9 : Hid (∀ a w, _ → K a w) := hK
            clear hK
            go_simp
            refine HK9.out _ _ ⟨fun h => absurd h (by omega), ?_⟩
            clear HK9 K
            try simp only [Act.put, List.setIfInBounds_toArray, List.set_cons_zero, List.set_cons_succ]
            refine wpAnyM_done (by kernel_rfl) ?_ _
            clear j1 j2 hS HS
            clear hb0 hb1
            obtain ⟨wc, hwc⟩ : ∃ wc, wc = (wb.alloc (.cells #[.bool false, .string yk, .string hi, .int .i64 r, .slice (some ⟨g, h * 4, none⟩) (len - h) (c1 - h)] 24)).drew := ⟨_, rfl⟩
            rw [← hwc]
            have hbc : Below wb.heap.size wb wc := by rw [hwc]; exact ((Below.refl _ _).alloc (Nat.le_refl _) _).drew
            have HZc : Hid (Bk wc wb.heap.size 24 #[.bool false, .string yk, .string hi, .int .i64 r, .slice (some ⟨g, h * 4, none⟩) (len - h) (c1 - h)]) := by rw [hwc]; exact (Bk.new _ _ _).drew
            have HYc : Hid (Bk wc wa.heap.size 24 #[.bool false, .string lo, .string yk, .int .i64 id, .slice (some ⟨g, 0, none⟩) h c1]) := HYb.out.below hbc HYb.out.lt
            have hac : Below wa.heap.size wa wc := HBBb.out.trans (hbc.mono HBBb.out.size)
            have HBc : Hid (Below w.heap.size w wc) := HBa.out.trans (hac.mono HBa.out.size)
            have HRc : Hid (Bk wc (w.heap.size + 1) 24 zc) := HRa.out.below hac HRa.out.lt
            have HSc : Hid (Bk wc (w.heap.size + 1 + 1) 24 zc) := HSa.out.below hac HSa.out.lt
            have hgc := HGa.out.below hac (Nat.le_refl _)
            have HT : Hid (Seg wc w.heap.size (some ⟨g, 0, none⟩) h c1 (l.take h)) := hgc.take h c1 (by omega) (by omega) (Nat.le_refl _)
            have hdr := hgc.drop h (by omega)
            rw [Nat.zero_add] at hdr
            have HD : Hid (Seg wc w.heap.size (some ⟨g, h * 4, none⟩) (len - h) (c1 - h) (l.drop h)) := hdr
            have HQ1 : Hid (w.heap.size + 1 + 1 < wa.heap.size ∧ wa.heap.size < wb.heap.size) := ⟨by have := HSZ.out; have := HWA.out; omega, HYb.out.lt⟩
            clear hwc hbc hac hgc hdr x4 a0 a2 a3 i1 i2 i3 i4
            as_aux_lemma =>
              go_wp2_with fail
              have HC : Hid (∀ w', Below wc.heap.size wc w' → (w'.cell? ⟨wa.heap.size, 0, none⟩ = some (.bool false) ∧ w'.cell? ⟨wa.heap.size, 1, none⟩ = some (.string lo) ∧ w'.cell? ⟨wa.heap.size, 2, none⟩ = some (.string yk) ∧ w'.cell? ⟨wa.heap.size, 3, none⟩ = some (.int .i64 id) ∧ w'.cell? ⟨wa.heap.size, 4, none⟩ = some (.slice (some ⟨g, 0, none⟩) h c1) ∧ w'.cell? ⟨wb.heap.size, 0, none⟩ = some (.bool false) ∧ w'.cell? ⟨wb.heap.size, 1, none⟩ = some (.string yk) ∧ w'.cell? ⟨wb.heap.size, 2, none⟩ = some (.string hi) ∧ w'.cell? ⟨wb.heap.size, 3, none⟩ = some (.int .i64 r) ∧ w'.cell? ⟨wb.heap.size, 4, none⟩ = some (.slice (some ⟨g, h * 4, none⟩) (len - h) (c1 - h))) ∧ wc.heap.size ≤ w'.heap.size) := fun w' hh => by
                have k := HYc.out.below hh HYc.out.lt
                have z := HZc.out.below hh HZc.out.lt
                exact ⟨⟨k.cell 0, k.cell 1, k.cell 2, k.cell 3, k.cell 4, z.cell 0, z.cell 1, z.cell 2, z.cell 3, z.cell 4⟩, hh.size⟩
              have n1 : ¬ wa.heap.size = w.heap.size + 1 := by have := HQ1.out; omega
              have n2 : ¬ wa.heap.size = w.heap.size + 1 + 1 := by have := HQ1.out; omega
              have n3 : ¬ wb.heap.size = w.heap.size + 1 := by have := HQ1.out; omega
              have n4 : ¬ wb.heap.size = w.heap.size + 1 + 1 := by have := HQ1.out; omega
              have n5 : ¬ w.heap.size + 1 = wa.heap.size := by have := HQ1.out; omega
              have n6 : ¬ w.heap.size + 1 + 1 = wa.heap.size := by have := HQ1.out; omega
              have n7 : ¬ w.heap.size + 1 = wb.heap.size := by have := HQ1.out; omega
              have n8 : ¬ w.heap.size + 1 + 1 = wb.heap.size := by have := HQ1.out; omega
              clear n1 n2 n3 n4 n5 n6 n7 n8
              have hB : Below wc.heap.size wc wc.drew := (Below.refl _ _).drew
              refine wp_region_mid (S := fun w' => Below wc.heap.size wc w') 3 (by kernel_rfl) ?_
              refine wpAnyM_take (i := 0) [1, 3, 4, 5, 6] (oi := { dst := some 79, op := Op.load 24 (Operand.tmp 12), type := 24, pos := _, after := #[], guard := none }) (v := (.agg #[.bool false, .string lo, .string yk, .int .i64 id, .slice (some ⟨g, 0, none⟩) h c1])) rfl (by kernel_rfl) (by kernel_rfl) (by kernel_rfl) (by kernel_rfl) (fun _ _ _ h => h) (Or.inl ⟨by rfl, ?_⟩) hB ?_
              · (intro w' hSw; obtain ⟨⟨k0, k1, k2, k3, k4, k5, k6, k7, k8, k9⟩, -⟩ := HC.out w' hSw; clear hSw; go_simp; try with_reducible rfl)
              try simp only [Act.put, List.setIfInBounds_toArray, List.set_cons_zero, List.set_cons_succ]
              refine wpAnyM_take (i := 2) [3, 4, 5, 6] (oi := { dst := some 81, op := Op.load 24 (Operand.tmp 13), type := 24, pos := _, after := #[], guard := none }) (v := (.agg #[.bool false, .string yk, .string hi, .int .i64 r, .slice (some ⟨g, h * 4, none⟩) (len - h) (c1 - h)])) rfl (by kernel_rfl) (by kernel_rfl) (by kernel_rfl) (by kernel_rfl) (fun _ _ _ h => h) (Or.inl ⟨by rfl, ?_⟩) hB ?_
              · (intro w' hSw; obtain ⟨⟨k0, k1, k2, k3, k4, k5, k6, k7, k8, k9⟩, -⟩ := HC.out w' hSw; clear hSw; go_simp; try with_reducible rfl)
              try simp only [Act.put, List.setIfInBounds_toArray, List.set_cons_zero, List.set_cons_succ]
              refine wpAnyM_ready (rs := [1]) (by kernel_rfl) (by simp) ?_
              refine AllReadyM.cons (o := { dst := some 80, op := Op.call { callee := Callee.value (Operand.func 32), args := #[Operand.tmp 79], argTypes := #[24] }, type := 24, pos := _, after := #[{ on := 0, ground := Ground.data }], guard := none }) rfl (fun K hK => ?_) AllReadyM.nil
              have HK9 : Hid (∀ a w, _ → K a w) := hK
              clear hK
              go_simp
              refine (rclone_any false lo yk id (some ⟨g, 0, none⟩) h c1 (l.take h) _ HT.out.lenq (HT.out.ens.below hB (Nat.le_refl _)) (by omega) (fun hh => by cases hh)).mono ?_
              rintro e w5 ⟨p5, c5, rfl, ho5, hb5⟩
              have hB5 := hB.trans (hb5.mono hB.size)
              try go_wp2_with fail
              refine HK9.out _ _ ⟨fun _ => hB5, ?_⟩
              clear HK9 K
              try simp only [Act.put, List.setIfInBounds_toArray, List.set_cons_zero, List.set_cons_succ]
              refine wpAnyM_ready (rs := [3]) (by kernel_rfl) (by simp) ?_
              refine AllReadyM.cons (o := { dst := some 82, op := Op.call { callee := Callee.value (Operand.func 32), args := #[Operand.tmp 81], argTypes := #[24] }, type := 24, pos := _, after := #[{ on := 2, ground := Ground.data }, { on := 1, ground := Ground.chain }], guard := none }) rfl (fun K hK => ?_) AllReadyM.nil
              have HK9 : Hid (∀ a w, _ → K a w) := hK
              clear hK
              go_simp
              refine (rclone_any false yk hi r (some ⟨g, h * 4, none⟩) (len - h) (c1 - h) (l.drop h) _ HD.out.lenq (HD.out.ens.below hB5 (Nat.le_refl _)) (by omega) (fun hh => by cases hh)).mono ?_
              rintro e w6 ⟨p6, c6, rfl, ho6, hb6⟩
              have hB6 := hB5.trans (hb6.mono hB5.size)
              try go_wp2_with fail
              refine HK9.out _ _ ⟨fun h => absurd h (by omega), ?_⟩
              clear HK9 K
              try simp only [Act.put, List.setIfInBounds_toArray, List.set_cons_zero, List.set_cons_succ]
              have hr6 := HRc.out.below hB6 HRc.out.lt
              have hs6 := HSc.out.below hB6 HSc.out.lt
              have b0 : w6.cell? ⟨w.heap.size + 1, 0, none⟩ = some (.bool false) := hr6.cell 0
              have f0 : w6.frozen? ⟨w.heap.size + 1, 0, none⟩ = false := hr6.frozen 0
              have b1 : w6.cell? ⟨w.heap.size + 1, 1, none⟩ = some (.string ⟨#[]⟩) := hr6.cell 1
              have f1 : w6.frozen? ⟨w.heap.size + 1, 1, none⟩ = false := hr6.frozen 1
              have b2 : w6.cell? ⟨w.heap.size + 1, 2, none⟩ = some (.string ⟨#[]⟩) := hr6.cell 2
              have f2 : w6.frozen? ⟨w.heap.size + 1, 2, none⟩ = false := hr6.frozen 2
              have b3 : w6.cell? ⟨w.heap.size + 1, 3, none⟩ = some (.int .i64 0) := hr6.cell 3
              have f3 : w6.frozen? ⟨w.heap.size + 1, 3, none⟩ = false := hr6.frozen 3
              have b4 : w6.cell? ⟨w.heap.size + 1, 4, none⟩ = some (.slice none 0 0) := hr6.cell 4
              have f4 : w6.frozen? ⟨w.heap.size + 1, 4, none⟩ = false := hr6.frozen 4
              have c0 : w6.cell? ⟨w.heap.size + 1 + 1, 0, none⟩ = some (.bool false) := hs6.cell 0
              have g0 : w6.frozen? ⟨w.heap.size + 1 + 1, 0, none⟩ = false := hs6.frozen 0
              have c1 : w6.cell? ⟨w.heap.size + 1 + 1, 1, none⟩ = some (.string ⟨#[]⟩) := hs6.cell 1
              have g1 : w6.frozen? ⟨w.heap.size + 1 + 1, 1, none⟩ = false := hs6.frozen 1
              have c2 : w6.cell? ⟨w.heap.size + 1 + 1, 2, none⟩ = some (.string ⟨#[]⟩) := hs6.cell 2
              have g2 : w6.frozen? ⟨w.heap.size + 1 + 1, 2, none⟩ = false := hs6.frozen 2
              have c3 : w6.cell? ⟨w.heap.size + 1 + 1, 3, none⟩ = some (.int .i64 0) := hs6.cell 3
              have g3 : w6.frozen? ⟨w.heap.size + 1 + 1, 3, none⟩ = false := hs6.frozen 3
              have c4 : w6.cell? ⟨w.heap.size + 1 + 1, 4, none⟩ = some (.slice none 0 0) := hs6.cell 4
              have g4 : w6.frozen? ⟨w.heap.size + 1 + 1, 4, none⟩ = false := hs6.frozen 4
              refine wpAnyM_ready (rs := [4]) (by kernel_rfl) (by simp) ?_
              refine AllReadyM.cons (o := { dst := none, op := Op.store 24 (Operand.tmp 4) (Operand.tmp 80), type := 0, pos := _, after := #[{ on := 1, ground := Ground.data }, { on := 3, ground := Ground.chain }, { on := 0, ground := Ground.phase }, { on := 1, ground := Ground.phase }, { on := 2, ground := Ground.textOnly Departure.lateStores }, { on := 3, ground := Ground.textOnly Departure.lateStoresUnsure }], guard := none }) rfl (fun K hK => ?_) AllReadyM.nil
              have HK9 : Hid (∀ a w, _ → K a w) := hK
              clear hK
              go_simp
              refine HK9.out _ _ ⟨fun h => absurd h (by omega), ?_⟩
              clear HK9 K
              try simp only [Act.put, List.setIfInBounds_toArray, List.set_cons_zero, List.set_cons_succ]
              obtain ⟨wx, hwx⟩ : ∃ wx, wx = put5 w6 (w.heap.size + 1) (.bool false) (.string lo) (.string yk) (.int .i64 id) (.slice p5 h c5) := ⟨_, rfl⟩
              have hAx : Bk wx (w.heap.size + 1) 24 #[.bool false, .string lo, .string yk, .int .i64 id, .slice p5 h c5] := by rw [hwx]; exact Bk.five hr6 _ _ _ _ _
              have hsx : Bk wx (w.heap.size + 1 + 1) 24 zc := by rw [hwx]; exact hs6.fiveO (by simp) _ _ _ _ _
              have htx : Tn [w.heap.size + 1] w6 wx := by rw [hwx]; exact (Tn.refl _ _).five (.inl (by simp)) _ _ _ _ _
              unfold put5 at hwx
              rw [← hwx]
              clear hwx b0 b1 b2 b3 b4 f0 f1 f2 f3 f4 c0 c1 c2 c3 c4 g0 g1 g2 g3 g4
              have c0 : wx.cell? ⟨w.heap.size + 1 + 1, 0, none⟩ = some (.bool false) := hsx.cell 0
              have g0 : wx.frozen? ⟨w.heap.size + 1 + 1, 0, none⟩ = false := hsx.frozen 0
              have c1 : wx.cell? ⟨w.heap.size + 1 + 1, 1, none⟩ = some (.string ⟨#[]⟩) := hsx.cell 1
              have g1 : wx.frozen? ⟨w.heap.size + 1 + 1, 1, none⟩ = false := hsx.frozen 1
              have c2 : wx.cell? ⟨w.heap.size + 1 + 1, 2, none⟩ = some (.string ⟨#[]⟩) := hsx.cell 2
              have g2 : wx.frozen? ⟨w.heap.size + 1 + 1, 2, none⟩ = false := hsx.frozen 2
              have c3 : wx.cell? ⟨w.heap.size + 1 + 1, 3, none⟩ = some (.int .i64 0) := hsx.cell 3
              have g3 : wx.frozen? ⟨w.heap.size + 1 + 1, 3, none⟩ = false := hsx.frozen 3
              have c4 : wx.cell? ⟨w.heap.size + 1 + 1, 4, none⟩ = some (.slice none 0 0) := hsx.cell 4
              have g4 : wx.frozen? ⟨w.heap.size + 1 + 1, 4, none⟩ = false := hsx.frozen 4
              refine wpAnyM_ready (rs := [5]) (by kernel_rfl) (by simp) ?_
              refine AllReadyM.cons (o := { dst := none, op := Op.store 24 (Operand.tmp 5) (Operand.tmp 82), type := 0, pos := _, after := #[{ on := 3, ground := Ground.data }, { on := 4, ground := Ground.chain }, { on := 0, ground := Ground.phase }, { on := 1, ground := Ground.phase }, { on := 2, ground := Ground.phase }, { on := 3, ground := Ground.phase }, { on := 4, ground := Ground.phase }], guard := none }) rfl (fun K hK => ?_) AllReadyM.nil
              have HK9 : Hid (∀ a w, _ → K a w) := hK
              clear hK
              go_simp
              refine HK9.out _ _ ⟨fun h => absurd h (by omega), ?_⟩
              clear HK9 K
              try simp only [Act.put, List.setIfInBounds_toArray, List.set_cons_zero, List.set_cons_succ]
              refine wpAnyM_ready (rs := [6]) (by kernel_rfl) (by simp) ?_
              refine AllReadyM.cons (o := { dst := some 6, op := Op.assign (Operand.const (Value.int IntKind.i64 0)), type := 32, pos := _, after := #[{ on := 5, ground := Ground.chain }, { on := 0, ground := Ground.phase }, { on := 1, ground := Ground.phase }, { on := 2, ground := Ground.phase }, { on := 3, ground := Ground.phase }, { on := 4, ground := Ground.phase }, { on := 5, ground := Ground.phase }], guard := none }) rfl (fun K hK => ?_) AllReadyM.nil
              have HK9 : Hid (∀ a w, _ → K a w) := hK
              clear hK
              go_simp
              refine HK9.out _ _ ⟨fun h => absurd h (by omega), ?_⟩
              clear HK9 K
              try simp only [Act.put, List.setIfInBounds_toArray, List.set_cons_zero, List.set_cons_succ]
              refine wpAnyM_done (by kernel_rfl) ?_ _
              go_wp2
              clear HC
              obtain ⟨we, hwe⟩ : ∃ we, we = put5 wx (w.heap.size + 1 + 1) (.bool false) (.string yk) (.string hi) (.int .i64 r) (.slice p6 (len - h) c6) := ⟨_, rfl⟩
              have hA : Bk we (w.heap.size + 1) 24 #[.bool false, .string lo, .string yk, .int .i64 id, .slice p5 h c5] := by rw [hwe]; exact hAx.fiveO (by simp) _ _ _ _ _
              have hC : Bk we (w.heap.size + 1 + 1) 24 #[.bool false, .string yk, .string hi, .int .i64 r, .slice p6 (len - h) c6] := by rw [hwe]; exact Bk.five hsx _ _ _ _ _
              have ht : Tn [w.heap.size + 1, w.heap.size + 1 + 1] w6 we := by rw [hwe]; exact (htx.mono (by simp)).five (.inl (by simp)) _ _ _ _ _
              unfold put5 at hwe
              rw [← hwe]
              clear hwe
              refine bodyPost_ret (results_pp (cs := [.bool false, .string lo, .string yk, .int .i64 id, .slice p5 h c5]) (ds := [.bool false, .string yk, .string hi, .int .i64 r, .slice p6 (len - h) c6]) rfl rfl rfl pg_agg pg_size rfl rfl hA hC) rfl ?_
              rw [HQ.out]
              have hcs := HSc.out.lt
              have hBw := HBc.out.trans (hB6.mono HBc.out.size)
              have hT : (l.take h).length = h := HT.out.lenq
              have hD : (l.drop h).length = len - h := HD.out.lenq
              have h5 := ho5.seg.below hb6 (Nat.le_refl _)
              have hz5 : wc.heap.size ≤ w5.heap.size := hB5.size
              refine ⟨_, _, rfl, ⟨p5, c5, by simp only [hT], ?_⟩, ⟨p6, c6, by simp only [hD], ?_⟩, hBw.trans (ht.below hBw.size (by simp; omega))⟩
              · simp only [hT]
                exact (h5.tn ht (by intro x hx; simp at hx; have : wc.drew.heap.size = wc.heap.size := rfl; omega)).mono HBc.out.size
              · simp only [hD]
                exact (ho6.seg.tn ht (by intro x hx; simp at hx; omega)).mono (Nat.le_trans HBc.out.size hz5)
      | true =>
        have hs := rsep_any xk yk w0 hxs hys
        cases hq : Ky.lt xk yk with
        | false =>
          have HQ : Hid (out = (Pg.zero, Pg.zero, 70)) := by rw [Hid, HQ0.out]; simp [Pg.part, hq]
          rw [hq] at hs
          have HSC : Hid (Calls Try.prog 53 #[.string xk, .string yk] w0 fun r w' => r = .returned (.tuple #[.string ⟨#[]⟩, .bool false]) ∧ Below w0.heap.size w0 w') := hs
          clear HQ0 hs
          go_enter Try.func29, Try.ntmps29
          go_wp2_with fail
          all_goals try rw [← hw0]
          all_goals try clear hw0
          refine HSC.out.mono ?_
          rintro e wq ⟨rfl, hbq⟩
          have HBq : Hid (Below w.heap.size w wq) := HB0.out.trans (hbq.mono HB0.out.size)
          have HKq : Hid (Bk wq w.heap.size 24 (pgc true lo hi r (some ⟨b, o, none⟩) len cap)) := HK0.out.below hbq HK0.out.lt
          have HRq : Hid (Bk wq (w.heap.size + 1) 24 zc) := HR0.out.below hbq HR0.out.lt
          have HSq : Hid (Bk wq (w.heap.size + 1 + 1) 24 zc) := HS0.out.below hbq HS0.out.lt
          clear hbq HSC x0 y0
          have b0 : wq.cell? ⟨w.heap.size + 1, 0, none⟩ = some (.bool false) := HRq.out.cell 0
          have f0 : wq.frozen? ⟨w.heap.size + 1, 0, none⟩ = false := HRq.out.frozen 0
          have b1 : wq.cell? ⟨w.heap.size + 1, 1, none⟩ = some (.string ⟨#[]⟩) := HRq.out.cell 1
          have f1 : wq.frozen? ⟨w.heap.size + 1, 1, none⟩ = false := HRq.out.frozen 1
          have b2 : wq.cell? ⟨w.heap.size + 1, 2, none⟩ = some (.string ⟨#[]⟩) := HRq.out.cell 2
          have f2 : wq.frozen? ⟨w.heap.size + 1, 2, none⟩ = false := HRq.out.frozen 2
          have b3 : wq.cell? ⟨w.heap.size + 1, 3, none⟩ = some (.int .i64 0) := HRq.out.cell 3
          have f3 : wq.frozen? ⟨w.heap.size + 1, 3, none⟩ = false := HRq.out.frozen 3
          have b4 : wq.cell? ⟨w.heap.size + 1, 4, none⟩ = some (.slice none 0 0) := HRq.out.cell 4
          have f4 : wq.frozen? ⟨w.heap.size + 1, 4, none⟩ = false := HRq.out.frozen 4
          have c0 : wq.cell? ⟨w.heap.size + 1 + 1, 0, none⟩ = some (.bool false) := HSq.out.cell 0
          have g0 : wq.frozen? ⟨w.heap.size + 1 + 1, 0, none⟩ = false := HSq.out.frozen 0
          have c1 : wq.cell? ⟨w.heap.size + 1 + 1, 1, none⟩ = some (.string ⟨#[]⟩) := HSq.out.cell 1
          have g1 : wq.frozen? ⟨w.heap.size + 1 + 1, 1, none⟩ = false := HSq.out.frozen 1
          have c2 : wq.cell? ⟨w.heap.size + 1 + 1, 2, none⟩ = some (.string ⟨#[]⟩) := HSq.out.cell 2
          have g2 : wq.frozen? ⟨w.heap.size + 1 + 1, 2, none⟩ = false := HSq.out.frozen 2
          have c3 : wq.cell? ⟨w.heap.size + 1 + 1, 3, none⟩ = some (.int .i64 0) := HSq.out.cell 3
          have g3 : wq.frozen? ⟨w.heap.size + 1 + 1, 3, none⟩ = false := HSq.out.frozen 3
          have c4 : wq.cell? ⟨w.heap.size + 1 + 1, 4, none⟩ = some (.slice none 0 0) := HSq.out.cell 4
          have g4 : wq.frozen? ⟨w.heap.size + 1 + 1, 4, none⟩ = false := HSq.out.frozen 4
          go_wp2_with fail
          obtain ⟨we, hwe⟩ : ∃ we, we = put5 (put5 wq (w.heap.size + 1) (.bool false) (.string ⟨#[]⟩) (.string ⟨#[]⟩) (.int .i64 0) (.slice none 0 0)) (w.heap.size + 1 + 1) (.bool false) (.string ⟨#[]⟩) (.string ⟨#[]⟩) (.int .i64 0) (.slice none 0 0) := ⟨_, rfl⟩
          have hA : Bk we (w.heap.size + 1) 24 #[.bool false, .string ⟨#[]⟩, .string ⟨#[]⟩, .int .i64 0, .slice none 0 0] := by rw [hwe]; exact (Bk.five HRq.out _ _ _ _ _).fiveO (by simp) _ _ _ _ _
          have hC : Bk we (w.heap.size + 1 + 1) 24 #[.bool false, .string ⟨#[]⟩, .string ⟨#[]⟩, .int .i64 0, .slice none 0 0] := by rw [hwe]; exact Bk.five (HSq.out.fiveO (by simp) _ _ _ _ _) _ _ _ _ _
          have ht : Tn [w.heap.size + 1, w.heap.size + 1 + 1] wq we := by rw [hwe]; exact ((Tn.refl _ _).five (.inl (by simp)) _ _ _ _ _).five (.inl (by simp)) _ _ _ _ _
          unfold put5 at hwe
          rw [← hwe]
          clear hwe
          refine bodyPost_ret (results_pp (cs := [.bool false, .string ⟨#[]⟩, .string ⟨#[]⟩, .int .i64 0, .slice none 0 0]) (ds := [.bool false, .string ⟨#[]⟩, .string ⟨#[]⟩, .int .i64 0, .slice none 0 0]) rfl rfl rfl pg_agg pg_size rfl rfl hA hC) rfl ?_
          rw [HQ.out]
          exact ⟨_, _, rfl, PgAt.zero _ _, PgAt.zero _ _, HBq.out.trans (ht.below HBq.out.size (by simp; omega))⟩
        | true =>
          have HQ : Hid (out = (⟨true, lo, Ky.sep xk yk, id, l.take h⟩, ⟨true, Ky.sep xk yk, hi, r, l.drop h⟩, 0)) := by rw [Hid, HQ0.out]; simp [Pg.part, hq]
          rw [hq] at hs
          obtain ⟨m, hm⟩ : ∃ m, m = Ky.sep xk yk := ⟨_, rfl⟩
          have HSC : Hid (Calls Try.prog 53 #[.string xk, .string yk] w0 fun r w' => r = .returned (.tuple #[.string (Ky.sep xk yk), .bool true]) ∧ Below w0.heap.size w0 w') := hs
          rw [← hm] at HSC HQ
          clear HQ0 hs hm
          go_enter Try.func29, Try.ntmps29
          go_wp2_with fail
          all_goals try rw [← hw0]
          all_goals try clear hw0
          refine HSC.out.mono ?_
          rintro e wq ⟨rfl, hbq⟩
          have HBq : Hid (Below w.heap.size w wq) := HB0.out.trans (hbq.mono HB0.out.size)
          have HKq : Hid (Bk wq w.heap.size 24 (pgc true lo hi r (some ⟨b, o, none⟩) len cap)) := HK0.out.below hbq HK0.out.lt
          have HRq : Hid (Bk wq (w.heap.size + 1) 24 zc) := HR0.out.below hbq HR0.out.lt
          have HSq : Hid (Bk wq (w.heap.size + 1 + 1) 24 zc) := HS0.out.below hbq HS0.out.lt
          clear hbq HSC x0 y0
          have a0 : wq.cell? ⟨w.heap.size, 0, none⟩ = some (.bool true) := HKq.out.cell 0
          have a1 : wq.cell? ⟨w.heap.size, 1, none⟩ = some (.string lo) := HKq.out.cell 1
          have a2 : wq.cell? ⟨w.heap.size, 2, none⟩ = some (.string hi) := HKq.out.cell 2
          have a3 : wq.cell? ⟨w.heap.size, 3, none⟩ = some (.int .i64 r) := HKq.out.cell 3
          have a4 : wq.cell? ⟨w.heap.size, 4, none⟩ = some (.slice (some ⟨b, o, none⟩) len cap) := HKq.out.cell 4
          go_wp2_with fail
          clear a0 a1 a2 a3 a4
          as_aux_lemma =>
            refine (rclone_any true lo hi r (some ⟨b, o, none⟩) len cap l _ HL.out (HX.out.below HBq.out (Nat.le_refl _)) hl HP.out).mono ?_
            rintro e w2 ⟨p1, c1, rfl, ho1, hb1⟩
            have hs := ho1.seg
            have hle := hs.le
            rcases hs.form with ⟨-, h0, -⟩ | ⟨g, og, cur, rfl, -, -, -, -⟩
            · omega
            have ho0 : og = 0 := by
              rcases ho1.2 with ⟨hv, _⟩ | ⟨g', c', cur', hv, _⟩
              · cases hv
              · cases hv; rfl
            subst ho0
            obtain ⟨wa, hwa⟩ : ∃ wa, w2.alloc (.cells #[.bool true, .string lo, .string hi, .int .i64 r, .slice (some ⟨g, 0, none⟩) len c1] 24) = wa := ⟨_, rfl⟩
            have hba : Below w2.heap.size w2 wa := by rw [← hwa]; exact (Below.refl _ _).alloc (Nat.le_refl _) _
            have hXa : Bk wa w2.heap.size 24 #[.bool true, .string lo, .string hi, .int .i64 r, .slice (some ⟨g, 0, none⟩) len c1] := by rw [← hwa]; exact Bk.new _ _ _
            have hsa : wa.heap.size = w2.heap.size + 1 := by rw [← hwa]; simp
            have hb1a : Below wq.heap.size wq wa := hb1.trans (hba.mono hb1.size)
            have HKa : Hid (Bk wa w.heap.size 24 (pgc true lo hi r (some ⟨b, o, none⟩) len cap)) := HKq.out.below hb1a HKq.out.lt
            have HRa : Hid (Bk wa (w.heap.size + 1) 24 zc) := HRq.out.below hb1a HRq.out.lt
            have HSa : Hid (Bk wa (w.heap.size + 1 + 1) 24 zc) := HSq.out.below hb1a HSq.out.lt
            have HBa : Hid (Below w.heap.size w wa) := HBq.out.trans (hb1a.mono HBq.out.size)
            have HGa : Hid (Seg wa w.heap.size (some ⟨g, 0, none⟩) len c1 l) := (hs.below hba (Nat.le_refl _)).mono HBq.out.size
            have HSZ : Hid (w.heap.size + 1 + 1 < w2.heap.size) := Nat.lt_of_lt_of_le HSq.out.lt hb1.size
            have HWA : Hid (wa.heap.size = w2.heap.size + 1) := hsa
            have x4 : wa.cell? ⟨w2.heap.size, 4, none⟩ = some (.slice (some ⟨g, 0, none⟩) len c1) := hXa.cell 4
            have a0 : wa.cell? ⟨w.heap.size, 0, none⟩ = some (.bool true) := HKa.out.cell 0
            have a1 : wa.cell? ⟨w.heap.size, 1, none⟩ = some (.string lo) := HKa.out.cell 1
            have HXa : Hid (Bk wa w2.heap.size 24 #[.bool true, .string lo, .string hi, .int .i64 r, .slice (some ⟨g, 0, none⟩) len c1]) := hXa
            have i1 : (h : Int) ≤ (c1 : Int) := by omega
            have i2 : (h : Int) ≤ (len : Int) := by omega
            have i3 : ¬ c1 = h := by omega
            have i4 : ¬ h = c1 := by omega
            clear ho1 hb1 hs hba hXa hsa hb1a
            have hb0 : w.heap.size < wa.heap.size := HKa.out.lt
            have hb1 : w2.heap.size < wa.heap.size := HXa.out.lt
            go_wp2_with fail
            clear hwa
            have HS : Hid (∀ w', Below wa.heap.size wa w' → w'.cell? ⟨w2.heap.size, 4, none⟩ = some (.slice (some ⟨g, 0, none⟩) len c1) ∧ w'.cell? ⟨w.heap.size, 0, none⟩ = some (.bool true) ∧ w'.cell? ⟨w.heap.size, 1, none⟩ = some (.string lo)) := fun w' hh => ⟨(HXa.out.below hh HXa.out.lt).cell 4, (HKa.out.below hh HKa.out.lt).cell 0, (HKa.out.below hh HKa.out.lt).cell 1⟩
            have j1 : Int.tdiv (len : Int) 2 = (h : Int) := by rw [Int.tdiv_eq_ediv_of_nonneg (by omega)]; exact hhj
            have j2 : IntKind.i64.wrap (h : Int) = (h : Int) := wrap_id9 (by omega)
            have hS := HS.out wa.drew (Below.refl _ _).drew
            refine wp_region_mid (S := (fun w' => w'.cell? ⟨w2.heap.size, 4, none⟩ = some (.slice (some ⟨g, 0, none⟩) len c1) ∧ w'.cell? ⟨w.heap.size, 0, none⟩ = some (.bool true) ∧ w'.cell? ⟨w.heap.size, 1, none⟩ = some (.string lo))) 13 (by kernel_rfl) ?_
            refine wpAnyM_take (i := 0) [] (oi := { dst := some 54, op := Op.fieldAddr 24 (Operand.tmp 2) 0, type := 0, pos := _, after := #[], guard := none }) (v := ?_) rfl (by kernel_rfl) (by kernel_rfl) (by kernel_rfl) (by kernel_rfl) (fun _ _ _ h => h) (Or.inl ⟨by rfl, ?_⟩) hS ?_
            rotate_left
            · (intro w' hSw; obtain ⟨k0, k1, k2⟩ := hSw; go_simp; try with_reducible rfl)
            try simp only [Act.put, List.setIfInBounds_toArray, List.set_cons_zero, List.set_cons_succ]
            refine wpAnyM_take (i := 1) [] (oi := { dst := some 55, op := Op.load 4 (Operand.tmp 54), type := 4, pos := _, after := #[{ on := 0, ground := Ground.data }], guard := none }) (v := ?_) rfl (by kernel_rfl) (by kernel_rfl) (by kernel_rfl) (by kernel_rfl) (fun _ _ _ h => h) (Or.inl ⟨by rfl, ?_⟩) hS ?_
            rotate_left
            · (intro w' hSw; obtain ⟨k0, k1, k2⟩ := hSw; go_simp; try with_reducible rfl)
            try simp only [Act.put, List.setIfInBounds_toArray, List.set_cons_zero, List.set_cons_succ]
            refine wpAnyM_take (i := 2) [] (oi := { dst := some 56, op := Op.fieldAddr 24 (Operand.tmp 2) 1, type := 0, pos := _, after := #[], guard := none }) (v := ?_) rfl (by kernel_rfl) (by kernel_rfl) (by kernel_rfl) (by kernel_rfl) (fun _ _ _ h => h) (Or.inl ⟨by rfl, ?_⟩) hS ?_
            rotate_left
            · (intro w' hSw; obtain ⟨k0, k1, k2⟩ := hSw; go_simp; try with_reducible rfl)
            try simp only [Act.put, List.setIfInBounds_toArray, List.set_cons_zero, List.set_cons_succ]
            refine wpAnyM_take (i := 3) [] (oi := { dst := some 57, op := Op.load 9 (Operand.tmp 56), type := 9, pos := _, after := #[{ on := 2, ground := Ground.data }], guard := none }) (v := ?_) rfl (by kernel_rfl) (by kernel_rfl) (by kernel_rfl) (by kernel_rfl) (fun _ _ _ h => h) (Or.inl ⟨by rfl, ?_⟩) hS ?_
            rotate_left
            · (intro w' hSw; obtain ⟨k0, k1, k2⟩ := hSw; go_simp; try with_reducible rfl)
            try simp only [Act.put, List.setIfInBounds_toArray, List.set_cons_zero, List.set_cons_succ]
            refine wpAnyM_take (i := 4) [] (oi := { dst := some 58, op := Op.move (Operand.tmp 8), type := 9, pos := _, after := #[], guard := none }) (v := ?_) rfl (by kernel_rfl) (by kernel_rfl) (by kernel_rfl) (by kernel_rfl) (fun _ _ _ h => h) (Or.inl ⟨by rfl, ?_⟩) hS ?_
            rotate_left
            · (intro w' hSw; obtain ⟨k0, k1, k2⟩ := hSw; go_simp; try with_reducible rfl)
            try simp only [Act.put, List.setIfInBounds_toArray, List.set_cons_zero, List.set_cons_succ]
            refine wpAnyM_take (i := 5) [] (oi := { dst := some 59, op := Op.move (Operand.tmp 1), type := 3, pos := _, after := #[], guard := none }) (v := ?_) rfl (by kernel_rfl) (by kernel_rfl) (by kernel_rfl) (by kernel_rfl) (fun _ _ _ h => h) (Or.inl ⟨by rfl, ?_⟩) hS ?_
            rotate_left
            · (intro w' hSw; obtain ⟨k0, k1, k2⟩ := hSw; go_simp; try with_reducible rfl)
            try simp only [Act.put, List.setIfInBounds_toArray, List.set_cons_zero, List.set_cons_succ]
            refine wpAnyM_take (i := 6) [] (oi := { dst := some 60, op := Op.fieldAddr 24 (Operand.tmp 11) 4, type := 0, pos := _, after := #[], guard := none }) (v := ?_) rfl (by kernel_rfl) (by kernel_rfl) (by kernel_rfl) (by kernel_rfl) (fun _ _ _ h => h) (Or.inl ⟨by rfl, ?_⟩) hS ?_
            rotate_left
            · (intro w' hSw; obtain ⟨k0, k1, k2⟩ := hSw; go_simp; try with_reducible rfl)
            try simp only [Act.put, List.setIfInBounds_toArray, List.set_cons_zero, List.set_cons_succ]
            refine wpAnyM_take (i := 7) [] (oi := { dst := some 61, op := Op.load 22 (Operand.tmp 60), type := 22, pos := _, after := #[{ on := 6, ground := Ground.data }], guard := none }) (v := ?_) rfl (by kernel_rfl) (by kernel_rfl) (by kernel_rfl) (by kernel_rfl) (fun _ _ _ h => h) (Or.inl ⟨by rfl, ?_⟩) hS ?_
            rotate_left
            · (intro w' hSw; obtain ⟨k0, k1, k2⟩ := hSw; go_simp; try with_reducible rfl)
            try simp only [Act.put, List.setIfInBounds_toArray, List.set_cons_zero, List.set_cons_succ]
            refine wpAnyM_take (i := 8) [] (oi := { dst := some 62, op := Op.move (Operand.tmp 7), type := 3, pos := _, after := #[], guard := none }) (v := ?_) rfl (by kernel_rfl) (by kernel_rfl) (by kernel_rfl) (by kernel_rfl) (fun _ _ _ h => h) (Or.inl ⟨by rfl, ?_⟩) hS ?_
            rotate_left
            · (intro w' hSw; obtain ⟨k0, k1, k2⟩ := hSw; go_simp; try with_reducible rfl)
            try simp only [Act.put, List.setIfInBounds_toArray, List.set_cons_zero, List.set_cons_succ]
            refine wpAnyM_take (i := 9) [] (oi := { dst := some 63, op := Op.binOp BinOp.quo 3 (Operand.tmp 62) (Operand.const (Value.int IntKind.i64 2)) 3, type := 3, pos := _, after := #[{ on := 8, ground := Ground.data }], guard := none }) (v := .int .i64 (h : Int)) rfl (by kernel_rfl) (by kernel_rfl) (by kernel_rfl) (by kernel_rfl) (fun _ _ _ h => h) (Or.inl ⟨by rfl, ?_⟩) hS ?_
            · (intro w' hSw; obtain ⟨k0, k1, k2⟩ := hSw; go_simp; try with_reducible rfl)
            try simp only [Act.put, List.setIfInBounds_toArray, List.set_cons_zero, List.set_cons_succ]
            refine wpAnyM_take (i := 10) [] (oi := { dst := some 64, op := Op.slice 22 (Operand.tmp 61) none (some (Operand.tmp 63)) none, type := 22, pos := _, after := #[{ on := 7, ground := Ground.data }, { on := 9, ground := Ground.data }], guard := none }) (v := .slice (some ⟨g, 0, none⟩) h c1) rfl (by kernel_rfl) (by kernel_rfl) (by kernel_rfl) (by kernel_rfl) (fun _ _ _ h => h) (Or.inl ⟨by rfl, ?_⟩) hS ?_
            · (intro w' hSw; obtain ⟨k0, k1, k2⟩ := hSw; go_simp; try with_reducible rfl)
            try simp only [Act.put, List.setIfInBounds_toArray, List.set_cons_zero, List.set_cons_succ]
            refine wpAnyM_take (i := 11) [] (oi := { dst := some 65, op := Op.build 24 #[(0, Operand.tmp 55), (1, Operand.tmp 57), (2, Operand.tmp 58), (3, Operand.tmp 59), (4, Operand.tmp 64)], type := 24, pos := _, after := #[{ on := 1, ground := Ground.data }, { on := 3, ground := Ground.data }, { on := 4, ground := Ground.data }, { on := 5, ground := Ground.data }, { on := 10, ground := Ground.data }], guard := none }) (v := ?_) rfl (by kernel_rfl) (by kernel_rfl) (by kernel_rfl) (by kernel_rfl) (fun _ _ _ h => h) (Or.inl ⟨by rfl, ?_⟩) hS ?_
            rotate_left
            · (intro w' hSw; obtain ⟨k0, k1, k2⟩ := hSw; go_simp; try with_reducible rfl)
            try simp only [Act.put, List.setIfInBounds_toArray, List.set_cons_zero, List.set_cons_succ]
            refine wpAnyM_ready (rs := [12]) (by kernel_rfl) (by simp) ?_
            refine AllReadyM.cons (o := { dst := some 12, op := Op.alloc 24, type := 0, pos := _, after := #[], guard := none }) rfl (fun K hK => ?_) AllReadyM.nil
            have HK9 : Hid (∀ a w, _ → K a w) := hK
            clear hK
            go_simp
            refine HK9.out _ _ ⟨fun _ => HS.out _ ((Below.refl _ _).drew.alloc (Nat.le_refl _) _), ?_⟩
            clear HK9 K
            try simp only [Act.put, List.setIfInBounds_toArray, List.set_cons_zero, List.set_cons_succ]
            refine wpAnyM_ready (rs := [13]) (by kernel_rfl) (by simp) ?_
            refine AllReadyM.cons (o := { dst := none, op := Op.store 24 (Operand.tmp 12) (Operand.tmp 65), type := 0, pos := _, after := #[{ on := 12, ground := Ground.data }, { on := 11, ground := Ground.data }, { on := 0, ground := Ground.phase }, { on := 1, ground := Ground.phase }, { on := 2, ground := Ground.phase }, { on := 3, ground := Ground.phase }, { on := 4, ground := Ground.phase }, { on := 5, ground := Ground.phase }, { on := 6, ground := Ground.phase }, { on := 7, ground := Ground.phase }, { on := 8, ground := Ground.phase }, { on := 9, ground := Ground.phase }, { on := 10, ground := Ground.phase }, { on := 11, ground := Ground.phase }, { on := 12, ground := Ground.phase }], guard := none }) rfl (fun K hK => ?_) AllReadyM.nil
            have HK9 : Hid (∀ a w, _ → K a w) := hK
            clear hK
            go_simp
            refine HK9.out _ _ ⟨fun h => absurd h (by omega), ?_⟩
            clear HK9 K
            try simp only [Act.put, List.setIfInBounds_toArray, List.set_cons_zero, List.set_cons_succ]
            refine wpAnyM_done (by kernel_rfl) ?_ _
            clear j1 j2 hS HS
            clear hb0 hb1
            obtain ⟨wb, hwb⟩ : ∃ wb, wb = (wa.alloc (.cells #[.bool true, .string lo, .string m, .int .i64 id, .slice (some ⟨g, 0, none⟩) h c1] 24)).drew := ⟨_, rfl⟩
            rw [← hwb]
            have hbb : Below wa.heap.size wa wb := by rw [hwb]; exact ((Below.refl _ _).alloc (Nat.le_refl _) _).drew
            have HYb : Hid (Bk wb wa.heap.size 24 #[.bool true, .string lo, .string m, .int .i64 id, .slice (some ⟨g, 0, none⟩) h c1]) := by rw [hwb]; exact (Bk.new _ _ _).drew
            have HKb : Hid (Bk wb w.heap.size 24 (pgc true lo hi r (some ⟨b, o, none⟩) len cap)) := HKa.out.below hbb HKa.out.lt
            have HXb : Hid (Bk wb w2.heap.size 24 #[.bool true, .string lo, .string hi, .int .i64 r, .slice (some ⟨g, 0, none⟩) len c1]) := HXa.out.below hbb HXa.out.lt
            have HBBb : Hid (Below wa.heap.size wa wb) := hbb
            clear hwb hbb a0 a1 x4
            have x4 : wb.cell? ⟨w2.heap.size, 4, none⟩ = some (.slice (some ⟨g, 0, none⟩) len c1) := HXb.out.cell 4
            have a0 : wb.cell? ⟨w.heap.size, 0, none⟩ = some (.bool true) := HKb.out.cell 0
            have a2 : wb.cell? ⟨w.heap.size, 2, none⟩ = some (.string hi) := HKb.out.cell 2
            have a3 : wb.cell? ⟨w.heap.size, 3, none⟩ = some (.int .i64 r) := HKb.out.cell 3
            have hb0 : w.heap.size < wb.heap.size := HKb.out.lt
            have hb1 : w2.heap.size < wb.heap.size := HXb.out.lt
            as_aux_lemma =>
              go_wp2_with fail
              have HS : Hid (∀ w', Below wb.heap.size wb w' → w'.cell? ⟨w2.heap.size, 4, none⟩ = some (.slice (some ⟨g, 0, none⟩) len c1) ∧ w'.cell? ⟨w.heap.size, 0, none⟩ = some (.bool true) ∧ w'.cell? ⟨w.heap.size, 2, none⟩ = some (.string hi) ∧ w'.cell? ⟨w.heap.size, 3, none⟩ = some (.int .i64 r)) := fun w' hh => ⟨(HXb.out.below hh HXb.out.lt).cell 4, (HKb.out.below hh HKb.out.lt).cell 0, (HKb.out.below hh HKb.out.lt).cell 2, (HKb.out.below hh HKb.out.lt).cell 3⟩
              have j1 : Int.tdiv (len : Int) 2 = (h : Int) := by rw [Int.tdiv_eq_ediv_of_nonneg (by omega)]; exact hhj
              have j2 : IntKind.i64.wrap (h : Int) = (h : Int) := wrap_id9 (by omega)
              have hS := HS.out wb.drew (Below.refl _ _).drew
              refine wp_region_mid (S := (fun w' => w'.cell? ⟨w2.heap.size, 4, none⟩ = some (.slice (some ⟨g, 0, none⟩) len c1) ∧ w'.cell? ⟨w.heap.size, 0, none⟩ = some (.bool true) ∧ w'.cell? ⟨w.heap.size, 2, none⟩ = some (.string hi) ∧ w'.cell? ⟨w.heap.size, 3, none⟩ = some (.int .i64 r))) 14 (by kernel_rfl) ?_
              refine wpAnyM_take (i := 0) [] (oi := { dst := some 66, op := Op.fieldAddr 24 (Operand.tmp 2) 0, type := 0, pos := _, after := #[], guard := none }) (v := ?_) rfl (by kernel_rfl) (by kernel_rfl) (by kernel_rfl) (by kernel_rfl) (fun _ _ _ h => h) (Or.inl ⟨by rfl, ?_⟩) hS ?_
              rotate_left
              · (intro w' hSw; obtain ⟨k0, k1, k2, k3⟩ := hSw; go_simp; try with_reducible rfl)
              try simp only [Act.put, List.setIfInBounds_toArray, List.set_cons_zero, List.set_cons_succ]
              refine wpAnyM_take (i := 1) [] (oi := { dst := some 67, op := Op.load 4 (Operand.tmp 66), type := 4, pos := _, after := #[{ on := 0, ground := Ground.data }], guard := none }) (v := ?_) rfl (by kernel_rfl) (by kernel_rfl) (by kernel_rfl) (by kernel_rfl) (fun _ _ _ h => h) (Or.inl ⟨by rfl, ?_⟩) hS ?_
              rotate_left
              · (intro w' hSw; obtain ⟨k0, k1, k2, k3⟩ := hSw; go_simp; try with_reducible rfl)
              try simp only [Act.put, List.setIfInBounds_toArray, List.set_cons_zero, List.set_cons_succ]
              refine wpAnyM_take (i := 2) [] (oi := { dst := some 68, op := Op.move (Operand.tmp 8), type := 9, pos := _, after := #[], guard := none }) (v := ?_) rfl (by kernel_rfl) (by kernel_rfl) (by kernel_rfl) (by kernel_rfl) (fun _ _ _ h => h) (Or.inl ⟨by rfl, ?_⟩) hS ?_
              rotate_left
              · (intro w' hSw; obtain ⟨k0, k1, k2, k3⟩ := hSw; go_simp; try with_reducible rfl)
              try simp only [Act.put, List.setIfInBounds_toArray, List.set_cons_zero, List.set_cons_succ]
              refine wpAnyM_take (i := 3) [] (oi := { dst := some 69, op := Op.fieldAddr 24 (Operand.tmp 2) 2, type := 0, pos := _, after := #[], guard := none }) (v := ?_) rfl (by kernel_rfl) (by kernel_rfl) (by kernel_rfl) (by kernel_rfl) (fun _ _ _ h => h) (Or.inl ⟨by rfl, ?_⟩) hS ?_
              rotate_left
              · (intro w' hSw; obtain ⟨k0, k1, k2, k3⟩ := hSw; go_simp; try with_reducible rfl)
              try simp only [Act.put, List.setIfInBounds_toArray, List.set_cons_zero, List.set_cons_succ]
              refine wpAnyM_take (i := 4) [] (oi := { dst := some 70, op := Op.load 9 (Operand.tmp 69), type := 9, pos := _, after := #[{ on := 3, ground := Ground.data }], guard := none }) (v := ?_) rfl (by kernel_rfl) (by kernel_rfl) (by kernel_rfl) (by kernel_rfl) (fun _ _ _ h => h) (Or.inl ⟨by rfl, ?_⟩) hS ?_
              rotate_left
              · (intro w' hSw; obtain ⟨k0, k1, k2, k3⟩ := hSw; go_simp; try with_reducible rfl)
              try simp only [Act.put, List.setIfInBounds_toArray, List.set_cons_zero, List.set_cons_succ]
              refine wpAnyM_take (i := 5) [] (oi := { dst := some 71, op := Op.fieldAddr 24 (Operand.tmp 2) 3, type := 0, pos := _, after := #[], guard := none }) (v := ?_) rfl (by kernel_rfl) (by kernel_rfl) (by kernel_rfl) (by kernel_rfl) (fun _ _ _ h => h) (Or.inl ⟨by rfl, ?_⟩) hS ?_
              rotate_left
              · (intro w' hSw; obtain ⟨k0, k1, k2, k3⟩ := hSw; go_simp; try with_reducible rfl)
              try simp only [Act.put, List.setIfInBounds_toArray, List.set_cons_zero, List.set_cons_succ]
              refine wpAnyM_take (i := 6) [] (oi := { dst := some 72, op := Op.load 3 (Operand.tmp 71), type := 3, pos := _, after := #[{ on := 5, ground := Ground.data }], guard := none }) (v := ?_) rfl (by kernel_rfl) (by kernel_rfl) (by kernel_rfl) (by kernel_rfl) (fun _ _ _ h => h) (Or.inl ⟨by rfl, ?_⟩) hS ?_
              rotate_left
              · (intro w' hSw; obtain ⟨k0, k1, k2, k3⟩ := hSw; go_simp; try with_reducible rfl)
              try simp only [Act.put, List.setIfInBounds_toArray, List.set_cons_zero, List.set_cons_succ]
              refine wpAnyM_take (i := 7) [] (oi := { dst := some 73, op := Op.fieldAddr 24 (Operand.tmp 11) 4, type := 0, pos := _, after := #[], guard := none }) (v := ?_) rfl (by kernel_rfl) (by kernel_rfl) (by kernel_rfl) (by kernel_rfl) (fun _ _ _ h => h) (Or.inl ⟨by rfl, ?_⟩) hS ?_
              rotate_left
              · (intro w' hSw; obtain ⟨k0, k1, k2, k3⟩ := hSw; go_simp; try with_reducible rfl)
              try simp only [Act.put, List.setIfInBounds_toArray, List.set_cons_zero, List.set_cons_succ]
              refine wpAnyM_take (i := 8) [] (oi := { dst := some 74, op := Op.load 22 (Operand.tmp 73), type := 22, pos := _, after := #[{ on := 7, ground := Ground.data }], guard := none }) (v := ?_) rfl (by kernel_rfl) (by kernel_rfl) (by kernel_rfl) (by kernel_rfl) (fun _ _ _ h => h) (Or.inl ⟨by rfl, ?_⟩) hS ?_
              rotate_left
              · (intro w' hSw; obtain ⟨k0, k1, k2, k3⟩ := hSw; go_simp; try with_reducible rfl)
              try simp only [Act.put, List.setIfInBounds_toArray, List.set_cons_zero, List.set_cons_succ]
              refine wpAnyM_take (i := 9) [] (oi := { dst := some 75, op := Op.move (Operand.tmp 7), type := 3, pos := _, after := #[], guard := none }) (v := ?_) rfl (by kernel_rfl) (by kernel_rfl) (by kernel_rfl) (by kernel_rfl) (fun _ _ _ h => h) (Or.inl ⟨by rfl, ?_⟩) hS ?_
              rotate_left
              · (intro w' hSw; obtain ⟨k0, k1, k2, k3⟩ := hSw; go_simp; try with_reducible rfl)
              try simp only [Act.put, List.setIfInBounds_toArray, List.set_cons_zero, List.set_cons_succ]
              refine wpAnyM_take (i := 10) [] (oi := { dst := some 76, op := Op.binOp BinOp.quo 3 (Operand.tmp 75) (Operand.const (Value.int IntKind.i64 2)) 3, type := 3, pos := _, after := #[{ on := 9, ground := Ground.data }], guard := none }) (v := .int .i64 (h : Int)) rfl (by kernel_rfl) (by kernel_rfl) (by kernel_rfl) (by kernel_rfl) (fun _ _ _ h => h) (Or.inl ⟨by rfl, ?_⟩) hS ?_
              · (intro w' hSw; obtain ⟨k0, k1, k2, k3⟩ := hSw; go_simp; try with_reducible rfl)
              try simp only [Act.put, List.setIfInBounds_toArray, List.set_cons_zero, List.set_cons_succ]
              refine wpAnyM_take (i := 11) [] (oi := { dst := some 77, op := Op.slice 22 (Operand.tmp 74) (some (Operand.tmp 76)) none none, type := 22, pos := _, after := #[{ on := 8, ground := Ground.data }, { on := 10, ground := Ground.data }], guard := none }) (v := .slice (some ⟨g, h * 4, none⟩) (len - h) (c1 - h)) rfl (by kernel_rfl) (by kernel_rfl) (by kernel_rfl) (by kernel_rfl) (fun _ _ _ h => h) (Or.inl ⟨by rfl, ?_⟩) hS ?_
              · (intro w' hSw; obtain ⟨k0, k1, k2, k3⟩ := hSw; go_simp; try with_reducible rfl)
              try simp only [Act.put, List.setIfInBounds_toArray, List.set_cons_zero, List.set_cons_succ]
              refine wpAnyM_take (i := 12) [] (oi := { dst := some 78, op := Op.build 24 #[(0, Operand.tmp 67), (1, Operand.tmp 68), (2, Operand.tmp 70), (3, Operand.tmp 72), (4, Operand.tmp 77)], type := 24, pos := _, after := #[{ on := 1, ground := Ground.data }, { on := 2, ground := Ground.data }, { on := 4, ground := Ground.data }, { on := 6, ground := Ground.data }, { on := 11, ground := Ground.data }], guard := none }) (v := ?_) rfl (by kernel_rfl) (by kernel_rfl) (by kernel_rfl) (by kernel_rfl) (fun _ _ _ h => h) (Or.inl ⟨by rfl, ?_⟩) hS ?_
              rotate_left
              · (intro w' hSw; obtain ⟨k0, k1, k2, k3⟩ := hSw; go_simp; try with_reducible rfl)
              try simp only [Act.put, List.setIfInBounds_toArray, List.set_cons_zero, List.set_cons_succ]
              refine wpAnyM_ready (rs := [13]) (by kernel_rfl) (by simp) ?_
              refine AllReadyM.cons (o := { dst := some 13, op := Op.alloc 24, type := 0, pos := _, after := #[], guard := none }) rfl (fun K hK => ?_) AllReadyM.nil
              have HK9 : Hid (∀ a w, _ → K a w) := hK
              clear hK
              go_simp
              refine HK9.out _ _ ⟨fun _ => HS.out _ ((Below.refl _ _).drew.alloc (Nat.le_refl _) _), ?_⟩
              clear HK9 K
              try simp only [Act.put, List.setIfInBounds_toArray, List.set_cons_zero, List.set_cons_succ]
              refine wpAnyM_ready (rs := [14]) (by kernel_rfl) (by simp) ?_
              refine AllReadyM.cons (o := { dst := none, op := Op.store 24 (Operand.tmp 13) (Operand.tmp 78), type := 0, pos := _, after := #[{ on := 13, ground := Ground.data }, { on := 12, ground := Ground.data }, { on := 0, ground := Ground.phase }, { on := 1, ground := Ground.phase }, { on := 2, ground := Ground.phase }, { on := 3, ground := Ground.phase }, { on := 4, ground := Ground.phase }, { on := 5, ground := Ground.phase }, { on := 6, ground := Ground.phase }, { on := 7, ground := Ground.phase }, { on := 8, ground := Ground.phase }, { on := 9, ground := Ground.phase }, { on := 10, ground := Ground.phase }, { on := 11, ground := Ground.phase }, { on := 12, ground := Ground.phase }, { on := 13, ground := Ground.phase }], guard := none }) rfl (fun K hK => ?_) AllReadyM.nil
              have HK9 : Hid (∀ a w, _ → K a w) := hK
              clear hK
              go_simp
              refine HK9.out _ _ ⟨fun h => absurd h (by omega), ?_⟩
              clear HK9 K
              try simp only [Act.put, List.setIfInBounds_toArray, List.set_cons_zero, List.set_cons_succ]
              refine wpAnyM_done (by kernel_rfl) ?_ _
              clear j1 j2 hS HS
              clear hb0 hb1
              obtain ⟨wc, hwc⟩ : ∃ wc, wc = (wb.alloc (.cells #[.bool true, .string m, .string hi, .int .i64 r, .slice (some ⟨g, h * 4, none⟩) (len - h) (c1 - h)] 24)).drew := ⟨_, rfl⟩
              rw [← hwc]
              have hbc : Below wb.heap.size wb wc := by rw [hwc]; exact ((Below.refl _ _).alloc (Nat.le_refl _) _).drew
              have HZc : Hid (Bk wc wb.heap.size 24 #[.bool true, .string m, .string hi, .int .i64 r, .slice (some ⟨g, h * 4, none⟩) (len - h) (c1 - h)]) := by rw [hwc]; exact (Bk.new _ _ _).drew
              have HYc : Hid (Bk wc wa.heap.size 24 #[.bool true, .string lo, .string m, .int .i64 id, .slice (some ⟨g, 0, none⟩) h c1]) := HYb.out.below hbc HYb.out.lt
              have hac : Below wa.heap.size wa wc := HBBb.out.trans (hbc.mono HBBb.out.size)
              have HBc : Hid (Below w.heap.size w wc) := HBa.out.trans (hac.mono HBa.out.size)
              have HRc : Hid (Bk wc (w.heap.size + 1) 24 zc) := HRa.out.below hac HRa.out.lt
              have HSc : Hid (Bk wc (w.heap.size + 1 + 1) 24 zc) := HSa.out.below hac HSa.out.lt
              have hgc := HGa.out.below hac (Nat.le_refl _)
              have HT : Hid (Seg wc w.heap.size (some ⟨g, 0, none⟩) h c1 (l.take h)) := hgc.take h c1 (by omega) (by omega) (Nat.le_refl _)
              have hdr := hgc.drop h (by omega)
              rw [Nat.zero_add] at hdr
              have HD : Hid (Seg wc w.heap.size (some ⟨g, h * 4, none⟩) (len - h) (c1 - h) (l.drop h)) := hdr
              have HQ1 : Hid (w.heap.size + 1 + 1 < wa.heap.size ∧ wa.heap.size < wb.heap.size) := ⟨by have := HSZ.out; have := HWA.out; omega, HYb.out.lt⟩
              clear hwc hbc hac hgc hdr x4 a0 a2 a3 i1 i2 i3 i4
              as_aux_lemma =>
                go_wp2_with fail
                have HC : Hid (∀ w', Below wc.heap.size wc w' → (w'.cell? ⟨wa.heap.size, 0, none⟩ = some (.bool true) ∧ w'.cell? ⟨wa.heap.size, 1, none⟩ = some (.string lo) ∧ w'.cell? ⟨wa.heap.size, 2, none⟩ = some (.string m) ∧ w'.cell? ⟨wa.heap.size, 3, none⟩ = some (.int .i64 id) ∧ w'.cell? ⟨wa.heap.size, 4, none⟩ = some (.slice (some ⟨g, 0, none⟩) h c1) ∧ w'.cell? ⟨wb.heap.size, 0, none⟩ = some (.bool true) ∧ w'.cell? ⟨wb.heap.size, 1, none⟩ = some (.string m) ∧ w'.cell? ⟨wb.heap.size, 2, none⟩ = some (.string hi) ∧ w'.cell? ⟨wb.heap.size, 3, none⟩ = some (.int .i64 r) ∧ w'.cell? ⟨wb.heap.size, 4, none⟩ = some (.slice (some ⟨g, h * 4, none⟩) (len - h) (c1 - h))) ∧ wc.heap.size ≤ w'.heap.size) := fun w' hh => by
                  have k := HYc.out.below hh HYc.out.lt
                  have z := HZc.out.below hh HZc.out.lt
                  exact ⟨⟨k.cell 0, k.cell 1, k.cell 2, k.cell 3, k.cell 4, z.cell 0, z.cell 1, z.cell 2, z.cell 3, z.cell 4⟩, hh.size⟩
                have n1 : ¬ wa.heap.size = w.heap.size + 1 := by have := HQ1.out; omega
                have n2 : ¬ wa.heap.size = w.heap.size + 1 + 1 := by have := HQ1.out; omega
                have n3 : ¬ wb.heap.size = w.heap.size + 1 := by have := HQ1.out; omega
                have n4 : ¬ wb.heap.size = w.heap.size + 1 + 1 := by have := HQ1.out; omega
                have n5 : ¬ w.heap.size + 1 = wa.heap.size := by have := HQ1.out; omega
                have n6 : ¬ w.heap.size + 1 + 1 = wa.heap.size := by have := HQ1.out; omega
                have n7 : ¬ w.heap.size + 1 = wb.heap.size := by have := HQ1.out; omega
                have n8 : ¬ w.heap.size + 1 + 1 = wb.heap.size := by have := HQ1.out; omega
                clear n1 n2 n3 n4 n5 n6 n7 n8
                have hB : Below wc.heap.size wc wc.drew := (Below.refl _ _).drew
                refine wp_region_mid (S := fun w' => Below wc.heap.size wc w') 3 (by kernel_rfl) ?_
                refine wpAnyM_take (i := 0) [1, 3, 4, 5, 6] (oi := { dst := some 79, op := Op.load 24 (Operand.tmp 12), type := 24, pos := _, after := #[], guard := none }) (v := (.agg #[.bool true, .string lo, .string m, .int .i64 id, .slice (some ⟨g, 0, none⟩) h c1])) rfl (by kernel_rfl) (by kernel_rfl) (by kernel_rfl) (by kernel_rfl) (fun _ _ _ h => h) (Or.inl ⟨by rfl, ?_⟩) hB ?_
                · (intro w' hSw; obtain ⟨⟨k0, k1, k2, k3, k4, k5, k6, k7, k8, k9⟩, -⟩ := HC.out w' hSw; clear hSw; go_simp; try with_reducible rfl)
                try simp only [Act.put, List.setIfInBounds_toArray, List.set_cons_zero, List.set_cons_succ]
                refine wpAnyM_take (i := 2) [3, 4, 5, 6] (oi := { dst := some 81, op := Op.load 24 (Operand.tmp 13), type := 24, pos := _, after := #[], guard := none }) (v := (.agg #[.bool true, .string m, .string hi, .int .i64 r, .slice (some ⟨g, h * 4, none⟩) (len - h) (c1 - h)])) rfl (by kernel_rfl) (by kernel_rfl) (by kernel_rfl) (by kernel_rfl) (fun _ _ _ h => h) (Or.inl ⟨by rfl, ?_⟩) hB ?_
                · (intro w' hSw; obtain ⟨⟨k0, k1, k2, k3, k4, k5, k6, k7, k8, k9⟩, -⟩ := HC.out w' hSw; clear hSw; go_simp; try with_reducible rfl)
                try simp only [Act.put, List.setIfInBounds_toArray, List.set_cons_zero, List.set_cons_succ]
                refine wpAnyM_ready (rs := [1]) (by kernel_rfl) (by simp) ?_
                refine AllReadyM.cons (o := { dst := some 80, op := Op.call { callee := Callee.value (Operand.func 32), args := #[Operand.tmp 79], argTypes := #[24] }, type := 24, pos := _, after := #[{ on := 0, ground := Ground.data }], guard := none }) rfl (fun K hK => ?_) AllReadyM.nil
                have HK9 : Hid (∀ a w, _ → K a w) := hK
                clear hK
                go_simp
                refine (rclone_any true lo m id (some ⟨g, 0, none⟩) h c1 (l.take h) _ HT.out.lenq (HT.out.ens.below hB (Nat.le_refl _)) (by omega) (fun hh => by cases hh)).mono ?_
                rintro e w5 ⟨p5, c5, rfl, ho5, hb5⟩
                have hB5 := hB.trans (hb5.mono hB.size)
                try go_wp2_with fail
                refine HK9.out _ _ ⟨fun _ => hB5, ?_⟩
                clear HK9 K
                try simp only [Act.put, List.setIfInBounds_toArray, List.set_cons_zero, List.set_cons_succ]
                refine wpAnyM_ready (rs := [3]) (by kernel_rfl) (by simp) ?_
                refine AllReadyM.cons (o := { dst := some 82, op := Op.call { callee := Callee.value (Operand.func 32), args := #[Operand.tmp 81], argTypes := #[24] }, type := 24, pos := _, after := #[{ on := 2, ground := Ground.data }, { on := 1, ground := Ground.chain }], guard := none }) rfl (fun K hK => ?_) AllReadyM.nil
                have HK9 : Hid (∀ a w, _ → K a w) := hK
                clear hK
                go_simp
                refine (rclone_any true m hi r (some ⟨g, h * 4, none⟩) (len - h) (c1 - h) (l.drop h) _ HD.out.lenq (HD.out.ens.below hB5 (Nat.le_refl _)) (by omega) (fun hh => by cases hh)).mono ?_
                rintro e w6 ⟨p6, c6, rfl, ho6, hb6⟩
                have hB6 := hB5.trans (hb6.mono hB5.size)
                try go_wp2_with fail
                refine HK9.out _ _ ⟨fun h => absurd h (by omega), ?_⟩
                clear HK9 K
                try simp only [Act.put, List.setIfInBounds_toArray, List.set_cons_zero, List.set_cons_succ]
                have hr6 := HRc.out.below hB6 HRc.out.lt
                have hs6 := HSc.out.below hB6 HSc.out.lt
                have b0 : w6.cell? ⟨w.heap.size + 1, 0, none⟩ = some (.bool false) := hr6.cell 0
                have f0 : w6.frozen? ⟨w.heap.size + 1, 0, none⟩ = false := hr6.frozen 0
                have b1 : w6.cell? ⟨w.heap.size + 1, 1, none⟩ = some (.string ⟨#[]⟩) := hr6.cell 1
                have f1 : w6.frozen? ⟨w.heap.size + 1, 1, none⟩ = false := hr6.frozen 1
                have b2 : w6.cell? ⟨w.heap.size + 1, 2, none⟩ = some (.string ⟨#[]⟩) := hr6.cell 2
                have f2 : w6.frozen? ⟨w.heap.size + 1, 2, none⟩ = false := hr6.frozen 2
                have b3 : w6.cell? ⟨w.heap.size + 1, 3, none⟩ = some (.int .i64 0) := hr6.cell 3
                have f3 : w6.frozen? ⟨w.heap.size + 1, 3, none⟩ = false := hr6.frozen 3
                have b4 : w6.cell? ⟨w.heap.size + 1, 4, none⟩ = some (.slice none 0 0) := hr6.cell 4
                have f4 : w6.frozen? ⟨w.heap.size + 1, 4, none⟩ = false := hr6.frozen 4
                have c0 : w6.cell? ⟨w.heap.size + 1 + 1, 0, none⟩ = some (.bool false) := hs6.cell 0
                have g0 : w6.frozen? ⟨w.heap.size + 1 + 1, 0, none⟩ = false := hs6.frozen 0
                have c1 : w6.cell? ⟨w.heap.size + 1 + 1, 1, none⟩ = some (.string ⟨#[]⟩) := hs6.cell 1
                have g1 : w6.frozen? ⟨w.heap.size + 1 + 1, 1, none⟩ = false := hs6.frozen 1
                have c2 : w6.cell? ⟨w.heap.size + 1 + 1, 2, none⟩ = some (.string ⟨#[]⟩) := hs6.cell 2
                have g2 : w6.frozen? ⟨w.heap.size + 1 + 1, 2, none⟩ = false := hs6.frozen 2
                have c3 : w6.cell? ⟨w.heap.size + 1 + 1, 3, none⟩ = some (.int .i64 0) := hs6.cell 3
                have g3 : w6.frozen? ⟨w.heap.size + 1 + 1, 3, none⟩ = false := hs6.frozen 3
                have c4 : w6.cell? ⟨w.heap.size + 1 + 1, 4, none⟩ = some (.slice none 0 0) := hs6.cell 4
                have g4 : w6.frozen? ⟨w.heap.size + 1 + 1, 4, none⟩ = false := hs6.frozen 4
                refine wpAnyM_ready (rs := [4]) (by kernel_rfl) (by simp) ?_
                refine AllReadyM.cons (o := { dst := none, op := Op.store 24 (Operand.tmp 4) (Operand.tmp 80), type := 0, pos := _, after := #[{ on := 1, ground := Ground.data }, { on := 3, ground := Ground.chain }, { on := 0, ground := Ground.phase }, { on := 1, ground := Ground.phase }, { on := 2, ground := Ground.textOnly Departure.lateStores }, { on := 3, ground := Ground.textOnly Departure.lateStoresUnsure }], guard := none }) rfl (fun K hK => ?_) AllReadyM.nil
                have HK9 : Hid (∀ a w, _ → K a w) := hK
                clear hK
                go_simp
                refine HK9.out _ _ ⟨fun h => absurd h (by omega), ?_⟩
                clear HK9 K
                try simp only [Act.put, List.setIfInBounds_toArray, List.set_cons_zero, List.set_cons_succ]
                obtain ⟨wx, hwx⟩ : ∃ wx, wx = put5 w6 (w.heap.size + 1) (.bool true) (.string lo) (.string m) (.int .i64 id) (.slice p5 h c5) := ⟨_, rfl⟩
                have hAx : Bk wx (w.heap.size + 1) 24 #[.bool true, .string lo, .string m, .int .i64 id, .slice p5 h c5] := by rw [hwx]; exact Bk.five hr6 _ _ _ _ _
                have hsx : Bk wx (w.heap.size + 1 + 1) 24 zc := by rw [hwx]; exact hs6.fiveO (by simp) _ _ _ _ _
                have htx : Tn [w.heap.size + 1] w6 wx := by rw [hwx]; exact (Tn.refl _ _).five (.inl (by simp)) _ _ _ _ _
                unfold put5 at hwx
                rw [← hwx]
                clear hwx b0 b1 b2 b3 b4 f0 f1 f2 f3 f4 c0 c1 c2 c3 c4 g0 g1 g2 g3 g4
                have c0 : wx.cell? ⟨w.heap.size + 1 + 1, 0, none⟩ = some (.bool false) := hsx.cell 0
                have g0 : wx.frozen? ⟨w.heap.size + 1 + 1, 0, none⟩ = false := hsx.frozen 0
                have c1 : wx.cell? ⟨w.heap.size + 1 + 1, 1, none⟩ = some (.string ⟨#[]⟩) := hsx.cell 1
                have g1 : wx.frozen? ⟨w.heap.size + 1 + 1, 1, none⟩ = false := hsx.frozen 1
                have c2 : wx.cell? ⟨w.heap.size + 1 + 1, 2, none⟩ = some (.string ⟨#[]⟩) := hsx.cell 2
                have g2 : wx.frozen? ⟨w.heap.size + 1 + 1, 2, none⟩ = false := hsx.frozen 2
                have c3 : wx.cell? ⟨w.heap.size + 1 + 1, 3, none⟩ = some (.int .i64 0) := hsx.cell 3
                have g3 : wx.frozen? ⟨w.heap.size + 1 + 1, 3, none⟩ = false := hsx.frozen 3
                have c4 : wx.cell? ⟨w.heap.size + 1 + 1, 4, none⟩ = some (.slice none 0 0) := hsx.cell 4
                have g4 : wx.frozen? ⟨w.heap.size + 1 + 1, 4, none⟩ = false := hsx.frozen 4
                refine wpAnyM_ready (rs := [5]) (by kernel_rfl) (by simp) ?_
                refine AllReadyM.cons (o := { dst := none, op := Op.store 24 (Operand.tmp 5) (Operand.tmp 82), type := 0, pos := _, after := #[{ on := 3, ground := Ground.data }, { on := 4, ground := Ground.chain }, { on := 0, ground := Ground.phase }, { on := 1, ground := Ground.phase }, { on := 2, ground := Ground.phase }, { on := 3, ground := Ground.phase }, { on := 4, ground := Ground.phase }], guard := none }) rfl (fun K hK => ?_) AllReadyM.nil
                have HK9 : Hid (∀ a w, _ → K a w) := hK
                clear hK
                go_simp
                refine HK9.out _ _ ⟨fun h => absurd h (by omega), ?_⟩
                clear HK9 K
                try simp only [Act.put, List.setIfInBounds_toArray, List.set_cons_zero, List.set_cons_succ]
                refine wpAnyM_ready (rs := [6]) (by kernel_rfl) (by simp) ?_
                refine AllReadyM.cons (o := { dst := some 6, op := Op.assign (Operand.const (Value.int IntKind.i64 0)), type := 32, pos := _, after := #[{ on := 5, ground := Ground.chain }, { on := 0, ground := Ground.phase }, { on := 1, ground := Ground.phase }, { on := 2, ground := Ground.phase }, { on := 3, ground := Ground.phase }, { on := 4, ground := Ground.phase }, { on := 5, ground := Ground.phase }], guard := none }) rfl (fun K hK => ?_) AllReadyM.nil
                have HK9 : Hid (∀ a w, _ → K a w) := hK
                clear hK
                go_simp
                refine HK9.out _ _ ⟨fun h => absurd h (by omega), ?_⟩
                clear HK9 K
                try simp only [Act.put, List.setIfInBounds_toArray, List.set_cons_zero, List.set_cons_succ]
                refine wpAnyM_done (by kernel_rfl) ?_ _
                go_wp2
                clear HC
                obtain ⟨we, hwe⟩ : ∃ we, we = put5 wx (w.heap.size + 1 + 1) (.bool true) (.string m) (.string hi) (.int .i64 r) (.slice p6 (len - h) c6) := ⟨_, rfl⟩
                have hA : Bk we (w.heap.size + 1) 24 #[.bool true, .string lo, .string m, .int .i64 id, .slice p5 h c5] := by rw [hwe]; exact hAx.fiveO (by simp) _ _ _ _ _
                have hC : Bk we (w.heap.size + 1 + 1) 24 #[.bool true, .string m, .string hi, .int .i64 r, .slice p6 (len - h) c6] := by rw [hwe]; exact Bk.five hsx _ _ _ _ _
                have ht : Tn [w.heap.size + 1, w.heap.size + 1 + 1] w6 we := by rw [hwe]; exact (htx.mono (by simp)).five (.inl (by simp)) _ _ _ _ _
                unfold put5 at hwe
                rw [← hwe]
                clear hwe
                refine bodyPost_ret (results_pp (cs := [.bool true, .string lo, .string m, .int .i64 id, .slice p5 h c5]) (ds := [.bool true, .string m, .string hi, .int .i64 r, .slice p6 (len - h) c6]) rfl rfl rfl pg_agg pg_size rfl rfl hA hC) rfl ?_
                rw [HQ.out]
                have hcs := HSc.out.lt
                have hBw := HBc.out.trans (hB6.mono HBc.out.size)
                have hT : (l.take h).length = h := HT.out.lenq
                have hD : (l.drop h).length = len - h := HD.out.lenq
                have h5 := ho5.seg.below hb6 (Nat.le_refl _)
                have hz5 : wc.heap.size ≤ w5.heap.size := hB5.size
                refine ⟨_, _, rfl, ⟨p5, c5, by simp only [hT], ?_⟩, ⟨p6, c6, by simp only [hD], ?_⟩, hBw.trans (ht.below hBw.size (by simp; omega))⟩
                · simp only [hT]
                  exact (h5.tn ht (by intro x hx; simp at hx; have : wc.drew.heap.size = wc.heap.size := rfl; omega)).mono HBc.out.size
                · simp only [hD]
                  exact (ho6.seg.tn ht (by intro x hx; simp at hx; omega)).mono (Nat.le_trans HBc.out.size hz5)

end Go.Proofs.Ytakibndjmhadnaa
