/- Minus (the document's). -/
import Derived.Test.YtgppnbcneknpdaaKyRu
namespace Go.Proofs.Ytgppnbcneknpdaa
open Go.RowKit Go.Sort
set_option linter.unusedVariables false
set_option maxRecDepth 100000

theorem Ky.gath_take {r : Rg} {l : List Rg} {k : Nat} {x : Rg} (h : l[k]? = some x) : (Ky.full (l.take (k + 1))).flatMap (Ky.part r) = (Ky.full (l.take k)).flatMap (Ky.part r) ++ (if Ky.emp x then [] else Ky.part r x) := by
  rw [Ky.full_take h, List.flatMap_append]
  cases Ky.emp x <;> simp

theorem Ky.part_len (r x : Rg) : (Ky.part r x).length ≤ 2 := by
  unfold Ky.part
  rw [List.length_append]
  split <;> split <;> simp

set_option maxHeartbeats 8000000 in
theorem rminus_any (p : Option Addr) (len cap : Nat) (l : List Rg) (r : Rg) (w : World) (hlen : l.length = len) (hx : Rgs w p l) (hl : len ≤ 1048576) :
    Calls Try.prog 20 #[.slice p len cap, r.val] w fun e w' => ∃ v, e = .returned v ∧ OwnR w' w.heap.size v (if Ky.emp r then Ky.uni (Ky.puts l) else Ky.uni (Ky.puts (Ky.gath r l))) ∧ Below w.heap.size w w' := by
  have HX : Hid (Rgs w p l) := hx
  have HL : Hid (l.length = len) := hlen
  clear hx hlen
  obtain ⟨L, HLL⟩ : ∃ L, Hid ((if Ky.emp r then Ky.uni (Ky.puts l) else Ky.uni (Ky.puts (Ky.gath r l))) = L) := ⟨_, rfl⟩
  rw [HLL.out]
  obtain ⟨w0, hw0⟩ : ∃ w0, w.alloc (.cells #[.string r.lo, .string r.hi] 24) = w0 := ⟨_, rfl⟩
  have HB0 : Hid (Below w.heap.size w w0) := by rw [← hw0]; exact (Below.refl _ _).alloc (Nat.le_refl _) _
  have HK0 : Hid (Bk w0 w.heap.size 24 #[.string r.lo, .string r.hi]) := by rw [← hw0]; exact Bk.new _ _ _
  have r0 : w0.cell? ⟨w.heap.size, 0, none⟩ = some (.string r.lo) := HK0.out.cell 0
  have r1 : w0.cell? ⟨w.heap.size, 1, none⟩ = some (.string r.hi) := HK0.out.cell 1
  go_enter Try.func20, Try.ntmps20
  go_wp2_with fail
  clear hw0 r0 r1
  refine (rempty_any r _).mono ?_
  cases hem : Ky.emp r with
  | true =>
    have HF : Hid (L = Ky.uni (Ky.puts l)) := by rw [Hid, ← HLL.out, hem]; rfl
    rintro e w1 ⟨rfl, hb1⟩
    have HB1 : Hid (Below w.heap.size w w1) := HB0.out.trans (hb1.mono HB0.out.size)
    clear hb1 hem HLL
    go_wp2_with fail
    refine (runion_any p len cap l _ HL.out (HX.out.below HB1.out (Nat.le_refl _)) (by omega)).mono ?_
    rintro e w2 ⟨v, rfl, ho, hb2⟩
    have HO2 : Hid (OwnR w2 w1.heap.size v (Ky.uni (Ky.puts l))) := ho
    have HB2 : Hid (Below w.heap.size w w2) := HB1.out.trans (hb2.mono HB1.out.size)
    clear ho hb2
    go_wp2
    go_ret
    refine ⟨v, rfl, ?_, HB2.out⟩
    rw [HF.out]
    exact HO2.out.mono HB1.out.size
  | false =>
    have HF : Hid (L = Ky.uni (Ky.puts (Ky.gath r l))) := by rw [Hid, ← HLL.out, hem]; rfl
    rintro e w1 ⟨rfl, hb1⟩
    have HB1 : Hid (Below w.heap.size w w1) := HB0.out.trans (hb1.mono HB0.out.size)
    have HK1 : Hid (Bk w1 w.heap.size 24 #[.string r.lo, .string r.hi]) := HK0.out.below hb1 HK0.out.lt
    clear hb1 hem HLL
    go_wp2_with fail
    go_loopw [5, 6] (fun v i wr => ∃ (k : Nat) (out : List Rg), k ≤ len ∧ i = .int .i64 k ∧ Hid (OwnR wr w1.heap.size v out) ∧ Hid (out.length ≤ 2 * k) ∧ Hid (out = (Ky.full (l.take k)).flatMap (Ky.part r)) ∧ Hid (Below w1.heap.size w1 wr)) (fun _ i _ => len - (intOf i).toNat)
    case atStart => exact ⟨0, [], Nat.zero_le _, rfl, OwnR.nil _ _, Nat.zero_le _, rfl, Below.refl _ _⟩
    case round =>
      obtain ⟨k, out, hk, rfl, HO, HOL, HQ, HW⟩ := hrel
      by_cases hlt : k < len
      · have hli : (k : Int) < (len : Int) := by omega
        have hk0 : (0 : Int) ≤ (k : Int) := by omega
        obtain ⟨b, o, x, rfl, hg, hblt, c0, c1⟩ := ((HX.out.below HB1.out (Nat.le_refl _)).below HW.out (Nat.le_refl _)).at (j := k) (by have := HL.out; omega)
        have HG : Hid ((Ky.full (l.take (k + 1))).flatMap (Ky.part r) = out ++ (if Ky.emp x then [] else Ky.part r x)) := by rw [Hid, Ky.gath_take hg, HQ.out]
        clear hg hblt HQ
        obtain ⟨w2, hw2⟩ : ∃ w2, wr.alloc (.cells #[.string x.lo, .string x.hi] 24) = w2 := ⟨_, rfl⟩
        have HW2 : Hid (Below w1.heap.size w1 w2) := by rw [← hw2]; exact HW.out.alloc HW.out.size _
        have HO2 : Hid (OwnR w2 w1.heap.size u5 out) := by rw [← hw2]; exact HO.out.below ((Below.refl _ _).alloc (Nat.le_refl _) _) (Nat.le_refl _)
        have HX2 : Hid (Bk w2 wr.heap.size 24 #[.string x.lo, .string x.hi]) := by rw [← hw2]; exact Bk.new _ _ _
        have HXB : Hid (∀ k, u5.ownBlock = some k → w1.heap.size ≤ k ∧ k < wr.heap.size) := World.ownsRow.lt HO.out
        have x0 : w2.cell? ⟨wr.heap.size, 0, none⟩ = some (.string x.lo) := HX2.out.cell 0
        have x1 : w2.cell? ⟨wr.heap.size, 1, none⟩ = some (.string x.hi) := HX2.out.cell 1
        go_wp2_with fail
        clear hw2 x0 x1 c0 c1
        generalize wr.heap.size = X at *
        refine (rempty_any x _).mono ?_
        cases hem : Ky.emp x with
        | true =>
          rw [hem] at HG
          rintro e w3 ⟨rfl, hb3⟩
          have HW3 : Hid (Below w1.heap.size w1 w3) := HW2.out.trans (hb3.mono HW2.out.size)
          have HO3 : Hid (OwnR w3 w1.heap.size u5 out) := HO2.out.below hb3 (Nat.le_refl _)
          clear hb3 hem
          go_wp2
          go_roundw
          case rel => exact ⟨k + 1, out, by omega, by go_num, HO3, by unfold Hid; have := HOL.out; omega, by rw [Hid, HG.out]; simp, HW3⟩
          case measure => simp [intOf]; omega
        | false =>
          rw [hem] at HG
          rintro e w3 ⟨rfl, hb3⟩
          have HW3 : Hid (Below w1.heap.size w1 w3) := HW2.out.trans (hb3.mono HW2.out.size)
          have HO3 : Hid (OwnR w3 w1.heap.size u5 out) := HO2.out.below hb3 (Nat.le_refl _)
          have HX3 : Hid (Bk w3 X 24 #[.string x.lo, .string x.hi]) := HX2.out.below hb3 HX2.out.lt
          have HR3 : Hid (Bk w3 w.heap.size 24 #[.string r.lo, .string r.hi]) := HK1.out.below HW3.out HK1.out.lt
          clear hb3 hem HX2 HO2 HW2
          have HPT : Hid ((Ky.full (l.take (k + 1))).flatMap (Ky.part r) = out ++ ((if Ky.lt x.lo r.lo then [⟨x.lo, Ky.least x.hi r.lo⟩] else []) ++ (if Ky.nil r.hi then [] else [⟨if Ky.lt x.lo r.hi then r.hi else x.lo, x.hi⟩]))) := HG.out
          clear HG
          have x0 : w3.cell? ⟨X, 0, none⟩ = some (.string x.lo) := HX3.out.cell 0
          have x1 : w3.cell? ⟨X, 1, none⟩ = some (.string x.hi) := HX3.out.cell 1
          have r0 : w3.cell? ⟨w.heap.size, 0, none⟩ = some (.string r.lo) := HR3.out.cell 0
          have r1 : w3.cell? ⟨w.heap.size, 1, none⟩ = some (.string r.hi) := HR3.out.cell 1
          cases hc1 : Op.bytesLess x.lo.toList r.lo.toList with
          | true =>
            rw [show Ky.lt x.lo r.lo = true from hc1, if_pos rfl] at HPT
            go_wp2_with fail
            have HS : Hid (∀ W, Below w3.heap.size w3 W → W.cell? ⟨X, 0, none⟩ = some (.string x.lo) ∧ W.cell? ⟨X, 1, none⟩ = some (.string x.hi) ∧ W.cell? ⟨w.heap.size, 0, none⟩ = some (.string r.lo)) := fun W hW => ⟨(HX3.out.below hW HX3.out.lt).cell 0, (HX3.out.below hW HX3.out.lt).cell 1, (HR3.out.below hW HR3.out.lt).cell 0⟩
            have HLN : Hid (out.length ≤ 2097152) := by have := HOL.out; unfold Hid; omega
            have hS := HS.out w3.drew (Below.refl _ _).drew
            refine wp_region_mid (S := (fun w' => w'.cell? ⟨X, 0, none⟩ = some (.string x.lo) ∧ w'.cell? ⟨X, 1, none⟩ = some (.string x.hi) ∧ w'.cell? ⟨w.heap.size, 0, none⟩ = some (.string r.lo))) 10 (by kernel_rfl) ?_
            refine wpAnyM_take (i := 0) [10] (oi := { dst := some 30, op := Op.move (Operand.tmp 5), type := 22, pos := _, after := #[], guard := none }) (v := u5) rfl (by kernel_rfl) (by kernel_rfl) (by kernel_rfl) (by kernel_rfl) (fun _ _ _ h => h) (Or.inl ⟨by rfl, ?_⟩) hS ?_
            · (intro w' hSw; obtain ⟨m0, m1, m2⟩ := hSw; go_simp; try with_reducible rfl)
            try simp only [Act.put, List.setIfInBounds_toArray, List.set_cons_zero, List.set_cons_succ]
            refine wpAnyM_take (i := 1) [2, 8, 9, 10] (oi := { dst := some 31, op := Op.fieldAddr 24 (Operand.tmp 7) 0, type := 0, pos := _, after := #[], guard := none }) (v := .pointer (some ⟨X, 0, none⟩)) rfl (by kernel_rfl) (by kernel_rfl) (by kernel_rfl) (by kernel_rfl) (fun _ _ _ h => h) (Or.inl ⟨by rfl, ?_⟩) hS ?_
            · (intro w' hSw; obtain ⟨m0, m1, m2⟩ := hSw; go_simp; try with_reducible rfl)
            try simp only [Act.put, List.setIfInBounds_toArray, List.set_cons_zero, List.set_cons_succ]
            refine wpAnyM_take (i := 2) [8, 9, 10] (oi := { dst := some 32, op := Op.load 9 (Operand.tmp 31), type := 9, pos := _, after := #[{ on := 1, ground := Ground.data }], guard := none }) (v := .string x.lo) rfl (by kernel_rfl) (by kernel_rfl) (by kernel_rfl) (by kernel_rfl) (fun _ _ _ h => h) (Or.inl ⟨by rfl, ?_⟩) hS ?_
            · (intro w' hSw; obtain ⟨m0, m1, m2⟩ := hSw; go_simp; try with_reducible rfl)
            try simp only [Act.put, List.setIfInBounds_toArray, List.set_cons_zero, List.set_cons_succ]
            refine wpAnyM_take (i := 3) [4, 7, 8, 9, 10] (oi := { dst := some 33, op := Op.fieldAddr 24 (Operand.tmp 7) 1, type := 0, pos := _, after := #[], guard := none }) (v := .pointer (some ⟨X, 1, none⟩)) rfl (by kernel_rfl) (by kernel_rfl) (by kernel_rfl) (by kernel_rfl) (fun _ _ _ h => h) (Or.inl ⟨by rfl, ?_⟩) hS ?_
            · (intro w' hSw; obtain ⟨m0, m1, m2⟩ := hSw; go_simp; try with_reducible rfl)
            try simp only [Act.put, List.setIfInBounds_toArray, List.set_cons_zero, List.set_cons_succ]
            refine wpAnyM_take (i := 4) [7, 8, 9, 10] (oi := { dst := some 34, op := Op.load 9 (Operand.tmp 33), type := 9, pos := _, after := #[{ on := 3, ground := Ground.data }], guard := none }) (v := .string x.hi) rfl (by kernel_rfl) (by kernel_rfl) (by kernel_rfl) (by kernel_rfl) (fun _ _ _ h => h) (Or.inl ⟨by rfl, ?_⟩) hS ?_
            · (intro w' hSw; obtain ⟨m0, m1, m2⟩ := hSw; go_simp; try with_reducible rfl)
            try simp only [Act.put, List.setIfInBounds_toArray, List.set_cons_zero, List.set_cons_succ]
            refine wpAnyM_take (i := 5) [6, 7, 8, 9, 10] (oi := { dst := some 35, op := Op.fieldAddr 24 (Operand.tmp 3) 0, type := 0, pos := _, after := #[], guard := none }) (v := .pointer (some ⟨w.heap.size, 0, none⟩)) rfl (by kernel_rfl) (by kernel_rfl) (by kernel_rfl) (by kernel_rfl) (fun _ _ _ h => h) (Or.inl ⟨by rfl, ?_⟩) hS ?_
            · (intro w' hSw; obtain ⟨m0, m1, m2⟩ := hSw; go_simp; try with_reducible rfl)
            try simp only [Act.put, List.setIfInBounds_toArray, List.set_cons_zero, List.set_cons_succ]
            refine wpAnyM_take (i := 6) [7, 8, 9, 10] (oi := { dst := some 36, op := Op.load 9 (Operand.tmp 35), type := 9, pos := _, after := #[{ on := 5, ground := Ground.data }], guard := none }) (v := .string r.lo) rfl (by kernel_rfl) (by kernel_rfl) (by kernel_rfl) (by kernel_rfl) (fun _ _ _ h => h) (Or.inl ⟨by rfl, ?_⟩) hS ?_
            · (intro w' hSw; obtain ⟨m0, m1, m2⟩ := hSw; go_simp; try with_reducible rfl)
            try simp only [Act.put, List.setIfInBounds_toArray, List.set_cons_zero, List.set_cons_succ]
            refine wpAnyM_ready (rs := [7]) (by kernel_rfl) (by simp) ?_
            refine AllReadyM.cons (o := { dst := some 37, op := Op.call { callee := Callee.value (Operand.func 41), args := #[Operand.tmp 34, Operand.tmp 36], argTypes := #[9, 9] }, type := 9, pos := _, after := #[{ on := 4, ground := Ground.data }, { on := 6, ground := Ground.data }], guard := none }) rfl (fun K hK => ?_) AllReadyM.nil
            have HK9 : Hid (∀ a w, _ → K a w) := hK
            clear hK
            go_simp
            refine (least_any x.hi r.lo _).mono ?_
            rintro e w4 ⟨rfl, rfl⟩
            refine HK9.out _ _ ⟨fun _ => hS, ?_⟩
            clear HK9 K
            try simp only [Act.put, List.setIfInBounds_toArray, List.set_cons_zero, List.set_cons_succ]
            refine wpAnyM_take (i := 8) [9, 10] (oi := { dst := some 38, op := Op.build 24 #[(0, Operand.tmp 32), (1, Operand.tmp 37)], type := 24, pos := _, after := #[{ on := 2, ground := Ground.data }, { on := 7, ground := Ground.data }], guard := none }) (v := .agg #[.string x.lo, .string (Ky.least x.hi r.lo)]) rfl (by kernel_rfl) (by kernel_rfl) (by kernel_rfl) (by kernel_rfl) (fun _ _ _ h => h) (Or.inl ⟨by rfl, ?_⟩) hS ?_
            · (intro w' hSw; obtain ⟨m0, m1, m2⟩ := hSw; go_simp; try with_reducible rfl)
            try simp only [Act.put, List.setIfInBounds_toArray, List.set_cons_zero, List.set_cons_succ]
            refine wpAnyM_ready (rs := [9]) (by kernel_rfl) (by simp) ?_
            refine AllReadyM.cons (o := { dst := some 39, op := Op.buildSlice 22 1 #[(0, Operand.tmp 38)], type := 22, pos := _, after := #[{ on := 8, ground := Ground.data }], guard := none }) rfl (fun K hK => ?_) AllReadyM.nil
            have HK9 : Hid (∀ a w, _ → K a w) := hK
            clear hK
            go_simp
            have hbE : Below w3.heap.size w3 (w3.drew.alloc (.cells #[.string x.lo, .string (Ky.least x.hi r.lo)] 24)) := (Below.refl _ _).drew.alloc (Nat.le_refl _) _
            refine HK9.out _ _ ⟨fun _ => HS.out _ hbE, ?_⟩
            clear HK9 K
            try simp only [Act.put, List.setIfInBounds_toArray, List.set_cons_zero, List.set_cons_succ]
            refine wpAnyM_ready (rs := [10]) (by kernel_rfl) (by simp) ?_
            refine AllReadyM.cons (o := { dst := some 40, op := Op.call { callee := Callee.builtin Builtin.append, args := #[Operand.tmp 30, Operand.tmp 39], argTypes := #[22, 22] }, type := 22, pos := _, after := #[{ on := 0, ground := Ground.data }, { on := 9, ground := Ground.data }, { on := 7, ground := Ground.chain }], guard := none }) rfl (fun K hK => ?_) AllReadyM.nil
            have HK9 : Hid (∀ a w, _ → K a w) := hK
            clear hK
            obtain ⟨v5, w5, hr5, ho5, hg5, -⟩ := run_appRg _ w1.heap.size 22 u5 out [⟨x.lo, Ky.least x.hi r.lo⟩] (some ⟨w3.heap.size, 0, none⟩) 1 1 rfl (rg_one w3.drew ⟨x.lo, Ky.least x.hi r.lo⟩) (fun h => by cases h) ((HO3.out.below (Below.refl _ _).drew (Nat.le_refl _)).below ((Below.refl _ _).alloc (Nat.le_refl _) _) (Nat.le_refl _)) (by have := HLN.out; omega) (by have := HW3.out.size; rw [World.size_alloc]; show w1.heap.size ≤ w3.heap.size + 1; omega)
            have hb5 : Below w1.heap.size w3 w5 := (hbE.mono HW3.out.size).grown hg5 (by have := HW3.out.size; rw [World.size_alloc]; show w1.heap.size ≤ w3.heap.size + 1; omega) (fun k hk => (World.ownsRow.lt HO3.out k hk).1)
            refine step_appR rfl _ _ _ rfl _ _ rfl rfl hr5 ?_
            refine HK9.out _ _ ⟨fun h => absurd h (by omega), ?_⟩
            clear HK9 K
            try simp only [Act.put, List.setIfInBounds_toArray, List.set_cons_zero, List.set_cons_succ]
            refine wpAnyM_ready (rs := [11]) (by kernel_rfl) (by simp) ?_
            refine AllReadyM.cons (o := { dst := some 5, op := Op.assign (Operand.tmp 40), type := 22, pos := _, after := #[{ on := 10, ground := Ground.data }, { on := 10, ground := Ground.chain }, { on := 0, ground := Ground.phase }, { on := 1, ground := Ground.phase }, { on := 2, ground := Ground.phase }, { on := 3, ground := Ground.phase }, { on := 4, ground := Ground.phase }, { on := 5, ground := Ground.phase }, { on := 6, ground := Ground.phase }, { on := 7, ground := Ground.phase }, { on := 8, ground := Ground.phase }, { on := 9, ground := Ground.phase }, { on := 10, ground := Ground.phase }], guard := none }) rfl (fun K hK => ?_) AllReadyM.nil
            have HK9 : Hid (∀ a w, _ → K a w) := hK
            clear hK
            go_simp
            refine HK9.out _ _ ⟨fun h => absurd h (by omega), ?_⟩
            clear HK9 K
            try simp only [Act.put, List.setIfInBounds_toArray, List.set_cons_zero, List.set_cons_succ]
            refine wpAnyM_done (by kernel_rfl) ?_ _
            have HO5 : Hid (OwnR w5 w1.heap.size v5 (out ++ [⟨x.lo, Ky.least x.hi r.lo⟩])) := ho5
            have HW5 : Hid (Below w1.heap.size w1 w5) := HW3.out.trans hb5
            have HX5 : Hid (Bk w5 X 24 #[.string x.lo, .string x.hi]) := (hg5.block X (HX3.out.below hbE HX3.out.lt).lt (fun e => absurd (HXB.out X e.symm).2 (Nat.lt_irrefl _))).trans (HX3.out.below hbE HX3.out.lt)
            have HR5 : Hid (Bk w5 w.heap.size 24 #[.string r.lo, .string r.hi]) := (hg5.block w.heap.size (HR3.out.below hbE HR3.out.lt).lt (fun e => absurd (HXB.out _ e.symm).1 (by have := HK1.out.lt; omega))).trans (HR3.out.below hbE HR3.out.lt)
            clear x0 x1 r0 r1 ho5 hb5 hg5 hr5 hbE hS
            have x0 : w5.cell? ⟨X, 0, none⟩ = some (.string x.lo) := HX5.out.cell 0
            have x1 : w5.cell? ⟨X, 1, none⟩ = some (.string x.hi) := HX5.out.cell 1
            have r0 : w5.cell? ⟨w.heap.size, 0, none⟩ = some (.string r.lo) := HR5.out.cell 0
            have r1 : w5.cell? ⟨w.heap.size, 1, none⟩ = some (.string r.hi) := HR5.out.cell 1
            cases hc2 : r.hi.toList.isEmpty with
            | true =>
              rw [show Ky.nil r.hi = true from hc2, if_pos rfl] at HPT
              go_wp2
              go_roundw
              case rel => exact ⟨k + 1, out ++ [⟨x.lo, Ky.least x.hi r.lo⟩], by omega, by go_num, HO5, by unfold Hid; have := HOL.out; simp; omega, by rw [Hid, HPT.out]; simp, HW5⟩
              case measure => simp [intOf]; omega
            | false =>
              rw [show Ky.nil r.hi = false from hc2, if_neg (by simp)] at HPT
              cases hc3 : Op.bytesLess x.lo.toList r.hi.toList with
              | true =>
                have hgt : (Op.bytesLess r.hi.toList x.lo.toList || r.hi.toList == x.lo.toList) = false := by rw [Ky.leq_iff, hc3]; rfl
                rw [show Ky.lt x.lo r.hi = true from hc3, if_pos rfl] at HPT
                go_wp2_with (at_builtin; refine appR w5 rfl _ _ rfl w1.heap.size v5 (out ++ [⟨x.lo, Ky.least x.hi r.lo⟩]) rfl ⟨r.hi, x.hi⟩ _ rfl rfl HO5.out (by have := HOL.out; simp; omega) HW5.out.size ?_; intro v7 w7 ho7 hb7)
                have HO7 : Hid (OwnR w7 w1.heap.size v7 (out ++ [⟨x.lo, Ky.least x.hi r.lo⟩] ++ [⟨r.hi, x.hi⟩])) := ho7
                have HW7 : Hid (Below w1.heap.size w1 w7) := HW5.out.trans hb7
                clear ho7 hb7 x0 x1 r0 r1
                go_wp2
                go_roundw
                case rel => exact ⟨k + 1, out ++ [⟨x.lo, Ky.least x.hi r.lo⟩] ++ [⟨r.hi, x.hi⟩], by omega, by go_num, HO7, by unfold Hid; have := HOL.out; simp; omega, by rw [Hid, HPT.out]; simp, HW7⟩
                case measure => simp [intOf]; omega
              | false =>
                have hgt : (Op.bytesLess r.hi.toList x.lo.toList || r.hi.toList == x.lo.toList) = true := by rw [Ky.leq_iff, hc3]; rfl
                rw [show Ky.lt x.lo r.hi = false from hc3, if_neg (by simp)] at HPT
                go_wp2_with (at_builtin; refine appR w5 rfl _ _ rfl w1.heap.size v5 (out ++ [⟨x.lo, Ky.least x.hi r.lo⟩]) rfl ⟨x.lo, x.hi⟩ _ rfl rfl HO5.out (by have := HOL.out; simp; omega) HW5.out.size ?_; intro v7 w7 ho7 hb7)
                have HO7 : Hid (OwnR w7 w1.heap.size v7 (out ++ [⟨x.lo, Ky.least x.hi r.lo⟩] ++ [⟨x.lo, x.hi⟩])) := ho7
                have HW7 : Hid (Below w1.heap.size w1 w7) := HW5.out.trans hb7
                clear ho7 hb7 x0 x1 r0 r1
                go_wp2
                go_roundw
                case rel => exact ⟨k + 1, out ++ [⟨x.lo, Ky.least x.hi r.lo⟩] ++ [⟨x.lo, x.hi⟩], by omega, by go_num, HO7, by unfold Hid; have := HOL.out; simp; omega, by rw [Hid, HPT.out]; simp, HW7⟩
                case measure => simp [intOf]; omega
          | false =>
            rw [show Ky.lt x.lo r.lo = false from hc1, if_neg (by simp)] at HPT
            clear x0 x1 r0 r1
            have x0 : w3.cell? ⟨X, 0, none⟩ = some (.string x.lo) := HX3.out.cell 0
            have x1 : w3.cell? ⟨X, 1, none⟩ = some (.string x.hi) := HX3.out.cell 1
            have r0 : w3.cell? ⟨w.heap.size, 0, none⟩ = some (.string r.lo) := HR3.out.cell 0
            have r1 : w3.cell? ⟨w.heap.size, 1, none⟩ = some (.string r.hi) := HR3.out.cell 1
            cases hc2 : r.hi.toList.isEmpty with
            | true =>
              rw [show Ky.nil r.hi = true from hc2, if_pos rfl] at HPT
              go_wp2
              go_roundw
              case rel => exact ⟨k + 1, out, by omega, by go_num, HO3, by unfold Hid; have := HOL.out; simp; omega, by rw [Hid, HPT.out]; simp, HW3⟩
              case measure => simp [intOf]; omega
            | false =>
              rw [show Ky.nil r.hi = false from hc2, if_neg (by simp)] at HPT
              cases hc3 : Op.bytesLess x.lo.toList r.hi.toList with
              | true =>
                have hgt : (Op.bytesLess r.hi.toList x.lo.toList || r.hi.toList == x.lo.toList) = false := by rw [Ky.leq_iff, hc3]; rfl
                rw [show Ky.lt x.lo r.hi = true from hc3, if_pos rfl] at HPT
                go_wp2_with (at_builtin; refine appR w3 rfl _ _ rfl w1.heap.size u5 (out) rfl ⟨r.hi, x.hi⟩ _ rfl rfl HO3.out (by have := HOL.out; simp; omega) HW3.out.size ?_; intro v7 w7 ho7 hb7)
                have HO7 : Hid (OwnR w7 w1.heap.size v7 (out ++ [⟨r.hi, x.hi⟩])) := ho7
                have HW7 : Hid (Below w1.heap.size w1 w7) := HW3.out.trans hb7
                clear ho7 hb7 x0 x1 r0 r1
                go_wp2
                go_roundw
                case rel => exact ⟨k + 1, out ++ [⟨r.hi, x.hi⟩], by omega, by go_num, HO7, by unfold Hid; have := HOL.out; simp; omega, by rw [Hid, HPT.out]; simp, HW7⟩
                case measure => simp [intOf]; omega
              | false =>
                have hgt : (Op.bytesLess r.hi.toList x.lo.toList || r.hi.toList == x.lo.toList) = true := by rw [Ky.leq_iff, hc3]; rfl
                rw [show Ky.lt x.lo r.hi = false from hc3, if_neg (by simp)] at HPT
                go_wp2_with (at_builtin; refine appR w3 rfl _ _ rfl w1.heap.size u5 (out) rfl ⟨x.lo, x.hi⟩ _ rfl rfl HO3.out (by have := HOL.out; simp; omega) HW3.out.size ?_; intro v7 w7 ho7 hb7)
                have HO7 : Hid (OwnR w7 w1.heap.size v7 (out ++ [⟨x.lo, x.hi⟩])) := ho7
                have HW7 : Hid (Below w1.heap.size w1 w7) := HW3.out.trans hb7
                clear ho7 hb7 x0 x1 r0 r1
                go_wp2
                go_roundw
                case rel => exact ⟨k + 1, out ++ [⟨x.lo, x.hi⟩], by omega, by go_num, HO7, by unfold Hid; have := HOL.out; simp; omega, by rw [Hid, HPT.out]; simp, HW7⟩
                case measure => simp [intOf]; omega
      · have hkn : k = len := by omega
        have hli : ¬ (k : Int) < (len : Int) := by omega
        have HGA : Hid (out = Ky.gath r l) := by
          rw [Hid, HQ.out, List.take_of_length_le (by have := HL.out; omega)]
          rfl
        obtain ⟨q, c, rfl, hrq, -⟩ := HO.out.rgs
        have HRQ : Hid (Rgs wr q out) := hrq
        have hol : out.length ≤ 4194304 := by have := HOL.out; omega
        clear hrq
        go_wp2_with fail
        refine (runion_any q out.length c out _ rfl HRQ.out hol).mono ?_
        rintro e w2 ⟨v, rfl, ho, hb2⟩
        have HO2 : Hid (OwnR w2 wr.heap.size v (Ky.uni (Ky.puts out))) := ho
        have HB2 : Hid (Below w.heap.size w w2) := HB1.out.trans ((HW.out.trans (hb2.mono HW.out.size)).mono HB1.out.size)
        clear ho hb2
        go_wp2
        go_ret
        refine ⟨v, rfl, ?_, HB2.out⟩
        rw [HF.out, ← HGA.out]
        exact HO2.out.mono (Nat.le_trans HB1.out.size HW.out.size)

end Go.Proofs.Ytgppnbcneknpdaa
