/- Put: the code's and the document's. -/
import Derived.Test.YtbdcdiihaecheaaVsR
namespace Go.Proofs.Ytbdcdiihaecheaa
open Go.RowKit Go.Sort
set_option linter.unusedVariables false
set_option maxRecDepth 100000

set_option maxHeartbeats 4000000 in
theorem put_any (p : Option Addr) (n c : Nat) (l : List Vs) (x : Vs) (w : World) (hn : l.length = n) (hx : Vrs w p l) (hpn : p = none → n = 0 ∧ c = 0) (hs : x.val.size ≤ 9223372036854775807) (hl : n ≤ 4398046510976) :
    Calls Try.prog 40 #[.slice p n c, x.v] w fun e w' => ∃ u, e = .returned (.tuple #[u, .int .i64 (Vr.putE l x)]) ∧ OwnV w' w.heap.size u (Vr.putL l x) ∧ Below w.heap.size w w' := by
  obtain ⟨x1, x2, x3⟩ := x
  have HX : Hid (Vrs w p l) := hx
  have HN : Hid (l.length = n) := hn
  have HPN : Hid (p = none → n = 0 ∧ c = 0) := hpn
  obtain ⟨w1, hw1⟩ : ∃ w1, w.alloc (.cells #[.int .i64 x1, .string x2, .bool x3] 34) = w1 := ⟨_, rfl⟩
  have k1 : Bk w1 w.heap.size 34 #[.int .i64 x1, .string x2, .bool x3] := by rw [← hw1]; exact Bk.new _ _ _
  have d0 : w1.cell? ⟨w.heap.size, 0, none⟩ = some (.int .i64 x1) := k1.cell 0
  have d1 : w1.cell? ⟨w.heap.size, 1, none⟩ = some (.string x2) := k1.cell 1
  have d2 : w1.cell? ⟨w.heap.size, 2, none⟩ = some (.bool x3) := k1.cell 2
  have HW1 : Hid (Below w.heap.size w w1) := by rw [← hw1]; exact (Below.refl _ _).alloc (Nat.le_refl _) _
  have HK1 : Hid (Bk w1 w.heap.size 34 #[.int .i64 x1, .string x2, .bool x3]) := k1
  have hcall := fits_any ⟨x1, x2, x3⟩ w1 hs
  clear hx hn hpn k1
  cases hf : Vr.fits ⟨x1, x2, x3⟩ with
  | false =>
    have HE : Hid (Vr.putE l ⟨x1, x2, x3⟩ = 151 ∧ Vr.putL l ⟨x1, x2, x3⟩ = []) := Vr.putE_bad hf
    rw [hf] at hcall
    go_enter Try.func40, Try.ntmps40
    go_wp2_with fail
    refine hcall.mono ?_
    rintro e w2 ⟨rfl, hb2⟩
    have HW2 : Hid (Below w.heap.size w w2) := HW1.out.trans (hb2.mono HW1.out.size)
    clear hcall hb2
    go_wp2
    go_ret2
    exact ⟨_, by rw [HE.out.1]; rfl, by rw [HE.out.2]; exact Own.nil _ _ _, HW2.out⟩
  | true =>
    rw [hf] at hcall
    cases hn0 : n with
    | zero =>
      subst hn0
      have hl0 : l = [] := List.eq_nil_of_length_eq_zero HN.out
      subst hl0
      have HE : Hid (Vr.putE [] ⟨x1, x2, x3⟩ = 0 ∧ Vr.putL [] ⟨x1, x2, x3⟩ = [⟨x1, x2, x3⟩]) := Vr.putE_nil hf
      go_enter Try.func40, Try.ntmps40
      go_wp2_with fail
      refine hcall.mono ?_
      rintro e w2 ⟨rfl, hb2⟩
      have k2 := HK1.out.below hb2 HK1.out.lt
      have e0 : w2.cell? ⟨w.heap.size, 0, none⟩ = some (.int .i64 x1) := k2.cell 0
      have e1 : w2.cell? ⟨w.heap.size, 1, none⟩ = some (.string x2) := k2.cell 1
      have e2 : w2.cell? ⟨w.heap.size, 2, none⟩ = some (.bool x3) := k2.cell 2
      have HW2 : Hid (Below w.heap.size w w2) := HW1.out.trans (hb2.mono HW1.out.size)
      clear hcall hb2 k2
      go_wp2_with fail
      go_quiet (fail)
      obtain ⟨wq, hwq⟩ : ∃ wq, w2.drewN nq = wq := ⟨_, rfl⟩
      have HWQ : Hid (Below w.heap.size w wq) := by rw [← hwq]; exact below_drewN HW2.out _
      have g0 : wq.cell? ⟨w.heap.size, 0, none⟩ = some (.int .i64 x1) := by rw [← hwq]; exact e0
      have g1 : wq.cell? ⟨w.heap.size, 1, none⟩ = some (.string x2) := by rw [← hwq]; exact e1
      have g2 : wq.cell? ⟨w.heap.size, 2, none⟩ = some (.bool x3) := by rw [← hwq]; exact e2
      rw [hwq]
      clear hwq e0 e1 e2
      obtain ⟨w5, hw5⟩ : ∃ w5, wq.alloc (.cells #[.int .i64 x1, .string x2, .bool x3] 34) = w5 := ⟨_, rfl⟩
      have hb5 : Below wq.heap.size wq w5 := by rw [← hw5]; exact (Below.refl _ _).alloc (Nat.le_refl _) _
      have he5 : Vrs w5 (some ⟨wq.heap.size, 0, none⟩) [⟨x1, x2, x3⟩] := by rw [← hw5]; exact els_one vknd wq 34 ⟨x1, x2, x3⟩
      obtain ⟨w6, hw6⟩ : ∃ w6, w5.alloc (.cells #[.slice (some ⟨wq.heap.size, 0, none⟩) 1 1, .slice p 0 c] 46) = w6 := ⟨_, rfl⟩
      have hb6 : Below w5.heap.size w5 w6 := by rw [← hw6]; exact (Below.refl _ _).alloc (Nat.le_refl _) _
      have hk6 : Bk w6 w5.heap.size 46 #[.slice (some ⟨wq.heap.size, 0, none⟩) 1 1, .slice p 0 c] := by rw [← hw6]; exact Bk.new _ _ _
      have hW5 : Below w.heap.size w w5 := HWQ.out.trans (hb5.mono HWQ.out.size)
      have hW6 : Below w.heap.size w w6 := hW5.trans (hb6.mono hW5.size)
      have hcc := vconcat_any (some ⟨wq.heap.size, 0, none⟩) p 1 0 1 c w5.heap.size [⟨x1, x2, x3⟩] [] w6 hk6 rfl rfl (Els.below he5 hb6 (Nat.le_refl _)) (Els.below (Els.nil w p) hW6 (Nat.le_refl _)) (fun h => by cases h) (fun h => ⟨rfl, (HPN.out h).2⟩) (by omega)
      have HCC : Hid (Calls Try.prog 68 #[.slice (some ⟨w5.heap.size, 0, none⟩) 2 2] w6 fun e w' => ∃ v, e = .returned v ∧ OwnV w' w6.heap.size v ([⟨x1, x2, x3⟩] ++ []) ∧ Below w6.heap.size w6 w') := hcc
      have HW6 : Hid (Below w.heap.size w w6) := hW6
      clear hcc hk6 hb6 he5 hb5 hW5 hW6
      go_wp2_with fail
      refine HCC.out.mono ?_
      rintro e w7 ⟨v7, rfl, ho7, hb7⟩
      have HO7 : Hid (OwnV w7 w.heap.size v7 (⟨x1, x2, x3⟩ :: [])) := ho7.mono HW6.out.size
      have HW7 : Hid (Below w.heap.size w w7) := HW6.out.trans (hb7.mono HW6.out.size)
      clear ho7 hb7
      go_wp2
      go_ret2
      exact ⟨_, by rw [HE.out.1]; rfl, by rw [HE.out.2]; exact HO7.out, HW7.out⟩
    | succ n' =>
      obtain ⟨b, o, y, rfl, hy, f0, f1, f2⟩ := Vrs.cells HX.out (j := 0) (by have := HN.out; omega)
      simp only [Nat.zero_mul, Nat.add_zero] at f0
      rw [← hn0]
      have hnpos : (0 : Int) < (n : Int) := by omega
      have hnd1 : decide ((0 : Int) < (n : Int)) = true := decide_eq_true hnpos
      have hnd2 : decide (0 < n) = true := decide_eq_true (by omega)
      have HFC : Hid (∀ W, Below w.heap.size w W → W.cell? ⟨b, o, none⟩ = some (.int .i64 y.ts)) := fun W hW => by
        rw [hW.cell (p := ⟨b, o, none⟩) (World.block_lt_of_cell? w _ f0)]
        exact f0
      have HY : Hid (l[0]? = some y) := hy
      have HNP : Hid (n = n' + 1) := hn0
      clear hn0 hy f0 f1 f2
      by_cases ho : x1 ≤ y.ts
      · have HE : Hid (Vr.putE l ⟨x1, x2, x3⟩ = 150 ∧ Vr.putL l ⟨x1, x2, x3⟩ = []) := Vr.putE_ord hf HY.out ho
        go_enter Try.func40, Try.ntmps40
        go_wp2_with fail
        refine hcall.mono ?_
        rintro e w2 ⟨rfl, hb2⟩
        have k2 := HK1.out.below hb2 HK1.out.lt
        have e0 : w2.cell? ⟨w.heap.size, 0, none⟩ = some (.int .i64 x1) := k2.cell 0
        have HW2 : Hid (Below w.heap.size w w2) := HW1.out.trans (hb2.mono HW1.out.size)
        have f0 := HFC.out w2 HW2.out
        have hod : decide (x1 ≤ y.ts) = true := decide_eq_true ho
        clear hcall hb2 k2
        go_wp2_with fail
        go_quiet (fail)
        have HWQ : Hid (Below w.heap.size w (w2.drewN nq)) := below_drewN HW2.out _
        go_wp2
        go_ret2
        exact ⟨_, by rw [HE.out.1]; rfl, by rw [HE.out.2]; exact Own.nil _ _ _, HWQ.out⟩
      · by_cases hlong : 1024 ≤ n
        · have HE : Hid (Vr.putE l ⟨x1, x2, x3⟩ = 3 ∧ Vr.putL l ⟨x1, x2, x3⟩ = []) := Vr.putE_long hf HY.out ho (by rw [HN.out]; exact hlong)
          go_enter Try.func40, Try.ntmps40
          go_wp2_with fail
          refine hcall.mono ?_
          rintro e w2 ⟨rfl, hb2⟩
          have k2 := HK1.out.below hb2 HK1.out.lt
          have e0 : w2.cell? ⟨w.heap.size, 0, none⟩ = some (.int .i64 x1) := k2.cell 0
          have HW2 : Hid (Below w.heap.size w w2) := HW1.out.trans (hb2.mono HW1.out.size)
          have f0 := HFC.out w2 HW2.out
          have hod : decide (x1 ≤ y.ts) = false := decide_eq_false (by omega)
          have hli : (1024 : Int) ≤ (n : Int) := by omega
          clear hcall hb2 k2
          go_wp2_with fail
          go_quiet (fail)
          have HWQ : Hid (Below w.heap.size w (w2.drewN nq)) := below_drewN HW2.out _
          go_wp2
          go_ret2
          exact ⟨_, by rw [HE.out.1]; rfl, by rw [HE.out.2]; exact Own.nil _ _ _, HWQ.out⟩
        · have HE : Hid (Vr.putE l ⟨x1, x2, x3⟩ = 0 ∧ Vr.putL l ⟨x1, x2, x3⟩ = ⟨x1, x2, x3⟩ :: l) := Vr.putE_ok hf HY.out ho (by rw [HN.out]; exact hlong)
          go_enter Try.func40, Try.ntmps40
          go_wp2_with fail
          refine hcall.mono ?_
          rintro e w2 ⟨rfl, hb2⟩
          have k2 := HK1.out.below hb2 HK1.out.lt
          have e0 : w2.cell? ⟨w.heap.size, 0, none⟩ = some (.int .i64 x1) := k2.cell 0
          have e1 : w2.cell? ⟨w.heap.size, 1, none⟩ = some (.string x2) := k2.cell 1
          have e2 : w2.cell? ⟨w.heap.size, 2, none⟩ = some (.bool x3) := k2.cell 2
          have HW2 : Hid (Below w.heap.size w w2) := HW1.out.trans (hb2.mono HW1.out.size)
          have f0 := HFC.out w2 HW2.out
          have hod : decide (x1 ≤ y.ts) = false := decide_eq_false (by omega)
          have hli : ¬ (1024 : Int) ≤ (n : Int) := by omega
          clear hcall hb2 k2
          go_wp2_with fail
          go_quiet (fail)
          obtain ⟨wq, hwq⟩ : ∃ wq, w2.drewN nq = wq := ⟨_, rfl⟩
          have HWQ : Hid (Below w.heap.size w wq) := by rw [← hwq]; exact below_drewN HW2.out _
          have g0 : wq.cell? ⟨w.heap.size, 0, none⟩ = some (.int .i64 x1) := by rw [← hwq]; exact e0
          have g1 : wq.cell? ⟨w.heap.size, 1, none⟩ = some (.string x2) := by rw [← hwq]; exact e1
          have g2 : wq.cell? ⟨w.heap.size, 2, none⟩ = some (.bool x3) := by rw [← hwq]; exact e2
          rw [hwq]
          clear hwq e0 e1 e2 f0
          obtain ⟨w5, hw5⟩ : ∃ w5, wq.alloc (.cells #[.int .i64 x1, .string x2, .bool x3] 34) = w5 := ⟨_, rfl⟩
          have hb5 : Below wq.heap.size wq w5 := by rw [← hw5]; exact (Below.refl _ _).alloc (Nat.le_refl _) _
          have he5 : Vrs w5 (some ⟨wq.heap.size, 0, none⟩) [⟨x1, x2, x3⟩] := by rw [← hw5]; exact els_one vknd wq 34 ⟨x1, x2, x3⟩
          obtain ⟨w6, hw6⟩ : ∃ w6, w5.alloc (.cells #[.slice (some ⟨wq.heap.size, 0, none⟩) 1 1, .slice (some ⟨b, o, none⟩) n c] 46) = w6 := ⟨_, rfl⟩
          have hb6 : Below w5.heap.size w5 w6 := by rw [← hw6]; exact (Below.refl _ _).alloc (Nat.le_refl _) _
          have hk6 : Bk w6 w5.heap.size 46 #[.slice (some ⟨wq.heap.size, 0, none⟩) 1 1, .slice (some ⟨b, o, none⟩) n c] := by rw [← hw6]; exact Bk.new _ _ _
          have hW5 : Below w.heap.size w w5 := HWQ.out.trans (hb5.mono HWQ.out.size)
          have hW6 : Below w.heap.size w w6 := hW5.trans (hb6.mono hW5.size)
          have hcc := vconcat_any (some ⟨wq.heap.size, 0, none⟩) (some ⟨b, o, none⟩) 1 n 1 c w5.heap.size [⟨x1, x2, x3⟩] l w6 hk6 rfl HN.out (Els.below he5 hb6 (Nat.le_refl _)) (Els.below HX.out hW6 (Nat.le_refl _)) (fun h => by cases h) (fun h => by cases h) (by omega)
          have HCC : Hid (Calls Try.prog 68 #[.slice (some ⟨w5.heap.size, 0, none⟩) 2 2] w6 fun e w' => ∃ v, e = .returned v ∧ OwnV w' w6.heap.size v ([⟨x1, x2, x3⟩] ++ l) ∧ Below w6.heap.size w6 w') := hcc
          have HW6 : Hid (Below w.heap.size w w6) := hW6
          clear hcc hk6 hb6 he5 hb5 hW5 hW6
          go_wp2_with fail
          refine HCC.out.mono ?_
          rintro e w7 ⟨v7, rfl, ho7, hb7⟩
          have HO7 : Hid (OwnV w7 w.heap.size v7 (⟨x1, x2, x3⟩ :: l)) := ho7.mono HW6.out.size
          have HW7 : Hid (Below w.heap.size w w7) := HW6.out.trans (hb7.mono HW6.out.size)
          clear ho7 hb7
          go_wp2
          go_ret2
          exact ⟨_, by rw [HE.out.1]; rfl, by rw [HE.out.2]; exact HO7.out, HW7.out⟩

end Go.Proofs.Ytbdcdiihaecheaa
