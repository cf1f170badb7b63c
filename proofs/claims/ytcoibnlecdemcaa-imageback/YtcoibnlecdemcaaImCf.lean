/- Why a chunk may not stand at its place. -/
import Derived.Test.YtcoibnlecdemcaaImC
import Derived.Test.YtcoibnlecdemcaaRkCh
namespace Go.Proofs.Ytcoibnlecdemcaa
open Go.RowKit
set_option linter.unusedVariables false
set_option maxRecDepth 100000

namespace Bl
theorem step_bad {N k : Nat} {out s : List St} {x : Ck} (h : ¬ Rk.Rc.chE x.num s = 0) : stepE N k out x s = Rk.Rc.chE x.num s := by unfold stepE; rw [if_neg h]
theorem step_place {N k : Nat} {out s : List St} {x : Ck} (h : Rk.Rc.chE x.num s = 0) (h1 : ¬ (x.num = (k : Int) ∧ x.last = decide (k + 1 = N))) : stepE N k out x s = 1 := by unfold stepE; rw [if_pos h, if_neg h1]
theorem step_ord {N k : Nat} {out s : List St} {x : Ck} (h : Rk.Rc.chE x.num s = 0) (h1 : x.num = (k : Int) ∧ x.last = decide (k + 1 = N)) : stepE N k out x s = ordE out s := by unfold stepE; rw [if_pos h, if_pos h1]
end Bl

set_option maxHeartbeats 2000000 in
theorem ifits_any (p po : Option Addr) (n c k no co : Nat) (l : List Ck) (out s : List St) (x : Ck) (w : World) (hn : l.length = n) (hp : Cks w p l) (hk : l[k]? = some x) (hin : Rk.InS w x.p x.n x.c s) (ho : out.length = no) (hos : Sts w po out) (hno : no ≤ 4611686018427387904) (hnn : n ≤ 4611686018427387904) :
    Calls Try.prog 42 #[.slice p n c, .int .i64 k, .slice po no co] w fun e w' => e = .returned (.int .i64 (Bl.stepE n k out x s)) ∧ Below w.heap.size w w' := by
  have hkl : k < l.length := (List.getElem?_eq_some_iff.1 hk).1
  obtain ⟨b, o, y, rfl, hy, c0, c1, c2⟩ := Cks.cells hp hkl
  obtain rfl : x = y := by rw [hk] at hy; exact Option.some.inj hy
  obtain ⟨num, q, m, cc, last⟩ := x
  obtain ⟨w1, hw1⟩ : ∃ w1, w.alloc (.cells #[.int .i64 num, .slice q m cc, .bool last] 71) = w1 := ⟨_, rfl⟩
  have hb1 : Below w.heap.size w w1 := by rw [← hw1]; exact (Below.refl _ _).alloc (Nat.le_refl _) _
  have k1 : Bk w1 w.heap.size 71 #[.int .i64 num, .slice q m cc, .bool last] := by rw [← hw1]; exact Bk.new _ _ _
  have HK1 : Hid (Bk w1 w.heap.size 71 #[.int .i64 num, .slice q m cc, .bool last]) := k1
  have HB1 : Hid (Below w.heap.size w w1) := hb1
  have HIN1 : Hid (Rk.InS w1 q m cc s) := Rk.InS.up hin hb1
  have HOS : Hid (Sts w1 po out) := Els.below hos hb1 (Nat.le_refl _)
  have HO : Hid (out.length = no) := ho
  have HZ1 : Hid (w.heap.size < w1.heap.size) := k1.lt
  have d0 : w1.cell? ⟨w.heap.size, 0, none⟩ = some (.int .i64 num) := k1.cell 0
  have d1 : w1.cell? ⟨w.heap.size, 1, none⟩ = some (.slice q m cc) := k1.cell 1
  have d2 : w1.cell? ⟨w.heap.size, 2, none⟩ = some (.bool last) := k1.cell 2
  have hli : (k : Int) < (n : Int) := by omega
  have hcall := Rk.checkChunk_any num q m cc s last w1 HIN1.out
  clear hp hk hy hin hos hb1 k1 hkl hn ho
  go_enter Try.func42, Try.ntmps42
  go_wp2_with fail
  refine hcall.mono ?_
  rintro e w2 ⟨rfl, b2⟩
  have HB2 : Hid (Below w.heap.size w w2) := HB1.out.trans (b2.mono HB1.out.size)
  have HK2 : Hid (Bk w2 w.heap.size 71 #[.int .i64 num, .slice q m cc, .bool last]) := HK1.out.below b2 HK1.out.lt
  have HIN2 : Hid (Rk.InS w2 q m cc s) := Rk.InS.up HIN1.out b2
  have HOS2 : Hid (Sts w2 po out) := Els.below HOS.out b2 (Nat.le_refl _)
  have e0 : w2.cell? ⟨w.heap.size, 0, none⟩ = some (.int .i64 num) := HK2.out.cell 0
  have e1 : w2.cell? ⟨w.heap.size, 1, none⟩ = some (.slice q m cc) := HK2.out.cell 1
  have e2 : w2.cell? ⟨w.heap.size, 2, none⟩ = some (.bool last) := HK2.out.cell 2
  clear hcall b2 d0 d1 d2 c0 c1 c2 hw1
  by_cases h0 : Rk.Rc.chE num s = 0
  · by_cases h1 : num = (k : Int)
    · by_cases h2 : last = decide (k + 1 = n)
      · have HS : Hid (Bl.stepE n k out ⟨num, q, m, cc, last⟩ s = Bl.ordE out s) := Bl.step_ord h0 ⟨h1, h2⟩
        have hz : (Rk.Rc.chE num s != 0) = false := by simpa using h0
        have hnk : (num != (k : Int)) = false := by simpa using h1
        have hll : (last == ((k : Int) == (n : Int) - 1)) = true := by
          rw [h2]
          by_cases hq : k + 1 = n
          · have : ((k : Int) == (n : Int) - 1) = true := by simp; omega
            rw [this]
            simp [hq]
          · have : ((k : Int) == (n : Int) - 1) = false := by simp; omega
            rw [this]
            simp [hq]
        clear h0 h1 h2
        cases m with
        | zero =>
          have HR : Hid (Bl.ordE out s = 0) := by
            have := HIN2.out.lenq
            rw [List.eq_nil_of_length_eq_zero this]
            rfl
          go_wp2
          go_ret
          exact ⟨by rw [HS.out, HR.out]; rfl, HB2.out⟩
        | succ m0 =>
          obtain ⟨b', o', g, rfl, hg, -, f0, f1, f2⟩ := HIN2.out.at (j := 0) (by omega)
          rw [Nat.zero_mul, Nat.add_zero] at f0 f1 f2
          obtain ⟨m, hm⟩ : ∃ m, m0 + 1 = m := ⟨_, rfl⟩
          have hm0 : decide ((0 : Int) < (m : Int)) = true := by simp; omega
          have hm1 : (0 : Int) < (m : Int) := by omega
          rw [hm] at e1 ⊢
          have HR : Hid (Bl.ordE out s = if Bl.above g.key out then 0 else 150) := by
            unfold Hid
            cases s with
            | nil => simp at hg
            | cons a r =>
              simp at hg
              subst hg
              rfl
          have hcall := isAbove_any g po no co out w2 HO.out HOS2.out hno
          clear hg hm
          go_wp2_with fail
          refine hcall.mono ?_
          rintro e w3 ⟨rfl, b3⟩
          have HB3 : Hid (Below w.heap.size w w3) := HB2.out.trans (b3.mono HB2.out.size)
          clear b3 hcall
          cases ha : Bl.above g.key out
          all_goals
            have HA : Hid (Bl.above g.key out = _) := ha
            go_wp2
            go_ret
            exact ⟨by rw [HS.out, HR.out, HA.out]; rfl, HB3.out⟩
      · have HS : Hid (Bl.stepE n k out ⟨num, q, m, cc, last⟩ s = 1) := Bl.step_place h0 (fun h => h2 h.2)
        have hz : (Rk.Rc.chE num s != 0) = false := by simpa using h0
        have hnk : (num != (k : Int)) = false := by simpa using h1
        have hll : (last == ((k : Int) == (n : Int) - 1)) = false := by
          by_cases hq : k + 1 = n
          · have : ((k : Int) == (n : Int) - 1) = true := by simp; omega
            rw [this]
            simp [hq] at h2
            simp [h2]
          · have : ((k : Int) == (n : Int) - 1) = false := by simp; omega
            rw [this]
            simp [hq] at h2
            simp [h2]
        clear h0 h1 h2
        go_wp2
        go_ret
        exact ⟨by rw [HS.out]; rfl, HB2.out⟩
    · have HS : Hid (Bl.stepE n k out ⟨num, q, m, cc, last⟩ s = 1) := Bl.step_place h0 (fun h => h1 h.1)
      have hz : (Rk.Rc.chE num s != 0) = false := by simpa using h0
      have hnk : (num != (k : Int)) = true := by simpa using h1
      clear h0 h1
      go_wp2
      go_ret
      exact ⟨by rw [HS.out]; rfl, HB2.out⟩
  · have HS : Hid (Bl.stepE n k out ⟨num, q, m, cc, last⟩ s = Rk.Rc.chE num s) := Bl.step_bad h0
    have hz : (Rk.Rc.chE num s != 0) = true := by simpa using h0
    clear h0
    go_wp2
    go_ret
    exact ⟨by rw [HS.out]; rfl, HB2.out⟩
end Go.Proofs.Ytcoibnlecdemcaa
