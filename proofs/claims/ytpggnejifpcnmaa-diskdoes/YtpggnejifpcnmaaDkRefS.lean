/- References held against each other. -/
import Derived.Test.YtpggnejifpcnmaaDkRefE
import Derived.Deep.QuietTactic
import Derived.BigQuiet
import Derived.WalkSmall
namespace Go.Proofs.Ytpggnejifpcnmaa
open Go.RowKit Go.Shelf Go.Maps
set_option linter.unusedVariables false

theorem Rf.facts {w : World} {R : Nat} {bs : List Nat} {d : Dk} (h : Rf w R bs d) : ∃ N cN, w.cell? ⟨R, 0, none⟩ = some (.slice (some ⟨N, 0, none⟩) d.n cN) ∧ SRow w N d.n d.last ∧ d.n ≤ 16384 ∧ (∀ i, i < d.n → Sec (d.last i)) := by
  obtain ⟨N, S, D, cN, cS, p, c, kk, kb, -, h⟩ := h
  exact ⟨N, cN, h.cells.1, h.now, h.n2, fun i hi => h.lastSec hi⟩

set_option maxRecDepth 100000 in
set_option maxHeartbeats 2000000 in
theorem rsame {w : World} {R1 R2 : Nat} {bs1 bs2 : List Nat} {a b : Dk} (h1 : Rf w R1 bs1 a) (h2 : Rf w R2 bs2 b) :
    Calls Try.prog 21 #[.pointer (some ⟨R1, 0, none⟩), .pointer (some ⟨R2, 0, none⟩)] w fun e w' => e = .returned (.bool (sameD a b)) ∧ Below w.heap.size w w' := by
  have HA : Hid (∀ w', Below w.heap.size w w' → Rf w' R1 bs1 a) := fun w' k => h1.below k
  have HB : Hid (∀ w', Below w.heap.size w w' → Rf w' R2 bs2 b) := fun w' k => h2.below k
  obtain ⟨N1, k1, c1, -, n1, f1⟩ := h1.facts
  obtain ⟨N2, k2, c2, -, n2, f2⟩ := h2.facts
  have FA : Hid (∀ i, i < a.n → Sec (a.last i)) := f1
  have FB : Hid (∀ i, i < b.n → Sec (b.last i)) := f2
  clear h1 h2 f1 f2
  go_enter Try.func21, Try.ntmps21
  go_wp2_with fail
  go_quiet (fail)
  have HB0 : Hid (Below w.heap.size w (w.drewN nq)) := below_drewN (Below.refl _ _) nq
  generalize w.drewN nq = w1 at *
  by_cases hn : a.n = b.n
  · have hne : ((a.n : Int) != (b.n : Int)) = false := by simp [hn]
    have HN : Hid (a.n = b.n) := hn
    clear c1 c2 hn
    go_wp2_with fail
    go_loopw [5] (fun i wr => ∃ k : Nat, k ≤ a.n ∧ i = .int .i64 k ∧ Hid (Below w.heap.size w wr) ∧ Hid (∀ j, j < k → a.last j = b.last j)) (fun i _ => a.n - (intOf i).toNat)
    case atStart => exact ⟨0, Nat.zero_le _, rfl, HB0, fun j hj => absurd hj (Nat.not_lt_zero j)⟩
    case round =>
      obtain ⟨k, hk, rfl, HBE, HALL⟩ := hrel
      clear HB0
      obtain ⟨M1, j1, d1, s1, -, -⟩ := (HA.out wr HBE.out).facts
      obtain ⟨M2, j2, d2, s2, -, -⟩ := (HB.out wr HBE.out).facts
      by_cases hq : k < a.n
      · have hqi : (k : Int) < (a.n : Int) := by omega
        have hqb : k < b.n := by rw [← HN.out]; exact hq
        have hqbi : (k : Int) < (b.n : Int) := by omega
        obtain ⟨e1, -⟩ := s1.cell hq
        obtain ⟨e2, -⟩ := s2.cell hqb
        have HSE : Hid _ := str_eq (a.last k) (b.last k) (FA.out k hq).2 (FB.out k hqb).2
        clear s1 s2
        go_wp2_with fail
        go_quiet (fail)
        have HB1 : Hid (Below w.heap.size w (wr.drewN nq)) := below_drewN HBE.out nq
        rw [HSE.out]
        clear HSE e1 e2 d1 d2
        generalize wr.drewN nq = w3 at *
        by_cases he : a.last k = b.last k
        · rw [show decide (a.last k = b.last k) = true from decide_eq_true he]
          have HE : Hid (a.last k = b.last k) := he
          clear he
          go_wp2
          go_roundw
          case rel =>
            refine ⟨k + 1, by omega, by go_num, HB1, fun j hj => ?_⟩
            by_cases hjk : j = k
            · subst hjk
              exact HE.out
            · exact HALL.out j (by omega)
          case measure => simp [intOf]; omega
        · rw [show decide (a.last k = b.last k) = false from decide_eq_false he]
          have HS : Hid (sameD a b = false) := by
            show sameD a b = false
            unfold sameD
            rw [Bool.and_eq_false_iff]
            right
            rw [Bool.eq_false_iff]
            intro hh
            have := List.all_eq_true.1 hh k (List.mem_range.2 hq)
            exact he (of_decide_eq_true this)
          clear he
          go_wp2
          go_ret
          exact ⟨by rw [HS.out]; rfl, HB1.out⟩
      · have hkn : a.n = k := by omega
        go_wp2
        go_ret
        have hs : sameD a b = true := by
          unfold sameD
          rw [Bool.and_eq_true]
          exact ⟨decide_eq_true HN.out, List.all_eq_true.2 fun j hj => decide_eq_true (HALL.out j (by have := List.mem_range.1 hj; omega))⟩
        exact ⟨by rw [hs]; rfl, HBE.out⟩
  · have hne : ((a.n : Int) != (b.n : Int)) = true := by simp; omega
    have HS : Hid (sameD a b = false) := by simp [Hid, sameD, hn]
    go_wp2
    go_ret
    exact ⟨by rw [HS.out]; rfl, HB0.out⟩

end Go.Proofs.Ytpggnejifpcnmaa
