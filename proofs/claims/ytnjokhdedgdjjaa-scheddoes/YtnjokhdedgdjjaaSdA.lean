/- Schedulers: what is asked. -/
import Derived.Test.YtnjokhdedgdjjaaSdP
import Derived.Defers
import Derived.Recover
import Derived.Deep.RegionHeld3
namespace Go.Proofs.Ytnjokhdedgdjjaa
open Go.RowKit Go.Maps
set_option linter.unusedVariables false
set_option maxRecDepth 100000

section
variable {w : World} {N : Nat} {g : Ge} {s : Sc}
theorem Sd.c0 (h : Sd w N g s) : w.cell? ⟨g.S, 0, none⟩ = some (.map (some g.M)) := h.blk.cell 0
theorem Sd.c1 (h : Sd w N g s) : w.cell? ⟨g.S, 1, none⟩ = some g.va := h.blk.cell 1
theorem Sd.c2 (h : Sd w N g s) : w.cell? ⟨g.S, 2, none⟩ = some (.pointer (some ⟨g.X, 0, none⟩)) := h.blk.cell 2
theorem Sd.c3 (h : Sd w N g s) : w.cell? ⟨g.S, 3, none⟩ = some g.vd := h.blk.cell 3
theorem Sd.c4 (h : Sd w N g s) : w.cell? ⟨g.S, 4, none⟩ = some (.int .i64 s.steps) := h.blk.cell 4

theorem made_any {S X : Nat} (c2 : w.cell? ⟨S, 2, none⟩ = some (.pointer (some ⟨X, 0, none⟩))) : Calls Try.prog 33 #[.pointer (some ⟨S, 0, none⟩)] w fun e w' => e = .returned (.bool true) ∧ w' = w := by
  go_enter Try.func33, Try.ntmps33
  go_wp2
  go_ret
  exact ⟨rfl, rfl⟩

theorem count_any (h : Sd w N g s) (n : Nat) (hn : n = s.fl.length) : Calls Try.prog 11 #[.pointer (some ⟨g.S, 0, none⟩)] w fun e w' => e = .returned (.int .i64 (n : Int)) ∧ w' = w := by
  have c0 := h.c0
  have c2 := h.c2
  have hl := fun ty => h.mp.len (t := 58) Try.underlying58 ty
  rw [ents_len N s.fl h.rs (fun f hf => (h.up f hf).2.2), ← hn] at hl
  clear h hn
  go_enter Try.func11, Try.ntmps11
  go_wp2_with fail
  refine (made_any c2).mono ?_
  rintro e w1 ⟨rfl, rfl⟩
  go_wp2
  go_ret
  exact ⟨rfl, rfl⟩

theorem steps_any (h : Sd w N g s) : Calls Try.prog 13 #[.pointer (some ⟨g.S, 0, none⟩)] w fun e w' => e = .returned (.int .i64 s.steps) ∧ w' = w := by
  have c4 := h.c4
  have c2 := h.c2
  clear h
  go_enter Try.func13, Try.ntmps13
  go_wp2_with fail
  refine (made_any c2).mono ?_
  rintro e w1 ⟨rfl, rfl⟩
  go_wp2
  go_ret
  exact ⟨rfl, rfl⟩

theorem check_any (h : Sd w N g s) (q : Int) (hq : (Lit.int .i64 q).wf = true) : Calls Try.prog 38 #[.pointer (some ⟨g.S, 0, none⟩), .int .i64 q] w fun e w' => e = .returned (.int .i64 (if (fat s.fl q).isSome then 0 else 4)) ∧ w' = w := by
  have c0 := h.c0
  have c2 := h.c2
  have hl := h.mp.look fReads (t := 58) Try.underlying58 (fZero w) q hq
  rw [getI_fat s.fl N (fun f hf => (h.up f hf).2.2)] at hl
  have hb : ((fat s.fl q).map fun f => some f.blk).isSome = (fat s.fl q).isSome := by simp
  rw [hb] at hl
  generalize (fat s.fl q).isSome = b at hl ⊢
  generalize fvo _ = vv at hl
  clear h hb
  go_enter Try.func38, Try.ntmps38
  go_wp2_with fail
  refine (made_any c2).mono ?_
  rintro e w1 ⟨rfl, rfl⟩
  cases b
  · go_wp2
    go_ret
    exact ⟨rfl, rfl⟩
  · go_wp2
    go_ret
    exact ⟨rfl, rfl⟩

theorem place_any (k : Int) (hk : -9223372036854775808 ≤ k ∧ k ≤ 9223372036854775807) (n : Nat) (h0 : 0 < n) (hn : n ≤ 4611686018427387904) (w : World) : Calls Try.prog 40 #[.int .i64 k, .int .i64 (n : Int)] w fun e w' => e = .returned (.int .i64 (k % (n : Int))) ∧ w' = w := by
  have hn0 : (n : Int) ≠ 0 := by omega
  have hm1 : ¬ (n : Int) = -1 := by omega
  by_cases hneg : k.tmod (n : Int) < 0
  · have e1 : k % (n : Int) = wrap64 (k.tmod n + n) := by
      have h1 := @Int.emod_eq_tmod k n
      have h2 := Int.emod_nonneg k hn0
      have h2' := Int.emod_lt_of_pos k (b := (n : Int)) (by omega)
      have h3 : ¬ 0 ≤ k := fun hh => by have := Int.tmod_nonneg (n : Int) hh; omega
      have h4 : ¬ (n : Int) ∣ k := fun hd => by rw [Int.tmod_eq_zero_of_dvd hd] at hneg; omega
      unfold wrap64
      simp [h3, h4] at h1
      omega
    rw [e1]
    clear e1
    go_enter Try.func40, Try.ntmps40
    go_wp2
    go_ret
    exact ⟨rfl, rfl⟩
  · have e1 : k % (n : Int) = k.tmod n := by
      have h1 := @Int.emod_eq_tmod k n
      rw [h1]
      by_cases h3 : 0 ≤ k
      · simp [h3]
      · have h4 : (n : Int) ∣ k := by
          have h5 : k.tmod n ≤ 0 := by
            have := Int.tmod_nonneg (n : Int) (a := -k) (by omega)
            rw [Int.neg_tmod] at this
            omega
          exact Int.dvd_of_tmod_eq_zero (by omega)
        simp [h4]
    rw [e1]
    clear e1
    go_enter Try.func40, Try.ntmps40
    go_wp2
    go_ret
    exact ⟨rfl, rfl⟩

theorem Sd.row (h : Sd w N g s) (hs : 0 < s.done.length) : ∃ G k, g.vd = .slice (some ⟨G, 0, none⟩) s.done.length k := row_some h.dn hs

theorem of_any (h : Sd w N g s) (q : Int) (hq : -9223372036854775808 ≤ q ∧ q ≤ 9223372036854775807) (hl : s.done.length ≤ 4611686018427387904) : Calls Try.prog 15 #[.pointer (some ⟨g.S, 0, none⟩), .int .i64 q] w fun e w' => e = .returned (.int .i64 (if 1 ≤ q ∧ q ≤ s.done.length then s.done.getD (q - 1).toNat 0 else 0)) ∧ ∃ k, w' = w.drewN k := by
  have c3 := h.c3
  have c2 := h.c2
  obtain ⟨p, cap, hv, hcap⟩ := row_form h.dn
  rw [hv] at c3
  by_cases hi : 1 ≤ q ∧ q ≤ s.done.length
  · rw [if_pos hi]
    obtain ⟨i, rfl⟩ : ∃ i : Nat, q = (i : Int) + 1 := ⟨(q - 1).toNat, by omega⟩
    obtain ⟨G, k, hG⟩ := row_some h.dn (by omega)
    have hd := h.dn
    rw [hG] at hd
    have ci := hd.cellAt i (by omega)
    rw [hG] at hv
    cases hv
    have ei : (intz s.done)[i]? = some (.int .i64 (s.done.getD i 0)) := by
      unfold intz
      rw [List.getElem?_map, List.getElem?_eq_getElem (by omega)]
      simp [List.getD, List.getElem?_eq_getElem (show i < s.done.length by omega)]
    rw [ei] at ci
    have e2 : ((i : Int) + 1 - 1).toNat = i := by omega
    rw [e2]
    have g1 : ¬ (i : Int) + 1 < 1 := by omega
    have g2 : ¬ ((s.done.length : Nat) : Int) < (i : Int) + 1 := by omega
    have g3 : wrap64 ((i : Int) + 1 - 1) = (i : Int) := by unfold wrap64; omega
    have hi' : i < s.done.length := by omega
    generalize s.done.getD i 0 = x at *
    generalize s.done.length = n at *
    clear h hd ei e2 hG hi
    go_enter Try.func15, Try.ntmps15
    go_wp2_with fail
    refine (made_any c2).mono ?_
    rintro e w1 ⟨rfl, rfl⟩
    go_wp2
    go_ret
    exact ⟨rfl, 0, rfl⟩
  · rw [if_neg hi]
    generalize s.done.length = n at *
    clear h hv
    go_enter Try.func15, Try.ntmps15
    go_wp2_with fail
    refine (made_any c2).mono ?_
    rintro e w1 ⟨rfl, rfl⟩
    by_cases g1 : q < 1
    · go_wp2
      go_ret
      exact ⟨rfl, 0, rfl⟩
    · have g2 : ((n : Nat) : Int) < q := by omega
      go_wp2
      go_ret
      exact ⟨rfl, 0, rfl⟩
end

end Go.Proofs.Ytnjokhdedgdjjaa
