/- Which pairs are the same. -/
import Derived.Test.YtcoibnlecdemcaaImC
import Derived.Laws.StructEq
namespace Go.Proofs.Ytcoibnlecdemcaa
open Go.RowKit
set_option linter.unusedVariables false
set_option maxRecDepth 100000

theorem Rk.Rc.str_inj {a b : ByteArray} (h : a.toList = b.toList) : a = b := by
  rw [ByteArray.toList_eq, ByteArray.toList_eq] at h
  exact WideShapes.bytes_inj h

theorem Rk.Rc.st_parts {x y : St} (h : x ≠ y) : x.key.toList ≠ y.key.toList ∨ (x.key.toList = y.key.toList ∧ x.val.toList ≠ y.val.toList) ∨ (x.key.toList = y.key.toList ∧ x.val.toList = y.val.toList ∧ x.ts ≠ y.ts) := by
  by_cases h1 : x.key.toList = y.key.toList
  · by_cases h2 : x.val.toList = y.val.toList
    · right
      right
      refine ⟨h1, h2, fun h3 => h ?_⟩
      obtain ⟨a, b, c⟩ := x
      obtain ⟨d, e, f⟩ := y
      simp only at h1 h2 h3
      rw [Rk.Rc.str_inj h1, Rk.Rc.str_inj h2, h3]
    · exact .inr (.inl ⟨h1, h2⟩)
  · exact .inl h1

theorem Rk.Rc.all_eq {α : Type} {l m : List α} {n : Nat} (h1 : l.length = n) (h2 : m.length = n) (h : ∀ j, j < n → l[j]? = m[j]?) : l = m := by
  apply List.ext_getElem?
  intro i
  by_cases hi : i < n
  · exact h i hi
  · rw [List.getElem?_eq_none (by omega), List.getElem?_eq_none (by omega)]

/-- A call told whether P. -/
def Told (w w' : World) (e : Ending) (P : Prop) : Prop := ∃ b : Bool, e = .returned (.bool b) ∧ (b = true ↔ P) ∧ Below w.heap.size w w'

set_option maxHeartbeats 2000000 in
theorem equalS_any (p q : Option Addr) (n m c d : Nat) (l l' : List St) (w : World) (h1 : Rk.InS w p n c l) (h2 : Rk.InS w q m d l') :
    Calls Try.prog 23 #[.slice p n c, .slice q m d] w fun e w' => Told w w' e (l = l') := by
  have HI : Hid (Rk.InS w p n c l) := h1
  have HJ : Hid (Rk.InS w q m d l') := h2
  have hnc := h1.le
  have hcr := h1.room
  clear h1 h2
  by_cases hnm : n = m
  · subst hnm
    go_enter Try.func23, Try.ntmps23
    go_wp2_with fail
    go_loopw [13] (fun i wr => ∃ k : Nat, k ≤ n ∧ i = .int .i64 k ∧ Hid (Below w.heap.size w wr) ∧ Hid (∀ j, j < k → l[j]? = l'[j]?)) (fun i _ => n - (intOf i).toNat)
    case atStart => exact ⟨0, Nat.zero_le _, rfl, Below.refl _ _, fun j hj => absurd hj (Nat.not_lt_zero j)⟩
    case round =>
      obtain ⟨k, hk, rfl, HB, HQ⟩ := hrel
      by_cases hlt : k < n
      · have hli : (k : Int) < (n : Int) := by omega
        obtain ⟨b1, o1, g1, rfl, hg1, -, c0, c1, c2⟩ := (HI.out.up HB.out).at hlt
        obtain ⟨b2, o2, g2, rfl, hg2, -, d0, d1, d2⟩ := (HJ.out.up HB.out).at hlt
        by_cases he : g1 = g2
        · subst he
          have HN : Hid (∀ j, j < k + 1 → l[j]? = l'[j]?) := by
            intro j hj
            by_cases hjk : j = k
            · subst hjk
              rw [hg1, hg2]
            · exact HQ.out j (by omega)
          clear hg1 hg2
          go_wp2_with fail
          go_quiet (fail)
          have HB1 : Hid (Below w.heap.size w (wr.drewN nq)) := below_drewN HB.out nq
          clear c0 c1 c2 d0 d1 d2
          generalize wr.drewN nq = w3 at *
          go_wp2
          go_roundw
          case rel => exact ⟨k + 1, by omega, by go_num, HB1, HN⟩
          case measure => simp [intOf]; omega
        · have HNE : Hid (l ≠ l') := by
            intro e
            rw [e, hg2] at hg1
            exact he (by simpa using hg1.symm)
          clear hg1 hg2
          rcases Rk.Rc.st_parts he with h3 | ⟨h3, h4⟩ | ⟨h3, h4, h5⟩
          all_goals
            clear he
            go_wp2_with fail
            go_quiet (fail)
            have HB1 : Hid (Below w.heap.size w (wr.drewN nq)) := below_drewN HB.out nq
            clear c0 c1 c2 d0 d1 d2
            generalize wr.drewN nq = w3 at *
            go_wp2
            go_ret
            exact ⟨false, rfl, ⟨(fun h => by cases h), fun h => absurd h HNE.out⟩, HB1.out⟩
      · have hli : ¬ ((k : Int) < (n : Int)) := by omega
        have HE : Hid (l = l') := Rk.Rc.all_eq HI.out.lenq HJ.out.lenq (fun j hj => HQ.out j (by omega))
        go_wp2
        go_ret
        exact ⟨true, rfl, ⟨fun _ => HE.out, fun _ => rfl⟩, HB.out⟩
  · have hne : ((n : Int) != (m : Int)) = true := by simp; omega
    have HNE : Hid (l ≠ l') := by
      intro e
      have a := HI.out.lenq
      have b := HJ.out.lenq
      rw [e] at a
      omega
    go_enter Try.func23, Try.ntmps23
    go_wp2
    go_ret
    exact ⟨false, rfl, ⟨(fun h => by cases h), fun h => absurd h HNE.out⟩, Below.refl _ _⟩
/-- A row of the call's own, as a slice that came in. -/
theorem OwnS.ins {w : World} {base : Nat} {v : Value} {l : List St} (h : OwnS w base v l) : ∃ p c, v = .slice p l.length c ∧ Rk.InS w p l.length c l := by
  have hc : ∀ p n c, v = .slice p n c → c ≤ 9223372036854775807 := by
    intro p n c hv
    rcases h.2 with ⟨hv', -⟩ | ⟨g, cap, cur, hv', -, -, -, hm, -⟩
    · rw [hv] at hv'
      cases hv'
      omega
    · rw [hv] at hv'
      cases hv'
      exact hm
  obtain ⟨p, c, rfl, e, hn, hle⟩ := h.els stknd
  exact ⟨p, c, rfl, Sts.ins e rfl hle (hc _ _ _ rfl) hn⟩
end Go.Proofs.Ytcoibnlecdemcaa
