/- Which pairs are the same: the document's SamePairs. -/
import Derived.Test.YtilabcolfabnmaaPrM
import Derived.WalkLawsBesides
import Derived.Tactics2
import Derived.WalkSmall
import Derived.Deep.QuietTactic
import Derived.BigQuiet
import Derived.Laws.StructEq
namespace Go.Proofs.Ytilabcolfabnmaa
open Go.RowKit
set_option linter.unusedVariables false
set_option maxRecDepth 100000

/-- Whether two pairs are the same. -/
def Pr.eqb (x y : Pr) : Bool := (x.key.toList == y.key.toList) && (x.val.toList == y.val.toList)

theorem eq_strP (d : Nat) (x y : ByteArray) (w : World) : (Op.equalIn (d + 1) 9 (.string x) (.string y)).run Try.prog w = .ok (x.toList == y.toList) w := by
  simp [Op.equalIn, run_underlying Try.underlying9, beq_toListBytes]
theorem eq_pD (m : Nat) (h2 : ∀ x y w, (Op.equalIn m 9 (.string x) (.string y)).run Try.prog w = .ok (x.toList == y.toList) w) (x y : Pr) (w : World) :
    (Op.equalIn (m + 1) 54 x.v y.v).run Try.prog w = .ok (Pr.eqb x y) w := by
  obtain ⟨a, b⟩ := x
  obtain ⟨d, e⟩ := y
  have p0 : ∀ (a b : ByteArray) w, (part 9 #[.string a, .string b] 0).run Try.prog w = .ok (.string a) w := fun a b w => by kernel_rfl
  have p1 : ∀ (a b : ByteArray) w, (part 9 #[.string a, .string b] 1).run Try.prog w = .ok (.string b) w := fun a b w => by kernel_rfl
  have hs : Try.prog.stoodInHeld 54 = false := by kernel_rfl
  unfold Pr.eqb
  simp [Op.equalIn, run_underlying Try.underlying54, p0, p1, h2, hs]
  cases h : (a.toList == d.toList) <;> cases h' : (b.toList == e.toList) <;> simp_all
theorem eqIn_p (a b d e : ByteArray) (w : World) : (Op.equalIn 10000 54 (.agg #[.string a, .string b]) (.agg #[.string d, .string e])).run Try.prog w = .ok (Pr.eqb ⟨a, b⟩ ⟨d, e⟩) w :=
  eq_pD 9999 (fun x y w => eq_strP 9998 x y w) ⟨a, b⟩ ⟨d, e⟩ w
theorem run_neq_p (a b d e : ByteArray) (w : World) : (binOp .neq 54 (.agg #[.string a, .string b]) (.agg #[.string d, .string e])).run Try.prog w = .ok (.bool (!Pr.eqb ⟨a, b⟩ ⟨d, e⟩)) w := by
  rw [run_neq_struct, eqIn_p]
  rfl

def Pl.same : List Pr → List Pr → Bool
  | [], [] => true
  | x :: r, y :: s => Pr.eqb x y && Pl.same r s
  | _, _ => false
theorem Pl.same_len {a b : List Pr} (h : ¬ a.length = b.length) : Pl.same a b = false := by
  induction a generalizing b with
  | nil => cases b with
    | nil => simp at h
    | cons y s => rfl
  | cons x r ih => cases b with
    | nil => rfl
    | cons y s =>
      simp only [Pl.same]
      rw [ih (by simpa using h), Bool.and_false]
theorem Pl.same_refl (l : List Pr) : Pl.same l l = true := by
  induction l with
  | nil => rfl
  | cons x r ih => simp [Pl.same, ih, Pr.eqb]
theorem Pl.same_drop {a b : List Pr} {k : Nat} {x y : Pr} (hx : a[k]? = some x) (hy : b[k]? = some y) : Pl.same (a.drop k) (b.drop k) = (Pr.eqb x y && Pl.same (a.drop (k + 1)) (b.drop (k + 1))) := by
  have h1 : k < a.length := (List.getElem?_eq_some_iff.1 hx).1
  have h2 : k < b.length := (List.getElem?_eq_some_iff.1 hy).1
  rw [List.drop_eq_getElem_cons h1, List.drop_eq_getElem_cons h2]
  rw [List.getElem?_eq_getElem h1] at hx
  rw [List.getElem?_eq_getElem h2] at hy
  cases hx
  cases hy
  rfl

set_option maxHeartbeats 2000000 in
theorem samePairs_any (p q : Option Addr) (n m c d : Nat) (a b : List Pr) (w : World) (hn : a.length = n) (hm : b.length = m) (hp : Prs w p a) (hq : Prs w q b) (hl : n ≤ 4611686018427387904) (hl2 : m ≤ 4611686018427387904) :
    Calls Try.prog 11 #[.slice p n c, .slice q m d] w fun e w' => e = .returned (.bool (Pl.same a b)) ∧ Below w.heap.size w w' := by
  by_cases hnm : n = m
  · subst hnm
    have HP : Hid (Prs w p a) := hp
    have HQ : Hid (Prs w q b) := hq
    have HN : Hid (a.length = n) := hn
    have HM : Hid (b.length = n) := hm
    clear hp hq hn hm
    go_enter Try.func11, Try.ntmps11
    go_wp2_with fail
    go_loopw [5] (fun i wr => ∃ k : Nat, k ≤ n ∧ i = .int .i64 k ∧ Hid (Below w.heap.size w wr) ∧ Hid (Pl.same a b = Pl.same (a.drop k) (b.drop k))) (fun i _ => n - (intOf i).toNat)
    case atStart => exact ⟨0, Nat.zero_le _, rfl, Below.refl _ _, rfl⟩
    case round =>
      obtain ⟨k, hk, rfl, HW, HE⟩ := hrel
      by_cases hlt : k < n
      · have hli : (k : Int) < (n : Int) := by omega
        obtain ⟨b1, o1, x, rfl, hx, c0, c1⟩ := Prs.cells (Els.below HP.out HW.out (Nat.le_refl _)) (j := k) (by have := HN.out; omega)
        obtain ⟨b2, o2, y, rfl, hy, d0, d1⟩ := Prs.cells (Els.below HQ.out HW.out (Nat.le_refl _)) (j := k) (by have := HM.out; omega)
        obtain ⟨x1, x2⟩ := x
        obtain ⟨y1, y2⟩ := y
        have HD : Hid (Pl.same (a.drop k) (b.drop k) = (Pr.eqb ⟨x1, x2⟩ ⟨y1, y2⟩ && Pl.same (a.drop (k + 1)) (b.drop (k + 1)))) := Pl.same_drop hx hy
        have heq := fun w => eqIn_p x1 x2 y1 y2 w
        have hneq := fun w => run_neq_p x1 x2 y1 y2 w
        clear hx hy
        cases hv : Pr.eqb ⟨x1, x2⟩ ⟨y1, y2⟩ with
        | true =>
          rw [hv] at heq hneq
          have HE2 : Hid (Pl.same a b = Pl.same (a.drop (k + 1)) (b.drop (k + 1))) := by unfold Hid; rw [HE.out, HD.out, hv, Bool.true_and]
          go_wp2_with fail
          go_quiet (fail)
          go_wp2
          go_roundw
          case rel => exact ⟨k + 1, by omega, by go_num, below_drewN HW.out _, HE2⟩
          case measure => simp [intOf]; omega
        | false =>
          rw [hv] at heq hneq
          have HE2 : Hid (Pl.same a b = false) := by unfold Hid; rw [HE.out, HD.out, hv, Bool.false_and]
          go_wp2_with fail
          go_quiet (fail)
          go_wp2
          go_ret
          exact ⟨by rw [HE2.out]; rfl, below_drewN HW.out _⟩
      · have hli : ¬ ((k : Int) < (n : Int)) := by omega
        have HE2 : Hid (Pl.same a b = true) := by
          unfold Hid
          rw [HE.out, List.drop_eq_nil_of_le (by have := HN.out; omega), List.drop_eq_nil_of_le (by have := HM.out; omega)]
          rfl
        go_wp2
        go_ret
        exact ⟨by rw [HE2.out]; rfl, HW.out⟩
  · have HE : Hid (Pl.same a b = false) := Pl.same_len (by omega)
    have hni : ¬ (n : Int) = (m : Int) := by omega
    clear hp hq hn hm
    go_enter Try.func11, Try.ntmps11
    go_wp2
    go_ret
    exact ⟨by rw [HE.out]; rfl, Below.refl _ _⟩
end Go.Proofs.Ytilabcolfabnmaa
