/- Which versions are the same. -/
import Derived.Test.YtilabcolfabnmaaVsC
import Derived.Laws.StructEq
namespace Go.Proofs.Ytilabcolfabnmaa
open Go.RowKit Go.Sort
set_option linter.unusedVariables false
set_option maxRecDepth 100000

/-- Whether two versions are the same. -/
def Vs.eqb (x y : Vs) : Bool := (x.ts == y.ts) && ((x.val.toList == y.val.toList) && (x.del == y.del))

theorem eq_int64V (d : Nat) (x y : Int) (w : World) : (Op.equalIn (d + 1) 2 (.int .i64 x) (.int .i64 y)).run Try.prog w = .ok (x == y) w := by
  simp [Op.equalIn, run_underlying Try.underlying2]
theorem eq_strV (d : Nat) (x y : ByteArray) (w : World) : (Op.equalIn (d + 1) 9 (.string x) (.string y)).run Try.prog w = .ok (x.toList == y.toList) w := by
  simp [Op.equalIn, run_underlying Try.underlying9, beq_toListBytes]
theorem eq_boolV (d : Nat) (x y : Bool) (w : World) : (Op.equalIn (d + 1) 4 (.bool x) (.bool y)).run Try.prog w = .ok (x == y) w := by
  simp [Op.equalIn, run_underlying Try.underlying4]
theorem eq_vD (m : Nat) (h1 : ∀ x y w, (Op.equalIn m 2 (.int .i64 x) (.int .i64 y)).run Try.prog w = .ok (x == y) w) (h2 : ∀ x y w, (Op.equalIn m 9 (.string x) (.string y)).run Try.prog w = .ok (x.toList == y.toList) w)
    (h3 : ∀ x y w, (Op.equalIn m 4 (.bool x) (.bool y)).run Try.prog w = .ok (x == y) w) (x y : Vs) (w : World) :
    (Op.equalIn (m + 1) 48 x.v y.v).run Try.prog w = .ok (Vs.eqb x y) w := by
  obtain ⟨a, b, c⟩ := x
  obtain ⟨d, e, f⟩ := y
  have p0 : ∀ (a : Int) (b : ByteArray) (c : Bool) w, (part 2 #[.int .i64 a, .string b, .bool c] 0).run Try.prog w = .ok (.int .i64 a) w := fun a b c w => by kernel_rfl
  have p1 : ∀ (a : Int) (b : ByteArray) (c : Bool) w, (part 9 #[.int .i64 a, .string b, .bool c] 1).run Try.prog w = .ok (.string b) w := fun a b c w => by kernel_rfl
  have p2 : ∀ (a : Int) (b : ByteArray) (c : Bool) w, (part 4 #[.int .i64 a, .string b, .bool c] 2).run Try.prog w = .ok (.bool c) w := fun a b c w => by kernel_rfl
  have hs : Try.prog.stoodInHeld 48 = false := by kernel_rfl
  unfold Vs.eqb
  simp [Op.equalIn, run_underlying Try.underlying48, p0, p1, p2, h1, h2, h3, hs]
  cases h : (a == d) <;> cases h' : (b.toList == e.toList) <;> cases h'' : (c == f) <;> simp_all
theorem eqIn_v (a d : Int) (b e : ByteArray) (c f : Bool) (w : World) : (Op.equalIn 10000 48 (.agg #[.int .i64 a, .string b, .bool c]) (.agg #[.int .i64 d, .string e, .bool f])).run Try.prog w = .ok (Vs.eqb ⟨a, b, c⟩ ⟨d, e, f⟩) w :=
  eq_vD 9999 (fun x y w => eq_int64V 9998 x y w) (fun x y w => eq_strV 9998 x y w) (fun x y w => eq_boolV 9998 x y w) ⟨a, b, c⟩ ⟨d, e, f⟩ w
theorem run_neq_v (a d : Int) (b e : ByteArray) (c f : Bool) (w : World) : (binOp .neq 48 (.agg #[.int .i64 a, .string b, .bool c]) (.agg #[.int .i64 d, .string e, .bool f])).run Try.prog w = .ok (.bool (!Vs.eqb ⟨a, b, c⟩ ⟨d, e, f⟩)) w := by
  rw [run_neq_struct, eqIn_v]
  rfl
theorem run_eql_v (a d : Int) (b e : ByteArray) (c f : Bool) (w : World) : (binOp .eql 48 (.agg #[.int .i64 a, .string b, .bool c]) (.agg #[.int .i64 d, .string e, .bool f])).run Try.prog w = .ok (.bool (Vs.eqb ⟨a, b, c⟩ ⟨d, e, f⟩)) w := by
  rw [run_eql_struct, eqIn_v]
  rfl

namespace Vr
def same : List Vs → List Vs → Bool
  | [], [] => true
  | x :: r, y :: s => Vs.eqb x y && same r s
  | _, _ => false

theorem same_len {a b : List Vs} (h : ¬ a.length = b.length) : same a b = false := by
  induction a generalizing b with
  | nil => cases b with
    | nil => simp at h
    | cons y s => rfl
  | cons x r ih => cases b with
    | nil => rfl
    | cons y s =>
      simp only [same]
      rw [ih (by simpa using h), Bool.and_false]

theorem eqb_refl (x : Vs) : Vs.eqb x x = true := by simp [Vs.eqb]
theorem same_refl (l : List Vs) : same l l = true := by
  induction l with
  | nil => rfl
  | cons x r ih => simp [same, ih, eqb_refl]

theorem same_drop {a b : List Vs} {k : Nat} {x y : Vs} (hx : a[k]? = some x) (hy : b[k]? = some y) : same (a.drop k) (b.drop k) = (Vs.eqb x y && same (a.drop (k + 1)) (b.drop (k + 1))) := by
  have h1 : k < a.length := (List.getElem?_eq_some_iff.1 hx).1
  have h2 : k < b.length := (List.getElem?_eq_some_iff.1 hy).1
  rw [List.drop_eq_getElem_cons h1, List.drop_eq_getElem_cons h2]
  rw [List.getElem?_eq_getElem h1] at hx
  rw [List.getElem?_eq_getElem h2] at hy
  cases hx
  cases hy
  rfl
end Vr

set_option maxHeartbeats 2000000 in
theorem dsame_any (p q : Option Addr) (n m c d : Nat) (a b : List Vs) (w : World) (hn : a.length = n) (hm : b.length = m) (hp : Vrs w p a) (hq : Vrs w q b) (hl : n ≤ 4611686018427387904) (hl2 : m ≤ 4611686018427387904) :
    Calls Try.prog 24 #[.slice p n c, .slice q m d] w fun e w' => e = .returned (.bool (Vr.same a b)) ∧ Below w.heap.size w w' := by
  by_cases hnm : n = m
  · subst hnm
    have HP : Hid (Vrs w p a) := hp
    have HQ : Hid (Vrs w q b) := hq
    have HN : Hid (a.length = n) := hn
    have HM : Hid (b.length = n) := hm
    clear hp hq hn hm
    go_enter Try.func24, Try.ntmps24
    go_wp2_with fail
    go_loopw [5] (fun i wr => ∃ k : Nat, k ≤ n ∧ i = .int .i64 k ∧ Hid (Below w.heap.size w wr) ∧ Hid (Vr.same a b = Vr.same (a.drop k) (b.drop k))) (fun i _ => n - (intOf i).toNat)
    case atStart => exact ⟨0, Nat.zero_le _, rfl, Below.refl _ _, rfl⟩
    case round =>
      obtain ⟨k, hk, rfl, HW, HE⟩ := hrel
      by_cases hlt : k < n
      · have hli : (k : Int) < (n : Int) := by omega
        obtain ⟨b1, o1, x, rfl, hx, c0, c1, c2⟩ := Vrs.cells (Els.below HP.out HW.out (Nat.le_refl _)) (j := k) (by have := HN.out; omega)
        obtain ⟨b2, o2, y, rfl, hy, d0, d1, d2⟩ := Vrs.cells (Els.below HQ.out HW.out (Nat.le_refl _)) (j := k) (by have := HM.out; omega)
        obtain ⟨x1, x2, x3⟩ := x
        obtain ⟨y1, y2, y3⟩ := y
        have HD : Hid (Vr.same (a.drop k) (b.drop k) = (Vs.eqb ⟨x1, x2, x3⟩ ⟨y1, y2, y3⟩ && Vr.same (a.drop (k + 1)) (b.drop (k + 1)))) := Vr.same_drop hx hy
        have heq := fun w => eqIn_v x1 y1 x2 y2 x3 y3 w
        have hneq := fun w => run_neq_v x1 y1 x2 y2 x3 y3 w
        clear hx hy
        cases hv : Vs.eqb ⟨x1, x2, x3⟩ ⟨y1, y2, y3⟩ with
        | true =>
          rw [hv] at heq hneq
          have HE2 : Hid (Vr.same a b = Vr.same (a.drop (k + 1)) (b.drop (k + 1))) := by unfold Hid; rw [HE.out, HD.out, hv, Bool.true_and]
          go_wp2_with fail
          go_quiet (fail)
          go_wp2
          go_roundw
          case rel => exact ⟨k + 1, by omega, by go_num, below_drewN HW.out _, HE2⟩
          case measure => simp [intOf]; omega
        | false =>
          rw [hv] at heq hneq
          have HE2 : Hid (Vr.same a b = false) := by unfold Hid; rw [HE.out, HD.out, hv, Bool.false_and]
          go_wp2_with fail
          go_quiet (fail)
          go_wp2
          go_ret
          exact ⟨by rw [HE2.out]; rfl, below_drewN HW.out _⟩
      · have hli : ¬ ((k : Int) < (n : Int)) := by omega
        have HE2 : Hid (Vr.same a b = true) := by
          unfold Hid
          rw [HE.out, List.drop_eq_nil_of_le (by have := HN.out; omega), List.drop_eq_nil_of_le (by have := HM.out; omega)]
          rfl
        go_wp2
        go_ret
        exact ⟨by rw [HE2.out]; rfl, HW.out⟩
  · have HE : Hid (Vr.same a b = false) := Vr.same_len (by omega)
    have hni : ¬ (n : Int) = (m : Int) := by omega
    clear hp hq hn hm
    go_enter Try.func24, Try.ntmps24
    go_wp2
    go_ret
    exact ⟨by rw [HE.out]; rfl, Below.refl _ _⟩

end Go.Proofs.Ytilabcolfabnmaa
