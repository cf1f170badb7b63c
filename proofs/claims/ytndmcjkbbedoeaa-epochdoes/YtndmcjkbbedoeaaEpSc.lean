/- Epochs: calls with whatever number; a script's rounds. -/
import Derived.Test.YtndmcjkbbedoeaaEpYg
import Derived.Test.YtndmcjkbbedoeaaEpOpen
namespace Go.Proofs.Ytndmcjkbbedoeaa
open Go.RowKit
set_option linter.unusedVariables false
set_option maxRecDepth 100000

namespace Ep
def pinI (e : Ep) (s : Int) : Ep := if s < 0 ∨ 16 < s then e else if e.pin s.toNat = 0 then e.setPin s.toNat e.now else e
def pinE (e : Ep) (s : Int) : Int := if s < 0 ∨ 16 < s then 1 else if e.pin s.toNat = 0 then 0 else 60
def unpinI (e : Ep) (s : Int) : Ep := if s < 0 ∨ 16 < s then e else e.setPin s.toNat 0
def unpinE (e : Ep) (s : Int) : Int := if s < 0 ∨ 16 < s then 1 else if e.pin s.toNat = 0 then 61 else 0
def adv (e : Ep) : Ep := if e.held then e else e.next
/-- What lies in an epoch, and how far it has gone. -/
structure Le (e : Ep) (a b : Nat) : Prop where
  now : e.now ≤ a + 1
  len : e.old.length + e.cur.length ≤ b
theorem Le.pinI {e : Ep} {a b : Nat} (h : e.Le a b) (s : Int) : (e.pinI s).Le a b := by
  unfold Ep.pinI
  split
  · exact h
  · split
    · exact ⟨h.now, h.len⟩
    · exact h
theorem Le.unpinI {e : Ep} {a b : Nat} (h : e.Le a b) (s : Int) : (e.unpinI s).Le a b := by
  unfold Ep.unpinI
  split
  · exact h
  · exact ⟨h.now, h.len⟩
theorem Le.retire {e : Ep} {a b : Nat} (h : e.Le a b) (x : Rt) : (e.retire x).Le a (b + 1) := by
  refine ⟨h.now, ?_⟩
  have := h.len
  simp [Ep.retire]
  omega
theorem Le.adv {e : Ep} {a b : Nat} (h : e.Le a b) : e.adv.Le (a + 1) b := by
  have h1 := h.now
  have h2 := h.len
  unfold Ep.adv
  split
  · exact ⟨by omega, h2⟩
  · exact ⟨by show e.now + 1 ≤ _; omega, by simp [Ep.next]; omega⟩
theorem Le.up {e : Ep} {a b c d : Nat} (h : e.Le a b) (h1 : a ≤ c) (h2 : b ≤ d) : e.Le c d := ⟨by have := h.now; omega, by have := h.len; omega⟩
end Ep

theorem pin_int {w : World} {B : Nat} {bs : List Nat} {e : Ep} (h : Epn w B bs e) (s : Int) :
    Calls Try.prog 15 #[.pointer (some ⟨B, 0, none⟩), .int .i64 s] w fun r w' => r = .returned (.int .i64 (e.pinE s)) ∧ EpT w w' B bs (e.pinI s) := by
  unfold Ep.pinE Ep.pinI
  by_cases hs : s < 0 ∨ 16 < s
  · rw [if_pos hs, if_pos hs]
    refine (pin_bad h.cNow h.n1 s hs).mono ?_
    rintro r w' ⟨rfl, rfl⟩
    exact ⟨rfl, EpT.refl h⟩
  · rw [if_neg hs, if_neg hs]
    obtain ⟨k, rfl⟩ := Int.eq_ofNat_of_zero_le (show 0 ≤ s by omega)
    exact pin_any h k (by omega)

theorem unpin_int {w : World} {B : Nat} {bs : List Nat} {e : Ep} (h : Epn w B bs e) (s : Int) :
    Calls Try.prog 16 #[.pointer (some ⟨B, 0, none⟩), .int .i64 s] w fun r w' => r = .returned (.int .i64 (e.unpinE s)) ∧ EpT w w' B bs (e.unpinI s) := by
  unfold Ep.unpinE Ep.unpinI
  by_cases hs : s < 0 ∨ 16 < s
  · rw [if_pos hs, if_pos hs]
    refine (unpin_bad h.cNow h.n1 s hs).mono ?_
    rintro r w' ⟨rfl, rfl⟩
    exact ⟨rfl, EpT.refl h⟩
  · rw [if_neg hs, if_neg hs]
    obtain ⟨k, rfl⟩ := Int.eq_ofNat_of_zero_le (show 0 ≤ s by omega)
    exact unpin_any h k (by omega)

theorem Adv.epT {w w' : World} {B : Nat} {bs : List Nat} {e : Ep} {v : Value} (hB : B ∈ bs) (h : Adv w w' B bs e v) : EpT w w' B bs e.next := by
  obtain ⟨bs', h1, h2, h3, h4⟩ := h.ep
  exact ⟨bs', h1, h2.mono (by simpa using hB), fun b hb => .inl (h3 b hb)⟩

theorem adv_int {w : World} {B : Nat} {bs : List Nat} {e : Ep} (h : Epn w B bs e) (hn : e.now ≤ 4611686018427387904) :
    Calls Try.prog 18 #[.pointer (some ⟨B, 0, none⟩)] w fun r w' => ∃ v er, r = .returned (.tuple #[v, .int .i64 er]) ∧ EpT w w' B bs e.adv := by
  unfold Ep.adv
  cases hh : e.held with
  | true =>
    refine (advance_held h hh).mono ?_
    rintro r w' ⟨rfl, rfl⟩
    exact ⟨_, _, rfl, EpT.refl h⟩
  | false =>
    refine (advance_any h hn hh).mono ?_
    rintro r w' ⟨v, rfl, hA⟩
    exact ⟨_, _, rfl, hA.epT h.hB⟩

/-- A script's rounds: an epoch of the law's own. -/
structure Sc (w wr : World) (B j : Nat) (bs : List Nat) (e : Ep) : Prop where
  ep : Epn wr B bs e
  low : ∀ b ∈ bs, w.heap.size ≤ b
  below : Below w.heap.size w wr
  le : e.Le j j

theorem Sc.step {w wr wo w' : World} {B j k : Nat} {bs : List Nat} {e e' : Ep} (h : Sc w wr B j bs e) (ht : Tn [] wr wo) (hT : EpT wo w' B bs e') (hl : e'.Le k k) : ∃ bs', Sc w w' B k bs' e' := by
  obtain ⟨bs', h1, h2, h3⟩ := hT
  have hs := h.below.size
  have hs2 := ht.size
  refine ⟨bs', h1, fun b hb => ?_, ?_, hl⟩
  · rcases h3 b hb with h4 | h4
    · exact h.low b h4
    · omega
  · exact (h.below.trans ((ht.below (Nat.le_refl _) (by simp)).mono hs)).trans (h2.below (by omega) h.low)

theorem Sc.still {w wr w' : World} {B j k : Nat} {bs : List Nat} {e : Ep} (h : Sc w wr B j bs e) (ht : Tn [] wr w') (hk : j ≤ k) : Sc w w' B k bs e :=
  ⟨h.ep.tn ht (by simp), h.low, h.below.trans ((ht.below (Nat.le_refl _) (by simp)).mono h.below.size), h.le.up hk hk⟩

/-- An operation's box. -/
theorem op_box (w : World) (g : Eop) : ∃ w1, w.alloc (.cells #[.int .i64 g.dd, .int .i64 g.s, .int .i64 g.x.k, .int .i64 g.x.s, .int .i64 g.x.g] 33) = w1 ∧ Tn [] w w1 ∧ w1.heap.size = w.heap.size + 1 ∧ w1.cell? ⟨w.heap.size, 0, none⟩ = some (.int .i64 g.dd) ∧ w1.cell? ⟨w.heap.size, 1, none⟩ = some (.int .i64 g.s) ∧ w1.cell? ⟨w.heap.size, 2, none⟩ = some (.int .i64 g.x.k) ∧ w1.cell? ⟨w.heap.size, 3, none⟩ = some (.int .i64 g.x.s) ∧ w1.cell? ⟨w.heap.size, 4, none⟩ = some (.int .i64 g.x.g) := by
  have k := Bk.new w 33 #[.int .i64 g.dd, .int .i64 g.s, .int .i64 g.x.k, .int .i64 g.x.s, .int .i64 g.x.g]
  exact ⟨_, rfl, (Tn.refl _ _).alloc _, by simp, k.cell 0, k.cell 1, k.cell 2, k.cell 3, k.cell 4⟩

end Go.Proofs.Ytndmcjkbbedoeaa
