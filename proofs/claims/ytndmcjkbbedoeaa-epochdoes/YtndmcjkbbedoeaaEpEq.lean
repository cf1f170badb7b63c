/- Is an epoch the document's? -/
import Derived.Test.YtndmcjkbbedoeaaEpTd
namespace Go.Proofs.Ytndmcjkbbedoeaa
open Go.RowKit
set_option linter.unusedVariables false
set_option maxRecDepth 100000

namespace Ep
def pv (e : Ep) (s : Int) : Int := if s < 0 ∨ 16 < s then 0 else ((e.pin s.toNat : Nat) : Int)
def pb (e : Ep) (s : Int) : Bool := if s < 0 ∨ 16 < s then false else decide (e.pin s.toNat ≠ 0)
end Ep

theorem pinned_int {w : World} {B : Nat} {bs : List Nat} {e : Ep} (h : Epn w B bs e) (s : Int) :
    Calls Try.prog 20 #[.pointer (some ⟨B, 0, none⟩), .int .i64 s] w fun r w' => r = .returned (.tuple #[.int .i64 (e.pv s), .bool (e.pb s)]) ∧ w' = w := by
  unfold Ep.pv Ep.pb
  by_cases hs : s < 0 ∨ 16 < s
  · rw [if_pos hs, if_pos hs]
    exact pinned_bad h.cNow h.n1 s hs
  · rw [if_neg hs, if_neg hs]
    obtain ⟨k, rfl⟩ : ∃ k : Nat, s = (k : Int) := ⟨s.toNat, by omega⟩
    simp only [Int.toNat_natCast]
    exact pinned_any h k (by omega)

theorem rpinned_int {w : World} {R : Nat} {rs : List Nat} {e : Ep} (h : Ren w R rs e) (s : Int) :
    Calls Try.prog 31 #[.pointer (some ⟨R, 0, none⟩), .int .i64 s] w fun r w' => r = .returned (.tuple #[.int .i64 (e.pv s), .bool (e.pb s)]) ∧ w' = w := by
  unfold Ep.pv Ep.pb
  by_cases hs : s < 0 ∨ 16 < s
  · rw [if_pos hs, if_pos hs]
    exact rpinned_bad s hs
  · rw [if_neg hs, if_neg hs]
    obtain ⟨k, rfl⟩ : ∃ k : Nat, s = (k : Int) := ⟨s.toNat, by omega⟩
    simp only [Int.toNat_natCast]
    exact rpinned_any h k (by omega)

set_option maxHeartbeats 4000000 in
theorem equal_any {wr : World} {B R : Nat} {bs rs : List Nat} {e : Ep} (hE : Epn wr B bs e) (hR : Ren wr R rs e) (hb : e.now ≤ 4611686018427387904 ∧ e.old.length + e.cur.length ≤ 3600000000000) (stop : Int) :
    Calls Try.prog 14 #[.pointer (some ⟨B, 0, none⟩), .pointer (some ⟨R, 0, none⟩), .int .i64 stop] wr fun r w' => r = .returned (.bool true) ∧ Below wr.heap.size wr w' := by
  have HE : Hid (∀ W, Below wr.heap.size wr W → Epn W B bs e) := fun W hb => hE.tn (Tn.of_below hb []) (by simp)
  have HR : Hid (∀ W, Below wr.heap.size wr W → Ren W R rs e) := fun W hb => hR.tn (Tn.of_below hb []) (by simp)
  have HB : Hid (e.now ≤ 4611686018427387904 ∧ e.old.length + e.cur.length ≤ 3600000000000) := hb
  obtain ⟨vs, -, hI⟩ := hE
  have HI : Hid (IsEp wr B vs e) := hI
  clear hI hR hb
  go_enter Try.func14, Try.ntmps14
  go_wp2_with fail
  refine (limbo_any HI.out HB.out.1 HB.out.2).mono ?_
  rintro r w1 ⟨rfl, v1, v2, hL⟩
  have HB1 : Hid (Below wr.heap.size wr w1) := hL.below
  have HLIM : Hid (Lim w1 (wr.heap.size + 1) (wr.heap.size + 3) (Lm.bs wr v1 v2) e.limbo) := hL.lim (by rw [Ep.limbo_length]; exact HB.out.2)
  clear hL
  go_wp2_with fail
  refine (told_any (HR.out w1 HB1.out) HLIM.out stop).mono ?_
  rintro r w2 ⟨rfl, b2⟩
  have HB2 : Hid (Below wr.heap.size wr w2) := HB1.out.trans (b2.mono HB1.out.size)
  have HLIM2 : Hid (Lim w2 (wr.heap.size + 1) (wr.heap.size + 3) (Lm.bs wr v1 v2) e.limbo) := HLIM.out.kp (KpP.of_below b2 HLIM.out.lt)
  clear b2
  go_wp2_with fail
  refine (told_any (HR.out w2 HB2.out) HLIM2.out 0).mono ?_
  rintro r w3 ⟨rfl, b3⟩
  have HB3 : Hid (Below wr.heap.size wr w3) := HB2.out.trans (b3.mono HB2.out.size)
  clear b3 HLIM HLIM2
  have HE3 : Hid (Epn w3 B bs e) := HE.out w3 HB3.out
  have HR3 : Hid (Ren w3 R rs e) := HR.out w3 HB3.out
  go_wp2_with fail
  go_loopw [8] (fun iv wv => ∃ k : Nat, k ≤ 19 ∧ iv = .int .i64 ((k : Int) - 1) ∧ w3 = wv) (fun iv _ => 20 - (intOf iv + 1).toNat)
  case atStart => exact ⟨0, by omega, rfl, rfl⟩
  case round =>
    obtain ⟨k, hk, rfl, rfl⟩ := hrel
    by_cases hlt : k < 19
    · have hli : (k : Int) - 1 ≤ 17 := by omega
      go_wp2_with fail
      refine (pinned_int HE3.out _).mono ?_
      rintro r w4 ⟨rfl, rfl⟩
      go_wp2_with fail
      refine (rpinned_int HR3.out _).mono ?_
      rintro r w5 ⟨rfl, rfl⟩
      generalize e.pv ((k : Int) - 1) = y at *
      generalize e.pb ((k : Int) - 1) = z at *
      have hy : (y != y) = false := by simp
      have hz : (z != z) = false := by simp
      go_wp2
      go_roundw
      case rel => exact ⟨k + 1, by omega, by go_num, by simp⟩
      case measure => simp [intOf]; omega
    · have hli : ¬ (k : Int) - 1 ≤ 17 := by omega
      obtain ⟨vs3, -, hI3⟩ := HE3.out
      obtain ⟨v3, at3, -, hR4⟩ := HR3.out
      have HI3 : Hid (∀ k, IsEp (w3.drewN k) B vs3 e) := fun k => hI3.tn (tn_drewN _ _) (by simp)
      have c0 := hI3.cNow
      have hn1 := hI3.n1
      have r0 := hR4.cNow
      have r1 := hR4.cLim
      obtain ⟨p, c, hv, -⟩ := row_form hR4.row
      subst hv
      rw [Ep.limbo_length] at r1
      clear hI3 hR4
      go_wp2_with fail
      go_region_held3 (fun w' => w'.cell? ⟨R, 0, none⟩ = some (.int .i64 (e.now : Int)) ∧ w'.cell? ⟨R, 35, none⟩ = some (.slice p (e.old.length + e.cur.length) c)) (go_keep) (first
        | (go_at_call 12; refine (now_any (HI3.out 1).cNow hn1).mono ?_; rintro r w2 ⟨rfl, rfl⟩)
        | (go_at_call 13; refine (waiting_any (HI3.out 1) HB.out.1 HB.out.2).mono ?_; rintro r w2 ⟨rfl, k2, rfl⟩))
      go_wp2
      go_ret
      exact ⟨rfl, below_drewN HB3.out _⟩

end Go.Proofs.Ytndmcjkbbedoeaa
