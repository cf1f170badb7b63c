/- A step of both: a clone, and Advance. -/
import Derived.Test.YtndmcjkbbedoeaaEpPr
namespace Go.Proofs.Ytndmcjkbbedoeaa
open Go.RowKit
set_option linter.unusedVariables false
set_option maxRecDepth 100000

theorem Pe.cloned {w wo w1 w4 : World} {B R j C : Nat} {bs rs bs' : List Nat} {e : Ep} (h : Pe w wo B R bs rs e j) (t1 : Tn [] wo w1) (hc : Epn w1 C bs' e) (hC : ∀ b ∈ bs', wo.heap.size ≤ b) (t2 : Tn bs w1 w4) : Pe w w4 C R bs' rs e (j + 1) := by
  have hs := h.below.size
  have t3 : Tn bs wo w4 := (t1.mono (by simp)).trans t2 (fun x hx => .inl hx)
  refine ⟨hc.tn t2 (fun b hb hm => ?_), h.re.tn t3 (fun b hb hm => h.dj b hm hb), fun b hb hm => ?_, fun b hb => ?_, h.lr, h.below.trans (t3.below hs h.lb), h.le.up (by omega) (by omega)⟩
  · have := h.ep.lt b hm
    have := hC b hb
    omega
  · have := h.re.lt b hm
    have := hC b hb
    omega
  · have := hC b hb
    omega

set_option maxHeartbeats 4000000 in
theorem step_clone {w wr : World} {B R j : Nat} {bs rs : List Nat} {e : Ep} (h : Pe w wr B R bs rs e j) (s : Int) (x : Rt) (hj : j ≤ 3518437208780) :
    Calls Try.prog 11 #[.pointer (some ⟨B, 0, none⟩), .pointer (some ⟨R, 0, none⟩), .agg #[.int .i64 4, .int .i64 s, .int .i64 x.k, .int .i64 x.s, .int .i64 x.g]] wr fun r w' => St w w' r R (j + 1) := by
  obtain ⟨hb1, hb2, hb3, hb4⟩ := h.bounds hj
  obtain ⟨wo, hwo, hsz, d0, d1, d2, d3, d4, HP, HB, -⟩ := h.box 4 s x
  have HL : Hid (e.cur.length ≤ 3600000000000 ∧ e.limbo.length ≤ 3600000000000 ∧ e.now ≤ 4611686018427387904 ∧ e.old.length + e.cur.length ≤ 3600000000000) := ⟨hb2, hb3, hb1, hb4⟩
  clear h hb1 hb2 hb3 hb4
  refine Calls.mono (R := fun r w' => Hid (St w w' r R (j + 1))) ?_ (fun r w' h => h.out)
  go_enter Try.func11, Try.ntmps11
  go_wp2_with fail
  refine (clone_any HP.out.ep HL.out.2.2.2).mono ?_
  rintro r w1 ⟨bs', rfl, hc, t1, hC⟩
  have HC : Hid (Epn w1 wo.heap.size bs' e) := hc
  have T1 : Hid (Tn [] wo w1) := t1
  have HCl : Hid (∀ b ∈ bs', wo.heap.size ≤ b) := hC
  have HE : Hid (Epn w1 B bs e) := HP.out.ep.tn t1 (by simp)
  obtain ⟨s1, s2, s3, s4⟩ := HB.out w1 [] t1 (by simp)
  clear hc t1 hC
  go_wp2_with fail
  refine (retire_any HE.out x HL.out.1).mono ?_
  rintro r w2 ⟨rfl, bs2, E2, t2, m2⟩
  have E2 : Hid (Epn w2 B bs2 (e.retire x)) := E2
  have T2 : Hid (Tn bs w1 w2) := t2
  have M2 : Hid (∀ b ∈ bs2, b ∈ bs ∨ w1.heap.size ≤ b) := m2
  clear t2 m2
  go_wp2_with fail
  refine (adv_int E2.out HL.out.2.2.1).mono ?_
  rintro r w3 ⟨v, er, rfl, bs3, E3, t3, m3⟩
  have hT3 : EpT w1 w3 B bs (e.retire x).adv := EpT.trans T2.out M2.out ⟨bs3, E3, t3, m3⟩
  obtain ⟨bs3, E3, t3, m3⟩ := hT3
  have E3 : Hid (Epn w3 B bs3 (e.retire x).adv) := E3
  have T3 : Hid (Tn bs w1 w3) := t3
  have M3 : Hid (∀ b ∈ bs3, b ∈ bs ∨ w1.heap.size ≤ b) := m3
  obtain ⟨s1, s2, s3, s4⟩ := HB.out w3 bs ((T1.out.mono (by simp)).trans t3 (fun x hx => .inl hx)) (fun b hb => .inl hb)
  clear t3 m3
  go_wp2_with fail
  refine (pin_int E3.out s).mono ?_
  rintro r w4 ⟨rfl, hT4⟩
  obtain ⟨bs4, E4, t4, m4⟩ := EpT.trans T3.out M3.out hT4
  have HF : Hid (Pe w w4 wo.heap.size R bs' rs e (j + 1)) := HP.out.cloned T1.out HC.out HCl.out t4
  clear E4 t4 m4 hT4
  go_wp2
  go_ret2
  exact ⟨_, _, _, _, rfl, HF.out⟩

namespace Ep
def advE (e : Ep) : Int := if e.held then 62 else 0
def advL (e : Ep) : List Rt := if e.held then [] else e.old
end Ep

theorem adv2 {w : World} {B : Nat} {bs : List Nat} {e : Ep} (h : Epn w B bs e) (hn : e.now ≤ 4611686018427387904) :
    Calls Try.prog 18 #[.pointer (some ⟨B, 0, none⟩)] w fun r w' => ∃ v, r = .returned (.tuple #[v, .int .i64 e.advE]) ∧ EpT w w' B bs e.adv ∧ Rr w' v e.advL ∧ ∀ b, v.ownBlock = some b → b ∈ bs := by
  unfold Ep.adv Ep.advE Ep.advL
  cases hh : e.held with
  | true =>
    refine (advance_held h hh).mono ?_
    rintro r w' ⟨rfl, rfl⟩
    exact ⟨_, rfl, EpT.refl h, Rr.nil _, by simp [Value.ownBlock]⟩
  | false =>
    refine (advance_any h hn hh).mono ?_
    rintro r w' ⟨v, rfl, hA⟩
    obtain ⟨bs', h1, h2, h3, h4⟩ := hA.ep
    exact ⟨_, rfl, hA.epT h.hB, hA.row, fun b hb => (h4 b hb).1⟩

theorem radv2 {w : World} {R : Nat} {rs : List Nat} {e : Ep} (h : Ren w R rs e) (hn : e.now ≤ 4611686018427387904) (hl : e.old.length + e.cur.length ≤ 3600000000000) :
    Calls Try.prog 27 #[.pointer (some ⟨R, 0, none⟩)] w fun r w' => ∃ v, r = .returned (.tuple #[v, .int .i64 e.advE]) ∧ ReT w w' R rs e.adv ∧ Rr w' v e.advL := by
  refine (radvance_any h hn hl).mono ?_
  unfold Ep.adv Ep.advE Ep.advL
  rintro r w' (⟨hh, rfl, t⟩ | ⟨hh, v, rfl, hR⟩)
  · rw [hh]
    exact ⟨_, rfl, (ReT.refl h).then t, Rr.nil _⟩
  · rw [hh]
    obtain ⟨rs', r1, r2, r3, r4⟩ := hR.re
    exact ⟨_, rfl, ⟨rs', r1, r2, r3⟩, hR.row⟩

end Go.Proofs.Ytndmcjkbbedoeaa
