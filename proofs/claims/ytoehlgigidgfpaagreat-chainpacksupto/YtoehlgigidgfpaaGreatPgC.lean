/- Which pages may be (the code's). -/
import Derived.Test.YtoehlgigidgfpaaGreatPgR
import Derived.Deep.RegionHeld3
namespace Go.Proofs.YtoehlgigidgfpaaGreat
open Go.RowKit
set_option linter.unusedVariables false
set_option maxRecDepth 100000

theorem below_dn {B : Nat} {a w : World} (h : Below B a w) (n : Nat) : Below B a (w.drewN n) := ⟨h.os, h.tape, h.output, h.size, h.block⟩
theorem Bk.dn {w : World} {b : Nat} {t : TypeId} {cs : Array Value} (h : Bk w b t cs) (n : Nat) : Bk (w.drewN n) b t cs := h

namespace Pg
/-- Whether the entry at a place rises above the one ahead of it, and is such as the page may have. -/
def good (leaf : Bool) (r : Rg) (l : List En) (j : Nat) : Bool :=
  match l[j]? with
  | none => true
  | some e => (match j with | 0 => true | i + 1 => (match l[i]? with | some d => Ky.lt d.key e.key | none => true)) && (Ky.inn r e.key && kind leaf e)
def fits (leaf : Bool) (r : Rg) (l : List En) : Bool := (List.range l.length).all (good leaf r l)
/-- Whether the first entry of an inner page has the page's least key. -/
def begins (leaf : Bool) (lo : ByteArray) (l : List En) : Bool := leaf || (match l with | [] => false | e :: _ => e.key.toList == lo.toList)
def may (leaf : Bool) (r : Rg) (right : Int) (l : List En) : Bool := (!Ky.emp r && decide (0 ≤ right)) && (fits leaf r l && begins leaf r.lo l)

theorem good_first {leaf : Bool} {r : Rg} {l : List En} {e : En} (h : l[0]? = some e) : good leaf r l 0 = (Ky.inn r e.key && kind leaf e) := by
  unfold good; rw [h]; rfl
theorem good_next {leaf : Bool} {r : Rg} {l : List En} {e d : En} {i : Nat} (h : l[i + 1]? = some e) (hd : l[i]? = some d) : good leaf r l (i + 1) = (Ky.lt d.key e.key && (Ky.inn r e.key && kind leaf e)) := by
  unfold good; rw [h]; simp only [hd]
theorem fits_all {leaf : Bool} {r : Rg} {l : List En} (h : ∀ j, j < l.length → good leaf r l j = true) : fits leaf r l = true := by
  unfold fits
  rw [List.all_eq_true]
  intro j hj
  exact h j (List.mem_range.1 hj)
theorem fits_not {leaf : Bool} {r : Rg} {l : List En} {j : Nat} (hj : j < l.length) (h : good leaf r l j = false) : fits leaf r l = false := by
  unfold fits
  rw [List.all_eq_false]
  exact ⟨j, List.mem_range.2 hj, by rw [h]; simp⟩
end Pg


set_option maxHeartbeats 4000000 in
theorem fits_any (leaf : Bool) (lo hi : ByteArray) (r : Int) (p : Option Addr) (len cap : Nat) (l : List En) (w : World) (hlen : l.length = len) (hx : Ens w p l) (hl : len ≤ 4398046511104) :
    Calls Tryz.prog 85 #[pgv leaf lo hi r p len cap] w fun e w' => e = .returned (.bool (Pg.fits leaf ⟨lo, hi⟩ l)) ∧ Below w.heap.size w w' := by
  obtain ⟨w0, hw0⟩ : ∃ w0, w0 = w.alloc (.cells (pgc leaf lo hi r p len cap) 29) := ⟨_, rfl⟩
  have hk0 : Bk w0 w.heap.size 29 (pgc leaf lo hi r p len cap) := by rw [hw0]; exact Bk.new _ _ _
  have HB0 : Hid (Below w.heap.size w w0) := by rw [hw0]; exact (Below.refl _ _).alloc (Nat.le_refl _) _
  have HK0 : Hid (Bk w0 w.heap.size 29 (pgc leaf lo hi r p len cap)) := hk0
  have HX : Hid (Ens w p l) := hx
  have HL : Hid (l.length = len) := hlen
  have c4 := hk0.cell 4
  simp at c4
  clear hx hlen hk0
  go_enter Tryz.func85, Tryz.ntmps85
  go_wp2_with fail
  rw [← hw0]
  clear hw0
  go_loopw [8] (fun i wr => ∃ k : Nat, k ≤ len ∧ i = .int .i64 k ∧ Hid (Below w.heap.size w wr) ∧ Hid (Bk wr w.heap.size 29 (pgc leaf lo hi r p len cap)) ∧ Hid (∀ j, j < k → Pg.good leaf ⟨lo, hi⟩ l j = true)) (fun i _ => len - (intOf i).toNat)
  case atStart => exact ⟨0, Nat.zero_le _, rfl, HB0, HK0, fun j hj => absurd hj (Nat.not_lt_zero _)⟩
  case round =>
    clear c4 HK0 HB0
    obtain ⟨k, hk, rfl, HW, HP, HA⟩ := hrel
    by_cases hlt : k < len
    · have hli : (k : Int) < (len : Int) := by omega
      obtain ⟨b, o, x, rfl, hg, hblt, c0, c1, c2, c3⟩ := (HX.out.below HW.out (Nat.le_refl _)).at (j := k) (by have := HL.out; omega)
      have HG : Hid (l[k]? = some x) := hg
      have hbw : w.heap.size < wr.heap.size := HP.out.lt
      obtain ⟨xk, xs, xg, xc⟩ := x
      simp only at c0 c1 c2 c3
      clear hg
      have hbe : Below wr.heap.size wr (wr.alloc (.cells #[.string xk, .int .i64 xs, .int .i64 xg, .int .i64 xc] 33)) := (Below.refl _ _).alloc (Nat.le_refl _) _
      have HBE : Hid (Below w.heap.size w (wr.alloc (.cells #[.string xk, .int .i64 xs, .int .i64 xg, .int .i64 xc] 33))) := HW.out.trans (hbe.mono HW.out.size)
      have HKE : Hid (Bk (wr.alloc (.cells #[.string xk, .int .i64 xs, .int .i64 xg, .int .i64 xc] 33)) wr.heap.size 33 #[.string xk, .int .i64 xs, .int .i64 xg, .int .i64 xc]) := Bk.new _ _ _
      have HPE : Hid (Bk (wr.alloc (.cells #[.string xk, .int .i64 xs, .int .i64 xg, .int .i64 xc] 33)) w.heap.size 29 (pgc leaf lo hi r (some ⟨b, o, none⟩) len cap)) := HP.out.alloc _
      have hen := (HX.out.below HBE.out (Nat.le_refl _))
      generalize hwe : wr.alloc (.cells #[.string xk, .int .i64 xs, .int .i64 xg, .int .i64 xc] 33) = we at HBE HKE HPE hen
      have p0 : we.cell? ⟨w.heap.size, 0, none⟩ = some (.bool leaf) := HPE.out.cell 0
      have p1 : we.cell? ⟨w.heap.size, 1, none⟩ = some (.string lo) := HPE.out.cell 1
      have p2 : we.cell? ⟨w.heap.size, 2, none⟩ = some (.string hi) := HPE.out.cell 2
      have p3 : we.cell? ⟨w.heap.size, 3, none⟩ = some (.int .i64 r) := HPE.out.cell 3
      have p4 : we.cell? ⟨w.heap.size, 4, none⟩ = some (.slice (some ⟨b, o, none⟩) len cap) := HPE.out.cell 4
      have e0 : we.cell? ⟨wr.heap.size, 0, none⟩ = some (.string xk) := HKE.out.cell 0
      have HQ : Hid (∀ n, Below w.heap.size w (we.drewN n)) := below_dn HBE.out
      have HPQ : Hid (∀ n, Bk (we.drewN n) w.heap.size 29 (pgc leaf lo hi r (some ⟨b, o, none⟩) len cap)) := HPE.out.dn
      have HKQ : Hid (∀ n, Bk (we.drewN n) wr.heap.size 33 #[.string xk, .int .i64 xs, .int .i64 xg, .int .i64 xc]) := HKE.out.dn
      cases k with
      | zero =>
        have HGd := Pg.good_first (leaf := leaf) (r := ⟨lo, hi⟩) HG.out
        have HGd : Hid _ := HGd
        clear hen
        simp only [Nat.zero_mul, Nat.add_zero] at c0 c1 c2 c3
        go_wp2_with fail
        go_quiet (fail)
        go_wp2_with fail
        refine (has_any leaf lo hi r (some ⟨b, o, none⟩) len cap _ xk).mono ?_
        rintro e w1 ⟨rfl, hb1⟩
        have HB1 : Hid (Below w.heap.size w w1) := (HQ.out nq).trans (hb1.mono (HQ.out nq).size)
        have HP1 : Hid (Bk w1 w.heap.size 29 (pgc leaf lo hi r (some ⟨b, o, none⟩) len cap)) := (HPQ.out nq).below hb1 (HPQ.out nq).lt
        have HE1 : Hid (Bk w1 wr.heap.size 33 #[.string xk, .int .i64 xs, .int .i64 xg, .int .i64 xc]) := (HKQ.out nq).below hb1 (HKQ.out nq).lt
        have g0 : w1.cell? ⟨w.heap.size, 0, none⟩ = some (.bool leaf) := HP1.out.cell 0
        have k0 : w1.cell? ⟨wr.heap.size, 0, none⟩ = some (.string xk) := HE1.out.cell 0
        have k1 : w1.cell? ⟨wr.heap.size, 1, none⟩ = some (.int .i64 xs) := HE1.out.cell 1
        have k2 : w1.cell? ⟨wr.heap.size, 2, none⟩ = some (.int .i64 xg) := HE1.out.cell 2
        have k3 : w1.cell? ⟨wr.heap.size, 3, none⟩ = some (.int .i64 xc) := HE1.out.cell 3
        clear hb1
        cases hin : Ky.inn ⟨lo, hi⟩ xk with
        | false =>
          have HF : Hid (Pg.fits leaf ⟨lo, hi⟩ l = false) := Pg.fits_not (j := 0) (by have := HL.out; omega) (by rw [HGd.out]; simp only [hin]; rfl)
          go_wp2
          go_ret
          exact ⟨by rw [HF.out]; rfl, HB1.out⟩
        | true =>
          go_wp2_with fail
          refine (kind_any leaf ⟨xk, xs, xg, xc⟩ _).mono ?_
          rintro e w2 ⟨rfl, hb2⟩
          have HB2 : Hid (Below w.heap.size w w2) := HB1.out.trans (hb2.mono HB1.out.size)
          have HP2 : Hid (Bk w2 w.heap.size 29 (pgc leaf lo hi r (some ⟨b, o, none⟩) len cap)) := HP1.out.below hb2 HP1.out.lt
          clear hb2
          cases hkd : Pg.kind leaf ⟨xk, xs, xg, xc⟩ with
          | false =>
            have HF : Hid (Pg.fits leaf ⟨lo, hi⟩ l = false) := Pg.fits_not (j := 0) (by have := HL.out; omega) (by rw [HGd.out]; simp only [hin, hkd]; rfl)
            go_wp2
            go_ret
            exact ⟨by rw [HF.out]; rfl, HB2.out⟩
          | true =>
            have HN : Hid (Pg.good leaf ⟨lo, hi⟩ l (0) = true) := by rw [Hid, HGd.out]; simp only [hin, hkd]; rfl
            go_wp2
            go_roundw
            case rel =>
              refine ⟨1, by omega, by go_num, HB2, HP2, fun j hj => ?_⟩
              by_cases hjk : j = 0
              · rw [hjk]; exact HN.out
              · exact HA.out j (by omega)
            case measure => simp [intOf]; omega
      | succ i =>
        obtain ⟨b', o', d, hp', hd, -, d0, -, -, -⟩ := hen.at (j := i) (by have := HL.out; omega)
        cases hp'
        have HGd := Pg.good_next (leaf := leaf) (r := ⟨lo, hi⟩) HG.out hd
        have HGd : Hid _ := HGd
        obtain ⟨dk, ds, dg, dc⟩ := d
        simp only at d0 HGd
        have hle := Ky.leq_iff xk.toList dk.toList
        have hi1 : (0 : Int) < ((i + 1 : Nat) : Int) := by omega
        have hi2 : ((i + 1 : Nat) : Int) - 1 = (i : Int) := by omega
        have hi3 : ((i + 1 : Nat) : Int) - 1 < (len : Int) := by omega
        have HD : Hid (l[i]? = some ⟨dk, ds, dg, dc⟩) := hd
        clear hd hen
        cases hq : Op.bytesLess dk.toList xk.toList with
        | true =>
          rw [hq] at hle
          have HGd : Hid (Pg.good leaf ⟨lo, hi⟩ l (i + 1) = (Ky.inn ⟨lo, hi⟩ xk && Pg.kind leaf ⟨xk, xs, xg, xc⟩)) := by
            rw [Hid, HGd.out]
            show (Op.bytesLess dk.toList xk.toList && _) = _
            rw [hq]; rfl
          rw [Bool.not_true, Bool.or_eq_false_iff] at hle
          obtain ⟨hle1, hle2⟩ := hle
          go_wp2_with fail
          go_quiet (fail)
          go_wp2_with fail
          refine (has_any leaf lo hi r (some ⟨b, o, none⟩) len cap _ xk).mono ?_
          rintro e w1 ⟨rfl, hb1⟩
          have HB1 : Hid (Below w.heap.size w w1) := (HQ.out nq).trans (hb1.mono (HQ.out nq).size)
          have HP1 : Hid (Bk w1 w.heap.size 29 (pgc leaf lo hi r (some ⟨b, o, none⟩) len cap)) := (HPQ.out nq).below hb1 (HPQ.out nq).lt
          have HE1 : Hid (Bk w1 wr.heap.size 33 #[.string xk, .int .i64 xs, .int .i64 xg, .int .i64 xc]) := (HKQ.out nq).below hb1 (HKQ.out nq).lt
          have g0 : w1.cell? ⟨w.heap.size, 0, none⟩ = some (.bool leaf) := HP1.out.cell 0
          have k0 : w1.cell? ⟨wr.heap.size, 0, none⟩ = some (.string xk) := HE1.out.cell 0
          have k1 : w1.cell? ⟨wr.heap.size, 1, none⟩ = some (.int .i64 xs) := HE1.out.cell 1
          have k2 : w1.cell? ⟨wr.heap.size, 2, none⟩ = some (.int .i64 xg) := HE1.out.cell 2
          have k3 : w1.cell? ⟨wr.heap.size, 3, none⟩ = some (.int .i64 xc) := HE1.out.cell 3
          clear hb1
          cases hin : Ky.inn ⟨lo, hi⟩ xk with
          | false =>
            have HF : Hid (Pg.fits leaf ⟨lo, hi⟩ l = false) := Pg.fits_not (j := i + 1) (by have := HL.out; omega) (by rw [HGd.out]; simp only [hin]; rfl)
            go_wp2
            go_ret
            exact ⟨by rw [HF.out]; rfl, HB1.out⟩
          | true =>
            go_wp2_with fail
            refine (kind_any leaf ⟨xk, xs, xg, xc⟩ _).mono ?_
            rintro e w2 ⟨rfl, hb2⟩
            have HB2 : Hid (Below w.heap.size w w2) := HB1.out.trans (hb2.mono HB1.out.size)
            have HP2 : Hid (Bk w2 w.heap.size 29 (pgc leaf lo hi r (some ⟨b, o, none⟩) len cap)) := HP1.out.below hb2 HP1.out.lt
            clear hb2
            cases hkd : Pg.kind leaf ⟨xk, xs, xg, xc⟩ with
            | false =>
              have HF : Hid (Pg.fits leaf ⟨lo, hi⟩ l = false) := Pg.fits_not (j := i + 1) (by have := HL.out; omega) (by rw [HGd.out]; simp only [hin, hkd]; rfl)
              go_wp2
              go_ret
              exact ⟨by rw [HF.out]; rfl, HB2.out⟩
            | true =>
              have HN : Hid (Pg.good leaf ⟨lo, hi⟩ l (i + 1) = true) := by rw [Hid, HGd.out]; simp only [hin, hkd]; rfl
              go_wp2
              go_roundw
              case rel =>
                refine ⟨(i + 1) + 1, by omega, by go_num, HB2, HP2, fun j hj => ?_⟩
                by_cases hjk : j = i + 1
                · rw [hjk]; exact HN.out
                · exact HA.out j (by omega)
              case measure => simp [intOf]; omega
        | false =>
          rw [hq] at hle
          have HF : Hid (Pg.fits leaf ⟨lo, hi⟩ l = false) := by
            refine Pg.fits_not (j := i + 1) (by have := HL.out; omega) ?_
            rw [HGd.out]
            show (Op.bytesLess dk.toList xk.toList && _) = _
            rw [hq]; rfl
          go_wp2_with fail
          go_quiet (fail)
          go_wp2
          go_ret
          exact ⟨by rw [HF.out]; rfl, HQ.out _⟩
    · have hkk : k = len := by omega
      have hli : ¬ ((k : Int) < (len : Int)) := by omega
      have HF : Hid (Pg.fits leaf ⟨lo, hi⟩ l = true) := Pg.fits_all (fun j hj => HA.out j (by have := HL.out; omega))
      go_wp2
      go_ret
      exact ⟨by rw [HF.out]; rfl, HW.out⟩

end Go.Proofs.YtoehlgigidgfpaaGreat
