/- Trees of greatest numbers in memory: half, at, set, first, newPeaks. -/
import Derived.Test.YtlcbideongbmeaaGreatDrP
import Derived.Handy
import Derived.BigQuiet
import Derived.Laws.OwnMore
import Derived.Tactics2
import Derived.WalkSmall
import Derived.Deep.LoopGhost
namespace Go.Proofs.YtlcbideongbmeaaGreat
open Go.RowKit
set_option linter.unusedVariables false
set_option maxRecDepth 100000

/-- Numbers as cells. -/
def ints (l : List Int) : List Value := l.map (Value.int .i64)

theorem ints_length (l : List Int) : (ints l).length = l.length := by simp [ints]

/-- A row of numbers in memory. -/
def Ir (w : World) (base : Nat) (v : Value) (l : List Int) : Prop := w.ownsRow base 3 1 v l.length (ints l)

theorem tn_grown {W W' : World} {row : Option Nat} (hg : W.grownBy W' row) : Tn row.toList W W' :=
  ⟨hg.os, hg.tape, hg.output, hg.size, fun k hk hn => hg.block k hk (fun e => hn (by rw [← e]; simp))⟩

theorem row_tn {S : List Nat} {w w' : World} {base size n : Nat} {e : TypeId} {v : Value} {xs : List Value} (h : w.ownsRow base e size v n xs) (ht : Tn S w w') (hn : ∀ k, v.ownBlock = some k → k ∉ S) : w'.ownsRow base e size v n xs := by
  refine ⟨h.1, ?_⟩
  rcases h.2 with hv | ⟨g, cap, cur, rfl, hb, hgg, rest⟩
  · exact .inl hv
  · exact .inr ⟨g, cap, cur, rfl, hb, (ht.block g (Array.getElem?_eq_some_iff.1 hgg).1 (hn g rfl)).trans hgg, rest⟩

theorem Ir.cell {w : World} {base g c : Nat} {l : List Int} {n : Nat} (hn : l.length = n) (h : Ir w base (.slice (some ⟨g, 0, none⟩) n c) l) (i : Nat) (hi : i < n) : w.cell? ⟨g, i, none⟩ = some (.int .i64 (Pk.at' l i)) := by
  subst hn
  have := World.ownsRow.cellAt h i (by omega)
  rw [this]
  simp [ints, Pk.at', List.getD, hi]

theorem Ir.frozen {w : World} {base g c n : Nat} {l : List Int} (hn : l.length = n) (h : Ir w base (.slice (some ⟨g, 0, none⟩) n c) l) (i : Nat) : w.frozen? ⟨g, i, none⟩ = false := by
  subst hn
  exact World.ownsRow.frozenAt h i

theorem Ir.set {w : World} {base g c n : Nat} {l : List Int} (hn : l.length = n) (h : Ir w base (.slice (some ⟨g, 0, none⟩) n c) l) (i : Nat) (x : Int) : Ir (w.setCell ⟨g, i, none⟩ (.int .i64 x)) base (.slice (some ⟨g, 0, none⟩) n c) (l.set i x) ∧ Tn [g] w (w.setCell ⟨g, i, none⟩ (.int .i64 x)) := by
  subst hn
  have := World.ownsRow.stored h i (.int .i64 x)
  refine ⟨?_, tn_grown this.2⟩
  have h1 := this.1
  unfold Ir
  rw [show ints (l.set i x) = (ints l).set i (.int .i64 x) by simp [ints, List.map_set], List.length_set]
  exact h1

theorem Ir.tn {S : List Nat} {w w' : World} {base : Nat} {v : Value} {l : List Int} (h : Ir w base v l) (ht : Tn S w w') (hn : ∀ k, v.ownBlock = some k → k ∉ S) : Ir w' base v l := row_tn h ht hn

theorem half_any (p : Option Addr) (n H c : Nat) (w : World) (hn : n = 2 * H) (hb : n ≤ 35184372088832) :
    Calls Tryz.prog 123 #[.slice p n c] w fun e w' => e = .returned (.int .i64 (H : Int)) ∧ w' = w := by
  have hh : (n : Int).tdiv 2 = (H : Int) := by
    rw [hn]
    have : ((2 * H : Nat) : Int) = (H : Int) * 2 := by omega
    rw [this]
    exact Int.mul_tdiv_cancel _ (by decide)
  have hHb : H ≤ 17592186044416 := by omega
  clear hn
  go_enter Tryz.func123, Tryz.ntmps123
  go_wp2
  go_ret
  exact ⟨rfl, rfl⟩

theorem half_div (n : Nat) : (n : Int).tdiv 2 = ((n / 2 : Nat) : Int) := by rfl

set_option maxHeartbeats 2000000 in
theorem pset_any {w : World} {base g c n : Nat} {t : List Int} {D : Nat} {xs : Nat → Int} (h : Ir w base (.slice (some ⟨g, 0, none⟩) n c) t) (hn : t.length = n) (hI : Pk.Is t D xs) (hb : n ≤ 35184372088832) (i : Nat) (hi : i < 2 ^ D) (x : Int) :
    Calls Tryz.prog 98 #[.slice (some ⟨g, 0, none⟩) n c, .int .i64 (i : Int), .int .i64 x] w fun e w' => e = .returned (.tuple #[]) ∧ ∃ t', Ir w' base (.slice (some ⟨g, 0, none⟩) n c) t' ∧ t'.length = n ∧ Pk.Is t' D (Pk.upd xs i x) ∧ Tn [g] w w' := by
  have hl := hI.len
  have HX := Pk.Half.start hI hi x
  obtain ⟨H, hH⟩ : ∃ H, 2 ^ D = H := ⟨_, rfl⟩
  rw [hH] at hl HX hi
  have hn2 : n = 2 * H := by omega
  have f0 : w.frozen? ⟨g, H + i, none⟩ = false := h.frozen hn _
  have c0 := h.cell hn (H + i) (by omega)
  have hset := h.set hn (H + i) x
  obtain ⟨w1, hw1⟩ : ∃ w1, w.setCell ⟨g, H + i, none⟩ (.int .i64 x) = w1 := ⟨_, rfl⟩
  rw [hw1] at hset
  have HS : Hid (∃ t', Ir w1 base (.slice (some ⟨g, 0, none⟩) n c) t' ∧ t'.length = n ∧ Pk.Half t' D (Pk.upd xs i x) (H + i) ∧ Tn [g] w w1) := ⟨_, hset.1, by simpa using hn, HX, hset.2⟩
  have HN : Hid (n = 2 * H) := hn2
  have HD : Hid (2 ^ D = H) := hH
  have hhn : ((H : Int) + (i : Int)) < (n : Int) := by omega
  have hh0 : (0 : Int) ≤ ((H : Int) + (i : Int)) := by omega
  have hto : ((H : Int) + (i : Int)).toNat = H + i := by omega
  have hHb : H ≤ 17592186044416 := by omega
  have hib : i ≤ 17592186044416 := by omega
  clear hset HX hI hn h hH hl hn2
  generalize Pk.at' t (H + i) = y0 at *
  go_enter Tryz.func98, Tryz.ntmps98
  go_wp2_with fail
  refine (half_any _ n H c w HN.out hb).mono ?_
  rintro e w' ⟨rfl, rfl⟩
  go_wp2_with fail
  go_loopw [6] (fun jv wr => ∃ k : Nat, jv = .int .i64 (k : Int) ∧ Hid (∃ t', Ir wr base (.slice (some ⟨g, 0, none⟩) n c) t' ∧ t'.length = n ∧ Pk.Half t' D (Pk.upd xs i x) k ∧ Tn [g] w' wr)) (fun jv _ => (intOf jv).toNat)
  case atStart => exact ⟨H + i, by go_num, HS⟩
  case round =>
    obtain ⟨k, rfl, HW⟩ := hrel
    clear HS hw1 c0 f0
    obtain ⟨t', h1, hl1, hX, ht⟩ := HW.out
    have hk1 := hX.ge
    have hk2 := hX.lt
    rw [HD.out, ← HN.out] at hk2
    by_cases h0 : k = 1
    · subst h0
      have HE : Hid (Pk.Is t' D (Pk.upd xs i x)) := hX.done
      have HG : Hid (Ir wr base (.slice (some ⟨g, 0, none⟩) n c) t' ∧ t'.length = n ∧ Tn [g] w' wr) := ⟨h1, hl1, ht⟩
      clear h1 hl1 ht hX HW
      go_wp2
      go_end0
      exact ⟨rfl, t', HG.out.1, HG.out.2.1, HE.out, HG.out.2.2⟩
    · have hk3 : (1 : Int) < (k : Int) := by omega
      have hs := hX.step (by omega)
      obtain ⟨p, hp⟩ : ∃ p : Nat, k / 2 = p := ⟨_, rfl⟩
      have hdiv : (k : Int).tdiv 2 = (p : Int) := by rw [half_div, hp]
      have hpk : p < k := by omega
      have hp1 : 1 ≤ p := by omega
      have hp2 : 2 * p + 1 < n := by have := HN.out; omega
      rw [hp] at hs
      have c1 := h1.cell hl1 (2 * p) (by omega)
      have c2 := h1.cell hl1 (2 * p + 1) (by omega)
      have c3 := h1.cell hl1 p (by omega)
      have f3 : wr.frozen? ⟨g, p, none⟩ = false := h1.frozen hl1 p
      have h2 := h1.set hl1 p (max (Pk.at' t' (2 * p)) (Pk.at' t' (2 * p + 1)))
      obtain ⟨a, ha⟩ : ∃ a, Pk.at' t' (2 * p) = a := ⟨_, rfl⟩
      obtain ⟨b, hb'⟩ : ∃ b, Pk.at' t' (2 * p + 1) = b := ⟨_, rfl⟩
      obtain ⟨m, hm⟩ : ∃ m, max a b = m := ⟨_, rfl⟩
      rw [ha, hb', hm] at hs h2
      rw [ha] at c1
      rw [hb'] at c2
      obtain ⟨w2, hw2⟩ : ∃ w2, wr.setCell ⟨g, p, none⟩ (.int .i64 m) = w2 := ⟨_, rfl⟩
      rw [hw2] at h2
      have HS2 : Hid (∃ t', Ir w2.drew base (.slice (some ⟨g, 0, none⟩) n c) t' ∧ t'.length = n ∧ Pk.Half t' D (Pk.upd xs i x) p ∧ Tn [g] w' w2.drew) := ⟨_, World.ownsRow.drew h2.1, by simpa using hl1, hs, (ht.trans h2.2 (fun x hx => .inl hx)).drew⟩
      have hpn : (p : Int) < (n : Int) := by omega
      have hp0 : (0 : Int) ≤ (p : Int) := by omega
      have hq0 : (0 : Int) ≤ 2 * (p : Int) := by omega
      have hqn : 2 * (p : Int) < (n : Int) := by omega
      have hr0 : (0 : Int) ≤ 2 * (p : Int) + 1 := by omega
      have hrn : 2 * (p : Int) + 1 < (n : Int) := by omega
      have t1 : (2 * (p : Int)).toNat = 2 * p := by omega
      have t2 : (2 * (p : Int) + 1).toNat = 2 * p + 1 := by omega
      clear h1 h2 hl1 ht hX HW hs ha hb' hp
      generalize Pk.at' t' p = y at *
      have hmx : (if b > a then b else a) = m := by rw [← hm]; split <;> omega
      clear hm
      go_wp2_with fail
      go_region
      go_wp2
      exact ⟨⟨p, rfl, HS2⟩, by simp [intOf]; omega⟩

theorem pat_any {w : World} {base g c n : Nat} {t : List Int} {D : Nat} {xs : Nat → Int} (h : Ir w base (.slice (some ⟨g, 0, none⟩) n c) t) (hn : t.length = n) (hI : Pk.Is t D xs) (hb : n ≤ 35184372088832) (i : Nat) (hi : i < 2 ^ D) :
    Calls Tryz.prog 100 #[.slice (some ⟨g, 0, none⟩) n c, .int .i64 (i : Int)] w fun e w' => e = .returned (.int .i64 (xs i)) ∧ w' = w := by
  have hl := hI.len
  have hx := hI.leaf i hi
  obtain ⟨H, hH⟩ : ∃ H, 2 ^ D = H := ⟨_, rfl⟩
  rw [hH] at hl hx hi
  have c0 := h.cell hn (H + i) (by omega)
  rw [hx] at c0
  have HN : Hid (n = 2 * H) := by rw [Hid]; omega
  have hhn : ((H : Int) + (i : Int)) < (n : Int) := by omega
  have hh0 : (0 : Int) ≤ ((H : Int) + (i : Int)) := by omega
  have hto : ((H : Int) + (i : Int)).toNat = H + i := by omega
  have hHb : H ≤ 17592186044416 := by omega
  have hib : i ≤ 17592186044416 := by omega
  generalize xs i = y at *
  clear h hI hx hn hl hH
  go_enter Tryz.func100, Tryz.ntmps100
  go_wp2_with fail
  refine (half_any _ n H c w HN.out hb).mono ?_
  rintro e w' ⟨rfl, rfl⟩
  go_wp2
  go_ret
  exact ⟨rfl, rfl⟩

set_option maxHeartbeats 2000000 in
theorem pfirst_any {w : World} {base g c n : Nat} {t : List Int} {D : Nat} {xs : Nat → Int} (h : Ir w base (.slice (some ⟨g, 0, none⟩) n c) t) (hn : t.length = n) (hI : Pk.Is t D xs) (hb : n ≤ 35184372088832) (f P : Nat) (a : Int) (hf : f ≤ P) (hP : P < 2 ^ D) (hx : a < xs P) :
    Calls Tryz.prog 103 #[.slice (some ⟨g, 0, none⟩) n c, .int .i64 (f : Int), .int .i64 a] w fun e w' => (∃ r : Nat, e = .returned (.int .i64 (r : Int)) ∧ Pk.Fst xs f a r ∧ r ≤ P) ∧ w' = w := by
  have hl := hI.len
  have HA : Hid (∃ E k j, Pk.At D xs f P a (2 ^ D + f) E k j ∧ P - j * 2 ^ k ≤ P) := ⟨_, _, _, Pk.At.start hf hP, by omega⟩
  obtain ⟨H, hH⟩ : ∃ H, 2 ^ D = H := ⟨_, rfl⟩
  rw [hH] at hl HA hP
  have HC : Hid (∀ m, m < n → w.cell? ⟨g, m, none⟩ = some (.int .i64 (Pk.at' t m))) := fun m hm => h.cell hn m hm
  have HN : Hid (n = 2 * H) := by rw [Hid]; omega
  have HD : Hid (2 ^ D = H) := hH
  have HI : Hid (Pk.Is t D xs) := hI
  have HP : Hid (P < 2 ^ D) := by rw [Hid, hH]; exact hP
  have HX : Hid (a < xs P) := hx
  have hfb : f ≤ 17592186044416 := by omega
  have hHb : H ≤ 17592186044416 := by omega
  clear h hI hn hl hH hx
  go_enter Tryz.func103, Tryz.ntmps103
  go_wp2_with fail
  refine (half_any _ n H c w HN.out hb).mono ?_
  rintro e w' ⟨rfl, rfl⟩
  go_wp2_with fail
  go_loopg [7] P (fun gh nv wr => ∃ m : Nat, nv = .int .i64 (m : Int) ∧ wr = w' ∧ Hid (∃ E k j, Pk.At D xs f P a m E k j ∧ P - j * 2 ^ k ≤ gh))
  case atStart => exact ⟨H + f, by go_num, rfl, HA⟩
  case round =>
    obtain ⟨m, rfl, rfl, HW⟩ := hrel
    obtain ⟨E, k, j, hA, hg⟩ := HW.out
    have hm1 := hA.small
    rw [HD.out, ← HN.out] at hm1
    obtain ⟨hm1, hm2⟩ := hm1
    have c0 := HC.out m hm2
    have hmn : (m : Int) < (n : Int) := by omega
    have hm0 : (0 : Int) ≤ (m : Int) := by omega
    by_cases hle : Pk.at' t m ≤ a
    · have hnx := hA.next HI.out HP.out HX.out hle
      have hpos : j * 2 ^ k < P := by
        have := hnx.1.le
        omega
      have HB : Hid (∃ E k j, Pk.At D xs f P a (m + 1) E k j ∧ P - j * 2 ^ k < gk) := ⟨E, k, j + 1, hnx.1, by have := hnx.2; omega⟩
      generalize Pk.at' t m = y at *
      clear hA hnx hpos HW
      go_wp2_with fail
      go_loopw [7] (fun nv wx => ∃ q : Nat, nv = .int .i64 (q : Int) ∧ wx = wr ∧ Hid (∃ E k j, Pk.At D xs f P a q E k j ∧ P - j * 2 ^ k < gk)) (fun nv _ => (intOf nv).toNat)
      case atStart => exact ⟨m + 1, by go_num, rfl, HB⟩
      case round =>
        obtain ⟨q, rfl, rfl, HV⟩ := hrel
        obtain ⟨E, k, j, hA, hg2⟩ := HV.out
        have hq1 := hA.small
        rw [HD.out, ← HN.out] at hq1
        obtain ⟨hq1, hq2⟩ := hq1
        by_cases he : q % 2 = 0
        · have hr : (q : Int).tmod 2 = 0 := by
            have : (q : Int).tmod 2 = ((q % 2 : Nat) : Int) := rfl
            rw [this, he]; rfl
          obtain ⟨E', j', hA', e'⟩ := hA.up he
          obtain ⟨p, hp⟩ : ∃ p : Nat, q / 2 = p := ⟨_, rfl⟩
          have hdiv : (q : Int).tdiv 2 = (p : Int) := by rw [half_div, hp]
          have hpq : p < q := by omega
          have HV2 : Hid (∃ E k j, Pk.At D xs f P a p E k j ∧ P - j * 2 ^ k < gk) := ⟨_, _, _, by rw [← hp]; exact hA', by rw [e']; exact hg2⟩
          clear hA hA' hp HV
          go_wp2
          exact ⟨⟨p, rfl, trivial, HV2⟩, by simp [intOf]; omega⟩
        · have hr : (q : Int).tmod 2 = 1 := by
            have : (q : Int).tmod 2 = ((q % 2 : Nat) : Int) := rfl
            rw [this, show q % 2 = 1 by omega]; rfl
          clear hA
          go_wp2
          go_roundg (gk - 1)
          case rel => exact ⟨q, rfl, rfl, by obtain ⟨E, k, j, h1, h2⟩ := HV.out; exact ⟨E, k, j, h1, by omega⟩⟩
          case measure => omega
    · have HB : Hid (∃ E k j, Pk.At D xs f P a m E k j ∧ a < Pk.at' t m) := ⟨E, k, j, hA, by omega⟩
      have hlt : ¬ Pk.at' t m ≤ a := hle
      obtain ⟨y, hy⟩ : ∃ y, Pk.at' t m = y := ⟨_, rfl⟩
      rw [hy] at c0 hlt
      clear hA HW hy hle
      go_wp2_with fail
      go_loopw [7] (fun nv wx => ∃ q : Nat, nv = .int .i64 (q : Int) ∧ wx = wr ∧ Hid (∃ E k j, Pk.At D xs f P a q E k j ∧ a < Pk.at' t q)) (fun nv _ => n - (intOf nv).toNat)
      case atStart => exact ⟨m, rfl, rfl, by rw [Hid]; exact HB.out⟩
      case round =>
        obtain ⟨q, rfl, rfl, HV⟩ := hrel
        obtain ⟨E, k, j, hA, hg2⟩ := HV.out
        have hq1 := hA.small
        rw [HD.out, ← HN.out] at hq1
        obtain ⟨hq1, hq2⟩ := hq1
        clear c0
        go_wp2_with fail
        refine (half_any _ n H c wr HN.out hb).mono ?_
        rintro e w' ⟨rfl, rfl⟩
        by_cases he : q < H
        · have hqH : (q : Int) < (H : Int) := by omega
          have hn2 := HN.out
          have c1 := HC.out (2 * q) (by omega)
          have hk : ∃ k', k = k' + 1 := by
            cases k with
            | zero =>
              have h1 := hA.node
              have h2 := hA.lev
              simp only [Nat.add_zero] at h2
              rw [h2, HD.out] at h1
              omega
            | succ k => exact ⟨k, rfl⟩
          obtain ⟨k, rfl⟩ := hk
          obtain ⟨d1, d2⟩ := hA.down HI.out HP.out HX.out hg2
          have hq0 : (0 : Int) ≤ (q : Int) * 2 := by omega
          have hqn : (q : Int) * 2 < (n : Int) := by omega
          have t1 : ((q : Int) * 2).toNat = 2 * q := by omega
          by_cases hc : Pk.at' t (2 * q) ≤ a
          · have HV2 : Hid (∃ E k j, Pk.At D xs f P a (2 * q + 1) E k j ∧ a < Pk.at' t (2 * q + 1)) := ⟨_, _, _, d2 hc⟩
            generalize Pk.at' t (2 * q) = z at *
            clear hA d1 d2 HV hg2 hn2
            go_wp2
            exact ⟨⟨2 * q + 1, by go_num, trivial, HV2⟩, by simp [intOf]; omega⟩
          · have HV2 : Hid (∃ E k j, Pk.At D xs f P a (2 * q) E k j ∧ a < Pk.at' t (2 * q)) := ⟨_, _, _, d1 (by omega), by omega⟩
            obtain ⟨z, hz⟩ : ∃ z, Pk.at' t (2 * q) = z := ⟨_, rfl⟩
            rw [hz] at hc c1
            clear hA d1 d2 HV hg2 hn2 hz
            go_wp2
            exact ⟨⟨2 * q, by go_num, trivial, HV2⟩, by simp [intOf]; omega⟩
        · have hqH : ¬ (q : Int) < (H : Int) := by omega
          obtain ⟨rfl, hqe, hF, hjP⟩ := hA.done HI.out (by rw [HD.out]; omega) hg2
          rw [HD.out] at hqe
          have HF : Hid (Pk.Fst xs f a j ∧ j ≤ P) := ⟨hF, hjP⟩
          have hsub : (q : Int) - (H : Int) = (j : Int) := by omega
          have hjb : j ≤ 17592186044416 := by omega
          clear hA hF HV hg2
          go_wp2_with fail
          refine (half_any _ n H c w' HN.out hb).mono ?_
          rintro e w2 ⟨rfl, rfl⟩
          go_wp2
          go_ret
          exact ⟨⟨j, ret_int (by omega), HF.out.1, HF.out.2⟩, rfl⟩
end Go.Proofs.YtlcbideongbmeaaGreat
