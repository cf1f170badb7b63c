/- A page that was retired loads no head, and is not given, until it was released. -/
import Derived.Test.YtnjafmjkaajbkaaDoorTbGn
import Derived.Test.YtnjafmjkaajbkaaDoorTbOw
import Derived.Test.YtnjafmjkaajbkaaDoorTbBg
import Derived.Test.YtnjafmjkaajbkaaDoorTbEq
namespace Go.Proofs.YtnjafmjkaajbkaaDoor
open Go.ChangeShapes Go.WideShapes Go.ChangeAt Go.RowKit
open Go.ChangeMaps (open_string shut_string)
set_option linter.unusedVariables false
set_option maxRecDepth 100000

section
variable {w W : World} {B : Nat} {bs : List Nat} {t t' : Tb} {n Mg Ml : Nat} {F : Nat → Option Bool} {L : Nat → Option (Int × Int)}
/-- What the maps say in a table's words. -/
theorem Gs.lookL (h : Gs w W B bs t' n Mg Ml F (fl t)) (ho : t.Ok) (hs : t.size = n) (q : Int) (hq : (Lit.int .i64 q).wf = true) : (Instr.lookup 41 (.map (some Ml)) (.int .i64 q) true).run Tryd.prog W = .ok (.tuple #[hv ((t.pg q).hd.getD (0, 0)), .bool (t.pg q).hd.isSome]) W := by
  have := h.ml.look hReads Tryd.underlying41 (hZero W) q hq
  rwa [← hs, get_fl ho] at this
theorem Gs.lookL_live (h : Gs w W B bs t' n Mg Ml F (fl t)) (ho : t.Ok) (hs : t.size = n) {q : Int} (hq : (Lit.int .i64 q).wf = true) {c : Nat} {x : Int × Int} {m : Int} (hp : t.pg q = Pa.live c x m) : (Instr.lookup 41 (.map (some Ml)) (.int .i64 q) true).run Tryd.prog W = .ok (.tuple #[.agg #[.int .i64 x.1, .int .i64 x.2], .bool true]) W := by
  have := h.lookL ho hs q hq
  rwa [hp] at this
theorem Gs.lookL_none (h : Gs w W B bs t' n Mg Ml F (fl t)) (ho : t.Ok) (hs : t.size = n) {q : Int} (hq : (Lit.int .i64 q).wf = true) (hp : (t.pg q).st ≠ 1) {z : Int × Int} (hz : z = (0, 0)) : (Instr.lookup 41 (.map (some Ml)) (.int .i64 q) true).run Tryd.prog W = .ok (.tuple #[.agg #[.int .i64 z.1, .int .i64 z.2], .bool false]) W := by
  subst hz
  have := h.lookL ho hs q hq
  rwa [(Pa.hd_st _).1.2 hp] at this
theorem Gs.lookG (h : Gs w W B bs t' n Mg Ml (fg t) L) (ho : t.Ok) (hs : t.size = n) (q : Int) (hq : (Lit.int .i64 q).wf = true) : (Instr.lookup 40 (.map (some Mg)) (.int .i64 q) false).run Tryd.prog W = .ok (.bool ((isG (t.pg q)).getD false)) W := by
  have := h.mg.look1 bReads Tryd.underlying40 (bZero W) q hq
  rwa [← hs, get_fg ho] at this
theorem Gs.lookG_none (h : Gs w W B bs t' n Mg Ml (fg t) L) (ho : t.Ok) (hs : t.size = n) {q : Int} (hq : (Lit.int .i64 q).wf = true) (hp : (t.pg q).st ≠ 2) : (Instr.lookup 40 (.map (some Mg)) (.int .i64 q) false).run Tryd.prog W = .ok (.bool false) W := by
  have := h.lookG ho hs q hq
  simpa [isG, hp] using this
theorem Gs.lookG_gone (h : Gs w W B bs t' n Mg Ml (fg t) L) (ho : t.Ok) (hs : t.size = n) {q : Int} (hq : (Lit.int .i64 q).wf = true) (hp : (t.pg q).st = 2) : (Instr.lookup 40 (.map (some Mg)) (.int .i64 q) false).run Tryd.prog W = .ok (.bool true) W := by
  have := h.lookG ho hs q hq
  simpa [isG, hp] using this
theorem tLoad_none' (h : Tbn W B bs t) {p : Int} (hp : (t.pg p).st ≠ 1) {z : Int × Int} (hz : z = (0, 0)) : Calls Tryd.prog 18 #[.pointer (some ⟨B, 0, none⟩), .int .i64 p] W fun e w' => e = .returned (.tuple #[hv z, .int .i64 4]) ∧ Below W.heap.size W w' := by
  subst hz
  exact tLoad_none h hp
theorem Gs.lens (h : Gs w W B bs t n Mg Ml (fg t) (fl t)) : ∃ nl ng : Nat, (∀ ty W', Below W.heap.size W W' → (Builtin.len_ #[41] ty #[.map (some Ml)]).run Tryd.prog W' = .ok (.int .i64 (nl : Int)) W') ∧ (∀ ty W', Below W.heap.size W W' → (Builtin.len_ #[40] ty #[.map (some Mg)]).run Tryd.prog W' = .ok (.int .i64 (ng : Int)) W') ∧ ng = t.gone ∧ ((t.us.length : Nat) : Int) - (t.many : Int) - (t.gone : Int) = (nl : Int) ∧ nl + ng ≤ 65536 ∧ ((∀ q : Nat, q < t.size → t.pg q ≠ Pa.free) → nl + ng = n) := by
  have ho := h.tb.ok
  have e1 := live_len ho
  have e2 := gone_len ho
  have e3 := many_live t.us
  have e4 := ho.le
  have e5 := ho.s2
  have e6 := h.size
  refine ⟨(lv t.us t.us.length).length, t.gone, fun ty W' hb => ?_, fun ty W' hb => ?_, rfl, ?_, ?_, fun hf => ?_⟩
  · have := (h.ml.below hb).len Tryd.underlying41 ty
    rwa [← e6, e1] at this
  · have := (h.mg.below hb).len Tryd.underlying40 ty
    rwa [← e6, e2] at this
  · unfold Tb.many Tb.gone
    omega
  · unfold Tb.gone
    omega
  · obtain ⟨k1, k2⟩ := ho.full hf
    unfold Tb.many at k2
    unfold Tb.gone
    omega
end

set_option maxHeartbeats 16000000 in
theorem walk_tableGone (a0 : Int) (p : Option Addr) (len cap : Nat) (l : List Top) (w : World) (h0 : (Lit.int IntKind.u8 a0).wf = true) (hin : InW w p len cap l) (hT : Tab w) :
    Calls Tryd.prog 4 #[.int .u8 a0, .slice p len cap] w fun e w' => e = .returned (.bool true) ∧ Below w.heap.size w w' := by
  have HI : Hid (InW w p len cap l) := hin
  have HTB : Hid (Tab w) := hT
  have hlen : len ≤ 2932031007401 := Nat.le_trans hin.le hin.room
  have hb : 0 ≤ a0 ∧ a0 ≤ 255 := by
    simp only [Lit.wf, Bool.and_eq_true, decide_eq_true_eq] at h0
    exact ⟨h0.1, h0.2⟩
  clear hin hT h0
  obtain ⟨z, HZ⟩ : ∃ z : Int × Int, Hid (z = (0, 0)) := ⟨(0, 0), (rfl : ((0, 0) : Int × Int) = (0, 0))⟩
  go_enter Tryd.func4, Tryd.ntmps4
  go_wp2_with fail
  obtain ⟨n, hn⟩ : ∃ n : Nat, a0 % 12 + 1 = (n : Int) := ⟨(a0 % 12 + 1).toNat, by omega⟩
  have hn1 : 1 ≤ n := by omega
  have hn2 : n ≤ 12 := by omega
  rw [hn]
  clear hn
  refine (tNew n hn1 (by omega) w).mono ?_
  rintro e w1 ⟨rfl, hE1, hb1⟩
  have HE1 : Hid (Tbn w1 w.heap.size [w.heap.size] ⟨n, [], [], 0⟩ ∧ Below w.heap.size w w1) := ⟨hE1, hb1⟩
  clear hE1 hb1
  go_wp2_with fail
  refine (begun_any _).mono ?_
  rintro e w3 ⟨rfl, hb3⟩
  obtain ⟨w4, hw4⟩ : ∃ w4, w3.alloc (.map #[] 0) = w4 := ⟨_, rfl⟩
  obtain ⟨w5, hw5⟩ : ∃ w5, w4.alloc (.map #[] 0) = w5 := ⟨_, rfl⟩
  have HG0 : Hid (Gs w w5 w.heap.size [w.heap.size] ⟨n, [], [], 0⟩ n w3.heap.size w4.heap.size (fg ⟨n, [], [], 0⟩) (fl ⟨n, [], [], 0⟩)) := by
    obtain ⟨hE1, hb1⟩ := HE1.out
    have hs1 := hb1.size
    have hs3 := hb3.size
    have b4 : Below w3.heap.size w3 w4 := by rw [← hw4]; exact (Below.refl _ _).alloc (Nat.le_refl _) _
    have b5 : Below w4.heap.size w4 w5 := by rw [← hw5]; exact (Below.refl _ _).alloc (Nat.le_refl _) _
    have hs4 : w4.heap.size = w3.heap.size + 1 := by rw [← hw4]; simp
    have bb : Below w1.heap.size w1 w5 := (hb3.trans (b4.mono hs3)).trans (b5.mono (by omega))
    have bw : Below w.heap.size w w5 := hb1.trans (bb.mono hs1)
    have eg : fg ⟨n, [], [], 0⟩ = fun _ => none := by funext j; rw [fg_nat]; simp [isG, Pa.st]
    have el : fl ⟨n, [], [], 0⟩ = fun _ => none := by funext j; rw [fl_nat]; simp [Pa.hd]
    have m1 : Mp bElem w4 w3.heap.size n (fun _ => none) := by rw [← hw4]; exact Mp.new _ _ _
    have m2 : Mp hElem w5 w4.heap.size n (fun _ => none) := by rw [← hw5]; exact Mp.new _ _ _
    refine ⟨hE1.below bb, rfl, HTB.out.below bw, by rw [eg]; exact m1.below b5, by rw [el]; exact m2, by omega, bw, fun b hm => ?_, HTB.out.lt⟩
    simp at hm
    omega
  clear hb3 HE1
  obtain ⟨Mg, hMg⟩ : ∃ Mg, w3.heap.size = Mg := ⟨_, rfl⟩
  obtain ⟨Ml, hMl⟩ : ∃ Ml, w4.heap.size = Ml := ⟨_, rfl⟩
  rw [hMg, hMl] at HG0
  have hmm := @run_makeMap Tryd.prog
  go_wp2_with fail
  clear hmm
  clear hMg hMl hw4 hw5
  go_loopw [50] (fun iv wr => ∃ (j : Nat) (bs : List Nat) (t : Tb), j ≤ len ∧ iv = .int .i64 j ∧ Hid (Gs w wr w.heap.size bs t n Mg Ml (fg t) (fl t))) (fun iv _ => len - (intOf iv).toNat)
  case atStart => exact ⟨0, _, _, Nat.zero_le _, rfl, HG0⟩
  case round =>
    obtain ⟨j, bs, t, hj, rfl, HG⟩ := hrel
    clear HG0
    by_cases hlt : j < len
    · have hli : (j : Int) < (len : Int) := by omega
      obtain ⟨b, o, g, rfl, hwf, c0, c1, c2, c3, c4, c5⟩ := InW.at6 (HI.out.up HG.out.below) hlt
      obtain ⟨dd, page, ⟨wa, wb⟩, ⟨ia, ib⟩⟩ := g
      simp only at hwf c0 c1 c2 c3 c4 c5
      have HWF : Hid ((Lit.int .i64 page).wf = true) := hwf
      clear hwf
      obtain ⟨wo, hwo⟩ : ∃ wo, wr.alloc (.cells #[.int .i64 dd, .int .i64 page, .int .i64 wa, .int .i64 wb, .int .i64 ia, .int .i64 ib] 34) = wo := ⟨_, rfl⟩
      have hbo : Below wr.heap.size wr wo := by rw [← hwo]; exact (Below.refl _ _).alloc (Nat.le_refl _) _
      have hko : Bk wo wr.heap.size 34 #[.int .i64 dd, .int .i64 page, .int .i64 wa, .int .i64 wb, .int .i64 ia, .int .i64 ib] := by rw [← hwo]; exact Bk.new _ _ _
      have HGO : Hid (Gs w wo w.heap.size bs t n Mg Ml (fg t) (fl t)) := HG.out.still hbo
      have HD : Hid (wr.heap.size ∉ bs) := fun hm => by have := HG.out.tb.lt _ hm; omega
      have HKO : Hid (Bk wo wr.heap.size 34 #[.int .i64 dd, .int .i64 page, .int .i64 wa, .int .i64 wb, .int .i64 ia, .int .i64 ib]) := hko
      have d0 : wo.cell? ⟨wr.heap.size, 0, none⟩ = some (.int .i64 dd) := hko.cell 0
      have d1 : wo.cell? ⟨wr.heap.size, 1, none⟩ = some (.int .i64 page) := hko.cell 1
      have d2 : wo.cell? ⟨wr.heap.size, 2, none⟩ = some (.int .i64 wa) := hko.cell 2
      have d3 : wo.cell? ⟨wr.heap.size, 3, none⟩ = some (.int .i64 wb) := hko.cell 3
      have d4 : wo.cell? ⟨wr.heap.size, 4, none⟩ = some (.int .i64 ia) := hko.cell 4
      have d5 : wo.cell? ⟨wr.heap.size, 5, none⟩ = some (.int .i64 ib) := hko.cell 5
      clear hbo hko HG
      by_cases dd0 : dd = 0
      · subst dd0
        by_cases hb0 : ((ia, ib) : Int × Int) = (0, 0)
        · have HB0 : Hid (((ia, ib) : Int × Int) = (0, 0)) := hb0
          clear hb0
          as_aux_lemma =>
            go_wp2_with fail
            have hal := tAlloc_arg HGO.out.tb
            rw [← HB0.out] at hal
            refine hal.mono ?_
            rintro e w2 ⟨rfl, hb2⟩
            have HG2 : Hid (Gs w w2 w.heap.size bs t n Mg Ml (fg t) (fl t)) := HGO.out.still hb2
            clear hb2 hal
            have HGI : Hid (Gs w w2 w.heap.size bs t n Mg Ml (fg t) (fl t)) := HG2
            clear HGO HKO HD
            go_wp2_with fail
            go_loopw [181] (fun kv wv => ∃ k : Nat, k ≤ n ∧ kv = .int .i64 k ∧ Hid (Gs w wv w.heap.size bs t n Mg Ml (fg t) (fl t))) (fun kv _ => n - (intOf kv).toNat)
            case atStart => exact ⟨0, Nat.zero_le _, rfl, HGI⟩
            case round =>
              obtain ⟨k, hk, rfl, HK⟩ := hrel
              by_cases hkl : k < n
              · have hkli : (k : Int) < (n : Int) := by omega
                have hkw : (Lit.int .i64 (k : Int)).wf = true := WalkArith.wf_i64 (by omega)
                by_cases hst : (Tb.pg t (k : Int)).st = 1
                · obtain ⟨c9, x9, m9, hlv9⟩ := Pa.st1.1 hst
                  go_wp2_with fail
                  refine (tLoad_live HK.out.tb hlv9).mono ?_
                  rintro e w7 ⟨rfl, hb7⟩
                  have HK7 := HK.out.still hb7
                  obtain ⟨W7, hW7⟩ : ∃ W7, w7.alloc (.cells #[.int .i64 x9.1, .int .i64 x9.2] 32) = W7 := ⟨_, rfl⟩
                  have b7 : Below w7.heap.size w7 W7 := by rw [← hW7]; exact (Below.refl _ _).alloc (Nat.le_refl _) _
                  have kk7 : Bk W7 w7.heap.size 32 #[.int .i64 x9.1, .int .i64 x9.2] := by rw [← hW7]; exact Bk.new _ _ _
                  have look := (HK7.still b7).lookL_live HK.out.tb.ok HK.out.size hkw hlv9
                  obtain ⟨W8, hW8⟩ : ∃ W8, W7.alloc (.cells #[.int .i64 x9.1, .int .i64 x9.2] 32) = W8 := ⟨_, rfl⟩
                  have b8 : Below W7.heap.size W7 W8 := by rw [← hW8]; exact (Below.refl _ _).alloc (Nat.le_refl _) _
                  have kk8 : Bk W8 W7.heap.size 32 #[.int .i64 x9.1, .int .i64 x9.2] := by rw [← hW8]; exact Bk.new _ _ _
                  have kk9 := kk7.tn (Tn.of_below b8 []) (by simp)
                  have p0 : W8.cell? ⟨w7.heap.size, 0, none⟩ = some (.int .i64 x9.1) := kk9.cell 0
                  have p1 : W8.cell? ⟨w7.heap.size, 1, none⟩ = some (.int .i64 x9.2) := kk9.cell 1
                  have p2 : W8.cell? ⟨W7.heap.size, 0, none⟩ = some (.int .i64 x9.1) := kk8.cell 0
                  have p3 : W8.cell? ⟨W7.heap.size, 1, none⟩ = some (.int .i64 x9.2) := kk8.cell 1
                  have HK8 : Hid (Gs w W8 w.heap.size bs t n Mg Ml (fg t) (fl t)) := (HK7.still b7).still b8
                  have hcmp := hneq_eq (rfl : ((x9.1, x9.2) : Int × Int) = (x9.1, x9.2))
                  clear HK7 b7 kk7 b8 kk8 kk9 hst hlv9 hb7 hkw
                  go_wp2
                  go_roundw
                  case rel => exact ⟨k + 1, by omega, by go_num, HK8⟩
                  case measure => simp [intOf]; omega
                · go_wp2_with fail
                  refine (tLoad_none' HK.out.tb hst HZ.out).mono ?_
                  rintro e w7 ⟨rfl, hb7⟩
                  have HK7 := HK.out.still hb7
                  obtain ⟨W7, hW7⟩ : ∃ W7, w7.alloc (.cells #[.int .i64 z.1, .int .i64 z.2] 32) = W7 := ⟨_, rfl⟩
                  have b7 : Below w7.heap.size w7 W7 := by rw [← hW7]; exact (Below.refl _ _).alloc (Nat.le_refl _) _
                  have kk7 : Bk W7 w7.heap.size 32 #[.int .i64 z.1, .int .i64 z.2] := by rw [← hW7]; exact Bk.new _ _ _
                  have look := (HK7.still b7).lookL_none HK.out.tb.ok HK.out.size hkw hst HZ.out
                  obtain ⟨W8, hW8⟩ : ∃ W8, W7.alloc (.cells #[.int .i64 z.1, .int .i64 z.2] 32) = W8 := ⟨_, rfl⟩
                  have b8 : Below W7.heap.size W7 W8 := by rw [← hW8]; exact (Below.refl _ _).alloc (Nat.le_refl _) _
                  have kk8 : Bk W8 W7.heap.size 32 #[.int .i64 z.1, .int .i64 z.2] := by rw [← hW8]; exact Bk.new _ _ _
                  have kk9 := kk7.tn (Tn.of_below b8 []) (by simp)
                  have p0 : W8.cell? ⟨w7.heap.size, 0, none⟩ = some (.int .i64 z.1) := kk9.cell 0
                  have p1 : W8.cell? ⟨w7.heap.size, 1, none⟩ = some (.int .i64 z.2) := kk9.cell 1
                  have p2 : W8.cell? ⟨W7.heap.size, 0, none⟩ = some (.int .i64 z.1) := kk8.cell 0
                  have p3 : W8.cell? ⟨W7.heap.size, 1, none⟩ = some (.int .i64 z.2) := kk8.cell 1
                  have HK8 : Hid (Gs w W8 w.heap.size bs t n Mg Ml (fg t) (fl t)) := (HK7.still b7).still b8
                  have hcmp := hneq_eq (rfl : ((z.1, z.2) : Int × Int) = (z.1, z.2))
                  clear HK7 b7 kk7 b8 kk8 kk9 hst hb7 hkw
                  go_wp2
                  go_roundw
                  case rel => exact ⟨k + 1, by omega, by go_num, HK8⟩
                  case measure => simp [intOf]; omega
              · have hkli : ¬ (k : Int) < (n : Int) := by omega
                go_wp2
                go_roundw
                case rel => exact ⟨j + 1, bs, t, by omega, by go_num, HK⟩
                case measure => simp [intOf]; omega
        · rcases lowest_free (fun i => (t.pg (i : Int)).isFree) t.size with hf | ⟨q, hq, hf, hlow⟩
          · have hf' : ∀ q : Nat, q < t.size → t.pg (q : Int) ≠ Pa.free := fun q hq e => by
              have := hf q hq
              rw [e] at this
              simp [Pa.isFree] at this
            have HF : Hid (∀ q : Nat, q < t.size → t.pg (q : Int) ≠ Pa.free) := hf'
            clear hf hf'
            as_aux_lemma =>
              go_wp2_with fail
              refine (tAlloc_full HGO.out.tb (ia, ib) hb0 HF.out).mono ?_
              rintro e w2 ⟨rfl, hb2⟩
              have HG2 : Hid (Gs w w2 w.heap.size bs t n Mg Ml (fg t) (fl t)) := HGO.out.still hb2
              clear hb2
              obtain ⟨nl, ng, l1, l2, -, -, l5, l6⟩ := HG2.out.lens
              have hsum : (nl : Int) + (ng : Int) = (n : Int) := by have := l6 HF.out; omega
              have k1 := l1 3 w2 (Below.refl _ _)
              have k2 := l2 3 w2 (Below.refl _ _)
              have hne : ((n : Int) != (n : Int)) = false := by simp
              clear l1 l2 l6
              have HGI : Hid (Gs w w2 w.heap.size bs t n Mg Ml (fg t) (fl t)) := HG2
              clear HGO HKO HD
              go_wp2_with fail
              go_loopw [181] (fun kv wv => ∃ k : Nat, k ≤ n ∧ kv = .int .i64 k ∧ Hid (Gs w wv w.heap.size bs t n Mg Ml (fg t) (fl t))) (fun kv _ => n - (intOf kv).toNat)
              case atStart => exact ⟨0, Nat.zero_le _, rfl, HGI⟩
              case round =>
                obtain ⟨k, hk, rfl, HK⟩ := hrel
                by_cases hkl : k < n
                · have hkli : (k : Int) < (n : Int) := by omega
                  have hkw : (Lit.int .i64 (k : Int)).wf = true := WalkArith.wf_i64 (by omega)
                  by_cases hst : (Tb.pg t (k : Int)).st = 1
                  · obtain ⟨c9, x9, m9, hlv9⟩ := Pa.st1.1 hst
                    go_wp2_with fail
                    refine (tLoad_live HK.out.tb hlv9).mono ?_
                    rintro e w7 ⟨rfl, hb7⟩
                    have HK7 := HK.out.still hb7
                    obtain ⟨W7, hW7⟩ : ∃ W7, w7.alloc (.cells #[.int .i64 x9.1, .int .i64 x9.2] 32) = W7 := ⟨_, rfl⟩
                    have b7 : Below w7.heap.size w7 W7 := by rw [← hW7]; exact (Below.refl _ _).alloc (Nat.le_refl _) _
                    have kk7 : Bk W7 w7.heap.size 32 #[.int .i64 x9.1, .int .i64 x9.2] := by rw [← hW7]; exact Bk.new _ _ _
                    have look := (HK7.still b7).lookL_live HK.out.tb.ok HK.out.size hkw hlv9
                    obtain ⟨W8, hW8⟩ : ∃ W8, W7.alloc (.cells #[.int .i64 x9.1, .int .i64 x9.2] 32) = W8 := ⟨_, rfl⟩
                    have b8 : Below W7.heap.size W7 W8 := by rw [← hW8]; exact (Below.refl _ _).alloc (Nat.le_refl _) _
                    have kk8 : Bk W8 W7.heap.size 32 #[.int .i64 x9.1, .int .i64 x9.2] := by rw [← hW8]; exact Bk.new _ _ _
                    have kk9 := kk7.tn (Tn.of_below b8 []) (by simp)
                    have p0 : W8.cell? ⟨w7.heap.size, 0, none⟩ = some (.int .i64 x9.1) := kk9.cell 0
                    have p1 : W8.cell? ⟨w7.heap.size, 1, none⟩ = some (.int .i64 x9.2) := kk9.cell 1
                    have p2 : W8.cell? ⟨W7.heap.size, 0, none⟩ = some (.int .i64 x9.1) := kk8.cell 0
                    have p3 : W8.cell? ⟨W7.heap.size, 1, none⟩ = some (.int .i64 x9.2) := kk8.cell 1
                    have HK8 : Hid (Gs w W8 w.heap.size bs t n Mg Ml (fg t) (fl t)) := (HK7.still b7).still b8
                    have hcmp := hneq_eq (rfl : ((x9.1, x9.2) : Int × Int) = (x9.1, x9.2))
                    clear HK7 b7 kk7 b8 kk8 kk9 hst hlv9 hb7 hkw
                    go_wp2
                    go_roundw
                    case rel => exact ⟨k + 1, by omega, by go_num, HK8⟩
                    case measure => simp [intOf]; omega
                  · go_wp2_with fail
                    refine (tLoad_none' HK.out.tb hst HZ.out).mono ?_
                    rintro e w7 ⟨rfl, hb7⟩
                    have HK7 := HK.out.still hb7
                    obtain ⟨W7, hW7⟩ : ∃ W7, w7.alloc (.cells #[.int .i64 z.1, .int .i64 z.2] 32) = W7 := ⟨_, rfl⟩
                    have b7 : Below w7.heap.size w7 W7 := by rw [← hW7]; exact (Below.refl _ _).alloc (Nat.le_refl _) _
                    have kk7 : Bk W7 w7.heap.size 32 #[.int .i64 z.1, .int .i64 z.2] := by rw [← hW7]; exact Bk.new _ _ _
                    have look := (HK7.still b7).lookL_none HK.out.tb.ok HK.out.size hkw hst HZ.out
                    obtain ⟨W8, hW8⟩ : ∃ W8, W7.alloc (.cells #[.int .i64 z.1, .int .i64 z.2] 32) = W8 := ⟨_, rfl⟩
                    have b8 : Below W7.heap.size W7 W8 := by rw [← hW8]; exact (Below.refl _ _).alloc (Nat.le_refl _) _
                    have kk8 : Bk W8 W7.heap.size 32 #[.int .i64 z.1, .int .i64 z.2] := by rw [← hW8]; exact Bk.new _ _ _
                    have kk9 := kk7.tn (Tn.of_below b8 []) (by simp)
                    have p0 : W8.cell? ⟨w7.heap.size, 0, none⟩ = some (.int .i64 z.1) := kk9.cell 0
                    have p1 : W8.cell? ⟨w7.heap.size, 1, none⟩ = some (.int .i64 z.2) := kk9.cell 1
                    have p2 : W8.cell? ⟨W7.heap.size, 0, none⟩ = some (.int .i64 z.1) := kk8.cell 0
                    have p3 : W8.cell? ⟨W7.heap.size, 1, none⟩ = some (.int .i64 z.2) := kk8.cell 1
                    have HK8 : Hid (Gs w W8 w.heap.size bs t n Mg Ml (fg t) (fl t)) := (HK7.still b7).still b8
                    have hcmp := hneq_eq (rfl : ((z.1, z.2) : Int × Int) = (z.1, z.2))
                    clear HK7 b7 kk7 b8 kk8 kk9 hst hb7 hkw
                    go_wp2
                    go_roundw
                    case rel => exact ⟨k + 1, by omega, by go_num, HK8⟩
                    case measure => simp [intOf]; omega
                · have hkli : ¬ (k : Int) < (n : Int) := by omega
                  go_wp2
                  go_roundw
                  case rel => exact ⟨j + 1, bs, t, by omega, by go_num, HK⟩
                  case measure => simp [intOf]; omega
          · have hlow' : ∀ k : Nat, k < q → t.pg (k : Int) ≠ Pa.free := fun k hk e => by
              have := hlow k hk
              rw [e] at this
              simp [Pa.isFree] at this
            have HF : Hid (t.pg (q : Int) = Pa.free ∧ ∀ k : Nat, k < q → t.pg (k : Int) ≠ Pa.free) := ⟨Pa.isFree_iff.1 hf, hlow'⟩
            have hq' : q < n := by rw [← HGO.out.size]; exact hq
            clear hf hlow hlow' hq
            as_aux_lemma =>
              go_wp2_with fail
              refine (tAlloc_ok HGO.out.tb HGO.out.tab (ia, ib) hb0 (by rw [HGO.out.size]; exact hq') HF.out.1 HF.out.2).mono ?_
              rintro e w2 ⟨rfl, t2, c2', hU, hT2⟩
              obtain ⟨ht2, bs2, hg2⟩ := HGO.out.turn (by rw [hU.1]; exact HGO.out.size) hT2
              have hqw : (Lit.int .i64 (q : Int)).wf = true := WalkArith.wf_i64 (by omega)
              have hp1 : (t.pg (q : Int)).st ≠ 1 := by rw [HF.out.1]; simp [Pa.st]
              have hp2 : (t.pg (q : Int)).st ≠ 2 := by rw [HF.out.1]; simp [Pa.st]
              have look := hg2.lookL_none HGO.out.tb.ok HGO.out.size hqw hp1 HZ.out
              obtain ⟨W3, hW3⟩ : ∃ W3, w2.alloc (.cells #[.int .i64 z.1, .int .i64 z.2] 32) = W3 := ⟨_, rfl⟩
              have b3 : Below w2.heap.size w2 W3 := by rw [← hW3]; exact (Below.refl _ _).alloc (Nat.le_refl _) _
              have hg3 := hg2.still b3
              have lookG := hg3.lookG_none HGO.out.tb.ok HGO.out.size hqw hp2
              have hk3 := (HKO.out.tn ht2 HD.out).tn (Tn.of_below b3 []) (by simp)
              have e4 : W3.cell? ⟨wr.heap.size, 4, none⟩ = some (.int .i64 ia) := hk3.cell 4
              have e5 : W3.cell? ⟨wr.heap.size, 5, none⟩ = some (.int .i64 ib) := hk3.cell 5
              obtain ⟨w6, hrun, hM6, hT6⟩ := hg3.ml.put hReads Tryd.underlying41 q hq' (by omega) (ia, ib)
              have hg6 := hg3.putL hM6 hT6
              rw [fl_live hU, ← fg_same hU (by simp [Pa.st]) hp2] at hg6
              have HG6 : Hid (Gs w w6 w.heap.size bs2 t2 n Mg Ml (fg t2) (fl t2)) := hg6
              have hq0 : ¬ (q : Int) < 0 := by omega
              have hqn : ¬ (n : Int) ≤ (q : Int) := by omega
              clear hg2 hg3 hg6 hk3 b3 ht2 hT2 hM6 hT6 hU hp1 hp2 hqw
              have HGI : Hid (Gs w w6 w.heap.size bs2 t2 n Mg Ml (fg t2) (fl t2)) := HG6
              clear HGO HKO HD
              go_wp2_with fail
              have hqN : ¬ n ≤ q := by omega
              simp only [hqN, decide_false, Bool.or_false]
              go_loopw [181] (fun kv wv => ∃ k : Nat, k ≤ n ∧ kv = .int .i64 k ∧ Hid (Gs w wv w.heap.size bs2 t2 n Mg Ml (fg t2) (fl t2))) (fun kv _ => n - (intOf kv).toNat)
              case atStart => exact ⟨0, Nat.zero_le _, rfl, HGI⟩
              case round =>
                obtain ⟨k, hk, rfl, HK⟩ := hrel
                by_cases hkl : k < n
                · have hkli : (k : Int) < (n : Int) := by omega
                  have hkw : (Lit.int .i64 (k : Int)).wf = true := WalkArith.wf_i64 (by omega)
                  by_cases hst : (Tb.pg t2 (k : Int)).st = 1
                  · obtain ⟨c9, x9, m9, hlv9⟩ := Pa.st1.1 hst
                    go_wp2_with fail
                    refine (tLoad_live HK.out.tb hlv9).mono ?_
                    rintro e w7 ⟨rfl, hb7⟩
                    have HK7 := HK.out.still hb7
                    obtain ⟨W7, hW7⟩ : ∃ W7, w7.alloc (.cells #[.int .i64 x9.1, .int .i64 x9.2] 32) = W7 := ⟨_, rfl⟩
                    have b7 : Below w7.heap.size w7 W7 := by rw [← hW7]; exact (Below.refl _ _).alloc (Nat.le_refl _) _
                    have kk7 : Bk W7 w7.heap.size 32 #[.int .i64 x9.1, .int .i64 x9.2] := by rw [← hW7]; exact Bk.new _ _ _
                    have look := (HK7.still b7).lookL_live HK.out.tb.ok HK.out.size hkw hlv9
                    obtain ⟨W8, hW8⟩ : ∃ W8, W7.alloc (.cells #[.int .i64 x9.1, .int .i64 x9.2] 32) = W8 := ⟨_, rfl⟩
                    have b8 : Below W7.heap.size W7 W8 := by rw [← hW8]; exact (Below.refl _ _).alloc (Nat.le_refl _) _
                    have kk8 : Bk W8 W7.heap.size 32 #[.int .i64 x9.1, .int .i64 x9.2] := by rw [← hW8]; exact Bk.new _ _ _
                    have kk9 := kk7.tn (Tn.of_below b8 []) (by simp)
                    have p0 : W8.cell? ⟨w7.heap.size, 0, none⟩ = some (.int .i64 x9.1) := kk9.cell 0
                    have p1 : W8.cell? ⟨w7.heap.size, 1, none⟩ = some (.int .i64 x9.2) := kk9.cell 1
                    have p2 : W8.cell? ⟨W7.heap.size, 0, none⟩ = some (.int .i64 x9.1) := kk8.cell 0
                    have p3 : W8.cell? ⟨W7.heap.size, 1, none⟩ = some (.int .i64 x9.2) := kk8.cell 1
                    have HK8 : Hid (Gs w W8 w.heap.size bs2 t2 n Mg Ml (fg t2) (fl t2)) := (HK7.still b7).still b8
                    have hcmp := hneq_eq (rfl : ((x9.1, x9.2) : Int × Int) = (x9.1, x9.2))
                    clear HK7 b7 kk7 b8 kk8 kk9 hst hlv9 hb7 hkw
                    go_wp2
                    go_roundw
                    case rel => exact ⟨k + 1, by omega, by go_num, HK8⟩
                    case measure => simp [intOf]; omega
                  · go_wp2_with fail
                    refine (tLoad_none' HK.out.tb hst HZ.out).mono ?_
                    rintro e w7 ⟨rfl, hb7⟩
                    have HK7 := HK.out.still hb7
                    obtain ⟨W7, hW7⟩ : ∃ W7, w7.alloc (.cells #[.int .i64 z.1, .int .i64 z.2] 32) = W7 := ⟨_, rfl⟩
                    have b7 : Below w7.heap.size w7 W7 := by rw [← hW7]; exact (Below.refl _ _).alloc (Nat.le_refl _) _
                    have kk7 : Bk W7 w7.heap.size 32 #[.int .i64 z.1, .int .i64 z.2] := by rw [← hW7]; exact Bk.new _ _ _
                    have look := (HK7.still b7).lookL_none HK.out.tb.ok HK.out.size hkw hst HZ.out
                    obtain ⟨W8, hW8⟩ : ∃ W8, W7.alloc (.cells #[.int .i64 z.1, .int .i64 z.2] 32) = W8 := ⟨_, rfl⟩
                    have b8 : Below W7.heap.size W7 W8 := by rw [← hW8]; exact (Below.refl _ _).alloc (Nat.le_refl _) _
                    have kk8 : Bk W8 W7.heap.size 32 #[.int .i64 z.1, .int .i64 z.2] := by rw [← hW8]; exact Bk.new _ _ _
                    have kk9 := kk7.tn (Tn.of_below b8 []) (by simp)
                    have p0 : W8.cell? ⟨w7.heap.size, 0, none⟩ = some (.int .i64 z.1) := kk9.cell 0
                    have p1 : W8.cell? ⟨w7.heap.size, 1, none⟩ = some (.int .i64 z.2) := kk9.cell 1
                    have p2 : W8.cell? ⟨W7.heap.size, 0, none⟩ = some (.int .i64 z.1) := kk8.cell 0
                    have p3 : W8.cell? ⟨W7.heap.size, 1, none⟩ = some (.int .i64 z.2) := kk8.cell 1
                    have HK8 : Hid (Gs w W8 w.heap.size bs2 t2 n Mg Ml (fg t2) (fl t2)) := (HK7.still b7).still b8
                    have hcmp := hneq_eq (rfl : ((z.1, z.2) : Int × Int) = (z.1, z.2))
                    clear HK7 b7 kk7 b8 kk8 kk9 hst hb7 hkw
                    go_wp2
                    go_roundw
                    case rel => exact ⟨k + 1, by omega, by go_num, HK8⟩
                    case measure => simp [intOf]; omega
                · have hkli : ¬ (k : Int) < (n : Int) := by omega
                  go_wp2
                  go_roundw
                  case rel => exact ⟨j + 1, bs2, t2, by omega, by go_num, HK⟩
                  case measure => simp [intOf]; omega
      by_cases dd2 : dd = 2
      · subst dd2
        by_cases hp : (t.pg page).st = 1
        · obtain ⟨c, x, m, hlv⟩ := Pa.st1.1 hp
          have HLV : Hid (t.pg page = Pa.live c x m) := hlv
          have HP : Hid ((t.pg page).st = 1) := hp
          clear hlv hp
          by_cases hb0 : ((ia, ib) : Int × Int) = (0, 0)
          · have HB0 : Hid (((ia, ib) : Int × Int) = (0, 0)) := hb0
            clear hb0
            as_aux_lemma =>
              go_wp2_with fail
              have hsa := tSwap_arg HGO.out.tb HP.out (wa, wb)
              rw [← HB0.out] at hsa
              refine (hsa).mono ?_
              rintro e w2 ⟨rfl, hb2⟩
              have hg2 := HGO.out.still hb2
              have hk2 := HKO.out.tn (Tn.of_below hb2 []) (by simp)
              have e1 : w2.cell? ⟨wr.heap.size, 1, none⟩ = some (.int .i64 page) := hk2.cell 1
              have look := hg2.lookL_live HGO.out.tb.ok HGO.out.size HWF.out HLV.out
              obtain ⟨W3, hW3⟩ : ∃ W3, w2.alloc (.cells #[.int .i64 x.1, .int .i64 x.2] 32) = W3 := ⟨_, rfl⟩
              have b3 : Below w2.heap.size w2 W3 := by rw [← hW3]; exact (Below.refl _ _).alloc (Nat.le_refl _) _
              have hx3 : Bk W3 w2.heap.size 32 #[.int .i64 x.1, .int .i64 x.2] := by rw [← hW3]; exact Bk.new _ _ _
              have x0 : W3.cell? ⟨w2.heap.size, 0, none⟩ = some (.int .i64 x.1) := hx3.cell 0
              have x1 : W3.cell? ⟨w2.heap.size, 1, none⟩ = some (.int .i64 x.2) := hx3.cell 1
              have hg3 := hg2.still b3
              have HG3 : Hid (Gs w W3 w.heap.size bs t n Mg Ml (fg t) (fl t)) := hg3
              have hbb : (false == true) = false := rfl
              clear hg2 hk2 b3 hg3 hb2 hx3 hsa
              have HGI : Hid (Gs w W3 w.heap.size bs t n Mg Ml (fg t) (fl t)) := HG3
              clear HGO HKO HD
              go_wp2_with fail
              go_loopw [181] (fun kv wv => ∃ k : Nat, k ≤ n ∧ kv = .int .i64 k ∧ Hid (Gs w wv w.heap.size bs t n Mg Ml (fg t) (fl t))) (fun kv _ => n - (intOf kv).toNat)
              case atStart => exact ⟨0, Nat.zero_le _, rfl, HGI⟩
              case round =>
                obtain ⟨k, hk, rfl, HK⟩ := hrel
                by_cases hkl : k < n
                · have hkli : (k : Int) < (n : Int) := by omega
                  have hkw : (Lit.int .i64 (k : Int)).wf = true := WalkArith.wf_i64 (by omega)
                  by_cases hst : (Tb.pg t (k : Int)).st = 1
                  · obtain ⟨c9, x9, m9, hlv9⟩ := Pa.st1.1 hst
                    go_wp2_with fail
                    refine (tLoad_live HK.out.tb hlv9).mono ?_
                    rintro e w7 ⟨rfl, hb7⟩
                    have HK7 := HK.out.still hb7
                    obtain ⟨W7, hW7⟩ : ∃ W7, w7.alloc (.cells #[.int .i64 x9.1, .int .i64 x9.2] 32) = W7 := ⟨_, rfl⟩
                    have b7 : Below w7.heap.size w7 W7 := by rw [← hW7]; exact (Below.refl _ _).alloc (Nat.le_refl _) _
                    have kk7 : Bk W7 w7.heap.size 32 #[.int .i64 x9.1, .int .i64 x9.2] := by rw [← hW7]; exact Bk.new _ _ _
                    have look := (HK7.still b7).lookL_live HK.out.tb.ok HK.out.size hkw hlv9
                    obtain ⟨W8, hW8⟩ : ∃ W8, W7.alloc (.cells #[.int .i64 x9.1, .int .i64 x9.2] 32) = W8 := ⟨_, rfl⟩
                    have b8 : Below W7.heap.size W7 W8 := by rw [← hW8]; exact (Below.refl _ _).alloc (Nat.le_refl _) _
                    have kk8 : Bk W8 W7.heap.size 32 #[.int .i64 x9.1, .int .i64 x9.2] := by rw [← hW8]; exact Bk.new _ _ _
                    have kk9 := kk7.tn (Tn.of_below b8 []) (by simp)
                    have p0 : W8.cell? ⟨w7.heap.size, 0, none⟩ = some (.int .i64 x9.1) := kk9.cell 0
                    have p1 : W8.cell? ⟨w7.heap.size, 1, none⟩ = some (.int .i64 x9.2) := kk9.cell 1
                    have p2 : W8.cell? ⟨W7.heap.size, 0, none⟩ = some (.int .i64 x9.1) := kk8.cell 0
                    have p3 : W8.cell? ⟨W7.heap.size, 1, none⟩ = some (.int .i64 x9.2) := kk8.cell 1
                    have HK8 : Hid (Gs w W8 w.heap.size bs t n Mg Ml (fg t) (fl t)) := (HK7.still b7).still b8
                    have hcmp := hneq_eq (rfl : ((x9.1, x9.2) : Int × Int) = (x9.1, x9.2))
                    clear HK7 b7 kk7 b8 kk8 kk9 hst hlv9 hb7 hkw
                    go_wp2
                    go_roundw
                    case rel => exact ⟨k + 1, by omega, by go_num, HK8⟩
                    case measure => simp [intOf]; omega
                  · go_wp2_with fail
                    refine (tLoad_none' HK.out.tb hst HZ.out).mono ?_
                    rintro e w7 ⟨rfl, hb7⟩
                    have HK7 := HK.out.still hb7
                    obtain ⟨W7, hW7⟩ : ∃ W7, w7.alloc (.cells #[.int .i64 z.1, .int .i64 z.2] 32) = W7 := ⟨_, rfl⟩
                    have b7 : Below w7.heap.size w7 W7 := by rw [← hW7]; exact (Below.refl _ _).alloc (Nat.le_refl _) _
                    have kk7 : Bk W7 w7.heap.size 32 #[.int .i64 z.1, .int .i64 z.2] := by rw [← hW7]; exact Bk.new _ _ _
                    have look := (HK7.still b7).lookL_none HK.out.tb.ok HK.out.size hkw hst HZ.out
                    obtain ⟨W8, hW8⟩ : ∃ W8, W7.alloc (.cells #[.int .i64 z.1, .int .i64 z.2] 32) = W8 := ⟨_, rfl⟩
                    have b8 : Below W7.heap.size W7 W8 := by rw [← hW8]; exact (Below.refl _ _).alloc (Nat.le_refl _) _
                    have kk8 : Bk W8 W7.heap.size 32 #[.int .i64 z.1, .int .i64 z.2] := by rw [← hW8]; exact Bk.new _ _ _
                    have kk9 := kk7.tn (Tn.of_below b8 []) (by simp)
                    have p0 : W8.cell? ⟨w7.heap.size, 0, none⟩ = some (.int .i64 z.1) := kk9.cell 0
                    have p1 : W8.cell? ⟨w7.heap.size, 1, none⟩ = some (.int .i64 z.2) := kk9.cell 1
                    have p2 : W8.cell? ⟨W7.heap.size, 0, none⟩ = some (.int .i64 z.1) := kk8.cell 0
                    have p3 : W8.cell? ⟨W7.heap.size, 1, none⟩ = some (.int .i64 z.2) := kk8.cell 1
                    have HK8 : Hid (Gs w W8 w.heap.size bs t n Mg Ml (fg t) (fl t)) := (HK7.still b7).still b8
                    have hcmp := hneq_eq (rfl : ((z.1, z.2) : Int × Int) = (z.1, z.2))
                    clear HK7 b7 kk7 b8 kk8 kk9 hst hb7 hkw
                    go_wp2
                    go_roundw
                    case rel => exact ⟨k + 1, by omega, by go_num, HK8⟩
                    case measure => simp [intOf]; omega
                · have hkli : ¬ (k : Int) < (n : Int) := by omega
                  go_wp2
                  go_roundw
                  case rel => exact ⟨j + 1, bs, t, by omega, by go_num, HK⟩
                  case measure => simp [intOf]; omega
          · by_cases hx : x = (wa, wb)
            · subst hx
              as_aux_lemma =>
                go_wp2_with fail
                refine (tSwap_hit HGO.out.tb HLV.out (wa, wb) (ia, ib) hb0 rfl).mono ?_
                rintro e w2 ⟨rfl, t2, m2, hU, hT2⟩
                obtain ⟨ht2, bs2, hg2⟩ := HGO.out.turn (by rw [hU.1]; exact HGO.out.size) hT2
                have hk2 := HKO.out.tn (ht2) HD.out
                have e1 : w2.cell? ⟨wr.heap.size, 1, none⟩ = some (.int .i64 page) := hk2.cell 1
                have look := hg2.lookL_live HGO.out.tb.ok HGO.out.size HWF.out HLV.out
                obtain ⟨W3, hW3⟩ : ∃ W3, w2.alloc (.cells #[.int .i64 wa, .int .i64 wb] 32) = W3 := ⟨_, rfl⟩
                have b3 : Below w2.heap.size w2 W3 := by rw [← hW3]; exact (Below.refl _ _).alloc (Nat.le_refl _) _
                have hx3 : Bk W3 w2.heap.size 32 #[.int .i64 wa, .int .i64 wb] := by rw [← hW3]; exact Bk.new _ _ _
                have x0 : W3.cell? ⟨w2.heap.size, 0, none⟩ = some (.int .i64 wa) := hx3.cell 0
                have x1 : W3.cell? ⟨w2.heap.size, 1, none⟩ = some (.int .i64 wb) := hx3.cell 1
                have hg3 := hg2.still b3
                have hk3 := hk2.tn (Tn.of_below b3 []) (by simp)
                obtain ⟨i, rfl, hi⟩ : ∃ i : Nat, page = (i : Int) ∧ i < n := by
                  have hs := HGO.out.size
                  by_cases h : 0 ≤ page ∧ page < (t.size : Int)
                  · exact ⟨page.toNat, by omega, by omega⟩
                  · exfalso
                    have h1 := HGO.out.tb.ok.out h
                    rw [HLV.out] at h1
                    cases h1
                have e1' : W3.cell? ⟨wr.heap.size, 1, none⟩ = some (.int .i64 (i : Int)) := hk3.cell 1
                have e2 : W3.cell? ⟨wr.heap.size, 2, none⟩ = some (.int .i64 wa) := hk3.cell 2
                have e3 : W3.cell? ⟨wr.heap.size, 3, none⟩ = some (.int .i64 wb) := hk3.cell 3
                have e4 : W3.cell? ⟨wr.heap.size, 4, none⟩ = some (.int .i64 ia) := hk3.cell 4
                have e5 : W3.cell? ⟨wr.heap.size, 5, none⟩ = some (.int .i64 ib) := hk3.cell 5
                obtain ⟨w6, hrun, hM6, hT6⟩ := hg3.ml.put hReads Tryd.underlying41 i hi (by omega) (ia, ib)
                have hg6 := hg3.putL hM6 hT6
                have hp2 : (t.pg (i : Int)).st ≠ 2 := by rw [HLV.out]; simp [Pa.st]
                rw [fl_live hU, ← fg_same hU (by simp [Pa.st]) hp2] at hg6
                have HG6 : Hid (Gs w w6 w.heap.size bs2 t2 n Mg Ml (fg t2) (fl t2)) := hg6
                have hcm := hneq_eq (rfl : ((wa, wb) : Int × Int) = (wa, wb))
                have hbb : (false == true) = false := rfl
                clear hg2 hk2 b3 hg3 hT2 ht2 hx3 hk3 hM6 hT6 hg6 hU hp2
                have HGI : Hid (Gs w w6 w.heap.size bs2 t2 n Mg Ml (fg t2) (fl t2)) := HG6
                clear HGO HKO HD
                go_wp2_with fail
                go_loopw [181] (fun kv wv => ∃ k : Nat, k ≤ n ∧ kv = .int .i64 k ∧ Hid (Gs w wv w.heap.size bs2 t2 n Mg Ml (fg t2) (fl t2))) (fun kv _ => n - (intOf kv).toNat)
                case atStart => exact ⟨0, Nat.zero_le _, rfl, HGI⟩
                case round =>
                  obtain ⟨k, hk, rfl, HK⟩ := hrel
                  by_cases hkl : k < n
                  · have hkli : (k : Int) < (n : Int) := by omega
                    have hkw : (Lit.int .i64 (k : Int)).wf = true := WalkArith.wf_i64 (by omega)
                    by_cases hst : (Tb.pg t2 (k : Int)).st = 1
                    · obtain ⟨c9, x9, m9, hlv9⟩ := Pa.st1.1 hst
                      go_wp2_with fail
                      refine (tLoad_live HK.out.tb hlv9).mono ?_
                      rintro e w7 ⟨rfl, hb7⟩
                      have HK7 := HK.out.still hb7
                      obtain ⟨W7, hW7⟩ : ∃ W7, w7.alloc (.cells #[.int .i64 x9.1, .int .i64 x9.2] 32) = W7 := ⟨_, rfl⟩
                      have b7 : Below w7.heap.size w7 W7 := by rw [← hW7]; exact (Below.refl _ _).alloc (Nat.le_refl _) _
                      have kk7 : Bk W7 w7.heap.size 32 #[.int .i64 x9.1, .int .i64 x9.2] := by rw [← hW7]; exact Bk.new _ _ _
                      have look := (HK7.still b7).lookL_live HK.out.tb.ok HK.out.size hkw hlv9
                      obtain ⟨W8, hW8⟩ : ∃ W8, W7.alloc (.cells #[.int .i64 x9.1, .int .i64 x9.2] 32) = W8 := ⟨_, rfl⟩
                      have b8 : Below W7.heap.size W7 W8 := by rw [← hW8]; exact (Below.refl _ _).alloc (Nat.le_refl _) _
                      have kk8 : Bk W8 W7.heap.size 32 #[.int .i64 x9.1, .int .i64 x9.2] := by rw [← hW8]; exact Bk.new _ _ _
                      have kk9 := kk7.tn (Tn.of_below b8 []) (by simp)
                      have p0 : W8.cell? ⟨w7.heap.size, 0, none⟩ = some (.int .i64 x9.1) := kk9.cell 0
                      have p1 : W8.cell? ⟨w7.heap.size, 1, none⟩ = some (.int .i64 x9.2) := kk9.cell 1
                      have p2 : W8.cell? ⟨W7.heap.size, 0, none⟩ = some (.int .i64 x9.1) := kk8.cell 0
                      have p3 : W8.cell? ⟨W7.heap.size, 1, none⟩ = some (.int .i64 x9.2) := kk8.cell 1
                      have HK8 : Hid (Gs w W8 w.heap.size bs2 t2 n Mg Ml (fg t2) (fl t2)) := (HK7.still b7).still b8
                      have hcmp := hneq_eq (rfl : ((x9.1, x9.2) : Int × Int) = (x9.1, x9.2))
                      clear HK7 b7 kk7 b8 kk8 kk9 hst hlv9 hb7 hkw
                      go_wp2
                      go_roundw
                      case rel => exact ⟨k + 1, by omega, by go_num, HK8⟩
                      case measure => simp [intOf]; omega
                    · go_wp2_with fail
                      refine (tLoad_none' HK.out.tb hst HZ.out).mono ?_
                      rintro e w7 ⟨rfl, hb7⟩
                      have HK7 := HK.out.still hb7
                      obtain ⟨W7, hW7⟩ : ∃ W7, w7.alloc (.cells #[.int .i64 z.1, .int .i64 z.2] 32) = W7 := ⟨_, rfl⟩
                      have b7 : Below w7.heap.size w7 W7 := by rw [← hW7]; exact (Below.refl _ _).alloc (Nat.le_refl _) _
                      have kk7 : Bk W7 w7.heap.size 32 #[.int .i64 z.1, .int .i64 z.2] := by rw [← hW7]; exact Bk.new _ _ _
                      have look := (HK7.still b7).lookL_none HK.out.tb.ok HK.out.size hkw hst HZ.out
                      obtain ⟨W8, hW8⟩ : ∃ W8, W7.alloc (.cells #[.int .i64 z.1, .int .i64 z.2] 32) = W8 := ⟨_, rfl⟩
                      have b8 : Below W7.heap.size W7 W8 := by rw [← hW8]; exact (Below.refl _ _).alloc (Nat.le_refl _) _
                      have kk8 : Bk W8 W7.heap.size 32 #[.int .i64 z.1, .int .i64 z.2] := by rw [← hW8]; exact Bk.new _ _ _
                      have kk9 := kk7.tn (Tn.of_below b8 []) (by simp)
                      have p0 : W8.cell? ⟨w7.heap.size, 0, none⟩ = some (.int .i64 z.1) := kk9.cell 0
                      have p1 : W8.cell? ⟨w7.heap.size, 1, none⟩ = some (.int .i64 z.2) := kk9.cell 1
                      have p2 : W8.cell? ⟨W7.heap.size, 0, none⟩ = some (.int .i64 z.1) := kk8.cell 0
                      have p3 : W8.cell? ⟨W7.heap.size, 1, none⟩ = some (.int .i64 z.2) := kk8.cell 1
                      have HK8 : Hid (Gs w W8 w.heap.size bs2 t2 n Mg Ml (fg t2) (fl t2)) := (HK7.still b7).still b8
                      have hcmp := hneq_eq (rfl : ((z.1, z.2) : Int × Int) = (z.1, z.2))
                      clear HK7 b7 kk7 b8 kk8 kk9 hst hb7 hkw
                      go_wp2
                      go_roundw
                      case rel => exact ⟨k + 1, by omega, by go_num, HK8⟩
                      case measure => simp [intOf]; omega
                  · have hkli : ¬ (k : Int) < (n : Int) := by omega
                    go_wp2
                    go_roundw
                    case rel => exact ⟨j + 1, bs2, t2, by omega, by go_num, HK⟩
                    case measure => simp [intOf]; omega
            · have HX : Hid (¬ x = (wa, wb)) := hx
              clear hx
              as_aux_lemma =>
                go_wp2_with fail
                refine (tSwap_miss HGO.out.tb HLV.out (wa, wb) (ia, ib) hb0 HX.out).mono ?_
                rintro e w2 ⟨rfl, hT2⟩
                obtain ⟨ht2, bs2, hg2⟩ := HGO.out.turn (t' := { t with missed := wrap64 (t.missed + 1) }) HGO.out.size hT2
                have hk2 := HKO.out.tn (ht2) HD.out
                have e1 : w2.cell? ⟨wr.heap.size, 1, none⟩ = some (.int .i64 page) := hk2.cell 1
                have look := hg2.lookL_live HGO.out.tb.ok HGO.out.size HWF.out HLV.out
                obtain ⟨W3, hW3⟩ : ∃ W3, w2.alloc (.cells #[.int .i64 x.1, .int .i64 x.2] 32) = W3 := ⟨_, rfl⟩
                have b3 : Below w2.heap.size w2 W3 := by rw [← hW3]; exact (Below.refl _ _).alloc (Nat.le_refl _) _
                have hx3 : Bk W3 w2.heap.size 32 #[.int .i64 x.1, .int .i64 x.2] := by rw [← hW3]; exact Bk.new _ _ _
                have x0 : W3.cell? ⟨w2.heap.size, 0, none⟩ = some (.int .i64 x.1) := hx3.cell 0
                have x1 : W3.cell? ⟨w2.heap.size, 1, none⟩ = some (.int .i64 x.2) := hx3.cell 1
                have hg3 := hg2.still b3
                obtain ⟨t2, et2⟩ : ∃ t2, ({ t with missed := wrap64 (t.missed + 1) } : Tb) = t2 := ⟨_, rfl⟩
                have HG3 : Hid (Gs w W3 w.heap.size bs2 t2 n Mg Ml (fg t2) (fl t2)) := by rw [← et2]; exact hg3
                have hbb : (false == true) = false := rfl
                clear hg2 hk2 b3 hg3 hT2 ht2 hx3 et2
                have HGI : Hid (Gs w W3 w.heap.size bs2 t2 n Mg Ml (fg t2) (fl t2)) := HG3
                clear HGO HKO HD
                go_wp2_with fail
                go_loopw [181] (fun kv wv => ∃ k : Nat, k ≤ n ∧ kv = .int .i64 k ∧ Hid (Gs w wv w.heap.size bs2 t2 n Mg Ml (fg t2) (fl t2))) (fun kv _ => n - (intOf kv).toNat)
                case atStart => exact ⟨0, Nat.zero_le _, rfl, HGI⟩
                case round =>
                  obtain ⟨k, hk, rfl, HK⟩ := hrel
                  by_cases hkl : k < n
                  · have hkli : (k : Int) < (n : Int) := by omega
                    have hkw : (Lit.int .i64 (k : Int)).wf = true := WalkArith.wf_i64 (by omega)
                    by_cases hst : (Tb.pg t2 (k : Int)).st = 1
                    · obtain ⟨c9, x9, m9, hlv9⟩ := Pa.st1.1 hst
                      go_wp2_with fail
                      refine (tLoad_live HK.out.tb hlv9).mono ?_
                      rintro e w7 ⟨rfl, hb7⟩
                      have HK7 := HK.out.still hb7
                      obtain ⟨W7, hW7⟩ : ∃ W7, w7.alloc (.cells #[.int .i64 x9.1, .int .i64 x9.2] 32) = W7 := ⟨_, rfl⟩
                      have b7 : Below w7.heap.size w7 W7 := by rw [← hW7]; exact (Below.refl _ _).alloc (Nat.le_refl _) _
                      have kk7 : Bk W7 w7.heap.size 32 #[.int .i64 x9.1, .int .i64 x9.2] := by rw [← hW7]; exact Bk.new _ _ _
                      have look := (HK7.still b7).lookL_live HK.out.tb.ok HK.out.size hkw hlv9
                      obtain ⟨W8, hW8⟩ : ∃ W8, W7.alloc (.cells #[.int .i64 x9.1, .int .i64 x9.2] 32) = W8 := ⟨_, rfl⟩
                      have b8 : Below W7.heap.size W7 W8 := by rw [← hW8]; exact (Below.refl _ _).alloc (Nat.le_refl _) _
                      have kk8 : Bk W8 W7.heap.size 32 #[.int .i64 x9.1, .int .i64 x9.2] := by rw [← hW8]; exact Bk.new _ _ _
                      have kk9 := kk7.tn (Tn.of_below b8 []) (by simp)
                      have p0 : W8.cell? ⟨w7.heap.size, 0, none⟩ = some (.int .i64 x9.1) := kk9.cell 0
                      have p1 : W8.cell? ⟨w7.heap.size, 1, none⟩ = some (.int .i64 x9.2) := kk9.cell 1
                      have p2 : W8.cell? ⟨W7.heap.size, 0, none⟩ = some (.int .i64 x9.1) := kk8.cell 0
                      have p3 : W8.cell? ⟨W7.heap.size, 1, none⟩ = some (.int .i64 x9.2) := kk8.cell 1
                      have HK8 : Hid (Gs w W8 w.heap.size bs2 t2 n Mg Ml (fg t2) (fl t2)) := (HK7.still b7).still b8
                      have hcmp := hneq_eq (rfl : ((x9.1, x9.2) : Int × Int) = (x9.1, x9.2))
                      clear HK7 b7 kk7 b8 kk8 kk9 hst hlv9 hb7 hkw
                      go_wp2
                      go_roundw
                      case rel => exact ⟨k + 1, by omega, by go_num, HK8⟩
                      case measure => simp [intOf]; omega
                    · go_wp2_with fail
                      refine (tLoad_none' HK.out.tb hst HZ.out).mono ?_
                      rintro e w7 ⟨rfl, hb7⟩
                      have HK7 := HK.out.still hb7
                      obtain ⟨W7, hW7⟩ : ∃ W7, w7.alloc (.cells #[.int .i64 z.1, .int .i64 z.2] 32) = W7 := ⟨_, rfl⟩
                      have b7 : Below w7.heap.size w7 W7 := by rw [← hW7]; exact (Below.refl _ _).alloc (Nat.le_refl _) _
                      have kk7 : Bk W7 w7.heap.size 32 #[.int .i64 z.1, .int .i64 z.2] := by rw [← hW7]; exact Bk.new _ _ _
                      have look := (HK7.still b7).lookL_none HK.out.tb.ok HK.out.size hkw hst HZ.out
                      obtain ⟨W8, hW8⟩ : ∃ W8, W7.alloc (.cells #[.int .i64 z.1, .int .i64 z.2] 32) = W8 := ⟨_, rfl⟩
                      have b8 : Below W7.heap.size W7 W8 := by rw [← hW8]; exact (Below.refl _ _).alloc (Nat.le_refl _) _
                      have kk8 : Bk W8 W7.heap.size 32 #[.int .i64 z.1, .int .i64 z.2] := by rw [← hW8]; exact Bk.new _ _ _
                      have kk9 := kk7.tn (Tn.of_below b8 []) (by simp)
                      have p0 : W8.cell? ⟨w7.heap.size, 0, none⟩ = some (.int .i64 z.1) := kk9.cell 0
                      have p1 : W8.cell? ⟨w7.heap.size, 1, none⟩ = some (.int .i64 z.2) := kk9.cell 1
                      have p2 : W8.cell? ⟨W7.heap.size, 0, none⟩ = some (.int .i64 z.1) := kk8.cell 0
                      have p3 : W8.cell? ⟨W7.heap.size, 1, none⟩ = some (.int .i64 z.2) := kk8.cell 1
                      have HK8 : Hid (Gs w W8 w.heap.size bs2 t2 n Mg Ml (fg t2) (fl t2)) := (HK7.still b7).still b8
                      have hcmp := hneq_eq (rfl : ((z.1, z.2) : Int × Int) = (z.1, z.2))
                      clear HK7 b7 kk7 b8 kk8 kk9 hst hb7 hkw
                      go_wp2
                      go_roundw
                      case rel => exact ⟨k + 1, by omega, by go_num, HK8⟩
                      case measure => simp [intOf]; omega
                  · have hkli : ¬ (k : Int) < (n : Int) := by omega
                    go_wp2
                    go_roundw
                    case rel => exact ⟨j + 1, bs2, t2, by omega, by go_num, HK⟩
                    case measure => simp [intOf]; omega
        · have HP : Hid ((t.pg page).st ≠ 1) := hp
          clear hp
          as_aux_lemma =>
            go_wp2_with fail
            refine (tSwap_none HGO.out.tb HP.out (wa, wb) (ia, ib)).mono ?_
            rintro e w2 ⟨rfl, hb2⟩
            have hg2 := HGO.out.still hb2
            have hk2 := HKO.out.tn (Tn.of_below hb2 []) (by simp)
            have e1 : w2.cell? ⟨wr.heap.size, 1, none⟩ = some (.int .i64 page) := hk2.cell 1
            have look := hg2.lookL_none HGO.out.tb.ok HGO.out.size HWF.out HP.out HZ.out
            obtain ⟨W3, hW3⟩ : ∃ W3, w2.alloc (.cells #[.int .i64 z.1, .int .i64 z.2] 32) = W3 := ⟨_, rfl⟩
            have b3 : Below w2.heap.size w2 W3 := by rw [← hW3]; exact (Below.refl _ _).alloc (Nat.le_refl _) _
            have hg3 := hg2.still b3
            have HG3 : Hid (Gs w W3 w.heap.size bs t n Mg Ml (fg t) (fl t)) := hg3
            have hbb : (true == false) = false := rfl
            clear hg2 hk2 b3 hg3 hb2
            have HGI : Hid (Gs w W3 w.heap.size bs t n Mg Ml (fg t) (fl t)) := HG3
            clear HGO HKO HD
            go_wp2_with fail
            go_loopw [181] (fun kv wv => ∃ k : Nat, k ≤ n ∧ kv = .int .i64 k ∧ Hid (Gs w wv w.heap.size bs t n Mg Ml (fg t) (fl t))) (fun kv _ => n - (intOf kv).toNat)
            case atStart => exact ⟨0, Nat.zero_le _, rfl, HGI⟩
            case round =>
              obtain ⟨k, hk, rfl, HK⟩ := hrel
              by_cases hkl : k < n
              · have hkli : (k : Int) < (n : Int) := by omega
                have hkw : (Lit.int .i64 (k : Int)).wf = true := WalkArith.wf_i64 (by omega)
                by_cases hst : (Tb.pg t (k : Int)).st = 1
                · obtain ⟨c9, x9, m9, hlv9⟩ := Pa.st1.1 hst
                  go_wp2_with fail
                  refine (tLoad_live HK.out.tb hlv9).mono ?_
                  rintro e w7 ⟨rfl, hb7⟩
                  have HK7 := HK.out.still hb7
                  obtain ⟨W7, hW7⟩ : ∃ W7, w7.alloc (.cells #[.int .i64 x9.1, .int .i64 x9.2] 32) = W7 := ⟨_, rfl⟩
                  have b7 : Below w7.heap.size w7 W7 := by rw [← hW7]; exact (Below.refl _ _).alloc (Nat.le_refl _) _
                  have kk7 : Bk W7 w7.heap.size 32 #[.int .i64 x9.1, .int .i64 x9.2] := by rw [← hW7]; exact Bk.new _ _ _
                  have look := (HK7.still b7).lookL_live HK.out.tb.ok HK.out.size hkw hlv9
                  obtain ⟨W8, hW8⟩ : ∃ W8, W7.alloc (.cells #[.int .i64 x9.1, .int .i64 x9.2] 32) = W8 := ⟨_, rfl⟩
                  have b8 : Below W7.heap.size W7 W8 := by rw [← hW8]; exact (Below.refl _ _).alloc (Nat.le_refl _) _
                  have kk8 : Bk W8 W7.heap.size 32 #[.int .i64 x9.1, .int .i64 x9.2] := by rw [← hW8]; exact Bk.new _ _ _
                  have kk9 := kk7.tn (Tn.of_below b8 []) (by simp)
                  have p0 : W8.cell? ⟨w7.heap.size, 0, none⟩ = some (.int .i64 x9.1) := kk9.cell 0
                  have p1 : W8.cell? ⟨w7.heap.size, 1, none⟩ = some (.int .i64 x9.2) := kk9.cell 1
                  have p2 : W8.cell? ⟨W7.heap.size, 0, none⟩ = some (.int .i64 x9.1) := kk8.cell 0
                  have p3 : W8.cell? ⟨W7.heap.size, 1, none⟩ = some (.int .i64 x9.2) := kk8.cell 1
                  have HK8 : Hid (Gs w W8 w.heap.size bs t n Mg Ml (fg t) (fl t)) := (HK7.still b7).still b8
                  have hcmp := hneq_eq (rfl : ((x9.1, x9.2) : Int × Int) = (x9.1, x9.2))
                  clear HK7 b7 kk7 b8 kk8 kk9 hst hlv9 hb7 hkw
                  go_wp2
                  go_roundw
                  case rel => exact ⟨k + 1, by omega, by go_num, HK8⟩
                  case measure => simp [intOf]; omega
                · go_wp2_with fail
                  refine (tLoad_none' HK.out.tb hst HZ.out).mono ?_
                  rintro e w7 ⟨rfl, hb7⟩
                  have HK7 := HK.out.still hb7
                  obtain ⟨W7, hW7⟩ : ∃ W7, w7.alloc (.cells #[.int .i64 z.1, .int .i64 z.2] 32) = W7 := ⟨_, rfl⟩
                  have b7 : Below w7.heap.size w7 W7 := by rw [← hW7]; exact (Below.refl _ _).alloc (Nat.le_refl _) _
                  have kk7 : Bk W7 w7.heap.size 32 #[.int .i64 z.1, .int .i64 z.2] := by rw [← hW7]; exact Bk.new _ _ _
                  have look := (HK7.still b7).lookL_none HK.out.tb.ok HK.out.size hkw hst HZ.out
                  obtain ⟨W8, hW8⟩ : ∃ W8, W7.alloc (.cells #[.int .i64 z.1, .int .i64 z.2] 32) = W8 := ⟨_, rfl⟩
                  have b8 : Below W7.heap.size W7 W8 := by rw [← hW8]; exact (Below.refl _ _).alloc (Nat.le_refl _) _
                  have kk8 : Bk W8 W7.heap.size 32 #[.int .i64 z.1, .int .i64 z.2] := by rw [← hW8]; exact Bk.new _ _ _
                  have kk9 := kk7.tn (Tn.of_below b8 []) (by simp)
                  have p0 : W8.cell? ⟨w7.heap.size, 0, none⟩ = some (.int .i64 z.1) := kk9.cell 0
                  have p1 : W8.cell? ⟨w7.heap.size, 1, none⟩ = some (.int .i64 z.2) := kk9.cell 1
                  have p2 : W8.cell? ⟨W7.heap.size, 0, none⟩ = some (.int .i64 z.1) := kk8.cell 0
                  have p3 : W8.cell? ⟨W7.heap.size, 1, none⟩ = some (.int .i64 z.2) := kk8.cell 1
                  have HK8 : Hid (Gs w W8 w.heap.size bs t n Mg Ml (fg t) (fl t)) := (HK7.still b7).still b8
                  have hcmp := hneq_eq (rfl : ((z.1, z.2) : Int × Int) = (z.1, z.2))
                  clear HK7 b7 kk7 b8 kk8 kk9 hst hb7 hkw
                  go_wp2
                  go_roundw
                  case rel => exact ⟨k + 1, by omega, by go_num, HK8⟩
                  case measure => simp [intOf]; omega
              · have hkli : ¬ (k : Int) < (n : Int) := by omega
                go_wp2
                go_roundw
                case rel => exact ⟨j + 1, bs, t, by omega, by go_num, HK⟩
                case measure => simp [intOf]; omega
      by_cases dd3 : dd = 3
      · subst dd3
        by_cases hp : (t.pg page).st = 1
        · obtain ⟨c, x, m, hlv⟩ := Pa.st1.1 hp
          have HLV : Hid (t.pg page = Pa.live c x m) := hlv
          clear hlv hp
          as_aux_lemma =>
            have look := HGO.out.lookL_live HGO.out.tb.ok HGO.out.size HWF.out HLV.out
            obtain ⟨W3, hW3⟩ : ∃ W3, wo.alloc (.cells #[.int .i64 x.1, .int .i64 x.2] 32) = W3 := ⟨_, rfl⟩
            have b3 : Below wo.heap.size wo W3 := by rw [← hW3]; exact (Below.refl _ _).alloc (Nat.le_refl _) _
            have hx3 : Bk W3 wo.heap.size 32 #[.int .i64 x.1, .int .i64 x.2] := by rw [← hW3]; exact Bk.new _ _ _
            have x0 : W3.cell? ⟨wo.heap.size, 0, none⟩ = some (.int .i64 x.1) := hx3.cell 0
            have x1 : W3.cell? ⟨wo.heap.size, 1, none⟩ = some (.int .i64 x.2) := hx3.cell 1
            have hg3 := HGO.out.still b3
            have hk3 := HKO.out.tn (Tn.of_below b3 []) (by simp)
            have HK3 : Hid (Bk W3 wr.heap.size 34 #[.int .i64 3, .int .i64 page, .int .i64 wa, .int .i64 wb, .int .i64 ia, .int .i64 ib]) := hk3
            have e1 : W3.cell? ⟨wr.heap.size, 1, none⟩ = some (.int .i64 page) := hk3.cell 1
            have HG3 : Hid (Gs w W3 w.heap.size bs t n Mg Ml (fg t) (fl t)) := hg3
            clear hk3 hg3 b3 hx3
            go_wp2_with fail
            refine (tRetire_live HG3.out.tb HLV.out).mono ?_
            rintro e w4 ⟨rfl, t2, hU, hT2⟩
            obtain ⟨ht2, bs2, hg2⟩ := HG3.out.turn (by rw [hU.1]; exact HGO.out.size) hT2
            have hk4 := HK3.out.tn ht2 HD.out
            obtain ⟨w5, hrun5, hM5, hT5⟩ := hg2.ml.del Tryd.underlying41 page HWF.out 0
            have hn5 : wr.heap.size ∉ [Ml] := by simp; exact (hg2.ml.not_cells hk4).symm
            have hk5 := hk4.tn hT5 hn5
            have hg5 := hg2.putL hM5 hT5
            obtain ⟨i, rfl, hi⟩ : ∃ i : Nat, page = (i : Int) ∧ i < n := by
              have hs := HGO.out.size
              by_cases h : 0 ≤ page ∧ page < (t.size : Int)
              · exact ⟨page.toNat, by omega, by omega⟩
              · exfalso
                have h1 := HGO.out.tb.ok.out h
                rw [HLV.out] at h1
                cases h1
            obtain ⟨w6, hrun6, hM6, hT6⟩ := hg5.mg.put bReads Tryd.underlying40 i hi (by omega) true
            have hg6 := hg5.putG hM6 hT6
            rw [fl_gone hU rfl, fg_gone hU] at hg6
            have HG6 : Hid (Gs w w6 w.heap.size bs2 t2 n Mg Ml (fg t2) (fl t2)) := hg6
            have f1 : w4.cell? ⟨wr.heap.size, 1, none⟩ = some (.int .i64 (i : Int)) := hk4.cell 1
            have f2 : w5.cell? ⟨wr.heap.size, 1, none⟩ = some (.int .i64 (i : Int)) := hk5.cell 1
            clear hU hT2 ht2 hg2 hk4 hM5 hT5 hn5 hk5 hg5 hM6 hT6 hg6
            have HGI : Hid (Gs w w6 w.heap.size bs2 t2 n Mg Ml (fg t2) (fl t2)) := HG6
            clear HGO HKO HD
            go_wp2_with fail
            go_loopw [181] (fun kv wv => ∃ k : Nat, k ≤ n ∧ kv = .int .i64 k ∧ Hid (Gs w wv w.heap.size bs2 t2 n Mg Ml (fg t2) (fl t2))) (fun kv _ => n - (intOf kv).toNat)
            case atStart => exact ⟨0, Nat.zero_le _, rfl, HGI⟩
            case round =>
              obtain ⟨k, hk, rfl, HK⟩ := hrel
              by_cases hkl : k < n
              · have hkli : (k : Int) < (n : Int) := by omega
                have hkw : (Lit.int .i64 (k : Int)).wf = true := WalkArith.wf_i64 (by omega)
                by_cases hst : (Tb.pg t2 (k : Int)).st = 1
                · obtain ⟨c9, x9, m9, hlv9⟩ := Pa.st1.1 hst
                  go_wp2_with fail
                  refine (tLoad_live HK.out.tb hlv9).mono ?_
                  rintro e w7 ⟨rfl, hb7⟩
                  have HK7 := HK.out.still hb7
                  obtain ⟨W7, hW7⟩ : ∃ W7, w7.alloc (.cells #[.int .i64 x9.1, .int .i64 x9.2] 32) = W7 := ⟨_, rfl⟩
                  have b7 : Below w7.heap.size w7 W7 := by rw [← hW7]; exact (Below.refl _ _).alloc (Nat.le_refl _) _
                  have kk7 : Bk W7 w7.heap.size 32 #[.int .i64 x9.1, .int .i64 x9.2] := by rw [← hW7]; exact Bk.new _ _ _
                  have look := (HK7.still b7).lookL_live HK.out.tb.ok HK.out.size hkw hlv9
                  obtain ⟨W8, hW8⟩ : ∃ W8, W7.alloc (.cells #[.int .i64 x9.1, .int .i64 x9.2] 32) = W8 := ⟨_, rfl⟩
                  have b8 : Below W7.heap.size W7 W8 := by rw [← hW8]; exact (Below.refl _ _).alloc (Nat.le_refl _) _
                  have kk8 : Bk W8 W7.heap.size 32 #[.int .i64 x9.1, .int .i64 x9.2] := by rw [← hW8]; exact Bk.new _ _ _
                  have kk9 := kk7.tn (Tn.of_below b8 []) (by simp)
                  have p0 : W8.cell? ⟨w7.heap.size, 0, none⟩ = some (.int .i64 x9.1) := kk9.cell 0
                  have p1 : W8.cell? ⟨w7.heap.size, 1, none⟩ = some (.int .i64 x9.2) := kk9.cell 1
                  have p2 : W8.cell? ⟨W7.heap.size, 0, none⟩ = some (.int .i64 x9.1) := kk8.cell 0
                  have p3 : W8.cell? ⟨W7.heap.size, 1, none⟩ = some (.int .i64 x9.2) := kk8.cell 1
                  have HK8 : Hid (Gs w W8 w.heap.size bs2 t2 n Mg Ml (fg t2) (fl t2)) := (HK7.still b7).still b8
                  have hcmp := hneq_eq (rfl : ((x9.1, x9.2) : Int × Int) = (x9.1, x9.2))
                  clear HK7 b7 kk7 b8 kk8 kk9 hst hlv9 hb7 hkw
                  go_wp2
                  go_roundw
                  case rel => exact ⟨k + 1, by omega, by go_num, HK8⟩
                  case measure => simp [intOf]; omega
                · go_wp2_with fail
                  refine (tLoad_none' HK.out.tb hst HZ.out).mono ?_
                  rintro e w7 ⟨rfl, hb7⟩
                  have HK7 := HK.out.still hb7
                  obtain ⟨W7, hW7⟩ : ∃ W7, w7.alloc (.cells #[.int .i64 z.1, .int .i64 z.2] 32) = W7 := ⟨_, rfl⟩
                  have b7 : Below w7.heap.size w7 W7 := by rw [← hW7]; exact (Below.refl _ _).alloc (Nat.le_refl _) _
                  have kk7 : Bk W7 w7.heap.size 32 #[.int .i64 z.1, .int .i64 z.2] := by rw [← hW7]; exact Bk.new _ _ _
                  have look := (HK7.still b7).lookL_none HK.out.tb.ok HK.out.size hkw hst HZ.out
                  obtain ⟨W8, hW8⟩ : ∃ W8, W7.alloc (.cells #[.int .i64 z.1, .int .i64 z.2] 32) = W8 := ⟨_, rfl⟩
                  have b8 : Below W7.heap.size W7 W8 := by rw [← hW8]; exact (Below.refl _ _).alloc (Nat.le_refl _) _
                  have kk8 : Bk W8 W7.heap.size 32 #[.int .i64 z.1, .int .i64 z.2] := by rw [← hW8]; exact Bk.new _ _ _
                  have kk9 := kk7.tn (Tn.of_below b8 []) (by simp)
                  have p0 : W8.cell? ⟨w7.heap.size, 0, none⟩ = some (.int .i64 z.1) := kk9.cell 0
                  have p1 : W8.cell? ⟨w7.heap.size, 1, none⟩ = some (.int .i64 z.2) := kk9.cell 1
                  have p2 : W8.cell? ⟨W7.heap.size, 0, none⟩ = some (.int .i64 z.1) := kk8.cell 0
                  have p3 : W8.cell? ⟨W7.heap.size, 1, none⟩ = some (.int .i64 z.2) := kk8.cell 1
                  have HK8 : Hid (Gs w W8 w.heap.size bs2 t2 n Mg Ml (fg t2) (fl t2)) := (HK7.still b7).still b8
                  have hcmp := hneq_eq (rfl : ((z.1, z.2) : Int × Int) = (z.1, z.2))
                  clear HK7 b7 kk7 b8 kk8 kk9 hst hb7 hkw
                  go_wp2
                  go_roundw
                  case rel => exact ⟨k + 1, by omega, by go_num, HK8⟩
                  case measure => simp [intOf]; omega
              · have hkli : ¬ (k : Int) < (n : Int) := by omega
                go_wp2
                go_roundw
                case rel => exact ⟨j + 1, bs2, t2, by omega, by go_num, HK⟩
                case measure => simp [intOf]; omega
        · have HP : Hid ((t.pg page).st ≠ 1) := hp
          clear hp
          as_aux_lemma =>
            have look := HGO.out.lookL_none HGO.out.tb.ok HGO.out.size HWF.out HP.out HZ.out
            obtain ⟨W3, hW3⟩ : ∃ W3, wo.alloc (.cells #[.int .i64 z.1, .int .i64 z.2] 32) = W3 := ⟨_, rfl⟩
            have b3 : Below wo.heap.size wo W3 := by rw [← hW3]; exact (Below.refl _ _).alloc (Nat.le_refl _) _
            have hg3 := HGO.out.still b3
            have hk3 := HKO.out.tn (Tn.of_below b3 []) (by simp)
            have e1 : W3.cell? ⟨wr.heap.size, 1, none⟩ = some (.int .i64 page) := hk3.cell 1
            have HG3 : Hid (Gs w W3 w.heap.size bs t n Mg Ml (fg t) (fl t)) := hg3
            clear hk3 hg3 b3
            go_wp2_with fail
            refine (tRetire_none HG3.out.tb HP.out).mono ?_
            rintro e W3 ⟨rfl, rfl⟩
            have HGI : Hid (Gs w W3 w.heap.size bs t n Mg Ml (fg t) (fl t)) := HG3
            clear HGO HKO HD
            go_wp2_with fail
            go_loopw [181] (fun kv wv => ∃ k : Nat, k ≤ n ∧ kv = .int .i64 k ∧ Hid (Gs w wv w.heap.size bs t n Mg Ml (fg t) (fl t))) (fun kv _ => n - (intOf kv).toNat)
            case atStart => exact ⟨0, Nat.zero_le _, rfl, HGI⟩
            case round =>
              obtain ⟨k, hk, rfl, HK⟩ := hrel
              by_cases hkl : k < n
              · have hkli : (k : Int) < (n : Int) := by omega
                have hkw : (Lit.int .i64 (k : Int)).wf = true := WalkArith.wf_i64 (by omega)
                by_cases hst : (Tb.pg t (k : Int)).st = 1
                · obtain ⟨c9, x9, m9, hlv9⟩ := Pa.st1.1 hst
                  go_wp2_with fail
                  refine (tLoad_live HK.out.tb hlv9).mono ?_
                  rintro e w7 ⟨rfl, hb7⟩
                  have HK7 := HK.out.still hb7
                  obtain ⟨W7, hW7⟩ : ∃ W7, w7.alloc (.cells #[.int .i64 x9.1, .int .i64 x9.2] 32) = W7 := ⟨_, rfl⟩
                  have b7 : Below w7.heap.size w7 W7 := by rw [← hW7]; exact (Below.refl _ _).alloc (Nat.le_refl _) _
                  have kk7 : Bk W7 w7.heap.size 32 #[.int .i64 x9.1, .int .i64 x9.2] := by rw [← hW7]; exact Bk.new _ _ _
                  have look := (HK7.still b7).lookL_live HK.out.tb.ok HK.out.size hkw hlv9
                  obtain ⟨W8, hW8⟩ : ∃ W8, W7.alloc (.cells #[.int .i64 x9.1, .int .i64 x9.2] 32) = W8 := ⟨_, rfl⟩
                  have b8 : Below W7.heap.size W7 W8 := by rw [← hW8]; exact (Below.refl _ _).alloc (Nat.le_refl _) _
                  have kk8 : Bk W8 W7.heap.size 32 #[.int .i64 x9.1, .int .i64 x9.2] := by rw [← hW8]; exact Bk.new _ _ _
                  have kk9 := kk7.tn (Tn.of_below b8 []) (by simp)
                  have p0 : W8.cell? ⟨w7.heap.size, 0, none⟩ = some (.int .i64 x9.1) := kk9.cell 0
                  have p1 : W8.cell? ⟨w7.heap.size, 1, none⟩ = some (.int .i64 x9.2) := kk9.cell 1
                  have p2 : W8.cell? ⟨W7.heap.size, 0, none⟩ = some (.int .i64 x9.1) := kk8.cell 0
                  have p3 : W8.cell? ⟨W7.heap.size, 1, none⟩ = some (.int .i64 x9.2) := kk8.cell 1
                  have HK8 : Hid (Gs w W8 w.heap.size bs t n Mg Ml (fg t) (fl t)) := (HK7.still b7).still b8
                  have hcmp := hneq_eq (rfl : ((x9.1, x9.2) : Int × Int) = (x9.1, x9.2))
                  clear HK7 b7 kk7 b8 kk8 kk9 hst hlv9 hb7 hkw
                  go_wp2
                  go_roundw
                  case rel => exact ⟨k + 1, by omega, by go_num, HK8⟩
                  case measure => simp [intOf]; omega
                · go_wp2_with fail
                  refine (tLoad_none' HK.out.tb hst HZ.out).mono ?_
                  rintro e w7 ⟨rfl, hb7⟩
                  have HK7 := HK.out.still hb7
                  obtain ⟨W7, hW7⟩ : ∃ W7, w7.alloc (.cells #[.int .i64 z.1, .int .i64 z.2] 32) = W7 := ⟨_, rfl⟩
                  have b7 : Below w7.heap.size w7 W7 := by rw [← hW7]; exact (Below.refl _ _).alloc (Nat.le_refl _) _
                  have kk7 : Bk W7 w7.heap.size 32 #[.int .i64 z.1, .int .i64 z.2] := by rw [← hW7]; exact Bk.new _ _ _
                  have look := (HK7.still b7).lookL_none HK.out.tb.ok HK.out.size hkw hst HZ.out
                  obtain ⟨W8, hW8⟩ : ∃ W8, W7.alloc (.cells #[.int .i64 z.1, .int .i64 z.2] 32) = W8 := ⟨_, rfl⟩
                  have b8 : Below W7.heap.size W7 W8 := by rw [← hW8]; exact (Below.refl _ _).alloc (Nat.le_refl _) _
                  have kk8 : Bk W8 W7.heap.size 32 #[.int .i64 z.1, .int .i64 z.2] := by rw [← hW8]; exact Bk.new _ _ _
                  have kk9 := kk7.tn (Tn.of_below b8 []) (by simp)
                  have p0 : W8.cell? ⟨w7.heap.size, 0, none⟩ = some (.int .i64 z.1) := kk9.cell 0
                  have p1 : W8.cell? ⟨w7.heap.size, 1, none⟩ = some (.int .i64 z.2) := kk9.cell 1
                  have p2 : W8.cell? ⟨W7.heap.size, 0, none⟩ = some (.int .i64 z.1) := kk8.cell 0
                  have p3 : W8.cell? ⟨W7.heap.size, 1, none⟩ = some (.int .i64 z.2) := kk8.cell 1
                  have HK8 : Hid (Gs w W8 w.heap.size bs t n Mg Ml (fg t) (fl t)) := (HK7.still b7).still b8
                  have hcmp := hneq_eq (rfl : ((z.1, z.2) : Int × Int) = (z.1, z.2))
                  clear HK7 b7 kk7 b8 kk8 kk9 hst hb7 hkw
                  go_wp2
                  go_roundw
                  case rel => exact ⟨k + 1, by omega, by go_num, HK8⟩
                  case measure => simp [intOf]; omega
              · have hkli : ¬ (k : Int) < (n : Int) := by omega
                go_wp2
                go_roundw
                case rel => exact ⟨j + 1, bs, t, by omega, by go_num, HK⟩
                case measure => simp [intOf]; omega
      by_cases dd4 : dd = 4
      · subst dd4
        by_cases hp : (t.pg page).st = 2
        · have HP : Hid ((t.pg page).st = 2) := hp
          clear hp
          as_aux_lemma =>
            have HDR : Hid (Gs w wo.drew w.heap.size bs t n Mg Ml (fg t) (fl t)) := HGO.out.still (Below.refl _ _).drew
            have lk0 := HDR.out.lookG_gone HGO.out.tb.ok HGO.out.size HWF.out HP.out
            go_wp2_with fail
            go_region_held3 (fun v => v.cell? ⟨wr.heap.size, 1, none⟩ = some (.int .i64 page) ∧ (Instr.lookup 40 (.map (some Mg)) (.int .i64 page) false).run Tryd.prog v = .ok (.bool true) v) (go_keep) (first
              | (go_at_call 17; refine (tRelease_gone HDR.out.tb (Pa.st2.1 HP.out)).mono ?_; rintro e v ⟨rfl, t2, hU, hT2⟩; obtain ⟨ht2, bs2, hg2⟩ := HDR.out.turn (by rw [hU.1]; exact HGO.out.size) hT2; have c1 : v.cell? ⟨wr.heap.size, 1, none⟩ = some (.int .i64 page) := (HKO.out.drew.tn ht2 HD.out).cell 1; have lk1 := hg2.lookG_gone HGO.out.tb.ok HGO.out.size HWF.out HP.out; obtain ⟨w5, hrun5, hM5, hT5⟩ := hg2.mg.del Tryd.underlying40 page HWF.out 0; have hg5 := hg2.putG hM5 hT5; rw [fg_free hU, ← fl_free hU (Pa.st2.1 HP.out)] at hg5; have HG5 : Hid (Gs w w5 w.heap.size bs2 t2 n Mg Ml (fg t2) (fl t2)) := hg5; clear hg5 hM5 hT5 hg2 ht2 hU hT2))
            all_goals clear HDR lk0
            · have HGI : Hid (Gs w w5 w.heap.size bs2 t2 n Mg Ml (fg t2) (fl t2)) := HG5
              clear HGO HKO HD
              go_wp2_with fail
              go_loopw [181] (fun kv wv => ∃ k : Nat, k ≤ n ∧ kv = .int .i64 k ∧ Hid (Gs w wv w.heap.size bs2 t2 n Mg Ml (fg t2) (fl t2))) (fun kv _ => n - (intOf kv).toNat)
              case atStart => exact ⟨0, Nat.zero_le _, rfl, HGI⟩
              case round =>
                obtain ⟨k, hk, rfl, HK⟩ := hrel
                by_cases hkl : k < n
                · have hkli : (k : Int) < (n : Int) := by omega
                  have hkw : (Lit.int .i64 (k : Int)).wf = true := WalkArith.wf_i64 (by omega)
                  by_cases hst : (Tb.pg t2 (k : Int)).st = 1
                  · obtain ⟨c9, x9, m9, hlv9⟩ := Pa.st1.1 hst
                    go_wp2_with fail
                    refine (tLoad_live HK.out.tb hlv9).mono ?_
                    rintro e w7 ⟨rfl, hb7⟩
                    have HK7 := HK.out.still hb7
                    obtain ⟨W7, hW7⟩ : ∃ W7, w7.alloc (.cells #[.int .i64 x9.1, .int .i64 x9.2] 32) = W7 := ⟨_, rfl⟩
                    have b7 : Below w7.heap.size w7 W7 := by rw [← hW7]; exact (Below.refl _ _).alloc (Nat.le_refl _) _
                    have kk7 : Bk W7 w7.heap.size 32 #[.int .i64 x9.1, .int .i64 x9.2] := by rw [← hW7]; exact Bk.new _ _ _
                    have look := (HK7.still b7).lookL_live HK.out.tb.ok HK.out.size hkw hlv9
                    obtain ⟨W8, hW8⟩ : ∃ W8, W7.alloc (.cells #[.int .i64 x9.1, .int .i64 x9.2] 32) = W8 := ⟨_, rfl⟩
                    have b8 : Below W7.heap.size W7 W8 := by rw [← hW8]; exact (Below.refl _ _).alloc (Nat.le_refl _) _
                    have kk8 : Bk W8 W7.heap.size 32 #[.int .i64 x9.1, .int .i64 x9.2] := by rw [← hW8]; exact Bk.new _ _ _
                    have kk9 := kk7.tn (Tn.of_below b8 []) (by simp)
                    have p0 : W8.cell? ⟨w7.heap.size, 0, none⟩ = some (.int .i64 x9.1) := kk9.cell 0
                    have p1 : W8.cell? ⟨w7.heap.size, 1, none⟩ = some (.int .i64 x9.2) := kk9.cell 1
                    have p2 : W8.cell? ⟨W7.heap.size, 0, none⟩ = some (.int .i64 x9.1) := kk8.cell 0
                    have p3 : W8.cell? ⟨W7.heap.size, 1, none⟩ = some (.int .i64 x9.2) := kk8.cell 1
                    have HK8 : Hid (Gs w W8 w.heap.size bs2 t2 n Mg Ml (fg t2) (fl t2)) := (HK7.still b7).still b8
                    have hcmp := hneq_eq (rfl : ((x9.1, x9.2) : Int × Int) = (x9.1, x9.2))
                    clear HK7 b7 kk7 b8 kk8 kk9 hst hlv9 hb7 hkw
                    go_wp2
                    go_roundw
                    case rel => exact ⟨k + 1, by omega, by go_num, HK8⟩
                    case measure => simp [intOf]; omega
                  · go_wp2_with fail
                    refine (tLoad_none' HK.out.tb hst HZ.out).mono ?_
                    rintro e w7 ⟨rfl, hb7⟩
                    have HK7 := HK.out.still hb7
                    obtain ⟨W7, hW7⟩ : ∃ W7, w7.alloc (.cells #[.int .i64 z.1, .int .i64 z.2] 32) = W7 := ⟨_, rfl⟩
                    have b7 : Below w7.heap.size w7 W7 := by rw [← hW7]; exact (Below.refl _ _).alloc (Nat.le_refl _) _
                    have kk7 : Bk W7 w7.heap.size 32 #[.int .i64 z.1, .int .i64 z.2] := by rw [← hW7]; exact Bk.new _ _ _
                    have look := (HK7.still b7).lookL_none HK.out.tb.ok HK.out.size hkw hst HZ.out
                    obtain ⟨W8, hW8⟩ : ∃ W8, W7.alloc (.cells #[.int .i64 z.1, .int .i64 z.2] 32) = W8 := ⟨_, rfl⟩
                    have b8 : Below W7.heap.size W7 W8 := by rw [← hW8]; exact (Below.refl _ _).alloc (Nat.le_refl _) _
                    have kk8 : Bk W8 W7.heap.size 32 #[.int .i64 z.1, .int .i64 z.2] := by rw [← hW8]; exact Bk.new _ _ _
                    have kk9 := kk7.tn (Tn.of_below b8 []) (by simp)
                    have p0 : W8.cell? ⟨w7.heap.size, 0, none⟩ = some (.int .i64 z.1) := kk9.cell 0
                    have p1 : W8.cell? ⟨w7.heap.size, 1, none⟩ = some (.int .i64 z.2) := kk9.cell 1
                    have p2 : W8.cell? ⟨W7.heap.size, 0, none⟩ = some (.int .i64 z.1) := kk8.cell 0
                    have p3 : W8.cell? ⟨W7.heap.size, 1, none⟩ = some (.int .i64 z.2) := kk8.cell 1
                    have HK8 : Hid (Gs w W8 w.heap.size bs2 t2 n Mg Ml (fg t2) (fl t2)) := (HK7.still b7).still b8
                    have hcmp := hneq_eq (rfl : ((z.1, z.2) : Int × Int) = (z.1, z.2))
                    clear HK7 b7 kk7 b8 kk8 kk9 hst hb7 hkw
                    go_wp2
                    go_roundw
                    case rel => exact ⟨k + 1, by omega, by go_num, HK8⟩
                    case measure => simp [intOf]; omega
                · have hkli : ¬ (k : Int) < (n : Int) := by omega
                  go_wp2
                  go_roundw
                  case rel => exact ⟨j + 1, bs2, t2, by omega, by go_num, HK⟩
                  case measure => simp [intOf]; omega
            · have HGI : Hid (Gs w w5 w.heap.size bs2 t2 n Mg Ml (fg t2) (fl t2)) := HG5
              clear HGO HKO HD
              go_wp2_with fail
              go_loopw [181] (fun kv wv => ∃ k : Nat, k ≤ n ∧ kv = .int .i64 k ∧ Hid (Gs w wv w.heap.size bs2 t2 n Mg Ml (fg t2) (fl t2))) (fun kv _ => n - (intOf kv).toNat)
              case atStart => exact ⟨0, Nat.zero_le _, rfl, HGI⟩
              case round =>
                obtain ⟨k, hk, rfl, HK⟩ := hrel
                by_cases hkl : k < n
                · have hkli : (k : Int) < (n : Int) := by omega
                  have hkw : (Lit.int .i64 (k : Int)).wf = true := WalkArith.wf_i64 (by omega)
                  by_cases hst : (Tb.pg t2 (k : Int)).st = 1
                  · obtain ⟨c9, x9, m9, hlv9⟩ := Pa.st1.1 hst
                    go_wp2_with fail
                    refine (tLoad_live HK.out.tb hlv9).mono ?_
                    rintro e w7 ⟨rfl, hb7⟩
                    have HK7 := HK.out.still hb7
                    obtain ⟨W7, hW7⟩ : ∃ W7, w7.alloc (.cells #[.int .i64 x9.1, .int .i64 x9.2] 32) = W7 := ⟨_, rfl⟩
                    have b7 : Below w7.heap.size w7 W7 := by rw [← hW7]; exact (Below.refl _ _).alloc (Nat.le_refl _) _
                    have kk7 : Bk W7 w7.heap.size 32 #[.int .i64 x9.1, .int .i64 x9.2] := by rw [← hW7]; exact Bk.new _ _ _
                    have look := (HK7.still b7).lookL_live HK.out.tb.ok HK.out.size hkw hlv9
                    obtain ⟨W8, hW8⟩ : ∃ W8, W7.alloc (.cells #[.int .i64 x9.1, .int .i64 x9.2] 32) = W8 := ⟨_, rfl⟩
                    have b8 : Below W7.heap.size W7 W8 := by rw [← hW8]; exact (Below.refl _ _).alloc (Nat.le_refl _) _
                    have kk8 : Bk W8 W7.heap.size 32 #[.int .i64 x9.1, .int .i64 x9.2] := by rw [← hW8]; exact Bk.new _ _ _
                    have kk9 := kk7.tn (Tn.of_below b8 []) (by simp)
                    have p0 : W8.cell? ⟨w7.heap.size, 0, none⟩ = some (.int .i64 x9.1) := kk9.cell 0
                    have p1 : W8.cell? ⟨w7.heap.size, 1, none⟩ = some (.int .i64 x9.2) := kk9.cell 1
                    have p2 : W8.cell? ⟨W7.heap.size, 0, none⟩ = some (.int .i64 x9.1) := kk8.cell 0
                    have p3 : W8.cell? ⟨W7.heap.size, 1, none⟩ = some (.int .i64 x9.2) := kk8.cell 1
                    have HK8 : Hid (Gs w W8 w.heap.size bs2 t2 n Mg Ml (fg t2) (fl t2)) := (HK7.still b7).still b8
                    have hcmp := hneq_eq (rfl : ((x9.1, x9.2) : Int × Int) = (x9.1, x9.2))
                    clear HK7 b7 kk7 b8 kk8 kk9 hst hlv9 hb7 hkw
                    go_wp2
                    go_roundw
                    case rel => exact ⟨k + 1, by omega, by go_num, HK8⟩
                    case measure => simp [intOf]; omega
                  · go_wp2_with fail
                    refine (tLoad_none' HK.out.tb hst HZ.out).mono ?_
                    rintro e w7 ⟨rfl, hb7⟩
                    have HK7 := HK.out.still hb7
                    obtain ⟨W7, hW7⟩ : ∃ W7, w7.alloc (.cells #[.int .i64 z.1, .int .i64 z.2] 32) = W7 := ⟨_, rfl⟩
                    have b7 : Below w7.heap.size w7 W7 := by rw [← hW7]; exact (Below.refl _ _).alloc (Nat.le_refl _) _
                    have kk7 : Bk W7 w7.heap.size 32 #[.int .i64 z.1, .int .i64 z.2] := by rw [← hW7]; exact Bk.new _ _ _
                    have look := (HK7.still b7).lookL_none HK.out.tb.ok HK.out.size hkw hst HZ.out
                    obtain ⟨W8, hW8⟩ : ∃ W8, W7.alloc (.cells #[.int .i64 z.1, .int .i64 z.2] 32) = W8 := ⟨_, rfl⟩
                    have b8 : Below W7.heap.size W7 W8 := by rw [← hW8]; exact (Below.refl _ _).alloc (Nat.le_refl _) _
                    have kk8 : Bk W8 W7.heap.size 32 #[.int .i64 z.1, .int .i64 z.2] := by rw [← hW8]; exact Bk.new _ _ _
                    have kk9 := kk7.tn (Tn.of_below b8 []) (by simp)
                    have p0 : W8.cell? ⟨w7.heap.size, 0, none⟩ = some (.int .i64 z.1) := kk9.cell 0
                    have p1 : W8.cell? ⟨w7.heap.size, 1, none⟩ = some (.int .i64 z.2) := kk9.cell 1
                    have p2 : W8.cell? ⟨W7.heap.size, 0, none⟩ = some (.int .i64 z.1) := kk8.cell 0
                    have p3 : W8.cell? ⟨W7.heap.size, 1, none⟩ = some (.int .i64 z.2) := kk8.cell 1
                    have HK8 : Hid (Gs w W8 w.heap.size bs2 t2 n Mg Ml (fg t2) (fl t2)) := (HK7.still b7).still b8
                    have hcmp := hneq_eq (rfl : ((z.1, z.2) : Int × Int) = (z.1, z.2))
                    clear HK7 b7 kk7 b8 kk8 kk9 hst hb7 hkw
                    go_wp2
                    go_roundw
                    case rel => exact ⟨k + 1, by omega, by go_num, HK8⟩
                    case measure => simp [intOf]; omega
                · have hkli : ¬ (k : Int) < (n : Int) := by omega
                  go_wp2
                  go_roundw
                  case rel => exact ⟨j + 1, bs2, t2, by omega, by go_num, HK⟩
                  case measure => simp [intOf]; omega
        · have HP : Hid ((t.pg page).st ≠ 2) := hp
          clear hp
          as_aux_lemma =>
            have HDR : Hid (Gs w wo.drew w.heap.size bs t n Mg Ml (fg t) (fl t)) := HGO.out.still (Below.refl _ _).drew
            obtain ⟨w5, hrun5, hM5, hT5⟩ := HDR.out.mg.del Tryd.underlying40 page HWF.out 0
            have hg5 := HDR.out.putG hM5 hT5
            rw [fg_none HP.out] at hg5
            have HG5 : Hid (Gs w w5 w.heap.size bs t n Mg Ml (fg t) (fl t)) := hg5
            clear hg5 hM5 hT5
            have lk0 := HDR.out.lookG_none HGO.out.tb.ok HGO.out.size HWF.out HP.out
            go_wp2_with fail
            go_region_held3 (fun v => v.cell? ⟨wr.heap.size, 1, none⟩ = some (.int .i64 page) ∧ (Instr.lookup 40 (.map (some Mg)) (.int .i64 page) false).run Tryd.prog v = .ok (.bool false) v) (go_keep) (first
              | (go_at_call 17; refine (tRelease_none HDR.out.tb HP.out).mono ?_; rintro e v ⟨rfl, rfl⟩))
            all_goals clear HDR lk0
            · have HGI : Hid (Gs w w5 w.heap.size bs t n Mg Ml (fg t) (fl t)) := HG5
              clear HGO HKO HD
              go_wp2_with fail
              go_loopw [181] (fun kv wv => ∃ k : Nat, k ≤ n ∧ kv = .int .i64 k ∧ Hid (Gs w wv w.heap.size bs t n Mg Ml (fg t) (fl t))) (fun kv _ => n - (intOf kv).toNat)
              case atStart => exact ⟨0, Nat.zero_le _, rfl, HGI⟩
              case round =>
                obtain ⟨k, hk, rfl, HK⟩ := hrel
                by_cases hkl : k < n
                · have hkli : (k : Int) < (n : Int) := by omega
                  have hkw : (Lit.int .i64 (k : Int)).wf = true := WalkArith.wf_i64 (by omega)
                  by_cases hst : (Tb.pg t (k : Int)).st = 1
                  · obtain ⟨c9, x9, m9, hlv9⟩ := Pa.st1.1 hst
                    go_wp2_with fail
                    refine (tLoad_live HK.out.tb hlv9).mono ?_
                    rintro e w7 ⟨rfl, hb7⟩
                    have HK7 := HK.out.still hb7
                    obtain ⟨W7, hW7⟩ : ∃ W7, w7.alloc (.cells #[.int .i64 x9.1, .int .i64 x9.2] 32) = W7 := ⟨_, rfl⟩
                    have b7 : Below w7.heap.size w7 W7 := by rw [← hW7]; exact (Below.refl _ _).alloc (Nat.le_refl _) _
                    have kk7 : Bk W7 w7.heap.size 32 #[.int .i64 x9.1, .int .i64 x9.2] := by rw [← hW7]; exact Bk.new _ _ _
                    have look := (HK7.still b7).lookL_live HK.out.tb.ok HK.out.size hkw hlv9
                    obtain ⟨W8, hW8⟩ : ∃ W8, W7.alloc (.cells #[.int .i64 x9.1, .int .i64 x9.2] 32) = W8 := ⟨_, rfl⟩
                    have b8 : Below W7.heap.size W7 W8 := by rw [← hW8]; exact (Below.refl _ _).alloc (Nat.le_refl _) _
                    have kk8 : Bk W8 W7.heap.size 32 #[.int .i64 x9.1, .int .i64 x9.2] := by rw [← hW8]; exact Bk.new _ _ _
                    have kk9 := kk7.tn (Tn.of_below b8 []) (by simp)
                    have p0 : W8.cell? ⟨w7.heap.size, 0, none⟩ = some (.int .i64 x9.1) := kk9.cell 0
                    have p1 : W8.cell? ⟨w7.heap.size, 1, none⟩ = some (.int .i64 x9.2) := kk9.cell 1
                    have p2 : W8.cell? ⟨W7.heap.size, 0, none⟩ = some (.int .i64 x9.1) := kk8.cell 0
                    have p3 : W8.cell? ⟨W7.heap.size, 1, none⟩ = some (.int .i64 x9.2) := kk8.cell 1
                    have HK8 : Hid (Gs w W8 w.heap.size bs t n Mg Ml (fg t) (fl t)) := (HK7.still b7).still b8
                    have hcmp := hneq_eq (rfl : ((x9.1, x9.2) : Int × Int) = (x9.1, x9.2))
                    clear HK7 b7 kk7 b8 kk8 kk9 hst hlv9 hb7 hkw
                    go_wp2
                    go_roundw
                    case rel => exact ⟨k + 1, by omega, by go_num, HK8⟩
                    case measure => simp [intOf]; omega
                  · go_wp2_with fail
                    refine (tLoad_none' HK.out.tb hst HZ.out).mono ?_
                    rintro e w7 ⟨rfl, hb7⟩
                    have HK7 := HK.out.still hb7
                    obtain ⟨W7, hW7⟩ : ∃ W7, w7.alloc (.cells #[.int .i64 z.1, .int .i64 z.2] 32) = W7 := ⟨_, rfl⟩
                    have b7 : Below w7.heap.size w7 W7 := by rw [← hW7]; exact (Below.refl _ _).alloc (Nat.le_refl _) _
                    have kk7 : Bk W7 w7.heap.size 32 #[.int .i64 z.1, .int .i64 z.2] := by rw [← hW7]; exact Bk.new _ _ _
                    have look := (HK7.still b7).lookL_none HK.out.tb.ok HK.out.size hkw hst HZ.out
                    obtain ⟨W8, hW8⟩ : ∃ W8, W7.alloc (.cells #[.int .i64 z.1, .int .i64 z.2] 32) = W8 := ⟨_, rfl⟩
                    have b8 : Below W7.heap.size W7 W8 := by rw [← hW8]; exact (Below.refl _ _).alloc (Nat.le_refl _) _
                    have kk8 : Bk W8 W7.heap.size 32 #[.int .i64 z.1, .int .i64 z.2] := by rw [← hW8]; exact Bk.new _ _ _
                    have kk9 := kk7.tn (Tn.of_below b8 []) (by simp)
                    have p0 : W8.cell? ⟨w7.heap.size, 0, none⟩ = some (.int .i64 z.1) := kk9.cell 0
                    have p1 : W8.cell? ⟨w7.heap.size, 1, none⟩ = some (.int .i64 z.2) := kk9.cell 1
                    have p2 : W8.cell? ⟨W7.heap.size, 0, none⟩ = some (.int .i64 z.1) := kk8.cell 0
                    have p3 : W8.cell? ⟨W7.heap.size, 1, none⟩ = some (.int .i64 z.2) := kk8.cell 1
                    have HK8 : Hid (Gs w W8 w.heap.size bs t n Mg Ml (fg t) (fl t)) := (HK7.still b7).still b8
                    have hcmp := hneq_eq (rfl : ((z.1, z.2) : Int × Int) = (z.1, z.2))
                    clear HK7 b7 kk7 b8 kk8 kk9 hst hb7 hkw
                    go_wp2
                    go_roundw
                    case rel => exact ⟨k + 1, by omega, by go_num, HK8⟩
                    case measure => simp [intOf]; omega
                · have hkli : ¬ (k : Int) < (n : Int) := by omega
                  go_wp2
                  go_roundw
                  case rel => exact ⟨j + 1, bs, t, by omega, by go_num, HK⟩
                  case measure => simp [intOf]; omega
            · have HGI : Hid (Gs w w5 w.heap.size bs t n Mg Ml (fg t) (fl t)) := HG5
              clear HGO HKO HD
              go_wp2_with fail
              go_loopw [181] (fun kv wv => ∃ k : Nat, k ≤ n ∧ kv = .int .i64 k ∧ Hid (Gs w wv w.heap.size bs t n Mg Ml (fg t) (fl t))) (fun kv _ => n - (intOf kv).toNat)
              case atStart => exact ⟨0, Nat.zero_le _, rfl, HGI⟩
              case round =>
                obtain ⟨k, hk, rfl, HK⟩ := hrel
                by_cases hkl : k < n
                · have hkli : (k : Int) < (n : Int) := by omega
                  have hkw : (Lit.int .i64 (k : Int)).wf = true := WalkArith.wf_i64 (by omega)
                  by_cases hst : (Tb.pg t (k : Int)).st = 1
                  · obtain ⟨c9, x9, m9, hlv9⟩ := Pa.st1.1 hst
                    go_wp2_with fail
                    refine (tLoad_live HK.out.tb hlv9).mono ?_
                    rintro e w7 ⟨rfl, hb7⟩
                    have HK7 := HK.out.still hb7
                    obtain ⟨W7, hW7⟩ : ∃ W7, w7.alloc (.cells #[.int .i64 x9.1, .int .i64 x9.2] 32) = W7 := ⟨_, rfl⟩
                    have b7 : Below w7.heap.size w7 W7 := by rw [← hW7]; exact (Below.refl _ _).alloc (Nat.le_refl _) _
                    have kk7 : Bk W7 w7.heap.size 32 #[.int .i64 x9.1, .int .i64 x9.2] := by rw [← hW7]; exact Bk.new _ _ _
                    have look := (HK7.still b7).lookL_live HK.out.tb.ok HK.out.size hkw hlv9
                    obtain ⟨W8, hW8⟩ : ∃ W8, W7.alloc (.cells #[.int .i64 x9.1, .int .i64 x9.2] 32) = W8 := ⟨_, rfl⟩
                    have b8 : Below W7.heap.size W7 W8 := by rw [← hW8]; exact (Below.refl _ _).alloc (Nat.le_refl _) _
                    have kk8 : Bk W8 W7.heap.size 32 #[.int .i64 x9.1, .int .i64 x9.2] := by rw [← hW8]; exact Bk.new _ _ _
                    have kk9 := kk7.tn (Tn.of_below b8 []) (by simp)
                    have p0 : W8.cell? ⟨w7.heap.size, 0, none⟩ = some (.int .i64 x9.1) := kk9.cell 0
                    have p1 : W8.cell? ⟨w7.heap.size, 1, none⟩ = some (.int .i64 x9.2) := kk9.cell 1
                    have p2 : W8.cell? ⟨W7.heap.size, 0, none⟩ = some (.int .i64 x9.1) := kk8.cell 0
                    have p3 : W8.cell? ⟨W7.heap.size, 1, none⟩ = some (.int .i64 x9.2) := kk8.cell 1
                    have HK8 : Hid (Gs w W8 w.heap.size bs t n Mg Ml (fg t) (fl t)) := (HK7.still b7).still b8
                    have hcmp := hneq_eq (rfl : ((x9.1, x9.2) : Int × Int) = (x9.1, x9.2))
                    clear HK7 b7 kk7 b8 kk8 kk9 hst hlv9 hb7 hkw
                    go_wp2
                    go_roundw
                    case rel => exact ⟨k + 1, by omega, by go_num, HK8⟩
                    case measure => simp [intOf]; omega
                  · go_wp2_with fail
                    refine (tLoad_none' HK.out.tb hst HZ.out).mono ?_
                    rintro e w7 ⟨rfl, hb7⟩
                    have HK7 := HK.out.still hb7
                    obtain ⟨W7, hW7⟩ : ∃ W7, w7.alloc (.cells #[.int .i64 z.1, .int .i64 z.2] 32) = W7 := ⟨_, rfl⟩
                    have b7 : Below w7.heap.size w7 W7 := by rw [← hW7]; exact (Below.refl _ _).alloc (Nat.le_refl _) _
                    have kk7 : Bk W7 w7.heap.size 32 #[.int .i64 z.1, .int .i64 z.2] := by rw [← hW7]; exact Bk.new _ _ _
                    have look := (HK7.still b7).lookL_none HK.out.tb.ok HK.out.size hkw hst HZ.out
                    obtain ⟨W8, hW8⟩ : ∃ W8, W7.alloc (.cells #[.int .i64 z.1, .int .i64 z.2] 32) = W8 := ⟨_, rfl⟩
                    have b8 : Below W7.heap.size W7 W8 := by rw [← hW8]; exact (Below.refl _ _).alloc (Nat.le_refl _) _
                    have kk8 : Bk W8 W7.heap.size 32 #[.int .i64 z.1, .int .i64 z.2] := by rw [← hW8]; exact Bk.new _ _ _
                    have kk9 := kk7.tn (Tn.of_below b8 []) (by simp)
                    have p0 : W8.cell? ⟨w7.heap.size, 0, none⟩ = some (.int .i64 z.1) := kk9.cell 0
                    have p1 : W8.cell? ⟨w7.heap.size, 1, none⟩ = some (.int .i64 z.2) := kk9.cell 1
                    have p2 : W8.cell? ⟨W7.heap.size, 0, none⟩ = some (.int .i64 z.1) := kk8.cell 0
                    have p3 : W8.cell? ⟨W7.heap.size, 1, none⟩ = some (.int .i64 z.2) := kk8.cell 1
                    have HK8 : Hid (Gs w W8 w.heap.size bs t n Mg Ml (fg t) (fl t)) := (HK7.still b7).still b8
                    have hcmp := hneq_eq (rfl : ((z.1, z.2) : Int × Int) = (z.1, z.2))
                    clear HK7 b7 kk7 b8 kk8 kk9 hst hb7 hkw
                    go_wp2
                    go_roundw
                    case rel => exact ⟨k + 1, by omega, by go_num, HK8⟩
                    case measure => simp [intOf]; omega
                · have hkli : ¬ (k : Int) < (n : Int) := by omega
                  go_wp2
                  go_roundw
                  case rel => exact ⟨j + 1, bs, t, by omega, by go_num, HK⟩
                  case measure => simp [intOf]; omega
      as_aux_lemma =>
        have q0 : (dd == 0) = false := by simp [dd0]
        have q2 : (dd == 2) = false := by simp [dd2]
        have q3 : (dd == 3) = false := by simp [dd3]
        have q4 : (dd == 4) = false := by simp [dd4]
        have HGI : Hid (Gs w wo w.heap.size bs t n Mg Ml (fg t) (fl t)) := HGO
        clear HGO HKO HD
        go_wp2_with fail
        try simp only [q0, q2, q3, q4]
        go_loopw [181] (fun kv wv => ∃ k : Nat, k ≤ n ∧ kv = .int .i64 k ∧ Hid (Gs w wv w.heap.size bs t n Mg Ml (fg t) (fl t))) (fun kv _ => n - (intOf kv).toNat)
        case atStart => exact ⟨0, Nat.zero_le _, rfl, HGI⟩
        case round =>
          obtain ⟨k, hk, rfl, HK⟩ := hrel
          by_cases hkl : k < n
          · have hkli : (k : Int) < (n : Int) := by omega
            have hkw : (Lit.int .i64 (k : Int)).wf = true := WalkArith.wf_i64 (by omega)
            by_cases hst : (Tb.pg t (k : Int)).st = 1
            · obtain ⟨c9, x9, m9, hlv9⟩ := Pa.st1.1 hst
              go_wp2_with fail
              refine (tLoad_live HK.out.tb hlv9).mono ?_
              rintro e w7 ⟨rfl, hb7⟩
              have HK7 := HK.out.still hb7
              obtain ⟨W7, hW7⟩ : ∃ W7, w7.alloc (.cells #[.int .i64 x9.1, .int .i64 x9.2] 32) = W7 := ⟨_, rfl⟩
              have b7 : Below w7.heap.size w7 W7 := by rw [← hW7]; exact (Below.refl _ _).alloc (Nat.le_refl _) _
              have kk7 : Bk W7 w7.heap.size 32 #[.int .i64 x9.1, .int .i64 x9.2] := by rw [← hW7]; exact Bk.new _ _ _
              have look := (HK7.still b7).lookL_live HK.out.tb.ok HK.out.size hkw hlv9
              obtain ⟨W8, hW8⟩ : ∃ W8, W7.alloc (.cells #[.int .i64 x9.1, .int .i64 x9.2] 32) = W8 := ⟨_, rfl⟩
              have b8 : Below W7.heap.size W7 W8 := by rw [← hW8]; exact (Below.refl _ _).alloc (Nat.le_refl _) _
              have kk8 : Bk W8 W7.heap.size 32 #[.int .i64 x9.1, .int .i64 x9.2] := by rw [← hW8]; exact Bk.new _ _ _
              have kk9 := kk7.tn (Tn.of_below b8 []) (by simp)
              have p0 : W8.cell? ⟨w7.heap.size, 0, none⟩ = some (.int .i64 x9.1) := kk9.cell 0
              have p1 : W8.cell? ⟨w7.heap.size, 1, none⟩ = some (.int .i64 x9.2) := kk9.cell 1
              have p2 : W8.cell? ⟨W7.heap.size, 0, none⟩ = some (.int .i64 x9.1) := kk8.cell 0
              have p3 : W8.cell? ⟨W7.heap.size, 1, none⟩ = some (.int .i64 x9.2) := kk8.cell 1
              have HK8 : Hid (Gs w W8 w.heap.size bs t n Mg Ml (fg t) (fl t)) := (HK7.still b7).still b8
              have hcmp := hneq_eq (rfl : ((x9.1, x9.2) : Int × Int) = (x9.1, x9.2))
              clear HK7 b7 kk7 b8 kk8 kk9 hst hlv9 hb7 hkw
              go_wp2
              go_roundw
              case rel => exact ⟨k + 1, by omega, by go_num, HK8⟩
              case measure => simp [intOf]; omega
            · go_wp2_with fail
              refine (tLoad_none' HK.out.tb hst HZ.out).mono ?_
              rintro e w7 ⟨rfl, hb7⟩
              have HK7 := HK.out.still hb7
              obtain ⟨W7, hW7⟩ : ∃ W7, w7.alloc (.cells #[.int .i64 z.1, .int .i64 z.2] 32) = W7 := ⟨_, rfl⟩
              have b7 : Below w7.heap.size w7 W7 := by rw [← hW7]; exact (Below.refl _ _).alloc (Nat.le_refl _) _
              have kk7 : Bk W7 w7.heap.size 32 #[.int .i64 z.1, .int .i64 z.2] := by rw [← hW7]; exact Bk.new _ _ _
              have look := (HK7.still b7).lookL_none HK.out.tb.ok HK.out.size hkw hst HZ.out
              obtain ⟨W8, hW8⟩ : ∃ W8, W7.alloc (.cells #[.int .i64 z.1, .int .i64 z.2] 32) = W8 := ⟨_, rfl⟩
              have b8 : Below W7.heap.size W7 W8 := by rw [← hW8]; exact (Below.refl _ _).alloc (Nat.le_refl _) _
              have kk8 : Bk W8 W7.heap.size 32 #[.int .i64 z.1, .int .i64 z.2] := by rw [← hW8]; exact Bk.new _ _ _
              have kk9 := kk7.tn (Tn.of_below b8 []) (by simp)
              have p0 : W8.cell? ⟨w7.heap.size, 0, none⟩ = some (.int .i64 z.1) := kk9.cell 0
              have p1 : W8.cell? ⟨w7.heap.size, 1, none⟩ = some (.int .i64 z.2) := kk9.cell 1
              have p2 : W8.cell? ⟨W7.heap.size, 0, none⟩ = some (.int .i64 z.1) := kk8.cell 0
              have p3 : W8.cell? ⟨W7.heap.size, 1, none⟩ = some (.int .i64 z.2) := kk8.cell 1
              have HK8 : Hid (Gs w W8 w.heap.size bs t n Mg Ml (fg t) (fl t)) := (HK7.still b7).still b8
              have hcmp := hneq_eq (rfl : ((z.1, z.2) : Int × Int) = (z.1, z.2))
              clear HK7 b7 kk7 b8 kk8 kk9 hst hb7 hkw
              go_wp2
              go_roundw
              case rel => exact ⟨k + 1, by omega, by go_num, HK8⟩
              case measure => simp [intOf]; omega
          · have hkli : ¬ (k : Int) < (n : Int) := by omega
            go_wp2
            go_roundw
            case rel => exact ⟨j + 1, bs, t, by omega, by go_num, HK⟩
            case measure => simp [intOf]; omega
    · have hli : ¬ (j : Int) < (len : Int) := by omega
      obtain ⟨nl, ng, l1, l2, l3, l4, l5, -⟩ := HG.out.lens
      have HL3 : Hid (ng = t.gone ∧ ((t.us.length : Nat) : Int) - (t.many : Int) - (t.gone : Int) = (nl : Int)) := ⟨l3, l4⟩
      clear l3 l4
      go_wp2_with fail
      refine (tLive HG.out.tb).mono ?_
      rintro e w6 ⟨rfl, kd, hw6⟩
      rw [HL3.out.2]
      have hb6 : Below wr.heap.size wr w6 := by rw [hw6]; exact below_drewN (Below.refl _ _) _
      have k1 := l1 3 w6 hb6
      have k2 := l2 3 w6 hb6
      have HG6 : Hid (Gs w w6 w.heap.size bs t n Mg Ml (fg t) (fl t)) := HG.out.still hb6
      have hll : ((nl : Int) == (nl : Int)) = true := by simp
      clear hw6 hb6 l1 l2
      go_wp2_with fail
      refine (tGone HG6.out.tb).mono ?_
      rintro e w6 ⟨rfl, rfl⟩
      rw [← HL3.out.1]
      have hgg : ((ng : Int) == (ng : Int)) = true := by simp
      go_wp2
      go_ret
      exact ⟨rfl, HG6.out.below⟩
end Go.Proofs.YtnjafmjkaajbkaaDoor
