/- The step that goes on in the clone; every step. -/
import Derived.Test.YtnjafmjkaajbkaaDoorTbQ
import Derived.Test.YtnjafmjkaajbkaaDoorTbCn
namespace Go.Proofs.YtnjafmjkaajbkaaDoor
open Go.RowKit
set_option linter.unusedVariables false
set_option maxRecDepth 100000

section
variable {w w' : World} {B : Nat} {bs : List Nat} {t : Tb} {R g1 g2 n : Nat} {r : Rt}

theorem tAlloc_some (h : Tbn w B bs t) (hT : Tab w) (x : Int × Int) : Calls Tryd.prog 14 #[.pointer (some ⟨B, 0, none⟩), hv x] w fun e w' => (∃ a b, e = .returned (.tuple #[a, b])) ∧ ∃ t', TbT w w' B bs t' := by
  by_cases hx : x = (0, 0)
  · subst hx
    refine (tAlloc_arg h).mono ?_
    rintro e w' ⟨rfl, hb⟩
    exact ⟨⟨_, _, rfl⟩, t, TbT.below h hb⟩
  · rcases lowest_free (fun i => (t.pg (i : Int)).isFree) t.size with hf | ⟨p, hp, hf, hlow⟩
    · refine (tAlloc_full h x hx (fun q hq e => ?_)).mono ?_
      · have := hf q hq
        rw [e] at this
        simp [Pa.isFree] at this
      · rintro e w' ⟨rfl, hb⟩
        exact ⟨⟨_, _, rfl⟩, t, TbT.below h hb⟩
    · refine (tAlloc_ok h hT x hx hp (Pa.isFree_iff.1 hf) (fun q hq e => ?_)).mono ?_
      · have := hlow q hq
        rw [e] at this
        simp [Pa.isFree] at this
      · rintro e w' ⟨rfl, t', c, -, hb⟩
        exact ⟨⟨_, _, rfl⟩, t', hb⟩

theorem tSwap_some (h : Tbn w B bs t) (p : Int) (a b : Int × Int) : Calls Tryd.prog 15 #[.pointer (some ⟨B, 0, none⟩), .int .i64 p, hv a, hv b] w fun e w' => (∃ a b, e = .returned (.tuple #[a, b])) ∧ ∃ t', TbT w w' B bs t' := by
  by_cases hp : (t.pg p).st = 1
  · by_cases hb : b = (0, 0)
    · subst hb
      refine (tSwap_arg h hp a).mono ?_
      rintro e w' ⟨rfl, hb⟩
      exact ⟨⟨_, _, rfl⟩, t, TbT.below h hb⟩
    · obtain ⟨c, x, m, hl⟩ := Pa.st1.1 hp
      by_cases hxa : x = a
      · refine (tSwap_hit h hl a b hb hxa).mono ?_
        rintro e w' ⟨rfl, t', c, -, hb⟩
        exact ⟨⟨_, _, rfl⟩, t', hb⟩
      · refine (tSwap_miss h hl a b hb hxa).mono ?_
        rintro e w' ⟨rfl, hb⟩
        exact ⟨⟨_, _, rfl⟩, _, hb⟩
  · refine (tSwap_none h hp a b).mono ?_
    rintro e w' ⟨rfl, hb⟩
    exact ⟨⟨_, _, rfl⟩, t, TbT.below h hb⟩

theorem tRetire_some (h : Tbn w B bs t) (p : Int) : Calls Tryd.prog 16 #[.pointer (some ⟨B, 0, none⟩), .int .i64 p] w fun e w' => (∃ a, e = .returned a) ∧ ∃ t', TbT w w' B bs t' := by
  by_cases hp : (t.pg p).st = 1
  · obtain ⟨c, x, m, hl⟩ := Pa.st1.1 hp
    refine (tRetire_live h hl).mono ?_
    rintro e w' ⟨rfl, t', -, hb⟩
    exact ⟨⟨_, rfl⟩, t', hb⟩
  · refine (tRetire_none h hp).mono ?_
    rintro e w' ⟨rfl, rfl⟩
    exact ⟨⟨_, rfl⟩, t, TbT.refl h⟩

theorem TbT.then' {w1 w2 : World} {t1 t2 : Tb} (h1 : TbT w w1 B bs t1) (h2 : ∀ bs1, Tbn w1 B bs1 t1 → TbT w1 w2 B bs1 t2) : TbT w w2 B bs t2 := by
  obtain ⟨bs1, k1, k2, k3⟩ := h1
  exact TbT.trans k2 k3 (h2 bs1 k1)

set_option maxHeartbeats 2000000 in
theorem step_clone (h : Pr w B bs t R g1 g2 n r) (page wa wb ia ib : Int) : Calls Tryd.prog 10 #[.pointer (some ⟨B, 0, none⟩), .pointer (some ⟨R, 0, none⟩), .agg #[.int .i64 5, .int .i64 page, .int .i64 wa, .int .i64 wb, .int .i64 ia, .int .i64 ib]] w fun e w' => ∃ C, e = .returned (.tuple #[.pointer (some ⟨C, 0, none⟩), .bool true]) ∧ Prt w w' C bs R g1 g2 n := by
  obtain ⟨w0, hw0, h0, hb0, hk0⟩ := h.box 5 page wa wb ia ib
  have H0 : Hid (Pr w0 B bs t R g1 g2 n r) := h0
  have HB0 : Hid _ := hb0
  have HK0 : Hid (Bk w0 w.heap.size 34 #[.int .i64 5, .int .i64 page, .int .i64 wa, .int .i64 wb, .int .i64 ia, .int .i64 ib]) := hk0
  have HD : Hid (w.heap.size ∉ bs) := fun hm => by have := h.tb.lt _ hm; omega
  have HLT : Hid (∀ b ∈ bs, b < w0.heap.size) := h0.tb.lt
  have c0 : w0.cell? ⟨w.heap.size, 0, none⟩ = some (.int .i64 5) := hk0.cell 0
  clear h h0 hb0 hk0
  go_enter Tryd.func10, Tryd.ntmps10
  go_wp2_with fail
  refine (tClone H0.out.tb).mono ?_
  rintro e w1 ⟨C, cs, t', rfl, hC, hS, hb1, hlow⟩
  have HC : Hid (Tbn w1 C cs t' ∧ Same t t' ∧ Below w0.heap.size w0 w1 ∧ ∀ b ∈ cs, w0.heap.size ≤ b) := ⟨hC, hS, hb1, hlow⟩
  have H1 : Hid (Pr w1 B bs t R g1 g2 n r) := H0.out.below hb1
  have hk1 : Bk w1 w.heap.size 34 #[.int .i64 5, .int .i64 page, .int .i64 wa, .int .i64 wb, .int .i64 ia, .int .i64 ib] := HK0.out.tn (Tn.of_below hb1 []) (by simp)
  have HK1 : Hid (∀ W, Tn bs w1 W → Bk W w.heap.size 34 #[.int .i64 5, .int .i64 page, .int .i64 wa, .int .i64 wb, .int .i64 ia, .int .i64 ib]) := fun W ht => hk1.tn ht HD.out
  have d4 : w1.cell? ⟨w.heap.size, 4, none⟩ = some (.int .i64 ia) := hk1.cell 4
  have d5 : w1.cell? ⟨w.heap.size, 5, none⟩ = some (.int .i64 ib) := hk1.cell 5
  clear hC hS hb1 hlow hk1
  go_wp2_with fail
  refine (tAlloc_some H1.out.tb H1.out.tab (ia, ib)).mono ?_
  rintro e w2 ⟨⟨a2, b2, rfl⟩, t2, hT2⟩
  have HT2 : Hid (TbT w1 w2 B bs t2) := hT2
  obtain ⟨bs2, k2, n2, m2⟩ := hT2
  have HN2 : Hid (Tn bs w1 w2 ∧ ∀ b ∈ bs2, b ∈ bs ∨ w1.heap.size ≤ b) := ⟨n2, m2⟩
  have hk2 := HK1.out w2 n2
  have HK2 : Hid (Tbn w2 B bs2 t2) := k2
  have e1 : w2.cell? ⟨w.heap.size, 1, none⟩ = some (.int .i64 page) := hk2.cell 1
  have e2 : w2.cell? ⟨w.heap.size, 2, none⟩ = some (.int .i64 wa) := hk2.cell 2
  have e3 : w2.cell? ⟨w.heap.size, 3, none⟩ = some (.int .i64 wb) := hk2.cell 3
  have e4 : w2.cell? ⟨w.heap.size, 4, none⟩ = some (.int .i64 ia) := hk2.cell 4
  have e5 : w2.cell? ⟨w.heap.size, 5, none⟩ = some (.int .i64 ib) := hk2.cell 5
  clear k2 n2 m2 hk2
  go_wp2_with fail
  refine (tSwap_some HK2.out page (wa, wb) (ia, ib)).mono ?_
  rintro e w3 ⟨⟨a3, b3, rfl⟩, t3, hT3⟩
  obtain ⟨bs3, k3, n3, m3⟩ := TbT.trans HN2.out.1 HN2.out.2 hT3
  have HN3 : Hid (Tn bs w1 w3 ∧ ∀ b ∈ bs3, b ∈ bs ∨ w1.heap.size ≤ b) := ⟨n3, m3⟩
  have hk3 := HK1.out w3 n3
  have HK3 : Hid (Tbn w3 B bs3 t3) := k3
  have f1 : w3.cell? ⟨w.heap.size, 1, none⟩ = some (.int .i64 page) := hk3.cell 1
  clear k3 n3 m3 hk3 hT3
  go_wp2_with fail
  refine (tRetire_some HK3.out page).mono ?_
  rintro e w4 ⟨⟨a4, rfl⟩, t4, hT4⟩
  obtain ⟨bs4, k4, n4, m4⟩ := TbT.trans HN3.out.1 HN3.out.2 hT4
  have HN4 : Hid (Tn bs w1 w4) := n4
  clear k4 n4 m4 hT4
  go_wp2
  go_ret2
  refine ⟨C, rfl, ?_⟩
  obtain ⟨hC, hS, hb1, hlow⟩ := HC.out
  have hap : ∀ b ∈ cs, b ∉ bs := fun b hb hm => by have := hlow b hb; have := HLT.out b hm; omega
  have hpos := H1.out.pos
  refine Prt.pre HB0.out ⟨cs, t', r, ⟨hC.tn HN4.out hap, H1.out.rf.tn HN4.out (apart H1.out.tb H1.out.rf), hS.rel H1.out.rel, H1.out.tab.tn HN4.out (fun hm => by have := hpos 0 (List.mem_append.2 (.inl hm)); omega), fun b hb => ?_⟩, ?_, fun b hb => .inr (hlow b hb)⟩
  · rcases List.mem_append.1 hb with hb | hb
    · have := hlow b hb
      have := H0.out.tab.lt
      omega
    · exact hpos b (List.mem_append.2 (.inr hb))
  · exact ((Tn.of_below hb1 bs).trans HN4.out (fun x hx => .inl hx)).mono (fun x hx => List.mem_append.2 (.inl hx))

/-- Each step keeps both the same, and says so. -/
theorem step_any (h : Pr w B bs t R g1 g2 n r) (dd page wa wb ia ib : Int) : Calls Tryd.prog 10 #[.pointer (some ⟨B, 0, none⟩), .pointer (some ⟨R, 0, none⟩), .agg #[.int .i64 dd, .int .i64 page, .int .i64 wa, .int .i64 wb, .int .i64 ia, .int .i64 ib]] w fun e w' => ∃ C, e = .returned (.tuple #[.pointer (some ⟨C, 0, none⟩), .bool true]) ∧ Prt w w' C bs R g1 g2 n := by
  have fin : ∀ (e : Ending) (w' : World), (e = .returned (.tuple #[.pointer (some ⟨B, 0, none⟩), .bool true]) ∧ Prt w w' B bs R g1 g2 n) → ∃ C, e = .returned (.tuple #[.pointer (some ⟨C, 0, none⟩), .bool true]) ∧ Prt w w' C bs R g1 g2 n := fun e w' h => ⟨B, h⟩
  by_cases d0 : dd = 0
  · subst d0
    by_cases hb : ((ia, ib) : Int × Int) = (0, 0)
    · cases hb
      exact (step_alloc_arg h page wa wb).mono fin
    · rcases lowest_free (fun i => decide (r.s (i : Int) = 0)) n with hf | ⟨p, hp, hf, hlow⟩
      · exact (step_alloc_full h page wa wb ia ib hb (fun i hi => by simpa using hf i hi)).mono fin
      · exact (step_alloc_ok h page wa wb ia ib hb hp (by simpa using hf) (fun i hi => by simpa using hlow i hi)).mono fin
  by_cases d2 : dd = 2
  · subst d2
    by_cases hp : r.s page = 1
    · by_cases hb : ((ia, ib) : Int × Int) = (0, 0)
      · cases hb
        exact (step_swap_arg h page wa wb hp).mono fin
      · by_cases ha : r.h page = (wa, wb)
        · exact (step_swap_hit h page wa wb ia ib hb hp ha).mono fin
        · exact (step_swap_miss h page wa wb ia ib hb hp ha).mono fin
    · exact (step_swap_none h page wa wb ia ib hp).mono fin
  by_cases d3 : dd = 3
  · subst d3
    by_cases hp : r.s page = 1
    · exact (step_retire_ok h page wa wb ia ib hp).mono fin
    · exact (step_retire_none h page wa wb ia ib hp).mono fin
  by_cases d4 : dd = 4
  · subst d4
    by_cases hp : r.s page = 2
    · exact (step_release_ok h page wa wb ia ib hp).mono fin
    · exact (step_release_none h page wa wb ia ib hp).mono fin
  by_cases d5 : dd = 5
  · subst d5
    exact step_clone h page wa wb ia ib
  by_cases hp : r.s page = 1
  · exact (step_load_live h dd page wa wb ia ib d0 d2 d3 d4 d5 hp).mono fin
  · exact (step_load_none h dd page wa wb ia ib d0 d2 d3 d4 d5 hp).mono fin
end
end Go.Proofs.YtnjafmjkaajbkaaDoor
