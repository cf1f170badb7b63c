/- Commits are read whole; which are the same. -/
import Derived.Test.YtlfgclmgpbaenaaRcRdC
import Derived.Deep.QuietTactic
import Derived.BigQuiet
namespace Go.Proofs.Ytlfgclmgpbaenaa
open Go.RowKit
set_option linter.unusedVariables false
set_option maxRecDepth 100000

theorem flat3 {α : Type} : ∀ (l : List (List α)) (i j : Nat) (c : List α), (∀ x ∈ l, x.length = 3) → l[i]? = some c → j < 3 → l.flatten[i * 3 + j]? = c[j]?
  | [], i, j, c, _, h, _ => by simp at h
  | x :: r, 0, j, c, hl, h, hj => by
    simp only [List.getElem?_cons_zero, Option.some.injEq] at h
    subst h
    have := hl x (by simp)
    rw [List.flatten_cons, Nat.zero_mul, Nat.zero_add, List.getElem?_append_left (by omega)]
  | x :: r, i + 1, j, c, hl, h, hj => by
    have h3 := hl x (by simp)
    simp only [List.getElem?_cons_succ] at h
    rw [List.flatten_cons, List.getElem?_append_right (by omega), h3, show (i + 1) * 3 + j - 3 = i * 3 + j by omega]
    exact flat3 r i j c (fun y hy => hl y (by simp [hy])) h hj

theorem OwnW.inw {w : World} {base : Nat} {p : Option Addr} {c : Nat} {l : List Wr} (h : OwnW w base (.slice p l.length c) l) : InW w p l.length c l := by
  have h0 := h
  rcases h.2 with ⟨hv, hn⟩ | ⟨g, cap, cur, hv, hb, hg, hle, hcm, hcur, htake⟩
  · simp only [Value.slice.injEq] at hv
    obtain ⟨rfl, _, rfl⟩ := hv
    exact ⟨rfl, fun h => by omega, by omega, by omega, fun _ => ⟨hn, rfl⟩⟩
  · simp only [Value.slice.injEq] at hv
    obtain ⟨rfl, _, rfl⟩ := hv
    refine ⟨rfl, fun _ => ⟨g, 0, rfl, fun i x hi j v hj => ?_⟩, hle, by unfold maxLen at hcm; omega, fun e => by cases e⟩
    have hj3 : j < 3 := by
      have := (List.getElem?_eq_some_iff.1 hj).1
      simpa [Wr.cells] using this
    have hf : (l.map Wr.cells).flatten[i * 3 + j]? = some v := by
      rw [flat3 (l.map Wr.cells) i j x.cells (by intro y hy; obtain ⟨z, _, rfl⟩ := List.mem_map.1 hy; rfl) (by rw [List.getElem?_map, hi]; rfl) hj3]
      exact hj
    have := World.ownsRow.cells h0 (g := g) rfl (i * 3 + j) v hf
    rw [Addr.add_lit, Nat.zero_add] at this
    rw [Nat.zero_add]
    exact this

theorem Rd.cell {w : World} {R lo : Nat} {s : Rs} (h : Rd w R lo s) : ∃ p len cap, w.cell? ⟨R, 0, none⟩ = some (.slice p len cap) ∧ len = s.xs.length ∧ w.cell? ⟨R, 1, none⟩ = some (.int .i64 s.e) := by
  obtain ⟨p, len, cap, hk, hi, _⟩ := h
  exact ⟨p, len, cap, hk.cell 0, hi.lenq.symm, hk.cell 1⟩

set_option maxHeartbeats 1000000 in
theorem end_commit {w : World} {R lo : Nat} {s : Rs} (h : Rd w R lo s) (ts : Int) (p : Option Addr) (len cap : Nat) (l : List Wr) (hin : ∀ w', Tn [R] w w' → InW w' p len cap l) :
    Calls Try.prog 54 #[.pointer (some ⟨R, 0, none⟩), .iface 74 (.agg #[.int .i64 ts, .slice p len cap])] w fun x w' => x = .returned (.int .i64 (s.more.note (Rc.comE ts l)).e) ∧ Rd w' R lo (s.more.note (Rc.comE ts l)) ∧ Tn [R] w w' := by
  obtain ⟨q, ql, qc, c0, hql, c1⟩ := h.cell
  have H0 : Hid (Rd w R lo s) := h
  have HI : Hid (∀ w', Tn [R] w w' → InW w' p len cap l) := hin
  clear h hin c1
  go_enter Try.func54, Try.ntmps54
  by_cases hm : 0 < ql
  · have hmi : decide (0 < ql) = true := by simpa using hm
    have HM : Hid (s.more = s.note 13) := by unfold Hid Rs.more; rw [if_pos (by omega)]
    clear hm hql
    go_wp2_with fail
    refine (note_any H0.out 13).mono ?_
    rintro e w1 ⟨rfl, h1, t1⟩
    have H1 : Hid (Rd w1 R lo s.more) := by rw [HM.out]; exact h1
    have T1 : Hid (Tn [R] w w1) := t1
    have I1 : Hid (InW w1 p len cap l) := HI.out w1 t1
    clear h1 t1 c0
    go_wp2_with fail
    refine (ccheck_any ts p len cap l _ I1.out).mono ?_
    rintro e w2 ⟨rfl, hb2⟩
    have H2 : Hid (Rd w2 R lo s.more) := H1.out.below (hb2.mono H1.out.le)
    have T2 : Hid (Tn [R] w w2) := T1.out.trans (Tn.of_below hb2 []) (by simp)
    clear hb2 H1 T1 I1
    go_wp2_with fail
    refine (note_any H2.out _).mono ?_
    rintro e w3 ⟨rfl, h3, t3⟩
    have H3 : Hid (Rd w3 R lo (s.more.note (Rc.comE ts l))) := h3
    have T3 : Hid (Tn [R] w w3) := T2.out.trans t3 (fun x hx => .inl hx)
    obtain ⟨-, -, -, -, -, c3⟩ := h3.cell
    clear h3 t3 H2 T2
    go_wp2
    go_ret
    exact ⟨rfl, H3.out, T3.out⟩
  · have hmi : decide (0 < ql) = false := by simpa using hm
    have HM : Hid (s.more = s) := by unfold Hid Rs.more; rw [if_neg (by omega)]
    have I1 : Hid (InW w p len cap l) := HI.out w (Tn.refl _ _)
    clear hm hql
    go_wp2_with fail
    refine (ccheck_any ts p len cap l _ I1.out).mono ?_
    rintro e w2 ⟨rfl, hb2⟩
    have H2 : Hid (Rd w2 R lo s.more) := by rw [HM.out]; exact H0.out.below (hb2.mono H0.out.le)
    have T2 : Hid (Tn [R] w w2) := Tn.of_below hb2 _
    clear hb2 I1
    go_wp2_with fail
    refine (note_any H2.out _).mono ?_
    rintro e w3 ⟨rfl, h3, t3⟩
    have H3 : Hid (Rd w3 R lo (s.more.note (Rc.comE ts l))) := h3
    have T3 : Hid (Tn [R] w w3) := T2.out.trans t3 (fun x hx => .inl hx)
    obtain ⟨-, -, -, -, -, c3⟩ := h3.cell
    clear h3 t3 H2 T2
    go_wp2
    go_ret
    exact ⟨rfl, H3.out, T3.out⟩

set_option maxHeartbeats 1000000 in
theorem takeCommit_any (p : Option Addr) (len cap : Nat) (xs : List Int) (w : World) (hin : InB 9223372036854775807 w p len cap xs) :
    Calls Try.prog 29 #[.slice p len cap] w fun x w' => ∃ v, x = .returned (.tuple #[.agg #[.int .i64 (Rc.takeCom xs).1, v], .int .i64 (Rc.takeCom xs).2.2]) ∧ OwnW w' w.heap.size v (Rc.takeCom xs).2.1 ∧ Below w.heap.size w w' := by
  have HI : Hid (InB 9223372036854775807 w p len cap xs) := hin
  have HLT : Hid (0 < xs.length → ∀ ad, p = some ad → ad.block < w.heap.size) := by
    intro hl ad had
    obtain ⟨b, o, hp, hc⟩ := hin.bys hl
    rw [hp] at had
    cases had
    exact World.block_lt_of_cell? w _ (hc 0 hl)
  clear hin
  have HR : Hid (Rd ((w.alloc (.cells #[.int .i64 0, .slice none 0 0] 24)).alloc (.cells #[.slice p len cap, .int .i64 0] 83)) (w.heap.size + 1) (w.heap.size + 2) ⟨xs, 0⟩) := by
    have b2 := Bk.new (w.alloc (.cells #[.int .i64 0, .slice none 0 0] 24)) 83 #[.slice p len cap, .int .i64 0]
    rw [show (w.alloc (.cells #[.int .i64 0, .slice none 0 0] 24)).heap.size = w.heap.size + 1 by simp] at b2
    have hb : Below w.heap.size w ((w.alloc (.cells #[.int .i64 0, .slice none 0 0] 24)).alloc (.cells #[.slice p len cap, .int .i64 0] 83)) := ((Below.refl _ _).alloc (Nat.le_refl _) _).alloc (by simp) _
    refine ⟨p, len, cap, b2, HI.out.below hb, fun hl ad had => ?_, by omega, by simp⟩
    have := HLT.out hl ad had
    omega
  go_enter Try.func29, Try.ntmps29
  have HA : Hid (Bk ((w.alloc (.cells #[.int .i64 0, .slice none 0 0] 24)).alloc (.cells #[.slice p len cap, .int .i64 0] 83)) w.heap.size 24 #[.int .i64 0, .slice none 0 0]) := (Bk.new _ _ _).alloc _
  have HB : Hid (Below w.heap.size w ((w.alloc (.cells #[.int .i64 0, .slice none 0 0] 24)).alloc (.cells #[.slice p len cap, .int .i64 0] 83))) := ((Below.refl _ _).alloc (Nat.le_refl _) _).alloc (by simp) _
  have HT : Hid (Rc.takeCom xs = if ((Rs.mk xs 0).commit.2.2.more.note (Rc.comE (Rs.mk xs 0).commit.1 (Rs.mk xs 0).commit.2.1)).e = 0 then ((Rs.mk xs 0).commit.1, (Rs.mk xs 0).commit.2.1, 0) else (0, [], ((Rs.mk xs 0).commit.2.2.more.note (Rc.comE (Rs.mk xs 0).commit.1 (Rs.mk xs 0).commit.2.1)).e)) := rfl
  go_wp2_with fail
  refine (commit_rd HR.out).mono ?_
  rintro e w1 ⟨v, rfl, ho, hr, ht⟩
  generalize (Rs.mk xs 0).commit = C at *
  obtain ⟨ts, l, s⟩ := C
  simp only at ho hr HT ⊢
  obtain ⟨pv, cv, rfl⟩ := own_form ho
  rw [show ((w.alloc (.cells #[.int .i64 0, .slice none 0 0] 24)).alloc (.cells #[.slice p len cap, .int .i64 0] 83)).heap.size = w.heap.size + 2 by simp] at ho
  have hs1 : w.heap.size + 2 ≤ w1.heap.size := by have := ht.size; simpa using this
  have HO1 : Hid (OwnW w1 (w.heap.size + 2) (.slice pv l.length cv) l) := ho
  have HR1 : Hid (Rd w1 (w.heap.size + 1) (w.heap.size + 2) s) := hr
  have HA1 : Hid (Bk w1 w.heap.size 24 #[.int .i64 0, .slice none 0 0]) := HA.out.tn ht (by simp)
  have HB1 : Hid (Below w.heap.size w w1) := HB.out.trans (ht.below (by simp; omega) (by simp))
  clear ho hr ht HR HA HB
  have hb2 : Below w1.heap.size w1 (w1.alloc (.cells #[.int .i64 ts, .slice pv l.length cv] 24)) := (Below.refl _ _).alloc (Nat.le_refl _) _
  have HO2 : Hid (OwnW (w1.alloc (.cells #[.int .i64 ts, .slice pv l.length cv] 24)) (w.heap.size + 2) (.slice pv l.length cv) l) := HO1.out.below hb2
  have HR2 : Hid (Rd (w1.alloc (.cells #[.int .i64 ts, .slice pv l.length cv] 24)) (w.heap.size + 1) (w.heap.size + 2) s) := HR1.out.below (hb2.mono hs1)
  have HA2 : Hid (Bk (w1.alloc (.cells #[.int .i64 ts, .slice pv l.length cv] 24)) w.heap.size 24 #[.int .i64 0, .slice none 0 0]) := HA1.out.alloc _
  have HC2 : Hid (Bk (w1.alloc (.cells #[.int .i64 ts, .slice pv l.length cv] 24)) w1.heap.size 24 #[.int .i64 ts, .slice pv l.length cv]) := Bk.new _ _ _
  have HB2 : Hid (Below w.heap.size w (w1.alloc (.cells #[.int .i64 ts, .slice pv l.length cv] 24))) := HB1.out.trans (hb2.mono (by omega))
  clear hb2 HO1 HR1 HA1 HB1
  go_wp2_with fail
  refine (end_commit HR2.out ts pv l.length cv l (fun w' ht' => (HO2.out.tn ht' (by simp)).inw)).mono ?_
  rintro e w3 ⟨rfl, hr3, ht3⟩
  generalize (s.more.note (Rc.comE ts l)) = z at *
  have HO3 : Hid (OwnW w3 (w.heap.size + 2) (.slice pv l.length cv) l) := HO2.out.tn ht3 (by simp)
  have a3 := HA2.out.tn ht3 (by simp)
  have c3 := HC2.out.tn ht3 (by simp; omega)
  have HA3 : Hid (Bk w3 w.heap.size 24 #[.int .i64 0, .slice none 0 0]) := a3
  have HB3 : Hid (Below w.heap.size w w3) := HB2.out.trans (ht3.below (by simp; omega) (by simp))
  have k0 : w3.cell? ⟨w.heap.size, 0, none⟩ = some (.int .i64 0) := a3.cell 0
  have k1 : w3.cell? ⟨w.heap.size, 1, none⟩ = some (.slice none 0 0) := a3.cell 1
  have f0 : w3.frozen? ⟨w.heap.size, 0, none⟩ = false := a3.frozen 0
  have f1 : w3.frozen? ⟨w.heap.size, 1, none⟩ = false := a3.frozen 1
  have m0 : w3.cell? ⟨w1.heap.size, 0, none⟩ = some (.int .i64 ts) := c3.cell 0
  have m1 : w3.cell? ⟨w1.heap.size, 1, none⟩ = some (.slice pv l.length cv) := c3.cell 1
  clear hr3 ht3 a3 c3 HO2 HR2 HA2 HC2 HB2
  by_cases hz : z.e = 0
  · have hzb : (z.e != 0) = false := by simpa using hz
    have HT2 : Hid (Rc.takeCom xs = (ts, l, 0)) := by unfold Hid; rw [HT.out, if_pos hz]
    clear hz HT
    go_wp2
    try simp only [Exit.inBlock, Exit.then]
    have hk := (HA3.out.set 0 (.int .i64 ts)).set 1 (.slice pv l.length cv)
    refine bodyPost_ret (results_two (cs := [.int .i64 ts, .slice pv l.length cv]) rfl rfl cm_agg cm_size rfl hk) rfl ?_
    rw [HT2.out]
    refine ⟨_, rfl, ?_, (HB3.out.setCell (Nat.le_refl _) _).setCell (Nat.le_refl _) _⟩
    refine OwnW.mono (base := w.heap.size + 2) (HO3.out.keptN fun j hj => ?_) (by omega)
    have h5 := (HO3.out.lt j hj).1
    rw [Below.heap_setCell _ ⟨w.heap.size, 1, none⟩ _ j (by show j ≠ w.heap.size; omega), Below.heap_setCell _ ⟨w.heap.size, 0, none⟩ _ j (by show j ≠ w.heap.size; omega)]
  · have hzb : (z.e != 0) = true := by simpa using hz
    have HT2 : Hid (Rc.takeCom xs = (0, [], z.e)) := by unfold Hid; rw [HT.out, if_neg hz]
    clear hz HT
    go_wp2
    try simp only [Exit.inBlock, Exit.then]
    have hk := (HA3.out.set 0 (.int .i64 0)).set 1 (.slice none 0 0)
    refine bodyPost_ret (results_two (cs := [.int .i64 0, .slice none 0 0]) rfl rfl cm_agg cm_size rfl hk) rfl ?_
    rw [HT2.out]
    exact ⟨_, rfl, OwnW.nil _ _, (HB3.out.setCell (Nat.le_refl _) _).setCell (Nat.le_refl _) _⟩

end Go.Proofs.Ytlfgclmgpbaenaa
