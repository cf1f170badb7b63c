/- An operation with both, whatever it is; whether both have the same. -/
import Derived.Test.YtnjokhdedgdjjaaSdD3
import Derived.Test.YtnjokhdedgdjjaaSdD4
import Derived.Test.YtnjokhdedgdjjaaSdD5
namespace Go.Proofs.Ytnjokhdedgdjjaa
open Go.RowKit Go.Maps
set_option linter.unusedVariables false
set_option maxRecDepth 100000

section
variable {w0 w w' : World} {N C : Nat} {g g' : Ge} {r r' : Gr} {s s' t t' : Sc}

theorem step6 (h : Dq w0 w N C g r s) (dd n : Int) (h0 : dd ≠ 0) (h1 : dd ≠ 1) (h2 : dd ≠ 2) (h3 : dd ≠ 3) (h4 : dd ≠ 4) (h5 : dd ≠ 5) : Calls Try.prog 10 #[.pointer (some ⟨g.S, 0, none⟩), .pointer (some ⟨r.R, 0, none⟩), .agg #[.int .i64 dd, .int .i64 n], .pointer (some ⟨C, 0, none⟩)] w (To w0 w N C g r s) := by
  have HB : Hid (Dq w0 (w.alloc (.cells #[.int .i64 dd, .int .i64 n] 32)) N C g r s) := h.box _
  have e0 : (dd == 0) = false := by simpa using h0
  have e1 : (dd == 1) = false := by simpa using h1
  have e2 : (dd == 2) = false := by simpa using h2
  have e3 : (dd == 3) = false := by simpa using h3
  have e4 : (dd == 4) = false := by simpa using h4
  have e5 : (dd == 5) = false := by simpa using h5
  clear h h0 h1 h2 h3 h4 h5
  go_enter Try.func10, Try.ntmps10
  go_wp2_with fail
  refine (spawn_nil HB.out.dh.sd).mono ?_
  rintro e w1 ⟨rfl, rfl⟩
  go_wp2
  go_ret
  exact ⟨rfl, g, r, s, HB.out, rfl, rfl, by omega, Kp2.alloc _ _ _ _ _⟩

theorem step_all (h : Dq w0 w N C g r s) (hd : s.done.length ≤ 9000000000000) (hN : 10000000000000 < N) (dd n : Int) (hn : (Lit.int .i64 n).wf = true) : Calls Try.prog 10 #[.pointer (some ⟨g.S, 0, none⟩), .pointer (some ⟨r.R, 0, none⟩), .agg #[.int .i64 dd, .int .i64 n], .pointer (some ⟨C, 0, none⟩)] w (To w0 w N C g r s) := by
  by_cases h0 : dd = 0
  · subst h0; exact step0 h hd hN n hn
  by_cases h1 : dd = 1
  · subst h1; exact step1 h hd hN n hn
  by_cases h2 : dd = 2
  · subst h2; exact step2 h hd hN n hn
  by_cases h3 : dd = 3
  · subst h3; exact step3 h hd hN n hn
  by_cases h4 : dd = 4
  · subst h4; exact step4 h hd hN n hn
  by_cases h5 : dd = 5
  · subst h5; exact step5 h hd hN n hn
  exact step6 h dd n h0 h1 h2 h3 h4 h5

theorem equal_any (h : Dq w0 w N C g r s) : Calls Try.prog 17 #[.pointer (some ⟨g.S, 0, none⟩), .pointer (some ⟨r.R, 0, none⟩)] w fun e w' => e = .returned (.bool true) ∧ Below w.heap.size w w' := by
  have HH : Hid (Dq w0 w N C g r s) := h
  have hal : s.al.length = s.fl.length := by rw [h.rest, List.length_map]
  have HAL : Hid (s.al.length = s.fl.length ∧ s.fl.length ≤ 4096 ∧ s.al = s.fl.map Fb.num) := ⟨hal, h.fll.1, h.rest⟩
  clear h hal
  obtain ⟨n, hn⟩ : ∃ n, s.fl.length = n := ⟨_, rfl⟩
  have HN : Hid (s.fl.length = n) := hn
  clear hn
  go_enter Try.func17, Try.ntmps17
  go_wp2_with fail
  refine (ralive_any HH.out.dh.rs HAL.out.2.1).mono ?_
  rintro e w1 ⟨v, rfl, hv, b1⟩
  rw [HN.out] at hv
  obtain ⟨p, c, hf, -⟩ := row_form hv
  subst hf
  have HV : Hid (w1.ownsRow w.heap.size 3 1 (.slice p n c) n (ints (s.fl.map Fb.num))) := hv
  have HB1 : Hid (Below w.heap.size w w1) := b1
  have H1 : Hid (Dq w0 w1 N C g r s) := HH.out.still b1
  clear hv b1
  go_wp2_with fail
  refine (alive_any H1.out.dh.sd (by have := HAL.out; omega)).mono ?_
  rintro e w2 ⟨b, S, rfl, hA, hS, b2⟩
  have HA : Hid (Av w2 b S s.al) := hA
  have HB2 : Hid (Below w1.heap.size w1 w2) := b2
  have HX : Hid (∀ W, Below w2.heap.size w2 W → ∀ (j x : Nat), s.al[j]? = some x → ∃ G, p = some ⟨G, 0, none⟩ ∧ G < W.heap.size ∧ W.cell? ⟨G, j, none⟩ = some (.int .i64 (x : Int))) := by
    intro W hW j x hx
    have hj := (List.getElem?_eq_some_iff.1 hx).1
    have hjn : j < n := by have := HAL.out.1; have := HN.out; omega
    obtain ⟨G, k, hG⟩ := row_some HV.out (by omega)
    cases hG
    have hlt : G < w1.heap.size := row_block HV.out G rfl
    have hs2 := b2.size
    have hsW := hW.size
    refine ⟨G, rfl, by omega, ?_⟩
    have e1 : W.heap[G]? = w1.heap[G]? := (hW.block G (by omega)).trans (b2.block G hlt)
    rw [World.cell?_of_block (a := ⟨G, j, none⟩) e1, World.ownsRow.cellAt HV.out j (by omega)]
    rw [HAL.out.2.2] at hx
    simp only [ints, List.getElem?_map, hx, Option.map_some]
  clear hA hS b2
  go_wp2_with fail
  refine (told_any HA.out (m := n) (by have := HAL.out.1; have := HN.out; omega) (HX.out w2 (Below.refl _ _))).mono ?_
  rintro e w3 ⟨rfl, b3⟩
  have HB3 : Hid (Below w2.heap.size w2 w3) := b3
  have HA3 : Hid (Av w3 b S s.al) := HA.out.kp (fun k hk => b3.block k (HA.out.lt k hk))
  clear b3 HA
  go_wp2_with fail
  refine (told_any HA3.out (m := n) (by have := HAL.out.1; have := HN.out; omega) (HX.out w3 HB3.out)).mono ?_
  rintro e w4 ⟨rfl, b4⟩
  have HB4 : Hid (Below w.heap.size w w4) := by
    have h2 := HB1.out.trans (HB2.out.mono HB1.out.size)
    have h3 := h2.trans (HB3.out.mono h2.size)
    exact h3.trans (b4.mono h3.size)
  have H4 : Hid (Dq w0 w4 N C g r s) := HH.out.still HB4.out
  clear b4 HA3 HX
  go_wp2_with fail
  refine (count_any H4.out.dh.sd n HN.out.symm).mono ?_
  rintro e w5 ⟨rfl, rfl⟩
  go_wp2_with fail
  refine (steps_any H4.out.dh.sd).mono ?_
  rintro e w5 ⟨rfl, rfl⟩
  go_wp2_with fail
  refine (rsteps_any H4.out.dh.rs).mono ?_
  rintro e w5 ⟨rfl, rfl⟩
  go_wp2
  go_ret
  exact ⟨rfl, HB4.out⟩

end
end Go.Proofs.Ytnjokhdedgdjjaa
