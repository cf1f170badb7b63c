/- What chunks are together: the code. -/
import Derived.Test.YtcoibnlecdemcaaImCf
namespace Go.Proofs.Ytcoibnlecdemcaa
open Go.RowKit
set_option linter.unusedVariables false
set_option maxRecDepth 100000

/-- The chunks of a call, in any world behind it. -/
structure CkW (f : Ck → List St) (w : World) (p : Option Addr) (l : List Ck) : Prop where
  at_ : ∀ W, Below w.heap.size w W → Cks W p l
  ins : ∀ W, Below w.heap.size w W → ∀ g ∈ l, Rk.InS W g.p g.n g.c (f g)
theorem CkW.of {f : Ck → List St} {w : World} {p : Option Addr} {l : List Ck} (h : Cks w p l) (hi : ∀ g ∈ l, Rk.InS w g.p g.n g.c (f g)) : CkW f w p l :=
  ⟨fun W hW => Els.below h hW (Nat.le_refl _), fun W hW g hg => Rk.InS.up (hi g hg) hW⟩
theorem CkW.up {f : Ck → List St} {w w' : World} {p : Option Addr} {l : List Ck} (h : CkW f w p l) (hb : Below w.heap.size w w') : CkW f w' p l :=
  ⟨fun W hW => h.at_ W (hb.trans (hW.mono hb.size)), fun W hW => h.ins W (hb.trans (hW.mono hb.size))⟩

theorem Bl.drop_at {α : Type} {l : List α} {k : Nat} {x : α} (h : l[k]? = some x) : l.drop k = x :: l.drop (k + 1) := by
  have h1 := (List.getElem?_eq_some_iff.1 h).1
  rw [List.drop_eq_getElem_cons h1]
  rw [List.getElem?_eq_getElem h1] at h
  rw [Option.some.inj h]

set_option maxHeartbeats 2000000 in
theorem build_any (p : Option Addr) (n c : Nat) (l : List Ck) (f : Ck → List St) (w : World) (hn : l.length = n) (hp : CkW f w p l) (hnn : n ≤ 4611686018427387904) :
    Calls Try.prog 21 #[.slice p n c] w fun e w' => ∃ v, e = .returned (.tuple #[v, .int .i64 (Bl.res f l).1]) ∧ OwnS w' w.heap.size v (Bl.res f l).2 ∧ Below w.heap.size w w' := by
  have HP : Hid (CkW f w p l) := hp
  have HN : Hid (l.length = n) := hn
  clear hp hn
  by_cases h0 : n = 0
  · subst h0
    have HR : Hid (Bl.res f l = (1, [])) := by unfold Hid Bl.res; rw [HN.out]; rfl
    go_enter Try.func21, Try.ntmps21
    go_wp2
    go_ret2
    rw [HR.out]
    exact ⟨_, rfl, Own.nil _ _ _, Below.refl _ _⟩
  · have hz : ((n : Int) == 0) = false := by simp; omega
    have HR : Hid (Bl.res f l = Bl.run f n 0 [] l) := by unfold Hid Bl.res; rw [HN.out, if_neg h0]
    clear h0
    go_enter Try.func21, Try.ntmps21
    go_wp2_with fail
    go_loopw [4, 12] (fun v i wr => ∃ (k : Nat) (out : List St), k ≤ n ∧ k ≤ 4096 ∧ i = .int .i64 k ∧ out.length ≤ k * 16 ∧ Hid (OwnS wr w.heap.size v out) ∧ Hid (Below w.heap.size w wr) ∧ Hid (Bl.run f n 0 [] l = Bl.run f n k out (l.drop k))) (fun _ i _ => n - (intOf i).toNat)
    case atStart => exact ⟨0, [], Nat.zero_le _, by omega, rfl, Nat.zero_le _, Own.nil _ _ _, Below.refl _ _, by simp [Hid]⟩
    case round =>
      obtain ⟨k, out, hk, hk4, rfl, hlen, HO, HW, HQ⟩ := hrel
      obtain ⟨pv, cv, rfl, hels, hnil, hle⟩ := HO.out.els stknd
      obtain ⟨no, hno⟩ : ∃ no, out.length = no := ⟨_, rfl⟩
      rw [hno] at hlen hnil hle ⊢
      by_cases hlt : k < n
      · have hli : (k : Int) < (n : Int) := by omega
        obtain ⟨b, o, x, rfl, hx, c0, c1, c2⟩ := Cks.cells (HP.out.at_ _ HW.out) (j := k) (by have := HN.out; omega)
        have HD : Hid (l.drop k = x :: l.drop (k + 1)) := Bl.drop_at hx
        have HM : Hid (x ∈ l) := List.mem_of_getElem? hx
        have hcall := ifits_any (some ⟨b, o, none⟩) pv n c k no cv l out (f x) x wr HN.out (HP.out.at_ _ HW.out) hx (HP.out.ins _ HW.out x HM.out) hno hels (by omega) hnn
        have HO1 : Hid (OwnS wr w.heap.size (.slice pv no cv) out) := by have := HO.out; rw [hno] at this; exact this
        have HNO : Hid (out.length = no) := hno
        clear hx hels hnil hle hno HO c0 c1 c2
        go_wp2_with fail
        refine hcall.mono ?_
        rintro e w1 ⟨rfl, b1⟩
        have HW1 : Hid (Below w.heap.size w w1) := HW.out.trans (b1.mono HW.out.size)
        have HO2 : Hid (OwnS w1 w.heap.size (.slice pv no cv) out) := HO1.out.below b1 (Nat.le_refl _)
        obtain ⟨b', o', x', hpe, hx', c0, c1, c2⟩ := Cks.cells (HP.out.at_ _ HW1.out) (j := k) (by have := HN.out; omega)
        obtain ⟨rfl, rfl⟩ : b = b' ∧ o = o' := by cases hpe; exact ⟨rfl, rfl⟩
        obtain rfl : x = x' := by
          have h1 := HD.out
          rw [Bl.drop_at hx'] at h1
          injection h1 with h2
          exact h2.symm
        have hin := HP.out.ins _ HW1.out x HM.out
        clear hcall b1 HO1 hpe hx'
        by_cases h0 : Bl.stepE n k out x (f x) = 0
        · have HS : Hid (Bl.run f n 0 [] l = Bl.run f n (k + 1) (out ++ f x) (l.drop (k + 1))) := by unfold Hid; rw [HQ.out, HD.out, Bl.run_ok h0]
          have hsl := Bl.step_len h0
          have HL : Hid ((f x).length ≤ 16 ∧ k ≤ 4095) := hsl
          have hz0 : (Bl.stepE n k out x (f x) != 0) = false := by simpa using h0
          have hxn : (f x).length = x.n := hin.lenq
          have hsts : Sts w1 x.p (f x) := ins_sts hin
          have hxnil := hin.nil
          clear h0 hin
          obtain ⟨num, q, m, cc, last⟩ := x
          simp only at hxn hsts hxnil c0 c1 c2
          go_wp2_with (at_builtin; refine appL stknd Try.underlying38 stinfo rfl _ rfl _ _ rfl w.heap.size _ _ (f ⟨num, q, m, cc, last⟩) rfl _ _ _ rfl hxn hsts hxnil (by exact HO2.out) (by unfold maxLen; have := HNO.out; have := HL.out; omega) (by have := HNO.out; have := HL.out; omega) HW1.out.size ?_; intro v8 w8 h1 h2 h3; refine Hid.out ?_)
          unfold Hid
          have HO8 : Hid (OwnS w8 w.heap.size v8 (out ++ f ⟨num, q, m, cc, last⟩)) := h1
          have HW8 : Hid (Below w.heap.size w w8) := HW1.out.trans (app_below HO2.out h2 HW1.out.size)
          have hlen8 : (out ++ f ⟨num, q, m, cc, last⟩).length ≤ (k + 1) * 16 := by
            have := HNO.out
            have := HL.out
            rw [List.length_append]
            omega
          have hk8 := HL.out.2
          clear h1 h2 h3 c0 c1 c2 hxn hsts hxnil hsl
          go_wp2
          go_roundw
          case rel => exact ⟨k + 1, _, by omega, by omega, by go_num, hlen8, HO8, HW8, HS⟩
          case measure => simp [intOf]; omega
        · have HS : Hid (Bl.res f l = (Bl.stepE n k out x (f x), [])) := by unfold Hid; rw [HR.out, HQ.out, HD.out, Bl.run_no h0]
          have hz0 : (Bl.stepE n k out x (f x) != 0) = true := by simpa using h0
          clear h0 hin c0 c1 c2
          go_wp2
          go_ret2
          rw [HS.out]
          exact ⟨_, rfl, Own.nil _ _ _, HW1.out⟩
      · obtain rfl : k = n := by omega
        have hli : ¬ ((k : Int) < (k : Int)) := by omega
        have HS : Hid (Bl.res f l = (0, out)) := by
          unfold Hid
          rw [HR.out, HQ.out, List.drop_eq_nil_of_le (by have := HN.out; omega)]
          rfl
        have HO1 : Hid (OwnS wr w.heap.size (.slice pv no cv) out) := by have := HO.out; rw [hno] at this; exact this
        clear hels hnil hle HO
        go_wp2
        go_ret2
        rw [HS.out]
        exact ⟨_, rfl, HO1.out, HW.out⟩
end Go.Proofs.Ytcoibnlecdemcaa
