/- An oracle: begun; a clone of one that no call made. -/
import Derived.Test.YtdgphlghmjnjfaaOrK
namespace Go.Proofs.Ytdgphlghmjnjfaa
open Go.RowKit Go.Maps Go.Shelf
set_option linter.unusedVariables false
set_option maxRecDepth 100000

theorem Or.isP_le {o : Or} {i : Nat} (h : i ≤ o.pub) : o.isP i = true := by simp [Or.isP, h]
theorem Or.isP_gap {o : Or} (h : o.Ok) : o.isP (o.pub + 1) = false := by simp [Or.isP, h.gap]
theorem Or.isP_above {o : Or} (h : o.Ok0) {i : Nat} (hi : o.last < i) : o.isP i = false := by
  have h1 := h.le
  have h2 : (o.ah i).isSome = false := by
    rw [Bool.eq_false_iff]
    intro hh
    have := (h.ah i hh).2
    omega
  simp [Or.isP, h2]
  omega
/-- Published ends ahead of the first one that is not. -/
theorem Or.pub_eq {o : Or} (h : o.Ok) {n : Nat} (h1 : ∀ i, i ≤ n → o.isP i = true) (h2 : o.isP (n + 1) = false) : o.pub = n := by
  have g := Or.isP_gap h
  by_cases hlt : o.pub < n
  · rw [h1 (o.pub + 1) (by omega)] at g
    cases g
  · by_cases hgt : n < o.pub
    · rw [Or.isP_le (by omega)] at h2
      cases h2
    · omega

theorem clone_no {w : World} {v : Option Addr} (h : Nm w (.pointer v)) : Calls Try.prog 24 #[.pointer v] w fun e w' => e = .returned (.pointer none) ∧ w' = w := by
  refine calls_of_wpAt Try.func24 rfl ?_
  simp only [Try.ntmps24, List.size_toArray, List.length_cons, List.length_nil, Nat.reduceAdd, Nat.reduceSub, Array.replicate_succ, Array.replicate_zero, List.push_toArray, List.append_toArray, List.nil_append, List.cons_append]
  have HN : Hid (Nm w (.pointer v)) := h
  clear h
  refine wpAt_of_wp ?_
  go_wp2_with fail
  refine (made_no HN.out).mono ?_
  rintro e w1 ⟨rfl, rfl⟩
  go_wp2
  refine ⟨.pointer none, ?_, rfl, rfl⟩
  simp [results, Try.f24, go_sem]

set_option maxHeartbeats 4000000 in
theorem begun_any (w : World) : Calls Try.prog 9 #[] w fun e w' => e = .returned (.bool true) ∧ Below w.heap.size w w' := by
  go_enter Try.func9, Try.ntmps9
  go_wp2_with fail
  refine (new_any w 5 (by omega)).mono ?_
  rintro e w1 ⟨rfl, h1, hb1⟩
  have HB1 : Hid (Below w.heap.size w w1) := hb1
  have HO1 : Hid (IsOr w1 (w.heap.size + 1) w.heap.size (Or.begin 5 5)) := h1
  clear h1 hb1
  go_wp2_with fail
  refine (next_any HO1.out (by decide)).mono ?_
  rintro e w2 ⟨rfl, h2⟩
  have HO2 : Hid (Ort w1 w2 (w.heap.size + 1) w.heap.size ⟨6, 5, fun _ => none, List.replicate 17 0⟩) := h2
  clear h2
  go_wp2_with fail
  refine (next_any HO2.out.is (by decide)).mono ?_
  rintro e w3 ⟨rfl, h3⟩
  have HO3 : Hid (Ort w1 w3 (w.heap.size + 1) w.heap.size ⟨7, 5, fun _ => none, List.replicate 17 0⟩) := HO2.out.trans h3
  clear h3
  have hok : Or.Ok ⟨7, 5, fun _ => none, List.replicate 17 0⟩ := Or.next_ok (o := ⟨6, 5, fun _ => none, List.replicate 17 0⟩) (Or.next_ok (Or.begin_ok 5 (by omega)) (by decide)) (by decide)
  have HK : Hid _ := hok
  clear hok
  go_wp2_with fail
  refine (publish_any HO3.out.is HK.out 7 (by decide) (by simp [Or.isP])).mono ?_
  rintro e w4 ⟨rfl, o4, t4, p4⟩
  have e4 : o4.pub = 5 := Or.pub_eq p4.ok (fun i hi => by rw [p4.isP]; simp [Or.isP, hi]) (by rw [p4.isP]; simp [Or.isP])
  have c1 := t4.is.c1
  have c2 := t4.is.c2
  rw [e4] at c1
  have HO4 : Hid (Ort w1 w4 (w.heap.size + 1) w.heap.size o4 ∧ Or.Pubd ⟨7, 5, fun _ => none, List.replicate 17 0⟩ 7 o4) := ⟨HO3.out.trans t4, p4⟩
  clear t4 p4 e4
  go_wp2_with fail
  refine (published_any c1 c2).mono ?_
  rintro e w5 ⟨rfl, rfl⟩
  go_wp2_with fail
  refine (publish_any HO4.out.1.is HO4.out.2.ok 6 (by rw [HO4.out.2.last]; decide) (by rw [HO4.out.2.isP]; simp [Or.isP])).mono ?_
  rintro e w6 ⟨rfl, o6, t6, p6⟩
  have e6 : o6.pub = 7 := Or.pub_eq p6.ok (fun i hi => by rw [p6.isP, HO4.out.2.isP]; simp [Or.isP]; omega) (by rw [p6.isP, HO4.out.2.isP]; simp [Or.isP])
  have d1 := t6.is.c1
  have d2 := t6.is.c2
  rw [e6] at d1
  have HE : Hid (Below w.heap.size w w6) := by
    have h := (HO4.out.1.trans t6).tn
    exact HB1.out.trans (h.below HB1.out.size (by simp))
  clear t6 p6 e6 c1 c2
  go_wp2_with fail
  refine (published_any d1 d2).mono ?_
  rintro e w7 ⟨rfl, rfl⟩
  go_wp2
  go_ret
  exact ⟨rfl, HE.out⟩
end Go.Proofs.Ytdgphlghmjnjfaa
