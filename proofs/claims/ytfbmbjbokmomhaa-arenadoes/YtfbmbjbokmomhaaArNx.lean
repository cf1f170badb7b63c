/- The first slot from one on that is given. -/
import Derived.Test.YtfbmbjbokmomhaaArLt
namespace Go.Proofs.Ytfbmbjbokmomhaa
open Go.RowKit Go.Shelf
set_option linter.unusedVariables false
set_option maxRecDepth 100000

/-- A pair and the document's arena. -/
structure Pq (w : World) (P B R G N H : Nat) (lv : Value) (a : Ar) (hs : List ByteArray) : Prop where
  pb : Bk w P 34 #[.pointer (some ⟨B, 0, none⟩), .pointer (some ⟨R, 0, none⟩), lv]
  ra : IsRa w R G N H a hs

theorem Pq.tn {w w' : World} {P B R G N H : Nat} {lv : Value} {a : Ar} {hs : List ByteArray} (h : Pq w P B R G N H lv a hs) (ht : Tn [] w w') : Pq w' P B R G N H lv a hs := ⟨h.pb.tn ht (by simp), h.ra.quiet ht⟩

set_option maxHeartbeats 2000000 in
theorem next_any {w : World} {P B R G N H : Nat} {lv : Value} {a : Ar} {hs : List ByteArray} (h : Pq w P B R G N H lv a hs) (at0 t : Nat) (h1 : at0 ≤ t) (h2 : t < a.size) (h3 : (slAt a.us t).given = true) (h4 : ∀ i, at0 ≤ i → i < t → (slAt a.us i).given = false) :
    Calls Try.prog 51 #[.pointer (some ⟨P, 0, none⟩), .int .i64 (at0 : Int)] w fun e w' => e = .returned (.int .i64 (t : Int)) ∧ Tn [] w w' := by
  have HP : Hid (Pq w P B R G N H lv a hs) := h
  have H3 : Hid ((slAt a.us t).given = true) := h3
  have H4 : Hid (∀ i, at0 ≤ i → i < t → (slAt a.us i).given = false) := h4
  have hs2 := h.ra.s2
  clear h h3 h4
  go_enter Try.func51, Try.ntmps51
  go_wp2_with fail
  go_loopw [1] (fun i wr => ∃ k : Nat, at0 ≤ k ∧ k ≤ t ∧ i = .int .i64 (k : Int) ∧ Hid (Tn [] w wr)) (fun i _ => t - (intOf i).toNat)
  case atStart => exact ⟨at0, Nat.le_refl _, h1, rfl, Tn.refl _ _⟩
  case round =>
    obtain ⟨k, hk0, hk, rfl, HT⟩ := hrel
    have hq := HP.out.tn HT.out
    have c1 : wr.cell? ⟨P, 1, none⟩ = some (.pointer (some ⟨R, 0, none⟩)) := hq.pb.cell 1
    have hsl := rslots_any hq.ra.c0
    have hat := rat_any hq.ra k (by omega)
    have hki : (k : Int) < (a.size : Int) := by omega
    obtain ⟨gn, hgn⟩ : ∃ gn, (slAt a.us k).gen = gn := ⟨_, rfl⟩
    obtain ⟨tx, htx⟩ : ∃ tx, tAt hs k = tx := ⟨_, rfl⟩
    rw [hgn, htx] at hat
    by_cases hkt : k < t
    · rw [H4.out k hk0 hkt] at hat
      clear hq hgn htx
      go_wp2_with fail
      refine hsl.mono ?_
      rintro e w1 ⟨rfl, rfl⟩
      go_wp2_with fail
      refine hat.mono ?_
      rintro e w2 ⟨rfl, ht2⟩
      obtain ⟨w3, hw3⟩ : ∃ w3, w2.alloc (.cells #[.int .i64 (k : Int), .int .i64 gn] 36) = w3 := ⟨_, rfl⟩
      have HT3 : Hid (Tn [] w w3) := by rw [← hw3]; exact (HT.out.trans ht2 (by simp)).alloc _
      clear hsl hat ht2 c1
      go_wp2
      go_roundw
      case rel => exact ⟨k + 1, by omega, by omega, by go_num, HT3⟩
      case measure => simp [intOf]; omega
    · obtain rfl : k = t := by omega
      rw [H3.out] at hat
      clear hq hgn htx
      go_wp2_with fail
      refine hsl.mono ?_
      rintro e w1 ⟨rfl, rfl⟩
      go_wp2_with fail
      refine hat.mono ?_
      rintro e w2 ⟨rfl, ht2⟩
      obtain ⟨w3, hw3⟩ : ∃ w3, w2.alloc (.cells #[.int .i64 (k : Int), .int .i64 gn] 36) = w3 := ⟨_, rfl⟩
      have HT3 : Hid (Tn [] w w3) := by rw [← hw3]; exact (HT.out.trans ht2 (by simp)).alloc _
      clear hsl hat ht2 c1
      go_wp2
      go_ret
      exact ⟨rfl, HT3.out⟩

/-- Where what is told lies: behind a slot up to which pre was told comes x. -/
theorem gl_next {us : List Sl} {pre : List (Nat × Int × ByteArray)} {x : Nat × Int × ByteArray} {at0 : Nat} (hp : pre ++ [x] <+: gl us) (ha : glTo us at0 = pre) (hle : at0 ≤ us.length) :
    at0 ≤ x.1 ∧ x.1 < us.length ∧ (slAt us x.1).given = true ∧ (∀ i, at0 ≤ i → i < x.1 → (slAt us i).given = false) ∧ x = (x.1, (slAt us x.1).gen, txt (slAt us x.1).val) ∧ glTo us (x.1 + 1) = pre ++ [x] := by
  suffices h : ∀ n, at0 ≤ n → n ≤ us.length → (glTo us n = pre ∧ ∀ i, at0 ≤ i → i < n → (slAt us i).given = false) ∨ (∃ t, at0 ≤ t ∧ t < n ∧ (slAt us t).given = true ∧ (∀ i, at0 ≤ i → i < t → (slAt us i).given = false) ∧ glTo us t = pre) by
    rcases h us.length hle (Nat.le_refl _) with ⟨h1, _⟩ | ⟨t, h1, h2, h3, h4, h5⟩
    · exfalso
      have := hp.length_le
      unfold gl at this
      rw [h1] at this
      simp at this
      omega
    · have h6 : glTo us (t + 1) = pre ++ [(t, (slAt us t).gen, txt (slAt us t).val)] := by rw [glTo_succ, h5, if_pos h3]
      have h7 : glTo us (t + 1) <+: gl us := glTo_pre us (by omega)
      rw [h6] at h7
      have hx : x = (t, (slAt us t).gen, txt (slAt us t).val) := by
        have e1 := List.prefix_of_prefix_length_le hp h7 (by simp)
        have e2 := e1.eq_of_length (by simp)
        simpa using e2
      subst hx
      exact ⟨h1, h2, h3, h4, rfl, h6⟩
  intro n
  induction n with
  | zero => intro h _; obtain rfl : at0 = 0 := by omega
            exact .inl ⟨ha, fun i _ hi => by omega⟩
  | succ n ih =>
    intro h1 h2
    rcases Nat.lt_or_ge n at0 with h3 | h3
    · obtain rfl : at0 = n + 1 := by omega
      exact .inl ⟨ha, fun i hi hi2 => by omega⟩
    · rcases ih h3 (by omega) with ⟨h4, h5⟩ | ⟨t, h4, h5, h6, h7, h8⟩
      · cases hg : (slAt us n).given with
        | true => exact .inr ⟨n, h3, by omega, hg, h5, h4⟩
        | false =>
          refine .inl ⟨by rw [glTo_succ, h4, hg]; simp, fun i hi hi2 => ?_⟩
          rcases Nat.lt_or_ge i n with h6 | h6
          · exact h5 i hi h6
          · obtain rfl : i = n := by omega
            exact hg
      · exact .inr ⟨t, h4, by omega, h6, h7, h8⟩
end Go.Proofs.Ytfbmbjbokmomhaa
