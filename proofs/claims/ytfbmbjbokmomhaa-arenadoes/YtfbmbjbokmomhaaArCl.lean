/- An arena's clone. -/
import Derived.Test.YtfbmbjbokmomhaaArRc
import Derived.Deep.RegionHeld3
namespace Go.Proofs.Ytfbmbjbokmomhaa
open Go.RowKit
set_option linter.unusedVariables false
set_option maxRecDepth 100000

theorem row_form {w : World} {base : Nat} {e : TypeId} {size : Nat} {v : Value} {n : Nat} {xs : List Value} (h : w.ownsRow base e size v n xs) : ∃ p k, v = .slice p n k ∧ n ≤ k := by
  rcases h.2 with ⟨hv, hn⟩ | ⟨g, cap, cur, hv, _, _, h1, h2, _⟩
  · exact ⟨none, 0, by rw [hv, hn], by omega⟩
  · exact ⟨_, cap, hv, h1⟩

/-- The row's cells as what is appended. -/
theorem row_news {w : World} {size n : Nat} {e : TypeId} {p : Option Addr} {c : Nat} {xs : List Value} (h : w.ownsRow 0 e size (.slice p n c) n xs) (hx : xs.length = n * size) : (∀ ad, p = some ad → ∀ j u, xs[j]? = some u → w.cell? (ad.add j) = some u) ∧ (p = none → n = 0 ∧ c = 0) := by
  constructor
  · intro ad had j u hu
    subst had
    have hj := (List.getElem?_eq_some_iff.1 hu).1
    rcases h.2 with ⟨hv, hn⟩ | ⟨g, cap, cur, hv, hrest⟩
    · simp at hv
    · simp only [Value.slice.injEq, Option.some.injEq] at hv
      obtain ⟨rfl, -, rfl⟩ := hv
      rw [show (⟨g, 0, none⟩ : Addr).add j = ⟨g, j, none⟩ by unfold Addr.add; split <;> simp_all]
      rw [World.ownsRow.cellAt h j (by omega)]
      exact hu
  · intro hp
    subst hp
    rcases h.2 with ⟨hv, hn⟩ | ⟨g, cap, cur, hv, hrest⟩
    · simp only [Value.slice.injEq] at hv
      exact ⟨hn, hv.2.2⟩
    · simp at hv

set_option maxHeartbeats 1000000 in
theorem scloneS {w : World} {v : Value} {us : List Sl} (h : w.ownsRow 0 tSS 3 v us.length (slCells us)) (hl : us.length ≤ 65536) (h1 : ∀ u ∈ slCells us, u.oneCell' = true) :
    Calls Try.prog 44 #[v] w fun r w' => ∃ v', r = .returned v' ∧ w'.ownsRow 0 tSS 3 v' us.length (slCells us) ∧ Tn [] w w' ∧ ∀ b, v'.ownBlock = some b → w.heap.size ≤ b := by
  obtain ⟨n, hn⟩ : ∃ n, us.length = n := ⟨_, rfl⟩
  obtain ⟨p, c, rfl, -⟩ := row_form h
  rw [hn] at h hl ⊢
  have hlen : (slCells us).length = n * 3 := by rw [slCells_length, hn]
  cases p with
  | none =>
    obtain ⟨rfl, rfl⟩ := (row_news h hlen).2 rfl
    have HE : Hid (w.ownsRow 0 tSS 3 (.slice none 0 0) 0 (slCells us)) := h
    clear h hl h1 hlen hn
    have hq : ∀ W : World, (binOp .eql 58 (.slice none 0 0) (.slice none 0 0)).run Try.prog W = .ok (.bool true) W := fun W => by kernel_rfl
    go_enter Try.func44, Try.ntmps44
    go_wp2
    go_ret
    exact ⟨_, rfl, HE.out, Tn.refl _ _, fun b hb => (by cases hb)⟩
  | some ad =>
    have HO : Hid (World.ownsRow (w.alloc (.cells #[] 82)) 0 82 3 (.slice (some ⟨w.heap.size, 0, none⟩) 0 0) 0 []) := ⟨rfl, .inr ⟨w.heap.size, 0, #[], rfl, Nat.zero_le _, Bk.new w _ _, Nat.le_refl _, Nat.zero_le _, rfl, rfl⟩⟩
    have hw := owns_tn h ((Tn.refl [] w).alloc (.cells #[] 82)) (by simp)
    have HW : Hid (∀ ad', some ad = some ad' → ∀ j u, (slCells us)[j]? = some u → (w.alloc (.cells #[] 82)).cell? (ad'.add j) = some u) := (row_news hw hlen).1
    have H1 : Hid (∀ u ∈ slCells us, u.oneCell' = true) := h1
    have HL : Hid ((slCells us).length = n * 3) := hlen
    clear h h1 hlen hw hn
    have hq : ∀ W : World, (binOp .eql 58 (.slice (some ad) n c) (.slice none 0 0)).run Try.prog W = .ok (.bool false) W := fun W => by kernel_rfl
    go_enter Try.func44, Try.ntmps44
    go_wp2_with (at_builtin; refine appX _ rfl _ _ _ rfl 82 (.agg #[.int .i64 0, .bool false, (.string ⟨#[]⟩)]) 3 32 Try.underlying58 slinfoS rfl (by decide) (.slice (some ⟨w.heap.size, 0, none⟩) 0 0) 0 [] rfl HO.out (some ad) n c (slCells us) rfl HL.out HW.out H1.out (fun h => by cases h) (by unfold maxLen; omega) (by omega) ?_)
    intro v2 w2 o2 g2 q2
    have HF : Hid (w2.ownsRow 0 tSS 3 v2 n (slCells us) ∧ Tn [] w w2 ∧ ∀ b, v2.ownBlock = some b → w.heap.size ≤ b) := by
      refine ⟨by simpa using o2, ((Tn.refl [] w).alloc _).grown g2 (fun k hk => .inr (by cases hk; exact Nat.le_refl _)), fun b hb => ?_⟩
      rcases q2 with q | q
      · rw [q] at hb
        cases hb
        exact Nat.le_refl _
      · rw [q] at hb
        cases hb
        simp
    clear o2 g2 q2
    go_wp2
    go_ret
    exact ⟨_, rfl, HF.out⟩

set_option maxHeartbeats 1000000 in
theorem scloneW {w : World} {v : Value} {fr : List Nat} (h : Nr w v fr) (hl : fr.length ≤ 65536) :
    Calls Try.prog 45 #[v] w fun r w' => ∃ v', r = .returned v' ∧ Nr w' v' fr ∧ Tn [] w w' ∧ ∀ b, v'.ownBlock = some b → w.heap.size ≤ b := by
  obtain ⟨n, hn⟩ : ∃ n, fr.length = n := ⟨_, rfl⟩
  obtain ⟨p, c, rfl, -⟩ := h.form
  unfold Nr at h ⊢
  rw [hn] at h hl ⊢
  have hlen : (nums fr).length = n * 1 := by rw [nums_length, hn]; omega
  have h1 : ∀ u ∈ nums fr, u.oneCell' = true := fun u hu => by
    obtain ⟨x, _, rfl⟩ := List.mem_map.1 hu
    rfl
  cases p with
  | none =>
    obtain ⟨rfl, rfl⟩ := (row_news h hlen).2 rfl
    have HE : Hid (w.ownsRow 0 3 1 (.slice none 0 0) 0 (nums fr)) := h
    clear h hl h1 hlen hn
    have hq : ∀ W : World, (binOp .eql 59 (.slice none 0 0) (.slice none 0 0)).run Try.prog W = .ok (.bool true) W := fun W => by kernel_rfl
    go_enter Try.func45, Try.ntmps45
    go_wp2
    go_ret
    exact ⟨_, rfl, HE.out, Tn.refl _ _, fun b hb => (by cases hb)⟩
  | some ad =>
    have HO : Hid (World.ownsRow (w.alloc (.cells #[] 3)) 0 3 1 (.slice (some ⟨w.heap.size, 0, none⟩) 0 0) 0 []) := ⟨rfl, .inr ⟨w.heap.size, 0, #[], rfl, Nat.zero_le _, Bk.new w _ _, Nat.le_refl _, Nat.zero_le _, rfl, rfl⟩⟩
    have hw := owns_tn h ((Tn.refl [] w).alloc (.cells #[] 3)) (by simp)
    have HW : Hid (∀ ad', some ad = some ad' → ∀ j u, (nums fr)[j]? = some u → (w.alloc (.cells #[] 3)).cell? (ad'.add j) = some u) := (row_news hw hlen).1
    have H1 : Hid (∀ u ∈ nums fr, u.oneCell' = true) := h1
    have HL : Hid ((nums fr).length = n * 1) := hlen
    clear h h1 hlen hw hn
    have hq : ∀ W : World, (binOp .eql 59 (.slice (some ad) n c) (.slice none 0 0)).run Try.prog W = .ok (.bool false) W := fun W => by kernel_rfl
    go_enter Try.func45, Try.ntmps45
    go_wp2_with (at_builtin; refine appX _ rfl _ _ _ rfl 3 (.int .i64 0) 1 8 Try.underlying59 intinfo rfl (by decide) (.slice (some ⟨w.heap.size, 0, none⟩) 0 0) 0 [] rfl HO.out (some ad) n c (nums fr) rfl HL.out HW.out H1.out (fun h => by cases h) (by unfold maxLen; omega) (by omega) ?_)
    intro v2 w2 o2 g2 q2
    have HF : Hid (w2.ownsRow 0 3 1 v2 n (nums fr) ∧ Tn [] w w2 ∧ ∀ b, v2.ownBlock = some b → w.heap.size ≤ b) := by
      refine ⟨by simpa using o2, ((Tn.refl [] w).alloc _).grown g2 (fun k hk => .inr (by cases hk; exact Nat.le_refl _)), fun b hb => ?_⟩
      rcases q2 with q | q
      · rw [q] at hb
        cases hb
        exact Nat.le_refl _
      · rw [q] at hb
        cases hb
        simp
    clear o2 g2 q2
    go_wp2
    go_ret
    exact ⟨_, rfl, HF.out⟩

/-- Each slot has a text. -/
def Txs (us : List Sl) : Prop := ∀ s ∈ us, ∃ x : ByteArray, s.val = .string x
theorem Txs.one {us : List Sl} (h : Txs us) : ∀ u ∈ slCells us, u.oneCell' = true := by
  intro u hu
  unfold slCells at hu
  rw [List.mem_flatten] at hu
  obtain ⟨l, hl, hu⟩ := hu
  rw [List.mem_map] at hl
  obtain ⟨s, hs, rfl⟩ := hl
  obtain ⟨x, hx⟩ := h s hs
  simp [Sl.cells, hx] at hu
  rcases hu with rfl | rfl | rfl <;> rfl
theorem Txs.set {us : List Sl} (h : Txs us) (i : Nat) {s : Sl} (hs : ∃ x : ByteArray, s.val = .string x) : Txs (us.set i s) := by
  intro t ht
  rcases List.mem_or_eq_of_mem_set ht with h1 | rfl
  · exact h t h1
  · exact hs
theorem Txs.put {a : Ar} (h : Txs a.us) (x : ByteArray) : Txs (a.put (.string x)).us := by
  unfold Ar.put
  by_cases hl : low a.us < a.us.length
  · simp only [if_pos hl]
    exact h.set _ ⟨x, rfl⟩
  · simp only [if_neg hl]
    intro t ht
    simp only [List.mem_append, List.mem_cons, List.not_mem_nil, or_false] at ht
    rcases ht with ht | rfl
    · exact h t ht
    · exact ⟨x, rfl⟩

set_option maxHeartbeats 4000000 in
theorem cloneS {w : World} {B : Nat} {bs : List Nat} {a : Ar} (h : Arn tAS tSS w B bs a) (hx : Txs a.us) :
    Calls Try.prog 26 #[.pointer (some ⟨B, 0, none⟩)] w fun e w' => ∃ C bs', e = .returned (.pointer (some ⟨C, 0, none⟩)) ∧ Arn tAS tSS w' C bs' a ∧ (∀ b ∈ bs', w.heap.size ≤ b) ∧ Below w.heap.size w w' := by
  obtain ⟨uv, fv, fr, rfl, h⟩ := h
  obtain ⟨c0, c1, c2, c3⟩ := h.cells
  have HI : Hid (IsAr tAS tSS w B uv fv fr a ∧ Txs a.us) := ⟨h, hx⟩
  have hs1 := h.s1
  have hs2 := h.s2
  have HU : Hid (a.us.length ≤ 65536) := Nat.le_trans h.le h.s2
  have HF : Hid (fr.length ≤ 65536) := by
    show _ ≤ _
    rw [h.perm.length_eq]
    exact Nat.le_trans (freeOf_le _) (Nat.le_trans h.le h.s2)
  have HQ : Hid (∀ W, Tn [] w W → W.cell? ⟨B, 0, none⟩ = some (.int .i64 a.size) ∧ W.cell? ⟨B, 1, none⟩ = some uv ∧ W.cell? ⟨B, 2, none⟩ = some fv ∧ W.cell? ⟨B, 3, none⟩ = some (.int .i64 a.stale)) := fun W hW => (h.tn hW (by simp)).cells
  clear h hx
  go_enter Try.func26, Try.ntmps26
  go_wp2_with fail
  refine (madeS c0 hs1).mono ?_
  rintro e w1 ⟨rfl, rfl⟩
  go_wp2_with fail
  have HD : Hid (Tn [] w1 w1.drew) := (Tn.refl _ _).drew
  obtain ⟨pu, cu, hu⟩ := HI.out.1.uform
  obtain ⟨pf, cf, hf⟩ := HI.out.1.fform
  subst hu hf
  go_region_held3 (fun w' => w'.cell? ⟨B, 0, none⟩ = some (.int .i64 a.size) ∧ w'.cell? ⟨B, 1, none⟩ = some (.slice pu a.us.length cu) ∧ w'.cell? ⟨B, 2, none⟩ = some (.slice pf fr.length cf)) (go_keep) (first
    | (go_at_call 44; refine (scloneS (owns_tn HI.out.1.row HD.out (by simp)) HU.out HI.out.2.one).mono ?_; rintro r w3 ⟨uv', rfl, hr3, ht3, hn3⟩; obtain ⟨p3, k3, hv3, -⟩ := row_form hr3; subst hv3; have H3 : Hid (w3.ownsRow 0 tSS 3 (.slice p3 a.us.length k3) a.us.length (slCells a.us) ∧ Tn [] w1 w3 ∧ ∀ b, (Value.slice p3 a.us.length k3).ownBlock = some b → w1.heap.size ≤ b) := ⟨hr3, HD.out.trans ht3 (by simp), hn3⟩; obtain ⟨s0, s1, s2, s3⟩ := HQ.out w3 H3.out.2.1; clear hr3 ht3 hn3)
    | (go_at_call 45; refine (scloneW (HI.out.1.wt.row.tn H3.out.2.1 (by simp)) HF.out).mono ?_; rintro r w4 ⟨fv', rfl, hr4, ht4, hn4⟩; obtain ⟨p4, k4, hv4, -⟩ := hr4.form; subst hv4; have H4 : Hid (Nr w4 (.slice p4 fr.length k4) fr ∧ Tn [] w3 w4 ∧ ∀ b, (Value.slice p4 fr.length k4).ownBlock = some b → w3.heap.size ≤ b) := ⟨hr4, ht4, hn4⟩; obtain ⟨q0, q1, q2, q3⟩ := HQ.out w4 (H3.out.2.1.trans ht4 (by simp)); clear hr4 ht4 hn4))
  obtain ⟨C, hC⟩ : ∃ C, w4.heap.size = C := ⟨_, rfl⟩
  obtain ⟨w5, hw5⟩ : ∃ w5, w5 = w4.alloc (.cells #[.int .i64 (a.size : Int), .slice p3 a.us.length k3, .slice p4 fr.length k4, .int .i64 0] 66) := ⟨_, rfl⟩
  have kC : Bk w5 C 66 #[.int .i64 (a.size : Int), .slice p3 a.us.length k3, .slice p4 fr.length k4, .int .i64 0] := by rw [hw5, ← hC]; exact Bk.new _ _ _
  have t45 : Tn [] w4 w5 := by rw [hw5]; exact (Tn.refl _ _).alloc _
  have T5 : Tn [] w1 w5 := (H3.out.2.1.trans H4.out.2.1 (by simp)).trans t45 (by simp)
  have d3 : w5.drew.cell? ⟨B, 3, none⟩ = some (.int .i64 a.stale) := (HQ.out _ T5.drew).2.2.2
  have e3 : w5.drew.cell? ⟨C, 3, none⟩ = some (.int .i64 0) := kC.drew.cell 3
  have f3 : w5.drew.frozen? ⟨C, 3, none⟩ = false := kC.drew.frozen 3
  have HE : Hid (∀ W', W' = w5.drew.setCell ⟨C, 3, none⟩ (.int .i64 a.stale) → ∃ bs', Arn tAS tSS W' C bs' a ∧ (∀ b ∈ bs', w1.heap.size ≤ b) ∧ Below w1.heap.size w1 W') := by
    rintro W' rfl
    have t6 : Tn [C] w5.drew (w5.drew.setCell ⟨C, 3, none⟩ (.int .i64 a.stale)) := (Tn.refl _ _).setCell (.inl (by simp)) _
    have hC1 : w1.heap.size ≤ C := by rw [← hC]; exact Nat.le_trans H3.out.2.1.size H4.out.2.1.size
    have hb3 : ∀ b, (Value.slice p3 a.us.length k3).ownBlock = some b → b < C := fun b hb => by
      have := row_block H3.out.1 b hb
      have := H4.out.2.1.size
      omega
    have hb4 : ∀ b, (Value.slice p4 fr.length k4).ownBlock = some b → b < C := fun b hb => by
      have := row_block H4.out.1 b hb
      omega
    have r3 := owns_tn (owns_tn H3.out.1 (H4.out.2.1.trans t45.drew (by simp)) (by simp)) t6 (fun b hb => by have := hb3 b hb; simp; omega)
    have r4 := (H4.out.1.tn t45.drew (by simp)).tn t6 (fun b hb => by have := hb4 b hb; simp; omega)
    have h := HI.out.1
    refine ⟨_, ⟨_, _, fr, rfl, ⟨⟨kC.drew.set 3 _, r4, fun b hb => by have := hb4 b hb; omega, h.wt.len⟩, r3, fun b hb => by have := hb3 b hb; omega, fun b hb hb' => ?_, h.hp, h.perm, h.le, h.s1, h.s2⟩⟩, fun b hb => ?_, (T5.drew.below (Nat.le_refl _) (by simp)).trans (t6.below (Nat.le_trans T5.size (Nat.le_refl _)) (by simpa using hC1))⟩
    · have := row_block H3.out.1 b hb
      have := H4.out.2.2 b hb'
      omega
    · rcases mem_bsOf.1 hb with rfl | hb | hb
      · exact hC1
      · exact H3.out.2.2 b hb
      · have := H4.out.2.2 b hb
        have := H3.out.2.1.size
        omega
  rw [← hw5, hC]
  clear hw5 kC t45 T5 hC
  go_wp2_with fail
  go_region_held3 (fun w' => True) (trivial) (first
    | (go_at_call 34; refine (load_any d3).mono ?_; rintro r w7 ⟨rfl, rfl⟩)
    | (go_at_call 46; refine (store_any e3 f3).mono ?_; rintro r w8 ⟨rfl, hw8⟩; have HW := HE.out w8 hw8; clear hw8))
  go_wp2
  go_ret
  obtain ⟨bs', z1, z2, z3⟩ := HW
  exact ⟨C, bs', rfl, z1, z2, z3⟩
end Go.Proofs.Ytfbmbjbokmomhaa
