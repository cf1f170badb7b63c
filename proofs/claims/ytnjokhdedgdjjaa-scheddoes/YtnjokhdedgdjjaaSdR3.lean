/- The document's scheduler: a fiber dropped, a step. -/
import Derived.Test.YtnjokhdedgdjjaaSdR2
namespace Go.Proofs.Ytnjokhdedgdjjaa
open Go.RowKit Go.Maps
set_option linter.unusedVariables false
set_option maxRecDepth 100000

section
variable {w w' : World} {r : Gr} {L : Nat} {s : Sc}

theorem rdropAt_any (h : Rq w r L s) {i : Nat} {f : Fb} (hi : s.fl[i]? = some f) (hl : s.fl.length ≤ 4096) : Calls Try.prog 46 #[.pointer (some ⟨r.R, 0, none⟩), .int .i64 (i : Int)] w fun e w' => e = .returned (.tuple #[]) ∧ ∃ va', Rq w' { r with va := va' } L { s with fl := s.fl.take i ++ s.fl.drop (i + 1) } ∧ RT w w' r { r with va := va' } := by
  have hlt := (List.getElem?_eq_some_iff.1 hi).1
  obtain ⟨G, k, hv, hk, -⟩ := h.fcell hi
  have c2 := h.c2
  rw [hv] at c2
  have HH : Hid (Rq w r L s) := h
  have HV : Hid (r.va = .slice (some ⟨G, 0, none⟩) s.fl.length k) := hv
  obtain ⟨n, hn⟩ : ∃ n, s.fl.length = n := ⟨_, rfl⟩
  have HN : Hid (s.fl.length = n) := hn
  rw [hn] at c2 hk hlt hl
  have hN1 : Hid (∀ ad, some (⟨G, 0, none⟩ : Addr) = some ad → ∀ j u, (rfs (s.fl.take i))[j]? = some u → w.cell? (ad.add j) = some u) := h.news hv _ 0 fun j u hu => by
    rw [rfs_take, List.getElem?_take] at hu
    split at hu
    · rw [Nat.zero_add]; exact hu
    · cases hu
  have hN2 : Hid (∀ ad, some (⟨G, (i + 1) * 3, none⟩ : Addr) = some ad → ∀ j u, (rfs (s.fl.drop (i + 1)))[j]? = some u → w.cell? (ad.add j) = some u) := h.news hv _ _ fun j u hu => by
    rw [rfs_drop, List.getElem?_drop] at hu
    exact hu
  have HT : Hid (∀ W1 v1, W1.ownsRow 0 77 3 v1 (i + (n - (i + 1))) (rfs (s.fl.take i) ++ rfs (s.fl.drop (i + 1))) → Tn [] w W1 → (∀ b, v1.ownBlock = some b → w.heap.size ≤ b) → Rq (W1.setCell ⟨r.R, 2, none⟩ v1) { r with va := v1 } L { s with fl := s.fl.take i ++ s.fl.drop (i + 1) } ∧ RT w (W1.setCell ⟨r.R, 2, none⟩ v1) r { r with va := v1 } ∧ W1.cell? ⟨r.R, 2, none⟩ = some (.slice (some ⟨G, 0, none⟩) n k) ∧ W1.frozen? ⟨r.R, 2, none⟩ = false) := by
    intro W1 v1 ho ht hb
    have hlen : (s.fl.take i ++ s.fl.drop (i + 1)).length = i + (n - (i + 1)) := by simp [HN.out]; omega
    rw [← rfs_app, ← hlen] at ho
    obtain ⟨q1, q2⟩ := HH.out.setAl (ht.mono (by simp)) ho
    have hb1 := HH.out.blk.tn ht (by simp)
    refine ⟨q1, ⟨q2.mono ?_, rfl, ?_⟩, ?_, hb1.frozen 2⟩
    · intro x hx
      rcases List.mem_cons.1 hx with rfl | hx
      · exact mem_rtR
      · exact mem_rtA (opt_toList.1 hx)
    · refine rt_sub (.inl mem_rtR) (fun k hk => .inr (hb k hk)) (fun k hk => .inl (mem_rtD hk)) (fun k hk => .inl (mem_rtE hk))
    · rw [hb1.cell 2, ← HN.out, ← HV.out]
      rfl
  have HO : Hid (w.ownsRow 0 77 3 (.slice none 0 0) 0 []) := World.ownsRow_nil _ _ _ _
  have HL1 : Hid ((rfs (s.fl.take i)).length = i * 3) := by
    show _ = _
    rw [rfs_length, List.length_take, hn]
    congr 1
    omega
  have HL2 : Hid ((rfs (s.fl.drop (i + 1))).length = (n - (i + 1)) * 3) := by
    show _ = _
    rw [rfs_length, List.length_drop, hn]
  have g1 : (0 : Int) ≤ (i : Int) := by omega
  have g2 : (i : Int) ≤ (k : Int) := by omega
  have g3 : ((i + 1 : Nat) : Int) ≤ (n : Int) := by omega
  have g4 : wrap64 ((i : Int) + 1) = ((i + 1 : Nat) : Int) := by unfold wrap64; omega
  have g5 : (0 : Int) ≤ ((i + 1 : Nat) : Int) := by omega
  have g6 : ((i + 1 : Nat) : Int) ≤ (k : Int) := by omega
  clear h hi hv hn
  go_enter Try.func46, Try.ntmps46
  go_wp2_with (at_builtin; refine appX _ rfl _ _ _ rfl 77 (.agg #[.int .i64 0, .int .i64 0, .int .i64 0]) 3 24 Try.underlying72 fbinfo rfl (by decide) (.slice none 0 0) 0 [] rfl HO.out (some ⟨G, 0, none⟩) i k (rfs (s.fl.take i)) rfl HL1.out hN1.out (rf_one _) (fun h => by cases h) (by unfold maxLen; omega) (by omega) ?_)
  intro v1 w1 o1 t1 b1
  have T1 : Tn [] w w1 := grown_tn t1
  have n1 : ∀ b, v1.ownBlock = some b → w.heap.size ≤ b := fun b hb => by
    rcases b1 with e | e
    · rw [e] at hb; cases hb
    · rw [e] at hb; simp at hb; omega
  obtain ⟨p1, c1, hv1, -⟩ := row_form o1
  subst hv1
  have c2' : w1.cell? ⟨r.R, 2, none⟩ = some (.slice (some ⟨G, 0, none⟩) n k) := by
    rw [(HH.out.blk.tn T1 (by simp)).cell 2, ← HN.out, ← HV.out]
    rfl
  have HO1 : Hid (w1.ownsRow 0 77 3 (.slice p1 i c1) i (rfs (s.fl.take i))) := o1
  have HN1 : Hid (Tn [] w w1 ∧ ∀ b, (Value.slice p1 i c1).ownBlock = some b → w.heap.size ≤ b) := ⟨T1, n1⟩
  have hG : G < w.heap.size := by
    have := row_block HH.out.al G (by rw [HV.out]; rfl)
    exact this
  have hN3 : Hid (∀ ad, some (⟨G, (i + 1) * 3, none⟩ : Addr) = some ad → ∀ j u, (rfs (s.fl.drop (i + 1)))[j]? = some u → w1.cell? (ad.add j) = some u) := by
    intro ad had j u hu
    have := hN2.out ad had j u hu
    cases had
    rw [show (⟨G, (i + 1) * 3, none⟩ : Addr).add j = ⟨G, (i + 1) * 3 + j, none⟩ by unfold Addr.add; split <;> simp_all] at *
    rw [← this]
    exact World.cell?_of_block (a := ⟨G, (i + 1) * 3 + j, none⟩) (T1.block G hG (by simp))
  clear o1 t1 b1 T1 n1 hN2 c2
  have HE : Hid (∀ W2 v2, W2.ownsRow 0 77 3 v2 (i + (n - (i + 1))) (rfs (s.fl.take i) ++ rfs (s.fl.drop (i + 1))) → w1.grownBy W2 (Value.slice p1 i c1).ownBlock → (v2.ownBlock = (Value.slice p1 i c1).ownBlock ∨ v2.ownBlock = some w1.heap.size) → Rq (W2.setCell ⟨r.R, 2, none⟩ v2) { r with va := v2 } L { s with fl := s.fl.take i ++ s.fl.drop (i + 1) } ∧ RT w (W2.setCell ⟨r.R, 2, none⟩ v2) r { r with va := v2 } ∧ W2.cell? ⟨r.R, 2, none⟩ = some (.slice (some ⟨G, 0, none⟩) n k) ∧ W2.frozen? ⟨r.R, 2, none⟩ = false) := by
    intro W2 v2 o2 t2 b2
    refine HT.out W2 v2 o2 (HN1.out.1.grown t2 fun k hk => .inr (HN1.out.2 k hk)) fun b hb => ?_
    rcases b2 with e | e
    · exact HN1.out.2 b (e ▸ hb)
    · rw [e] at hb
      simp at hb
      have := HN1.out.1.size
      omega
  by_cases hc : k = i + 1
  · subst hc
    have hni : n = i + 1 := by omega
    subst hni
    have HL3 : Hid (rfs (s.fl.drop (i + 1)) = []) := by
      refine List.eq_nil_of_length_eq_zero ?_
      rw [HL2.out]
      omega
    rw [HL3.out] at HE
    go_wp2_with (at_builtin; refine appX _ rfl _ _ _ rfl 77 (.agg #[.int .i64 0, .int .i64 0, .int .i64 0]) 3 24 Try.underlying72 fbinfo rfl (by decide) (.slice p1 i c1) i (rfs (s.fl.take i)) rfl HO1.out _ _ _ [] rfl (by simp) (by simp) (by simp) (fun h => by cases h) (by unfold maxLen; omega) (by omega) ?_)
    intro v2 w2 o2 t2 b2
    obtain ⟨p2, c2, hv2, -⟩ := row_form o2
    subst hv2
    obtain ⟨q1, q2, q3, q4⟩ := HE.out w2 _ (by simpa using o2) t2 b2
    have HQ : Hid _ := And.intro q1 q2
    clear q1 q2 o2 t2 b2 HE HT
    go_wp2
    go_end0
    exact ⟨rfl, _, HQ.out⟩
  · go_wp2_with (at_builtin; refine appX _ rfl _ _ _ rfl 77 (.agg #[.int .i64 0, .int .i64 0, .int .i64 0]) 3 24 Try.underlying72 fbinfo rfl (by decide) (.slice p1 i c1) i (rfs (s.fl.take i)) rfl HO1.out _ _ _ (rfs (s.fl.drop (i + 1))) rfl HL2.out hN3.out (rf_one _) (fun h => by cases h) (by unfold maxLen; omega) (by omega) ?_)
    intro v2 w2 o2 t2 b2
    obtain ⟨p2, c2, hv2, -⟩ := row_form o2
    subst hv2
    obtain ⟨q1, q2, q3, q4⟩ := HE.out w2 _ o2 t2 b2
    have HQ : Hid _ := And.intro q1 q2
    clear q1 q2 o2 t2 b2 HE HT
    go_wp2
    go_end0
    exact ⟨rfl, _, HQ.out⟩

end
end Go.Proofs.Ytnjokhdedgdjjaa
