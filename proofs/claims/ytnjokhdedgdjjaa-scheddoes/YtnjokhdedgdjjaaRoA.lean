/- A row that is cut at its head and appended to: where it begins is not fixed. -/
import Derived.Test.YtnjokhdedgdjjaaApA
import Derived.ArgAppend
namespace Go.Proofs.Ytnjokhdedgdjjaa
open Go.RowKit
set_option linter.unusedVariables false
set_option maxRecDepth 100000

/-- A row of elements of one cell, wherever it begins. -/
def Ro (w : World) (e : TypeId) (v : Value) (xs : List Value) : Prop :=
  (v = .slice none 0 0 ∧ xs = []) ∨ ∃ g o cap cs, v = .slice (some ⟨g, o, none⟩) xs.length cap ∧ xs.length ≤ cap ∧ cap ≤ maxLen ∧ Bk w g e cs ∧ o + cap ≤ cs.size ∧ ∀ (i : Nat) x, xs[i]? = some x → cs[o + i]? = some x

section
variable {w w' : World} {e : TypeId} {v : Value} {xs : List Value}

theorem Ro.form (h : Ro w e v xs) : ∃ p c, v = .slice p xs.length c ∧ xs.length ≤ c ∧ (p = none → c = 0) := by
  rcases h with ⟨rfl, rfl⟩ | ⟨g, o, cap, cs, rfl, h1, _⟩
  · exact ⟨none, 0, rfl, Nat.le_refl _, fun _ => rfl⟩
  · exact ⟨_, cap, rfl, h1, fun h => by cases h⟩

theorem Ro.tn {S : List Nat} (h : Ro w e v xs) (t : Tn S w w') (hs : ∀ k, v.ownBlock = some k → k ∉ S) : Ro w' e v xs := by
  rcases h with h | ⟨g, o, cap, cs, h1, h2, h3, h4, h5⟩
  · exact .inl h
  · exact .inr ⟨g, o, cap, cs, h1, h2, h3, h4.tn t (hs g (by rw [h1]; rfl)), h5⟩

theorem Ro.lt (h : Ro w e v xs) {k : Nat} (hk : v.ownBlock = some k) : k < w.heap.size ∧ ∃ cs, Bk w k e cs := by
  rcases h with ⟨rfl, _⟩ | ⟨g, o, cap, cs, rfl, h2, h3, h4, h5⟩
  · cases hk
  · simp only [Value.ownBlock, Option.some.injEq] at hk
    subst hk
    exact ⟨h4.lt, cs, h4⟩

theorem Ro.cell (h : Ro w e v xs) {p : Option Addr} {n c : Nat} (hv : v = .slice p n c) {i : Nat} {x : Value} (hx : xs[i]? = some x) : ∃ g o, p = some ⟨g, o, none⟩ ∧ w.cell? ⟨g, o + i, none⟩ = some x := by
  rcases h with ⟨rfl, rfl⟩ | ⟨g, o, cap, cs, rfl, h2, h3, h4, h5, h6⟩
  · simp at hx
  · cases hv
    exact ⟨g, o, rfl, (h4.cell _).trans (h6 i x hx)⟩

/-- Without its head. -/
theorem Ro.tail {g o cap : Nat} {x : Value} {n : Nat} (h : Ro w e (.slice (some ⟨g, o, none⟩) n cap) (x :: xs)) : ∀ v', (v' = .slice (some ⟨g, o, none⟩) 0 0 ∧ xs = []) ∨ v' = .slice (some ⟨g, o + 1, none⟩) xs.length (cap - 1) → Ro w e v' xs := by
  rcases h with ⟨h, _⟩ | ⟨g', o', cap', cs, h1, h2, h3, h4, h5, h6⟩
  · cases h
  · cases h1
    rw [List.length_cons] at h2
    rintro v' (⟨rfl, rfl⟩ | rfl)
    · exact .inr ⟨g, o, 0, cs, rfl, Nat.le_refl _, by simp [maxLen], h4, by omega, by simp⟩
    · exact .inr ⟨g, o + 1, cap - 1, cs, rfl, by omega, by omega, h4, by omega, fun i y hy => by rw [Nat.add_right_comm]; exact h6 (i + 1) y (by simpa using hy)⟩

theorem Ro.of_owns {base : Nat} {n : Nat} (h : w.ownsRow base e 1 v n xs) : Ro w e v xs := by
  have hl : xs.length = n := by have := h.1; omega
  rcases h.2 with ⟨rfl, rfl⟩ | ⟨g, cap, cur, rfl, hb, hg, h1, h2, h3, h4⟩
  · exact .inl ⟨rfl, List.eq_nil_of_length_eq_zero hl⟩
  · refine .inr ⟨g, 0, cap, cur, by rw [hl], by omega, h2, hg, by omega, fun i x hx => ?_⟩
    rw [Nat.zero_add]
    have : (cur.toList.take (n * 1))[i]? = some x := by rw [h4]; exact hx
    rw [List.getElem?_take] at this
    split at this
    · simpa using this
    · cases this

/-- One more at its end. -/
theorem run_append_ro (h : Ro w e v xs) (t ty : TypeId) (i0 : TypeInfo) (z : Value) (bytes : Nat) (ht : Try.prog.underlying t = some (.slice e)) (hi : Try.prog.info? e = some i0) (hz : i0.zero = some z) (hsize : i0.size = 1) (hby : i0.bytes = bytes) (hzs : z.cells.size = 1)
    (ad : Addr) (c : Nat) (x : Value) (hx : w.cell? ad = some x) (hx1 : x.oneCell' = true) (h63 : xs.length + 1 ≤ maxLen) (hbytes : (xs.length + 1) * bytes ≤ 140737488355328) :
    ∃ v' w', (Builtin.append_ #[t, t] ty #[v, .slice (some ad) 1 c]).run Try.prog w = .ok v' w' ∧ Ro w' e v' (xs ++ [x]) ∧ Tn v.ownBlock.toList w w' ∧ Nw w v v' := by
  have hnews : ∀ j u, [x][j]? = some u → w.cell? (ad.add j) = some u := fun j u hu => by
    cases j with
    | zero => simp at hu; subst hu; rw [show ad.add 0 = ad by unfold Addr.add; split <;> simp_all]; exact hx
    | succ j => simp at hu
  have h1 : ∀ u ∈ [x], u.oneCell' = true := by simpa using hx1
  rcases h with ⟨rfl, rfl⟩ | ⟨g, o, cap, cs, rfl, h2, h3, h4, h5, h6⟩
  · obtain ⟨v', w', hr, r1, r2, r3, r4⟩ := run_append_own_at (P := Try.prog) w 0 t ty e i0 z 1 bytes ht hi hz hsize hby hzs (by decide) (.slice none 0 0) 0 [] (World.ownsRow_nil _ _ _ _) ad 1 c [x] rfl hnews h1 h63 hbytes (Nat.zero_le _)
    refine ⟨v', w', hr, Ro.of_owns r1, grown_tn r2, fun k hk => ?_⟩
    rcases r4 with h | h
    · exact .inl (h ▸ hk)
    · rw [h] at hk
      simp at hk
      exact .inr (by omega)
  · by_cases hroom : xs.length + 1 ≤ cap
    · have hin : o + xs.length < cs.size := by omega
      have hr := run_append_room_cells (P := Try.prog) w t ty e i0 ht hi g o xs.length cap ad 1 c [x] (by simp [hsize]) hnews h1 hroom (fun j hj => by
        rw [hsize, Nat.mul_one, h4.cell]
        simp at hj
        subst hj
        simp; omega) (fun j hj => h4.frozen _)
      rw [hsize, Nat.mul_one] at hr
      have hset : w.setCells g (o + xs.length) [x] = w.setCell ⟨g, o + xs.length, none⟩ x := rfl
      rw [hset] at hr
      refine ⟨_, _, hr, .inr ⟨g, o, cap, cs.setIfInBounds (o + xs.length) x, by simp, by simpa using hroom, h3, h4.set _ _, by simpa using h5, fun i y hy => ?_⟩, (Tn.refl _ w).setCell (.inl (by simp [Value.ownBlock])) _, fun k hk => .inl hk⟩
      by_cases hi' : i = xs.length
      · subst hi'
        simp at hy
        subst hy
        simp [hin]
      · have hlt : i < xs.length := by
          have := (List.getElem?_eq_some_iff.1 hy).1
          simp at this
          omega
        rw [List.getElem?_append_left hlt] at hy
        rw [Array.getElem?_setIfInBounds_ne (by omega)]
        exact h6 i y hy
    · obtain ⟨v', w', hr, r1, r2⟩ := run_append_arg_grows (P := Try.prog) w t ty e i0 z 1 bytes ht hi hz hsize hby hzs (by decide) ⟨g, o, none⟩ xs.length cap xs (by simp) (fun j u hu => by
        rw [show (⟨g, o, none⟩ : Addr).add j = ⟨g, o + j, none⟩ by unfold Addr.add; split <;> simp_all]
        exact (h4.cell _).trans (h6 j u hu)) ad 1 c [x] rfl hnews (by omega) h63 hbytes
      refine ⟨v', w', hr, Ro.of_owns r1, (grown_tn r2).mono (by simp), ?_⟩
      intro k hk
      rcases r1.2 with ⟨_, h0⟩ | ⟨g', cap', cur', rfl, hb', hg', _⟩
      · omega
      · simp only [Value.ownBlock, Option.some.injEq] at hk
        subst hk
        exact .inr hb'

end
end Go.Proofs.Ytnjokhdedgdjjaa
