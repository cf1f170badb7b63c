/- Rows of elements of any kind: their cells, one behind the other. -/
import Derived.Test.YtcoibnlecdemcaaApA
namespace Go.Proofs.Ytcoibnlecdemcaa
open Go.RowKit
set_option linter.unusedVariables false
set_option maxRecDepth 100000

/-- A kind of elements: k cells each. -/
structure Knd {α : Type} (cells : α → List Value) (k : Nat) : Prop where
  len : ∀ x, (cells x).length = k
  one : ∀ x, ∀ u ∈ cells x, u.oneCell' = true
  pos : 0 < k

section
variable {α : Type} {cells : α → List Value} {k : Nat}

/-- Elements that a slice leads to. -/
def Els (cells : α → List Value) (k : Nat) (w : World) (p : Option Addr) (l : List α) : Prop :=
  0 < l.length → ∃ b o, p = some ⟨b, o, none⟩ ∧ ∀ (i : Nat) x, l[i]? = some x → ∀ (j : Nat) v, (cells x)[j]? = some v → w.cell? ⟨b, o + i * k + j, none⟩ = some v

theorem Els.nil (w : World) (p : Option Addr) : Els cells k w p [] := fun h => absurd h (Nat.lt_irrefl 0)

theorem Els.below {w w' : World} {p : Option Addr} {l : List α} (h : Els cells k w p l) {B : Nat} (hb : Below B w w') (hB : w.heap.size ≤ B) : Els cells k w' p l := by
  intro hl
  obtain ⟨b, o, rfl, hc⟩ := h hl
  refine ⟨b, o, rfl, fun i x hi j v hv => ?_⟩
  have h0 := hc i x hi j v hv
  rw [hb.cell (p := ⟨b, o + i * k + j, none⟩) (Nat.lt_of_lt_of_le (World.block_lt_of_cell? w _ h0) hB)]
  exact h0

theorem Els.tn {S : List Nat} {w w' : World} {p : Option Addr} {l : List α} (h : Els cells k w p l) (ht : Tn S w w') (hS : ∀ b o, p = some ⟨b, o, none⟩ → b ∉ S) : Els cells k w' p l := by
  intro hl
  obtain ⟨b, o, rfl, hc⟩ := h hl
  refine ⟨b, o, rfl, fun i x hi j v hv => ?_⟩
  have h0 := hc i x hi j v hv
  have h1 := ht.block b (World.block_lt_of_cell? w _ h0) (hS b o rfl)
  simp only [World.cell?, h1] at h0 ⊢
  exact h0

theorem Els.lt {w : World} {b o : Nat} {l : List α} (K : Knd cells k) (h : Els cells k w (some ⟨b, o, none⟩) l) (hl : 0 < l.length) : b < w.heap.size := by
  obtain ⟨b', o', hp, hc⟩ := h hl
  cases hp
  have hg := List.getElem?_eq_getElem hl
  have h0 : 0 < (cells l[0]).length := by rw [K.len]; exact K.pos
  exact World.block_lt_of_cell? w _ (hc 0 _ hg 0 _ (List.getElem?_eq_getElem h0))

theorem Els.at {w : World} {p : Option Addr} {l : List α} (h : Els cells k w p l) {j : Nat} (hj : j < l.length) : ∃ b o x, p = some ⟨b, o, none⟩ ∧ l[j]? = some x ∧ ∀ (i : Nat) v, (cells x)[i]? = some v → w.cell? ⟨b, o + j * k + i, none⟩ = some v := by
  obtain ⟨b, o, rfl, hc⟩ := h (by omega)
  have hg := List.getElem?_eq_getElem hj
  exact ⟨b, o, l[j], rfl, hg, hc j _ hg⟩

theorem Els.take {w : World} {p : Option Addr} {l : List α} (h : Els cells k w p l) (n : Nat) : Els cells k w p (l.take n) := by
  intro hl
  have hpos : 0 < l.length := by
    simp only [List.length_take] at hl
    omega
  obtain ⟨b, o, hp, hc⟩ := h hpos
  refine ⟨b, o, hp, fun j e hj => hc j e ?_⟩
  rw [List.getElem?_take] at hj
  split at hj
  · exact hj
  · cases hj

theorem Els.drop {w : World} {b o : Nat} {l : List α} (h : Els cells k w (some ⟨b, o, none⟩) l) (n : Nat) : Els cells k w (some ⟨b, o + n * k, none⟩) (l.drop n) := by
  intro hl
  have hpos : 0 < l.length := by
    simp only [List.length_drop] at hl
    omega
  obtain ⟨b', o', hp, hc⟩ := h hpos
  cases hp
  refine ⟨b, o + n * k, rfl, fun i x hi j v hv => ?_⟩
  rw [List.getElem?_drop] at hi
  have := hc (n + i) x hi j v hv
  rwa [Nat.add_mul, ← Nat.add_assoc] at this

/-- The cells of some elements, one behind the other. -/
def flat (cells : α → List Value) (l : List α) : List Value := (l.map cells).flatten

theorem flat_append (a b : List α) : flat cells (a ++ b) = flat cells a ++ flat cells b := by simp [flat]
theorem flat_cons (x : α) (r : List α) : flat cells (x :: r) = cells x ++ flat cells r := by simp [flat]
theorem flat_single (x : α) : flat cells [x] = cells x := by simp [flat]

theorem flat_len (K : Knd cells k) : ∀ l : List α, (flat cells l).length = l.length * k
  | [] => by simp [flat]
  | x :: r => by
    rw [flat_cons, List.length_append, flat_len K r, K.len, List.length_cons, Nat.add_mul]
    omega

theorem flat_at (K : Knd cells k) : ∀ (l : List α) (i : Nat) (x : α), l[i]? = some x → ∀ (j : Nat) v, (cells x)[j]? = some v → (flat cells l)[i * k + j]? = some v
  | [], i, x, h, _, _, _ => by simp at h
  | y :: r, 0, x, h, j, v, hv => by
    simp at h
    subst h
    rw [flat_cons, Nat.zero_mul, Nat.zero_add, List.getElem?_append_left (List.getElem?_eq_some_iff.1 hv).1]
    exact hv
  | y :: r, i + 1, x, h, j, v, hv => by
    simp only [List.getElem?_cons_succ] at h
    have := flat_at K r i x h j v hv
    rw [flat_cons, Nat.add_mul, Nat.one_mul, List.getElem?_append_right (by rw [K.len]; omega), K.len]
    rw [show i * k + k + j - k = i * k + j by omega]
    exact this

theorem flat_one (K : Knd cells k) (l : List α) : ∀ u ∈ flat cells l, u.oneCell' = true := by
  intro u hu
  obtain ⟨y, hy1, hy2⟩ := List.mem_flatten.1 hu
  obtain ⟨z, _, rfl⟩ := List.mem_map.1 hy1
  exact K.one z u hy2

theorem flat_inv (K : Knd cells k) : ∀ (l : List α) (j : Nat) (u : Value), (flat cells l)[j]? = some u → ∃ i x q, l[i]? = some x ∧ (cells x)[q]? = some u ∧ j = i * k + q
  | [], j, u, h => by simp [flat] at h
  | y :: r, j, u, h => by
    rw [flat_cons] at h
    by_cases hj : j < k
    · rw [List.getElem?_append_left (by rw [K.len]; exact hj)] at h
      exact ⟨0, y, j, rfl, h, by omega⟩
    · rw [List.getElem?_append_right (by rw [K.len]; omega), K.len] at h
      obtain ⟨i, x, q, h1, h2, h3⟩ := flat_inv K r (j - k) u h
      exact ⟨i + 1, x, q, by simpa using h1, h2, by rw [Nat.add_mul]; omega⟩

theorem flat_take (K : Knd cells k) (l : List α) (n : Nat) : flat cells (l.take n) = (flat cells l).take (n * k) := by
  by_cases h : n ≤ l.length
  · have h1 : l = l.take n ++ l.drop n := (List.take_append_drop n l).symm
    have h2 : (flat cells (l.take n)).length = n * k := by rw [flat_len K, List.length_take, Nat.min_eq_left h]
    have h3 : flat cells l = flat cells (l.take n) ++ flat cells (l.drop n) := by rw [← flat_append, ← h1]
    rw [h3, List.take_append_of_le_length (Nat.le_of_eq h2.symm), List.take_of_length_le (Nat.le_of_eq h2)]
  · rw [List.take_of_length_le (by omega), List.take_of_length_le]
    rw [flat_len K]
    exact Nat.mul_le_mul_right _ (by omega)

theorem Els.news (K : Knd cells k) {w : World} {p : Option Addr} {l : List α} (h : Els cells k w p l) : ∀ ad, p = some ad → ∀ j u, (flat cells l)[j]? = some u → w.cell? (ad.add j) = some u := by
  intro ad had j u hu
  obtain ⟨i, x, q, hx, hq, rfl⟩ := flat_inv K l j u hu
  obtain ⟨b, o, hp, hc⟩ := h (by have := (List.getElem?_eq_some_iff.1 hx).1; omega)
  rw [hp] at had
  obtain rfl := Option.some.inj had
  rw [Addr.add_lit]
  have := hc i x hx q u hq
  rwa [Nat.add_assoc] at this

/-- A row of elements of the call's own. -/
def Own (cells : α → List Value) (k : Nat) (t : TypeId) (w : World) (base : Nat) (v : Value) (l : List α) : Prop := w.ownsRow base t k v l.length (flat cells l)

theorem Own.els (K : Knd cells k) {t : TypeId} {w : World} {base : Nat} {v : Value} {l : List α} (h : Own cells k t w base v l) : ∃ p c, v = .slice p l.length c ∧ Els cells k w p l ∧ (p = none → l.length = 0 ∧ c = 0) ∧ l.length ≤ c := by
  rcases h.2 with ⟨hv, hn⟩ | ⟨g, cap, cur, hv, hb, hg, hle, hcm, hcur, htake⟩
  · refine ⟨none, 0, by rw [hv, hn], fun hl => by omega, fun _ => ⟨hn, rfl⟩, by omega⟩
  · refine ⟨some ⟨g, 0, none⟩, cap, hv, fun _ => ⟨g, 0, rfl, fun i x hi j v' hv' => ?_⟩, fun e => (by cases e), hle⟩
    have h0 := World.ownsRow.cells h (g := g) (by rw [hv]; rfl) (i * k + j) _ (flat_at K l i x hi j v' hv')
    rw [Addr.add_lit] at h0
    rwa [Nat.zero_add] at h0 ⊢

theorem Own.below {t : TypeId} {w w' : World} {base : Nat} {v : Value} {l : List α} (h : Own cells k t w base v l) {B : Nat} (hb : Below B w w') (hB : w.heap.size ≤ B) : Own cells k t w' base v l := by
  refine ⟨h.1, ?_⟩
  rcases h.2 with hn | ⟨g, cap, cur, hv, hbb, hg, rest⟩
  · exact .inl hn
  · refine .inr ⟨g, cap, cur, hv, hbb, ?_, rest⟩
    rw [hb.block g (Nat.lt_of_lt_of_le (Array.getElem?_eq_some_iff.1 hg).1 hB)]
    exact hg

theorem Own.tn {t : TypeId} {S : List Nat} {w w' : World} {base : Nat} {v : Value} {l : List α} (h : Own cells k t w base v l) (ht : Tn S w w') (hn : ∀ b, v.ownBlock = some b → b ∉ S) : Own cells k t w' base v l := owns_tn h ht hn

theorem Own.nil (t : TypeId) (w : World) (base : Nat) : Own cells k t w base (.slice none 0 0) [] := ⟨by simp [flat], .inl ⟨rfl, rfl⟩⟩

theorem Own.mono {t : TypeId} {w : World} {base base' : Nat} {v : Value} {l : List α} (h : Own cells k t w base v l) (hb : base' ≤ base) : Own cells k t w base' v l := by
  refine ⟨h.1, ?_⟩
  rcases h.2 with hn | ⟨g, cap, cur, hv, hbb, rest⟩
  · exact .inl hn
  · exact .inr ⟨g, cap, cur, hv, Nat.le_trans hb hbb, rest⟩

theorem Own.blk {t : TypeId} {w : World} {base : Nat} {v : Value} {l : List α} (h : Own cells k t w base v l) {b : Nat} (hb : v.ownBlock = some b) : base ≤ b ∧ b < w.heap.size := World.ownsRow.lt h b hb

/-- An element just laid. -/
theorem els_one (K : Knd cells k) (w : World) (t : TypeId) (x : α) : Els cells k (w.alloc (.cells (cells x).toArray t)) (some ⟨w.heap.size, 0, none⟩) [x] := by
  intro _
  have hk := Bk.new w t (cells x).toArray
  refine ⟨w.heap.size, 0, rfl, fun i g hi j v hv => ?_⟩
  match i, hi with
  | 0, hi =>
    simp at hi
    subst hi
    rw [Nat.zero_mul, Nat.zero_add, hk.cell j]
    simpa using hv
  | n + 1, hi => simp at hi

/-- 'append(v, x...)', v a row of the call's own, x whatever leads to elements. -/
theorem run_appL (K : Knd cells k) {e t : TypeId} {z : Value} {bytes : Nat} (ht : Try.prog.underlying t = some (.slice e)) (hinfo : (Try.prog.info? e).map (fun i => (i.zero, i.size, i.bytes)) = some (some z, k, bytes)) (hzs : z.cells.size = k)
    (w : World) (base : Nat) (ty : TypeId) (v : Value) (l l2 : List α) (p : Option Addr) (m c : Nat) (hm : l2.length = m) (hens : Els cells k w p l2) (hnil : p = none → m = 0 ∧ c = 0) (hown : Own cells k e w base v l) (h63 : l.length + m ≤ maxLen) (hb : (l.length + m) * bytes ≤ 140737488355328) (hbase : base ≤ w.heap.size) :
    ∃ v' w', (Builtin.append_ #[t, t] ty #[v, .slice p m c]).run Try.prog w = .ok v' w' ∧ Own cells k e w' base v' (l ++ l2) ∧ w.grownBy w' v.ownBlock ∧ (v'.ownBlock = v.ownBlock ∨ v'.ownBlock = some w.heap.size) := by
  obtain ⟨i0, hi0, hz0, hz1, hz2⟩ := info_parts hinfo
  cases p with
  | none =>
    obtain ⟨rfl, rfl⟩ := hnil rfl
    have : l2 = [] := List.eq_nil_of_length_eq_zero hm
    subst this
    exact ⟨v, w, run_append_owned_none (P := Try.prog) (w := w) base t ty e i0 k ht hi0 v l.length (flat cells l) hown, by simpa using hown, ⟨rfl, rfl, rfl, Nat.le_refl _, fun _ _ _ => rfl⟩, .inl rfl⟩
  | some ad =>
    obtain ⟨v', w', hr, h2, h3, h4, h5⟩ := run_append_own_at (P := Try.prog) w base t ty e i0 z k bytes ht hi0 hz0 hz1 hz2 hzs K.pos v l.length (flat cells l) hown ad m c (flat cells l2) (by rw [flat_len K, hm]) (hens.news K ad rfl) (flat_one K l2) h63 hb hbase
    refine ⟨v', w', hr, ?_, h3, h5⟩
    unfold Own
    rw [flat_append, List.length_append, hm]
    exact h2

theorem appL (K : Knd cells k) {e t : TypeId} {z : Value} {bytes : Nat} (ht : Try.prog.underlying t = some (.slice e)) (hinfo : (Try.prog.info? e).map (fun i => (i.zero, i.size, i.bytes)) = some (some z, k, bytes)) (hzs : z.cells.size = k)
    {ops : Array Oper} {rest : List Oper} {o : Oper} {a : Act} {Q : Exit → Act → World → Prop} (w : World) (hw : Region.wanted o (yielded ops a.tmps) = true) (s x : Operand)
    (ho : o.op = .call { callee := .builtin .append, args := #[s, x], argTypes := #[t, t] })
    (base : Nat) (v : Value) (l l2 : List α) (hs : a.eval s = v) (p : Option Addr) (m c : Nat) (hx : a.eval x = .slice p m c) (hm : l2.length = m) (hens : Els cells k w p l2) (hnil : p = none → m = 0 ∧ c = 0) (hown : Own cells k e w base v l)
    (h63 : l.length + m ≤ maxLen) (hb : (l.length + m) * bytes ≤ 140737488355328) (hbase : base ≤ w.heap.size)
    (h : ∀ v' w', Own cells k e w' base v' (l ++ l2) → w.grownBy w' v.ownBlock → (v'.ownBlock = v.ownBlock ∨ v'.ownBlock = some w.heap.size) → wpList Try.prog ops Q rest (a.put o.dst v') w') : wpList Try.prog ops Q (o :: rest) a w := by
  obtain ⟨v', w', hr, h2, h3, h5⟩ := run_appL K ht hinfo hzs w base o.type v l l2 p m c hm hens hnil hown h63 hb hbase
  refine BigFrame.wpList_want hw fun _ hK => ?_
  unfold Oper.wp execOp
  simp only [ho, resolve, invoke, builtin, Sem.run_bind, Sem.run_pure, Result.andThen_ok, List.map_toArray, List.map_cons, List.map_nil, hs, hx, hr]
  exact hK _ _ (h v' w' h2 h3 h5)

/-- What an append to a row of the call's own leaves. -/
theorem app_below {t : TypeId} {w w' : World} {base : Nat} {v : Value} {l : List α} (h : Own cells k t w base v l) (hg : w.grownBy w' v.ownBlock) (hb : base ≤ w.heap.size) : Below base w w' :=
  (Below.refl _ _).grown hg hb (fun b hb => (h.blk hb).1)
end
end Go.Proofs.Ytcoibnlecdemcaa
