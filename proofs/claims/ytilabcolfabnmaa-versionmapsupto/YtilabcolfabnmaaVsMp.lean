/- The document's way to put pairs, to drop keys and to put commits in order, as plain data; appends in a chain. -/
import Derived.Test.YtilabcolfabnmaaVsFo
import Derived.Test.YtilabcolfabnmaaRgM
namespace Go.Proofs.Ytilabcolfabnmaa
open Go.RowKit Go.Sort
set_option linter.unusedVariables false
set_option maxRecDepth 100000

/-- The place at which a pair is put. -/
def Pl.lead (x : Pr) (m : List Pr) : Nat := m.findIdx fun y => !Ky.lt y.key x.key
def Pl.hit (x : Pr) (m : List Pr) (k : Nat) : Bool := (m[k]?).any fun y => y.key.toList == x.key.toList
def Pl.put (m : List Pr) (x : Pr) : List Pr := m.take (Pl.lead x m) ++ ([x] ++ m.drop (if Pl.hit x m (Pl.lead x m) then Pl.lead x m + 1 else Pl.lead x m))
def Pl.drp (m : List Pr) (k : ByteArray) : List Pr := m.filter fun y => !(y.key.toList == k.toList)

theorem key_eq {a b : ByteArray} : (a.toList == b.toList) = true ↔ a.data.toList = b.data.toList := by
  rw [beq_iff_eq, ByteArray.toList_eq, ByteArray.toList_eq]
theorem key_ext {a b : ByteArray} (h : a.data.toList = b.data.toList) : a = b := by
  cases a
  cases b
  simp at h
  rw [h]

theorem Pl.put_is {F : Fm} (ho : F.Ok) {m : List Pr} (h : F.Is m) (x : Pr) : (F.set x.key.data.toList x).Is (Pl.put m x) := by
  obtain ⟨k, hk⟩ : ∃ k, Pl.lead x m = k := ⟨_, rfl⟩
  have hA : ∀ y ∈ m.take k, Ky.lt y.key x.key = true := fun y hy => by
    obtain ⟨t, ht, hyt⟩ : ∃ t, t < k ∧ m[t]? = some y := by
      obtain ⟨t, ht, rfl⟩ := List.getElem_of_mem hy
      rw [List.length_take] at ht
      exact ⟨t, by omega, by rw [List.getElem_take]; exact List.getElem?_eq_getElem (by omega)⟩
    have h1 := (List.getElem?_eq_some_iff.1 hyt)
    have := List.not_of_lt_findIdx (p := fun y : Pr => !Ky.lt y.key x.key) (xs := m) (i := t) (by show t < Pl.lead x m; omega)
    rw [h1.2] at this
    simpa using this
  have hB : ∀ y, m[k]? = some y → Ky.lt y.key x.key = false := fun y hy => by
    have h1 := (List.getElem?_eq_some_iff.1 hy)
    have hlt : m.findIdx (fun y : Pr => !Ky.lt y.key x.key) < m.length := by show Pl.lead x m < _; rw [hk]; exact h1.1
    have := List.findIdx_getElem (p := fun y : Pr => !Ky.lt y.key x.key) (xs := m) (w := hlt)
    have e : m[m.findIdx (fun y : Pr => !Ky.lt y.key x.key)]'hlt = y := by
      have h2 : m[m.findIdx (fun y : Pr => !Ky.lt y.key x.key)]? = some y := by
        show m[Pl.lead x m]? = some y
        rw [hk]
        exact hy
      rw [List.getElem?_eq_getElem hlt] at h2
      exact Option.some.inj h2
    rw [e] at this
    simpa using this
  obtain ⟨r, hr⟩ : ∃ r, (if Pl.hit x m k then k + 1 else k) = r := ⟨_, rfl⟩
  have hkr : k ≤ r := by rw [← hr]; split <;> omega
  have hC : ∀ y ∈ m.drop r, Ky.lt x.key y.key = true := fun y hy => by
    obtain ⟨t, ht, hyt⟩ : ∃ t, r ≤ t ∧ m[t]? = some y := by
      obtain ⟨t, ht, rfl⟩ := List.getElem_of_mem hy
      rw [List.length_drop] at ht
      exact ⟨r + t, by omega, by rw [List.getElem_drop]; exact List.getElem?_eq_getElem (by omega)⟩
    have htl := (List.getElem?_eq_some_iff.1 hyt).1
    obtain ⟨z, hz⟩ : ∃ z, m[k]? = some z := ⟨_, List.getElem?_eq_getElem (by omega)⟩
    have hz1 := hB z hz
    have hzy : k < t → Ky.lt z.key y.key = true := fun hlt => by
      have := List.pairwise_iff_getElem.1 h.rise k t (by omega) htl hlt
      rw [(List.getElem?_eq_some_iff.1 hz).2, (List.getElem?_eq_some_iff.1 hyt).2] at this
      exact this
    by_cases hh : Pl.hit x m k = true
    · rw [if_pos hh] at hr
      have he : z.key = x.key := by
        unfold Pl.hit at hh
        rw [hz] at hh
        exact key_ext (key_eq.1 (by simpa using hh))
      have := hzy (by omega)
      rw [he] at this
      exact this
    · have hne : z.key ≠ x.key := fun e => hh (by
        unfold Pl.hit
        rw [hz]
        simp [e])
      have hxz : Ky.lt x.key z.key = true := by
        cases h9 : Ky.lt x.key z.key with
        | true => rfl
        | false => exact absurd (Ky.lt_total hz1 h9) hne
      rcases Nat.eq_or_lt_of_le (Nat.le_trans hkr ht) with e | e
      · subst e
        rw [hz] at hyt
        cases hyt
        exact hxz
      · exact Ky.lt_trans hxz (hzy e)
  have hsplit : m.take r ++ m.drop r = m := List.take_append_drop _ _
  have hmid : ∀ y ∈ m, y ∈ m.take k ∨ y ∈ m.drop r ∨ y.key = x.key := fun y hy => by
    rw [← hsplit] at hy
    rcases List.mem_append.1 hy with hy | hy
    · obtain ⟨t, ht, hyt⟩ : ∃ t, t < r ∧ m[t]? = some y := by
        obtain ⟨t, ht, rfl⟩ := List.getElem_of_mem hy
        rw [List.length_take] at ht
        exact ⟨t, by omega, by rw [List.getElem_take]; exact List.getElem?_eq_getElem (by omega)⟩
      by_cases htk : t < k
      · left
        have h1 := (List.getElem?_eq_some_iff.1 hyt)
        rw [← h1.2]
        exact List.mem_take_iff_getElem.2 ⟨t, by have := h1.1; omega, by simp⟩
      · right
        right
        by_cases hh : Pl.hit x m k = true
        · rw [if_pos hh] at hr
          obtain rfl : t = k := by omega
          unfold Pl.hit at hh
          rw [hyt] at hh
          exact key_ext (key_eq.1 (by simpa using hh))
        · rw [if_neg hh] at hr
          omega
    · exact .inr (.inl hy)
  have e : Pl.put m x = m.take k ++ ([x] ++ m.drop r) := by unfold Pl.put; rw [hk, hr]
  rw [e]
  refine ⟨List.pairwise_append.2 ⟨List.Pairwise.sublist (List.take_sublist _ _) h.rise, List.pairwise_append.2 ⟨List.pairwise_singleton _ _, List.Pairwise.sublist (List.drop_sublist _ _) h.rise, fun a ha b hb => ?_⟩, fun a ha b hb => ?_⟩, fun y => ?_⟩
  · simp at ha
    subst ha
    exact hC b hb
  · rcases List.mem_append.1 hb with hb | hb
    · simp at hb
      subst hb
      exact hA a ha
    · exact Ky.lt_trans (hA a ha) (hC b hb)
  · unfold Fm.set
    by_cases hyk : y.key.data.toList = x.key.data.toList
    · rw [if_pos hyk]
      have hyx := key_ext hyk
      constructor
      · intro hy
        rcases List.mem_append.1 hy with hy | hy
        · have := hA y hy
          rw [hyx, Ky.lt_irrefl] at this
          cases this
        · rcases List.mem_append.1 hy with hy | hy
          · simp at hy
            rw [hy]
          · have := hC y hy
            rw [hyx, Ky.lt_irrefl] at this
            cases this
      · intro hy
        cases hy
        simp
    · rw [if_neg hyk, ← h.mem y]
      constructor
      · intro hy
        rcases List.mem_append.1 hy with hy | hy
        · exact List.mem_of_mem_take hy
        · rcases List.mem_append.1 hy with hy | hy
          · simp at hy
            subst hy
            exact absurd rfl hyk
          · exact List.mem_of_mem_drop hy
      · intro hy
        rcases hmid y hy with hy | hy | hy
        · exact List.mem_append_left _ hy
        · exact List.mem_append_right _ (List.mem_append_right _ hy)
        · rw [hy] at hyk
          exact absurd rfl hyk

theorem Pl.drp_is {F : Fm} {m : List Pr} (h : F.Is m) (k : ByteArray) : (F.rid k.data.toList).Is (Pl.drp m k) := by
  refine ⟨List.Pairwise.sublist List.filter_sublist h.rise, fun y => ?_⟩
  unfold Pl.drp Fm.rid
  rw [List.mem_filter]
  by_cases hyk : y.key.data.toList = k.data.toList
  · rw [if_pos hyk]
    simp [key_eq.2 hyk]
  · rw [if_neg hyk, h.mem y]
    have : (y.key.toList == k.toList) = false := by
      cases e : (y.key.toList == k.toList) with
      | false => rfl
      | true => exact absurd (key_eq.1 e) hyk
    simp [this]

/-- The document's order of commits. -/
def Cl.lead (x : Cm) (m : List Cm) : Nat := m.findIdx fun y => !decide (y.ts ≤ x.ts)
def Cl.ins (m : List Cm) (x : Cm) : List Cm := m.take (Cl.lead x m) ++ ([x] ++ m.drop (Cl.lead x m))
theorem Cl.ins_is {m l : List Cm} (h : Sam Cm.ts l m) (ha : Asc Cm.ts m) (x : Cm) : Sam Cm.ts (l ++ [x]) (Cl.ins m x) ∧ Asc Cm.ts (Cl.ins m x) := by
  obtain ⟨k, hk⟩ : ∃ k, Cl.lead x m = k := ⟨_, rfl⟩
  have e : m = m.take k ++ m.drop k := (List.take_append_drop _ _).symm
  have h1 := ins_right (x := x) (key := Cm.ts) (P := m.take k) (Q := m.drop k) (by rw [← e]; exact ha) (fun y hy => by
    obtain ⟨t, ht, hyt⟩ := mem_take_at hy
    have h2 := (List.getElem?_eq_some_iff.1 hyt)
    have := List.not_of_lt_findIdx (p := fun y : Cm => !decide (y.ts ≤ x.ts)) (xs := m) (i := t) (by show t < Cl.lead x m; omega)
    rw [h2.2] at this
    simpa using this) (fun y hy => by
    obtain ⟨t, ht, hyt⟩ := mem_drop_at hy
    have h2 := (List.getElem?_eq_some_iff.1 hyt)
    have hlt : m.findIdx (fun y : Cm => !decide (y.ts ≤ x.ts)) < m.length := by show Cl.lead x m < m.length; have := h2.1; omega
    have h3 := List.findIdx_getElem (p := fun y : Cm => !decide (y.ts ≤ x.ts)) (xs := m) (w := hlt)
    have h4 := ha.at (List.getElem?_eq_getElem hlt) hyt (by show Cl.lead x m ≤ t; omega)
    simp at h3
    omega)
  unfold Cl.ins
  rw [hk]
  refine ⟨?_, by simpa using h1.2⟩
  have h5 : Sam Cm.ts (l ++ [x]) (m ++ [x]) := h.app (Sam.refl _)
  rw [e] at h5
  exact h5.trans (by simpa using h1.1)

section
variable {α : Type} {cells : α → List Value} {k : Nat}
theorem step_appL {ops : Array Oper} {o : Oper} {a : Act} {w : World} {K : Act → World → Prop} {Q : Exit → Act → World → Prop} {E : Prop}
    (hg : o.guard = none) (s x : Operand) (t : TypeId) (hop : o.op = Op.call { callee := Callee.builtin Builtin.append, args := #[s, x], argTypes := #[t, t] })
    (v u : Value) (hs : a.eval s = v) (hx : a.eval x = u) {v' : Value} {w' : World} (hr : (Builtin.append_ #[t, t] o.type #[v, u]).run Try.prog w = .ok v' w') (hK : K (a.put o.dst v') w') :
    if Region.wanted o (yielded ops a.tmps) = true then Oper.wp Try.prog o a w K Q else E := by
  have hw : Region.wanted o (yielded ops a.tmps) = true := by simp [Region.wanted, hg]
  rw [if_pos hw]
  unfold Oper.wp
  simp [execOp, hop, resolve, invoke, builtin, hs, hx, hr, Result.andThen]
  exact hK

/-- An append to a row of the call's own, whatever was made between. -/
theorem app_oneL (K : Knd cells k) {e t : TypeId} {z : Value} {bytes : Nat} (ht : Try.prog.underlying t = some (.slice e)) (hinfo : (Try.prog.info? e).map (fun i => (i.zero, i.size, i.bytes)) = some (some z, k, bytes)) (hzs : z.cells.size = k)
    {w0 : World} {l l2 : List α} {p : Option Addr} {m c : Nat} (hm : l2.length = m) (hens : ∀ W, Below w0.heap.size w0 W → Els cells k W p l2) (hnil : p = none → m = 0 ∧ c = 0) (h63 : l.length + m ≤ maxLen) (hb : (l.length + m) * bytes ≤ 140737488355328) :
    ∀ W v, Below w0.heap.size w0 W → Own cells k e W w0.heap.size v l → ∃ v' W', (Builtin.append_ #[t, t] t #[v, .slice p m c]).run Try.prog W = .ok v' W' ∧ Own cells k e W' w0.heap.size v' (l ++ l2) ∧ Below w0.heap.size w0 W' ∧ (v.ownBlock = none → Below W.heap.size W W') := by
  intro W v hW hv
  obtain ⟨v', W', hr, ho, hg, hk⟩ := run_appL K ht hinfo hzs W w0.heap.size t v l l2 p m c hm (hens W hW) hnil hv h63 hb hW.size
  exact ⟨v', W', hr, ho, hW.grown hg hW.size (fun k hk => (Own.blk hv hk).1), fun h0 => (Below.refl _ W).grown hg (Nat.le_refl _) (fun k hk => by rw [h0] at hk; cases hk)⟩
theorem app_entryL (K : Knd cells k) {e t : TypeId} {z : Value} {bytes : Nat} (ht : Try.prog.underlying t = some (.slice e)) (hinfo : (Try.prog.info? e).map (fun i => (i.zero, i.size, i.bytes)) = some (some z, k, bytes)) (hzs : z.cells.size = k)
    {w0 : World} {l : List α} {y : α} (h63 : l.length + 1 ≤ maxLen) (hb : (l.length + 1) * bytes ≤ 140737488355328) :
    ∀ W v (E : Nat), Below w0.heap.size w0 W → Own cells k e W w0.heap.size v l → Els cells k W (some ⟨E, 0, none⟩) [y] → ∃ v' W', (Builtin.append_ #[t, t] t #[v, .slice (some ⟨E, 0, none⟩) 1 1]).run Try.prog W = .ok v' W' ∧ Own cells k e W' w0.heap.size v' (l ++ [y]) ∧ Below w0.heap.size w0 W' := by
  intro W v E hW hv hE
  obtain ⟨v', W', hr, ho, hg, hk⟩ := run_appL K ht hinfo hzs W w0.heap.size t v l [y] (some ⟨E, 0, none⟩) 1 1 rfl hE (fun h => by cases h) hv h63 hb hW.size
  exact ⟨v', W', hr, ho, hW.grown hg hW.size (fun k hk => (Own.blk hv hk).1)⟩
end
end Go.Proofs.Ytilabcolfabnmaa
