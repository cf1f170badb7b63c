/- PageOwn: rows that may be spoilt and put to. -/
import Derived.Test.YthpilennljpamaaGreatPgPu
import Derived.Test.YthpilennljpamaaGreatPgRm
import Derived.Test.YthpilennljpamaaGreatPgSq
import Derived.Test.YthpilennljpamaaGreatPgSm
import Derived.Test.YthpilennljpamaaGreatPgMm
import Derived.Test.YthpilennljpamaaGreatPgRf
import Derived.ArgAppend
namespace Go.Proofs.YthpilennljpamaaGreat
open Go.RowKit Go.Sort
set_option linter.unusedVariables false
set_option maxRecDepth 100000

theorem Bk.unlike {w : World} {a b : Nat} {t t' : TypeId} {cs cs' : Array Value} (h : Bk w a t cs) (k : Bk w b t' cs') (ht : t ≠ t') : a ≠ b := by
  intro e
  subst e
  have := (show w.heap[a]? = _ from h).symm.trans (show w.heap[a]? = _ from k)
  simp at this
  exact ht this.2

/-- What turns a page's own block leaves entries. -/
theorem Seg.page {w w' : World} {base : Nat} {p : Option Addr} {len cap b : Nat} {l : List En} {cs : Array Value} (h : Seg w base p len cap l) (k : Bk w b 24 cs) (t : Tn [b] w w') : Seg w' base p len cap l := by
  refine ⟨h.lenq, h.le, ?_⟩
  rcases h.form with hn | ⟨g, o, cur, hp, hb, hg, rest⟩
  · exact .inl hn
  · exact .inr ⟨g, o, cur, hp, hb, hg.tn t (by simpa using hg.unlike k (by decide)), rest⟩

/-- Nothing has turned but rows of entries from m0 on and ahead of D, which are as long as they were. -/
structure Wq (m0 D : Nat) (w w' : World) : Prop where
  os : w'.os = w.os
  tape : w'.tape = w.tape
  output : w'.output = w.output
  size : w.heap.size ≤ w'.heap.size
  block : ∀ k, k < w.heap.size → w'.heap[k]? = w.heap[k]? ∨ (m0 ≤ k ∧ k < D ∧ ∃ cur cur', Bk w k 30 cur ∧ Bk w' k 30 cur' ∧ cur'.size = cur.size)

theorem Wq.refl (m0 D : Nat) (w : World) : Wq m0 D w w := ⟨rfl, rfl, rfl, Nat.le_refl _, fun _ _ => .inl rfl⟩

theorem Wq.trans {m0 D : Nat} {a b c : World} (h : Wq m0 D a b) (k : Wq m0 D b c) : Wq m0 D a c := by
  refine ⟨k.os.trans h.os, k.tape.trans h.tape, k.output.trans h.output, Nat.le_trans h.size k.size, fun i hi => ?_⟩
  have hib := Nat.lt_of_lt_of_le hi h.size
  rcases h.block i hi with h1 | ⟨h1, h2, cur, cur', h3, h4, h5⟩
  · rcases k.block i hib with k1 | ⟨k1, k2, cur2, cur3, k3, k4, k5⟩
    · exact .inl (k1.trans h1)
    · exact .inr ⟨k1, k2, cur2, cur3, (h1.symm.trans k3 : a.heap[i]? = _), k4, k5⟩
  · rcases k.block i hib with k1 | ⟨k1, k2, cur2, cur3, k3, k4, k5⟩
    · exact .inr ⟨h1, h2, cur, cur', h3, (k1.trans h4 : c.heap[i]? = _), h5⟩
    · have e : cur' = cur2 := by
        have := (show b.heap[i]? = _ from h4).symm.trans (show b.heap[i]? = _ from k3)
        simpa using this
      subst e
      exact .inr ⟨h1, h2, cur, cur3, h3, k4, k5.trans h5⟩

theorem Wq.of_below {m0 D : Nat} {w w' : World} (h : Below w.heap.size w w') : Wq m0 D w w' := ⟨h.os, h.tape, h.output, h.size, fun k hk => .inl (h.block k hk)⟩

theorem Wq.below {m0 D : Nat} {w w' : World} (h : Wq m0 D w w') (hm : m0 ≤ w.heap.size) : Below m0 w w' := by
  refine ⟨h.os, h.tape, h.output, h.size, fun k hk => ?_⟩
  rcases h.block k (by omega) with h1 | ⟨h1, _⟩
  · exact h1
  · omega

theorem Wq.bk {m0 D : Nat} {w w' : World} (h : Wq m0 D w w') {b : Nat} {t : TypeId} {cs : Array Value} (k : Bk w b t cs) (hb : D ≤ b) : Bk w' b t cs := by
  rcases h.block b k.lt with h1 | ⟨_, h2, _⟩
  · exact h1.trans k
  · omega

theorem Wq.row {m0 D g : Nat} {w : World} {cur cur' : Array Value} (k : Bk w g 30 cur) (hm : m0 ≤ g) (hD : g < D) (hs : cur'.size = cur.size) : Wq m0 D w (w.setRow g cur') := by
  have t : Tn [g] w (w.setRow g cur') := (Tn.refl [g] w).setRow (.inl (by simp)) cur'
  refine ⟨t.os, t.tape, t.output, t.size, fun i hi => ?_⟩
  by_cases hig : i = g
  · subst hig
    exact .inr ⟨hm, hD, cur, cur', k, k.setRow cur', hs⟩
  · exact .inl (t.block i hi (by simpa using hig))

theorem Wq.cell {m0 D g i : Nat} {w : World} {cur : Array Value} (k : Bk w g 30 cur) (hm : m0 ≤ g) (hD : g < D) (u : Value) : Wq m0 D w (w.setCell ⟨g, i, none⟩ u) := by
  have t : Tn [g] w (w.setCell ⟨g, i, none⟩ u) := (Tn.refl [g] w).setCell (.inl (by simp)) u
  refine ⟨t.os, t.tape, t.output, t.size, fun j hj => ?_⟩
  by_cases hig : j = g
  · subst hig
    exact .inr ⟨hm, hD, cur, _, k, k.set i u, by simp⟩
  · exact .inl (t.block j hj (by simpa using hig))

/-- A row that may be spoilt: it lies from m0 on and ahead of D. -/
def SpE (m0 D : Nat) (p : Option Addr) (n cap : Nat) (w : World) : Prop :=
  n ≤ cap ∧ ((p = none ∧ n = 0 ∧ cap = 0) ∨ ∃ g o cur, p = some ⟨g, o, none⟩ ∧ m0 ≤ g ∧ g < D ∧ Bk w g 30 cur ∧ o + cap * 4 ≤ cur.size)

theorem Seg.sp {w : World} {base m0 D : Nat} {p : Option Addr} {len cap : Nat} {l : List En} (h : Seg w base p len cap l) (hb : m0 ≤ base) (hD : w.heap.size ≤ D) : SpE m0 D p len cap w := by
  refine ⟨h.le, ?_⟩
  rcases h.form with hn | ⟨g, o, cur, hp, hbb, hg, hs, _⟩
  · exact .inl hn
  · exact .inr ⟨g, o, cur, hp, by omega, Nat.lt_of_lt_of_le hg.lt hD, hg, hs⟩

theorem SpE.wq {m0 D : Nat} {p : Option Addr} {n cap : Nat} {w w' : World} (h : SpE m0 D p n cap w) (k : Wq m0 D w w') : SpE m0 D p n cap w' := by
  obtain ⟨h0, h1⟩ := h
  refine ⟨h0, ?_⟩
  rcases h1 with hn | ⟨g, o, cur, hp, hm, hD, hg, hs⟩
  · exact .inl hn
  · rcases k.block g hg.lt with k1 | ⟨k1, k2, cur2, cur3, k3, k4, k5⟩
    · exact .inr ⟨g, o, cur, hp, hm, hD, k1.trans hg, hs⟩
    · have e : cur = cur2 := by
        have := (show w.heap[g]? = _ from hg).symm.trans (show w.heap[g]? = _ from k3)
        simpa using this
      subst e
      exact .inr ⟨g, o, cur3, hp, hm, hD, k4, by omega⟩

theorem SpE.up {m0 D : Nat} {p : Option Addr} {n cap : Nat} {w w' : World} (h : SpE m0 D p n cap w) (k : Below w.heap.size w w') : SpE m0 D p n cap w' := h.wq (Wq.of_below k)

theorem SpE.at {m0 D : Nat} {p : Option Addr} {n cap : Nat} {w : World} (h : SpE m0 D p n cap w) {i : Nat} (hi : i < n) : ∃ g o u, p = some ⟨g, o, none⟩ ∧ w.cell? ⟨g, o + i * 4, none⟩ = some u ∧ w.frozen? ⟨g, o + i * 4, none⟩ = false ∧ ∀ x, Wq m0 D w (w.setCell ⟨g, o + i * 4, none⟩ x) := by
  obtain ⟨h0, h1⟩ := h
  rcases h1 with ⟨_, hn, _⟩ | ⟨g, o, cur, hp, hm, hD, hg, hs⟩
  · omega
  · have hlt : o + i * 4 < cur.size := by omega
    exact ⟨g, o, cur[o + i * 4], hp, by rw [hg.cell]; simp [hlt], hg.frozen _, fun x => Wq.cell hg hm hD x⟩

theorem own_slice {w : World} {base : Nat} {e : TypeId} {size : Nat} {v : Value} {n : Nat} {xs : List Value} (h : w.ownsRow base e size v n xs) : ∃ q k c, v = .slice q k c := by
  rcases h.2 with ⟨hv, _⟩ | ⟨g, cap, cur, hv, _⟩
  · exact ⟨_, _, _, hv⟩
  · exact ⟨_, _, _, hv⟩

/-- An entry is put behind such a row, wherever it comes to lie. -/
theorem SpE.app {m0 D : Nat} {p : Option Addr} {n cap : Nat} {w : World} (h : SpE m0 D p n cap w) (hn : n ≤ 4194304) {E : Nat} {x0 x1 x2 x3 : Value} (hE : Bk w E 30 #[x0, x1, x2, x3]) (h1 : ∀ u ∈ [x0, x1, x2, x3], u.oneCell' = true) (ty : TypeId) :
    ∃ q k c w', (Builtin.append_ #[22, 22] ty #[.slice p n cap, .slice (some ⟨E, 0, none⟩) 1 1]).run Tryz.prog w = .ok (.slice q k c) w' ∧ Wq m0 D w w' := by
  obtain ⟨i0, hi0, hz0, hz1, hz2⟩ := en_info
  have hnews : ∀ j u, [x0, x1, x2, x3][j]? = some u → w.cell? ((⟨E, 0, none⟩ : Addr).add j) = some u := by
    intro j u hu
    rw [Addr.add_lit, Nat.zero_add, hE.cell]
    simpa using hu
  obtain ⟨hle, hf⟩ := h
  rcases hf with ⟨rfl, rfl, rfl⟩ | ⟨g, o, cur, rfl, hm, hD, hg, hs⟩
  · obtain ⟨v', w', hr, how, hgr, _, _⟩ := run_append_own_at (P := Tryz.prog) w 0 22 ty 30 i0 _ 4 40 Tryz.underlying22 hi0 hz0 hz1 hz2 rfl (by decide) (.slice none 0 0) 0 [] (World.ownsRow_nil _ _ _ _) ⟨E, 0, none⟩ 1 1 [x0, x1, x2, x3] rfl hnews h1 (by unfold maxLen; omega) (by omega) (Nat.zero_le _)
    obtain ⟨q, k, c, rfl⟩ := own_slice how
    exact ⟨q, k, c, w', hr, Wq.of_below ((Below.refl _ w).grown hgr (Nat.le_refl _) (fun k hk => by cases hk))⟩
  · by_cases hroom : n + 1 ≤ cap
    · have hload := run_loadCells_list (P := Tryz.prog) w ⟨E, 0, none⟩ [x0, x1, x2, x3] hnews
      have hst := run_storeCells_at Tryz.prog g (o + n * 4) 30 [x0, x1, x2, x3] 0 cur w hg (by simp; omega) h1
      refine ⟨some ⟨g, o, none⟩, n + 1, cap, _, ?_, Wq.row hg hm hD (cur' := (cur.toList.take (o + n * 4) ++ [x0, x1, x2, x3] ++ cur.toList.drop (o + n * 4 + 4)).toArray) (by simp; omega)⟩
      have hfc := run_firstCells_some (P := Tryz.prog) w i0.size 1 ⟨E, 0, none⟩ 1 1 [x0, x1, x2, x3] (by rw [hz1]; rfl) hnews
      simp at hst
      rw [hz1] at hfc
      simp [Builtin.append_, run_underlying Tryz.underlying22, sizeOf, typeInfo, hi0, Builtin.lenOf, hroom, hfc, Addr.add_lit, hz1, hst]
    · obtain ⟨v', w', hr, how, hgr⟩ := run_append_arg_grows (P := Tryz.prog) w 22 ty 30 i0 _ 4 40 Tryz.underlying22 hi0 hz0 hz1 hz2 rfl (by decide) ⟨g, o, none⟩ n cap ((List.range (n * 4)).map fun j => cur.getD (o + j) undef) (by simp) (fun j u hu => by
        rw [List.getElem?_map] at hu
        simp only [Option.map_eq_some_iff] at hu
        obtain ⟨k, hk, rfl⟩ := hu
        have hkj : k = j ∧ j < n * 4 := by
          obtain ⟨h1, h2⟩ := List.getElem?_eq_some_iff.1 hk
          simp at h1 h2
          exact ⟨h2.symm, h1⟩
        obtain ⟨rfl, hj⟩ := hkj
        rw [Addr.add_lit, hg.cell]
        have : o + k < cur.size := by omega
        simp [this]) ⟨E, 0, none⟩ 1 1 [x0, x1, x2, x3] rfl hnews (by omega) (by unfold maxLen; omega) (by omega)
      obtain ⟨q, k, c, rfl⟩ := own_slice how
      exact ⟨q, k, c, w', hr, Wq.of_below ((Below.refl _ w).grown hgr (Nat.le_refl _) (fun k hk => by cases hk))⟩

theorem Wq.fresh {m0 D : Nat} {w w' : World} (h : Wq m0 D w w') {X : Nat} (hX : w.heap.size ≤ X) (i : Nat) (u : Value) : Wq m0 D w (w'.setCell ⟨X, i, none⟩ u) := by
  have t : Tn [X] w' (w'.setCell ⟨X, i, none⟩ u) := (Tn.refl [X] w').setCell (.inl (by simp)) u
  refine ⟨t.os.trans h.os, t.tape.trans h.tape, t.output.trans h.output, Nat.le_trans h.size t.size, fun k hk => ?_⟩
  have hkx : k ∉ [X] := by simp; omega
  have e := t.block k (Nat.lt_of_lt_of_le hk h.size) hkx
  rcases h.block k hk with h1 | ⟨h1, h2, cur, cur', h3, h4, h5⟩
  · exact .inl (e.trans h1)
  · exact .inr ⟨h1, h2, cur, cur', h3, h4.tn t hkx, h5⟩

theorem Pg.put_len (g : Pp) (e : En) : (Pg.put g e).1.l.length ≤ g.l.length + 1 := by
  unfold Pg.put
  split
  · show (Pg.putL g.l e).length ≤ _
    unfold Pg.putL
    split
    · simp
    · unfold Pg.ins
      simp
      omega
  · exact Nat.zero_le _

theorem Pg.remove_len (g : Pp) (key : ByteArray) : (Pg.remove g key).1.l.length ≤ g.l.length := by
  unfold Pg.remove
  split
  · show (Pg.del _ _).length ≤ _
    unfold Pg.del
    simp
    omega
  · exact Nat.zero_le _

theorem Pg.split_len (g : Pp) (id : Int) : (Pg.split g id).1.l.length ≤ g.l.length ∧ (Pg.split g id).2.1.l.length ≤ g.l.length := by
  unfold Pg.split
  split
  · exact ⟨Nat.zero_le _, Nat.zero_le _⟩
  · split
    · exact ⟨Nat.zero_le _, Nat.zero_le _⟩
    · cases Pg.part g.leaf (Pg.keyAt g.l (g.l.length / 2 - 1)) (Pg.keyAt g.l (g.l.length / 2)) with
      | none => exact ⟨Nat.zero_le _, Nat.zero_le _⟩
      | some m => exact ⟨by simp; omega, by simp⟩

theorem Pg.merge_len (a b : Pp) : (Pg.merge a b).1.l.length ≤ a.l.length + b.l.length := by
  unfold Pg.merge
  split
  · simp
  · exact Nat.zero_le _

/-- A page that was answered, its parts by name. -/
theorem PgAt.segs {w : World} {base : Nat} {v : Value} {g : Pp} (h : PgAt w base v g) : ∃ f lo hi r p n c l, g = ⟨f, lo, hi, r, l⟩ ∧ v = pgv f lo hi r p n c ∧ Seg w base p n c l := by
  obtain ⟨p, c, hv, hs⟩ := h
  obtain ⟨f, lo, hi, r, l⟩ := g
  exact ⟨f, lo, hi, r, p, l.length, c, l, rfl, hv, hs⟩
end Go.Proofs.YthpilennljpamaaGreat
