/- What is handed in is left as it is, whatever is done to what Fold, Clone and Apply answer. -/
import Derived.Test.YthpilennljpamaaGreatPgPu
import Derived.Test.YthpilennljpamaaGreatPgRm
import Derived.Test.YthpilennljpamaaGreatPgSq
import Derived.Test.YthpilennljpamaaGreatPgSm
import Derived.Test.YthpilennljpamaaGreatPgMm
import Derived.Test.YthpilennljpamaaGreatDeltaOwnB
import Derived.ArgAppend
import Derived.Test.YthpilennljpamaaGreatMem
import Derived.Handy
import Derived.BigQuiet
import Derived.Laws.OwnMore
import Derived.Laws.LoneSync
import Derived.Tactics2
import Derived.WalkSmall
import Derived.Maps.AppendAt
import Derived.WalkLawsBesides
import Derived.Test.YthpilennljpamaaGreatDeltaOwnA
import Derived.Test.YthpilennljpamaaGreatDlV
namespace Go.Proofs.YthpilennljpamaaGreat
open Go.RowKit Go.Sort
set_option linter.unusedVariables false
set_option maxRecDepth 100000

theorem Bk.unlike {w : World} {a b : Nat} {t t' : TypeId} {cs cs' : Array Value} (h : Bk w a t cs) (k : Bk w b t' cs') (ht : t ≠ t') : a ≠ b := by
  intro e
  subst e
  have := (show w.heap[a]? = _ from h).symm.trans (show w.heap[a]? = _ from k)
  simp at this
  exact ht this.2

/-- What turns a page's own block leaves entries. -/
theorem Seg.page {w w' : World} {base : Nat} {p : Option Addr} {len cap b : Nat} {l : List En} {cs : Array Value} (h : Seg w base p len cap l) (k : Bk w b 24 cs) (t : Tn [b] w w') : Seg w' base p len cap l := by
  refine ⟨h.lenq, h.le, ?_⟩
  rcases h.form with hn | ⟨g, o, cur, hp, hb, hg, rest⟩
  · exact .inl hn
  · exact .inr ⟨g, o, cur, hp, hb, hg.tn t (by simpa using hg.unlike k (by decide)), rest⟩

/-- Nothing has turned but rows of entries from m0 on and ahead of D, which are as long as they were. -/
structure Wq (m0 D : Nat) (w w' : World) : Prop where
  os : w'.os = w.os
  tape : w'.tape = w.tape
  output : w'.output = w.output
  size : w.heap.size ≤ w'.heap.size
  block : ∀ k, k < w.heap.size → w'.heap[k]? = w.heap[k]? ∨ (m0 ≤ k ∧ k < D ∧ ∃ cur cur', Bk w k 30 cur ∧ Bk w' k 30 cur' ∧ cur'.size = cur.size)

theorem Wq.refl (m0 D : Nat) (w : World) : Wq m0 D w w := ⟨rfl, rfl, rfl, Nat.le_refl _, fun _ _ => .inl rfl⟩

theorem Wq.trans {m0 D : Nat} {a b c : World} (h : Wq m0 D a b) (k : Wq m0 D b c) : Wq m0 D a c := by
  refine ⟨k.os.trans h.os, k.tape.trans h.tape, k.output.trans h.output, Nat.le_trans h.size k.size, fun i hi => ?_⟩
  have hib := Nat.lt_of_lt_of_le hi h.size
  rcases h.block i hi with h1 | ⟨h1, h2, cur, cur', h3, h4, h5⟩
  · rcases k.block i hib with k1 | ⟨k1, k2, cur2, cur3, k3, k4, k5⟩
    · exact .inl (k1.trans h1)
    · exact .inr ⟨k1, k2, cur2, cur3, (h1.symm.trans k3 : a.heap[i]? = _), k4, k5⟩
  · rcases k.block i hib with k1 | ⟨k1, k2, cur2, cur3, k3, k4, k5⟩
    · exact .inr ⟨h1, h2, cur, cur', h3, (k1.trans h4 : c.heap[i]? = _), h5⟩
    · have e : cur' = cur2 := by
        have := (show b.heap[i]? = _ from h4).symm.trans (show b.heap[i]? = _ from k3)
        simpa using this
      subst e
      exact .inr ⟨h1, h2, cur, cur3, h3, k4, k5.trans h5⟩

theorem Wq.of_below {m0 D : Nat} {w w' : World} (h : Below w.heap.size w w') : Wq m0 D w w' := ⟨h.os, h.tape, h.output, h.size, fun k hk => .inl (h.block k hk)⟩

theorem Wq.below {m0 D : Nat} {w w' : World} (h : Wq m0 D w w') (hm : m0 ≤ w.heap.size) : Below m0 w w' := by
  refine ⟨h.os, h.tape, h.output, h.size, fun k hk => ?_⟩
  rcases h.block k (by omega) with h1 | ⟨h1, _⟩
  · exact h1
  · omega

theorem Wq.bk {m0 D : Nat} {w w' : World} (h : Wq m0 D w w') {b : Nat} {t : TypeId} {cs : Array Value} (k : Bk w b t cs) (hb : D ≤ b) : Bk w' b t cs := by
  rcases h.block b k.lt with h1 | ⟨_, h2, _⟩
  · exact h1.trans k
  · omega

theorem Wq.row {m0 D g : Nat} {w : World} {cur cur' : Array Value} (k : Bk w g 30 cur) (hm : m0 ≤ g) (hD : g < D) (hs : cur'.size = cur.size) : Wq m0 D w (w.setRow g cur') := by
  have t : Tn [g] w (w.setRow g cur') := (Tn.refl [g] w).setRow (.inl (by simp)) cur'
  refine ⟨t.os, t.tape, t.output, t.size, fun i hi => ?_⟩
  by_cases hig : i = g
  · subst hig
    exact .inr ⟨hm, hD, cur, cur', k, k.setRow cur', hs⟩
  · exact .inl (t.block i hi (by simpa using hig))

theorem Wq.cell {m0 D g i : Nat} {w : World} {cur : Array Value} (k : Bk w g 30 cur) (hm : m0 ≤ g) (hD : g < D) (u : Value) : Wq m0 D w (w.setCell ⟨g, i, none⟩ u) := by
  have t : Tn [g] w (w.setCell ⟨g, i, none⟩ u) := (Tn.refl [g] w).setCell (.inl (by simp)) u
  refine ⟨t.os, t.tape, t.output, t.size, fun j hj => ?_⟩
  by_cases hig : j = g
  · subst hig
    exact .inr ⟨hm, hD, cur, _, k, k.set i u, by simp⟩
  · exact .inl (t.block j hj (by simpa using hig))

/-- A row that may be spoilt: it lies from m0 on and ahead of D. -/
def SpE (m0 D : Nat) (p : Option Addr) (n cap : Nat) (w : World) : Prop :=
  n ≤ cap ∧ ((p = none ∧ n = 0 ∧ cap = 0) ∨ ∃ g o cur, p = some ⟨g, o, none⟩ ∧ m0 ≤ g ∧ g < D ∧ Bk w g 30 cur ∧ o + cap * 4 ≤ cur.size)

theorem Seg.sp {w : World} {base m0 D : Nat} {p : Option Addr} {len cap : Nat} {l : List En} (h : Seg w base p len cap l) (hb : m0 ≤ base) (hD : w.heap.size ≤ D) : SpE m0 D p len cap w := by
  refine ⟨h.le, ?_⟩
  rcases h.form with hn | ⟨g, o, cur, hp, hbb, hg, hs, _⟩
  · exact .inl hn
  · exact .inr ⟨g, o, cur, hp, by omega, Nat.lt_of_lt_of_le hg.lt hD, hg, hs⟩

theorem SpE.wq {m0 D : Nat} {p : Option Addr} {n cap : Nat} {w w' : World} (h : SpE m0 D p n cap w) (k : Wq m0 D w w') : SpE m0 D p n cap w' := by
  obtain ⟨h0, h1⟩ := h
  refine ⟨h0, ?_⟩
  rcases h1 with hn | ⟨g, o, cur, hp, hm, hD, hg, hs⟩
  · exact .inl hn
  · rcases k.block g hg.lt with k1 | ⟨k1, k2, cur2, cur3, k3, k4, k5⟩
    · exact .inr ⟨g, o, cur, hp, hm, hD, k1.trans hg, hs⟩
    · have e : cur = cur2 := by
        have := (show w.heap[g]? = _ from hg).symm.trans (show w.heap[g]? = _ from k3)
        simpa using this
      subst e
      exact .inr ⟨g, o, cur3, hp, hm, hD, k4, by omega⟩

theorem SpE.up {m0 D : Nat} {p : Option Addr} {n cap : Nat} {w w' : World} (h : SpE m0 D p n cap w) (k : Below w.heap.size w w') : SpE m0 D p n cap w' := h.wq (Wq.of_below k)

theorem SpE.at {m0 D : Nat} {p : Option Addr} {n cap : Nat} {w : World} (h : SpE m0 D p n cap w) {i : Nat} (hi : i < n) : ∃ g o u, p = some ⟨g, o, none⟩ ∧ w.cell? ⟨g, o + i * 4, none⟩ = some u ∧ w.frozen? ⟨g, o + i * 4, none⟩ = false ∧ ∀ x, Wq m0 D w (w.setCell ⟨g, o + i * 4, none⟩ x) := by
  obtain ⟨h0, h1⟩ := h
  rcases h1 with ⟨_, hn, _⟩ | ⟨g, o, cur, hp, hm, hD, hg, hs⟩
  · omega
  · have hlt : o + i * 4 < cur.size := by omega
    exact ⟨g, o, cur[o + i * 4], hp, by rw [hg.cell]; simp [hlt], hg.frozen _, fun x => Wq.cell hg hm hD x⟩

theorem own_slice {w : World} {base : Nat} {e : TypeId} {size : Nat} {v : Value} {n : Nat} {xs : List Value} (h : w.ownsRow base e size v n xs) : ∃ q k c, v = .slice q k c := by
  rcases h.2 with ⟨hv, _⟩ | ⟨g, cap, cur, hv, _⟩
  · exact ⟨_, _, _, hv⟩
  · exact ⟨_, _, _, hv⟩

/-- An entry is put behind such a row, wherever it comes to lie. -/
theorem SpE.app {m0 D : Nat} {p : Option Addr} {n cap : Nat} {w : World} (h : SpE m0 D p n cap w) (hn : n ≤ 4194304) {E : Nat} {x0 x1 x2 x3 : Value} (hE : Bk w E 30 #[x0, x1, x2, x3]) (h1 : ∀ u ∈ [x0, x1, x2, x3], u.oneCell' = true) (ty : TypeId) :
    ∃ q k c w', (Builtin.append_ #[22, 22] ty #[.slice p n cap, .slice (some ⟨E, 0, none⟩) 1 1]).run Tryz.prog w = .ok (.slice q k c) w' ∧ Wq m0 D w w' := by
  obtain ⟨i0, hi0, hz0, hz1, hz2⟩ := en_info
  have hnews : ∀ j u, [x0, x1, x2, x3][j]? = some u → w.cell? ((⟨E, 0, none⟩ : Addr).add j) = some u := by
    intro j u hu
    rw [Addr.add_lit, Nat.zero_add, hE.cell]
    simpa using hu
  obtain ⟨hle, hf⟩ := h
  rcases hf with ⟨rfl, rfl, rfl⟩ | ⟨g, o, cur, rfl, hm, hD, hg, hs⟩
  · obtain ⟨v', w', hr, how, hgr, _, _⟩ := run_append_own_at (P := Tryz.prog) w 0 22 ty 30 i0 _ 4 40 Tryz.underlying22 hi0 hz0 hz1 hz2 rfl (by decide) (.slice none 0 0) 0 [] (World.ownsRow_nil _ _ _ _) ⟨E, 0, none⟩ 1 1 [x0, x1, x2, x3] rfl hnews h1 (by unfold maxLen; omega) (by omega) (Nat.zero_le _)
    obtain ⟨q, k, c, rfl⟩ := own_slice how
    exact ⟨q, k, c, w', hr, Wq.of_below ((Below.refl _ w).grown hgr (Nat.le_refl _) (fun k hk => by cases hk))⟩
  · by_cases hroom : n + 1 ≤ cap
    · have hload := run_loadCells_list (P := Tryz.prog) w ⟨E, 0, none⟩ [x0, x1, x2, x3] hnews
      have hst := run_storeCells_at Tryz.prog g (o + n * 4) 30 [x0, x1, x2, x3] 0 cur w hg (by simp; omega) h1
      refine ⟨some ⟨g, o, none⟩, n + 1, cap, _, ?_, Wq.row hg hm hD (cur' := (cur.toList.take (o + n * 4) ++ [x0, x1, x2, x3] ++ cur.toList.drop (o + n * 4 + 4)).toArray) (by simp; omega)⟩
      have hfc := run_firstCells_some (P := Tryz.prog) w i0.size 1 ⟨E, 0, none⟩ 1 1 [x0, x1, x2, x3] (by rw [hz1]; rfl) hnews
      simp at hst
      rw [hz1] at hfc
      simp [Builtin.append_, run_underlying Tryz.underlying22, sizeOf, typeInfo, hi0, Builtin.lenOf, hroom, hfc, Addr.add_lit, hz1, hst]
    · obtain ⟨v', w', hr, how, hgr⟩ := run_append_arg_grows (P := Tryz.prog) w 22 ty 30 i0 _ 4 40 Tryz.underlying22 hi0 hz0 hz1 hz2 rfl (by decide) ⟨g, o, none⟩ n cap ((List.range (n * 4)).map fun j => cur.getD (o + j) undef) (by simp) (fun j u hu => by
        rw [List.getElem?_map] at hu
        simp only [Option.map_eq_some_iff] at hu
        obtain ⟨k, hk, rfl⟩ := hu
        have hkj : k = j ∧ j < n * 4 := by
          obtain ⟨h1, h2⟩ := List.getElem?_eq_some_iff.1 hk
          simp at h1 h2
          exact ⟨h2.symm, h1⟩
        obtain ⟨rfl, hj⟩ := hkj
        rw [Addr.add_lit, hg.cell]
        have : o + k < cur.size := by omega
        simp [this]) ⟨E, 0, none⟩ 1 1 [x0, x1, x2, x3] rfl hnews (by omega) (by unfold maxLen; omega) (by omega)
      obtain ⟨q, k, c, rfl⟩ := own_slice how
      exact ⟨q, k, c, w', hr, Wq.of_below ((Below.refl _ w).grown hgr (Nat.le_refl _) (fun k hk => by cases hk))⟩

theorem Wq.fresh {m0 D : Nat} {w w' : World} (h : Wq m0 D w w') {X : Nat} (hX : w.heap.size ≤ X) (i : Nat) (u : Value) : Wq m0 D w (w'.setCell ⟨X, i, none⟩ u) := by
  have t : Tn [X] w' (w'.setCell ⟨X, i, none⟩ u) := (Tn.refl [X] w').setCell (.inl (by simp)) u
  refine ⟨t.os.trans h.os, t.tape.trans h.tape, t.output.trans h.output, Nat.le_trans h.size t.size, fun k hk => ?_⟩
  have hkx : k ∉ [X] := by simp; omega
  have e := t.block k (Nat.lt_of_lt_of_le hk h.size) hkx
  rcases h.block k hk with h1 | ⟨h1, h2, cur, cur', h3, h4, h5⟩
  · exact .inl (e.trans h1)
  · exact .inr ⟨h1, h2, cur, cur', h3, h4.tn t hkx, h5⟩

theorem Pg.put_len (g : Pp) (e : En) : (Pg.put g e).1.l.length ≤ g.l.length + 1 := by
  unfold Pg.put
  split
  · show (Pg.putL g.l e).length ≤ _
    unfold Pg.putL
    split
    · simp
    · unfold Pg.ins
      simp
      omega
  · exact Nat.zero_le _

theorem Pg.remove_len (g : Pp) (key : ByteArray) : (Pg.remove g key).1.l.length ≤ g.l.length := by
  unfold Pg.remove
  split
  · show (Pg.del _ _).length ≤ _
    unfold Pg.del
    simp
    omega
  · exact Nat.zero_le _

theorem Pg.split_len (g : Pp) (id : Int) : (Pg.split g id).1.l.length ≤ g.l.length ∧ (Pg.split g id).2.1.l.length ≤ g.l.length := by
  unfold Pg.split
  split
  · exact ⟨Nat.zero_le _, Nat.zero_le _⟩
  · split
    · exact ⟨Nat.zero_le _, Nat.zero_le _⟩
    · cases Pg.part g.leaf (Pg.keyAt g.l (g.l.length / 2 - 1)) (Pg.keyAt g.l (g.l.length / 2)) with
      | none => exact ⟨Nat.zero_le _, Nat.zero_le _⟩
      | some m => exact ⟨by simp; omega, by simp⟩

theorem Pg.merge_len (a b : Pp) : (Pg.merge a b).1.l.length ≤ a.l.length + b.l.length := by
  unfold Pg.merge
  split
  · simp
  · exact Nat.zero_le _

/-- A page that was answered, its parts by name. -/
theorem PgAt.segs {w : World} {base : Nat} {v : Value} {g : Pp} (h : PgAt w base v g) : ∃ f lo hi r p n c l, g = ⟨f, lo, hi, r, l⟩ ∧ v = pgv f lo hi r p n c ∧ Seg w base p n c l := by
  obtain ⟨p, c, hv, hs⟩ := h
  obtain ⟨f, lo, hi, r, l⟩ := g
  exact ⟨f, lo, hi, r, p, l.length, c, l, rfl, hv, hs⟩
end Go.Proofs.YthpilennljpamaaGreat

namespace Go.Proofs.YthpilennljpamaaGreat
open Go.RowKit
set_option linter.unusedVariables false
set_option maxRecDepth 100000

theorem Tn.grown' {S : List Nat} {w w' : World} {row : Option Nat} (h : Tn S w w') (hS : ∀ x ∈ S, row = some x) : w.grownBy w' row :=
  ⟨h.os, h.tape, h.output, h.size, fun k hk hn => h.block k hk (fun hm => hn (hS k hm).symm)⟩

theorem grown_tn {W W' : World} {row : Option Nat} (hg : W.grownBy W' row) : Tn row.toList W W' :=
  ⟨hg.os, hg.tape, hg.output, hg.size, fun k hk hn => hg.block k hk (fun e => hn (by rw [← e]; simp))⟩

theorem opt_toList {x : Option Nat} {k : Nat} : k ∈ x.toList ↔ x = some k := by cases x <;> simp [eq_comm]

/-- A row that no block of S holds stays. -/
theorem owns_tn {S : List Nat} {w w' : World} {base size n : Nat} {e : TypeId} {v : Value} {xs : List Value} (h : w.ownsRow base e size v n xs) (ht : Tn S w w') (hn : ∀ k, v.ownBlock = some k → k ∉ S) : w'.ownsRow base e size v n xs := by
  refine ⟨h.1, ?_⟩
  rcases h.2 with hv | ⟨g, cap, cur, rfl, hb, hgg, rest⟩
  · exact .inl hv
  · exact .inr ⟨g, cap, cur, rfl, hb, (ht.block g (Array.getElem?_eq_some_iff.1 hgg).1 (hn g rfl)).trans hgg, rest⟩

/-- A row's block is the elder one's, or new. -/
def Nw (w : World) (v v' : Value) : Prop := ∀ k, v'.ownBlock = some k → v.ownBlock = some k ∨ w.heap.size ≤ k

theorem row_block {w : World} {base size n : Nat} {e : TypeId} {v : Value} {xs : List Value} (h : w.ownsRow base e size v n xs) : ∀ k, v.ownBlock = some k → k < w.heap.size := fun k hk => (World.ownsRow.lt h k hk).2

theorem news_alloc (w : World) (cs : List Value) (t : TypeId) : ∀ ad, some (⟨w.heap.size, 0, none⟩ : Addr) = some ad → ∀ j u, cs[j]? = some u → (w.alloc (.cells cs.toArray t)).cell? (ad.add j) = some u := by
  intro ad had j u hu
  cases had
  rw [show (⟨w.heap.size, 0, none⟩ : Addr).add j = ⟨w.heap.size, j, none⟩ by unfold Addr.add; split <;> simp_all]
  rw [(Bk.new w t cs.toArray).cell j]
  simpa using hu

theorem row_some {w : World} {base : Nat} {e : TypeId} {size : Nat} {v : Value} {n : Nat} {xs : List Value} (h : w.ownsRow base e size v n xs) (hn : 0 < n) : ∃ g k, v = .slice (some ⟨g, 0, none⟩) n k := by
  rcases h.2 with ⟨_, h0⟩ | ⟨g, cap, cur, hv, _⟩
  · omega
  · exact ⟨g, cap, hv⟩

theorem row_form {w : World} {base : Nat} {e : TypeId} {size : Nat} {v : Value} {n : Nat} {xs : List Value} (h : w.ownsRow base e size v n xs) : ∃ p k, v = .slice p n k ∧ n ≤ k := by
  rcases h.2 with ⟨hv, hn⟩ | ⟨g, cap, cur, hv, _, _, h1, h2, _⟩
  · exact ⟨none, 0, by rw [hv, hn], by omega⟩
  · exact ⟨_, cap, hv, h1⟩

theorem appX {ops : Array Oper} {rest : List Oper} {o : Oper} {a : Act} {Q : Exit → Act → World → Prop} (w : World) (hw : Region.wanted o (yielded ops a.tmps) = true) (s x : Operand) (t : TypeId)
    (ho : o.op = .call { callee := .builtin .append, args := #[s, x], argTypes := #[t, t] })
    (e : TypeId) (z : Value) (size bytes : Nat) (ht : Tryz.prog.underlying t = some (.slice e)) (hinfo : (Tryz.prog.info? e).map (fun i => (i.zero, i.size, i.bytes)) = some (some z, size, bytes)) (hzs : z.cells.size = size) (hsz : 0 < size)
    (v : Value) (n : Nat) (xs : List Value) (hs : a.eval s = v) (hown : w.ownsRow 0 e size v n xs)
    (q : Option Addr) (m c : Nat) (news : List Value) (hx : a.eval x = .slice q m c) (hl : news.length = m * size) (hnews : ∀ ad, q = some ad → ∀ j u, news[j]? = some u → w.cell? (ad.add j) = some u) (h1 : ∀ u ∈ news, u.oneCell' = true) (hq : q = none → m = 0 ∧ c = 0)
    (h63 : n + m ≤ maxLen) (hbytes : (n + m) * bytes ≤ 140737488355328)
    (h : ∀ v' w', w'.ownsRow 0 e size v' (n + m) (xs ++ news) → w.grownBy w' v.ownBlock → (v'.ownBlock = v.ownBlock ∨ v'.ownBlock = some w.heap.size) → wpList Tryz.prog ops Q rest (a.put o.dst v') w') : wpList Tryz.prog ops Q (o :: rest) a w := by
  obtain ⟨i0, hi, hz0, hz1, hz2⟩ := info_parts hinfo
  cases q with
  | some ad =>
    obtain ⟨v', w', hr, h2, h3, _, h5⟩ := run_append_own_at (P := Tryz.prog) w 0 t o.type e i0 z size bytes ht hi hz0 hz1 hz2 hzs hsz v n xs hown ad m c news hl (hnews ad rfl) h1 h63 hbytes (Nat.zero_le _)
    refine BigFrame.wpList_want hw fun _ hK => ?_
    unfold Oper.wp execOp
    simp only [ho, resolve, invoke, builtin, Sem.run_bind, Sem.run_pure, Result.andThen_ok, List.map_toArray, List.map_cons, List.map_nil, hs, hx, hr]
    exact hK _ _ (h v' w' h2 h3 h5)
  | none =>
    obtain ⟨rfl, rfl⟩ := hq rfl
    obtain rfl : news = [] := List.eq_nil_of_length_eq_zero (by omega)
    refine BigFrame.wpList_want hw fun K hK => ?_
    have hrun := run_append_owned_none (P := Tryz.prog) (w := w) 0 t o.type e i0 size ht hi v n xs hown
    unfold Oper.wp
    simp [execOp, ho, resolve, invoke, builtin, hs, hx, hrun, Result.andThen]
    exact hK _ _ (by simpa using h v w (by simpa using hown) (World.grownBy.refl _ _) (Or.inl rfl))

theorem stepX {ops : Array Oper} {o : Oper} {a : Act} {w : World} {K : Act → World → Prop} {Q : Exit → Act → World → Prop} {E : Prop}
    (hg : o.guard = none) (s x : Operand) (t : TypeId) (ho : o.op = .call { callee := .builtin .append, args := #[s, x], argTypes := #[t, t] })
    (e : TypeId) (z : Value) (size bytes : Nat) (ht : Tryz.prog.underlying t = some (.slice e)) (hinfo : (Tryz.prog.info? e).map (fun i => (i.zero, i.size, i.bytes)) = some (some z, size, bytes)) (hzs : z.cells.size = size) (hsz : 0 < size)
    (v : Value) (n : Nat) (xs : List Value) (hs : a.eval s = v) (hown : w.ownsRow 0 e size v n xs)
    (ad : Addr) (m c : Nat) (news : List Value) (hx : a.eval x = .slice (some ad) m c) (hl : news.length = m * size) (hnews : ∀ j u, news[j]? = some u → w.cell? (ad.add j) = some u) (h1 : ∀ u ∈ news, u.oneCell' = true)
    (h63 : n + m ≤ maxLen) (hbytes : (n + m) * bytes ≤ 140737488355328)
    (hK : ∀ v' w', w'.ownsRow 0 e size v' (n + m) (xs ++ news) → w.grownBy w' v.ownBlock → (v'.ownBlock = v.ownBlock ∨ v'.ownBlock = some w.heap.size) → K (a.put o.dst v') w') :
    if Region.wanted o (yielded ops a.tmps) = true then Oper.wp Tryz.prog o a w K Q else E := by
  obtain ⟨i0, hi, hz0, hz1, hz2⟩ := info_parts hinfo
  have hw : Region.wanted o (yielded ops a.tmps) = true := by simp [Region.wanted, hg]
  rw [if_pos hw]
  obtain ⟨v', w', hr, h2, h3, h4, h5⟩ := run_append_own_at (P := Tryz.prog) w 0 t o.type e i0 z size bytes ht hi hz0 hz1 hz2 hzs hsz v n xs hown ad m c news hl hnews h1 h63 hbytes (Nat.zero_le _)
  unfold Oper.wp execOp
  simp only [ho, resolve, invoke, builtin, Sem.run_bind, Sem.run_pure, Result.andThen_ok, List.map_toArray, List.map_cons, List.map_nil, hs, hx, hr]
  exact hK v' w' h2 h3 h5

end Go.Proofs.YthpilennljpamaaGreat

namespace Go.Proofs.YthpilennljpamaaGreat
open Go.RowKit Go.Sort
set_option linter.unusedVariables false
set_option maxRecDepth 100000

theorem rows_le : ∀ (ds : List De), (∀ d ∈ ds, d.rt.l.length ≤ 1048576) → (rowsOf ds).length ≤ ds.length * 1048576
  | [], _ => by simp [rowsOf]
  | d :: r, h => by
    have h1 := rows_le r fun x hx => h x (by simp [hx])
    have h2 := h d (by simp)
    have e : rowsOf (d :: r) = d.rt.l ++ rowsOf r := by simp [rowsOf]
    rw [e, List.length_append, List.length_cons]
    omega
theorem texts_len (ds : List De) : (textsOf ds).length = ds.length * 2 := by
  induction ds with
  | nil => rfl
  | cons d r ih =>
    have e : textsOf (d :: r) = [d.key.toList, d.e.key.toList] ++ textsOf r := by simp [textsOf]
    rw [e, List.length_append, ih, List.length_cons]
    simp
    omega
theorem ents_le : ∀ (ds : List De) (pl : List En), (∀ d ∈ ds, d.rt.l.length ≤ 1048576) → (entsL pl ds).length ≤ pl.length + ds.length * 1048577
  | [], pl, _ => by simp [entsL]
  | d :: r, pl, h => by
    have h1 := ents_le r (entS pl d) fun x hx => h x (by simp [hx])
    have h2 := h d (by simp)
    have h3 := Dl.entS_le pl d
    have e : entsL pl (d :: r) = entsL (entS pl d) r := by simp [entsL]
    rw [e, List.length_cons]
    omega

theorem fit_small {pl : List En} {ds : List De} (hp : pl.length ≤ 1048576) (hd : ds.length ≤ 1048576) (h : ∀ d ∈ ds, d.rt.l.length ≤ 1048576) : Fit pl ds := by
  have h1 := rows_le ds h
  have h2 := texts_len ds
  have h3 := ents_le ds pl h
  have h4 : ds.length * 1048576 ≤ 1048576 * 1048576 := Nat.mul_le_mul_right _ hd
  have h5 : ds.length * 1048577 ≤ 1048576 * 1048577 := Nat.mul_le_mul_right _ hd
  refine ⟨by rw [List.length_append]; omega, ?_, by omega⟩
  unfold allTexts
  rw [List.length_append, List.length_map, List.length_append]
  omega

theorem fo_len {g : Pp} {ds : List De} (hp : g.l.length ≤ 1048576) (hd : ds.length ≤ 1048576) (h : ∀ d ∈ ds, d.rt.l.length ≤ 1048576) : (Dl.fo g ds).1.l.length ≤ 4611686018427387904 := by
  by_cases h0 : (Dl.fo g ds).2 = 0
  · rw [(Dl.fo_ok g ds h0).1]
    have h3 := ents_le ds g.l h
    have h5 : ds.length * 1048577 ≤ 1048576 * 1048577 := Nat.mul_le_mul_right _ hd
    omega
  · rw [Dl.fo_zero g ds h0]
    exact Nat.zero_le _
theorem apply_len {g : Pp} {d : De} (hp : g.l.length ≤ 1048576) (h : d.rt.l.length ≤ 1048576) : (Dl.apply g d).1.l.length ≤ 4611686018427387904 := by
  have e : Dl.fo g [d] = Dl.apply g d := by simp [Dl.fo, Dl.ap]
  rw [← e]
  exact fo_len hp (by simp) (by simpa using h)

theorem dlinfo : (Tryz.prog.info? 32).map (fun i => (i.zero, i.size, i.bytes)) = some (some (.agg #[.int .i64 0, .string ⟨#[]⟩, .int .i64 0, .int .i64 0, .int .i64 0, .string ⟨#[]⟩, .int .i64 0, .bool false, .string ⟨#[]⟩, .string ⟨#[]⟩, .int .i64 0, .slice none 0 0]), 12, 144) := by kernel_rfl

def dms (L : List Dm) : List Value := L.flatMap Dm.cells
theorem dms_app (a b : List Dm) : dms (a ++ b) = dms a ++ dms b := by simp [dms]
theorem dms_len (L : List Dm) : (dms L).length = L.length * 12 := by
  induction L with
  | nil => rfl
  | cons x r ih => simp only [dms, List.flatMap_cons, List.length_append, List.length_cons] at *; rw [ih]; simp [Dm.cells]; omega
theorem dms_at : ∀ (l : List Dm) (i j : Nat) (m : Dm), l[i]? = some m → j < 12 → (dms l)[i * 12 + j]? = m.cells[j]?
  | [], i, j, f, h, _ => by simp at h
  | x :: r, 0, j, f, h, hj => by
    simp at h
    subst h
    simp only [dms, List.flatMap_cons, Nat.zero_mul, Nat.zero_add]
    rw [List.getElem?_append_left (by simpa [Dm.cells] using hj)]
  | x :: r, i + 1, j, f, h, hj => by
    simp only [dms, List.flatMap_cons]
    rw [List.getElem?_append_right (by simp [Dm.cells]; omega)]
    have e : (i + 1) * 12 + j - x.cells.length = i * 12 + j := by simp [Dm.cells]; omega
    rw [e]
    exact dms_at r i j f (by simpa using h) hj
theorem dm_one (m : Dm) : ∀ u ∈ m.cells, u.oneCell' = true := by
  intro u hu
  simp only [Dm.cells, List.mem_cons, List.not_mem_nil, or_false] at hu
  rcases hu with rfl | rfl | rfl | rfl | rfl | rfl | rfl | rfl | rfl | rfl | rfl | rfl <;> rfl

theorem Seg.other {w w' : World} {base : Nat} {p : Option Addr} {len cap : Nat} {l : List En} {row : Option Nat} (h : Seg w base p len cap l) (t : w.grownBy w' row) (hS : ∀ b, row = some b → ∃ cs, Bk w b 32 cs) : Seg w' base p len cap l := by
  refine h.keep fun g o hg => ?_
  have hlt := (h.lt hg).2
  refine t.block g hlt fun e => ?_
  obtain ⟨cs, hc⟩ := hS g e.symm
  rcases h.form with ⟨hn, _⟩ | ⟨g', o', cur, hp, _, hk, _⟩
  · rw [hn] at hg; cases hg
  · rw [hp] at hg
    cases hg
    unfold Bk at hc hk
    rw [hc] at hk
    simp at hk

/-- The clones so far. -/
structure Old (w1 wr : World) (ov : Value) (j : Nat) (L L' : List Dm) : Prop where
  row : wr.ownsRow w1.heap.size 32 12 ov j (dms L')
  len : L'.length = j
  same : L'.map (·.d) = (L.take j).map (·.d)
  each : ∀ m ∈ L', m.d.rt.l.length = m.n ∧ Seg wr w1.heap.size m.p m.n m.c m.d.rt.l
  bel : Below w1.heap.size w1 wr

theorem Old.start (w1 : World) (L : List Dm) : Old w1 w1 (.slice none 0 0) 0 L [] := ⟨World.ownsRow_nil _ _ _ _, rfl, rfl, by simp, Below.refl _ _⟩

/-- One more. -/
theorem Old.next {w1 wr W w' : World} {ov v' : Value} {j : Nat} {L L' : List Dm} (h : Old w1 wr ov j L L') {m : Dm} (hm : L[j]? = some m) (hW : Below wr.heap.size wr W) {q : Option Addr} {qc base : Nat} (hb : w1.heap.size ≤ base) (hlen : m.d.rt.l.length = m.n) (ho : OwnE W base (.slice q m.n qc) m.d.rt.l)
    {o : Obj} (hr : w'.ownsRow w1.heap.size 32 12 v' (j + 1) (dms L' ++ (⟨m.d, q, m.n, qc⟩ : Dm).cells)) (hg : (W.alloc o).grownBy w' ov.ownBlock) : Old w1 w' v' (j + 1) L (L' ++ [⟨m.d, q, m.n, qc⟩]) := by
  have hrow : ∀ b, ov.ownBlock = some b → ∃ cs, Bk (W.alloc o) b 32 cs := by
    intro b hb'
    rcases h.row.2 with ⟨rfl, _⟩ | ⟨g, cap, cur, rfl, _, hg', _⟩
    · cases hb'
    · simp only [Value.ownBlock, Option.some.injEq] at hb'
      subst hb'
      have hk : Bk wr g 32 cur := hg'
      exact ⟨cur, (hk.below hW hk.lt).alloc o⟩
  have hs := h.bel.size
  have hs2 := hW.size
  refine ⟨?_, by simp [h.len], ?_, fun x hx => ?_, ?_⟩
  · rw [dms_app]
    have e : dms [(⟨m.d, q, m.n, qc⟩ : Dm)] = (⟨m.d, q, m.n, qc⟩ : Dm).cells := by simp [dms]
    rw [e]
    exact hr
  · rw [List.take_add_one, hm]
    simp [h.same]
  · rcases List.mem_append.1 hx with hx | hx
    · obtain ⟨h1, h2⟩ := h.each x hx
      exact ⟨h1, ((h2.below hW (Nat.le_refl _)).below ((Below.refl _ W).alloc (Nat.le_refl _) o) (Nat.le_refl _)).other hg hrow⟩
    · simp at hx
      subst hx
      exact ⟨hlen, ((ho.seg.mono hb).below ((Below.refl _ W).alloc (Nat.le_refl _) o) (Nat.le_refl _)).other hg hrow⟩
  · have b1 := h.bel.trans (hW.mono hs)
    have b2 : Below w1.heap.size w1 (W.alloc o) := b1.alloc b1.size o
    exact b2.grown hg b2.size fun k hk => (World.ownsRow.lt h.row k hk).1

/-- What a clone in the row is, later on. -/
theorem Old.at {w1 wr W : World} {ov : Value} {j : Nat} {L L' : List Dm} (h : Old w1 wr ov j L L') (hW : Below wr.heap.size wr W) {i : Nat} {m : Dm} (hi : i < j) (hm : L[i]? = some m) (hmn : m.d.rt.l.length = m.n) :
    ∃ G k q qc, ov = .slice (some ⟨G, 0, none⟩) j k ∧ (∀ t u, (⟨m.d, q, m.n, qc⟩ : Dm).cells[t]? = some u → W.cell? ⟨G, i * 12 + t, none⟩ = some u) ∧ Ens W q m.d.rt.l := by
  obtain ⟨m', hm'⟩ : ∃ m', L'[i]? = some m' := ⟨_, List.getElem?_eq_getElem (by rw [h.len]; exact hi)⟩
  have hd : m'.d = m.d := by
    have h1 : (L'.map (·.d))[i]? = some m'.d := by simp [hm']
    rw [h.same] at h1
    have h2 : ((L.take j).map (·.d))[i]? = some m.d := by rw [List.getElem?_map, List.getElem?_take_of_lt hi, hm]; rfl
    rw [h2] at h1
    simpa using h1.symm
  obtain ⟨e1, e2⟩ := h.each m' (List.mem_of_getElem? hm')
  obtain ⟨G, k, hv⟩ := row_some h.row (by omega)
  have hn : m'.n = m.d.rt.l.length := by rw [← e1, hd]
  have hrow := h.row
  rw [hv] at hrow
  have hlt : G < wr.heap.size := row_block hrow G rfl
  obtain ⟨dd, dp, dn, dc⟩ := m'
  simp only at hd hn e1 e2
  subst hd
  obtain rfl : dn = m.n := by rw [hn, hmn]
  refine ⟨G, k, dp, dc, hv, fun t u hu => ?_, ?_⟩
  · have ht : t < 12 := by
      have := (List.getElem?_eq_some_iff.1 hu).1
      simpa [Dm.cells] using this
    have e : W.heap[G]? = wr.heap[G]? := hW.block G hlt
    rw [World.cell?_of_block (a := ⟨G, i * 12 + t, none⟩) e, World.ownsRow.cellAt hrow (i * 12 + t) (by omega)]
    rw [dms_at L' i t _ hm' ht]
    exact hu
  · exact e2.ens.below hW (Nat.le_refl _)

end Go.Proofs.YthpilennljpamaaGreat

namespace Go.Proofs.YthpilennljpamaaGreat
open Go.ChangeShapes Go.WideShapes Go.ChangeAt Go.RowKit Go.Sort
open Go.ChangeMaps (open_string shut_string)
set_option linter.unusedVariables false
set_option linter.unusedSimpArgs false
set_option maxRecDepth 100000

set_option maxHeartbeats 16000000 in
theorem walk_deltaOwn (pf : Bool) (plo phi : ByteArray) (pr : Int) (pp : Option Addr) (pn pc : Nat) (pl : List En) (lp : Option Addr) (ln lc : Nat) (L : List Dm) (w : World) (hp : InE 1048576 w pp pn pc pl) (hl : InDs w lp ln lc L) :
    Calls Tryz.prog 3 #[.agg #[.bool pf, .string plo, .string phi, .int .i64 pr, .slice pp pn pc], .slice lp ln lc] w fun e w' => e = .returned (.bool true) ∧ Below w.heap.size w w' := by
  have HP : Hid (InE 1048576 w pp pn pc pl) := hp
  have HL : Hid (InDs w lp ln lc L) := hl
  have hln : ln ≤ 1048576 := hl.room
  have hpn : pn ≤ 1048576 := hp.room
  clear hp hl
  have HCL : Hid (∀ W, Below w.heap.size w W → Calls Tryz.prog 9 #[pgv pf plo phi pr pp pn pc] W fun e w' => ∃ p' cap', e = .returned (pgv pf plo phi pr p' pn cap') ∧ OwnE w' W.heap.size (.slice p' pn cap') pl ∧ Below W.heap.size W w') := fun W h => rclone_any pf plo phi pr pp pn pc pl W HP.out.lenq (HP.out.ens.below h (Nat.le_refl _)) (by omega) HP.out.nil
  have HFO : Hid (∀ W, Below w.heap.size w W → Calls Tryz.prog 11 #[pgv pf plo phi pr pp pn pc, .slice lp ln lc] W fun e w' => ∃ (of : Bool) (olo ohi : ByteArray) (or : Int) (op : Option Addr) (on oc : Nat) (ol : List En) (er : Int), e = .returned (.tuple #[pgv of olo ohi or op on oc, .int .i64 er]) ∧ Seg w' W.heap.size op on oc ol ∧ Below W.heap.size W w' ∧ on ≤ 4611686018427387904) := by
    intro W h
    have hdd : ∀ d ∈ (L.map (·.d)).reverse, d.rt.l.length ≤ 1048576 := by
      intro d hd
      simp only [List.mem_reverse, List.mem_map] at hd
      obtain ⟨m, hm, rfl⟩ := hd
      obtain ⟨i, hi⟩ := List.getElem?_of_mem hm
      have hpos : 0 < L.length := List.length_pos_of_mem hm
      obtain ⟨b, o, -, hc⟩ := HL.out.des hpos
      rw [(hc i m hi).2.len]
      exact HL.out.each m hm
    have hfl := fo_len (g := ⟨pf, plo, phi, pr, pl⟩) (ds := (L.map (·.d)).reverse) (by rw [HP.out.lenq]; exact hpn) (by simp [HL.out.lenq]; exact hln) hdd
    refine (fold_any pf plo phi pr pp pn pc pl lp ln lc L W HP.out.lenq (HP.out.ens.below h (Nat.le_refl _)) (fun h => (HP.out.nil h).1) HL.out.lenq (by omega) (HL.out.des.below h (Nat.le_refl _)) (fun _ => fit_small (by rw [HP.out.lenq]; exact hpn) (by simp [HL.out.lenq]; exact hln) hdd)).mono ?_
    rintro e w' ⟨v, rfl, ⟨p, cap, rfl, hs⟩, hb⟩
    exact ⟨_, _, _, _, p, _, cap, _, _, rfl, hs, hb, hfl⟩
  have HSM : Hid (∀ W (q : Option Addr) (c : Nat), Below w.heap.size w W → Ens W q pl → Calls Tryz.prog 16 #[pgv pf plo phi pr pp pn pc, pgv pf plo phi pr q pn c] W fun r w' => r = .returned (.bool true) ∧ Below W.heap.size W w') := by
    intro W q c h hq
    have := rsame_any ⟨pf, plo, phi, pr, pl⟩ ⟨pf, plo, phi, pr, pl⟩ pp q pn pn pc c W HP.out.lenq HP.out.lenq (HP.out.ens.below h (Nat.le_refl _)) hq (by omega)
    rw [Pg.same_self] at this
    exact this
  obtain ⟨w0, hw0⟩ : ∃ w0, w.alloc (.cells #[.bool pf, .string plo, .string phi, .int .i64 pr, .slice pp pn pc] 24) = w0 := ⟨_, rfl⟩
  have HB0 : Hid (Below w.heap.size w w0) := by rw [← hw0]; exact (Below.refl _ _).alloc (Nat.le_refl _) _
  have HP0 : Hid (Bk w0 w.heap.size 24 #[.bool pf, .string plo, .string phi, .int .i64 pr, .slice pp pn pc]) := by rw [← hw0]; exact Bk.new _ _ _
  have a0 : w0.cell? ⟨w.heap.size, 0, none⟩ = some (.bool pf) := HP0.out.cell 0
  have a1 : w0.cell? ⟨w.heap.size, 1, none⟩ = some (.string plo) := HP0.out.cell 1
  have a2 : w0.cell? ⟨w.heap.size, 2, none⟩ = some (.string phi) := HP0.out.cell 2
  have a3 : w0.cell? ⟨w.heap.size, 3, none⟩ = some (.int .i64 pr) := HP0.out.cell 3
  have a4 : w0.cell? ⟨w.heap.size, 4, none⟩ = some (.slice pp pn pc) := HP0.out.cell 4
  go_enter Tryz.func3, Tryz.ntmps3
  go_wp2_with fail
  refine Calls.mono (HCL.out _ HB0.out) ?_
  rintro e wa ⟨c1p, c1c, rfl, hoa, hba⟩
  clear hw0 a0 a1 a2 a3 a4
  obtain ⟨w1, hw1⟩ : ∃ w1, wa.alloc (.cells #[.bool pf, .string plo, .string phi, .int .i64 pr, .slice c1p pn c1c] 24) = w1 := ⟨_, rfl⟩
  have hb1 : Below wa.heap.size wa w1 := by rw [← hw1]; exact (Below.refl _ _).alloc (Nat.le_refl _) _
  have HB1 : Hid (Below w.heap.size w w1) := by
    have h1 := HB0.out.trans (hba.mono HB0.out.size)
    exact h1.trans (hb1.mono h1.size)
  have HP1 : Hid (Bk w1 w.heap.size 24 #[.bool pf, .string plo, .string phi, .int .i64 pr, .slice pp pn pc]) := (HP0.out.below hba HP0.out.lt).below hb1 (HP0.out.below hba HP0.out.lt).lt
  obtain ⟨X5, hX5⟩ : ∃ X5, wa.heap.size = X5 := ⟨_, rfl⟩
  have HW1 : Hid (Bk w1 X5 24 #[.bool pf, .string plo, .string phi, .int .i64 pr, .slice c1p pn c1c]) := by rw [← hw1, ← hX5]; exact Bk.new _ _ _
  have HC1 : Hid (Ens w1 c1p pl) := hoa.seg.ens.below hb1 (Nat.le_refl _)
  clear hoa hba hb1 HB0 HP0
  go_wp2_with fail
  try rw [hX5]
  clear hw1 hX5
  go_loopw [6, 23] (fun ov iv wr => ∃ (j : Nat) (L' : List Dm), j ≤ ln ∧ iv = .int .i64 (j : Int) ∧ Hid (Old w1 wr ov j L L')) (fun _ iv _ => ln - (intOf iv).toNat)
  case atStart => exact ⟨0, [], Nat.zero_le _, rfl, Old.start _ _⟩
  case round =>
    obtain ⟨j, L', hj, rfl, HO⟩ := hrel
    obtain ⟨ovp, ovc, rfl, -⟩ := row_form HO.out.row
    have HBR : Hid (Below w.heap.size w wr) := HB1.out.trans (HO.out.bel.mono HB1.out.size)
    by_cases hlt : j < ln
    · have hli : (j : Int) < (ln : Int) := by omega
      have hj0 : (0 : Int) ≤ (j : Int) := by omega
      obtain ⟨m, hm⟩ : ∃ m, L[j]? = some m := ⟨_, List.getElem?_eq_getElem (by rw [HL.out.lenq]; exact hlt)⟩
      obtain ⟨b, o, hlp, hc⟩ := (HL.out.des.below HBR.out (Nat.le_refl _)) (by rw [HL.out.lenq]; omega)
      obtain ⟨hcm, hok⟩ := hc j m hm
      have HME : Hid (m.n ≤ 1048576) := HL.out.each m (List.mem_of_getElem? hm)
      obtain ⟨⟨dk, ⟨dek, des, deg, dec⟩, dkey, dpg, ⟨dleaf, dlo, dhi, dr, dl⟩⟩, dp, dn, dc⟩ := m
      have HOK : Hid (Dm.Ok wr ⟨⟨dk, ⟨dek, des, deg, dec⟩, dkey, dpg, ⟨dleaf, dlo, dhi, dr, dl⟩⟩, dp, dn, dc⟩) := hok
      have HM : Hid (L[j]? = some ⟨⟨dk, ⟨dek, des, deg, dec⟩, dkey, dpg, ⟨dleaf, dlo, dhi, dr, dl⟩⟩, dp, dn, dc⟩) := hm
      subst hlp
      have c0 : wr.cell? ⟨b, o + j * 12, none⟩ = some (.int .i64 dk) := hcm 0 _ rfl
      have c1 : wr.cell? ⟨b, o + j * 12 + 1, none⟩ = some (.string dek) := hcm 1 _ rfl
      have c2 : wr.cell? ⟨b, o + j * 12 + 2, none⟩ = some (.int .i64 des) := hcm 2 _ rfl
      have c3 : wr.cell? ⟨b, o + j * 12 + 3, none⟩ = some (.int .i64 deg) := hcm 3 _ rfl
      have c4 : wr.cell? ⟨b, o + j * 12 + 4, none⟩ = some (.int .i64 dec) := hcm 4 _ rfl
      have c5 : wr.cell? ⟨b, o + j * 12 + 5, none⟩ = some (.string dkey) := hcm 5 _ rfl
      have c6 : wr.cell? ⟨b, o + j * 12 + 6, none⟩ = some (.int .i64 dpg) := hcm 6 _ rfl
      have c7 : wr.cell? ⟨b, o + j * 12 + 7, none⟩ = some (.bool dleaf) := hcm 7 _ rfl
      have c8 : wr.cell? ⟨b, o + j * 12 + 8, none⟩ = some (.string dlo) := hcm 8 _ rfl
      have c9 : wr.cell? ⟨b, o + j * 12 + 9, none⟩ = some (.string dhi) := hcm 9 _ rfl
      have c10 : wr.cell? ⟨b, o + j * 12 + 10, none⟩ = some (.int .i64 dr) := hcm 10 _ rfl
      have c11 : wr.cell? ⟨b, o + j * 12 + 11, none⟩ = some (.slice dp dn dc) := hcm 11 _ rfl
      obtain ⟨wo, hwo⟩ : ∃ wo, wr.alloc (.cells #[.int .i64 dk, .string dek, .int .i64 des, .int .i64 deg, .int .i64 dec, .string dkey, .int .i64 dpg, .bool dleaf, .string dlo, .string dhi, .int .i64 dr, .slice dp dn dc] 32) = wo := ⟨_, rfl⟩
      have HBO : Hid (Below wr.heap.size wr wo) := by rw [← hwo]; exact (Below.refl _ _).alloc (Nat.le_refl _) _
      have hko : Bk wo wr.heap.size 32 #[.int .i64 dk, .string dek, .int .i64 des, .int .i64 deg, .int .i64 dec, .string dkey, .int .i64 dpg, .bool dleaf, .string dlo, .string dhi, .int .i64 dr, .slice dp dn dc] := by rw [← hwo]; exact Bk.new _ _ _
      have e0 : wo.cell? ⟨wr.heap.size, 0, none⟩ = some (.int .i64 dk) := hko.cell 0
      have e1 : wo.cell? ⟨wr.heap.size, 1, none⟩ = some (.string dek) := hko.cell 1
      have e2 : wo.cell? ⟨wr.heap.size, 2, none⟩ = some (.int .i64 des) := hko.cell 2
      have e3 : wo.cell? ⟨wr.heap.size, 3, none⟩ = some (.int .i64 deg) := hko.cell 3
      have e4 : wo.cell? ⟨wr.heap.size, 4, none⟩ = some (.int .i64 dec) := hko.cell 4
      have e5 : wo.cell? ⟨wr.heap.size, 5, none⟩ = some (.string dkey) := hko.cell 5
      have e6 : wo.cell? ⟨wr.heap.size, 6, none⟩ = some (.int .i64 dpg) := hko.cell 6
      have e7 : wo.cell? ⟨wr.heap.size, 7, none⟩ = some (.bool dleaf) := hko.cell 7
      have e8 : wo.cell? ⟨wr.heap.size, 8, none⟩ = some (.string dlo) := hko.cell 8
      have e9 : wo.cell? ⟨wr.heap.size, 9, none⟩ = some (.string dhi) := hko.cell 9
      have e10 : wo.cell? ⟨wr.heap.size, 10, none⟩ = some (.int .i64 dr) := hko.cell 10
      have e11 : wo.cell? ⟨wr.heap.size, 11, none⟩ = some (.slice dp dn dc) := hko.cell 11
      have HRD : Hid (Calls Tryz.prog 10 #[dlv dk ⟨dek, des, deg, dec⟩ dkey dpg dleaf dlo dhi dr dp dn dc] wo fun r w' => ∃ q qc, r = .returned (dlv dk ⟨dek, des, deg, dec⟩ dkey dpg dleaf dlo dhi dr q dn qc) ∧ OwnE w' wo.heap.size (.slice q dn qc) dl ∧ Below wo.heap.size wo w') := rdclone_any ⟨dk, ⟨dek, des, deg, dec⟩, dkey, dpg, ⟨dleaf, dlo, dhi, dr, dl⟩⟩ dp dn dc wo HOK.out.len (HOK.out.ens.below HBO.out (Nat.le_refl _)) (by have h9 : dn ≤ 1048576 := HME.out; omega) HOK.out.nil
      clear hko hcm hok hm hc
      go_wp2_with fail
      refine Calls.mono HRD.out ?_
      rintro e wc ⟨q, qc, rfl, hoc, hbc⟩
      have HWC : Hid (Below wr.heap.size wr wc) := HBO.out.trans (hbc.mono HBO.out.size)
      have HOC : Hid (OwnE wc wo.heap.size (.slice q dn qc) dl) := hoc
      have hszo : w1.heap.size ≤ wo.heap.size := Nat.le_trans HO.out.bel.size HBO.out.size
      have HSO : Hid (w1.heap.size ≤ wo.heap.size) := hszo
      have HR : Hid ((wc.alloc (.cells #[.int .i64 dk, .string dek, .int .i64 des, .int .i64 deg, .int .i64 dec, .string dkey, .int .i64 dpg, .bool dleaf, .string dlo, .string dhi, .int .i64 dr, .slice q dn qc] 32)).ownsRow w1.heap.size 32 12 (.slice ovp j ovc) j (dms L')) := by
        refine World.ownsRow.alloc ?_ _
        exact owns_tn HO.out.row (Tn.of_below HWC.out []) (by simp)
      have HSZ : Hid (w1.heap.size ≤ (wc.alloc (.cells #[.int .i64 dk, .string dek, .int .i64 des, .int .i64 deg, .int .i64 dec, .string dkey, .int .i64 dpg, .bool dleaf, .string dlo, .string dhi, .int .i64 dr, .slice q dn qc] 32)).heap.size) := by
        have h1 := HO.out.bel.size
        have h2 := HWC.out.size
        show _ ≤ _
        simp
        omega
      obtain ⟨i0, hi0, hz0, hz1, hz2⟩ := info_parts dlinfo
      clear hoc hbc hwo HRD hszo c0 c1 c2 c3 c4 c5 c6 c7 c8 c9 c10 c11 e0 e1 e2 e3 e4 e5 e6 e7 e8 e9 e10 e11
      go_wp2_with (at_builtin; refine wpList_append_own_at _ rfl _ _ _ rfl w1.heap.size 32 i0 _ 12 144 Tryz.underlying25 hi0 hz0 hz1 hz2 rfl (by decide) (.slice ovp j ovc) j (dms L') rfl HR.out ⟨wc.heap.size, 0, none⟩ 1 1 (⟨⟨dk, ⟨dek, des, deg, dec⟩, dkey, dpg, ⟨dleaf, dlo, dhi, dr, dl⟩⟩, q, dn, qc⟩ : Dm).cells rfl rfl (news_alloc wc (⟨⟨dk, ⟨dek, des, deg, dec⟩, dkey, dpg, ⟨dleaf, dlo, dhi, dr, dl⟩⟩, q, dn, qc⟩ : Dm).cells 32 _ rfl) (dm_one _) (by unfold maxLen; omega) (by omega) HSZ.out ?_)
      intro v2 w2 o2 t2 b0 b2
      obtain ⟨p2, k2, hv2, -⟩ := row_form o2
      subst hv2
      have HN : Hid (Old w1 w2 (.slice p2 (j + 1) k2) (j + 1) L (L' ++ [⟨⟨dk, ⟨dek, des, deg, dec⟩, dkey, dpg, ⟨dleaf, dlo, dhi, dr, dl⟩⟩, q, dn, qc⟩])) := HO.out.next HM.out HWC.out HSO.out HOK.out.len HOC.out o2 t2
      clear o2 t2 b0 b2 HO HR HSZ hi0 hz0 hz1 hz2
      go_wp2
      go_roundw
      case rel => exact ⟨j + 1, _, by omega, by go_num, HN⟩
      case measure => simp [intOf]; omega
    · have hjn : j = ln := by omega
      subst hjn
      have hli : ¬ (j : Int) < (j : Int) := by omega
      obtain ⟨w2, hw2⟩ : ∃ w2, w2 = wr := ⟨_, rfl⟩
      have HO2 : Hid (Old w1 w2 (.slice ovp j ovc) j L L') := by rw [hw2]; exact HO
      have HB2 : Hid (Below w.heap.size w w2) := by rw [hw2]; exact HBR.out
      have HP2 : Hid (Bk w2 w.heap.size 24 #[.bool pf, .string plo, .string phi, .int .i64 pr, .slice pp pn pc]) := by rw [hw2]; exact HP1.out.below HO.out.bel HP1.out.lt
      have HW2 : Hid (Bk w2 X5 24 #[.bool pf, .string plo, .string phi, .int .i64 pr, .slice c1p pn c1c]) := by rw [hw2]; exact HW1.out.below HO.out.bel HW1.out.lt
      have HC2 : Hid (Ens w2 c1p pl) := by rw [hw2]; exact HC1.out.below HO.out.bel (Nat.le_refl _)
      rw [← hw2]
      clear HO HBR HP1 HW1 HC1 hw2 HB1
      have a0 : w2.cell? ⟨w.heap.size, 0, none⟩ = some (.bool pf) := HP2.out.cell 0
      have a1 : w2.cell? ⟨w.heap.size, 1, none⟩ = some (.string plo) := HP2.out.cell 1
      have a2 : w2.cell? ⟨w.heap.size, 2, none⟩ = some (.string phi) := HP2.out.cell 2
      have a3 : w2.cell? ⟨w.heap.size, 3, none⟩ = some (.int .i64 pr) := HP2.out.cell 3
      have a4 : w2.cell? ⟨w.heap.size, 4, none⟩ = some (.slice pp pn pc) := HP2.out.cell 4
      go_wp2_with fail
      refine Calls.mono (HFO.out _ HB2.out) ?_
      rintro e wf ⟨of, olo, ohi, or, op, on, oc, ol, er, rfl, hsf, hbf, hon⟩
      obtain ⟨w3, hw3⟩ : ∃ w3, wf.alloc (.cells #[.bool of, .string olo, .string ohi, .int .i64 or, .slice op on oc] 24) = w3 := ⟨_, rfl⟩
      have hb3 : Below wf.heap.size wf w3 := by rw [← hw3]; exact (Below.refl _ _).alloc (Nat.le_refl _) _
      obtain ⟨X9, hX9⟩ : ∃ X9, wf.heap.size = X9 := ⟨_, rfl⟩
      have HBX : Hid (Bk w3 X9 24 #[.bool of, .string olo, .string ohi, .int .i64 or, .slice op on oc]) := by rw [← hw3, ← hX9]; exact Bk.new _ _ _
      have HSP : Hid (SpE w2.heap.size X9 op on oc w3) := (hsf.sp (Nat.le_refl _) (by omega)).up hb3
      have HB3 : Hid (Below w2.heap.size w2 w3) := hbf.trans (hb3.mono hbf.size)
      have q4 : w3.cell? ⟨X9, 4, none⟩ = some (.slice op on oc) := HBX.out.cell 4
      clear hsf hbf hb3 a0 a1 a2 a3 a4
      go_wp2_with fail
      try rw [hX9]
      clear hw3 hX9 q4
      go_loopw [42] (fun iv wi => ∃ i : Nat, i ≤ on ∧ iv = .int .i64 i ∧ Hid (Wq w2.heap.size X9 w3 wi)) (fun iv _ => on - (intOf iv).toNat)
      case atStart => exact ⟨0, Nat.zero_le _, rfl, Wq.refl _ _ _⟩
      case round =>
        obtain ⟨i, hi, rfl, HV⟩ := hrel
        have g4 : wr.cell? ⟨X9, 4, none⟩ = some (.slice op on oc) := (HV.out.bk HBX.out (Nat.le_refl _)).cell 4
        by_cases hit : i < on
        · have hii : (i : Int) < (on : Int) := by omega
          have hi0 : (0 : Int) ≤ (i : Int) := by omega
          obtain ⟨g, o, u, rfl, cu, fu, hset⟩ := (HSP.out.wq HV.out).at hit
          have HSET : Hid (∀ x, Wq w2.heap.size X9 w3 (wr.setCell ⟨g, o + i * 4, none⟩ x)) := fun x => HV.out.trans (hset x)
          clear hset
          go_wp2
          go_roundw
          case rel => exact ⟨i + 1, by omega, by go_num, HSET.out _⟩
          case measure => simp [intOf]; omega
        · have hii : ¬ (i : Int) < (on : Int) := by omega
          clear g4
          obtain ⟨w4, hw4⟩ : ∃ w4, w4 = wr := ⟨_, rfl⟩
          have HB4 : Hid (Below w2.heap.size w2 w4) := by rw [hw4]; exact HB3.out.trans (HV.out.below HB3.out.size)
          rw [← hw4]
          clear HV HBX HSP hw4 HB3
          go_wp2_with fail
          go_loopw [53] (fun iv wr => ∃ k : Nat, k ≤ j ∧ iv = .int .i64 (k : Int) ∧ Hid (Below w2.heap.size w2 wr)) (fun iv _ => j - (intOf iv).toNat)
          case atStart => exact ⟨0, Nat.zero_le _, rfl, HB4⟩
          case round =>
            obtain ⟨k, hk, rfl, HBR⟩ := hrel
            clear HB4
            have HBW : Hid (Below w.heap.size w wr) := HB2.out.trans (HBR.out.mono HB2.out.size)
            by_cases hkt : k < j
            · have hki : (k : Int) < (j : Int) := by omega
              have hk0 : (0 : Int) ≤ (k : Int) := by omega
              obtain ⟨m, hm⟩ : ∃ m, L[k]? = some m := ⟨_, List.getElem?_eq_getElem (by rw [HL.out.lenq]; exact hkt)⟩
              obtain ⟨b, o, hlp, hc⟩ := HL.out.des (by rw [HL.out.lenq]; omega)
              have HME : Hid (m.n ≤ 1048576) := HL.out.each m (List.mem_of_getElem? hm)
              have hokw := (hc k m hm).2
              have hcells : ∀ W, Below w.heap.size w W → ∀ t v, m.cells[t]? = some v → W.cell? ⟨b, o + k * 12 + t, none⟩ = some v := fun W hW => by
                obtain ⟨b', o', hlp', hc'⟩ := (HL.out.des.below hW (Nat.le_refl _)) (by rw [HL.out.lenq]; omega)
                have e9 := hlp.symm.trans hlp'
                simp at e9
                obtain ⟨rfl, rfl⟩ := e9
                exact (hc' k m hm).1
              have hold := fun W (hW : Below w2.heap.size w2 W) => HO2.out.at hW hkt hm hokw.len
              obtain ⟨⟨dk, ⟨dek, des, deg, dec⟩, dkey, dpg, ⟨dleaf, dlo, dhi, dr, dl⟩⟩, dp, dn, dc⟩ := m
              have HOK : Hid (Dm.Ok w ⟨⟨dk, ⟨dek, des, deg, dec⟩, dkey, dpg, ⟨dleaf, dlo, dhi, dr, dl⟩⟩, dp, dn, dc⟩) := hokw
              have HCE : Hid (∀ W, Below w.heap.size w W → ∀ t v, (⟨⟨dk, ⟨dek, des, deg, dec⟩, dkey, dpg, ⟨dleaf, dlo, dhi, dr, dl⟩⟩, dp, dn, dc⟩ : Dm).cells[t]? = some v → W.cell? ⟨b, o + k * 12 + t, none⟩ = some v) := hcells
              have HOD : Hid (∀ W, Below w2.heap.size w2 W → ∃ G kk q qc, Value.slice ovp j ovc = .slice (some ⟨G, 0, none⟩) j kk ∧ (∀ t u, (⟨⟨dk, ⟨dek, des, deg, dec⟩, dkey, dpg, ⟨dleaf, dlo, dhi, dr, dl⟩⟩, q, dn, qc⟩ : Dm).cells[t]? = some u → W.cell? ⟨G, k * 12 + t, none⟩ = some u) ∧ Ens W q dl) := hold
              subst hlp
              clear hc hokw hcells hold hm
              have c0 : wr.cell? ⟨b, o + k * 12, none⟩ = some (.int .i64 dk) := HCE.out wr HBW.out 0 _ rfl
              have c1 : wr.cell? ⟨b, o + k * 12 + 1, none⟩ = some (.string dek) := HCE.out wr HBW.out 1 _ rfl
              have c2 : wr.cell? ⟨b, o + k * 12 + 2, none⟩ = some (.int .i64 des) := HCE.out wr HBW.out 2 _ rfl
              have c3 : wr.cell? ⟨b, o + k * 12 + 3, none⟩ = some (.int .i64 deg) := HCE.out wr HBW.out 3 _ rfl
              have c4 : wr.cell? ⟨b, o + k * 12 + 4, none⟩ = some (.int .i64 dec) := HCE.out wr HBW.out 4 _ rfl
              have c5 : wr.cell? ⟨b, o + k * 12 + 5, none⟩ = some (.string dkey) := HCE.out wr HBW.out 5 _ rfl
              have c6 : wr.cell? ⟨b, o + k * 12 + 6, none⟩ = some (.int .i64 dpg) := HCE.out wr HBW.out 6 _ rfl
              have c7 : wr.cell? ⟨b, o + k * 12 + 7, none⟩ = some (.bool dleaf) := HCE.out wr HBW.out 7 _ rfl
              have c8 : wr.cell? ⟨b, o + k * 12 + 8, none⟩ = some (.string dlo) := HCE.out wr HBW.out 8 _ rfl
              have c9 : wr.cell? ⟨b, o + k * 12 + 9, none⟩ = some (.string dhi) := HCE.out wr HBW.out 9 _ rfl
              have c10 : wr.cell? ⟨b, o + k * 12 + 10, none⟩ = some (.int .i64 dr) := HCE.out wr HBW.out 10 _ rfl
              have c11 : wr.cell? ⟨b, o + k * 12 + 11, none⟩ = some (.slice dp dn dc) := HCE.out wr HBW.out 11 _ rfl
              obtain ⟨wo, hwo⟩ : ∃ wo, wr.alloc (.cells #[.int .i64 dk, .string dek, .int .i64 des, .int .i64 deg, .int .i64 dec, .string dkey, .int .i64 dpg, .bool dleaf, .string dlo, .string dhi, .int .i64 dr, .slice dp dn dc] 32) = wo := ⟨_, rfl⟩
              have hbo : Below wr.heap.size wr wo := by rw [← hwo]; exact (Below.refl _ _).alloc (Nat.le_refl _) _
              obtain ⟨X13, hX13⟩ : ∃ X13, wr.heap.size = X13 := ⟨_, rfl⟩
              have hdn9 : dn ≤ 1048576 := HME.out
              have HKO : Hid (Bk wo X13 32 #[.int .i64 dk, .string dek, .int .i64 des, .int .i64 deg, .int .i64 dec, .string dkey, .int .i64 dpg, .bool dleaf, .string dlo, .string dhi, .int .i64 dr, .slice dp dn dc]) := by rw [← hwo, ← hX13]; exact Bk.new _ _ _
              have HBO : Hid (Below w2.heap.size w2 wo) := HBR.out.trans (hbo.mono HBR.out.size)
              have HBOW : Hid (Below w.heap.size w wo) := HB2.out.trans (HBO.out.mono HB2.out.size)
              have e0 : wo.cell? ⟨X13, 0, none⟩ = some (.int .i64 dk) := HKO.out.cell 0
              have e1 : wo.cell? ⟨X13, 1, none⟩ = some (.string dek) := HKO.out.cell 1
              have e2 : wo.cell? ⟨X13, 2, none⟩ = some (.int .i64 des) := HKO.out.cell 2
              have e3 : wo.cell? ⟨X13, 3, none⟩ = some (.int .i64 deg) := HKO.out.cell 3
              have e4 : wo.cell? ⟨X13, 4, none⟩ = some (.int .i64 dec) := HKO.out.cell 4
              have e5 : wo.cell? ⟨X13, 5, none⟩ = some (.string dkey) := HKO.out.cell 5
              have e6 : wo.cell? ⟨X13, 6, none⟩ = some (.int .i64 dpg) := HKO.out.cell 6
              have e7 : wo.cell? ⟨X13, 7, none⟩ = some (.bool dleaf) := HKO.out.cell 7
              have e8 : wo.cell? ⟨X13, 8, none⟩ = some (.string dlo) := HKO.out.cell 8
              have e9 : wo.cell? ⟨X13, 9, none⟩ = some (.string dhi) := HKO.out.cell 9
              have e10 : wo.cell? ⟨X13, 10, none⟩ = some (.int .i64 dr) := HKO.out.cell 10
              have e11 : wo.cell? ⟨X13, 11, none⟩ = some (.slice dp dn dc) := HKO.out.cell 11
              have HDC : Hid (Calls Tryz.prog 12 #[dlv dk ⟨dek, des, deg, dec⟩ dkey dpg dleaf dlo dhi dr dp dn dc] wo fun r w' => ∃ q qc, r = .returned (dlv dk ⟨dek, des, deg, dec⟩ dkey dpg dleaf dlo dhi dr q dn qc) ∧ OwnE w' wo.heap.size (.slice q dn qc) dl ∧ Below wo.heap.size wo w') := dclone_any ⟨dk, ⟨dek, des, deg, dec⟩, dkey, dpg, ⟨dleaf, dlo, dhi, dr, dl⟩⟩ dp dn dc wo HOK.out.len (HOK.out.ens.below HBOW.out (Nat.le_refl _)) (by have h9 : dn ≤ 1048576 := HME.out; omega) (fun h => (HOK.out.nil h).1)
              clear hbo
              go_wp2_with fail
              try rw [hX13]
              refine Calls.mono HDC.out ?_
              rintro e wc ⟨q, qc, rfl, hoc, hbc⟩
              clear hwo hX13 HDC c0 c1 c2 c3 c4 c5 c6 c7 c8 c9 c10 c11 e0 e1 e2 e3 e4 e5 e6 e7 e8 e9 e10 e11
              obtain ⟨w5, hw5⟩ : ∃ w5, wc.alloc (.cells #[.int .i64 dk, .string dek, .int .i64 des, .int .i64 deg, .int .i64 dec, .string dkey, .int .i64 dpg, .bool dleaf, .string dlo, .string dhi, .int .i64 dr, .slice q dn qc] 32) = w5 := ⟨_, rfl⟩
              have hb5 : Below wc.heap.size wc w5 := by rw [← hw5]; exact (Below.refl _ _).alloc (Nat.le_refl _) _
              obtain ⟨X14, hX14⟩ : ∃ X14, wc.heap.size = X14 := ⟨_, rfl⟩
              have HBX : Hid (Bk w5 X14 32 #[.int .i64 dk, .string dek, .int .i64 des, .int .i64 deg, .int .i64 dec, .string dkey, .int .i64 dpg, .bool dleaf, .string dlo, .string dhi, .int .i64 dr, .slice q dn qc]) := by rw [← hw5, ← hX14]; exact Bk.new _ _ _
              have HSP : Hid (SpE wo.heap.size X14 q dn qc w5) := (hoc.seg.sp (Nat.le_refl _) (by omega)).up hb5
              have HB5 : Hid (Below wo.heap.size wo w5) := hbc.trans (hb5.mono hbc.size)
              have q11 : w5.cell? ⟨X14, 11, none⟩ = some (.slice q dn qc) := HBX.out.cell 11
              clear hoc hbc hb5
              go_wp2_with fail
              try rw [hX14]
              clear hw5 hX14 q11
              go_loopw [64] (fun iv wi => ∃ i : Nat, i ≤ dn ∧ iv = .int .i64 i ∧ Hid (Wq wo.heap.size X14 w5 wi)) (fun iv _ => dn - (intOf iv).toNat)
              case atStart => exact ⟨0, Nat.zero_le _, rfl, Wq.refl _ _ _⟩
              case round =>
                obtain ⟨i, hi, rfl, HV⟩ := hrel
                have g4 : wr.cell? ⟨X14, 11, none⟩ = some (.slice q dn qc) := (HV.out.bk HBX.out (Nat.le_refl _)).cell 11
                by_cases hit : i < dn
                · have hii : (i : Int) < (dn : Int) := by omega
                  have hi0 : (0 : Int) ≤ (i : Int) := by omega
                  obtain ⟨g, o, u, rfl, cu, fu, hset⟩ := (HSP.out.wq HV.out).at hit
                  have HSET : Hid (∀ x, Wq wo.heap.size X14 w5 (wr.setCell ⟨g, o + i * 4, none⟩ x)) := fun x => HV.out.trans (hset x)
                  clear hset
                  go_wp2
                  go_roundw
                  case rel => exact ⟨i + 1, by omega, by go_num, HSET.out _⟩
                  case measure => simp [intOf]; omega
                · have hii : ¬ (i : Int) < (dn : Int) := by omega
                  clear g4
                  obtain ⟨w6, hw6⟩ : ∃ w6, w6 = wr := ⟨_, rfl⟩
                  have HB6 : Hid (Below wo.heap.size wo w6) := by rw [hw6]; exact HB5.out.trans (HV.out.below HB5.out.size)
                  rw [← hw6]
                  clear HV HBX HSP hw6 HB5
                  have HB62 : Hid (Below w2.heap.size w2 w6) := HBO.out.trans (HB6.out.mono HBO.out.size)
                  have HB6W : Hid (Below w.heap.size w w6) := HB2.out.trans (HB62.out.mono HB2.out.size)
                  have HP6 : Hid (Bk w6 w.heap.size 24 #[.bool pf, .string plo, .string phi, .int .i64 pr, .slice pp pn pc]) := HP2.out.below HB62.out HP2.out.lt
                  have HK6 : Hid (Bk w6 X13 32 #[.int .i64 dk, .string dek, .int .i64 des, .int .i64 deg, .int .i64 dec, .string dkey, .int .i64 dpg, .bool dleaf, .string dlo, .string dhi, .int .i64 dr, .slice dp dn dc]) := HKO.out.below HB6.out HKO.out.lt
                  have a0 : w6.cell? ⟨w.heap.size, 0, none⟩ = some (.bool pf) := HP6.out.cell 0
                  have a1 : w6.cell? ⟨w.heap.size, 1, none⟩ = some (.string plo) := HP6.out.cell 1
                  have a2 : w6.cell? ⟨w.heap.size, 2, none⟩ = some (.string phi) := HP6.out.cell 2
                  have a3 : w6.cell? ⟨w.heap.size, 3, none⟩ = some (.int .i64 pr) := HP6.out.cell 3
                  have a4 : w6.cell? ⟨w.heap.size, 4, none⟩ = some (.slice pp pn pc) := HP6.out.cell 4
                  have e0 : w6.cell? ⟨X13, 0, none⟩ = some (.int .i64 dk) := HK6.out.cell 0
                  have e1 : w6.cell? ⟨X13, 1, none⟩ = some (.string dek) := HK6.out.cell 1
                  have e2 : w6.cell? ⟨X13, 2, none⟩ = some (.int .i64 des) := HK6.out.cell 2
                  have e3 : w6.cell? ⟨X13, 3, none⟩ = some (.int .i64 deg) := HK6.out.cell 3
                  have e4 : w6.cell? ⟨X13, 4, none⟩ = some (.int .i64 dec) := HK6.out.cell 4
                  have e5 : w6.cell? ⟨X13, 5, none⟩ = some (.string dkey) := HK6.out.cell 5
                  have e6 : w6.cell? ⟨X13, 6, none⟩ = some (.int .i64 dpg) := HK6.out.cell 6
                  have e7 : w6.cell? ⟨X13, 7, none⟩ = some (.bool dleaf) := HK6.out.cell 7
                  have e8 : w6.cell? ⟨X13, 8, none⟩ = some (.string dlo) := HK6.out.cell 8
                  have e9 : w6.cell? ⟨X13, 9, none⟩ = some (.string dhi) := HK6.out.cell 9
                  have e10 : w6.cell? ⟨X13, 10, none⟩ = some (.int .i64 dr) := HK6.out.cell 10
                  have e11 : w6.cell? ⟨X13, 11, none⟩ = some (.slice dp dn dc) := HK6.out.cell 11
                  have HAP : Hid (Calls Tryz.prog 13 #[pgv pf plo phi pr pp pn pc, dlv dk ⟨dek, des, deg, dec⟩ dkey dpg dleaf dlo dhi dr dp dn dc] w6 fun e w' => ∃ (xf : Bool) (xlo xhi : ByteArray) (xr : Int) (xp : Option Addr) (xn xc : Nat) (xl : List En) (er : Int), e = .returned (.tuple #[pgv xf xlo xhi xr xp xn xc, .int .i64 er]) ∧ Seg w' w6.heap.size xp xn xc xl ∧ Below w6.heap.size w6 w' ∧ xn ≤ 4611686018427387904) := by
                    refine (apply_any ⟨pf, plo, phi, pr, pl⟩ ⟨dk, ⟨dek, des, deg, dec⟩, dkey, dpg, ⟨dleaf, dlo, dhi, dr, dl⟩⟩ pp dp pn pc dn dc w6 HP.out.lenq (HP.out.ens.below HB6W.out (Nat.le_refl _)) (by omega) HP.out.nil HOK.out.len (HOK.out.ens.below HB6W.out (Nat.le_refl _)) (by have h9 : dn ≤ 1048576 := HME.out; omega) HOK.out.nil).mono ?_
                    rintro e w' ⟨v, rfl, ⟨p, cap, rfl, hs⟩, hb⟩
                    exact ⟨_, _, _, _, p, _, cap, _, _, rfl, hs, hb, apply_len (by rw [HP.out.lenq]; exact hpn) (by have h9 : dn ≤ 1048576 := HME.out; rw [HOK.out.len]; exact h9)⟩
                  go_wp2_with fail
                  refine Calls.mono HAP.out ?_
                  rintro e wx ⟨xf, xlo, xhi, xr, xp, xn, xc, xl, er2, rfl, hsx, hbx, hxn⟩
                  clear HAP a0 a1 a2 a3 a4 e0 e1 e2 e3 e4 e5 e6 e7 e8 e9 e10 e11
                  obtain ⟨w7, hw7⟩ : ∃ w7, wx.alloc (.cells #[.bool xf, .string xlo, .string xhi, .int .i64 xr, .slice xp xn xc] 24) = w7 := ⟨_, rfl⟩
                  have hb7 : Below wx.heap.size wx w7 := by rw [← hw7]; exact (Below.refl _ _).alloc (Nat.le_refl _) _
                  obtain ⟨X16, hX16⟩ : ∃ X16, wx.heap.size = X16 := ⟨_, rfl⟩
                  have HBX : Hid (Bk w7 X16 24 #[.bool xf, .string xlo, .string xhi, .int .i64 xr, .slice xp xn xc]) := by rw [← hw7, ← hX16]; exact Bk.new _ _ _
                  have HSP : Hid (SpE w6.heap.size X16 xp xn xc w7) := (hsx.sp (Nat.le_refl _) (by omega)).up hb7
                  have HB7 : Hid (Below w6.heap.size w6 w7) := hbx.trans (hb7.mono hbx.size)
                  have q4 : w7.cell? ⟨X16, 4, none⟩ = some (.slice xp xn xc) := HBX.out.cell 4
                  clear hsx hbx hb7
                  go_wp2_with fail
                  try rw [hX16]
                  clear hw7 hX16 q4
                  go_loopw [83] (fun iv wi => ∃ i : Nat, i ≤ xn ∧ iv = .int .i64 i ∧ Hid (Wq w6.heap.size X16 w7 wi)) (fun iv _ => xn - (intOf iv).toNat)
                  case atStart => exact ⟨0, Nat.zero_le _, rfl, Wq.refl _ _ _⟩
                  case round =>
                    obtain ⟨i, hi, rfl, HV⟩ := hrel
                    have g4 : wr.cell? ⟨X16, 4, none⟩ = some (.slice xp xn xc) := (HV.out.bk HBX.out (Nat.le_refl _)).cell 4
                    by_cases hit : i < xn
                    · have hii : (i : Int) < (xn : Int) := by omega
                      have hi0 : (0 : Int) ≤ (i : Int) := by omega
                      obtain ⟨g, o, u, rfl, cu, fu, hset⟩ := (HSP.out.wq HV.out).at hit
                      have HSET : Hid (∀ x, Wq w6.heap.size X16 w7 (wr.setCell ⟨g, o + i * 4, none⟩ x)) := fun x => HV.out.trans (hset x)
                      clear hset
                      go_wp2
                      go_roundw
                      case rel => exact ⟨i + 1, by omega, by go_num, HSET.out _⟩
                      case measure => simp [intOf]; omega
                    · have hii : ¬ (i : Int) < (xn : Int) := by omega
                      clear g4
                      obtain ⟨w8, hw8⟩ : ∃ w8, w8 = wr := ⟨_, rfl⟩
                      have HB8 : Hid (Below w6.heap.size w6 w8) := by rw [hw8]; exact HB7.out.trans (HV.out.below HB7.out.size)
                      rw [← hw8]
                      clear HV HBX HSP hw8 HB7
                      have HB82 : Hid (Below w2.heap.size w2 w8) := HB62.out.trans (HB8.out.mono HB62.out.size)
                      have HB8W : Hid (Below w.heap.size w w8) := HB2.out.trans (HB82.out.mono HB2.out.size)
                      obtain ⟨G, kk, q3, qc3, hov, hoc3, hens3⟩ := HOD.out w8 HB82.out
                      obtain ⟨rfl, rfl⟩ : ovp = some ⟨G, 0, none⟩ ∧ ovc = kk := by simpa using hov
                      have c0 : w8.cell? ⟨b, o + k * 12, none⟩ = some (.int .i64 dk) := HCE.out w8 HB8W.out 0 _ rfl
                      have c1 : w8.cell? ⟨b, o + k * 12 + 1, none⟩ = some (.string dek) := HCE.out w8 HB8W.out 1 _ rfl
                      have c2 : w8.cell? ⟨b, o + k * 12 + 2, none⟩ = some (.int .i64 des) := HCE.out w8 HB8W.out 2 _ rfl
                      have c3 : w8.cell? ⟨b, o + k * 12 + 3, none⟩ = some (.int .i64 deg) := HCE.out w8 HB8W.out 3 _ rfl
                      have c4 : w8.cell? ⟨b, o + k * 12 + 4, none⟩ = some (.int .i64 dec) := HCE.out w8 HB8W.out 4 _ rfl
                      have c5 : w8.cell? ⟨b, o + k * 12 + 5, none⟩ = some (.string dkey) := HCE.out w8 HB8W.out 5 _ rfl
                      have c6 : w8.cell? ⟨b, o + k * 12 + 6, none⟩ = some (.int .i64 dpg) := HCE.out w8 HB8W.out 6 _ rfl
                      have c7 : w8.cell? ⟨b, o + k * 12 + 7, none⟩ = some (.bool dleaf) := HCE.out w8 HB8W.out 7 _ rfl
                      have c8 : w8.cell? ⟨b, o + k * 12 + 8, none⟩ = some (.string dlo) := HCE.out w8 HB8W.out 8 _ rfl
                      have c9 : w8.cell? ⟨b, o + k * 12 + 9, none⟩ = some (.string dhi) := HCE.out w8 HB8W.out 9 _ rfl
                      have c10 : w8.cell? ⟨b, o + k * 12 + 10, none⟩ = some (.int .i64 dr) := HCE.out w8 HB8W.out 10 _ rfl
                      have c11 : w8.cell? ⟨b, o + k * 12 + 11, none⟩ = some (.slice dp dn dc) := HCE.out w8 HB8W.out 11 _ rfl
                      have e0 : w8.cell? ⟨G, k * 12, none⟩ = some (.int .i64 dk) := hoc3 0 _ rfl
                      have e1 : w8.cell? ⟨G, k * 12 + 1, none⟩ = some (.string dek) := hoc3 1 _ rfl
                      have e2 : w8.cell? ⟨G, k * 12 + 2, none⟩ = some (.int .i64 des) := hoc3 2 _ rfl
                      have e3 : w8.cell? ⟨G, k * 12 + 3, none⟩ = some (.int .i64 deg) := hoc3 3 _ rfl
                      have e4 : w8.cell? ⟨G, k * 12 + 4, none⟩ = some (.int .i64 dec) := hoc3 4 _ rfl
                      have e5 : w8.cell? ⟨G, k * 12 + 5, none⟩ = some (.string dkey) := hoc3 5 _ rfl
                      have e6 : w8.cell? ⟨G, k * 12 + 6, none⟩ = some (.int .i64 dpg) := hoc3 6 _ rfl
                      have e7 : w8.cell? ⟨G, k * 12 + 7, none⟩ = some (.bool dleaf) := hoc3 7 _ rfl
                      have e8 : w8.cell? ⟨G, k * 12 + 8, none⟩ = some (.string dlo) := hoc3 8 _ rfl
                      have e9 : w8.cell? ⟨G, k * 12 + 9, none⟩ = some (.string dhi) := hoc3 9 _ rfl
                      have e10 : w8.cell? ⟨G, k * 12 + 10, none⟩ = some (.int .i64 dr) := hoc3 10 _ rfl
                      have e11 : w8.cell? ⟨G, k * 12 + 11, none⟩ = some (.slice q3 dn qc3) := hoc3 11 _ rfl
                      have HDS : Hid (∀ W, Below w8.heap.size w8 W → Calls Tryz.prog 14 #[dlv dk ⟨dek, des, deg, dec⟩ dkey dpg dleaf dlo dhi dr dp dn dc, dlv dk ⟨dek, des, deg, dec⟩ dkey dpg dleaf dlo dhi dr q3 dn qc3] W fun r w' => r = .returned (.bool true) ∧ Below W.heap.size W w') := by
                        intro W hW
                        have := drsame_any ⟨dk, ⟨dek, des, deg, dec⟩, dkey, dpg, ⟨dleaf, dlo, dhi, dr, dl⟩⟩ ⟨dk, ⟨dek, des, deg, dec⟩, dkey, dpg, ⟨dleaf, dlo, dhi, dr, dl⟩⟩ dp q3 dn dn dc qc3 W HOK.out.len HOK.out.len (HOK.out.ens.below (HB8W.out.trans (hW.mono HB8W.out.size)) (Nat.le_refl _)) (hens3.below hW (Nat.le_refl _)) (by have h9 : dn ≤ 1048576 := HME.out; omega)
                        rw [Dl.same_self] at this
                        exact this
                      have HDR : Hid (Below w8.heap.size w8 w8.drew) := (Below.refl _ _).drew
                      clear hov hoc3 hens3
                      go_wp2_with fail
                      go_region_with (go_at_call 14; refine Calls.mono (HDS.out _ HDR.out) ?_; rintro e w9 ⟨rfl, hb9⟩)
                      all_goals
                        have HB9 : Hid (Below w2.heap.size w2 w9) := HB82.out.trans ((HDR.out.trans (hb9.mono HDR.out.size)).mono HB82.out.size)
                        clear hb9 c0 c1 c2 c3 c4 c5 c6 c7 c8 c9 c10 c11 e0 e1 e2 e3 e4 e5 e6 e7 e8 e9 e10 e11 HDS
                        go_wp2
                        go_roundw
                        case rel => exact ⟨k + 1, by omega, by go_num, HB9⟩
                        case measure => simp [intOf]; omega
            · have hki : ¬ (k : Int) < (j : Int) := by omega
              have HP9 : Hid (∀ W, Below w2.heap.size w2 W → Bk W w.heap.size 24 #[.bool pf, .string plo, .string phi, .int .i64 pr, .slice pp pn pc] ∧ Bk W X5 24 #[.bool pf, .string plo, .string phi, .int .i64 pr, .slice c1p pn c1c] ∧ Ens W c1p pl ∧ Below w.heap.size w W) := fun W hW => ⟨HP2.out.below hW HP2.out.lt, HW2.out.below hW HW2.out.lt, HC2.out.below hW (Nat.le_refl _), HB2.out.trans (hW.mono HB2.out.size)⟩
              go_wp2_with fail
              refine (live_any _).mono ?_
              rintro e w9 ⟨rfl, hb9⟩
              have HB9 : Hid (Below w2.heap.size w2 w9) := HBR.out.trans (hb9.mono HBR.out.size)
              clear hb9
              have hp9 := (HP9.out w9 HB9.out).1
              have hw9 := (HP9.out w9 HB9.out).2.1
              have a0 : w9.cell? ⟨w.heap.size, 0, none⟩ = some (.bool pf) := hp9.cell 0
              have a1 : w9.cell? ⟨w.heap.size, 1, none⟩ = some (.string plo) := hp9.cell 1
              have a2 : w9.cell? ⟨w.heap.size, 2, none⟩ = some (.string phi) := hp9.cell 2
              have a3 : w9.cell? ⟨w.heap.size, 3, none⟩ = some (.int .i64 pr) := hp9.cell 3
              have a4 : w9.cell? ⟨w.heap.size, 4, none⟩ = some (.slice pp pn pc) := hp9.cell 4
              have b0 : w9.cell? ⟨X5, 0, none⟩ = some (.bool pf) := hw9.cell 0
              have b1 : w9.cell? ⟨X5, 1, none⟩ = some (.string plo) := hw9.cell 1
              have b2 : w9.cell? ⟨X5, 2, none⟩ = some (.string phi) := hw9.cell 2
              have b3 : w9.cell? ⟨X5, 3, none⟩ = some (.int .i64 pr) := hw9.cell 3
              have b4 : w9.cell? ⟨X5, 4, none⟩ = some (.slice c1p pn c1c) := hw9.cell 4
              clear hp9 hw9
              go_wp2_with fail
              refine Calls.mono (HSM.out w9 c1p c1c (HP9.out w9 HB9.out).2.2.2 (HP9.out w9 HB9.out).2.2.1) ?_
              rintro e w10 ⟨rfl, hb10⟩
              have HF : Hid (Below w.heap.size w w10) := (HP9.out w9 HB9.out).2.2.2.trans (hb10.mono (HP9.out w9 HB9.out).2.2.2.size)
              clear hb10 a0 a1 a2 a3 a4 b0 b1 b2 b3 b4
              go_wp2
              go_ret
              exact ⟨rfl, HF.out⟩


theorem contract_deltaOwn (H : Type) (enc : TypeId × Value → H) (W : World) (base : Nat) (args : Array Value) (ds gs : List (DataW H)) (before : List MemPlace)
    (hval0 : ∀ (j : Nat) t v, Tryz.f3.params[j]? = some t → args[j]? = some v → Value.okWide Tryz.prog W .any base t v)
    (hW : DataW.Whole enc Tryz.prog Tryz.f3.params.toList Rows.deltaOwnSpec.vars false W args.toList ds gs before) (hk : Rows.uptoSmall H (ds ++ gs) = true) :
    Calls Tryz.prog 3 args W fun e W' => ∃ v, e = .returned v ∧ Rows.deltaOwnSpec.post enc Tryz.prog Tryz.f3 false true false false W args v W' := by
  have hval : ∀ (j : Nat) t v, Tryz.f3.params[j]? = some t → args[j]? = some v → Value.okWide Tryz.prog W .any base t v := hval0
  have hW' := hW
  obtain ⟨p, q, hA0, hV, rfl, hfz, hnd⟩ := hW
  have hA : DataW.TrodAll enc Tryz.prog W 0 (fun _ => true) true Tryz.f3.params.toList args.toList ds p := hA0
  rw [Tryz.params3] at hA hval
  obtain ⟨v0, vs0, d0, ds0, p0, q0, hargs, rfl, rfl, h0, r0⟩ := trodAll_cons hA
  obtain ⟨v1, vs1, d1, ds1, p1, q1, rfl, rfl, rfl, h1, r1⟩ := trodAll_cons r0
  obtain ⟨rfl, rfl, rfl⟩ := trodAll_nil r1
  obtain rfl : args = #[v0, v1] := by cases args; simp_all
  obtain ⟨rfl, rfl⟩ := trodVars_none hV
  simp only [List.append_nil] at hk
  have k0 := h0
  have lt0 : ∀ x ∈ p0, x.block < W.heap.size := by obtain ⟨m, hm⟩ := k0; exact DataW.trod_lt m _ _ _ hm
  obtain ⟨b0, lo0, hi0, r0', a0, len0, cap0, l0, e0, w0⟩ : ∃ leaf lo hi r a len cap l, v0 = .agg #[.bool leaf, .string lo, .string hi, .int .i64 r, .slice a len cap] ∧ InE 1048576 W a len cap l := by
    obtain ⟨cs, hcs, _⟩ := okWide_struct Tryz.underlying24 (hval 0 24 v0 rfl rfl)
    obtain ⟨fuel, hf⟩ := h0
    obtain ⟨b, lo, hi, r, a, len, cap, l, hg, ho⟩ := in_page (M := 1048576) hf (page_upto hk (by simp))
    refine ⟨b, lo, hi, r, a, len, cap, l, ?_, ho⟩
    rw [hcs] at hg ⊢
    congr 1
    apply Array.ext'
    simpa [Value.cells] using hg
  subst e0
  obtain ⟨a1, len1, cap1, rfl⟩ := okWide_slice Tryz.underlying25 (hval 1 25 v1 rfl rfl)
  have k1 := h1
  have lt1 : ∀ x ∈ p1, x.block < W.heap.size := by obtain ⟨m, hm⟩ := k1; exact DataW.trod_lt m _ _ _ hm
  obtain ⟨z1, w1⟩ := in_deltas hk (by simp) h1
  clear hA0 hval0
  simp only [List.append_nil] at hW'
  refine (walk_deltaOwn b0 lo0 hi0 r0' a0 len0 cap0 l0 a1 len1 cap1 z1 W w0 w1).mono fun e W' ⟨he, bel⟩ => ?_
  subst he
  exact ⟨_, rfl, _, _, _, [], _, [], hW', trodAll_mk1 (shut_bool Tryz.underlying4 _), (trodAll_cons_mk (Below.trod laidOut (by kernel_rfl) (of_decide_eq_true (by kernel_rfl)) k0 bel lt0) (trodAll_cons_mk (Below.trod laidOut (by kernel_rfl) (of_decide_eq_true (by kernel_rfl)) k1 bel lt1) trodAll_mk0)), rfl, bel.frame _, fun h => by cases h⟩

set_option maxRecDepth 100000 in
set_option maxHeartbeats 2000000 in
theorem lifted_deltaOwn (os : Os) (started : os.Started) (H : Type) (enc : TypeId × Value → H) (F : Stop.Interp) :
    ReturnsInHanded {} Tryz.checked os 3 .any ((Rows.OpenSpec.upto Rows.deltaOwnSpec).pre6 enc Tryz.prog Tryz.f3 Rows.deltaOwnUptoRow.domain false) (((Rows.OpenSpec.upto Rows.deltaOwnSpec).at F).post enc Tryz.prog Tryz.f3 false true false false) := by
  refine returnsInHanded_of_cond (C := Tryz.checked) (s := Rows.OpenSpec.upto Rows.deltaOwnSpec) (k := Rows.uptoSmall) rfl own started (by kernel_rfl) Tryz.func3
    (OpenSpec.witness (enc := enc) (C := Tryz.checked) (s := Rows.OpenSpec.upto Rows.deltaOwnSpec) (k := Rows.uptoSmall) rfl false ⟨#[], #[.agg #[.bool false, .string .empty, .string .empty, .int .i64 0, .slice none 0 0], .slice none 0 0], []⟩ 8 (by kernel_rfl) (by kernel_rfl) (by kernel_rfl)
      (x := ([.agg [.lit (.bool false), .lit (.string []), .lit (.string []), .lit (.int .i64 0), .nil], .nil], [], [])) (by kernel_rfl) rfl (by kernel_rfl)) ?_
  intro W base args ds gs before hval hW _ hk _
  exact contract_deltaOwn H enc W base args ds gs before hval hW hk

/-- The statement. -/
theorem deltaOwn_holds : Rows.DeltaOwnUptoSaid :=
  OpenClaim.holds_of_cond 3 Tryz.f3 rfl rfl rfl rfl rfl rfl rfl ⟨rfl, rfl, rfl, rfl, rfl⟩ rfl rfl rfl rfl rfl (by kernel_rfl) Tryz.func3 (by kernel_rfl)
    (of_decide_eq_true (by kernel_rfl)) (by unfold Func.isWrapper; first | (rw [if_pos (by decide +kernel)]; kernel_rfl) | (rw [if_neg (by decide +kernel)]; exact ⟨rfl, rfl⟩))
    (fun os started H enc _ F => lifted_deltaOwn os started H enc F)
#print axioms deltaOwn_holds
end Go.Proofs.YthpilennljpamaaGreat
