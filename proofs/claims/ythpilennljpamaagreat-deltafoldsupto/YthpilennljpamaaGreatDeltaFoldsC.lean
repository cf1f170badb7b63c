/- Two pages as one (the document's). -/
import Derived.Test.YthpilennljpamaaGreatPgPu
import Derived.Test.YthpilennljpamaaGreatPgRm
import Derived.Test.YthpilennljpamaaGreatPgSq
import Derived.Test.YthpilennljpamaaGreatPgSm
import Derived.Test.YthpilennljpamaaGreatPgMm
import Derived.Test.YthpilennljpamaaGreatDeltaFoldsB
import Derived.ArgAppend
import Derived.Test.YthpilennljpamaaGreatMem
import Derived.Handy
import Derived.BigQuiet
import Derived.Laws.OwnMore
import Derived.Laws.LoneSync
import Derived.Tactics2
import Derived.WalkSmall
import Derived.Maps.AppendAt
import Derived.WalkLawsBesides
import Derived.Test.YthpilennljpamaaGreatDlC
import Derived.Test.YthpilennljpamaaGreatPgCr
import Derived.Test.YthpilennljpamaaGreatRgM
import Derived.Test.YthpilennljpamaaGreatDeltaFoldsA
namespace Go.Proofs.YthpilennljpamaaGreat
open Go.RowKit Go.Sort
set_option linter.unusedVariables false
set_option maxRecDepth 100000

theorem Bk.unlike {w : World} {a b : Nat} {t t' : TypeId} {cs cs' : Array Value} (h : Bk w a t cs) (k : Bk w b t' cs') (ht : t ≠ t') : a ≠ b := by
  intro e
  subst e
  have := (show w.heap[a]? = _ from h).symm.trans (show w.heap[a]? = _ from k)
  simp at this
  exact ht this.2

/-- What turns a page's own block leaves entries. -/
theorem Seg.page {w w' : World} {base : Nat} {p : Option Addr} {len cap b : Nat} {l : List En} {cs : Array Value} (h : Seg w base p len cap l) (k : Bk w b 24 cs) (t : Tn [b] w w') : Seg w' base p len cap l := by
  refine ⟨h.lenq, h.le, ?_⟩
  rcases h.form with hn | ⟨g, o, cur, hp, hb, hg, rest⟩
  · exact .inl hn
  · exact .inr ⟨g, o, cur, hp, hb, hg.tn t (by simpa using hg.unlike k (by decide)), rest⟩

/-- Nothing has turned but rows of entries from m0 on and ahead of D, which are as long as they were. -/
structure Wq (m0 D : Nat) (w w' : World) : Prop where
  os : w'.os = w.os
  tape : w'.tape = w.tape
  output : w'.output = w.output
  size : w.heap.size ≤ w'.heap.size
  block : ∀ k, k < w.heap.size → w'.heap[k]? = w.heap[k]? ∨ (m0 ≤ k ∧ k < D ∧ ∃ cur cur', Bk w k 30 cur ∧ Bk w' k 30 cur' ∧ cur'.size = cur.size)

theorem Wq.refl (m0 D : Nat) (w : World) : Wq m0 D w w := ⟨rfl, rfl, rfl, Nat.le_refl _, fun _ _ => .inl rfl⟩

theorem Wq.trans {m0 D : Nat} {a b c : World} (h : Wq m0 D a b) (k : Wq m0 D b c) : Wq m0 D a c := by
  refine ⟨k.os.trans h.os, k.tape.trans h.tape, k.output.trans h.output, Nat.le_trans h.size k.size, fun i hi => ?_⟩
  have hib := Nat.lt_of_lt_of_le hi h.size
  rcases h.block i hi with h1 | ⟨h1, h2, cur, cur', h3, h4, h5⟩
  · rcases k.block i hib with k1 | ⟨k1, k2, cur2, cur3, k3, k4, k5⟩
    · exact .inl (k1.trans h1)
    · exact .inr ⟨k1, k2, cur2, cur3, (h1.symm.trans k3 : a.heap[i]? = _), k4, k5⟩
  · rcases k.block i hib with k1 | ⟨k1, k2, cur2, cur3, k3, k4, k5⟩
    · exact .inr ⟨h1, h2, cur, cur', h3, (k1.trans h4 : c.heap[i]? = _), h5⟩
    · have e : cur' = cur2 := by
        have := (show b.heap[i]? = _ from h4).symm.trans (show b.heap[i]? = _ from k3)
        simpa using this
      subst e
      exact .inr ⟨h1, h2, cur, cur3, h3, k4, k5.trans h5⟩

theorem Wq.of_below {m0 D : Nat} {w w' : World} (h : Below w.heap.size w w') : Wq m0 D w w' := ⟨h.os, h.tape, h.output, h.size, fun k hk => .inl (h.block k hk)⟩

theorem Wq.below {m0 D : Nat} {w w' : World} (h : Wq m0 D w w') (hm : m0 ≤ w.heap.size) : Below m0 w w' := by
  refine ⟨h.os, h.tape, h.output, h.size, fun k hk => ?_⟩
  rcases h.block k (by omega) with h1 | ⟨h1, _⟩
  · exact h1
  · omega

theorem Wq.bk {m0 D : Nat} {w w' : World} (h : Wq m0 D w w') {b : Nat} {t : TypeId} {cs : Array Value} (k : Bk w b t cs) (hb : D ≤ b) : Bk w' b t cs := by
  rcases h.block b k.lt with h1 | ⟨_, h2, _⟩
  · exact h1.trans k
  · omega

theorem Wq.row {m0 D g : Nat} {w : World} {cur cur' : Array Value} (k : Bk w g 30 cur) (hm : m0 ≤ g) (hD : g < D) (hs : cur'.size = cur.size) : Wq m0 D w (w.setRow g cur') := by
  have t : Tn [g] w (w.setRow g cur') := (Tn.refl [g] w).setRow (.inl (by simp)) cur'
  refine ⟨t.os, t.tape, t.output, t.size, fun i hi => ?_⟩
  by_cases hig : i = g
  · subst hig
    exact .inr ⟨hm, hD, cur, cur', k, k.setRow cur', hs⟩
  · exact .inl (t.block i hi (by simpa using hig))

theorem Wq.cell {m0 D g i : Nat} {w : World} {cur : Array Value} (k : Bk w g 30 cur) (hm : m0 ≤ g) (hD : g < D) (u : Value) : Wq m0 D w (w.setCell ⟨g, i, none⟩ u) := by
  have t : Tn [g] w (w.setCell ⟨g, i, none⟩ u) := (Tn.refl [g] w).setCell (.inl (by simp)) u
  refine ⟨t.os, t.tape, t.output, t.size, fun j hj => ?_⟩
  by_cases hig : j = g
  · subst hig
    exact .inr ⟨hm, hD, cur, _, k, k.set i u, by simp⟩
  · exact .inl (t.block j hj (by simpa using hig))

/-- A row that may be spoilt: it lies from m0 on and ahead of D. -/
def SpE (m0 D : Nat) (p : Option Addr) (n cap : Nat) (w : World) : Prop :=
  n ≤ cap ∧ ((p = none ∧ n = 0 ∧ cap = 0) ∨ ∃ g o cur, p = some ⟨g, o, none⟩ ∧ m0 ≤ g ∧ g < D ∧ Bk w g 30 cur ∧ o + cap * 4 ≤ cur.size)

theorem Seg.sp {w : World} {base m0 D : Nat} {p : Option Addr} {len cap : Nat} {l : List En} (h : Seg w base p len cap l) (hb : m0 ≤ base) (hD : w.heap.size ≤ D) : SpE m0 D p len cap w := by
  refine ⟨h.le, ?_⟩
  rcases h.form with hn | ⟨g, o, cur, hp, hbb, hg, hs, _⟩
  · exact .inl hn
  · exact .inr ⟨g, o, cur, hp, by omega, Nat.lt_of_lt_of_le hg.lt hD, hg, hs⟩

theorem SpE.wq {m0 D : Nat} {p : Option Addr} {n cap : Nat} {w w' : World} (h : SpE m0 D p n cap w) (k : Wq m0 D w w') : SpE m0 D p n cap w' := by
  obtain ⟨h0, h1⟩ := h
  refine ⟨h0, ?_⟩
  rcases h1 with hn | ⟨g, o, cur, hp, hm, hD, hg, hs⟩
  · exact .inl hn
  · rcases k.block g hg.lt with k1 | ⟨k1, k2, cur2, cur3, k3, k4, k5⟩
    · exact .inr ⟨g, o, cur, hp, hm, hD, k1.trans hg, hs⟩
    · have e : cur = cur2 := by
        have := (show w.heap[g]? = _ from hg).symm.trans (show w.heap[g]? = _ from k3)
        simpa using this
      subst e
      exact .inr ⟨g, o, cur3, hp, hm, hD, k4, by omega⟩

theorem SpE.up {m0 D : Nat} {p : Option Addr} {n cap : Nat} {w w' : World} (h : SpE m0 D p n cap w) (k : Below w.heap.size w w') : SpE m0 D p n cap w' := h.wq (Wq.of_below k)

theorem SpE.at {m0 D : Nat} {p : Option Addr} {n cap : Nat} {w : World} (h : SpE m0 D p n cap w) {i : Nat} (hi : i < n) : ∃ g o u, p = some ⟨g, o, none⟩ ∧ w.cell? ⟨g, o + i * 4, none⟩ = some u ∧ w.frozen? ⟨g, o + i * 4, none⟩ = false ∧ ∀ x, Wq m0 D w (w.setCell ⟨g, o + i * 4, none⟩ x) := by
  obtain ⟨h0, h1⟩ := h
  rcases h1 with ⟨_, hn, _⟩ | ⟨g, o, cur, hp, hm, hD, hg, hs⟩
  · omega
  · have hlt : o + i * 4 < cur.size := by omega
    exact ⟨g, o, cur[o + i * 4], hp, by rw [hg.cell]; simp [hlt], hg.frozen _, fun x => Wq.cell hg hm hD x⟩

theorem own_slice {w : World} {base : Nat} {e : TypeId} {size : Nat} {v : Value} {n : Nat} {xs : List Value} (h : w.ownsRow base e size v n xs) : ∃ q k c, v = .slice q k c := by
  rcases h.2 with ⟨hv, _⟩ | ⟨g, cap, cur, hv, _⟩
  · exact ⟨_, _, _, hv⟩
  · exact ⟨_, _, _, hv⟩

/-- An entry is put behind such a row, wherever it comes to lie. -/
theorem SpE.app {m0 D : Nat} {p : Option Addr} {n cap : Nat} {w : World} (h : SpE m0 D p n cap w) (hn : n ≤ 4194304) {E : Nat} {x0 x1 x2 x3 : Value} (hE : Bk w E 30 #[x0, x1, x2, x3]) (h1 : ∀ u ∈ [x0, x1, x2, x3], u.oneCell' = true) (ty : TypeId) :
    ∃ q k c w', (Builtin.append_ #[22, 22] ty #[.slice p n cap, .slice (some ⟨E, 0, none⟩) 1 1]).run Tryz.prog w = .ok (.slice q k c) w' ∧ Wq m0 D w w' := by
  obtain ⟨i0, hi0, hz0, hz1, hz2⟩ := en_info
  have hnews : ∀ j u, [x0, x1, x2, x3][j]? = some u → w.cell? ((⟨E, 0, none⟩ : Addr).add j) = some u := by
    intro j u hu
    rw [Addr.add_lit, Nat.zero_add, hE.cell]
    simpa using hu
  obtain ⟨hle, hf⟩ := h
  rcases hf with ⟨rfl, rfl, rfl⟩ | ⟨g, o, cur, rfl, hm, hD, hg, hs⟩
  · obtain ⟨v', w', hr, how, hgr, _, _⟩ := run_append_own_at (P := Tryz.prog) w 0 22 ty 30 i0 _ 4 40 Tryz.underlying22 hi0 hz0 hz1 hz2 rfl (by decide) (.slice none 0 0) 0 [] (World.ownsRow_nil _ _ _ _) ⟨E, 0, none⟩ 1 1 [x0, x1, x2, x3] rfl hnews h1 (by unfold maxLen; omega) (by omega) (Nat.zero_le _)
    obtain ⟨q, k, c, rfl⟩ := own_slice how
    exact ⟨q, k, c, w', hr, Wq.of_below ((Below.refl _ w).grown hgr (Nat.le_refl _) (fun k hk => by cases hk))⟩
  · by_cases hroom : n + 1 ≤ cap
    · have hload := run_loadCells_list (P := Tryz.prog) w ⟨E, 0, none⟩ [x0, x1, x2, x3] hnews
      have hst := run_storeCells_at Tryz.prog g (o + n * 4) 30 [x0, x1, x2, x3] 0 cur w hg (by simp; omega) h1
      refine ⟨some ⟨g, o, none⟩, n + 1, cap, _, ?_, Wq.row hg hm hD (cur' := (cur.toList.take (o + n * 4) ++ [x0, x1, x2, x3] ++ cur.toList.drop (o + n * 4 + 4)).toArray) (by simp; omega)⟩
      have hfc := run_firstCells_some (P := Tryz.prog) w i0.size 1 ⟨E, 0, none⟩ 1 1 [x0, x1, x2, x3] (by rw [hz1]; rfl) hnews
      simp at hst
      rw [hz1] at hfc
      simp [Builtin.append_, run_underlying Tryz.underlying22, sizeOf, typeInfo, hi0, Builtin.lenOf, hroom, hfc, Addr.add_lit, hz1, hst]
    · obtain ⟨v', w', hr, how, hgr⟩ := run_append_arg_grows (P := Tryz.prog) w 22 ty 30 i0 _ 4 40 Tryz.underlying22 hi0 hz0 hz1 hz2 rfl (by decide) ⟨g, o, none⟩ n cap ((List.range (n * 4)).map fun j => cur.getD (o + j) undef) (by simp) (fun j u hu => by
        rw [List.getElem?_map] at hu
        simp only [Option.map_eq_some_iff] at hu
        obtain ⟨k, hk, rfl⟩ := hu
        have hkj : k = j ∧ j < n * 4 := by
          obtain ⟨h1, h2⟩ := List.getElem?_eq_some_iff.1 hk
          simp at h1 h2
          exact ⟨h2.symm, h1⟩
        obtain ⟨rfl, hj⟩ := hkj
        rw [Addr.add_lit, hg.cell]
        have : o + k < cur.size := by omega
        simp [this]) ⟨E, 0, none⟩ 1 1 [x0, x1, x2, x3] rfl hnews (by omega) (by unfold maxLen; omega) (by omega)
      obtain ⟨q, k, c, rfl⟩ := own_slice how
      exact ⟨q, k, c, w', hr, Wq.of_below ((Below.refl _ w).grown hgr (Nat.le_refl _) (fun k hk => by cases hk))⟩

theorem Wq.fresh {m0 D : Nat} {w w' : World} (h : Wq m0 D w w') {X : Nat} (hX : w.heap.size ≤ X) (i : Nat) (u : Value) : Wq m0 D w (w'.setCell ⟨X, i, none⟩ u) := by
  have t : Tn [X] w' (w'.setCell ⟨X, i, none⟩ u) := (Tn.refl [X] w').setCell (.inl (by simp)) u
  refine ⟨t.os.trans h.os, t.tape.trans h.tape, t.output.trans h.output, Nat.le_trans h.size t.size, fun k hk => ?_⟩
  have hkx : k ∉ [X] := by simp; omega
  have e := t.block k (Nat.lt_of_lt_of_le hk h.size) hkx
  rcases h.block k hk with h1 | ⟨h1, h2, cur, cur', h3, h4, h5⟩
  · exact .inl (e.trans h1)
  · exact .inr ⟨h1, h2, cur, cur', h3, h4.tn t hkx, h5⟩

theorem Pg.put_len (g : Pp) (e : En) : (Pg.put g e).1.l.length ≤ g.l.length + 1 := by
  unfold Pg.put
  split
  · show (Pg.putL g.l e).length ≤ _
    unfold Pg.putL
    split
    · simp
    · unfold Pg.ins
      simp
      omega
  · exact Nat.zero_le _

theorem Pg.remove_len (g : Pp) (key : ByteArray) : (Pg.remove g key).1.l.length ≤ g.l.length := by
  unfold Pg.remove
  split
  · show (Pg.del _ _).length ≤ _
    unfold Pg.del
    simp
    omega
  · exact Nat.zero_le _

theorem Pg.split_len (g : Pp) (id : Int) : (Pg.split g id).1.l.length ≤ g.l.length ∧ (Pg.split g id).2.1.l.length ≤ g.l.length := by
  unfold Pg.split
  split
  · exact ⟨Nat.zero_le _, Nat.zero_le _⟩
  · split
    · exact ⟨Nat.zero_le _, Nat.zero_le _⟩
    · cases Pg.part g.leaf (Pg.keyAt g.l (g.l.length / 2 - 1)) (Pg.keyAt g.l (g.l.length / 2)) with
      | none => exact ⟨Nat.zero_le _, Nat.zero_le _⟩
      | some m => exact ⟨by simp; omega, by simp⟩

theorem Pg.merge_len (a b : Pp) : (Pg.merge a b).1.l.length ≤ a.l.length + b.l.length := by
  unfold Pg.merge
  split
  · simp
  · exact Nat.zero_le _

/-- A page that was answered, its parts by name. -/
theorem PgAt.segs {w : World} {base : Nat} {v : Value} {g : Pp} (h : PgAt w base v g) : ∃ f lo hi r p n c l, g = ⟨f, lo, hi, r, l⟩ ∧ v = pgv f lo hi r p n c ∧ Seg w base p n c l := by
  obtain ⟨p, c, hv, hs⟩ := h
  obtain ⟨f, lo, hi, r, l⟩ := g
  exact ⟨f, lo, hi, r, p, l.length, c, l, rfl, hv, hs⟩
end Go.Proofs.YthpilennljpamaaGreat

namespace Go.Proofs.YthpilennljpamaaGreat
open Go.RowKit
set_option linter.unusedVariables false
set_option maxRecDepth 100000

theorem Tn.grown' {S : List Nat} {w w' : World} {row : Option Nat} (h : Tn S w w') (hS : ∀ x ∈ S, row = some x) : w.grownBy w' row :=
  ⟨h.os, h.tape, h.output, h.size, fun k hk hn => h.block k hk (fun hm => hn (hS k hm).symm)⟩

theorem grown_tn {W W' : World} {row : Option Nat} (hg : W.grownBy W' row) : Tn row.toList W W' :=
  ⟨hg.os, hg.tape, hg.output, hg.size, fun k hk hn => hg.block k hk (fun e => hn (by rw [← e]; simp))⟩

theorem opt_toList {x : Option Nat} {k : Nat} : k ∈ x.toList ↔ x = some k := by cases x <;> simp [eq_comm]

/-- A row that no block of S holds stays. -/
theorem owns_tn {S : List Nat} {w w' : World} {base size n : Nat} {e : TypeId} {v : Value} {xs : List Value} (h : w.ownsRow base e size v n xs) (ht : Tn S w w') (hn : ∀ k, v.ownBlock = some k → k ∉ S) : w'.ownsRow base e size v n xs := by
  refine ⟨h.1, ?_⟩
  rcases h.2 with hv | ⟨g, cap, cur, rfl, hb, hgg, rest⟩
  · exact .inl hv
  · exact .inr ⟨g, cap, cur, rfl, hb, (ht.block g (Array.getElem?_eq_some_iff.1 hgg).1 (hn g rfl)).trans hgg, rest⟩

/-- A row's block is the elder one's, or new. -/
def Nw (w : World) (v v' : Value) : Prop := ∀ k, v'.ownBlock = some k → v.ownBlock = some k ∨ w.heap.size ≤ k

theorem row_block {w : World} {base size n : Nat} {e : TypeId} {v : Value} {xs : List Value} (h : w.ownsRow base e size v n xs) : ∀ k, v.ownBlock = some k → k < w.heap.size := fun k hk => (World.ownsRow.lt h k hk).2

theorem news_alloc (w : World) (cs : List Value) (t : TypeId) : ∀ ad, some (⟨w.heap.size, 0, none⟩ : Addr) = some ad → ∀ j u, cs[j]? = some u → (w.alloc (.cells cs.toArray t)).cell? (ad.add j) = some u := by
  intro ad had j u hu
  cases had
  rw [show (⟨w.heap.size, 0, none⟩ : Addr).add j = ⟨w.heap.size, j, none⟩ by unfold Addr.add; split <;> simp_all]
  rw [(Bk.new w t cs.toArray).cell j]
  simpa using hu

theorem row_some {w : World} {base : Nat} {e : TypeId} {size : Nat} {v : Value} {n : Nat} {xs : List Value} (h : w.ownsRow base e size v n xs) (hn : 0 < n) : ∃ g k, v = .slice (some ⟨g, 0, none⟩) n k := by
  rcases h.2 with ⟨_, h0⟩ | ⟨g, cap, cur, hv, _⟩
  · omega
  · exact ⟨g, cap, hv⟩

theorem row_form {w : World} {base : Nat} {e : TypeId} {size : Nat} {v : Value} {n : Nat} {xs : List Value} (h : w.ownsRow base e size v n xs) : ∃ p k, v = .slice p n k ∧ n ≤ k := by
  rcases h.2 with ⟨hv, hn⟩ | ⟨g, cap, cur, hv, _, _, h1, h2, _⟩
  · exact ⟨none, 0, by rw [hv, hn], by omega⟩
  · exact ⟨_, cap, hv, h1⟩

theorem appX {ops : Array Oper} {rest : List Oper} {o : Oper} {a : Act} {Q : Exit → Act → World → Prop} (w : World) (hw : Region.wanted o (yielded ops a.tmps) = true) (s x : Operand) (t : TypeId)
    (ho : o.op = .call { callee := .builtin .append, args := #[s, x], argTypes := #[t, t] })
    (e : TypeId) (z : Value) (size bytes : Nat) (ht : Tryz.prog.underlying t = some (.slice e)) (hinfo : (Tryz.prog.info? e).map (fun i => (i.zero, i.size, i.bytes)) = some (some z, size, bytes)) (hzs : z.cells.size = size) (hsz : 0 < size)
    (v : Value) (n : Nat) (xs : List Value) (hs : a.eval s = v) (hown : w.ownsRow 0 e size v n xs)
    (q : Option Addr) (m c : Nat) (news : List Value) (hx : a.eval x = .slice q m c) (hl : news.length = m * size) (hnews : ∀ ad, q = some ad → ∀ j u, news[j]? = some u → w.cell? (ad.add j) = some u) (h1 : ∀ u ∈ news, u.oneCell' = true) (hq : q = none → m = 0 ∧ c = 0)
    (h63 : n + m ≤ maxLen) (hbytes : (n + m) * bytes ≤ 140737488355328)
    (h : ∀ v' w', w'.ownsRow 0 e size v' (n + m) (xs ++ news) → w.grownBy w' v.ownBlock → (v'.ownBlock = v.ownBlock ∨ v'.ownBlock = some w.heap.size) → wpList Tryz.prog ops Q rest (a.put o.dst v') w') : wpList Tryz.prog ops Q (o :: rest) a w := by
  obtain ⟨i0, hi, hz0, hz1, hz2⟩ := info_parts hinfo
  cases q with
  | some ad =>
    obtain ⟨v', w', hr, h2, h3, _, h5⟩ := run_append_own_at (P := Tryz.prog) w 0 t o.type e i0 z size bytes ht hi hz0 hz1 hz2 hzs hsz v n xs hown ad m c news hl (hnews ad rfl) h1 h63 hbytes (Nat.zero_le _)
    refine BigFrame.wpList_want hw fun _ hK => ?_
    unfold Oper.wp execOp
    simp only [ho, resolve, invoke, builtin, Sem.run_bind, Sem.run_pure, Result.andThen_ok, List.map_toArray, List.map_cons, List.map_nil, hs, hx, hr]
    exact hK _ _ (h v' w' h2 h3 h5)
  | none =>
    obtain ⟨rfl, rfl⟩ := hq rfl
    obtain rfl : news = [] := List.eq_nil_of_length_eq_zero (by omega)
    refine BigFrame.wpList_want hw fun K hK => ?_
    have hrun := run_append_owned_none (P := Tryz.prog) (w := w) 0 t o.type e i0 size ht hi v n xs hown
    unfold Oper.wp
    simp [execOp, ho, resolve, invoke, builtin, hs, hx, hrun, Result.andThen]
    exact hK _ _ (by simpa using h v w (by simpa using hown) (World.grownBy.refl _ _) (Or.inl rfl))

theorem stepX {ops : Array Oper} {o : Oper} {a : Act} {w : World} {K : Act → World → Prop} {Q : Exit → Act → World → Prop} {E : Prop}
    (hg : o.guard = none) (s x : Operand) (t : TypeId) (ho : o.op = .call { callee := .builtin .append, args := #[s, x], argTypes := #[t, t] })
    (e : TypeId) (z : Value) (size bytes : Nat) (ht : Tryz.prog.underlying t = some (.slice e)) (hinfo : (Tryz.prog.info? e).map (fun i => (i.zero, i.size, i.bytes)) = some (some z, size, bytes)) (hzs : z.cells.size = size) (hsz : 0 < size)
    (v : Value) (n : Nat) (xs : List Value) (hs : a.eval s = v) (hown : w.ownsRow 0 e size v n xs)
    (ad : Addr) (m c : Nat) (news : List Value) (hx : a.eval x = .slice (some ad) m c) (hl : news.length = m * size) (hnews : ∀ j u, news[j]? = some u → w.cell? (ad.add j) = some u) (h1 : ∀ u ∈ news, u.oneCell' = true)
    (h63 : n + m ≤ maxLen) (hbytes : (n + m) * bytes ≤ 140737488355328)
    (hK : ∀ v' w', w'.ownsRow 0 e size v' (n + m) (xs ++ news) → w.grownBy w' v.ownBlock → (v'.ownBlock = v.ownBlock ∨ v'.ownBlock = some w.heap.size) → K (a.put o.dst v') w') :
    if Region.wanted o (yielded ops a.tmps) = true then Oper.wp Tryz.prog o a w K Q else E := by
  obtain ⟨i0, hi, hz0, hz1, hz2⟩ := info_parts hinfo
  have hw : Region.wanted o (yielded ops a.tmps) = true := by simp [Region.wanted, hg]
  rw [if_pos hw]
  obtain ⟨v', w', hr, h2, h3, h4, h5⟩ := run_append_own_at (P := Tryz.prog) w 0 t o.type e i0 z size bytes ht hi hz0 hz1 hz2 hzs hsz v n xs hown ad m c news hl hnews h1 h63 hbytes (Nat.zero_le _)
  unfold Oper.wp execOp
  simp only [ho, resolve, invoke, builtin, Sem.run_bind, Sem.run_pure, Result.andThen_ok, List.map_toArray, List.map_cons, List.map_nil, hs, hx, hr]
  exact hK v' w' h2 h3 h5

end Go.Proofs.YthpilennljpamaaGreat

namespace Go.Proofs.YthpilennljpamaaGreat
open Go.RowKit Go.Sort
set_option linter.unusedVariables false
set_option maxRecDepth 100000

theorem rows_le : ∀ (ds : List De), (∀ d ∈ ds, d.rt.l.length ≤ 1048576) → (rowsOf ds).length ≤ ds.length * 1048576
  | [], _ => by simp [rowsOf]
  | d :: r, h => by
    have h1 := rows_le r fun x hx => h x (by simp [hx])
    have h2 := h d (by simp)
    have e : rowsOf (d :: r) = d.rt.l ++ rowsOf r := by simp [rowsOf]
    rw [e, List.length_append, List.length_cons]
    omega
theorem texts_len (ds : List De) : (textsOf ds).length = ds.length * 2 := by
  induction ds with
  | nil => rfl
  | cons d r ih =>
    have e : textsOf (d :: r) = [d.key.toList, d.e.key.toList] ++ textsOf r := by simp [textsOf]
    rw [e, List.length_append, ih, List.length_cons]
    simp
    omega
theorem ents_le : ∀ (ds : List De) (pl : List En), (∀ d ∈ ds, d.rt.l.length ≤ 1048576) → (entsL pl ds).length ≤ pl.length + ds.length * 1048577
  | [], pl, _ => by simp [entsL]
  | d :: r, pl, h => by
    have h1 := ents_le r (entS pl d) fun x hx => h x (by simp [hx])
    have h2 := h d (by simp)
    have h3 := Dl.entS_le pl d
    have e : entsL pl (d :: r) = entsL (entS pl d) r := by simp [entsL]
    rw [e, List.length_cons]
    omega

theorem fit_small {pl : List En} {ds : List De} (hp : pl.length ≤ 1048576) (hd : ds.length ≤ 1048576) (h : ∀ d ∈ ds, d.rt.l.length ≤ 1048576) : Fit pl ds := by
  have h1 := rows_le ds h
  have h2 := texts_len ds
  have h3 := ents_le ds pl h
  have h4 : ds.length * 1048576 ≤ 1048576 * 1048576 := Nat.mul_le_mul_right _ hd
  have h5 : ds.length * 1048577 ≤ 1048576 * 1048577 := Nat.mul_le_mul_right _ hd
  refine ⟨by rw [List.length_append]; omega, ?_, by omega⟩
  unfold allTexts
  rw [List.length_append, List.length_map, List.length_append]
  omega

theorem fo_len {g : Pp} {ds : List De} (hp : g.l.length ≤ 1048576) (hd : ds.length ≤ 1048576) (h : ∀ d ∈ ds, d.rt.l.length ≤ 1048576) : (Dl.fo g ds).1.l.length ≤ 4611686018427387904 := by
  by_cases h0 : (Dl.fo g ds).2 = 0
  · rw [(Dl.fo_ok g ds h0).1]
    have h3 := ents_le ds g.l h
    have h5 : ds.length * 1048577 ≤ 1048576 * 1048577 := Nat.mul_le_mul_right _ hd
    omega
  · rw [Dl.fo_zero g ds h0]
    exact Nat.zero_le _
theorem apply_len {g : Pp} {d : De} (hp : g.l.length ≤ 1048576) (h : d.rt.l.length ≤ 1048576) : (Dl.apply g d).1.l.length ≤ 4611686018427387904 := by
  have e : Dl.fo g [d] = Dl.apply g d := by simp [Dl.fo, Dl.ap]
  rw [← e]
  exact fo_len hp (by simp) (by simpa using h)

theorem dlinfo : (Tryz.prog.info? 32).map (fun i => (i.zero, i.size, i.bytes)) = some (some (.agg #[.int .i64 0, .string ⟨#[]⟩, .int .i64 0, .int .i64 0, .int .i64 0, .string ⟨#[]⟩, .int .i64 0, .bool false, .string ⟨#[]⟩, .string ⟨#[]⟩, .int .i64 0, .slice none 0 0]), 12, 144) := by kernel_rfl

def dms (L : List Dm) : List Value := L.flatMap Dm.cells
theorem dms_app (a b : List Dm) : dms (a ++ b) = dms a ++ dms b := by simp [dms]
theorem dms_len (L : List Dm) : (dms L).length = L.length * 12 := by
  induction L with
  | nil => rfl
  | cons x r ih => simp only [dms, List.flatMap_cons, List.length_append, List.length_cons] at *; rw [ih]; simp [Dm.cells]; omega
theorem dms_at : ∀ (l : List Dm) (i j : Nat) (m : Dm), l[i]? = some m → j < 12 → (dms l)[i * 12 + j]? = m.cells[j]?
  | [], i, j, f, h, _ => by simp at h
  | x :: r, 0, j, f, h, hj => by
    simp at h
    subst h
    simp only [dms, List.flatMap_cons, Nat.zero_mul, Nat.zero_add]
    rw [List.getElem?_append_left (by simpa [Dm.cells] using hj)]
  | x :: r, i + 1, j, f, h, hj => by
    simp only [dms, List.flatMap_cons]
    rw [List.getElem?_append_right (by simp [Dm.cells]; omega)]
    have e : (i + 1) * 12 + j - x.cells.length = i * 12 + j := by simp [Dm.cells]; omega
    rw [e]
    exact dms_at r i j f (by simpa using h) hj
theorem dm_one (m : Dm) : ∀ u ∈ m.cells, u.oneCell' = true := by
  intro u hu
  simp only [Dm.cells, List.mem_cons, List.not_mem_nil, or_false] at hu
  rcases hu with rfl | rfl | rfl | rfl | rfl | rfl | rfl | rfl | rfl | rfl | rfl | rfl <;> rfl

theorem Seg.other {w w' : World} {base : Nat} {p : Option Addr} {len cap : Nat} {l : List En} {row : Option Nat} (h : Seg w base p len cap l) (t : w.grownBy w' row) (hS : ∀ b, row = some b → ∃ cs, Bk w b 32 cs) : Seg w' base p len cap l := by
  refine h.keep fun g o hg => ?_
  have hlt := (h.lt hg).2
  refine t.block g hlt fun e => ?_
  obtain ⟨cs, hc⟩ := hS g e.symm
  rcases h.form with ⟨hn, _⟩ | ⟨g', o', cur, hp, _, hk, _⟩
  · rw [hn] at hg; cases hg
  · rw [hp] at hg
    cases hg
    unfold Bk at hc hk
    rw [hc] at hk
    simp at hk

/-- The clones so far. -/
structure Old (w1 wr : World) (ov : Value) (j : Nat) (L L' : List Dm) : Prop where
  row : wr.ownsRow w1.heap.size 32 12 ov j (dms L')
  len : L'.length = j
  same : L'.map (·.d) = (L.take j).map (·.d)
  each : ∀ m ∈ L', m.d.rt.l.length = m.n ∧ Seg wr w1.heap.size m.p m.n m.c m.d.rt.l
  bel : Below w1.heap.size w1 wr

theorem Old.start (w1 : World) (L : List Dm) : Old w1 w1 (.slice none 0 0) 0 L [] := ⟨World.ownsRow_nil _ _ _ _, rfl, rfl, by simp, Below.refl _ _⟩

/-- One more. -/
theorem Old.next {w1 wr W w' : World} {ov v' : Value} {j : Nat} {L L' : List Dm} (h : Old w1 wr ov j L L') {m : Dm} (hm : L[j]? = some m) (hW : Below wr.heap.size wr W) {q : Option Addr} {qc base : Nat} (hb : w1.heap.size ≤ base) (hlen : m.d.rt.l.length = m.n) (ho : OwnE W base (.slice q m.n qc) m.d.rt.l)
    {o : Obj} (hr : w'.ownsRow w1.heap.size 32 12 v' (j + 1) (dms L' ++ (⟨m.d, q, m.n, qc⟩ : Dm).cells)) (hg : (W.alloc o).grownBy w' ov.ownBlock) : Old w1 w' v' (j + 1) L (L' ++ [⟨m.d, q, m.n, qc⟩]) := by
  have hrow : ∀ b, ov.ownBlock = some b → ∃ cs, Bk (W.alloc o) b 32 cs := by
    intro b hb'
    rcases h.row.2 with ⟨rfl, _⟩ | ⟨g, cap, cur, rfl, _, hg', _⟩
    · cases hb'
    · simp only [Value.ownBlock, Option.some.injEq] at hb'
      subst hb'
      have hk : Bk wr g 32 cur := hg'
      exact ⟨cur, (hk.below hW hk.lt).alloc o⟩
  have hs := h.bel.size
  have hs2 := hW.size
  refine ⟨?_, by simp [h.len], ?_, fun x hx => ?_, ?_⟩
  · rw [dms_app]
    have e : dms [(⟨m.d, q, m.n, qc⟩ : Dm)] = (⟨m.d, q, m.n, qc⟩ : Dm).cells := by simp [dms]
    rw [e]
    exact hr
  · rw [List.take_add_one, hm]
    simp [h.same]
  · rcases List.mem_append.1 hx with hx | hx
    · obtain ⟨h1, h2⟩ := h.each x hx
      exact ⟨h1, ((h2.below hW (Nat.le_refl _)).below ((Below.refl _ W).alloc (Nat.le_refl _) o) (Nat.le_refl _)).other hg hrow⟩
    · simp at hx
      subst hx
      exact ⟨hlen, ((ho.seg.mono hb).below ((Below.refl _ W).alloc (Nat.le_refl _) o) (Nat.le_refl _)).other hg hrow⟩
  · have b1 := h.bel.trans (hW.mono hs)
    have b2 : Below w1.heap.size w1 (W.alloc o) := b1.alloc b1.size o
    exact b2.grown hg b2.size fun k hk => (World.ownsRow.lt h.row k hk).1

/-- What a clone in the row is, later on. -/
theorem Old.at {w1 wr W : World} {ov : Value} {j : Nat} {L L' : List Dm} (h : Old w1 wr ov j L L') (hW : Below wr.heap.size wr W) {i : Nat} {m : Dm} (hi : i < j) (hm : L[i]? = some m) (hmn : m.d.rt.l.length = m.n) :
    ∃ G k q qc, ov = .slice (some ⟨G, 0, none⟩) j k ∧ (∀ t u, (⟨m.d, q, m.n, qc⟩ : Dm).cells[t]? = some u → W.cell? ⟨G, i * 12 + t, none⟩ = some u) ∧ Ens W q m.d.rt.l := by
  obtain ⟨m', hm'⟩ : ∃ m', L'[i]? = some m' := ⟨_, List.getElem?_eq_getElem (by rw [h.len]; exact hi)⟩
  have hd : m'.d = m.d := by
    have h1 : (L'.map (·.d))[i]? = some m'.d := by simp [hm']
    rw [h.same] at h1
    have h2 : ((L.take j).map (·.d))[i]? = some m.d := by rw [List.getElem?_map, List.getElem?_take_of_lt hi, hm]; rfl
    rw [h2] at h1
    simpa using h1.symm
  obtain ⟨e1, e2⟩ := h.each m' (List.mem_of_getElem? hm')
  obtain ⟨G, k, hv⟩ := row_some h.row (by omega)
  have hn : m'.n = m.d.rt.l.length := by rw [← e1, hd]
  have hrow := h.row
  rw [hv] at hrow
  have hlt : G < wr.heap.size := row_block hrow G rfl
  obtain ⟨dd, dp, dn, dc⟩ := m'
  simp only at hd hn e1 e2
  subst hd
  obtain rfl : dn = m.n := by rw [hn, hmn]
  refine ⟨G, k, dp, dc, hv, fun t u hu => ?_, ?_⟩
  · have ht : t < 12 := by
      have := (List.getElem?_eq_some_iff.1 hu).1
      simpa [Dm.cells] using this
    have e : W.heap[G]? = wr.heap[G]? := hW.block G hlt
    rw [World.cell?_of_block (a := ⟨G, i * 12 + t, none⟩) e, World.ownsRow.cellAt hrow (i * 12 + t) (by omega)]
    rw [dms_at L' i t _ hm' ht]
    exact hu
  · exact e2.ens.below hW (Nat.le_refl _)

end Go.Proofs.YthpilennljpamaaGreat

namespace Go.Proofs.YthpilennljpamaaGreat
open Go.RowKit Go.Sort
set_option linter.unusedVariables false
set_option linter.unusedSimpArgs false
set_option maxRecDepth 100000

set_option maxHeartbeats 4000000 in
theorem rbare_1 (aek : ByteArray) (aes aeg aec : Int) (akey : ByteArray) (apg : Int) (aleaf : Bool) (alo ahi : ByteArray) (ar : Int) (ap : Option Addr) (an ac : Nat) (w : World) :
    Calls Tryz.prog 50 #[.agg #[.int .i64 1, .string aek, .int .i64 aes, .int .i64 aeg, .int .i64 aec, .string akey, .int .i64 apg, .bool aleaf, .string alo, .string ahi, .int .i64 ar, .slice ap an ac]] w fun r w' => r = .returned (.tuple #[.agg #[.int .i64 1, .string aek, .int .i64 aes, .int .i64 aeg, .int .i64 aec, .string ⟨#[]⟩, .int .i64 0, .bool false, .string ⟨#[]⟩, .string ⟨#[]⟩, .int .i64 0, .slice none 0 0], .bool true]) ∧ Below w.heap.size w w' := by
  go_enter Tryz.func50, Tryz.ntmps50
  go_wp2
  refine bodyPost_ret (results_two (T' := 32) (cs := [.int .i64 1, .string aek, .int .i64 aes, .int .i64 aeg, .int .i64 aec, .string ⟨#[]⟩, .int .i64 0, .bool false, .string ⟨#[]⟩, .string ⟨#[]⟩, .int .i64 0, .slice none 0 0]) rfl rfl dl_agg dl_size rfl ((Bk.new1 _ _ _ _).alloc _)) rfl ?_
  exact ⟨rfl, (((Below.refl _ _).alloc (Nat.le_refl _) _).alloc (by simp) _).alloc (by simp; omega) _⟩

set_option maxHeartbeats 4000000 in
theorem rbare_2 (aek : ByteArray) (aes aeg aec : Int) (akey : ByteArray) (apg : Int) (aleaf : Bool) (alo ahi : ByteArray) (ar : Int) (ap : Option Addr) (an ac : Nat) (w : World) :
    Calls Tryz.prog 50 #[.agg #[.int .i64 2, .string aek, .int .i64 aes, .int .i64 aeg, .int .i64 aec, .string akey, .int .i64 apg, .bool aleaf, .string alo, .string ahi, .int .i64 ar, .slice ap an ac]] w fun r w' => r = .returned (.tuple #[.agg #[.int .i64 2, .string ⟨#[]⟩, .int .i64 0, .int .i64 0, .int .i64 0, .string akey, .int .i64 0, .bool false, .string ⟨#[]⟩, .string ⟨#[]⟩, .int .i64 0, .slice none 0 0], .bool true]) ∧ Below w.heap.size w w' := by
  go_enter Tryz.func50, Tryz.ntmps50
  go_wp2
  refine bodyPost_ret (results_two (T' := 32) (cs := [.int .i64 2, .string ⟨#[]⟩, .int .i64 0, .int .i64 0, .int .i64 0, .string akey, .int .i64 0, .bool false, .string ⟨#[]⟩, .string ⟨#[]⟩, .int .i64 0, .slice none 0 0]) rfl rfl dl_agg dl_size rfl ((Bk.new1 _ _ _ _).alloc _)) rfl ?_
  exact ⟨rfl, (((Below.refl _ _).alloc (Nat.le_refl _) _).alloc (by simp) _).alloc (by simp; omega) _⟩

set_option maxHeartbeats 4000000 in
theorem rbare_3 (aek : ByteArray) (aes aeg aec : Int) (akey : ByteArray) (apg : Int) (aleaf : Bool) (alo ahi : ByteArray) (ar : Int) (ap : Option Addr) (an ac : Nat) (w : World) :
    Calls Tryz.prog 50 #[.agg #[.int .i64 3, .string aek, .int .i64 aes, .int .i64 aeg, .int .i64 aec, .string akey, .int .i64 apg, .bool aleaf, .string alo, .string ahi, .int .i64 ar, .slice ap an ac]] w fun r w' => r = .returned (.tuple #[.agg #[.int .i64 3, .string ⟨#[]⟩, .int .i64 0, .int .i64 0, .int .i64 0, .string akey, .int .i64 apg, .bool false, .string ⟨#[]⟩, .string ⟨#[]⟩, .int .i64 0, .slice none 0 0], .bool (decide (1 ≤ apg) && !akey.toList.isEmpty)]) ∧ Below w.heap.size w w' := by
  cases h : akey.toList.isEmpty with
  | true =>
    cases hg : decide (1 ≤ apg) with
    | true =>
      go_enter Tryz.func50, Tryz.ntmps50
      go_wp2_with fail
      go_region
      go_wp2_with fail
      go_region
      go_wp2
      refine bodyPost_ret (results_two (T' := 32) (cs := [.int .i64 3, .string ⟨#[]⟩, .int .i64 0, .int .i64 0, .int .i64 0, .string akey, .int .i64 apg, .bool false, .string ⟨#[]⟩, .string ⟨#[]⟩, .int .i64 0, .slice none 0 0]) rfl rfl dl_agg dl_size rfl ((Bk.new1 _ _ _ _).alloc _)) rfl ?_
      exact ⟨by first | rfl | simp, (((((Below.refl _ _).alloc (Nat.le_refl _) _).alloc (by simp) _).alloc (by simp; omega) _).drew).drew⟩
    | false =>
      go_enter Tryz.func50, Tryz.ntmps50
      go_wp2_with fail
      go_region
      go_wp2_with fail
      go_region
      go_wp2
      refine bodyPost_ret (results_two (T' := 32) (cs := [.int .i64 3, .string ⟨#[]⟩, .int .i64 0, .int .i64 0, .int .i64 0, .string akey, .int .i64 apg, .bool false, .string ⟨#[]⟩, .string ⟨#[]⟩, .int .i64 0, .slice none 0 0]) rfl rfl dl_agg dl_size rfl ((Bk.new1 _ _ _ _).alloc _)) rfl ?_
      exact ⟨by first | rfl | simp, (((((Below.refl _ _).alloc (Nat.le_refl _) _).alloc (by simp) _).alloc (by simp; omega) _).drew).drew⟩
  | false =>
    cases hg : decide (1 ≤ apg) with
    | true =>
      go_enter Tryz.func50, Tryz.ntmps50
      go_wp2_with fail
      go_region
      go_wp2_with fail
      go_region
      go_wp2
      refine bodyPost_ret (results_two (T' := 32) (cs := [.int .i64 3, .string ⟨#[]⟩, .int .i64 0, .int .i64 0, .int .i64 0, .string akey, .int .i64 apg, .bool false, .string ⟨#[]⟩, .string ⟨#[]⟩, .int .i64 0, .slice none 0 0]) rfl rfl dl_agg dl_size rfl ((Bk.new1 _ _ _ _).alloc _)) rfl ?_
      exact ⟨by first | rfl | simp, (((((Below.refl _ _).alloc (Nat.le_refl _) _).alloc (by simp) _).alloc (by simp; omega) _).drew).drew⟩
    | false =>
      go_enter Tryz.func50, Tryz.ntmps50
      go_wp2_with fail
      go_region
      go_wp2_with fail
      go_region
      go_wp2
      refine bodyPost_ret (results_two (T' := 32) (cs := [.int .i64 3, .string ⟨#[]⟩, .int .i64 0, .int .i64 0, .int .i64 0, .string akey, .int .i64 apg, .bool false, .string ⟨#[]⟩, .string ⟨#[]⟩, .int .i64 0, .slice none 0 0]) rfl rfl dl_agg dl_size rfl ((Bk.new1 _ _ _ _).alloc _)) rfl ?_
      exact ⟨by first | rfl | simp, (((((Below.refl _ _).alloc (Nat.le_refl _) _).alloc (by simp) _).alloc (by simp; omega) _).drew).drew⟩

set_option maxHeartbeats 4000000 in
theorem rbare_4 (aek : ByteArray) (aes aeg aec : Int) (akey : ByteArray) (apg : Int) (aleaf : Bool) (alo ahi : ByteArray) (ar : Int) (ap : Option Addr) (an ac : Nat) (w : World) (t : Bool) (c : Int) (hct : (c == 0) = t) (hq : ∀ W, Below w.heap.size w W → Calls Tryz.prog 21 #[.agg #[.bool aleaf, .string alo, .string ahi, .int .i64 ar, .slice ap an ac]] W fun e w' => e = .returned (.int .i64 c) ∧ Below W.heap.size W w') :
    Calls Tryz.prog 50 #[.agg #[.int .i64 4, .string aek, .int .i64 aes, .int .i64 aeg, .int .i64 aec, .string akey, .int .i64 apg, .bool aleaf, .string alo, .string ahi, .int .i64 ar, .slice ap an ac]] w fun r w' => r = .returned (.tuple #[.agg #[.int .i64 4, .string ⟨#[]⟩, .int .i64 0, .int .i64 0, .int .i64 0, .string ⟨#[]⟩, .int .i64 0, .bool aleaf, .string alo, .string ahi, .int .i64 ar, .slice ap an ac], .bool t]) ∧ Below w.heap.size w w' := by
  have HQ : Hid _ := hq
  clear hq
  go_enter Tryz.func50, Tryz.ntmps50
  go_wp2_with fail
  obtain ⟨w0, hw0⟩ : ∃ w0, (((w.alloc (.cells #[.int .i64 4, .string aek, .int .i64 aes, .int .i64 aeg, .int .i64 aec, .string akey, .int .i64 apg, .bool aleaf, .string alo, .string ahi, .int .i64 ar, .slice ap an ac] 32)).alloc (.cells #[.int .i64 0, .string ⟨#[]⟩, .int .i64 0, .int .i64 0, .int .i64 0, .string ⟨#[]⟩, .int .i64 0, .bool false, .string ⟨#[]⟩, .string ⟨#[]⟩, .int .i64 0, .slice none 0 0] 32)).alloc (.cells #[.int .i64 4, .string ⟨#[]⟩, .int .i64 0, .int .i64 0, .int .i64 0, .string ⟨#[]⟩, .int .i64 0, .bool aleaf, .string alo, .string ahi, .int .i64 ar, .slice ap an ac] 32)) = w0 := ⟨_, rfl⟩
  have hs0 : Bk w0.drew w.heap.size 32 #[.int .i64 4, .string aek, .int .i64 aes, .int .i64 aeg, .int .i64 aec, .string akey, .int .i64 apg, .bool aleaf, .string alo, .string ahi, .int .i64 ar, .slice ap an ac] ∧ Bk w0.drew (w.heap.size + 1 + 1) 32 #[.int .i64 4, .string ⟨#[]⟩, .int .i64 0, .int .i64 0, .int .i64 0, .string ⟨#[]⟩, .int .i64 0, .bool aleaf, .string alo, .string ahi, .int .i64 ar, .slice ap an ac] ∧ Below w.heap.size w w0.drew := by
    rw [← hw0]
    exact ⟨(((Bk.new _ _ _).alloc _).alloc _).drew, (Bk.new2 _ _ _ _ _).drew, ((((Below.refl _ _).alloc (Nat.le_refl _) _).alloc (by simp) _).alloc (by simp; omega) _).drew⟩
  have hz0 : Bk w0.drew (w.heap.size + 1) 32 #[.int .i64 0, .string ⟨#[]⟩, .int .i64 0, .int .i64 0, .int .i64 0, .string ⟨#[]⟩, .int .i64 0, .bool false, .string ⟨#[]⟩, .string ⟨#[]⟩, .int .i64 0, .slice none 0 0] := by rw [← hw0]; exact ((Bk.new1 _ _ _ _).alloc _).drew
  rw [hw0]
  clear hw0
  refine wp_region_mid (S := (fun w' => Bk w' w.heap.size 32 #[.int .i64 4, .string aek, .int .i64 aes, .int .i64 aeg, .int .i64 aec, .string akey, .int .i64 apg, .bool aleaf, .string alo, .string ahi, .int .i64 ar, .slice ap an ac] ∧ Bk w' (w.heap.size + 1 + 1) 32 #[.int .i64 4, .string ⟨#[]⟩, .int .i64 0, .int .i64 0, .int .i64 0, .string ⟨#[]⟩, .int .i64 0, .bool aleaf, .string alo, .string ahi, .int .i64 ar, .slice ap an ac] ∧ Below w.heap.size w w')) 7 (by kernel_rfl) ?_
  refine wpAnyM_take (i := 0) [] (oi := { dst := some 43, op := Op.load 32 (Operand.tmp 4), type := 32, pos := _, after := #[], guard := none }) (v := .agg #[.int .i64 4, .string ⟨#[]⟩, .int .i64 0, .int .i64 0, .int .i64 0, .string ⟨#[]⟩, .int .i64 0, .bool aleaf, .string alo, .string ahi, .int .i64 ar, .slice ap an ac]) rfl (by kernel_rfl) (by kernel_rfl) (by kernel_rfl) (by kernel_rfl) (fun _ _ _ h => h) (Or.inl ⟨by rfl, ?_⟩) hs0 ?_
  · (intro w' hSw; have m0 : w'.cell? ⟨w.heap.size, 0, none⟩ = some (.int .i64 4) := hSw.1.cell 0; have m1 : w'.cell? ⟨w.heap.size, 1, none⟩ = some (.string aek) := hSw.1.cell 1; have m2 : w'.cell? ⟨w.heap.size, 2, none⟩ = some (.int .i64 aes) := hSw.1.cell 2; have m3 : w'.cell? ⟨w.heap.size, 3, none⟩ = some (.int .i64 aeg) := hSw.1.cell 3; have m4 : w'.cell? ⟨w.heap.size, 4, none⟩ = some (.int .i64 aec) := hSw.1.cell 4; have m5 : w'.cell? ⟨w.heap.size, 5, none⟩ = some (.string akey) := hSw.1.cell 5; have m6 : w'.cell? ⟨w.heap.size, 6, none⟩ = some (.int .i64 apg) := hSw.1.cell 6; have m7 : w'.cell? ⟨w.heap.size, 7, none⟩ = some (.bool aleaf) := hSw.1.cell 7; have m8 : w'.cell? ⟨w.heap.size, 8, none⟩ = some (.string alo) := hSw.1.cell 8; have m9 : w'.cell? ⟨w.heap.size, 9, none⟩ = some (.string ahi) := hSw.1.cell 9; have m10 : w'.cell? ⟨w.heap.size, 10, none⟩ = some (.int .i64 ar) := hSw.1.cell 10; have m11 : w'.cell? ⟨w.heap.size, 11, none⟩ = some (.slice ap an ac) := hSw.1.cell 11; have n0 : w'.cell? ⟨w.heap.size + 1 + 1, 0, none⟩ = some (.int .i64 4) := hSw.2.1.cell 0; have n1 : w'.cell? ⟨w.heap.size + 1 + 1, 1, none⟩ = some (.string ⟨#[]⟩) := hSw.2.1.cell 1; have n2 : w'.cell? ⟨w.heap.size + 1 + 1, 2, none⟩ = some (.int .i64 0) := hSw.2.1.cell 2; have n3 : w'.cell? ⟨w.heap.size + 1 + 1, 3, none⟩ = some (.int .i64 0) := hSw.2.1.cell 3; have n4 : w'.cell? ⟨w.heap.size + 1 + 1, 4, none⟩ = some (.int .i64 0) := hSw.2.1.cell 4; have n5 : w'.cell? ⟨w.heap.size + 1 + 1, 5, none⟩ = some (.string ⟨#[]⟩) := hSw.2.1.cell 5; have n6 : w'.cell? ⟨w.heap.size + 1 + 1, 6, none⟩ = some (.int .i64 0) := hSw.2.1.cell 6; have n7 : w'.cell? ⟨w.heap.size + 1 + 1, 7, none⟩ = some (.bool aleaf) := hSw.2.1.cell 7; have n8 : w'.cell? ⟨w.heap.size + 1 + 1, 8, none⟩ = some (.string alo) := hSw.2.1.cell 8; have n9 : w'.cell? ⟨w.heap.size + 1 + 1, 9, none⟩ = some (.string ahi) := hSw.2.1.cell 9; have n10 : w'.cell? ⟨w.heap.size + 1 + 1, 10, none⟩ = some (.int .i64 ar) := hSw.2.1.cell 10; have n11 : w'.cell? ⟨w.heap.size + 1 + 1, 11, none⟩ = some (.slice ap an ac) := hSw.2.1.cell 11; go_simp; try with_reducible rfl)
  try simp only [Act.put, List.setIfInBounds_toArray, List.set_cons_zero, List.set_cons_succ]
  refine wpAnyM_take (i := 1) [] (oi := { dst := some 44, op := Op.fieldAddr 32 (Operand.tmp 1) 4, type := 0, pos := _, after := #[], guard := none }) (v := .pointer (some ⟨w.heap.size, 7, none⟩)) rfl (by kernel_rfl) (by kernel_rfl) (by kernel_rfl) (by kernel_rfl) (fun _ _ _ h => h) (Or.inl ⟨by rfl, ?_⟩) hs0 ?_
  · (intro w' hSw; go_simp; try with_reducible rfl)
  try simp only [Act.put, List.setIfInBounds_toArray, List.set_cons_zero, List.set_cons_succ]
  refine wpAnyM_take (i := 2) [] (oi := { dst := some 45, op := Op.load 24 (Operand.tmp 44), type := 24, pos := _, after := #[{ on := 1, ground := Ground.data }], guard := none }) (v := .agg #[.bool aleaf, .string alo, .string ahi, .int .i64 ar, .slice ap an ac]) rfl (by kernel_rfl) (by kernel_rfl) (by kernel_rfl) (by kernel_rfl) (fun _ _ _ h => h) (Or.inl ⟨by rfl, ?_⟩) hs0 ?_
  · (intro w' hSw; have m0 : w'.cell? ⟨w.heap.size, 0, none⟩ = some (.int .i64 4) := hSw.1.cell 0; have m1 : w'.cell? ⟨w.heap.size, 1, none⟩ = some (.string aek) := hSw.1.cell 1; have m2 : w'.cell? ⟨w.heap.size, 2, none⟩ = some (.int .i64 aes) := hSw.1.cell 2; have m3 : w'.cell? ⟨w.heap.size, 3, none⟩ = some (.int .i64 aeg) := hSw.1.cell 3; have m4 : w'.cell? ⟨w.heap.size, 4, none⟩ = some (.int .i64 aec) := hSw.1.cell 4; have m5 : w'.cell? ⟨w.heap.size, 5, none⟩ = some (.string akey) := hSw.1.cell 5; have m6 : w'.cell? ⟨w.heap.size, 6, none⟩ = some (.int .i64 apg) := hSw.1.cell 6; have m7 : w'.cell? ⟨w.heap.size, 7, none⟩ = some (.bool aleaf) := hSw.1.cell 7; have m8 : w'.cell? ⟨w.heap.size, 8, none⟩ = some (.string alo) := hSw.1.cell 8; have m9 : w'.cell? ⟨w.heap.size, 9, none⟩ = some (.string ahi) := hSw.1.cell 9; have m10 : w'.cell? ⟨w.heap.size, 10, none⟩ = some (.int .i64 ar) := hSw.1.cell 10; have m11 : w'.cell? ⟨w.heap.size, 11, none⟩ = some (.slice ap an ac) := hSw.1.cell 11; have n0 : w'.cell? ⟨w.heap.size + 1 + 1, 0, none⟩ = some (.int .i64 4) := hSw.2.1.cell 0; have n1 : w'.cell? ⟨w.heap.size + 1 + 1, 1, none⟩ = some (.string ⟨#[]⟩) := hSw.2.1.cell 1; have n2 : w'.cell? ⟨w.heap.size + 1 + 1, 2, none⟩ = some (.int .i64 0) := hSw.2.1.cell 2; have n3 : w'.cell? ⟨w.heap.size + 1 + 1, 3, none⟩ = some (.int .i64 0) := hSw.2.1.cell 3; have n4 : w'.cell? ⟨w.heap.size + 1 + 1, 4, none⟩ = some (.int .i64 0) := hSw.2.1.cell 4; have n5 : w'.cell? ⟨w.heap.size + 1 + 1, 5, none⟩ = some (.string ⟨#[]⟩) := hSw.2.1.cell 5; have n6 : w'.cell? ⟨w.heap.size + 1 + 1, 6, none⟩ = some (.int .i64 0) := hSw.2.1.cell 6; have n7 : w'.cell? ⟨w.heap.size + 1 + 1, 7, none⟩ = some (.bool aleaf) := hSw.2.1.cell 7; have n8 : w'.cell? ⟨w.heap.size + 1 + 1, 8, none⟩ = some (.string alo) := hSw.2.1.cell 8; have n9 : w'.cell? ⟨w.heap.size + 1 + 1, 9, none⟩ = some (.string ahi) := hSw.2.1.cell 9; have n10 : w'.cell? ⟨w.heap.size + 1 + 1, 10, none⟩ = some (.int .i64 ar) := hSw.2.1.cell 10; have n11 : w'.cell? ⟨w.heap.size + 1 + 1, 11, none⟩ = some (.slice ap an ac) := hSw.2.1.cell 11; go_simp; try with_reducible rfl)
  try simp only [Act.put, List.setIfInBounds_toArray, List.set_cons_zero, List.set_cons_succ]
  refine wpAnyM_ready (rs := [3]) (by kernel_rfl) (by simp) ?_
  refine AllReadyM.cons (o := { dst := some 46, op := Op.call { callee := Callee.value (Operand.func 21), args := #[Operand.tmp 45], argTypes := #[24] }, type := 34, pos := _, after := #[{ on := 2, ground := Ground.data }], guard := none }) rfl (fun K hK => ?_) AllReadyM.nil
  have HK9 : Hid (∀ a w, _ → K a w) := hK
  clear hK
  go_simp
  refine (HQ.out _ hs0.2.2).mono ?_
  rintro e w1 ⟨rfl, hb⟩
  have hs1 : Bk w1 w.heap.size 32 #[.int .i64 4, .string aek, .int .i64 aes, .int .i64 aeg, .int .i64 aec, .string akey, .int .i64 apg, .bool aleaf, .string alo, .string ahi, .int .i64 ar, .slice ap an ac] ∧ Bk w1 (w.heap.size + 1 + 1) 32 #[.int .i64 4, .string ⟨#[]⟩, .int .i64 0, .int .i64 0, .int .i64 0, .string ⟨#[]⟩, .int .i64 0, .bool aleaf, .string alo, .string ahi, .int .i64 ar, .slice ap an ac] ∧ Below w.heap.size w w1 := ⟨hs0.1.below hb hs0.1.lt, hs0.2.1.below hb hs0.2.1.lt, hs0.2.2.trans (hb.mono hs0.2.2.size)⟩
  have hz1 := hz0.below hb hz0.lt
  clear hb
  refine HK9.out _ _ ⟨fun _ => hs1, ?_⟩
  clear HK9 K
  try simp only [Act.put, List.setIfInBounds_toArray, List.set_cons_zero, List.set_cons_succ]
  refine wpAnyM_take (i := 4) [] (oi := { dst := some 47, op := Op.binOp BinOp.eql 34 (Operand.tmp 46) (Operand.const (Value.int IntKind.i64 0)) 34, type := 4, pos := _, after := #[{ on := 3, ground := Ground.data }, { on := 5, ground := Ground.gcOnly Departure.lateStores }], guard := none }) (v := .bool t) rfl (by kernel_rfl) (by kernel_rfl) (by kernel_rfl) (by kernel_rfl) (fun _ _ _ h => h) (Or.inl ⟨by rfl, ?_⟩) hs1 ?_
  · (intro w' hSw; go_simp; try with_reducible rfl)
  try simp only [Act.put, List.setIfInBounds_toArray, List.set_cons_zero, List.set_cons_succ]
  have z0 : w1.cell? ⟨w.heap.size + 1, 0, none⟩ = some (.int .i64 0) := hz1.cell 0
  have zf0 : w1.frozen? ⟨w.heap.size + 1, 0, none⟩ = false := hz1.frozen 0
  have z1 : w1.cell? ⟨w.heap.size + 1, 1, none⟩ = some (.string ⟨#[]⟩) := hz1.cell 1
  have zf1 : w1.frozen? ⟨w.heap.size + 1, 1, none⟩ = false := hz1.frozen 1
  have z2 : w1.cell? ⟨w.heap.size + 1, 2, none⟩ = some (.int .i64 0) := hz1.cell 2
  have zf2 : w1.frozen? ⟨w.heap.size + 1, 2, none⟩ = false := hz1.frozen 2
  have z3 : w1.cell? ⟨w.heap.size + 1, 3, none⟩ = some (.int .i64 0) := hz1.cell 3
  have zf3 : w1.frozen? ⟨w.heap.size + 1, 3, none⟩ = false := hz1.frozen 3
  have z4 : w1.cell? ⟨w.heap.size + 1, 4, none⟩ = some (.int .i64 0) := hz1.cell 4
  have zf4 : w1.frozen? ⟨w.heap.size + 1, 4, none⟩ = false := hz1.frozen 4
  have z5 : w1.cell? ⟨w.heap.size + 1, 5, none⟩ = some (.string ⟨#[]⟩) := hz1.cell 5
  have zf5 : w1.frozen? ⟨w.heap.size + 1, 5, none⟩ = false := hz1.frozen 5
  have z6 : w1.cell? ⟨w.heap.size + 1, 6, none⟩ = some (.int .i64 0) := hz1.cell 6
  have zf6 : w1.frozen? ⟨w.heap.size + 1, 6, none⟩ = false := hz1.frozen 6
  have z7 : w1.cell? ⟨w.heap.size + 1, 7, none⟩ = some (.bool false) := hz1.cell 7
  have zf7 : w1.frozen? ⟨w.heap.size + 1, 7, none⟩ = false := hz1.frozen 7
  have z8 : w1.cell? ⟨w.heap.size + 1, 8, none⟩ = some (.string ⟨#[]⟩) := hz1.cell 8
  have zf8 : w1.frozen? ⟨w.heap.size + 1, 8, none⟩ = false := hz1.frozen 8
  have z9 : w1.cell? ⟨w.heap.size + 1, 9, none⟩ = some (.string ⟨#[]⟩) := hz1.cell 9
  have zf9 : w1.frozen? ⟨w.heap.size + 1, 9, none⟩ = false := hz1.frozen 9
  have z10 : w1.cell? ⟨w.heap.size + 1, 10, none⟩ = some (.int .i64 0) := hz1.cell 10
  have zf10 : w1.frozen? ⟨w.heap.size + 1, 10, none⟩ = false := hz1.frozen 10
  have z11 : w1.cell? ⟨w.heap.size + 1, 11, none⟩ = some (.slice none 0 0) := hz1.cell 11
  have zf11 : w1.frozen? ⟨w.heap.size + 1, 11, none⟩ = false := hz1.frozen 11
  refine wpAnyM_ready (rs := [5]) (by kernel_rfl) (by simp) ?_
  refine AllReadyM.cons (o := { dst := none, op := Op.store 32 (Operand.tmp 2) (Operand.tmp 43), type := 0, pos := _, after := #[{ on := 0, ground := Ground.data }, { on := 3, ground := Ground.chain }, { on := 0, ground := Ground.phase }, { on := 1, ground := Ground.textOnly Departure.lateStores }, { on := 2, ground := Ground.textOnly Departure.lateStores }, { on := 3, ground := Ground.textOnly Departure.lateStoresUnsure }, { on := 4, ground := Ground.textOnly Departure.lateStores }], guard := none }) rfl (fun K hK => ?_) AllReadyM.nil
  have HK9 : Hid (∀ a w, _ → K a w) := hK
  clear hK
  go_simp
  clear z0 zf0 z1 zf1 z2 zf2 z3 zf3 z4 zf4 z5 zf5 z6 zf6 z7 zf7 z8 zf8 z9 zf9 z10 zf10 z11 zf11
  have k1 := hz1.twelve (.int .i64 4) (.string ⟨#[]⟩) (.int .i64 0) (.int .i64 0) (.int .i64 0) (.string ⟨#[]⟩) (.int .i64 0) (.bool aleaf) (.string alo) (.string ahi) (.int .i64 ar) (.slice ap an ac)
  have ht : Tn [w.heap.size + 1] w1 _ := (Tn.refl _ w1).twelve (R := w.heap.size + 1) (.inl (by simp)) (.int .i64 4) (.string ⟨#[]⟩) (.int .i64 0) (.int .i64 0) (.int .i64 0) (.string ⟨#[]⟩) (.int .i64 0) (.bool aleaf) (.string alo) (.string ahi) (.int .i64 ar) (.slice ap an ac)
  have hbe := hs1.2.2.trans (ht.below hs1.2.2.size (by simp))
  obtain ⟨w2, hw2, k1, hbe, hs2⟩ : ∃ w2, ((((((((((((w1.setCell ⟨w.heap.size + 1, 0, none⟩ (.int .i64 4)).setCell ⟨w.heap.size + 1, 1, none⟩ (.string ⟨#[]⟩)).setCell ⟨w.heap.size + 1, 2, none⟩ (.int .i64 0)).setCell ⟨w.heap.size + 1, 3, none⟩ (.int .i64 0)).setCell ⟨w.heap.size + 1, 4, none⟩ (.int .i64 0)).setCell ⟨w.heap.size + 1, 5, none⟩ (.string ⟨#[]⟩)).setCell ⟨w.heap.size + 1, 6, none⟩ (.int .i64 0)).setCell ⟨w.heap.size + 1, 7, none⟩ (.bool aleaf)).setCell ⟨w.heap.size + 1, 8, none⟩ (.string alo)).setCell ⟨w.heap.size + 1, 9, none⟩ (.string ahi)).setCell ⟨w.heap.size + 1, 10, none⟩ (.int .i64 ar)).setCell ⟨w.heap.size + 1, 11, none⟩ (.slice ap an ac)) = w2 ∧ Bk w2 (w.heap.size + 1) 32 #[.int .i64 4, .string ⟨#[]⟩, .int .i64 0, .int .i64 0, .int .i64 0, .string ⟨#[]⟩, .int .i64 0, .bool aleaf, .string alo, .string ahi, .int .i64 ar, .slice ap an ac] ∧ Below w.heap.size w w2 ∧ (Bk w2 w.heap.size 32 #[.int .i64 4, .string aek, .int .i64 aes, .int .i64 aeg, .int .i64 aec, .string akey, .int .i64 apg, .bool aleaf, .string alo, .string ahi, .int .i64 ar, .slice ap an ac] ∧ Bk w2 (w.heap.size + 1 + 1) 32 #[.int .i64 4, .string ⟨#[]⟩, .int .i64 0, .int .i64 0, .int .i64 0, .string ⟨#[]⟩, .int .i64 0, .bool aleaf, .string alo, .string ahi, .int .i64 ar, .slice ap an ac] ∧ Below w.heap.size w w2) := ⟨_, rfl, k1, hbe, hs1.1.tn ht (by simp), hs1.2.1.tn ht (by simp), hbe⟩
  rw [hw2]
  clear hw2 ht
  refine HK9.out _ _ ⟨fun _ => hs2, ?_⟩
  clear HK9 K
  try simp only [Act.put, List.setIfInBounds_toArray, List.set_cons_zero, List.set_cons_succ]
  refine wpAnyM_ready (rs := [6]) (by kernel_rfl) (by simp) ?_
  refine AllReadyM.cons (o := { dst := some 3, op := Op.assign (Operand.tmp 47), type := 4, pos := _, after := #[{ on := 4, ground := Ground.data }, { on := 5, ground := Ground.chain }, { on := 0, ground := Ground.phase }, { on := 1, ground := Ground.phase }, { on := 2, ground := Ground.phase }, { on := 3, ground := Ground.phase }, { on := 4, ground := Ground.phase }, { on := 5, ground := Ground.phase }], guard := none }) rfl (fun K hK => ?_) AllReadyM.nil
  have HK9 : Hid (∀ a w, _ → K a w) := hK
  clear hK
  go_simp
  refine HK9.out _ _ ⟨fun _ => hs2, ?_⟩
  clear HK9 K
  try simp only [Act.put, List.setIfInBounds_toArray, List.set_cons_zero, List.set_cons_succ]
  refine wpAnyM_done (by kernel_rfl) ?_ _
  have HK1 : Hid _ := k1
  have HBE : Hid _ := hbe
  clear k1 hbe hs0 hs1 hs2 hz0 hz1 HQ hct
  go_wp2
  refine bodyPost_ret (results_two (T' := 32) (cs := [.int .i64 4, .string ⟨#[]⟩, .int .i64 0, .int .i64 0, .int .i64 0, .string ⟨#[]⟩, .int .i64 0, .bool aleaf, .string alo, .string ahi, .int .i64 ar, .slice ap an ac]) rfl rfl dl_agg dl_size rfl HK1.out) rfl ?_
  exact ⟨rfl, HBE.out⟩

set_option maxHeartbeats 4000000 in
theorem rbare_5 (aek : ByteArray) (aes aeg aec : Int) (akey : ByteArray) (apg : Int) (aleaf : Bool) (alo ahi : ByteArray) (ar : Int) (ap : Option Addr) (an ac : Nat) (w : World) :
    Calls Tryz.prog 50 #[.agg #[.int .i64 5, .string aek, .int .i64 aes, .int .i64 aeg, .int .i64 aec, .string akey, .int .i64 apg, .bool aleaf, .string alo, .string ahi, .int .i64 ar, .slice ap an ac]] w fun r w' => r = .returned (.tuple #[.agg #[.int .i64 5, .string ⟨#[]⟩, .int .i64 0, .int .i64 0, .int .i64 0, .string ⟨#[]⟩, .int .i64 apg, .bool false, .string ⟨#[]⟩, .string ⟨#[]⟩, .int .i64 0, .slice none 0 0], .bool (decide (1 ≤ apg))]) ∧ Below w.heap.size w w' := by
  go_enter Tryz.func50, Tryz.ntmps50
  go_wp2_with fail
  go_region
  go_wp2
  refine bodyPost_ret (results_two (T' := 32) (cs := [.int .i64 5, .string ⟨#[]⟩, .int .i64 0, .int .i64 0, .int .i64 0, .string ⟨#[]⟩, .int .i64 apg, .bool false, .string ⟨#[]⟩, .string ⟨#[]⟩, .int .i64 0, .slice none 0 0]) rfl rfl dl_agg dl_size rfl ((Bk.new1 _ _ _ _).alloc _)) rfl ?_
  exact ⟨by simp, ((((Below.refl _ _).alloc (Nat.le_refl _) _).alloc (by simp) _).alloc (by simp; omega) _).drew⟩

set_option maxHeartbeats 4000000 in
theorem rbare_0 (ak : Int) (k1 : (ak == 1) = false) (k2 : (ak == 2) = false) (k3 : (ak == 3) = false) (k4 : (ak == 4) = false) (k5 : (ak == 5) = false) (aek : ByteArray) (aes aeg aec : Int) (akey : ByteArray) (apg : Int) (aleaf : Bool) (alo ahi : ByteArray) (ar : Int) (ap : Option Addr) (an ac : Nat) (w : World) :
    Calls Tryz.prog 50 #[.agg #[.int .i64 ak, .string aek, .int .i64 aes, .int .i64 aeg, .int .i64 aec, .string akey, .int .i64 apg, .bool aleaf, .string alo, .string ahi, .int .i64 ar, .slice ap an ac]] w fun r w' => r = .returned (.tuple #[.agg #[.int .i64 ak, .string ⟨#[]⟩, .int .i64 0, .int .i64 0, .int .i64 0, .string ⟨#[]⟩, .int .i64 0, .bool false, .string ⟨#[]⟩, .string ⟨#[]⟩, .int .i64 0, .slice none 0 0], .bool false]) ∧ Below w.heap.size w w' := by
  go_enter Tryz.func50, Tryz.ntmps50
  go_wp2
  refine bodyPost_ret (results_two (T' := 32) (cs := [.int .i64 ak, .string ⟨#[]⟩, .int .i64 0, .int .i64 0, .int .i64 0, .string ⟨#[]⟩, .int .i64 0, .bool false, .string ⟨#[]⟩, .string ⟨#[]⟩, .int .i64 0, .slice none 0 0]) rfl rfl dl_agg dl_size rfl ((Bk.new1 _ _ _ _).alloc _)) rfl ?_
  exact ⟨rfl, (((Below.refl _ _).alloc (Nat.le_refl _) _).alloc (by simp) _).alloc (by simp; omega) _⟩

theorem rbare_any (a : De) (ap : Option Addr) (an ac : Nat) (w : World) (hna : a.rt.l.length = an) (ha : Ens w ap a.rt.l) (hl : an ≤ 4398046511104) :
    Calls Tryz.prog 50 #[dlv a.k a.e a.key a.pg a.rt.leaf a.rt.lo a.rt.hi a.rt.r ap an ac] w fun r w' => r = .returned (.tuple #[Dl.nv a ap an ac, .bool (Dl.fits a)]) ∧ Below w.heap.size w w' := by
  obtain ⟨ak, ⟨aek, aes, aeg, aec⟩, akey, apg, ⟨aleaf, alo, ahi, ar, al⟩⟩ := a
  simp only at *
  by_cases h1 : ak = 1
  · subst h1
    exact rbare_1 aek aes aeg aec akey apg aleaf alo ahi ar ap an ac w
  · by_cases h2 : ak = 2
    · subst h2
      exact rbare_2 aek aes aeg aec akey apg aleaf alo ahi ar ap an ac w
    · by_cases h3 : ak = 3
      · subst h3
        have := rbare_3 aek aes aeg aec akey apg aleaf alo ahi ar ap an ac w
        rw [Bool.and_comm] at this
        exact this
      · by_cases h4 : ak = 4
        · subst h4
          have hq := fun (W : World) (h : Below w.heap.size w W) => rcheck_any aleaf alo ahi ar ap an ac al W hna (ha.below h (Nat.le_refl _)) hl
          exact rbare_4 aek aes aeg aec akey apg aleaf alo ahi ar ap an ac w (Pg.may aleaf ⟨alo, ahi⟩ ar al) _ (by cases Pg.may aleaf ⟨alo, ahi⟩ ar al <;> rfl) hq
        · by_cases h5 : ak = 5
          · subst h5
            exact rbare_5 aek aes aeg aec akey apg aleaf alo ahi ar ap an ac w
          · have := rbare_0 ak (by simp [h1]) (by simp [h2]) (by simp [h3]) (by simp [h4]) (by simp [h5]) aek aes aeg aec akey apg aleaf alo ahi ar ap an ac w
            unfold Dl.nv Dl.named Dl.fits
            simp only [h1, h2, h3, h4, h5, if_false]
            exact this

theorem Pg.same_comm (a b : Pp) : Pg.same a b = Pg.same b a := by
  have h1 : Pg.eqL a.l b.l = Pg.eqL b.l a.l := by
    rw [Bool.eq_iff_iff, Pg.eqL_iff, Pg.eqL_iff]
    exact ⟨Eq.symm, Eq.symm⟩
  unfold Pg.same
  rw [h1, Bool.beq_comm (a := a.leaf), Bool.beq_comm (a := a.lo.toList), Bool.beq_comm (a := a.hi.toList), Bool.beq_comm (a := a.r)]

theorem Dl.same_comm (a b : De) : Dl.same a b = Dl.same b a := by
  have h1 : En.eqb a.e b.e = En.eqb b.e a.e := by
    rw [Bool.eq_iff_iff, En.eqb_iff, En.eqb_iff]
    exact ⟨Eq.symm, Eq.symm⟩
  unfold Dl.same
  rw [Pg.same_comm, h1, Bool.beq_comm (a := a.k), Bool.beq_comm (a := a.key.toList), Bool.beq_comm (a := a.pg)]

set_option maxHeartbeats 2000000 in
theorem rdcheck_any (a : De) (ap : Option Addr) (an ac : Nat) (w : World) (hna : a.rt.l.length = an) (ha : Ens w ap a.rt.l) (hl : an ≤ 4398046511104) :
    Calls Tryz.prog 27 #[dlv a.k a.e a.key a.pg a.rt.leaf a.rt.lo a.rt.hi a.rt.r ap an ac] w fun r w' => r = .returned (.int .i64 (if Dl.may a then 0 else 90)) ∧ Below w.heap.size w w' := by
  have hq := fun (W : World) (h : Below w.heap.size w W) => rbare_any a ap an ac W hna (ha.below h (Nat.le_refl _)) hl
  have hs := fun (W : World) (h : Below w.heap.size w W) => drsame_any (Dl.named a) a (if a.k = 4 then ap else none) ap (if a.k = 4 then an else 0) an (if a.k = 4 then ac else 0) ac W (Dl.named_len hna) hna (Dl.named_ens (ha.below h (Nat.le_refl _))) (ha.below h (Nat.le_refl _)) (by split <;> omega)
  rw [Dl.same_comm] at hs
  obtain ⟨v, HM⟩ : ∃ v : Int, Hid ((if (Dl.same a (Dl.named a) && Dl.fits a) then 0 else 90 : Int) = v) := ⟨_, rfl⟩
  rw [show (if Dl.may a then 0 else 90 : Int) = v from HM.out]
  generalize Dl.same a (Dl.named a) = s at *
  generalize Dl.fits a = t at *
  unfold Dl.nv at hq
  obtain ⟨⟨nk, ⟨nek, nes, neg, nec⟩, nkey, npg, ⟨nleaf, nlo, nhi, nr, nl⟩⟩, hn⟩ : ∃ n, Dl.named a = n := ⟨_, rfl⟩
  rw [hn] at hq hs
  clear hn
  obtain ⟨np, hnp⟩ : ∃ np, (if a.k = 4 then ap else none) = np := ⟨_, rfl⟩
  obtain ⟨nn, hnn⟩ : ∃ nn, (if a.k = 4 then an else 0) = nn := ⟨_, rfl⟩
  obtain ⟨nc, hnc⟩ : ∃ nc, (if a.k = 4 then ac else 0) = nc := ⟨_, rfl⟩
  rw [hnp, hnn, hnc] at hq hs
  clear hnp hnn hnc
  have HQ : Hid _ := hq
  have HS : Hid _ := hs
  clear hq hs ha hna
  obtain ⟨ak, ⟨aek, aes, aeg, aec⟩, akey, apg, ⟨aleaf, alo, ahi, ar, al⟩⟩ := a
  simp only at *
  obtain ⟨w0, hw0⟩ : ∃ w0, w.alloc (.cells #[.int .i64 ak, .string aek, .int .i64 aes, .int .i64 aeg, .int .i64 aec, .string akey, .int .i64 apg, .bool aleaf, .string alo, .string ahi, .int .i64 ar, .slice ap an ac] 32) = w0 := ⟨_, rfl⟩
  have HB0 : Hid (Below w.heap.size w w0) := by rw [← hw0]; exact (Below.refl _ _).alloc (Nat.le_refl _) _
  have HK0 : Hid (Bk w0 w.heap.size 32 #[.int .i64 ak, .string aek, .int .i64 aes, .int .i64 aeg, .int .i64 aec, .string akey, .int .i64 apg, .bool aleaf, .string alo, .string ahi, .int .i64 ar, .slice ap an ac]) := by rw [← hw0]; exact Bk.new _ _ _
  have a0 : w0.cell? ⟨w.heap.size, 0, none⟩ = some (.int .i64 ak) := HK0.out.cell 0
  have a1 : w0.cell? ⟨w.heap.size, 1, none⟩ = some (.string aek) := HK0.out.cell 1
  have a2 : w0.cell? ⟨w.heap.size, 2, none⟩ = some (.int .i64 aes) := HK0.out.cell 2
  have a3 : w0.cell? ⟨w.heap.size, 3, none⟩ = some (.int .i64 aeg) := HK0.out.cell 3
  have a4 : w0.cell? ⟨w.heap.size, 4, none⟩ = some (.int .i64 aec) := HK0.out.cell 4
  have a5 : w0.cell? ⟨w.heap.size, 5, none⟩ = some (.string akey) := HK0.out.cell 5
  have a6 : w0.cell? ⟨w.heap.size, 6, none⟩ = some (.int .i64 apg) := HK0.out.cell 6
  have a7 : w0.cell? ⟨w.heap.size, 7, none⟩ = some (.bool aleaf) := HK0.out.cell 7
  have a8 : w0.cell? ⟨w.heap.size, 8, none⟩ = some (.string alo) := HK0.out.cell 8
  have a9 : w0.cell? ⟨w.heap.size, 9, none⟩ = some (.string ahi) := HK0.out.cell 9
  have a10 : w0.cell? ⟨w.heap.size, 10, none⟩ = some (.int .i64 ar) := HK0.out.cell 10
  have a11 : w0.cell? ⟨w.heap.size, 11, none⟩ = some (.slice ap an ac) := HK0.out.cell 11
  go_enter Tryz.func27, Tryz.ntmps27
  go_wp2_with fail
  refine (HQ.out _ HB0.out).mono ?_
  rintro e w1 ⟨rfl, hb1⟩
  clear a0 a1 a2 a3 a4 a5 a6 a7 a8 a9 a10 a11
  have HB1 : Hid (Below w.heap.size w w1) := HB0.out.trans (hb1.mono HB0.out.size)
  have HK1 : Hid (Bk w1 w.heap.size 32 #[.int .i64 ak, .string aek, .int .i64 aes, .int .i64 aeg, .int .i64 aec, .string akey, .int .i64 apg, .bool aleaf, .string alo, .string ahi, .int .i64 ar, .slice ap an ac]) := HK0.out.below hb1 HK0.out.lt
  clear hb1 hw0 HK0 HB0 HQ
  obtain ⟨w2, hw2⟩ : ∃ w2, w1.alloc (.cells #[.int .i64 nk, .string nek, .int .i64 nes, .int .i64 neg, .int .i64 nec, .string nkey, .int .i64 npg, .bool nleaf, .string nlo, .string nhi, .int .i64 nr, .slice np nn nc] 32) = w2 := ⟨_, rfl⟩
  have hb2 : Below w1.heap.size w1 w2 := by rw [← hw2]; exact (Below.refl _ _).alloc (Nat.le_refl _) _
  have HB2 : Hid (Below w.heap.size w w2) := HB1.out.trans (hb2.mono HB1.out.size)
  have HK2 : Hid (Bk w2 w.heap.size 32 #[.int .i64 ak, .string aek, .int .i64 aes, .int .i64 aeg, .int .i64 aec, .string akey, .int .i64 apg, .bool aleaf, .string alo, .string ahi, .int .i64 ar, .slice ap an ac]) := HK1.out.below hb2 HK1.out.lt
  have HN2 : Hid (Bk w2 w1.heap.size 32 #[.int .i64 nk, .string nek, .int .i64 nes, .int .i64 neg, .int .i64 nec, .string nkey, .int .i64 npg, .bool nleaf, .string nlo, .string nhi, .int .i64 nr, .slice np nn nc]) := by rw [← hw2]; exact Bk.new _ _ _
  clear hb2 HB1 HK1
  have a0 : w2.cell? ⟨w.heap.size, 0, none⟩ = some (.int .i64 ak) := HK2.out.cell 0
  have a1 : w2.cell? ⟨w.heap.size, 1, none⟩ = some (.string aek) := HK2.out.cell 1
  have a2 : w2.cell? ⟨w.heap.size, 2, none⟩ = some (.int .i64 aes) := HK2.out.cell 2
  have a3 : w2.cell? ⟨w.heap.size, 3, none⟩ = some (.int .i64 aeg) := HK2.out.cell 3
  have a4 : w2.cell? ⟨w.heap.size, 4, none⟩ = some (.int .i64 aec) := HK2.out.cell 4
  have a5 : w2.cell? ⟨w.heap.size, 5, none⟩ = some (.string akey) := HK2.out.cell 5
  have a6 : w2.cell? ⟨w.heap.size, 6, none⟩ = some (.int .i64 apg) := HK2.out.cell 6
  have a7 : w2.cell? ⟨w.heap.size, 7, none⟩ = some (.bool aleaf) := HK2.out.cell 7
  have a8 : w2.cell? ⟨w.heap.size, 8, none⟩ = some (.string alo) := HK2.out.cell 8
  have a9 : w2.cell? ⟨w.heap.size, 9, none⟩ = some (.string ahi) := HK2.out.cell 9
  have a10 : w2.cell? ⟨w.heap.size, 10, none⟩ = some (.int .i64 ar) := HK2.out.cell 10
  have a11 : w2.cell? ⟨w.heap.size, 11, none⟩ = some (.slice ap an ac) := HK2.out.cell 11
  have n0 : w2.cell? ⟨w1.heap.size, 0, none⟩ = some (.int .i64 nk) := HN2.out.cell 0
  have n1 : w2.cell? ⟨w1.heap.size, 1, none⟩ = some (.string nek) := HN2.out.cell 1
  have n2 : w2.cell? ⟨w1.heap.size, 2, none⟩ = some (.int .i64 nes) := HN2.out.cell 2
  have n3 : w2.cell? ⟨w1.heap.size, 3, none⟩ = some (.int .i64 neg) := HN2.out.cell 3
  have n4 : w2.cell? ⟨w1.heap.size, 4, none⟩ = some (.int .i64 nec) := HN2.out.cell 4
  have n5 : w2.cell? ⟨w1.heap.size, 5, none⟩ = some (.string nkey) := HN2.out.cell 5
  have n6 : w2.cell? ⟨w1.heap.size, 6, none⟩ = some (.int .i64 npg) := HN2.out.cell 6
  have n7 : w2.cell? ⟨w1.heap.size, 7, none⟩ = some (.bool nleaf) := HN2.out.cell 7
  have n8 : w2.cell? ⟨w1.heap.size, 8, none⟩ = some (.string nlo) := HN2.out.cell 8
  have n9 : w2.cell? ⟨w1.heap.size, 9, none⟩ = some (.string nhi) := HN2.out.cell 9
  have n10 : w2.cell? ⟨w1.heap.size, 10, none⟩ = some (.int .i64 nr) := HN2.out.cell 10
  have n11 : w2.cell? ⟨w1.heap.size, 11, none⟩ = some (.slice np nn nc) := HN2.out.cell 11
  cases t with
  | false =>
    have HF : Hid (v = 90) := by rw [Hid, ← HM.out, Bool.and_false]; rfl
    go_wp2
    go_ret
    exact ⟨by rw [HF.out]; rfl, HB2.out⟩
  | true =>
    go_wp2_with fail
    refine (HS.out _ HB2.out).mono ?_
    rintro e w3 ⟨rfl, hb3⟩
    have HB3 : Hid (Below w.heap.size w w3) := HB2.out.trans (hb3.mono HB2.out.size)
    clear hb3 hw2
    clear a0 a1 a2 a3 a4 a5 a6 a7 a8 a9 a10 a11
    clear n0 n1 n2 n3 n4 n5 n6 n7 n8 n9 n10 n11
    cases s with
    | false =>
      have HF : Hid (v = 90) := HM.out.symm
      go_wp2
      go_ret
      exact ⟨by rw [HF.out]; rfl, HB3.out⟩
    | true =>
      have HF : Hid (v = 0) := HM.out.symm
      go_wp2
      go_ret
      exact ⟨by rw [HF.out]; rfl, HB3.out⟩

end Go.Proofs.YthpilennljpamaaGreat

namespace Go.Proofs.YthpilennljpamaaGreat
open Go.RowKit Go.Sort
set_option linter.unusedVariables false
set_option maxRecDepth 100000

/-- Three appends to a row of the call's own, whatever is made between them. -/
theorem app_one {w0 : World} {B0 : Nat} (hB0 : B0 ≤ w0.heap.size) {l l2 : List En} {p : Option Addr} {m c : Nat} (hm : l2.length = m) (hens : ∀ W, Below w0.heap.size w0 W → Ens W p l2) (hnil : p = none → m = 0 ∧ c = 0) (hb : (l.length + m) * 40 ≤ 140737488355328) :
    ∀ W v, Below w0.heap.size w0 W → OwnE W w0.heap.size v l → ∃ v' W', (Builtin.append_ #[22, 22] 22 #[v, .slice p m c]).run Tryz.prog W = .ok v' W' ∧ OwnE W' w0.heap.size v' (l ++ l2) ∧ Below w0.heap.size w0 W' ∧ (v.ownBlock = none → Below W.heap.size W W') := by
  intro W v hW hv
  obtain ⟨v', W', hr, ho, hg, hk⟩ := run_appE W w0.heap.size 22 v l l2 p m c hm (hens W hW) hnil hv hb hW.size
  exact ⟨v', W', hr, ho, hW.grown hg hW.size (fun k hk => (World.ownsRow.lt hv k hk).1), fun h0 => (Below.refl _ W).grown hg (Nat.le_refl _) (fun k hk => by rw [h0] at hk; cases hk)⟩

theorem app_entry {w0 : World} {l : List En} {e : En} (hb : (l.length + 1) * 40 ≤ 140737488355328) :
    ∀ W v (E : Nat), Below w0.heap.size w0 W → OwnE W w0.heap.size v l → Ens W (some ⟨E, 0, none⟩) [e] → ∃ v' W', (Builtin.append_ #[22, 22] 22 #[v, .slice (some ⟨E, 0, none⟩) 1 1]).run Tryz.prog W = .ok v' W' ∧ OwnE W' w0.heap.size v' (l ++ [e]) ∧ Below w0.heap.size w0 W' := by
  intro W v E hW hv hE
  obtain ⟨v', W', hr, ho, hg, hk⟩ := run_appE W w0.heap.size 22 v l [e] (some ⟨E, 0, none⟩) 1 1 rfl hE (fun h => by cases h) hv hb hW.size
  exact ⟨v', W', hr, ho, hW.grown hg hW.size (fun k hk => (World.ownsRow.lt hv k hk).1)⟩

set_option maxHeartbeats 16000000 in
theorem rput_any (leaf : Bool) (lo hi : ByteArray) (r : Int) (p : Option Addr) (len cap : Nat) (l : List En) (e : En) (w : World) (hlen : l.length = len) (hx : Ens w p l) (hl : len ≤ 3518437208782) (hp : p = none → len = 0 ∧ cap = 0) (hc : len ≤ cap) :
    Calls Tryz.prog 44 #[pgv leaf lo hi r p len cap, e.val] w fun x w' => ∃ v, x = .returned (.tuple #[v, .int .i64 (Pg.put ⟨leaf, lo, hi, r, l⟩ e).2]) ∧ PgAt w' w.heap.size v (Pg.put ⟨leaf, lo, hi, r, l⟩ e).1 ∧ Below w.heap.size w w' := by
  obtain ⟨w0, hw0⟩ : ∃ w0, ((w.alloc (.cells #[.bool leaf, .string lo, .string hi, .int .i64 r, .slice p len cap] 24)).alloc (.cells #[.string e.key, .int .i64 e.s, .int .i64 e.g, .int .i64 e.c] 30)).alloc (.cells zc 24) = w0 := ⟨_, rfl⟩
  have HB0 : Hid (Below w.heap.size w w0) := by rw [← hw0]; exact (((Below.refl _ _).alloc (Nat.le_refl _) _).alloc (by simp) _).alloc (by simp; omega) _
  have HK0 : Hid (Bk w0 w.heap.size 24 #[.bool leaf, .string lo, .string hi, .int .i64 r, .slice p len cap]) := by rw [← hw0]; exact ((Bk.new _ _ _).alloc _).alloc _
  have HE0 : Hid (Bk w0 (w.heap.size + 1) 30 #[.string e.key, .int .i64 e.s, .int .i64 e.g, .int .i64 e.c]) := by rw [← hw0]; exact (Bk.new1 _ _ _ _).alloc _
  have HR0 : Hid (Bk w0 (w.heap.size + 1 + 1) 24 zc) := by rw [← hw0]; exact Bk.new2 _ _ _ _ _
  have HX0 : Hid (Ens w0 p l) := hx.below HB0.out (Nat.le_refl _)
  have HL : Hid (l.length = len) := hlen
  have HP : Hid (p = none → len = 0 ∧ cap = 0) := hp
  clear hx hlen hp
  obtain ⟨out, hout⟩ : ∃ out, Pg.put ⟨leaf, lo, hi, r, l⟩ e = out := ⟨_, rfl⟩
  rw [hout]
  have HO : Hid (out = if Ky.inn ⟨lo, hi⟩ e.key then (⟨leaf, lo, hi, r, Pg.putL l e⟩, 0) else (Pg.zero, 73)) := hout.symm
  clear hout
  have a0 : w0.cell? ⟨w.heap.size, 0, none⟩ = some (.bool leaf) := HK0.out.cell 0
  have a1 : w0.cell? ⟨w.heap.size, 1, none⟩ = some (.string lo) := HK0.out.cell 1
  have a2 : w0.cell? ⟨w.heap.size, 2, none⟩ = some (.string hi) := HK0.out.cell 2
  have a3 : w0.cell? ⟨w.heap.size, 3, none⟩ = some (.int .i64 r) := HK0.out.cell 3
  have a4 : w0.cell? ⟨w.heap.size, 4, none⟩ = some (.slice p len cap) := HK0.out.cell 4
  have k0 : w0.cell? ⟨w.heap.size + 1, 0, none⟩ = some (.string e.key) := HE0.out.cell 0
  go_enter Tryz.func44, Tryz.ntmps44
  go_wp2_with fail
  refine (rhas_any leaf lo hi r p len cap _ e.key).mono ?_
  rintro x w1 ⟨rfl, hb1⟩
  have HB1 : Hid (Below w.heap.size w w1) := HB0.out.trans (hb1.mono HB0.out.size)
  have HK1 : Hid (Bk w1 w.heap.size 24 #[.bool leaf, .string lo, .string hi, .int .i64 r, .slice p len cap]) := HK0.out.below hb1 HK0.out.lt
  have HE1 : Hid (Bk w1 (w.heap.size + 1) 30 #[.string e.key, .int .i64 e.s, .int .i64 e.g, .int .i64 e.c]) := HE0.out.below hb1 HE0.out.lt
  have HR1 : Hid (Bk w1 (w.heap.size + 1 + 1) 24 zc) := HR0.out.below hb1 HR0.out.lt
  have HX1 : Hid (Ens w1 p l) := HX0.out.below hb1 (Nat.le_refl _)
  clear hb1 hw0 a0 a1 a2 a3 a4 k0 HB0 HK0 HE0 HR0 HX0
  cases hinn : Ky.inn ⟨lo, hi⟩ e.key with
  | false =>
    have HQ : Hid (out = (Pg.zero, 73)) := by
      have := HO.out
      rw [hinn] at this
      exact this
    clear hinn HO
    have b0 : w1.cell? ⟨w.heap.size + 1 + 1, 0, none⟩ = some (.bool false) := HR1.out.cell 0
    have f0 : w1.frozen? ⟨w.heap.size + 1 + 1, 0, none⟩ = false := HR1.out.frozen 0
    have b1 : w1.cell? ⟨w.heap.size + 1 + 1, 1, none⟩ = some (.string ⟨#[]⟩) := HR1.out.cell 1
    have f1 : w1.frozen? ⟨w.heap.size + 1 + 1, 1, none⟩ = false := HR1.out.frozen 1
    have b2 : w1.cell? ⟨w.heap.size + 1 + 1, 2, none⟩ = some (.string ⟨#[]⟩) := HR1.out.cell 2
    have f2 : w1.frozen? ⟨w.heap.size + 1 + 1, 2, none⟩ = false := HR1.out.frozen 2
    have b3 : w1.cell? ⟨w.heap.size + 1 + 1, 3, none⟩ = some (.int .i64 0) := HR1.out.cell 3
    have f3 : w1.frozen? ⟨w.heap.size + 1 + 1, 3, none⟩ = false := HR1.out.frozen 3
    have b4 : w1.cell? ⟨w.heap.size + 1 + 1, 4, none⟩ = some (.slice none 0 0) := HR1.out.cell 4
    have f4 : w1.frozen? ⟨w.heap.size + 1 + 1, 4, none⟩ = false := HR1.out.frozen 4
    go_wp2
    obtain ⟨we, hwe⟩ : ∃ we, we = put5 w1 (w.heap.size + 1 + 1) (.bool false) (.string ⟨#[]⟩) (.string ⟨#[]⟩) (.int .i64 0) (.slice none 0 0) := ⟨_, rfl⟩
    have hA : Bk we (w.heap.size + 1 + 1) 24 #[.bool false, .string ⟨#[]⟩, .string ⟨#[]⟩, .int .i64 0, .slice none 0 0] := by rw [hwe]; exact Bk.five HR1.out _ _ _ _ _
    have ht : Tn [w.heap.size + 1 + 1] w1 we := by rw [hwe]; exact (Tn.refl _ _).five (.inl (by simp)) _ _ _ _ _
    unfold put5 at hwe
    rw [← hwe]
    clear hwe
    refine bodyPost_ret (results_two (cs := [.bool false, .string ⟨#[]⟩, .string ⟨#[]⟩, .int .i64 0, .slice none 0 0]) rfl rfl pg_agg pg_size rfl hA) rfl ?_
    rw [HQ.out]
    exact ⟨_, rfl, PgAt.zero _ _, HB1.out.trans (ht.below HB1.out.size (by simp; omega))⟩
  | true =>
    have HO2 : Hid (out = (⟨leaf, lo, hi, r, Pg.putL l e⟩, 0)) := by
      have := HO.out
      rw [hinn] at this
      exact this
    clear hinn HO
    go_wp2_with fail
    go_loopw [6, 7] (fun lv iv wr => ∃ j : Nat, j ≤ len ∧ lv = .slice none 0 0 ∧ iv = .int .i64 j ∧ Hid (j ≤ l.findIdx (Pg.is e.key) ∧ Below w1.heap.size w1 wr)) (fun _ iv _ => len - (intOf iv).toNat)
    case atStart => exact ⟨0, Nat.zero_le _, rfl, rfl, Nat.zero_le _, Below.refl _ _⟩
    case round =>
      obtain ⟨j, hj, rfl, rfl, HF⟩ := hrel
      have a4 : wr.cell? ⟨w.heap.size, 4, none⟩ = some (.slice p len cap) := (HK1.out.below HF.out.2 HK1.out.lt).cell 4
      have k0 : wr.cell? ⟨w.heap.size + 1, 0, none⟩ = some (.string e.key) := (HE1.out.below HF.out.2 HE1.out.lt).cell 0
      by_cases hlt : j < len
      · have hli : (j : Int) < (len : Int) := by omega
        have hj0 : (0 : Int) ≤ (j : Int) := by omega
        obtain ⟨b, o, x, rfl, hgx, -, x0, -, -, -⟩ := (HX1.out.below HF.out.2 (Nat.le_refl _)).at (j := j) (by have := HL.out; omega)
        have HG : Hid (l[j]? = some x) := hgx
        clear hgx
        cases hq : Pg.is e.key x with
        | true =>
          have hqs : (x.key.toList == e.key.toList) = true := hq
          have HQ : Hid (out = (⟨leaf, lo, hi, r, l.take j ++ [e] ++ l.drop (j + 1)⟩, 0)) := by
            have := HO2.out
            unfold Pg.putL at this
            rw [any_hit HG.out hq, findIdx_hit HF.out.1 HG.out hq, if_pos rfl, List.set_eq_take_append_cons_drop, if_pos (by have := HL.out; omega)] at this
            rw [Hid, this]
            simp
          clear hq
          go_wp2_with fail
          go_quiet (fail)
          have HW9 : Hid (Below w1.heap.size w1 (wr.drewN nq)) := below_drewN HF.out.2 nq
          generalize wr.drewN nq = wq at HW9 ⊢
          clear a4 k0 x0 HF HO2
          obtain ⟨a7, ha7⟩ : ∃ a7 : Addr, (if cap = j + 1 then some (⟨b, o, none⟩ : Addr) else some ⟨b, o + (j + 1) * 4, none⟩) = some a7 := by split <;> exact ⟨_, rfl⟩
          have HREST : Hid (∀ W, Below wq.heap.size wq W → Ens W (some a7) (l.drop (j + 1))) := fun W hW => by
            by_cases hlast : len = j + 1
            · rw [List.drop_of_length_le (by have := HL.out; omega)]
              exact Ens.nil _ _
            · rw [if_neg (by omega)] at ha7
              obtain rfl := Option.some.inj ha7
              exact ((HX1.out.below (HW9.out.trans (hW.mono HW9.out.size)) (Nat.le_refl _)).drop (j + 1))
          have E7 : Hid ((if cap = j + 1 then some (⟨b, o, none⟩ : Addr) else some ⟨b, o + (j + 1) * 4, none⟩) = some a7) := ha7
          have e6 : (0 : Int) ≤ (j : Int) + 1 := by omega
          have e1 : (j : Int) ≤ (len : Int) := by omega
          have e2 : (j : Int) ≤ (cap : Int) := by omega
          have e4 : (j : Int) + 1 ≤ (len : Int) := by omega
          clear ha7
          go_wp2_with fail
          have HS : Hid (∀ w', Below wq.heap.size wq w' → w'.cell? ⟨w.heap.size, 4, none⟩ = some (.slice (some ⟨b, o, none⟩) len cap) ∧ w'.cell? ⟨w.heap.size + 1, 0, none⟩ = some (.string e.key) ∧ w'.cell? ⟨w.heap.size + 1, 1, none⟩ = some (.int .i64 e.s) ∧ w'.cell? ⟨w.heap.size + 1, 2, none⟩ = some (.int .i64 e.g) ∧ w'.cell? ⟨w.heap.size + 1, 3, none⟩ = some (.int .i64 e.c)) := fun w' hW => by
            have h1 := HW9.out.trans (hW.mono HW9.out.size)
            have h2 := HK1.out.below h1 HK1.out.lt
            have h3 := HE1.out.below h1 HE1.out.lt
            exact ⟨h2.cell 4, h3.cell 0, h3.cell 1, h3.cell 2, h3.cell 3⟩
          have HA1 : Hid _ := app_one (w0 := wq) (B0 := 0) (Nat.zero_le _) (l := []) (l2 := l.take j) (p := (some ⟨b, o, none⟩)) (m := j) (c := cap) (by rw [List.length_take]; have := HL.out; omega) (fun W' hW' => (HX1.out.below (HW9.out.trans (hW'.mono HW9.out.size)) (Nat.le_refl _)).take j) (fun h => by cases h) (by first | (simp; done) | (simp; omega) | (have := HL.out; simp; omega))
          have HA2 : Hid _ := app_entry (w0 := wq) (l := [] ++ l.take j) (e := e) (by first | (simp; done) | (simp; omega) | (have := HL.out; simp; omega))
          have HA3 : Hid _ := app_one (w0 := wq) (B0 := 0) (Nat.zero_le _) (l := [] ++ l.take j ++ [e]) (l2 := l.drop (j + 1)) (p := (some a7)) (m := (len - (j + 1))) (c := (cap - (j + 1))) (by rw [List.length_drop, HL.out]; try omega) (fun W' hW' => HREST.out W' hW') (fun h => by cases h) (by have := HL.out; first | (simp; done) | (simp; omega))
          have hS := HS.out wq.drew (Below.refl _ _).drew
          have hbD : Below wq.heap.size wq wq.drew := (Below.refl _ _).drew
          refine wp_region_mid (S := (fun w' => w'.cell? ⟨w.heap.size, 4, none⟩ = some (.slice (some ⟨b, o, none⟩) len cap) ∧ w'.cell? ⟨w.heap.size + 1, 0, none⟩ = some (.string e.key) ∧ w'.cell? ⟨w.heap.size + 1, 1, none⟩ = some (.int .i64 e.s) ∧ w'.cell? ⟨w.heap.size + 1, 2, none⟩ = some (.int .i64 e.g) ∧ w'.cell? ⟨w.heap.size + 1, 3, none⟩ = some (.int .i64 e.c))) 15 (by kernel_rfl) ?_
          refine wpAnyM_take (i := 0) [] (oi := { dst := some 31, op := Op.move (Operand.tmp 6), type := 22, pos := _, after := #[], guard := none }) (v := .slice none 0 0) rfl (by kernel_rfl) (by kernel_rfl) (by kernel_rfl) (by kernel_rfl) (fun _ _ _ h => h) (Or.inl ⟨by rfl, ?_⟩) hS ?_
          · (intro w' hSw; obtain ⟨m0, m1, m2, m3, m4⟩ := hSw; go_simp; try with_reducible rfl)
          try simp only [Act.put, List.setIfInBounds_toArray, List.set_cons_zero, List.set_cons_succ]
          refine wpAnyM_take (i := 1) [] (oi := { dst := some 32, op := Op.fieldAddr 24 (Operand.tmp 2) 4, type := 0, pos := _, after := #[], guard := none }) (v := ?_) rfl (by kernel_rfl) (by kernel_rfl) (by kernel_rfl) (by kernel_rfl) (fun _ _ _ h => h) (Or.inl ⟨by rfl, ?_⟩) hS ?_
          rotate_left
          · (intro w' hSw; obtain ⟨m0, m1, m2, m3, m4⟩ := hSw; go_simp; try with_reducible rfl)
          try simp only [Act.put, List.setIfInBounds_toArray, List.set_cons_zero, List.set_cons_succ]
          refine wpAnyM_take (i := 2) [] (oi := { dst := some 33, op := Op.load 22 (Operand.tmp 32), type := 22, pos := _, after := #[{ on := 1, ground := Ground.data }], guard := none }) (v := .slice (some ⟨b, o, none⟩) len cap) rfl (by kernel_rfl) (by kernel_rfl) (by kernel_rfl) (by kernel_rfl) (fun _ _ _ h => h) (Or.inl ⟨by rfl, ?_⟩) hS ?_
          · (intro w' hSw; obtain ⟨m0, m1, m2, m3, m4⟩ := hSw; go_simp; try with_reducible rfl)
          try simp only [Act.put, List.setIfInBounds_toArray, List.set_cons_zero, List.set_cons_succ]
          refine wpAnyM_take (i := 3) [] (oi := { dst := some 34, op := Op.move (Operand.tmp 7), type := 3, pos := _, after := #[], guard := none }) (v := .int .i64 (j : Int)) rfl (by kernel_rfl) (by kernel_rfl) (by kernel_rfl) (by kernel_rfl) (fun _ _ _ h => h) (Or.inl ⟨by rfl, ?_⟩) hS ?_
          · (intro w' hSw; obtain ⟨m0, m1, m2, m3, m4⟩ := hSw; go_simp; try with_reducible rfl)
          try simp only [Act.put, List.setIfInBounds_toArray, List.set_cons_zero, List.set_cons_succ]
          refine wpAnyM_take (i := 4) [] (oi := { dst := some 35, op := Op.slice 22 (Operand.tmp 33) none (some (Operand.tmp 34)) none, type := 22, pos := _, after := #[{ on := 2, ground := Ground.data }, { on := 3, ground := Ground.data }], guard := none }) (v := .slice (some ⟨b, o, none⟩) j cap) rfl (by kernel_rfl) (by kernel_rfl) (by kernel_rfl) (by kernel_rfl) (fun _ _ _ h => h) (Or.inl ⟨by rfl, ?_⟩) hS ?_
          · (intro w' hSw; obtain ⟨m0, m1, m2, m3, m4⟩ := hSw; go_simp; try with_reducible rfl)
          try simp only [Act.put, List.setIfInBounds_toArray, List.set_cons_zero, List.set_cons_succ]
          refine wpAnyM_take (i := 6) [] (oi := { dst := some 37, op := Op.load 30 (Operand.tmp 3), type := 30, pos := _, after := #[], guard := none }) (v := .agg #[.string e.key, .int .i64 e.s, .int .i64 e.g, .int .i64 e.c]) rfl (by kernel_rfl) (by kernel_rfl) (by kernel_rfl) (by kernel_rfl) (fun _ _ _ h => h) (Or.inl ⟨by rfl, ?_⟩) hS ?_
          · (intro w' hSw; obtain ⟨m0, m1, m2, m3, m4⟩ := hSw; go_simp; try with_reducible rfl)
          try simp only [Act.put, List.setIfInBounds_toArray, List.set_cons_zero, List.set_cons_succ]
          refine wpAnyM_take (i := 9) [] (oi := { dst := some 40, op := Op.fieldAddr 24 (Operand.tmp 2) 4, type := 0, pos := _, after := #[], guard := none }) (v := ?_) rfl (by kernel_rfl) (by kernel_rfl) (by kernel_rfl) (by kernel_rfl) (fun _ _ _ h => h) (Or.inl ⟨by rfl, ?_⟩) hS ?_
          rotate_left
          · (intro w' hSw; obtain ⟨m0, m1, m2, m3, m4⟩ := hSw; go_simp; try with_reducible rfl)
          try simp only [Act.put, List.setIfInBounds_toArray, List.set_cons_zero, List.set_cons_succ]
          refine wpAnyM_take (i := 10) [] (oi := { dst := some 41, op := Op.load 22 (Operand.tmp 40), type := 22, pos := _, after := #[{ on := 9, ground := Ground.data }], guard := none }) (v := .slice (some ⟨b, o, none⟩) len cap) rfl (by kernel_rfl) (by kernel_rfl) (by kernel_rfl) (by kernel_rfl) (fun _ _ _ h => h) (Or.inl ⟨by rfl, ?_⟩) hS ?_
          · (intro w' hSw; obtain ⟨m0, m1, m2, m3, m4⟩ := hSw; go_simp; try with_reducible rfl)
          try simp only [Act.put, List.setIfInBounds_toArray, List.set_cons_zero, List.set_cons_succ]
          refine wpAnyM_take (i := 11) [] (oi := { dst := some 42, op := Op.move (Operand.tmp 7), type := 3, pos := _, after := #[], guard := none }) (v := .int .i64 (j : Int)) rfl (by kernel_rfl) (by kernel_rfl) (by kernel_rfl) (by kernel_rfl) (fun _ _ _ h => h) (Or.inl ⟨by rfl, ?_⟩) hS ?_
          · (intro w' hSw; obtain ⟨m0, m1, m2, m3, m4⟩ := hSw; go_simp; try with_reducible rfl)
          try simp only [Act.put, List.setIfInBounds_toArray, List.set_cons_zero, List.set_cons_succ]
          refine wpAnyM_take (i := 12) [] (oi := { dst := some 43, op := Op.binOp BinOp.add 3 (Operand.tmp 42) (Operand.const (Value.int IntKind.i64 1)) 3, type := 3, pos := _, after := #[{ on := 11, ground := Ground.data }], guard := none }) (v := .int .i64 ((j : Int) + 1)) rfl (by kernel_rfl) (by kernel_rfl) (by kernel_rfl) (by kernel_rfl) (fun _ _ _ h => h) (Or.inl ⟨by rfl, ?_⟩) hS ?_
          · (intro w' hSw; obtain ⟨m0, m1, m2, m3, m4⟩ := hSw; go_simp; exact wrap_id9 (by omega))
          try simp only [Act.put, List.setIfInBounds_toArray, List.set_cons_zero, List.set_cons_succ]
          refine wpAnyM_take (i := 13) [] (oi := { dst := some 44, op := Op.slice 22 (Operand.tmp 41) (some (Operand.tmp 43)) none none, type := 22, pos := _, after := #[{ on := 10, ground := Ground.data }, { on := 12, ground := Ground.data }], guard := none }) (v := .slice (some a7) (len - (j + 1)) (cap - (j + 1))) rfl (by kernel_rfl) (by kernel_rfl) (by kernel_rfl) (by kernel_rfl) (fun _ _ _ h => h) (Or.inl ⟨by rfl, ?_⟩) hS ?_
          · (intro w' hSw; obtain ⟨m0, m1, m2, m3, m4⟩ := hSw; go_simp; exact E7.out)
          try simp only [Act.put, List.setIfInBounds_toArray, List.set_cons_zero, List.set_cons_succ]
          refine wpAnyM_ready (rs := [5, 7]) (by kernel_rfl) (by simp) ?_
          refine AllReadyM.cons (o := { dst := some 36, op := Op.call { callee := Callee.builtin Builtin.append, args := #[Operand.tmp 31, Operand.tmp 35], argTypes := #[22, 22] }, type := 22, pos := _, after := #[{ on := 0, ground := Ground.data }, { on := 4, ground := Ground.data }], guard := none }) rfl (fun K hK => ?_) (AllReadyM.cons (o := { dst := some 38, op := Op.buildSlice 22 1 #[(0, Operand.tmp 37)], type := 22, pos := _, after := #[{ on := 6, ground := Ground.data }], guard := none }) rfl (fun K hK => ?_) AllReadyM.nil)
          · have HK9' : Hid (∀ a w, _ → K a w) := hK
            clear hK
            obtain ⟨v1, w6, hr1, ho1, hb6, -⟩ := HA1.out _ (.slice none 0 0) hbD (OwnE.nil _ _)
            refine step_appR rfl _ _ _ rfl _ _ rfl rfl hr1 ?_
            refine HK9'.out _ _ ⟨fun _ => HS.out _ hb6, ?_⟩
            clear HK9' K
            try simp only [Act.put, List.setIfInBounds_toArray, List.set_cons_zero, List.set_cons_succ]
            refine wpAnyM_ready (rs := [7]) (by kernel_rfl) (by simp) ?_
            refine AllReadyM.cons (o := { dst := some 38, op := Op.buildSlice 22 1 #[(0, Operand.tmp 37)], type := 22, pos := _, after := #[{ on := 6, ground := Ground.data }], guard := none }) rfl (fun K hK => ?_) AllReadyM.nil
            have HK9 : Hid (∀ a w, _ → K a w) := hK
            clear hK
            go_simp
            have hb6' : Below wq.heap.size wq (w6.alloc (.cells #[.string e.key, .int .i64 e.s, .int .i64 e.g, .int .i64 e.c] 30)) := hb6.alloc hb6.size _
            refine HK9.out _ _ ⟨fun _ => HS.out _ hb6', ?_⟩
            clear HK9 K
            try simp only [Act.put, List.setIfInBounds_toArray, List.set_cons_zero, List.set_cons_succ]
            have ho1' := ho1.below ((Below.refl _ w6).alloc (Nat.le_refl _) (.cells #[.string e.key, .int .i64 e.s, .int .i64 e.g, .int .i64 e.c] 30)) (Nat.le_refl _)
            refine wpAnyM_ready (rs := [8]) (by kernel_rfl) (by simp) ?_
            refine AllReadyM.cons (o := { dst := some 39, op := Op.call { callee := Callee.builtin Builtin.append, args := #[Operand.tmp 36, Operand.tmp 38], argTypes := #[22, 22] }, type := 22, pos := _, after := #[{ on := 5, ground := Ground.data }, { on := 7, ground := Ground.data }, { on := 5, ground := Ground.chain }], guard := none }) rfl (fun K hK => ?_) AllReadyM.nil
            have HK9 : Hid (∀ a w, _ → K a w) := hK
            clear hK
            obtain ⟨v2, w7, hr2, ho2, hb7⟩ := HA2.out _ v1 w6.heap.size hb6' ho1' (ens_one w6 e)
            refine step_appR rfl _ _ _ rfl _ _ rfl (by go_simp) hr2 ?_
            refine HK9.out _ _ ⟨fun _ => HS.out _ hb7, ?_⟩
            clear HK9 K
            try simp only [Act.put, List.setIfInBounds_toArray, List.set_cons_zero, List.set_cons_succ]
            refine wpAnyM_ready (rs := [14]) (by kernel_rfl) (by simp) ?_
            refine AllReadyM.cons (o := { dst := some 45, op := Op.call { callee := Callee.builtin Builtin.append, args := #[Operand.tmp 39, Operand.tmp 44], argTypes := #[22, 22] }, type := 22, pos := _, after := #[{ on := 8, ground := Ground.data }, { on := 13, ground := Ground.data }, { on := 8, ground := Ground.chain }], guard := none }) rfl (fun K hK => ?_) AllReadyM.nil
            have HK9 : Hid (∀ a w, _ → K a w) := hK
            clear hK
            obtain ⟨v3, w8, hr3, ho3, hb8, -⟩ := HA3.out _ v2 hb7 ho2
            refine step_appR rfl _ _ _ rfl _ _ rfl rfl hr3 ?_
            refine HK9.out _ _ ⟨fun _ => HS.out _ hb8, ?_⟩
            clear HK9 K
            try simp only [Act.put, List.setIfInBounds_toArray, List.set_cons_zero, List.set_cons_succ]
            obtain ⟨q9, c9, hv9, -, -⟩ := ho3.ens
            subst hv9
            have HO8 : Hid (OwnE w8 wq.heap.size (.slice q9 ([] ++ l.take j ++ [e] ++ l.drop (j + 1)).length c9) ([] ++ l.take j ++ [e] ++ l.drop (j + 1))) := ho3
            have hln : ([] ++ l.take j ++ [e] ++ l.drop (j + 1)).length = len := by have := HL.out; first | (simp; done) | (simp; omega) | (simp [List.eq_nil_of_length_eq_zero HL.out])
            rw [hln] at HO8
            rw [hln]
            clear hln
            have HB8 : Hid (Below w1.heap.size w1 w8) := HW9.out.trans (hb8.mono HW9.out.size)
            have hk8 := HK1.out.below HB8.out HK1.out.lt
            have hz8 := HR1.out.below HB8.out HR1.out.lt
            have a4' : w8.cell? ⟨w.heap.size, 4, none⟩ = some (.slice (some ⟨b, o, none⟩) len cap) := hk8.cell 4
            have z4' : w8.frozen? ⟨w.heap.size, 4, none⟩ = false := hk8.frozen 4
            refine wpAnyM_ready (rs := [15]) (by kernel_rfl) (by simp) ?_
            refine AllReadyM.cons (o := { dst := some 6, op := Op.assign (Operand.tmp 45), type := 22, pos := _, after := #[{ on := 14, ground := Ground.data }, { on := 14, ground := Ground.chain }, { on := 0, ground := Ground.phase }, { on := 1, ground := Ground.phase }, { on := 2, ground := Ground.phase }, { on := 3, ground := Ground.phase }, { on := 4, ground := Ground.phase }, { on := 5, ground := Ground.phase }, { on := 6, ground := Ground.phase }, { on := 7, ground := Ground.phase }, { on := 8, ground := Ground.phase }, { on := 9, ground := Ground.phase }, { on := 10, ground := Ground.phase }, { on := 11, ground := Ground.phase }, { on := 12, ground := Ground.phase }, { on := 13, ground := Ground.phase }, { on := 14, ground := Ground.phase }], guard := none }) rfl (fun K hK => ?_) AllReadyM.nil
            have HK9 : Hid (∀ a w, _ → K a w) := hK
            clear hK
            go_simp
            refine HK9.out _ _ ⟨fun h => absurd h (by omega), ?_⟩
            clear HK9 K
            try simp only [Act.put, List.setIfInBounds_toArray, List.set_cons_zero, List.set_cons_succ]
            refine wpAnyM_done (by kernel_rfl) ?_ _
            obtain ⟨w9, hw9⟩ : ∃ w9, w8.setCell ⟨w.heap.size, 4, none⟩ (.slice q9 len c9) = w9 := ⟨_, rfl⟩
            have hk9 : Bk w9 w.heap.size 24 #[.bool leaf, .string lo, .string hi, .int .i64 r, .slice q9 len c9] := by rw [← hw9]; exact hk8.set 4 _
            have hr9 : Bk w9 (w.heap.size + 1 + 1) 24 zc := by rw [← hw9]; exact hz8.other (by simp; omega) _
            have ht9 : Tn [w.heap.size] w8 w9 := by rw [← hw9]; exact (Tn.refl _ _).setCell (.inl (by simp)) _
            clear hS
            have a0 : w9.cell? ⟨w.heap.size, 0, none⟩ = some (.bool leaf) := hk9.cell 0
            have a1 : w9.cell? ⟨w.heap.size, 1, none⟩ = some (.string lo) := hk9.cell 1
            have a2 : w9.cell? ⟨w.heap.size, 2, none⟩ = some (.string hi) := hk9.cell 2
            have a3 : w9.cell? ⟨w.heap.size, 3, none⟩ = some (.int .i64 r) := hk9.cell 3
            have a4 : w9.cell? ⟨w.heap.size, 4, none⟩ = some (.slice q9 len c9) := hk9.cell 4
            have b0 : w9.cell? ⟨w.heap.size + 1 + 1, 0, none⟩ = some (.bool false) := hr9.cell 0
            have f0 : w9.frozen? ⟨w.heap.size + 1 + 1, 0, none⟩ = false := hr9.frozen 0
            have b1 : w9.cell? ⟨w.heap.size + 1 + 1, 1, none⟩ = some (.string ⟨#[]⟩) := hr9.cell 1
            have f1 : w9.frozen? ⟨w.heap.size + 1 + 1, 1, none⟩ = false := hr9.frozen 1
            have b2 : w9.cell? ⟨w.heap.size + 1 + 1, 2, none⟩ = some (.string ⟨#[]⟩) := hr9.cell 2
            have f2 : w9.frozen? ⟨w.heap.size + 1 + 1, 2, none⟩ = false := hr9.frozen 2
            have b3 : w9.cell? ⟨w.heap.size + 1 + 1, 3, none⟩ = some (.int .i64 0) := hr9.cell 3
            have f3 : w9.frozen? ⟨w.heap.size + 1 + 1, 3, none⟩ = false := hr9.frozen 3
            have b4 : w9.cell? ⟨w.heap.size + 1 + 1, 4, none⟩ = some (.slice none 0 0) := hr9.cell 4
            have f4 : w9.frozen? ⟨w.heap.size + 1 + 1, 4, none⟩ = false := hr9.frozen 4
            have HR9 : Hid (Bk w9 (w.heap.size + 1 + 1) 24 zc) := hr9
            have HT9 : Hid (Tn [w.heap.size] w8 w9) := ht9
            clear hk9 hr9 ht9
            go_wp2
            obtain ⟨we, hwe⟩ : ∃ we, we = put5 w9 (w.heap.size + 1 + 1) (.bool leaf) (.string lo) (.string hi) (.int .i64 r) (.slice q9 len c9) := ⟨_, rfl⟩
            have hA : Bk we (w.heap.size + 1 + 1) 24 #[.bool leaf, .string lo, .string hi, .int .i64 r, .slice q9 len c9] := by rw [hwe]; exact Bk.five HR9.out _ _ _ _ _
            have ht : Tn [w.heap.size + 1 + 1] w9 we := by rw [hwe]; exact (Tn.refl _ _).five (.inl (by simp)) _ _ _ _ _
            unfold put5 at hwe
            rw [← hwe]
            clear hwe
            refine bodyPost_ret (results_two (cs := [.bool leaf, .string lo, .string hi, .int .i64 r, .slice q9 len c9]) rfl rfl pg_agg pg_size rfl hA) rfl ?_
            rw [HQ.out]
            have hs0 := HR1.out.lt
            have t8 : Tn [w.heap.size, w.heap.size + 1 + 1] w8 we := (HT9.out.mono (by simp)).trans ht (by simp)
            have hB8 := HB1.out.trans (HB8.out.mono HB1.out.size)
            have hsw := HW9.out.size
            have hdl : (l.take j ++ [e] ++ l.drop (j + 1)).length = len := by have := HL.out; first | (simp; done) | (simp; omega) | (simp [List.eq_nil_of_length_eq_zero HL.out])
            refine ⟨_, rfl, ⟨q9, c9, by simp only [hdl], ?_⟩, hB8.trans (t8.below hB8.size (by simp; omega))⟩
            simp only [hdl]
            have hsg := (HO8.out.seg).tn t8 (by intro y hy; simp at hy; omega)
            have hsb := HB1.out.size
            exact (show Seg we wq.heap.size q9 (len) c9 (l.take j ++ [e] ++ l.drop (j + 1)) by simpa using hsg).mono (by omega)
          · have HK9' : Hid (∀ a w, _ → K a w) := hK
            clear hK
            go_simp
            have hbE : Below wq.heap.size wq (wq.drew.alloc (.cells #[.string e.key, .int .i64 e.s, .int .i64 e.g, .int .i64 e.c] 30)) := hbD.alloc (Nat.le_refl _) _
            refine HK9'.out _ _ ⟨fun _ => HS.out _ hbE, ?_⟩
            clear HK9' K
            try simp only [Act.put, List.setIfInBounds_toArray, List.set_cons_zero, List.set_cons_succ]
            refine wpAnyM_ready (rs := [5]) (by kernel_rfl) (by simp) ?_
            refine AllReadyM.cons (o := { dst := some 36, op := Op.call { callee := Callee.builtin Builtin.append, args := #[Operand.tmp 31, Operand.tmp 35], argTypes := #[22, 22] }, type := 22, pos := _, after := #[{ on := 0, ground := Ground.data }, { on := 4, ground := Ground.data }], guard := none }) rfl (fun K hK => ?_) AllReadyM.nil
            have HK9 : Hid (∀ a w, _ → K a w) := hK
            clear hK
            obtain ⟨v1, w6, hr1, ho1, hb6, hb6E⟩ := HA1.out _ (.slice none 0 0) hbE (OwnE.nil _ _)
            refine step_appR rfl _ _ _ rfl _ _ rfl rfl hr1 ?_
            refine HK9.out _ _ ⟨fun _ => HS.out _ hb6, ?_⟩
            clear HK9 K
            try simp only [Act.put, List.setIfInBounds_toArray, List.set_cons_zero, List.set_cons_succ]
            have hent : Ens w6 (some ⟨wq.heap.size, 0, none⟩) [e] := (ens_one wq.drew e).below (hb6E rfl) (Nat.le_refl _)
            refine wpAnyM_ready (rs := [8]) (by kernel_rfl) (by simp) ?_
            refine AllReadyM.cons (o := { dst := some 39, op := Op.call { callee := Callee.builtin Builtin.append, args := #[Operand.tmp 36, Operand.tmp 38], argTypes := #[22, 22] }, type := 22, pos := _, after := #[{ on := 5, ground := Ground.data }, { on := 7, ground := Ground.data }, { on := 5, ground := Ground.chain }], guard := none }) rfl (fun K hK => ?_) AllReadyM.nil
            have HK9 : Hid (∀ a w, _ → K a w) := hK
            clear hK
            obtain ⟨v2, w7, hr2, ho2, hb7⟩ := HA2.out _ v1 wq.heap.size hb6 ho1 hent
            refine step_appR rfl _ _ _ rfl _ _ rfl (by go_simp) hr2 ?_
            refine HK9.out _ _ ⟨fun _ => HS.out _ hb7, ?_⟩
            clear HK9 K
            try simp only [Act.put, List.setIfInBounds_toArray, List.set_cons_zero, List.set_cons_succ]
            refine wpAnyM_ready (rs := [14]) (by kernel_rfl) (by simp) ?_
            refine AllReadyM.cons (o := { dst := some 45, op := Op.call { callee := Callee.builtin Builtin.append, args := #[Operand.tmp 39, Operand.tmp 44], argTypes := #[22, 22] }, type := 22, pos := _, after := #[{ on := 8, ground := Ground.data }, { on := 13, ground := Ground.data }, { on := 8, ground := Ground.chain }], guard := none }) rfl (fun K hK => ?_) AllReadyM.nil
            have HK9 : Hid (∀ a w, _ → K a w) := hK
            clear hK
            obtain ⟨v3, w8, hr3, ho3, hb8, -⟩ := HA3.out _ v2 hb7 ho2
            refine step_appR rfl _ _ _ rfl _ _ rfl rfl hr3 ?_
            refine HK9.out _ _ ⟨fun _ => HS.out _ hb8, ?_⟩
            clear HK9 K
            try simp only [Act.put, List.setIfInBounds_toArray, List.set_cons_zero, List.set_cons_succ]
            obtain ⟨q9, c9, hv9, -, -⟩ := ho3.ens
            subst hv9
            have HO8 : Hid (OwnE w8 wq.heap.size (.slice q9 ([] ++ l.take j ++ [e] ++ l.drop (j + 1)).length c9) ([] ++ l.take j ++ [e] ++ l.drop (j + 1))) := ho3
            have hln : ([] ++ l.take j ++ [e] ++ l.drop (j + 1)).length = len := by have := HL.out; first | (simp; done) | (simp; omega) | (simp [List.eq_nil_of_length_eq_zero HL.out])
            rw [hln] at HO8
            rw [hln]
            clear hln
            have HB8 : Hid (Below w1.heap.size w1 w8) := HW9.out.trans (hb8.mono HW9.out.size)
            have hk8 := HK1.out.below HB8.out HK1.out.lt
            have hz8 := HR1.out.below HB8.out HR1.out.lt
            have a4' : w8.cell? ⟨w.heap.size, 4, none⟩ = some (.slice (some ⟨b, o, none⟩) len cap) := hk8.cell 4
            have z4' : w8.frozen? ⟨w.heap.size, 4, none⟩ = false := hk8.frozen 4
            refine wpAnyM_ready (rs := [15]) (by kernel_rfl) (by simp) ?_
            refine AllReadyM.cons (o := { dst := some 6, op := Op.assign (Operand.tmp 45), type := 22, pos := _, after := #[{ on := 14, ground := Ground.data }, { on := 14, ground := Ground.chain }, { on := 0, ground := Ground.phase }, { on := 1, ground := Ground.phase }, { on := 2, ground := Ground.phase }, { on := 3, ground := Ground.phase }, { on := 4, ground := Ground.phase }, { on := 5, ground := Ground.phase }, { on := 6, ground := Ground.phase }, { on := 7, ground := Ground.phase }, { on := 8, ground := Ground.phase }, { on := 9, ground := Ground.phase }, { on := 10, ground := Ground.phase }, { on := 11, ground := Ground.phase }, { on := 12, ground := Ground.phase }, { on := 13, ground := Ground.phase }, { on := 14, ground := Ground.phase }], guard := none }) rfl (fun K hK => ?_) AllReadyM.nil
            have HK9 : Hid (∀ a w, _ → K a w) := hK
            clear hK
            go_simp
            refine HK9.out _ _ ⟨fun h => absurd h (by omega), ?_⟩
            clear HK9 K
            try simp only [Act.put, List.setIfInBounds_toArray, List.set_cons_zero, List.set_cons_succ]
            refine wpAnyM_done (by kernel_rfl) ?_ _
            obtain ⟨w9, hw9⟩ : ∃ w9, w8.setCell ⟨w.heap.size, 4, none⟩ (.slice q9 len c9) = w9 := ⟨_, rfl⟩
            have hk9 : Bk w9 w.heap.size 24 #[.bool leaf, .string lo, .string hi, .int .i64 r, .slice q9 len c9] := by rw [← hw9]; exact hk8.set 4 _
            have hr9 : Bk w9 (w.heap.size + 1 + 1) 24 zc := by rw [← hw9]; exact hz8.other (by simp; omega) _
            have ht9 : Tn [w.heap.size] w8 w9 := by rw [← hw9]; exact (Tn.refl _ _).setCell (.inl (by simp)) _
            clear hS
            have a0 : w9.cell? ⟨w.heap.size, 0, none⟩ = some (.bool leaf) := hk9.cell 0
            have a1 : w9.cell? ⟨w.heap.size, 1, none⟩ = some (.string lo) := hk9.cell 1
            have a2 : w9.cell? ⟨w.heap.size, 2, none⟩ = some (.string hi) := hk9.cell 2
            have a3 : w9.cell? ⟨w.heap.size, 3, none⟩ = some (.int .i64 r) := hk9.cell 3
            have a4 : w9.cell? ⟨w.heap.size, 4, none⟩ = some (.slice q9 len c9) := hk9.cell 4
            have b0 : w9.cell? ⟨w.heap.size + 1 + 1, 0, none⟩ = some (.bool false) := hr9.cell 0
            have f0 : w9.frozen? ⟨w.heap.size + 1 + 1, 0, none⟩ = false := hr9.frozen 0
            have b1 : w9.cell? ⟨w.heap.size + 1 + 1, 1, none⟩ = some (.string ⟨#[]⟩) := hr9.cell 1
            have f1 : w9.frozen? ⟨w.heap.size + 1 + 1, 1, none⟩ = false := hr9.frozen 1
            have b2 : w9.cell? ⟨w.heap.size + 1 + 1, 2, none⟩ = some (.string ⟨#[]⟩) := hr9.cell 2
            have f2 : w9.frozen? ⟨w.heap.size + 1 + 1, 2, none⟩ = false := hr9.frozen 2
            have b3 : w9.cell? ⟨w.heap.size + 1 + 1, 3, none⟩ = some (.int .i64 0) := hr9.cell 3
            have f3 : w9.frozen? ⟨w.heap.size + 1 + 1, 3, none⟩ = false := hr9.frozen 3
            have b4 : w9.cell? ⟨w.heap.size + 1 + 1, 4, none⟩ = some (.slice none 0 0) := hr9.cell 4
            have f4 : w9.frozen? ⟨w.heap.size + 1 + 1, 4, none⟩ = false := hr9.frozen 4
            have HR9 : Hid (Bk w9 (w.heap.size + 1 + 1) 24 zc) := hr9
            have HT9 : Hid (Tn [w.heap.size] w8 w9) := ht9
            clear hk9 hr9 ht9
            go_wp2
            obtain ⟨we, hwe⟩ : ∃ we, we = put5 w9 (w.heap.size + 1 + 1) (.bool leaf) (.string lo) (.string hi) (.int .i64 r) (.slice q9 len c9) := ⟨_, rfl⟩
            have hA : Bk we (w.heap.size + 1 + 1) 24 #[.bool leaf, .string lo, .string hi, .int .i64 r, .slice q9 len c9] := by rw [hwe]; exact Bk.five HR9.out _ _ _ _ _
            have ht : Tn [w.heap.size + 1 + 1] w9 we := by rw [hwe]; exact (Tn.refl _ _).five (.inl (by simp)) _ _ _ _ _
            unfold put5 at hwe
            rw [← hwe]
            clear hwe
            refine bodyPost_ret (results_two (cs := [.bool leaf, .string lo, .string hi, .int .i64 r, .slice q9 len c9]) rfl rfl pg_agg pg_size rfl hA) rfl ?_
            rw [HQ.out]
            have hs0 := HR1.out.lt
            have t8 : Tn [w.heap.size, w.heap.size + 1 + 1] w8 we := (HT9.out.mono (by simp)).trans ht (by simp)
            have hB8 := HB1.out.trans (HB8.out.mono HB1.out.size)
            have hsw := HW9.out.size
            have hdl : (l.take j ++ [e] ++ l.drop (j + 1)).length = len := by have := HL.out; first | (simp; done) | (simp; omega) | (simp [List.eq_nil_of_length_eq_zero HL.out])
            refine ⟨_, rfl, ⟨q9, c9, by simp only [hdl], ?_⟩, hB8.trans (t8.below hB8.size (by simp; omega))⟩
            simp only [hdl]
            have hsg := (HO8.out.seg).tn t8 (by intro y hy; simp at hy; omega)
            have hsb := HB1.out.size
            exact (show Seg we wq.heap.size q9 (len) c9 (l.take j ++ [e] ++ l.drop (j + 1)) by simpa using hsg).mono (by omega)
        | false =>
          have hqs : (x.key.toList == e.key.toList) = false := hq
          have HF2 : Hid (j + 1 ≤ l.findIdx (Pg.is e.key)) := findIdx_miss HF.out.1 HG.out hq
          clear hq
          go_wp2_with fail
          go_quiet (fail)
          have HF3 : Hid (j + 1 ≤ l.findIdx (Pg.is e.key) ∧ Below w1.heap.size w1 (wr.drewN nq)) := ⟨HF2.out, below_drewN HF.out.2 nq⟩
          go_wp2
          go_roundw
          case rel => exact ⟨j + 1, by omega, rfl, by go_num, HF3⟩
          case measure => simp [intOf]; omega
      · have hli : ¬ (j : Int) < (len : Int) := by omega
        have HO3 : Hid (out = (⟨leaf, lo, hi, r, Pg.ins l (l.findIdx fun x => Ky.lt e.key x.key) e⟩, 0)) := by
          have := HO2.out
          unfold Pg.putL at this
          rw [findIdx_none (by have := HF.out.1; have := HL.out; omega)] at this
          exact this
        have HW : Hid (Below w1.heap.size w1 wr) := HF.out.2
        clear HF
        go_wp2_with fail
        clear a4 k0
        go_loopw [8] (fun iv wr => ∃ k : Nat, k ≤ len ∧ iv = .int .i64 k ∧ Hid (k ≤ l.findIdx (fun x => Ky.lt e.key x.key) ∧ Below w1.heap.size w1 wr)) (fun iv _ => len - (intOf iv).toNat)
        case atStart => exact ⟨0, Nat.zero_le _, rfl, Nat.zero_le _, HW.out⟩
        case round =>
          obtain ⟨k, hk, rfl, HF⟩ := hrel
          have a4 : wr.cell? ⟨w.heap.size, 4, none⟩ = some (.slice p len cap) := (HK1.out.below HF.out.2 HK1.out.lt).cell 4
          have k0 : wr.cell? ⟨w.heap.size + 1, 0, none⟩ = some (.string e.key) := (HE1.out.below HF.out.2 HE1.out.lt).cell 0
          by_cases hlt2 : k < len
          · have hli2 : (k : Int) < (len : Int) := by omega
            have hli3 : decide (k < len) = true := by simp [hlt2]
            have hk0 : (0 : Int) ≤ (k : Int) := by omega
            obtain ⟨b, o, x, rfl, hgx, -, x0, -, -, -⟩ := (HX1.out.below HF.out.2 (Nat.le_refl _)).at (j := k) (by have := HL.out; omega)
            have HG : Hid (l[k]? = some x) := hgx
            clear hgx
            cases hq : Ky.lt e.key x.key with
            | true =>
              have hle1 : Op.bytesLess x.key.toList e.key.toList = false := by
                cases h : Op.bytesLess x.key.toList e.key.toList with
                | false => rfl
                | true =>
                  have := Ky.less_trans _ _ _ hq h
                  rw [Ky.less_irrefl] at this
                  exact this.symm
              have hle2 : (x.key.toList == e.key.toList) = false := by
                cases h : (x.key.toList == e.key.toList) with
                | false => rfl
                | true =>
                  have h2 := hq
                  unfold Ky.lt at h2
                  rw [beq_iff_eq] at h
                  rw [h, Ky.less_irrefl] at h2
                  exact h2.symm
              have HK9 : Hid (l.findIdx (fun x => Ky.lt e.key x.key) = k) := findIdx_hit HF.out.1 HG.out hq
              clear hq
              go_wp2_with fail
              go_quiet (fail)
              have HW9 : Hid (Below w1.heap.size w1 (wr.drewN nq)) := below_drewN HF.out.2 nq
              generalize wr.drewN nq = wq at HW9 ⊢
              clear a4 k0 x0 HF
              have HQ : Hid (out = (⟨leaf, lo, hi, r, l.take k ++ [e] ++ l.drop k⟩, 0)) := by
                rw [Hid, HO3.out, HK9.out]
                simp [Pg.ins]
              obtain ⟨a7, ha7⟩ : ∃ a7 : Addr, (if cap = k then some (⟨b, o, none⟩ : Addr) else some ⟨b, o + k * 4, none⟩) = some a7 := by split <;> exact ⟨_, rfl⟩
              have HREST : Hid (∀ W, Below wq.heap.size wq W → Ens W (some a7) (l.drop k)) := fun W hW => by
                by_cases hlast : len = k
                · rw [List.drop_of_length_le (by have := HL.out; omega)]
                  exact Ens.nil _ _
                · rw [if_neg (by omega)] at ha7
                  obtain rfl := Option.some.inj ha7
                  exact ((HX1.out.below (HW9.out.trans (hW.mono HW9.out.size)) (Nat.le_refl _)).drop k)
              have E7 : Hid ((if cap = k then some (⟨b, o, none⟩ : Addr) else some ⟨b, o + k * 4, none⟩) = some a7) := ha7
              have e1 : (k : Int) ≤ (len : Int) := by omega
              have e2 : (k : Int) ≤ (cap : Int) := by omega
              have e5 : (0 : Int) ≤ (k : Int) := by omega
              clear ha7 HO2 HO3 HK9
              go_wp2_with fail
              have HS : Hid (∀ w', Below wq.heap.size wq w' → w'.cell? ⟨w.heap.size, 4, none⟩ = some (.slice (some ⟨b, o, none⟩) len cap) ∧ w'.cell? ⟨w.heap.size + 1, 0, none⟩ = some (.string e.key) ∧ w'.cell? ⟨w.heap.size + 1, 1, none⟩ = some (.int .i64 e.s) ∧ w'.cell? ⟨w.heap.size + 1, 2, none⟩ = some (.int .i64 e.g) ∧ w'.cell? ⟨w.heap.size + 1, 3, none⟩ = some (.int .i64 e.c)) := fun w' hW => by
                have h1 := HW9.out.trans (hW.mono HW9.out.size)
                have h2 := HK1.out.below h1 HK1.out.lt
                have h3 := HE1.out.below h1 HE1.out.lt
                exact ⟨h2.cell 4, h3.cell 0, h3.cell 1, h3.cell 2, h3.cell 3⟩
              have HA1 : Hid _ := app_one (w0 := wq) (B0 := 0) (Nat.zero_le _) (l := []) (l2 := l.take k) (p := (some ⟨b, o, none⟩)) (m := k) (c := cap) (by rw [List.length_take]; have := HL.out; omega) (fun W' hW' => (HX1.out.below (HW9.out.trans (hW'.mono HW9.out.size)) (Nat.le_refl _)).take k) (fun h => by cases h) (by first | (simp; done) | (simp; omega) | (have := HL.out; simp; omega))
              have HA2 : Hid _ := app_entry (w0 := wq) (l := [] ++ l.take k) (e := e) (by first | (simp; done) | (simp; omega) | (have := HL.out; simp; omega))
              have HA3 : Hid _ := app_one (w0 := wq) (B0 := 0) (Nat.zero_le _) (l := [] ++ l.take k ++ [e]) (l2 := l.drop k) (p := (some a7)) (m := (len - k)) (c := (cap - k)) (by rw [List.length_drop, HL.out]; try omega) (fun W' hW' => HREST.out W' hW') (fun h => by cases h) (by have := HL.out; first | (simp; done) | (simp; omega))
              have hS := HS.out wq.drew (Below.refl _ _).drew
              have hbD : Below wq.heap.size wq wq.drew := (Below.refl _ _).drew
              refine wp_region_mid (S := (fun w' => w'.cell? ⟨w.heap.size, 4, none⟩ = some (.slice (some ⟨b, o, none⟩) len cap) ∧ w'.cell? ⟨w.heap.size + 1, 0, none⟩ = some (.string e.key) ∧ w'.cell? ⟨w.heap.size + 1, 1, none⟩ = some (.int .i64 e.s) ∧ w'.cell? ⟨w.heap.size + 1, 2, none⟩ = some (.int .i64 e.g) ∧ w'.cell? ⟨w.heap.size + 1, 3, none⟩ = some (.int .i64 e.c))) 15 (by kernel_rfl) ?_
              refine wpAnyM_take (i := 0) [] (oi := { dst := some 67, op := Op.move (Operand.tmp 6), type := 22, pos := _, after := #[], guard := none }) (v := .slice none 0 0) rfl (by kernel_rfl) (by kernel_rfl) (by kernel_rfl) (by kernel_rfl) (fun _ _ _ h => h) (Or.inl ⟨by rfl, ?_⟩) hS ?_
              · (intro w' hSw; obtain ⟨m0, m1, m2, m3, m4⟩ := hSw; go_simp; try with_reducible rfl)
              try simp only [Act.put, List.setIfInBounds_toArray, List.set_cons_zero, List.set_cons_succ]
              refine wpAnyM_take (i := 1) [] (oi := { dst := some 68, op := Op.fieldAddr 24 (Operand.tmp 2) 4, type := 0, pos := _, after := #[], guard := none }) (v := ?_) rfl (by kernel_rfl) (by kernel_rfl) (by kernel_rfl) (by kernel_rfl) (fun _ _ _ h => h) (Or.inl ⟨by rfl, ?_⟩) hS ?_
              rotate_left
              · (intro w' hSw; obtain ⟨m0, m1, m2, m3, m4⟩ := hSw; go_simp; try with_reducible rfl)
              try simp only [Act.put, List.setIfInBounds_toArray, List.set_cons_zero, List.set_cons_succ]
              refine wpAnyM_take (i := 2) [] (oi := { dst := some 69, op := Op.load 22 (Operand.tmp 68), type := 22, pos := _, after := #[{ on := 1, ground := Ground.data }], guard := none }) (v := .slice (some ⟨b, o, none⟩) len cap) rfl (by kernel_rfl) (by kernel_rfl) (by kernel_rfl) (by kernel_rfl) (fun _ _ _ h => h) (Or.inl ⟨by rfl, ?_⟩) hS ?_
              · (intro w' hSw; obtain ⟨m0, m1, m2, m3, m4⟩ := hSw; go_simp; try with_reducible rfl)
              try simp only [Act.put, List.setIfInBounds_toArray, List.set_cons_zero, List.set_cons_succ]
              refine wpAnyM_take (i := 3) [] (oi := { dst := some 70, op := Op.move (Operand.tmp 8), type := 3, pos := _, after := #[], guard := none }) (v := .int .i64 (k : Int)) rfl (by kernel_rfl) (by kernel_rfl) (by kernel_rfl) (by kernel_rfl) (fun _ _ _ h => h) (Or.inl ⟨by rfl, ?_⟩) hS ?_
              · (intro w' hSw; obtain ⟨m0, m1, m2, m3, m4⟩ := hSw; go_simp; try with_reducible rfl)
              try simp only [Act.put, List.setIfInBounds_toArray, List.set_cons_zero, List.set_cons_succ]
              refine wpAnyM_take (i := 4) [] (oi := { dst := some 71, op := Op.slice 22 (Operand.tmp 69) none (some (Operand.tmp 70)) none, type := 22, pos := _, after := #[{ on := 2, ground := Ground.data }, { on := 3, ground := Ground.data }], guard := none }) (v := .slice (some ⟨b, o, none⟩) k cap) rfl (by kernel_rfl) (by kernel_rfl) (by kernel_rfl) (by kernel_rfl) (fun _ _ _ h => h) (Or.inl ⟨by rfl, ?_⟩) hS ?_
              · (intro w' hSw; obtain ⟨m0, m1, m2, m3, m4⟩ := hSw; go_simp; try with_reducible rfl)
              try simp only [Act.put, List.setIfInBounds_toArray, List.set_cons_zero, List.set_cons_succ]
              refine wpAnyM_take (i := 6) [] (oi := { dst := some 73, op := Op.load 30 (Operand.tmp 3), type := 30, pos := _, after := #[], guard := none }) (v := .agg #[.string e.key, .int .i64 e.s, .int .i64 e.g, .int .i64 e.c]) rfl (by kernel_rfl) (by kernel_rfl) (by kernel_rfl) (by kernel_rfl) (fun _ _ _ h => h) (Or.inl ⟨by rfl, ?_⟩) hS ?_
              · (intro w' hSw; obtain ⟨m0, m1, m2, m3, m4⟩ := hSw; go_simp; try with_reducible rfl)
              try simp only [Act.put, List.setIfInBounds_toArray, List.set_cons_zero, List.set_cons_succ]
              refine wpAnyM_take (i := 9) [] (oi := { dst := some 76, op := Op.fieldAddr 24 (Operand.tmp 2) 4, type := 0, pos := _, after := #[], guard := none }) (v := ?_) rfl (by kernel_rfl) (by kernel_rfl) (by kernel_rfl) (by kernel_rfl) (fun _ _ _ h => h) (Or.inl ⟨by rfl, ?_⟩) hS ?_
              rotate_left
              · (intro w' hSw; obtain ⟨m0, m1, m2, m3, m4⟩ := hSw; go_simp; try with_reducible rfl)
              try simp only [Act.put, List.setIfInBounds_toArray, List.set_cons_zero, List.set_cons_succ]
              refine wpAnyM_take (i := 10) [] (oi := { dst := some 77, op := Op.load 22 (Operand.tmp 76), type := 22, pos := _, after := #[{ on := 9, ground := Ground.data }], guard := none }) (v := .slice (some ⟨b, o, none⟩) len cap) rfl (by kernel_rfl) (by kernel_rfl) (by kernel_rfl) (by kernel_rfl) (fun _ _ _ h => h) (Or.inl ⟨by rfl, ?_⟩) hS ?_
              · (intro w' hSw; obtain ⟨m0, m1, m2, m3, m4⟩ := hSw; go_simp; try with_reducible rfl)
              try simp only [Act.put, List.setIfInBounds_toArray, List.set_cons_zero, List.set_cons_succ]
              refine wpAnyM_take (i := 11) [] (oi := { dst := some 78, op := Op.move (Operand.tmp 8), type := 3, pos := _, after := #[], guard := none }) (v := .int .i64 (k : Int)) rfl (by kernel_rfl) (by kernel_rfl) (by kernel_rfl) (by kernel_rfl) (fun _ _ _ h => h) (Or.inl ⟨by rfl, ?_⟩) hS ?_
              · (intro w' hSw; obtain ⟨m0, m1, m2, m3, m4⟩ := hSw; go_simp; try with_reducible rfl)
              try simp only [Act.put, List.setIfInBounds_toArray, List.set_cons_zero, List.set_cons_succ]
              refine wpAnyM_take (i := 12) [] (oi := { dst := some 79, op := Op.slice 22 (Operand.tmp 77) (some (Operand.tmp 78)) none none, type := 22, pos := _, after := #[{ on := 10, ground := Ground.data }, { on := 11, ground := Ground.data }], guard := none }) (v := .slice (some a7) (len - k) (cap - k)) rfl (by kernel_rfl) (by kernel_rfl) (by kernel_rfl) (by kernel_rfl) (fun _ _ _ h => h) (Or.inl ⟨by rfl, ?_⟩) hS ?_
              · (intro w' hSw; obtain ⟨m0, m1, m2, m3, m4⟩ := hSw; go_simp; exact E7.out)
              try simp only [Act.put, List.setIfInBounds_toArray, List.set_cons_zero, List.set_cons_succ]
              refine wpAnyM_ready (rs := [5, 7]) (by kernel_rfl) (by simp) ?_
              refine AllReadyM.cons (o := { dst := some 72, op := Op.call { callee := Callee.builtin Builtin.append, args := #[Operand.tmp 67, Operand.tmp 71], argTypes := #[22, 22] }, type := 22, pos := _, after := #[{ on := 0, ground := Ground.data }, { on := 4, ground := Ground.data }], guard := none }) rfl (fun K hK => ?_) (AllReadyM.cons (o := { dst := some 74, op := Op.buildSlice 22 1 #[(0, Operand.tmp 73)], type := 22, pos := _, after := #[{ on := 6, ground := Ground.data }], guard := none }) rfl (fun K hK => ?_) AllReadyM.nil)
              · have HK9' : Hid (∀ a w, _ → K a w) := hK
                clear hK
                obtain ⟨v1, w6, hr1, ho1, hb6, -⟩ := HA1.out _ (.slice none 0 0) hbD (OwnE.nil _ _)
                refine step_appR rfl _ _ _ rfl _ _ rfl rfl hr1 ?_
                refine HK9'.out _ _ ⟨fun _ => HS.out _ hb6, ?_⟩
                clear HK9' K
                try simp only [Act.put, List.setIfInBounds_toArray, List.set_cons_zero, List.set_cons_succ]
                refine wpAnyM_ready (rs := [7]) (by kernel_rfl) (by simp) ?_
                refine AllReadyM.cons (o := { dst := some 74, op := Op.buildSlice 22 1 #[(0, Operand.tmp 73)], type := 22, pos := _, after := #[{ on := 6, ground := Ground.data }], guard := none }) rfl (fun K hK => ?_) AllReadyM.nil
                have HK9 : Hid (∀ a w, _ → K a w) := hK
                clear hK
                go_simp
                have hb6' : Below wq.heap.size wq (w6.alloc (.cells #[.string e.key, .int .i64 e.s, .int .i64 e.g, .int .i64 e.c] 30)) := hb6.alloc hb6.size _
                refine HK9.out _ _ ⟨fun _ => HS.out _ hb6', ?_⟩
                clear HK9 K
                try simp only [Act.put, List.setIfInBounds_toArray, List.set_cons_zero, List.set_cons_succ]
                have ho1' := ho1.below ((Below.refl _ w6).alloc (Nat.le_refl _) (.cells #[.string e.key, .int .i64 e.s, .int .i64 e.g, .int .i64 e.c] 30)) (Nat.le_refl _)
                refine wpAnyM_ready (rs := [8]) (by kernel_rfl) (by simp) ?_
                refine AllReadyM.cons (o := { dst := some 75, op := Op.call { callee := Callee.builtin Builtin.append, args := #[Operand.tmp 72, Operand.tmp 74], argTypes := #[22, 22] }, type := 22, pos := _, after := #[{ on := 5, ground := Ground.data }, { on := 7, ground := Ground.data }, { on := 5, ground := Ground.chain }], guard := none }) rfl (fun K hK => ?_) AllReadyM.nil
                have HK9 : Hid (∀ a w, _ → K a w) := hK
                clear hK
                obtain ⟨v2, w7, hr2, ho2, hb7⟩ := HA2.out _ v1 w6.heap.size hb6' ho1' (ens_one w6 e)
                refine step_appR rfl _ _ _ rfl _ _ rfl (by go_simp) hr2 ?_
                refine HK9.out _ _ ⟨fun _ => HS.out _ hb7, ?_⟩
                clear HK9 K
                try simp only [Act.put, List.setIfInBounds_toArray, List.set_cons_zero, List.set_cons_succ]
                refine wpAnyM_ready (rs := [13]) (by kernel_rfl) (by simp) ?_
                refine AllReadyM.cons (o := { dst := some 80, op := Op.call { callee := Callee.builtin Builtin.append, args := #[Operand.tmp 75, Operand.tmp 79], argTypes := #[22, 22] }, type := 22, pos := _, after := #[{ on := 8, ground := Ground.data }, { on := 12, ground := Ground.data }, { on := 8, ground := Ground.chain }], guard := none }) rfl (fun K hK => ?_) AllReadyM.nil
                have HK9 : Hid (∀ a w, _ → K a w) := hK
                clear hK
                obtain ⟨v3, w8, hr3, ho3, hb8, -⟩ := HA3.out _ v2 hb7 ho2
                refine step_appR rfl _ _ _ rfl _ _ rfl rfl hr3 ?_
                refine HK9.out _ _ ⟨fun _ => HS.out _ hb8, ?_⟩
                clear HK9 K
                try simp only [Act.put, List.setIfInBounds_toArray, List.set_cons_zero, List.set_cons_succ]
                obtain ⟨q9, c9, hv9, -, -⟩ := ho3.ens
                subst hv9
                have HO8 : Hid (OwnE w8 wq.heap.size (.slice q9 ([] ++ l.take k ++ [e] ++ l.drop k).length c9) ([] ++ l.take k ++ [e] ++ l.drop k)) := ho3
                have hln : ([] ++ l.take k ++ [e] ++ l.drop k).length = (len + 1) := by have := HL.out; first | (simp; done) | (simp; omega) | (simp [List.eq_nil_of_length_eq_zero HL.out])
                rw [hln] at HO8
                rw [hln]
                clear hln
                have HB8 : Hid (Below w1.heap.size w1 w8) := HW9.out.trans (hb8.mono HW9.out.size)
                have hk8 := HK1.out.below HB8.out HK1.out.lt
                have hz8 := HR1.out.below HB8.out HR1.out.lt
                have a4' : w8.cell? ⟨w.heap.size, 4, none⟩ = some (.slice (some ⟨b, o, none⟩) len cap) := hk8.cell 4
                have z4' : w8.frozen? ⟨w.heap.size, 4, none⟩ = false := hk8.frozen 4
                refine wpAnyM_ready (rs := [14]) (by kernel_rfl) (by simp) ?_
                refine AllReadyM.cons (o := { dst := some 81, op := Op.fieldAddr 24 (Operand.tmp 2) 4, type := 0, pos := _, after := #[{ on := 0, ground := Ground.phase }, { on := 1, ground := Ground.phase }, { on := 2, ground := Ground.phase }, { on := 3, ground := Ground.phase }, { on := 4, ground := Ground.phase }, { on := 5, ground := Ground.phase }, { on := 6, ground := Ground.phase }, { on := 7, ground := Ground.phase }, { on := 8, ground := Ground.phase }, { on := 9, ground := Ground.phase }, { on := 10, ground := Ground.phase }, { on := 11, ground := Ground.phase }, { on := 12, ground := Ground.phase }, { on := 13, ground := Ground.phase }], guard := none }) rfl (fun K hK => ?_) AllReadyM.nil
                have HK9 : Hid (∀ a w, _ → K a w) := hK
                clear hK
                go_simp
                refine HK9.out _ _ ⟨fun _ => HS.out _ hb8, ?_⟩
                clear HK9 K
                try simp only [Act.put, List.setIfInBounds_toArray, List.set_cons_zero, List.set_cons_succ]
                refine wpAnyM_ready (rs := [15]) (by kernel_rfl) (by simp) ?_
                refine AllReadyM.cons (o := { dst := none, op := Op.store 22 (Operand.tmp 81) (Operand.tmp 80), type := 0, pos := _, after := #[{ on := 14, ground := Ground.data }, { on := 13, ground := Ground.data }, { on := 13, ground := Ground.chain }, { on := 0, ground := Ground.phase }, { on := 1, ground := Ground.phase }, { on := 2, ground := Ground.phase }, { on := 3, ground := Ground.phase }, { on := 4, ground := Ground.phase }, { on := 5, ground := Ground.phase }, { on := 6, ground := Ground.phase }, { on := 7, ground := Ground.phase }, { on := 8, ground := Ground.phase }, { on := 9, ground := Ground.phase }, { on := 10, ground := Ground.phase }, { on := 11, ground := Ground.phase }, { on := 12, ground := Ground.phase }, { on := 13, ground := Ground.phase }], guard := none }) rfl (fun K hK => ?_) AllReadyM.nil
                have HK9 : Hid (∀ a w, _ → K a w) := hK
                clear hK
                go_simp
                refine HK9.out _ _ ⟨fun h => absurd h (by omega), ?_⟩
                clear HK9 K
                try simp only [Act.put, List.setIfInBounds_toArray, List.set_cons_zero, List.set_cons_succ]
                refine wpAnyM_done (by kernel_rfl) ?_ _
                obtain ⟨w9, hw9⟩ : ∃ w9, w8.setCell ⟨w.heap.size, 4, none⟩ (.slice q9 (len + 1) c9) = w9 := ⟨_, rfl⟩
                have hk9 : Bk w9 w.heap.size 24 #[.bool leaf, .string lo, .string hi, .int .i64 r, .slice q9 (len + 1) c9] := by rw [← hw9]; exact hk8.set 4 _
                have hr9 : Bk w9 (w.heap.size + 1 + 1) 24 zc := by rw [← hw9]; exact hz8.other (by simp; omega) _
                have ht9 : Tn [w.heap.size] w8 w9 := by rw [← hw9]; exact (Tn.refl _ _).setCell (.inl (by simp)) _
                rw [hw9]
                clear hw9 a4' z4' hS
                have a0 : w9.cell? ⟨w.heap.size, 0, none⟩ = some (.bool leaf) := hk9.cell 0
                have a1 : w9.cell? ⟨w.heap.size, 1, none⟩ = some (.string lo) := hk9.cell 1
                have a2 : w9.cell? ⟨w.heap.size, 2, none⟩ = some (.string hi) := hk9.cell 2
                have a3 : w9.cell? ⟨w.heap.size, 3, none⟩ = some (.int .i64 r) := hk9.cell 3
                have a4 : w9.cell? ⟨w.heap.size, 4, none⟩ = some (.slice q9 (len + 1) c9) := hk9.cell 4
                have b0 : w9.cell? ⟨w.heap.size + 1 + 1, 0, none⟩ = some (.bool false) := hr9.cell 0
                have f0 : w9.frozen? ⟨w.heap.size + 1 + 1, 0, none⟩ = false := hr9.frozen 0
                have b1 : w9.cell? ⟨w.heap.size + 1 + 1, 1, none⟩ = some (.string ⟨#[]⟩) := hr9.cell 1
                have f1 : w9.frozen? ⟨w.heap.size + 1 + 1, 1, none⟩ = false := hr9.frozen 1
                have b2 : w9.cell? ⟨w.heap.size + 1 + 1, 2, none⟩ = some (.string ⟨#[]⟩) := hr9.cell 2
                have f2 : w9.frozen? ⟨w.heap.size + 1 + 1, 2, none⟩ = false := hr9.frozen 2
                have b3 : w9.cell? ⟨w.heap.size + 1 + 1, 3, none⟩ = some (.int .i64 0) := hr9.cell 3
                have f3 : w9.frozen? ⟨w.heap.size + 1 + 1, 3, none⟩ = false := hr9.frozen 3
                have b4 : w9.cell? ⟨w.heap.size + 1 + 1, 4, none⟩ = some (.slice none 0 0) := hr9.cell 4
                have f4 : w9.frozen? ⟨w.heap.size + 1 + 1, 4, none⟩ = false := hr9.frozen 4
                have HR9 : Hid (Bk w9 (w.heap.size + 1 + 1) 24 zc) := hr9
                have HT9 : Hid (Tn [w.heap.size] w8 w9) := ht9
                clear hk9 hr9 ht9
                go_wp2
                obtain ⟨we, hwe⟩ : ∃ we, we = put5 w9 (w.heap.size + 1 + 1) (.bool leaf) (.string lo) (.string hi) (.int .i64 r) (.slice q9 (len + 1) c9) := ⟨_, rfl⟩
                have hA : Bk we (w.heap.size + 1 + 1) 24 #[.bool leaf, .string lo, .string hi, .int .i64 r, .slice q9 (len + 1) c9] := by rw [hwe]; exact Bk.five HR9.out _ _ _ _ _
                have ht : Tn [w.heap.size + 1 + 1] w9 we := by rw [hwe]; exact (Tn.refl _ _).five (.inl (by simp)) _ _ _ _ _
                unfold put5 at hwe
                rw [← hwe]
                clear hwe
                refine bodyPost_ret (results_two (cs := [.bool leaf, .string lo, .string hi, .int .i64 r, .slice q9 (len + 1) c9]) rfl rfl pg_agg pg_size rfl hA) rfl ?_
                rw [HQ.out]
                have hs0 := HR1.out.lt
                have t8 : Tn [w.heap.size, w.heap.size + 1 + 1] w8 we := (HT9.out.mono (by simp)).trans ht (by simp)
                have hB8 := HB1.out.trans (HB8.out.mono HB1.out.size)
                have hsw := HW9.out.size
                have hdl : (l.take k ++ [e] ++ l.drop k).length = (len + 1) := by have := HL.out; first | (simp; done) | (simp; omega) | (simp [List.eq_nil_of_length_eq_zero HL.out])
                refine ⟨_, rfl, ⟨q9, c9, by simp only [hdl], ?_⟩, hB8.trans (t8.below hB8.size (by simp; omega))⟩
                simp only [hdl]
                have hsg := (HO8.out.seg).tn t8 (by intro y hy; simp at hy; omega)
                have hsb := HB1.out.size
                exact (show Seg we wq.heap.size q9 ((len + 1)) c9 (l.take k ++ [e] ++ l.drop k) by simpa using hsg).mono (by omega)
              · have HK9' : Hid (∀ a w, _ → K a w) := hK
                clear hK
                go_simp
                have hbE : Below wq.heap.size wq (wq.drew.alloc (.cells #[.string e.key, .int .i64 e.s, .int .i64 e.g, .int .i64 e.c] 30)) := hbD.alloc (Nat.le_refl _) _
                refine HK9'.out _ _ ⟨fun _ => HS.out _ hbE, ?_⟩
                clear HK9' K
                try simp only [Act.put, List.setIfInBounds_toArray, List.set_cons_zero, List.set_cons_succ]
                refine wpAnyM_ready (rs := [5]) (by kernel_rfl) (by simp) ?_
                refine AllReadyM.cons (o := { dst := some 72, op := Op.call { callee := Callee.builtin Builtin.append, args := #[Operand.tmp 67, Operand.tmp 71], argTypes := #[22, 22] }, type := 22, pos := _, after := #[{ on := 0, ground := Ground.data }, { on := 4, ground := Ground.data }], guard := none }) rfl (fun K hK => ?_) AllReadyM.nil
                have HK9 : Hid (∀ a w, _ → K a w) := hK
                clear hK
                obtain ⟨v1, w6, hr1, ho1, hb6, hb6E⟩ := HA1.out _ (.slice none 0 0) hbE (OwnE.nil _ _)
                refine step_appR rfl _ _ _ rfl _ _ rfl rfl hr1 ?_
                refine HK9.out _ _ ⟨fun _ => HS.out _ hb6, ?_⟩
                clear HK9 K
                try simp only [Act.put, List.setIfInBounds_toArray, List.set_cons_zero, List.set_cons_succ]
                have hent : Ens w6 (some ⟨wq.heap.size, 0, none⟩) [e] := (ens_one wq.drew e).below (hb6E rfl) (Nat.le_refl _)
                refine wpAnyM_ready (rs := [8]) (by kernel_rfl) (by simp) ?_
                refine AllReadyM.cons (o := { dst := some 75, op := Op.call { callee := Callee.builtin Builtin.append, args := #[Operand.tmp 72, Operand.tmp 74], argTypes := #[22, 22] }, type := 22, pos := _, after := #[{ on := 5, ground := Ground.data }, { on := 7, ground := Ground.data }, { on := 5, ground := Ground.chain }], guard := none }) rfl (fun K hK => ?_) AllReadyM.nil
                have HK9 : Hid (∀ a w, _ → K a w) := hK
                clear hK
                obtain ⟨v2, w7, hr2, ho2, hb7⟩ := HA2.out _ v1 wq.heap.size hb6 ho1 hent
                refine step_appR rfl _ _ _ rfl _ _ rfl (by go_simp) hr2 ?_
                refine HK9.out _ _ ⟨fun _ => HS.out _ hb7, ?_⟩
                clear HK9 K
                try simp only [Act.put, List.setIfInBounds_toArray, List.set_cons_zero, List.set_cons_succ]
                refine wpAnyM_ready (rs := [13]) (by kernel_rfl) (by simp) ?_
                refine AllReadyM.cons (o := { dst := some 80, op := Op.call { callee := Callee.builtin Builtin.append, args := #[Operand.tmp 75, Operand.tmp 79], argTypes := #[22, 22] }, type := 22, pos := _, after := #[{ on := 8, ground := Ground.data }, { on := 12, ground := Ground.data }, { on := 8, ground := Ground.chain }], guard := none }) rfl (fun K hK => ?_) AllReadyM.nil
                have HK9 : Hid (∀ a w, _ → K a w) := hK
                clear hK
                obtain ⟨v3, w8, hr3, ho3, hb8, -⟩ := HA3.out _ v2 hb7 ho2
                refine step_appR rfl _ _ _ rfl _ _ rfl rfl hr3 ?_
                refine HK9.out _ _ ⟨fun _ => HS.out _ hb8, ?_⟩
                clear HK9 K
                try simp only [Act.put, List.setIfInBounds_toArray, List.set_cons_zero, List.set_cons_succ]
                obtain ⟨q9, c9, hv9, -, -⟩ := ho3.ens
                subst hv9
                have HO8 : Hid (OwnE w8 wq.heap.size (.slice q9 ([] ++ l.take k ++ [e] ++ l.drop k).length c9) ([] ++ l.take k ++ [e] ++ l.drop k)) := ho3
                have hln : ([] ++ l.take k ++ [e] ++ l.drop k).length = (len + 1) := by have := HL.out; first | (simp; done) | (simp; omega) | (simp [List.eq_nil_of_length_eq_zero HL.out])
                rw [hln] at HO8
                rw [hln]
                clear hln
                have HB8 : Hid (Below w1.heap.size w1 w8) := HW9.out.trans (hb8.mono HW9.out.size)
                have hk8 := HK1.out.below HB8.out HK1.out.lt
                have hz8 := HR1.out.below HB8.out HR1.out.lt
                have a4' : w8.cell? ⟨w.heap.size, 4, none⟩ = some (.slice (some ⟨b, o, none⟩) len cap) := hk8.cell 4
                have z4' : w8.frozen? ⟨w.heap.size, 4, none⟩ = false := hk8.frozen 4
                refine wpAnyM_ready (rs := [14]) (by kernel_rfl) (by simp) ?_
                refine AllReadyM.cons (o := { dst := some 81, op := Op.fieldAddr 24 (Operand.tmp 2) 4, type := 0, pos := _, after := #[{ on := 0, ground := Ground.phase }, { on := 1, ground := Ground.phase }, { on := 2, ground := Ground.phase }, { on := 3, ground := Ground.phase }, { on := 4, ground := Ground.phase }, { on := 5, ground := Ground.phase }, { on := 6, ground := Ground.phase }, { on := 7, ground := Ground.phase }, { on := 8, ground := Ground.phase }, { on := 9, ground := Ground.phase }, { on := 10, ground := Ground.phase }, { on := 11, ground := Ground.phase }, { on := 12, ground := Ground.phase }, { on := 13, ground := Ground.phase }], guard := none }) rfl (fun K hK => ?_) AllReadyM.nil
                have HK9 : Hid (∀ a w, _ → K a w) := hK
                clear hK
                go_simp
                refine HK9.out _ _ ⟨fun _ => HS.out _ hb8, ?_⟩
                clear HK9 K
                try simp only [Act.put, List.setIfInBounds_toArray, List.set_cons_zero, List.set_cons_succ]
                refine wpAnyM_ready (rs := [15]) (by kernel_rfl) (by simp) ?_
                refine AllReadyM.cons (o := { dst := none, op := Op.store 22 (Operand.tmp 81) (Operand.tmp 80), type := 0, pos := _, after := #[{ on := 14, ground := Ground.data }, { on := 13, ground := Ground.data }, { on := 13, ground := Ground.chain }, { on := 0, ground := Ground.phase }, { on := 1, ground := Ground.phase }, { on := 2, ground := Ground.phase }, { on := 3, ground := Ground.phase }, { on := 4, ground := Ground.phase }, { on := 5, ground := Ground.phase }, { on := 6, ground := Ground.phase }, { on := 7, ground := Ground.phase }, { on := 8, ground := Ground.phase }, { on := 9, ground := Ground.phase }, { on := 10, ground := Ground.phase }, { on := 11, ground := Ground.phase }, { on := 12, ground := Ground.phase }, { on := 13, ground := Ground.phase }], guard := none }) rfl (fun K hK => ?_) AllReadyM.nil
                have HK9 : Hid (∀ a w, _ → K a w) := hK
                clear hK
                go_simp
                refine HK9.out _ _ ⟨fun h => absurd h (by omega), ?_⟩
                clear HK9 K
                try simp only [Act.put, List.setIfInBounds_toArray, List.set_cons_zero, List.set_cons_succ]
                refine wpAnyM_done (by kernel_rfl) ?_ _
                obtain ⟨w9, hw9⟩ : ∃ w9, w8.setCell ⟨w.heap.size, 4, none⟩ (.slice q9 (len + 1) c9) = w9 := ⟨_, rfl⟩
                have hk9 : Bk w9 w.heap.size 24 #[.bool leaf, .string lo, .string hi, .int .i64 r, .slice q9 (len + 1) c9] := by rw [← hw9]; exact hk8.set 4 _
                have hr9 : Bk w9 (w.heap.size + 1 + 1) 24 zc := by rw [← hw9]; exact hz8.other (by simp; omega) _
                have ht9 : Tn [w.heap.size] w8 w9 := by rw [← hw9]; exact (Tn.refl _ _).setCell (.inl (by simp)) _
                rw [hw9]
                clear hw9 a4' z4' hS
                have a0 : w9.cell? ⟨w.heap.size, 0, none⟩ = some (.bool leaf) := hk9.cell 0
                have a1 : w9.cell? ⟨w.heap.size, 1, none⟩ = some (.string lo) := hk9.cell 1
                have a2 : w9.cell? ⟨w.heap.size, 2, none⟩ = some (.string hi) := hk9.cell 2
                have a3 : w9.cell? ⟨w.heap.size, 3, none⟩ = some (.int .i64 r) := hk9.cell 3
                have a4 : w9.cell? ⟨w.heap.size, 4, none⟩ = some (.slice q9 (len + 1) c9) := hk9.cell 4
                have b0 : w9.cell? ⟨w.heap.size + 1 + 1, 0, none⟩ = some (.bool false) := hr9.cell 0
                have f0 : w9.frozen? ⟨w.heap.size + 1 + 1, 0, none⟩ = false := hr9.frozen 0
                have b1 : w9.cell? ⟨w.heap.size + 1 + 1, 1, none⟩ = some (.string ⟨#[]⟩) := hr9.cell 1
                have f1 : w9.frozen? ⟨w.heap.size + 1 + 1, 1, none⟩ = false := hr9.frozen 1
                have b2 : w9.cell? ⟨w.heap.size + 1 + 1, 2, none⟩ = some (.string ⟨#[]⟩) := hr9.cell 2
                have f2 : w9.frozen? ⟨w.heap.size + 1 + 1, 2, none⟩ = false := hr9.frozen 2
                have b3 : w9.cell? ⟨w.heap.size + 1 + 1, 3, none⟩ = some (.int .i64 0) := hr9.cell 3
                have f3 : w9.frozen? ⟨w.heap.size + 1 + 1, 3, none⟩ = false := hr9.frozen 3
                have b4 : w9.cell? ⟨w.heap.size + 1 + 1, 4, none⟩ = some (.slice none 0 0) := hr9.cell 4
                have f4 : w9.frozen? ⟨w.heap.size + 1 + 1, 4, none⟩ = false := hr9.frozen 4
                have HR9 : Hid (Bk w9 (w.heap.size + 1 + 1) 24 zc) := hr9
                have HT9 : Hid (Tn [w.heap.size] w8 w9) := ht9
                clear hk9 hr9 ht9
                go_wp2
                obtain ⟨we, hwe⟩ : ∃ we, we = put5 w9 (w.heap.size + 1 + 1) (.bool leaf) (.string lo) (.string hi) (.int .i64 r) (.slice q9 (len + 1) c9) := ⟨_, rfl⟩
                have hA : Bk we (w.heap.size + 1 + 1) 24 #[.bool leaf, .string lo, .string hi, .int .i64 r, .slice q9 (len + 1) c9] := by rw [hwe]; exact Bk.five HR9.out _ _ _ _ _
                have ht : Tn [w.heap.size + 1 + 1] w9 we := by rw [hwe]; exact (Tn.refl _ _).five (.inl (by simp)) _ _ _ _ _
                unfold put5 at hwe
                rw [← hwe]
                clear hwe
                refine bodyPost_ret (results_two (cs := [.bool leaf, .string lo, .string hi, .int .i64 r, .slice q9 (len + 1) c9]) rfl rfl pg_agg pg_size rfl hA) rfl ?_
                rw [HQ.out]
                have hs0 := HR1.out.lt
                have t8 : Tn [w.heap.size, w.heap.size + 1 + 1] w8 we := (HT9.out.mono (by simp)).trans ht (by simp)
                have hB8 := HB1.out.trans (HB8.out.mono HB1.out.size)
                have hsw := HW9.out.size
                have hdl : (l.take k ++ [e] ++ l.drop k).length = (len + 1) := by have := HL.out; first | (simp; done) | (simp; omega) | (simp [List.eq_nil_of_length_eq_zero HL.out])
                refine ⟨_, rfl, ⟨q9, c9, by simp only [hdl], ?_⟩, hB8.trans (t8.below hB8.size (by simp; omega))⟩
                simp only [hdl]
                have hsg := (HO8.out.seg).tn t8 (by intro y hy; simp at hy; omega)
                have hsb := HB1.out.size
                exact (show Seg we wq.heap.size q9 ((len + 1)) c9 (l.take k ++ [e] ++ l.drop k) by simpa using hsg).mono (by omega)
            | false =>
              have HF2 : Hid (k + 1 ≤ l.findIdx (fun x => Ky.lt e.key x.key)) := findIdx_miss HF.out.1 HG.out hq
              cases hle1 : Op.bytesLess x.key.toList e.key.toList with
              | true =>
                clear hq
                go_wp2_with fail
                go_quiet (fail)
                have HF3 : Hid (k + 1 ≤ l.findIdx (fun x => Ky.lt e.key x.key) ∧ Below w1.heap.size w1 (wr.drewN nq)) := ⟨HF2.out, below_drewN HF.out.2 nq⟩
                go_wp2
                go_roundw
                case rel => exact ⟨k + 1, by omega, by go_num, HF3⟩
                case measure => simp [intOf]; omega
              | false =>
                have hle2 : (x.key.toList == e.key.toList) = true := by
                  rw [Ky.lt_total (show Ky.lt x.key e.key = false from hle1) hq]
                  simp
                clear hq
                go_wp2_with fail
                go_quiet (fail)
                have HF3 : Hid (k + 1 ≤ l.findIdx (fun x => Ky.lt e.key x.key) ∧ Below w1.heap.size w1 (wr.drewN nq)) := ⟨HF2.out, below_drewN HF.out.2 nq⟩
                go_wp2
                go_roundw
                case rel => exact ⟨k + 1, by omega, by go_num, HF3⟩
                case measure => simp [intOf]; omega
          · have hli2 : ¬ (k : Int) < (len : Int) := by omega
            have hli3 : decide (k < len) = false := by simp [hlt2]
            obtain rfl : k = len := by omega
            have HK9 : Hid (l.findIdx (fun x => Ky.lt e.key x.key) = k) := by
              have h1 := HF.out.1
              have h2 : l.findIdx (fun x => Ky.lt e.key x.key) ≤ l.length := List.findIdx_le_length
              have h3 := HL.out
              unfold Hid
              omega
            go_wp2_with fail
            go_quiet (fail)
            have HW9 : Hid (Below w1.heap.size w1 (wr.drewN nq)) := below_drewN HF.out.2 nq
            generalize wr.drewN nq = wq at HW9 ⊢
            clear a4 k0 HF
            cases p with
            | none =>
              obtain ⟨rfl, rfl⟩ := HP.out rfl
              have HQ : Hid (out = (⟨leaf, lo, hi, r, l.take 0 ++ [e] ++ l.drop 0⟩, 0)) := by
                rw [Hid, HO3.out, HK9.out]
                simp [Pg.ins]
              have HREST : Hid (∀ W, Below wq.heap.size wq W → Ens W none (l.drop 0)) := fun W hW => HX1.out.below (HW9.out.trans (hW.mono HW9.out.size)) (Nat.le_refl _)
              clear HO2 HO3 HK9
              go_wp2_with fail
              have HS : Hid (∀ w', Below wq.heap.size wq w' → w'.cell? ⟨w.heap.size, 4, none⟩ = some (.slice none 0 0) ∧ w'.cell? ⟨w.heap.size + 1, 0, none⟩ = some (.string e.key) ∧ w'.cell? ⟨w.heap.size + 1, 1, none⟩ = some (.int .i64 e.s) ∧ w'.cell? ⟨w.heap.size + 1, 2, none⟩ = some (.int .i64 e.g) ∧ w'.cell? ⟨w.heap.size + 1, 3, none⟩ = some (.int .i64 e.c)) := fun w' hW => by
                have h1 := HW9.out.trans (hW.mono HW9.out.size)
                have h2 := HK1.out.below h1 HK1.out.lt
                have h3 := HE1.out.below h1 HE1.out.lt
                exact ⟨h2.cell 4, h3.cell 0, h3.cell 1, h3.cell 2, h3.cell 3⟩
              have HA1 : Hid _ := app_one (w0 := wq) (B0 := 0) (Nat.zero_le _) (l := []) (l2 := l.take 0) (p := none) (m := 0) (c := 0) (by rw [List.length_take]; have := HL.out; omega) (fun W' hW' => (HX1.out.below (HW9.out.trans (hW'.mono HW9.out.size)) (Nat.le_refl _)).take 0) (fun h => ⟨rfl, rfl⟩) (by first | (simp; done) | (simp; omega) | (have := HL.out; simp; omega))
              have HA2 : Hid _ := app_entry (w0 := wq) (l := [] ++ l.take 0) (e := e) (by first | (simp; done) | (simp; omega) | (have := HL.out; simp; omega))
              have HA3 : Hid _ := app_one (w0 := wq) (B0 := 0) (Nat.zero_le _) (l := [] ++ l.take 0 ++ [e]) (l2 := l.drop 0) (p := none) (m := (0 - 0)) (c := 0) (by rw [List.length_drop, HL.out]; try omega) (fun W' hW' => HREST.out W' hW') (fun h => ⟨rfl, rfl⟩) (by have := HL.out; first | (simp; done) | (simp; omega))
              have hS := HS.out wq.drew (Below.refl _ _).drew
              have hbD : Below wq.heap.size wq wq.drew := (Below.refl _ _).drew
              refine wp_region_mid (S := (fun w' => w'.cell? ⟨w.heap.size, 4, none⟩ = some (.slice none 0 0) ∧ w'.cell? ⟨w.heap.size + 1, 0, none⟩ = some (.string e.key) ∧ w'.cell? ⟨w.heap.size + 1, 1, none⟩ = some (.int .i64 e.s) ∧ w'.cell? ⟨w.heap.size + 1, 2, none⟩ = some (.int .i64 e.g) ∧ w'.cell? ⟨w.heap.size + 1, 3, none⟩ = some (.int .i64 e.c))) 15 (by kernel_rfl) ?_
              refine wpAnyM_take (i := 0) [] (oi := { dst := some 67, op := Op.move (Operand.tmp 6), type := 22, pos := _, after := #[], guard := none }) (v := .slice none 0 0) rfl (by kernel_rfl) (by kernel_rfl) (by kernel_rfl) (by kernel_rfl) (fun _ _ _ h => h) (Or.inl ⟨by rfl, ?_⟩) hS ?_
              · (intro w' hSw; obtain ⟨m0, m1, m2, m3, m4⟩ := hSw; go_simp; try with_reducible rfl)
              try simp only [Act.put, List.setIfInBounds_toArray, List.set_cons_zero, List.set_cons_succ]
              refine wpAnyM_take (i := 1) [] (oi := { dst := some 68, op := Op.fieldAddr 24 (Operand.tmp 2) 4, type := 0, pos := _, after := #[], guard := none }) (v := ?_) rfl (by kernel_rfl) (by kernel_rfl) (by kernel_rfl) (by kernel_rfl) (fun _ _ _ h => h) (Or.inl ⟨by rfl, ?_⟩) hS ?_
              rotate_left
              · (intro w' hSw; obtain ⟨m0, m1, m2, m3, m4⟩ := hSw; go_simp; try with_reducible rfl)
              try simp only [Act.put, List.setIfInBounds_toArray, List.set_cons_zero, List.set_cons_succ]
              refine wpAnyM_take (i := 2) [] (oi := { dst := some 69, op := Op.load 22 (Operand.tmp 68), type := 22, pos := _, after := #[{ on := 1, ground := Ground.data }], guard := none }) (v := .slice none 0 0) rfl (by kernel_rfl) (by kernel_rfl) (by kernel_rfl) (by kernel_rfl) (fun _ _ _ h => h) (Or.inl ⟨by rfl, ?_⟩) hS ?_
              · (intro w' hSw; obtain ⟨m0, m1, m2, m3, m4⟩ := hSw; go_simp; try with_reducible rfl)
              try simp only [Act.put, List.setIfInBounds_toArray, List.set_cons_zero, List.set_cons_succ]
              refine wpAnyM_take (i := 3) [] (oi := { dst := some 70, op := Op.move (Operand.tmp 8), type := 3, pos := _, after := #[], guard := none }) (v := .int .i64 (0 : Int)) rfl (by kernel_rfl) (by kernel_rfl) (by kernel_rfl) (by kernel_rfl) (fun _ _ _ h => h) (Or.inl ⟨by rfl, ?_⟩) hS ?_
              · (intro w' hSw; obtain ⟨m0, m1, m2, m3, m4⟩ := hSw; go_simp; try with_reducible rfl)
              try simp only [Act.put, List.setIfInBounds_toArray, List.set_cons_zero, List.set_cons_succ]
              refine wpAnyM_take (i := 4) [] (oi := { dst := some 71, op := Op.slice 22 (Operand.tmp 69) none (some (Operand.tmp 70)) none, type := 22, pos := _, after := #[{ on := 2, ground := Ground.data }, { on := 3, ground := Ground.data }], guard := none }) (v := .slice none 0 0) rfl (by kernel_rfl) (by kernel_rfl) (by kernel_rfl) (by kernel_rfl) (fun _ _ _ h => h) (Or.inl ⟨by rfl, ?_⟩) hS ?_
              · (intro w' hSw; obtain ⟨m0, m1, m2, m3, m4⟩ := hSw; go_simp; try with_reducible rfl)
              try simp only [Act.put, List.setIfInBounds_toArray, List.set_cons_zero, List.set_cons_succ]
              refine wpAnyM_take (i := 6) [] (oi := { dst := some 73, op := Op.load 30 (Operand.tmp 3), type := 30, pos := _, after := #[], guard := none }) (v := .agg #[.string e.key, .int .i64 e.s, .int .i64 e.g, .int .i64 e.c]) rfl (by kernel_rfl) (by kernel_rfl) (by kernel_rfl) (by kernel_rfl) (fun _ _ _ h => h) (Or.inl ⟨by rfl, ?_⟩) hS ?_
              · (intro w' hSw; obtain ⟨m0, m1, m2, m3, m4⟩ := hSw; go_simp; try with_reducible rfl)
              try simp only [Act.put, List.setIfInBounds_toArray, List.set_cons_zero, List.set_cons_succ]
              refine wpAnyM_take (i := 9) [] (oi := { dst := some 76, op := Op.fieldAddr 24 (Operand.tmp 2) 4, type := 0, pos := _, after := #[], guard := none }) (v := ?_) rfl (by kernel_rfl) (by kernel_rfl) (by kernel_rfl) (by kernel_rfl) (fun _ _ _ h => h) (Or.inl ⟨by rfl, ?_⟩) hS ?_
              rotate_left
              · (intro w' hSw; obtain ⟨m0, m1, m2, m3, m4⟩ := hSw; go_simp; try with_reducible rfl)
              try simp only [Act.put, List.setIfInBounds_toArray, List.set_cons_zero, List.set_cons_succ]
              refine wpAnyM_take (i := 10) [] (oi := { dst := some 77, op := Op.load 22 (Operand.tmp 76), type := 22, pos := _, after := #[{ on := 9, ground := Ground.data }], guard := none }) (v := .slice none 0 0) rfl (by kernel_rfl) (by kernel_rfl) (by kernel_rfl) (by kernel_rfl) (fun _ _ _ h => h) (Or.inl ⟨by rfl, ?_⟩) hS ?_
              · (intro w' hSw; obtain ⟨m0, m1, m2, m3, m4⟩ := hSw; go_simp; try with_reducible rfl)
              try simp only [Act.put, List.setIfInBounds_toArray, List.set_cons_zero, List.set_cons_succ]
              refine wpAnyM_take (i := 11) [] (oi := { dst := some 78, op := Op.move (Operand.tmp 8), type := 3, pos := _, after := #[], guard := none }) (v := .int .i64 (0 : Int)) rfl (by kernel_rfl) (by kernel_rfl) (by kernel_rfl) (by kernel_rfl) (fun _ _ _ h => h) (Or.inl ⟨by rfl, ?_⟩) hS ?_
              · (intro w' hSw; obtain ⟨m0, m1, m2, m3, m4⟩ := hSw; go_simp; try with_reducible rfl)
              try simp only [Act.put, List.setIfInBounds_toArray, List.set_cons_zero, List.set_cons_succ]
              refine wpAnyM_take (i := 12) [] (oi := { dst := some 79, op := Op.slice 22 (Operand.tmp 77) (some (Operand.tmp 78)) none none, type := 22, pos := _, after := #[{ on := 10, ground := Ground.data }, { on := 11, ground := Ground.data }], guard := none }) (v := .slice none (0 - 0) 0) rfl (by kernel_rfl) (by kernel_rfl) (by kernel_rfl) (by kernel_rfl) (fun _ _ _ h => h) (Or.inl ⟨by rfl, ?_⟩) hS ?_
              · (intro w' hSw; obtain ⟨m0, m1, m2, m3, m4⟩ := hSw; go_simp; try with_reducible rfl)
              try simp only [Act.put, List.setIfInBounds_toArray, List.set_cons_zero, List.set_cons_succ]
              refine wpAnyM_ready (rs := [5, 7]) (by kernel_rfl) (by simp) ?_
              refine AllReadyM.cons (o := { dst := some 72, op := Op.call { callee := Callee.builtin Builtin.append, args := #[Operand.tmp 67, Operand.tmp 71], argTypes := #[22, 22] }, type := 22, pos := _, after := #[{ on := 0, ground := Ground.data }, { on := 4, ground := Ground.data }], guard := none }) rfl (fun K hK => ?_) (AllReadyM.cons (o := { dst := some 74, op := Op.buildSlice 22 1 #[(0, Operand.tmp 73)], type := 22, pos := _, after := #[{ on := 6, ground := Ground.data }], guard := none }) rfl (fun K hK => ?_) AllReadyM.nil)
              · have HK9' : Hid (∀ a w, _ → K a w) := hK
                clear hK
                obtain ⟨v1, w6, hr1, ho1, hb6, -⟩ := HA1.out _ (.slice none 0 0) hbD (OwnE.nil _ _)
                refine step_appR rfl _ _ _ rfl _ _ rfl rfl hr1 ?_
                refine HK9'.out _ _ ⟨fun _ => HS.out _ hb6, ?_⟩
                clear HK9' K
                try simp only [Act.put, List.setIfInBounds_toArray, List.set_cons_zero, List.set_cons_succ]
                refine wpAnyM_ready (rs := [7]) (by kernel_rfl) (by simp) ?_
                refine AllReadyM.cons (o := { dst := some 74, op := Op.buildSlice 22 1 #[(0, Operand.tmp 73)], type := 22, pos := _, after := #[{ on := 6, ground := Ground.data }], guard := none }) rfl (fun K hK => ?_) AllReadyM.nil
                have HK9 : Hid (∀ a w, _ → K a w) := hK
                clear hK
                go_simp
                have hb6' : Below wq.heap.size wq (w6.alloc (.cells #[.string e.key, .int .i64 e.s, .int .i64 e.g, .int .i64 e.c] 30)) := hb6.alloc hb6.size _
                refine HK9.out _ _ ⟨fun _ => HS.out _ hb6', ?_⟩
                clear HK9 K
                try simp only [Act.put, List.setIfInBounds_toArray, List.set_cons_zero, List.set_cons_succ]
                have ho1' := ho1.below ((Below.refl _ w6).alloc (Nat.le_refl _) (.cells #[.string e.key, .int .i64 e.s, .int .i64 e.g, .int .i64 e.c] 30)) (Nat.le_refl _)
                refine wpAnyM_ready (rs := [8]) (by kernel_rfl) (by simp) ?_
                refine AllReadyM.cons (o := { dst := some 75, op := Op.call { callee := Callee.builtin Builtin.append, args := #[Operand.tmp 72, Operand.tmp 74], argTypes := #[22, 22] }, type := 22, pos := _, after := #[{ on := 5, ground := Ground.data }, { on := 7, ground := Ground.data }, { on := 5, ground := Ground.chain }], guard := none }) rfl (fun K hK => ?_) AllReadyM.nil
                have HK9 : Hid (∀ a w, _ → K a w) := hK
                clear hK
                obtain ⟨v2, w7, hr2, ho2, hb7⟩ := HA2.out _ v1 w6.heap.size hb6' ho1' (ens_one w6 e)
                refine step_appR rfl _ _ _ rfl _ _ rfl (by go_simp) hr2 ?_
                refine HK9.out _ _ ⟨fun _ => HS.out _ hb7, ?_⟩
                clear HK9 K
                try simp only [Act.put, List.setIfInBounds_toArray, List.set_cons_zero, List.set_cons_succ]
                refine wpAnyM_ready (rs := [13]) (by kernel_rfl) (by simp) ?_
                refine AllReadyM.cons (o := { dst := some 80, op := Op.call { callee := Callee.builtin Builtin.append, args := #[Operand.tmp 75, Operand.tmp 79], argTypes := #[22, 22] }, type := 22, pos := _, after := #[{ on := 8, ground := Ground.data }, { on := 12, ground := Ground.data }, { on := 8, ground := Ground.chain }], guard := none }) rfl (fun K hK => ?_) AllReadyM.nil
                have HK9 : Hid (∀ a w, _ → K a w) := hK
                clear hK
                obtain ⟨v3, w8, hr3, ho3, hb8, -⟩ := HA3.out _ v2 hb7 ho2
                refine step_appR rfl _ _ _ rfl _ _ rfl rfl hr3 ?_
                refine HK9.out _ _ ⟨fun _ => HS.out _ hb8, ?_⟩
                clear HK9 K
                try simp only [Act.put, List.setIfInBounds_toArray, List.set_cons_zero, List.set_cons_succ]
                obtain ⟨q9, c9, hv9, -, -⟩ := ho3.ens
                subst hv9
                have HO8 : Hid (OwnE w8 wq.heap.size (.slice q9 ([] ++ l.take 0 ++ [e] ++ l.drop 0).length c9) ([] ++ l.take 0 ++ [e] ++ l.drop 0)) := ho3
                have hln : ([] ++ l.take 0 ++ [e] ++ l.drop 0).length = (0 + 1) := by have := HL.out; first | (simp; done) | (simp; omega) | (simp [List.eq_nil_of_length_eq_zero HL.out])
                rw [hln] at HO8
                rw [hln]
                clear hln
                have HB8 : Hid (Below w1.heap.size w1 w8) := HW9.out.trans (hb8.mono HW9.out.size)
                have hk8 := HK1.out.below HB8.out HK1.out.lt
                have hz8 := HR1.out.below HB8.out HR1.out.lt
                have a4' : w8.cell? ⟨w.heap.size, 4, none⟩ = some (.slice none 0 0) := hk8.cell 4
                have z4' : w8.frozen? ⟨w.heap.size, 4, none⟩ = false := hk8.frozen 4
                refine wpAnyM_ready (rs := [14]) (by kernel_rfl) (by simp) ?_
                refine AllReadyM.cons (o := { dst := some 81, op := Op.fieldAddr 24 (Operand.tmp 2) 4, type := 0, pos := _, after := #[{ on := 0, ground := Ground.phase }, { on := 1, ground := Ground.phase }, { on := 2, ground := Ground.phase }, { on := 3, ground := Ground.phase }, { on := 4, ground := Ground.phase }, { on := 5, ground := Ground.phase }, { on := 6, ground := Ground.phase }, { on := 7, ground := Ground.phase }, { on := 8, ground := Ground.phase }, { on := 9, ground := Ground.phase }, { on := 10, ground := Ground.phase }, { on := 11, ground := Ground.phase }, { on := 12, ground := Ground.phase }, { on := 13, ground := Ground.phase }], guard := none }) rfl (fun K hK => ?_) AllReadyM.nil
                have HK9 : Hid (∀ a w, _ → K a w) := hK
                clear hK
                go_simp
                refine HK9.out _ _ ⟨fun _ => HS.out _ hb8, ?_⟩
                clear HK9 K
                try simp only [Act.put, List.setIfInBounds_toArray, List.set_cons_zero, List.set_cons_succ]
                refine wpAnyM_ready (rs := [15]) (by kernel_rfl) (by simp) ?_
                refine AllReadyM.cons (o := { dst := none, op := Op.store 22 (Operand.tmp 81) (Operand.tmp 80), type := 0, pos := _, after := #[{ on := 14, ground := Ground.data }, { on := 13, ground := Ground.data }, { on := 13, ground := Ground.chain }, { on := 0, ground := Ground.phase }, { on := 1, ground := Ground.phase }, { on := 2, ground := Ground.phase }, { on := 3, ground := Ground.phase }, { on := 4, ground := Ground.phase }, { on := 5, ground := Ground.phase }, { on := 6, ground := Ground.phase }, { on := 7, ground := Ground.phase }, { on := 8, ground := Ground.phase }, { on := 9, ground := Ground.phase }, { on := 10, ground := Ground.phase }, { on := 11, ground := Ground.phase }, { on := 12, ground := Ground.phase }, { on := 13, ground := Ground.phase }], guard := none }) rfl (fun K hK => ?_) AllReadyM.nil
                have HK9 : Hid (∀ a w, _ → K a w) := hK
                clear hK
                go_simp
                refine HK9.out _ _ ⟨fun h => absurd h (by omega), ?_⟩
                clear HK9 K
                try simp only [Act.put, List.setIfInBounds_toArray, List.set_cons_zero, List.set_cons_succ]
                refine wpAnyM_done (by kernel_rfl) ?_ _
                obtain ⟨w9, hw9⟩ : ∃ w9, w8.setCell ⟨w.heap.size, 4, none⟩ (.slice q9 (0 + 1) c9) = w9 := ⟨_, rfl⟩
                have hk9 : Bk w9 w.heap.size 24 #[.bool leaf, .string lo, .string hi, .int .i64 r, .slice q9 (0 + 1) c9] := by rw [← hw9]; exact hk8.set 4 _
                have hr9 : Bk w9 (w.heap.size + 1 + 1) 24 zc := by rw [← hw9]; exact hz8.other (by simp; omega) _
                have ht9 : Tn [w.heap.size] w8 w9 := by rw [← hw9]; exact (Tn.refl _ _).setCell (.inl (by simp)) _
                rw [hw9]
                clear hw9 a4' z4' hS
                have a0 : w9.cell? ⟨w.heap.size, 0, none⟩ = some (.bool leaf) := hk9.cell 0
                have a1 : w9.cell? ⟨w.heap.size, 1, none⟩ = some (.string lo) := hk9.cell 1
                have a2 : w9.cell? ⟨w.heap.size, 2, none⟩ = some (.string hi) := hk9.cell 2
                have a3 : w9.cell? ⟨w.heap.size, 3, none⟩ = some (.int .i64 r) := hk9.cell 3
                have a4 : w9.cell? ⟨w.heap.size, 4, none⟩ = some (.slice q9 (0 + 1) c9) := hk9.cell 4
                have b0 : w9.cell? ⟨w.heap.size + 1 + 1, 0, none⟩ = some (.bool false) := hr9.cell 0
                have f0 : w9.frozen? ⟨w.heap.size + 1 + 1, 0, none⟩ = false := hr9.frozen 0
                have b1 : w9.cell? ⟨w.heap.size + 1 + 1, 1, none⟩ = some (.string ⟨#[]⟩) := hr9.cell 1
                have f1 : w9.frozen? ⟨w.heap.size + 1 + 1, 1, none⟩ = false := hr9.frozen 1
                have b2 : w9.cell? ⟨w.heap.size + 1 + 1, 2, none⟩ = some (.string ⟨#[]⟩) := hr9.cell 2
                have f2 : w9.frozen? ⟨w.heap.size + 1 + 1, 2, none⟩ = false := hr9.frozen 2
                have b3 : w9.cell? ⟨w.heap.size + 1 + 1, 3, none⟩ = some (.int .i64 0) := hr9.cell 3
                have f3 : w9.frozen? ⟨w.heap.size + 1 + 1, 3, none⟩ = false := hr9.frozen 3
                have b4 : w9.cell? ⟨w.heap.size + 1 + 1, 4, none⟩ = some (.slice none 0 0) := hr9.cell 4
                have f4 : w9.frozen? ⟨w.heap.size + 1 + 1, 4, none⟩ = false := hr9.frozen 4
                have HR9 : Hid (Bk w9 (w.heap.size + 1 + 1) 24 zc) := hr9
                have HT9 : Hid (Tn [w.heap.size] w8 w9) := ht9
                clear hk9 hr9 ht9
                go_wp2
                obtain ⟨we, hwe⟩ : ∃ we, we = put5 w9 (w.heap.size + 1 + 1) (.bool leaf) (.string lo) (.string hi) (.int .i64 r) (.slice q9 (0 + 1) c9) := ⟨_, rfl⟩
                have hA : Bk we (w.heap.size + 1 + 1) 24 #[.bool leaf, .string lo, .string hi, .int .i64 r, .slice q9 (0 + 1) c9] := by rw [hwe]; exact Bk.five HR9.out _ _ _ _ _
                have ht : Tn [w.heap.size + 1 + 1] w9 we := by rw [hwe]; exact (Tn.refl _ _).five (.inl (by simp)) _ _ _ _ _
                unfold put5 at hwe
                rw [← hwe]
                clear hwe
                refine bodyPost_ret (results_two (cs := [.bool leaf, .string lo, .string hi, .int .i64 r, .slice q9 (0 + 1) c9]) rfl rfl pg_agg pg_size rfl hA) rfl ?_
                rw [HQ.out]
                have hs0 := HR1.out.lt
                have t8 : Tn [w.heap.size, w.heap.size + 1 + 1] w8 we := (HT9.out.mono (by simp)).trans ht (by simp)
                have hB8 := HB1.out.trans (HB8.out.mono HB1.out.size)
                have hsw := HW9.out.size
                have hdl : (l.take 0 ++ [e] ++ l.drop 0).length = (0 + 1) := by have := HL.out; first | (simp; done) | (simp; omega) | (simp [List.eq_nil_of_length_eq_zero HL.out])
                refine ⟨_, rfl, ⟨q9, c9, by simp only [hdl], ?_⟩, hB8.trans (t8.below hB8.size (by simp; omega))⟩
                simp only [hdl]
                have hsg := (HO8.out.seg).tn t8 (by intro y hy; simp at hy; omega)
                have hsb := HB1.out.size
                exact (show Seg we wq.heap.size q9 ((0 + 1)) c9 (l.take 0 ++ [e] ++ l.drop 0) by simpa using hsg).mono (by omega)
              · have HK9' : Hid (∀ a w, _ → K a w) := hK
                clear hK
                go_simp
                have hbE : Below wq.heap.size wq (wq.drew.alloc (.cells #[.string e.key, .int .i64 e.s, .int .i64 e.g, .int .i64 e.c] 30)) := hbD.alloc (Nat.le_refl _) _
                refine HK9'.out _ _ ⟨fun _ => HS.out _ hbE, ?_⟩
                clear HK9' K
                try simp only [Act.put, List.setIfInBounds_toArray, List.set_cons_zero, List.set_cons_succ]
                refine wpAnyM_ready (rs := [5]) (by kernel_rfl) (by simp) ?_
                refine AllReadyM.cons (o := { dst := some 72, op := Op.call { callee := Callee.builtin Builtin.append, args := #[Operand.tmp 67, Operand.tmp 71], argTypes := #[22, 22] }, type := 22, pos := _, after := #[{ on := 0, ground := Ground.data }, { on := 4, ground := Ground.data }], guard := none }) rfl (fun K hK => ?_) AllReadyM.nil
                have HK9 : Hid (∀ a w, _ → K a w) := hK
                clear hK
                obtain ⟨v1, w6, hr1, ho1, hb6, hb6E⟩ := HA1.out _ (.slice none 0 0) hbE (OwnE.nil _ _)
                refine step_appR rfl _ _ _ rfl _ _ rfl rfl hr1 ?_
                refine HK9.out _ _ ⟨fun _ => HS.out _ hb6, ?_⟩
                clear HK9 K
                try simp only [Act.put, List.setIfInBounds_toArray, List.set_cons_zero, List.set_cons_succ]
                have hent : Ens w6 (some ⟨wq.heap.size, 0, none⟩) [e] := (ens_one wq.drew e).below (hb6E rfl) (Nat.le_refl _)
                refine wpAnyM_ready (rs := [8]) (by kernel_rfl) (by simp) ?_
                refine AllReadyM.cons (o := { dst := some 75, op := Op.call { callee := Callee.builtin Builtin.append, args := #[Operand.tmp 72, Operand.tmp 74], argTypes := #[22, 22] }, type := 22, pos := _, after := #[{ on := 5, ground := Ground.data }, { on := 7, ground := Ground.data }, { on := 5, ground := Ground.chain }], guard := none }) rfl (fun K hK => ?_) AllReadyM.nil
                have HK9 : Hid (∀ a w, _ → K a w) := hK
                clear hK
                obtain ⟨v2, w7, hr2, ho2, hb7⟩ := HA2.out _ v1 wq.heap.size hb6 ho1 hent
                refine step_appR rfl _ _ _ rfl _ _ rfl (by go_simp) hr2 ?_
                refine HK9.out _ _ ⟨fun _ => HS.out _ hb7, ?_⟩
                clear HK9 K
                try simp only [Act.put, List.setIfInBounds_toArray, List.set_cons_zero, List.set_cons_succ]
                refine wpAnyM_ready (rs := [13]) (by kernel_rfl) (by simp) ?_
                refine AllReadyM.cons (o := { dst := some 80, op := Op.call { callee := Callee.builtin Builtin.append, args := #[Operand.tmp 75, Operand.tmp 79], argTypes := #[22, 22] }, type := 22, pos := _, after := #[{ on := 8, ground := Ground.data }, { on := 12, ground := Ground.data }, { on := 8, ground := Ground.chain }], guard := none }) rfl (fun K hK => ?_) AllReadyM.nil
                have HK9 : Hid (∀ a w, _ → K a w) := hK
                clear hK
                obtain ⟨v3, w8, hr3, ho3, hb8, -⟩ := HA3.out _ v2 hb7 ho2
                refine step_appR rfl _ _ _ rfl _ _ rfl rfl hr3 ?_
                refine HK9.out _ _ ⟨fun _ => HS.out _ hb8, ?_⟩
                clear HK9 K
                try simp only [Act.put, List.setIfInBounds_toArray, List.set_cons_zero, List.set_cons_succ]
                obtain ⟨q9, c9, hv9, -, -⟩ := ho3.ens
                subst hv9
                have HO8 : Hid (OwnE w8 wq.heap.size (.slice q9 ([] ++ l.take 0 ++ [e] ++ l.drop 0).length c9) ([] ++ l.take 0 ++ [e] ++ l.drop 0)) := ho3
                have hln : ([] ++ l.take 0 ++ [e] ++ l.drop 0).length = (0 + 1) := by have := HL.out; first | (simp; done) | (simp; omega) | (simp [List.eq_nil_of_length_eq_zero HL.out])
                rw [hln] at HO8
                rw [hln]
                clear hln
                have HB8 : Hid (Below w1.heap.size w1 w8) := HW9.out.trans (hb8.mono HW9.out.size)
                have hk8 := HK1.out.below HB8.out HK1.out.lt
                have hz8 := HR1.out.below HB8.out HR1.out.lt
                have a4' : w8.cell? ⟨w.heap.size, 4, none⟩ = some (.slice none 0 0) := hk8.cell 4
                have z4' : w8.frozen? ⟨w.heap.size, 4, none⟩ = false := hk8.frozen 4
                refine wpAnyM_ready (rs := [14]) (by kernel_rfl) (by simp) ?_
                refine AllReadyM.cons (o := { dst := some 81, op := Op.fieldAddr 24 (Operand.tmp 2) 4, type := 0, pos := _, after := #[{ on := 0, ground := Ground.phase }, { on := 1, ground := Ground.phase }, { on := 2, ground := Ground.phase }, { on := 3, ground := Ground.phase }, { on := 4, ground := Ground.phase }, { on := 5, ground := Ground.phase }, { on := 6, ground := Ground.phase }, { on := 7, ground := Ground.phase }, { on := 8, ground := Ground.phase }, { on := 9, ground := Ground.phase }, { on := 10, ground := Ground.phase }, { on := 11, ground := Ground.phase }, { on := 12, ground := Ground.phase }, { on := 13, ground := Ground.phase }], guard := none }) rfl (fun K hK => ?_) AllReadyM.nil
                have HK9 : Hid (∀ a w, _ → K a w) := hK
                clear hK
                go_simp
                refine HK9.out _ _ ⟨fun _ => HS.out _ hb8, ?_⟩
                clear HK9 K
                try simp only [Act.put, List.setIfInBounds_toArray, List.set_cons_zero, List.set_cons_succ]
                refine wpAnyM_ready (rs := [15]) (by kernel_rfl) (by simp) ?_
                refine AllReadyM.cons (o := { dst := none, op := Op.store 22 (Operand.tmp 81) (Operand.tmp 80), type := 0, pos := _, after := #[{ on := 14, ground := Ground.data }, { on := 13, ground := Ground.data }, { on := 13, ground := Ground.chain }, { on := 0, ground := Ground.phase }, { on := 1, ground := Ground.phase }, { on := 2, ground := Ground.phase }, { on := 3, ground := Ground.phase }, { on := 4, ground := Ground.phase }, { on := 5, ground := Ground.phase }, { on := 6, ground := Ground.phase }, { on := 7, ground := Ground.phase }, { on := 8, ground := Ground.phase }, { on := 9, ground := Ground.phase }, { on := 10, ground := Ground.phase }, { on := 11, ground := Ground.phase }, { on := 12, ground := Ground.phase }, { on := 13, ground := Ground.phase }], guard := none }) rfl (fun K hK => ?_) AllReadyM.nil
                have HK9 : Hid (∀ a w, _ → K a w) := hK
                clear hK
                go_simp
                refine HK9.out _ _ ⟨fun h => absurd h (by omega), ?_⟩
                clear HK9 K
                try simp only [Act.put, List.setIfInBounds_toArray, List.set_cons_zero, List.set_cons_succ]
                refine wpAnyM_done (by kernel_rfl) ?_ _
                obtain ⟨w9, hw9⟩ : ∃ w9, w8.setCell ⟨w.heap.size, 4, none⟩ (.slice q9 (0 + 1) c9) = w9 := ⟨_, rfl⟩
                have hk9 : Bk w9 w.heap.size 24 #[.bool leaf, .string lo, .string hi, .int .i64 r, .slice q9 (0 + 1) c9] := by rw [← hw9]; exact hk8.set 4 _
                have hr9 : Bk w9 (w.heap.size + 1 + 1) 24 zc := by rw [← hw9]; exact hz8.other (by simp; omega) _
                have ht9 : Tn [w.heap.size] w8 w9 := by rw [← hw9]; exact (Tn.refl _ _).setCell (.inl (by simp)) _
                rw [hw9]
                clear hw9 a4' z4' hS
                have a0 : w9.cell? ⟨w.heap.size, 0, none⟩ = some (.bool leaf) := hk9.cell 0
                have a1 : w9.cell? ⟨w.heap.size, 1, none⟩ = some (.string lo) := hk9.cell 1
                have a2 : w9.cell? ⟨w.heap.size, 2, none⟩ = some (.string hi) := hk9.cell 2
                have a3 : w9.cell? ⟨w.heap.size, 3, none⟩ = some (.int .i64 r) := hk9.cell 3
                have a4 : w9.cell? ⟨w.heap.size, 4, none⟩ = some (.slice q9 (0 + 1) c9) := hk9.cell 4
                have b0 : w9.cell? ⟨w.heap.size + 1 + 1, 0, none⟩ = some (.bool false) := hr9.cell 0
                have f0 : w9.frozen? ⟨w.heap.size + 1 + 1, 0, none⟩ = false := hr9.frozen 0
                have b1 : w9.cell? ⟨w.heap.size + 1 + 1, 1, none⟩ = some (.string ⟨#[]⟩) := hr9.cell 1
                have f1 : w9.frozen? ⟨w.heap.size + 1 + 1, 1, none⟩ = false := hr9.frozen 1
                have b2 : w9.cell? ⟨w.heap.size + 1 + 1, 2, none⟩ = some (.string ⟨#[]⟩) := hr9.cell 2
                have f2 : w9.frozen? ⟨w.heap.size + 1 + 1, 2, none⟩ = false := hr9.frozen 2
                have b3 : w9.cell? ⟨w.heap.size + 1 + 1, 3, none⟩ = some (.int .i64 0) := hr9.cell 3
                have f3 : w9.frozen? ⟨w.heap.size + 1 + 1, 3, none⟩ = false := hr9.frozen 3
                have b4 : w9.cell? ⟨w.heap.size + 1 + 1, 4, none⟩ = some (.slice none 0 0) := hr9.cell 4
                have f4 : w9.frozen? ⟨w.heap.size + 1 + 1, 4, none⟩ = false := hr9.frozen 4
                have HR9 : Hid (Bk w9 (w.heap.size + 1 + 1) 24 zc) := hr9
                have HT9 : Hid (Tn [w.heap.size] w8 w9) := ht9
                clear hk9 hr9 ht9
                go_wp2
                obtain ⟨we, hwe⟩ : ∃ we, we = put5 w9 (w.heap.size + 1 + 1) (.bool leaf) (.string lo) (.string hi) (.int .i64 r) (.slice q9 (0 + 1) c9) := ⟨_, rfl⟩
                have hA : Bk we (w.heap.size + 1 + 1) 24 #[.bool leaf, .string lo, .string hi, .int .i64 r, .slice q9 (0 + 1) c9] := by rw [hwe]; exact Bk.five HR9.out _ _ _ _ _
                have ht : Tn [w.heap.size + 1 + 1] w9 we := by rw [hwe]; exact (Tn.refl _ _).five (.inl (by simp)) _ _ _ _ _
                unfold put5 at hwe
                rw [← hwe]
                clear hwe
                refine bodyPost_ret (results_two (cs := [.bool leaf, .string lo, .string hi, .int .i64 r, .slice q9 (0 + 1) c9]) rfl rfl pg_agg pg_size rfl hA) rfl ?_
                rw [HQ.out]
                have hs0 := HR1.out.lt
                have t8 : Tn [w.heap.size, w.heap.size + 1 + 1] w8 we := (HT9.out.mono (by simp)).trans ht (by simp)
                have hB8 := HB1.out.trans (HB8.out.mono HB1.out.size)
                have hsw := HW9.out.size
                have hdl : (l.take 0 ++ [e] ++ l.drop 0).length = (0 + 1) := by have := HL.out; first | (simp; done) | (simp; omega) | (simp [List.eq_nil_of_length_eq_zero HL.out])
                refine ⟨_, rfl, ⟨q9, c9, by simp only [hdl], ?_⟩, hB8.trans (t8.below hB8.size (by simp; omega))⟩
                simp only [hdl]
                have hsg := (HO8.out.seg).tn t8 (by intro y hy; simp at hy; omega)
                have hsb := HB1.out.size
                exact (show Seg we wq.heap.size q9 ((0 + 1)) c9 (l.take 0 ++ [e] ++ l.drop 0) by simpa using hsg).mono (by omega)
            | some ad =>
              have HQ : Hid (out = (⟨leaf, lo, hi, r, l.take k ++ [e] ++ l.drop k⟩, 0)) := by
                rw [Hid, HO3.out, HK9.out]
                simp [Pg.ins]
              obtain ⟨a7, ha7⟩ : ∃ a7 : Addr, (if cap = k then some ad else some (ad.add (k * 4))) = some a7 := by split <;> exact ⟨_, rfl⟩
              have HREST : Hid (∀ W, Below wq.heap.size wq W → Ens W (some a7) (l.drop k)) := fun W hW => by
                rw [List.drop_of_length_le (by have := HL.out; omega)]
                exact Ens.nil _ _
              have E7 : Hid ((if cap = k then some ad else some (ad.add (k * 4))) = some a7) := ha7
              have e1 : (k : Int) ≤ (k : Int) := by omega
              have e2 : (k : Int) ≤ (cap : Int) := by omega
              have e5 : (0 : Int) ≤ (k : Int) := by omega
              clear ha7 HO2 HO3 HK9
              go_wp2_with fail
              have HS : Hid (∀ w', Below wq.heap.size wq w' → w'.cell? ⟨w.heap.size, 4, none⟩ = some (.slice (some ad) k cap) ∧ w'.cell? ⟨w.heap.size + 1, 0, none⟩ = some (.string e.key) ∧ w'.cell? ⟨w.heap.size + 1, 1, none⟩ = some (.int .i64 e.s) ∧ w'.cell? ⟨w.heap.size + 1, 2, none⟩ = some (.int .i64 e.g) ∧ w'.cell? ⟨w.heap.size + 1, 3, none⟩ = some (.int .i64 e.c)) := fun w' hW => by
                have h1 := HW9.out.trans (hW.mono HW9.out.size)
                have h2 := HK1.out.below h1 HK1.out.lt
                have h3 := HE1.out.below h1 HE1.out.lt
                exact ⟨h2.cell 4, h3.cell 0, h3.cell 1, h3.cell 2, h3.cell 3⟩
              have HA1 : Hid _ := app_one (w0 := wq) (B0 := 0) (Nat.zero_le _) (l := []) (l2 := l.take k) (p := (some ad)) (m := k) (c := cap) (by rw [List.length_take]; have := HL.out; omega) (fun W' hW' => (HX1.out.below (HW9.out.trans (hW'.mono HW9.out.size)) (Nat.le_refl _)).take k) (fun h => by cases h) (by first | (simp; done) | (simp; omega) | (have := HL.out; simp; omega))
              have HA2 : Hid _ := app_entry (w0 := wq) (l := [] ++ l.take k) (e := e) (by first | (simp; done) | (simp; omega) | (have := HL.out; simp; omega))
              have HA3 : Hid _ := app_one (w0 := wq) (B0 := 0) (Nat.zero_le _) (l := [] ++ l.take k ++ [e]) (l2 := l.drop k) (p := (some a7)) (m := 0) (c := (cap - k)) (by rw [List.length_drop, HL.out]; try omega) (fun W' hW' => HREST.out W' hW') (fun h => by cases h) (by have := HL.out; first | (simp; done) | (simp; omega))
              have hS := HS.out wq.drew (Below.refl _ _).drew
              have hbD : Below wq.heap.size wq wq.drew := (Below.refl _ _).drew
              refine wp_region_mid (S := (fun w' => w'.cell? ⟨w.heap.size, 4, none⟩ = some (.slice (some ad) k cap) ∧ w'.cell? ⟨w.heap.size + 1, 0, none⟩ = some (.string e.key) ∧ w'.cell? ⟨w.heap.size + 1, 1, none⟩ = some (.int .i64 e.s) ∧ w'.cell? ⟨w.heap.size + 1, 2, none⟩ = some (.int .i64 e.g) ∧ w'.cell? ⟨w.heap.size + 1, 3, none⟩ = some (.int .i64 e.c))) 15 (by kernel_rfl) ?_
              refine wpAnyM_take (i := 0) [] (oi := { dst := some 67, op := Op.move (Operand.tmp 6), type := 22, pos := _, after := #[], guard := none }) (v := .slice none 0 0) rfl (by kernel_rfl) (by kernel_rfl) (by kernel_rfl) (by kernel_rfl) (fun _ _ _ h => h) (Or.inl ⟨by rfl, ?_⟩) hS ?_
              · (intro w' hSw; obtain ⟨m0, m1, m2, m3, m4⟩ := hSw; go_simp; try with_reducible rfl)
              try simp only [Act.put, List.setIfInBounds_toArray, List.set_cons_zero, List.set_cons_succ]
              refine wpAnyM_take (i := 1) [] (oi := { dst := some 68, op := Op.fieldAddr 24 (Operand.tmp 2) 4, type := 0, pos := _, after := #[], guard := none }) (v := ?_) rfl (by kernel_rfl) (by kernel_rfl) (by kernel_rfl) (by kernel_rfl) (fun _ _ _ h => h) (Or.inl ⟨by rfl, ?_⟩) hS ?_
              rotate_left
              · (intro w' hSw; obtain ⟨m0, m1, m2, m3, m4⟩ := hSw; go_simp; try with_reducible rfl)
              try simp only [Act.put, List.setIfInBounds_toArray, List.set_cons_zero, List.set_cons_succ]
              refine wpAnyM_take (i := 2) [] (oi := { dst := some 69, op := Op.load 22 (Operand.tmp 68), type := 22, pos := _, after := #[{ on := 1, ground := Ground.data }], guard := none }) (v := .slice (some ad) k cap) rfl (by kernel_rfl) (by kernel_rfl) (by kernel_rfl) (by kernel_rfl) (fun _ _ _ h => h) (Or.inl ⟨by rfl, ?_⟩) hS ?_
              · (intro w' hSw; obtain ⟨m0, m1, m2, m3, m4⟩ := hSw; go_simp; try with_reducible rfl)
              try simp only [Act.put, List.setIfInBounds_toArray, List.set_cons_zero, List.set_cons_succ]
              refine wpAnyM_take (i := 3) [] (oi := { dst := some 70, op := Op.move (Operand.tmp 8), type := 3, pos := _, after := #[], guard := none }) (v := .int .i64 (k : Int)) rfl (by kernel_rfl) (by kernel_rfl) (by kernel_rfl) (by kernel_rfl) (fun _ _ _ h => h) (Or.inl ⟨by rfl, ?_⟩) hS ?_
              · (intro w' hSw; obtain ⟨m0, m1, m2, m3, m4⟩ := hSw; go_simp; try with_reducible rfl)
              try simp only [Act.put, List.setIfInBounds_toArray, List.set_cons_zero, List.set_cons_succ]
              refine wpAnyM_take (i := 4) [] (oi := { dst := some 71, op := Op.slice 22 (Operand.tmp 69) none (some (Operand.tmp 70)) none, type := 22, pos := _, after := #[{ on := 2, ground := Ground.data }, { on := 3, ground := Ground.data }], guard := none }) (v := .slice (some ad) k cap) rfl (by kernel_rfl) (by kernel_rfl) (by kernel_rfl) (by kernel_rfl) (fun _ _ _ h => h) (Or.inl ⟨by rfl, ?_⟩) hS ?_
              · (intro w' hSw; obtain ⟨m0, m1, m2, m3, m4⟩ := hSw; go_simp; try with_reducible rfl)
              try simp only [Act.put, List.setIfInBounds_toArray, List.set_cons_zero, List.set_cons_succ]
              refine wpAnyM_take (i := 6) [] (oi := { dst := some 73, op := Op.load 30 (Operand.tmp 3), type := 30, pos := _, after := #[], guard := none }) (v := .agg #[.string e.key, .int .i64 e.s, .int .i64 e.g, .int .i64 e.c]) rfl (by kernel_rfl) (by kernel_rfl) (by kernel_rfl) (by kernel_rfl) (fun _ _ _ h => h) (Or.inl ⟨by rfl, ?_⟩) hS ?_
              · (intro w' hSw; obtain ⟨m0, m1, m2, m3, m4⟩ := hSw; go_simp; try with_reducible rfl)
              try simp only [Act.put, List.setIfInBounds_toArray, List.set_cons_zero, List.set_cons_succ]
              refine wpAnyM_take (i := 9) [] (oi := { dst := some 76, op := Op.fieldAddr 24 (Operand.tmp 2) 4, type := 0, pos := _, after := #[], guard := none }) (v := ?_) rfl (by kernel_rfl) (by kernel_rfl) (by kernel_rfl) (by kernel_rfl) (fun _ _ _ h => h) (Or.inl ⟨by rfl, ?_⟩) hS ?_
              rotate_left
              · (intro w' hSw; obtain ⟨m0, m1, m2, m3, m4⟩ := hSw; go_simp; try with_reducible rfl)
              try simp only [Act.put, List.setIfInBounds_toArray, List.set_cons_zero, List.set_cons_succ]
              refine wpAnyM_take (i := 10) [] (oi := { dst := some 77, op := Op.load 22 (Operand.tmp 76), type := 22, pos := _, after := #[{ on := 9, ground := Ground.data }], guard := none }) (v := .slice (some ad) k cap) rfl (by kernel_rfl) (by kernel_rfl) (by kernel_rfl) (by kernel_rfl) (fun _ _ _ h => h) (Or.inl ⟨by rfl, ?_⟩) hS ?_
              · (intro w' hSw; obtain ⟨m0, m1, m2, m3, m4⟩ := hSw; go_simp; try with_reducible rfl)
              try simp only [Act.put, List.setIfInBounds_toArray, List.set_cons_zero, List.set_cons_succ]
              refine wpAnyM_take (i := 11) [] (oi := { dst := some 78, op := Op.move (Operand.tmp 8), type := 3, pos := _, after := #[], guard := none }) (v := .int .i64 (k : Int)) rfl (by kernel_rfl) (by kernel_rfl) (by kernel_rfl) (by kernel_rfl) (fun _ _ _ h => h) (Or.inl ⟨by rfl, ?_⟩) hS ?_
              · (intro w' hSw; obtain ⟨m0, m1, m2, m3, m4⟩ := hSw; go_simp; try with_reducible rfl)
              try simp only [Act.put, List.setIfInBounds_toArray, List.set_cons_zero, List.set_cons_succ]
              refine wpAnyM_take (i := 12) [] (oi := { dst := some 79, op := Op.slice 22 (Operand.tmp 77) (some (Operand.tmp 78)) none none, type := 22, pos := _, after := #[{ on := 10, ground := Ground.data }, { on := 11, ground := Ground.data }], guard := none }) (v := .slice (some a7) 0 (cap - k)) rfl (by kernel_rfl) (by kernel_rfl) (by kernel_rfl) (by kernel_rfl) (fun _ _ _ h => h) (Or.inl ⟨by rfl, ?_⟩) hS ?_
              · (intro w' hSw; obtain ⟨m0, m1, m2, m3, m4⟩ := hSw; go_simp; exact E7.out)
              try simp only [Act.put, List.setIfInBounds_toArray, List.set_cons_zero, List.set_cons_succ]
              refine wpAnyM_ready (rs := [5, 7]) (by kernel_rfl) (by simp) ?_
              refine AllReadyM.cons (o := { dst := some 72, op := Op.call { callee := Callee.builtin Builtin.append, args := #[Operand.tmp 67, Operand.tmp 71], argTypes := #[22, 22] }, type := 22, pos := _, after := #[{ on := 0, ground := Ground.data }, { on := 4, ground := Ground.data }], guard := none }) rfl (fun K hK => ?_) (AllReadyM.cons (o := { dst := some 74, op := Op.buildSlice 22 1 #[(0, Operand.tmp 73)], type := 22, pos := _, after := #[{ on := 6, ground := Ground.data }], guard := none }) rfl (fun K hK => ?_) AllReadyM.nil)
              · have HK9' : Hid (∀ a w, _ → K a w) := hK
                clear hK
                obtain ⟨v1, w6, hr1, ho1, hb6, -⟩ := HA1.out _ (.slice none 0 0) hbD (OwnE.nil _ _)
                refine step_appR rfl _ _ _ rfl _ _ rfl rfl hr1 ?_
                refine HK9'.out _ _ ⟨fun _ => HS.out _ hb6, ?_⟩
                clear HK9' K
                try simp only [Act.put, List.setIfInBounds_toArray, List.set_cons_zero, List.set_cons_succ]
                refine wpAnyM_ready (rs := [7]) (by kernel_rfl) (by simp) ?_
                refine AllReadyM.cons (o := { dst := some 74, op := Op.buildSlice 22 1 #[(0, Operand.tmp 73)], type := 22, pos := _, after := #[{ on := 6, ground := Ground.data }], guard := none }) rfl (fun K hK => ?_) AllReadyM.nil
                have HK9 : Hid (∀ a w, _ → K a w) := hK
                clear hK
                go_simp
                have hb6' : Below wq.heap.size wq (w6.alloc (.cells #[.string e.key, .int .i64 e.s, .int .i64 e.g, .int .i64 e.c] 30)) := hb6.alloc hb6.size _
                refine HK9.out _ _ ⟨fun _ => HS.out _ hb6', ?_⟩
                clear HK9 K
                try simp only [Act.put, List.setIfInBounds_toArray, List.set_cons_zero, List.set_cons_succ]
                have ho1' := ho1.below ((Below.refl _ w6).alloc (Nat.le_refl _) (.cells #[.string e.key, .int .i64 e.s, .int .i64 e.g, .int .i64 e.c] 30)) (Nat.le_refl _)
                refine wpAnyM_ready (rs := [8]) (by kernel_rfl) (by simp) ?_
                refine AllReadyM.cons (o := { dst := some 75, op := Op.call { callee := Callee.builtin Builtin.append, args := #[Operand.tmp 72, Operand.tmp 74], argTypes := #[22, 22] }, type := 22, pos := _, after := #[{ on := 5, ground := Ground.data }, { on := 7, ground := Ground.data }, { on := 5, ground := Ground.chain }], guard := none }) rfl (fun K hK => ?_) AllReadyM.nil
                have HK9 : Hid (∀ a w, _ → K a w) := hK
                clear hK
                obtain ⟨v2, w7, hr2, ho2, hb7⟩ := HA2.out _ v1 w6.heap.size hb6' ho1' (ens_one w6 e)
                refine step_appR rfl _ _ _ rfl _ _ rfl (by go_simp) hr2 ?_
                refine HK9.out _ _ ⟨fun _ => HS.out _ hb7, ?_⟩
                clear HK9 K
                try simp only [Act.put, List.setIfInBounds_toArray, List.set_cons_zero, List.set_cons_succ]
                refine wpAnyM_ready (rs := [13]) (by kernel_rfl) (by simp) ?_
                refine AllReadyM.cons (o := { dst := some 80, op := Op.call { callee := Callee.builtin Builtin.append, args := #[Operand.tmp 75, Operand.tmp 79], argTypes := #[22, 22] }, type := 22, pos := _, after := #[{ on := 8, ground := Ground.data }, { on := 12, ground := Ground.data }, { on := 8, ground := Ground.chain }], guard := none }) rfl (fun K hK => ?_) AllReadyM.nil
                have HK9 : Hid (∀ a w, _ → K a w) := hK
                clear hK
                obtain ⟨v3, w8, hr3, ho3, hb8, -⟩ := HA3.out _ v2 hb7 ho2
                refine step_appR rfl _ _ _ rfl _ _ rfl rfl hr3 ?_
                refine HK9.out _ _ ⟨fun _ => HS.out _ hb8, ?_⟩
                clear HK9 K
                try simp only [Act.put, List.setIfInBounds_toArray, List.set_cons_zero, List.set_cons_succ]
                obtain ⟨q9, c9, hv9, -, -⟩ := ho3.ens
                subst hv9
                have HO8 : Hid (OwnE w8 wq.heap.size (.slice q9 ([] ++ l.take k ++ [e] ++ l.drop k).length c9) ([] ++ l.take k ++ [e] ++ l.drop k)) := ho3
                have hln : ([] ++ l.take k ++ [e] ++ l.drop k).length = (k + 1) := by have := HL.out; first | (simp; done) | (simp; omega) | (simp [List.eq_nil_of_length_eq_zero HL.out])
                rw [hln] at HO8
                rw [hln]
                clear hln
                have HB8 : Hid (Below w1.heap.size w1 w8) := HW9.out.trans (hb8.mono HW9.out.size)
                have hk8 := HK1.out.below HB8.out HK1.out.lt
                have hz8 := HR1.out.below HB8.out HR1.out.lt
                have a4' : w8.cell? ⟨w.heap.size, 4, none⟩ = some (.slice (some ad) k cap) := hk8.cell 4
                have z4' : w8.frozen? ⟨w.heap.size, 4, none⟩ = false := hk8.frozen 4
                refine wpAnyM_ready (rs := [14]) (by kernel_rfl) (by simp) ?_
                refine AllReadyM.cons (o := { dst := some 81, op := Op.fieldAddr 24 (Operand.tmp 2) 4, type := 0, pos := _, after := #[{ on := 0, ground := Ground.phase }, { on := 1, ground := Ground.phase }, { on := 2, ground := Ground.phase }, { on := 3, ground := Ground.phase }, { on := 4, ground := Ground.phase }, { on := 5, ground := Ground.phase }, { on := 6, ground := Ground.phase }, { on := 7, ground := Ground.phase }, { on := 8, ground := Ground.phase }, { on := 9, ground := Ground.phase }, { on := 10, ground := Ground.phase }, { on := 11, ground := Ground.phase }, { on := 12, ground := Ground.phase }, { on := 13, ground := Ground.phase }], guard := none }) rfl (fun K hK => ?_) AllReadyM.nil
                have HK9 : Hid (∀ a w, _ → K a w) := hK
                clear hK
                go_simp
                refine HK9.out _ _ ⟨fun _ => HS.out _ hb8, ?_⟩
                clear HK9 K
                try simp only [Act.put, List.setIfInBounds_toArray, List.set_cons_zero, List.set_cons_succ]
                refine wpAnyM_ready (rs := [15]) (by kernel_rfl) (by simp) ?_
                refine AllReadyM.cons (o := { dst := none, op := Op.store 22 (Operand.tmp 81) (Operand.tmp 80), type := 0, pos := _, after := #[{ on := 14, ground := Ground.data }, { on := 13, ground := Ground.data }, { on := 13, ground := Ground.chain }, { on := 0, ground := Ground.phase }, { on := 1, ground := Ground.phase }, { on := 2, ground := Ground.phase }, { on := 3, ground := Ground.phase }, { on := 4, ground := Ground.phase }, { on := 5, ground := Ground.phase }, { on := 6, ground := Ground.phase }, { on := 7, ground := Ground.phase }, { on := 8, ground := Ground.phase }, { on := 9, ground := Ground.phase }, { on := 10, ground := Ground.phase }, { on := 11, ground := Ground.phase }, { on := 12, ground := Ground.phase }, { on := 13, ground := Ground.phase }], guard := none }) rfl (fun K hK => ?_) AllReadyM.nil
                have HK9 : Hid (∀ a w, _ → K a w) := hK
                clear hK
                go_simp
                refine HK9.out _ _ ⟨fun h => absurd h (by omega), ?_⟩
                clear HK9 K
                try simp only [Act.put, List.setIfInBounds_toArray, List.set_cons_zero, List.set_cons_succ]
                refine wpAnyM_done (by kernel_rfl) ?_ _
                obtain ⟨w9, hw9⟩ : ∃ w9, w8.setCell ⟨w.heap.size, 4, none⟩ (.slice q9 (k + 1) c9) = w9 := ⟨_, rfl⟩
                have hk9 : Bk w9 w.heap.size 24 #[.bool leaf, .string lo, .string hi, .int .i64 r, .slice q9 (k + 1) c9] := by rw [← hw9]; exact hk8.set 4 _
                have hr9 : Bk w9 (w.heap.size + 1 + 1) 24 zc := by rw [← hw9]; exact hz8.other (by simp; omega) _
                have ht9 : Tn [w.heap.size] w8 w9 := by rw [← hw9]; exact (Tn.refl _ _).setCell (.inl (by simp)) _
                rw [hw9]
                clear hw9 a4' z4' hS
                have a0 : w9.cell? ⟨w.heap.size, 0, none⟩ = some (.bool leaf) := hk9.cell 0
                have a1 : w9.cell? ⟨w.heap.size, 1, none⟩ = some (.string lo) := hk9.cell 1
                have a2 : w9.cell? ⟨w.heap.size, 2, none⟩ = some (.string hi) := hk9.cell 2
                have a3 : w9.cell? ⟨w.heap.size, 3, none⟩ = some (.int .i64 r) := hk9.cell 3
                have a4 : w9.cell? ⟨w.heap.size, 4, none⟩ = some (.slice q9 (k + 1) c9) := hk9.cell 4
                have b0 : w9.cell? ⟨w.heap.size + 1 + 1, 0, none⟩ = some (.bool false) := hr9.cell 0
                have f0 : w9.frozen? ⟨w.heap.size + 1 + 1, 0, none⟩ = false := hr9.frozen 0
                have b1 : w9.cell? ⟨w.heap.size + 1 + 1, 1, none⟩ = some (.string ⟨#[]⟩) := hr9.cell 1
                have f1 : w9.frozen? ⟨w.heap.size + 1 + 1, 1, none⟩ = false := hr9.frozen 1
                have b2 : w9.cell? ⟨w.heap.size + 1 + 1, 2, none⟩ = some (.string ⟨#[]⟩) := hr9.cell 2
                have f2 : w9.frozen? ⟨w.heap.size + 1 + 1, 2, none⟩ = false := hr9.frozen 2
                have b3 : w9.cell? ⟨w.heap.size + 1 + 1, 3, none⟩ = some (.int .i64 0) := hr9.cell 3
                have f3 : w9.frozen? ⟨w.heap.size + 1 + 1, 3, none⟩ = false := hr9.frozen 3
                have b4 : w9.cell? ⟨w.heap.size + 1 + 1, 4, none⟩ = some (.slice none 0 0) := hr9.cell 4
                have f4 : w9.frozen? ⟨w.heap.size + 1 + 1, 4, none⟩ = false := hr9.frozen 4
                have HR9 : Hid (Bk w9 (w.heap.size + 1 + 1) 24 zc) := hr9
                have HT9 : Hid (Tn [w.heap.size] w8 w9) := ht9
                clear hk9 hr9 ht9
                go_wp2
                obtain ⟨we, hwe⟩ : ∃ we, we = put5 w9 (w.heap.size + 1 + 1) (.bool leaf) (.string lo) (.string hi) (.int .i64 r) (.slice q9 (k + 1) c9) := ⟨_, rfl⟩
                have hA : Bk we (w.heap.size + 1 + 1) 24 #[.bool leaf, .string lo, .string hi, .int .i64 r, .slice q9 (k + 1) c9] := by rw [hwe]; exact Bk.five HR9.out _ _ _ _ _
                have ht : Tn [w.heap.size + 1 + 1] w9 we := by rw [hwe]; exact (Tn.refl _ _).five (.inl (by simp)) _ _ _ _ _
                unfold put5 at hwe
                rw [← hwe]
                clear hwe
                refine bodyPost_ret (results_two (cs := [.bool leaf, .string lo, .string hi, .int .i64 r, .slice q9 (k + 1) c9]) rfl rfl pg_agg pg_size rfl hA) rfl ?_
                rw [HQ.out]
                have hs0 := HR1.out.lt
                have t8 : Tn [w.heap.size, w.heap.size + 1 + 1] w8 we := (HT9.out.mono (by simp)).trans ht (by simp)
                have hB8 := HB1.out.trans (HB8.out.mono HB1.out.size)
                have hsw := HW9.out.size
                have hdl : (l.take k ++ [e] ++ l.drop k).length = (k + 1) := by have := HL.out; first | (simp; done) | (simp; omega) | (simp [List.eq_nil_of_length_eq_zero HL.out])
                refine ⟨_, rfl, ⟨q9, c9, by simp only [hdl], ?_⟩, hB8.trans (t8.below hB8.size (by simp; omega))⟩
                simp only [hdl]
                have hsg := (HO8.out.seg).tn t8 (by intro y hy; simp at hy; omega)
                have hsb := HB1.out.size
                exact (show Seg we wq.heap.size q9 ((k + 1)) c9 (l.take k ++ [e] ++ l.drop k) by simpa using hsg).mono (by omega)
              · have HK9' : Hid (∀ a w, _ → K a w) := hK
                clear hK
                go_simp
                have hbE : Below wq.heap.size wq (wq.drew.alloc (.cells #[.string e.key, .int .i64 e.s, .int .i64 e.g, .int .i64 e.c] 30)) := hbD.alloc (Nat.le_refl _) _
                refine HK9'.out _ _ ⟨fun _ => HS.out _ hbE, ?_⟩
                clear HK9' K
                try simp only [Act.put, List.setIfInBounds_toArray, List.set_cons_zero, List.set_cons_succ]
                refine wpAnyM_ready (rs := [5]) (by kernel_rfl) (by simp) ?_
                refine AllReadyM.cons (o := { dst := some 72, op := Op.call { callee := Callee.builtin Builtin.append, args := #[Operand.tmp 67, Operand.tmp 71], argTypes := #[22, 22] }, type := 22, pos := _, after := #[{ on := 0, ground := Ground.data }, { on := 4, ground := Ground.data }], guard := none }) rfl (fun K hK => ?_) AllReadyM.nil
                have HK9 : Hid (∀ a w, _ → K a w) := hK
                clear hK
                obtain ⟨v1, w6, hr1, ho1, hb6, hb6E⟩ := HA1.out _ (.slice none 0 0) hbE (OwnE.nil _ _)
                refine step_appR rfl _ _ _ rfl _ _ rfl rfl hr1 ?_
                refine HK9.out _ _ ⟨fun _ => HS.out _ hb6, ?_⟩
                clear HK9 K
                try simp only [Act.put, List.setIfInBounds_toArray, List.set_cons_zero, List.set_cons_succ]
                have hent : Ens w6 (some ⟨wq.heap.size, 0, none⟩) [e] := (ens_one wq.drew e).below (hb6E rfl) (Nat.le_refl _)
                refine wpAnyM_ready (rs := [8]) (by kernel_rfl) (by simp) ?_
                refine AllReadyM.cons (o := { dst := some 75, op := Op.call { callee := Callee.builtin Builtin.append, args := #[Operand.tmp 72, Operand.tmp 74], argTypes := #[22, 22] }, type := 22, pos := _, after := #[{ on := 5, ground := Ground.data }, { on := 7, ground := Ground.data }, { on := 5, ground := Ground.chain }], guard := none }) rfl (fun K hK => ?_) AllReadyM.nil
                have HK9 : Hid (∀ a w, _ → K a w) := hK
                clear hK
                obtain ⟨v2, w7, hr2, ho2, hb7⟩ := HA2.out _ v1 wq.heap.size hb6 ho1 hent
                refine step_appR rfl _ _ _ rfl _ _ rfl (by go_simp) hr2 ?_
                refine HK9.out _ _ ⟨fun _ => HS.out _ hb7, ?_⟩
                clear HK9 K
                try simp only [Act.put, List.setIfInBounds_toArray, List.set_cons_zero, List.set_cons_succ]
                refine wpAnyM_ready (rs := [13]) (by kernel_rfl) (by simp) ?_
                refine AllReadyM.cons (o := { dst := some 80, op := Op.call { callee := Callee.builtin Builtin.append, args := #[Operand.tmp 75, Operand.tmp 79], argTypes := #[22, 22] }, type := 22, pos := _, after := #[{ on := 8, ground := Ground.data }, { on := 12, ground := Ground.data }, { on := 8, ground := Ground.chain }], guard := none }) rfl (fun K hK => ?_) AllReadyM.nil
                have HK9 : Hid (∀ a w, _ → K a w) := hK
                clear hK
                obtain ⟨v3, w8, hr3, ho3, hb8, -⟩ := HA3.out _ v2 hb7 ho2
                refine step_appR rfl _ _ _ rfl _ _ rfl rfl hr3 ?_
                refine HK9.out _ _ ⟨fun _ => HS.out _ hb8, ?_⟩
                clear HK9 K
                try simp only [Act.put, List.setIfInBounds_toArray, List.set_cons_zero, List.set_cons_succ]
                obtain ⟨q9, c9, hv9, -, -⟩ := ho3.ens
                subst hv9
                have HO8 : Hid (OwnE w8 wq.heap.size (.slice q9 ([] ++ l.take k ++ [e] ++ l.drop k).length c9) ([] ++ l.take k ++ [e] ++ l.drop k)) := ho3
                have hln : ([] ++ l.take k ++ [e] ++ l.drop k).length = (k + 1) := by have := HL.out; first | (simp; done) | (simp; omega) | (simp [List.eq_nil_of_length_eq_zero HL.out])
                rw [hln] at HO8
                rw [hln]
                clear hln
                have HB8 : Hid (Below w1.heap.size w1 w8) := HW9.out.trans (hb8.mono HW9.out.size)
                have hk8 := HK1.out.below HB8.out HK1.out.lt
                have hz8 := HR1.out.below HB8.out HR1.out.lt
                have a4' : w8.cell? ⟨w.heap.size, 4, none⟩ = some (.slice (some ad) k cap) := hk8.cell 4
                have z4' : w8.frozen? ⟨w.heap.size, 4, none⟩ = false := hk8.frozen 4
                refine wpAnyM_ready (rs := [14]) (by kernel_rfl) (by simp) ?_
                refine AllReadyM.cons (o := { dst := some 81, op := Op.fieldAddr 24 (Operand.tmp 2) 4, type := 0, pos := _, after := #[{ on := 0, ground := Ground.phase }, { on := 1, ground := Ground.phase }, { on := 2, ground := Ground.phase }, { on := 3, ground := Ground.phase }, { on := 4, ground := Ground.phase }, { on := 5, ground := Ground.phase }, { on := 6, ground := Ground.phase }, { on := 7, ground := Ground.phase }, { on := 8, ground := Ground.phase }, { on := 9, ground := Ground.phase }, { on := 10, ground := Ground.phase }, { on := 11, ground := Ground.phase }, { on := 12, ground := Ground.phase }, { on := 13, ground := Ground.phase }], guard := none }) rfl (fun K hK => ?_) AllReadyM.nil
                have HK9 : Hid (∀ a w, _ → K a w) := hK
                clear hK
                go_simp
                refine HK9.out _ _ ⟨fun _ => HS.out _ hb8, ?_⟩
                clear HK9 K
                try simp only [Act.put, List.setIfInBounds_toArray, List.set_cons_zero, List.set_cons_succ]
                refine wpAnyM_ready (rs := [15]) (by kernel_rfl) (by simp) ?_
                refine AllReadyM.cons (o := { dst := none, op := Op.store 22 (Operand.tmp 81) (Operand.tmp 80), type := 0, pos := _, after := #[{ on := 14, ground := Ground.data }, { on := 13, ground := Ground.data }, { on := 13, ground := Ground.chain }, { on := 0, ground := Ground.phase }, { on := 1, ground := Ground.phase }, { on := 2, ground := Ground.phase }, { on := 3, ground := Ground.phase }, { on := 4, ground := Ground.phase }, { on := 5, ground := Ground.phase }, { on := 6, ground := Ground.phase }, { on := 7, ground := Ground.phase }, { on := 8, ground := Ground.phase }, { on := 9, ground := Ground.phase }, { on := 10, ground := Ground.phase }, { on := 11, ground := Ground.phase }, { on := 12, ground := Ground.phase }, { on := 13, ground := Ground.phase }], guard := none }) rfl (fun K hK => ?_) AllReadyM.nil
                have HK9 : Hid (∀ a w, _ → K a w) := hK
                clear hK
                go_simp
                refine HK9.out _ _ ⟨fun h => absurd h (by omega), ?_⟩
                clear HK9 K
                try simp only [Act.put, List.setIfInBounds_toArray, List.set_cons_zero, List.set_cons_succ]
                refine wpAnyM_done (by kernel_rfl) ?_ _
                obtain ⟨w9, hw9⟩ : ∃ w9, w8.setCell ⟨w.heap.size, 4, none⟩ (.slice q9 (k + 1) c9) = w9 := ⟨_, rfl⟩
                have hk9 : Bk w9 w.heap.size 24 #[.bool leaf, .string lo, .string hi, .int .i64 r, .slice q9 (k + 1) c9] := by rw [← hw9]; exact hk8.set 4 _
                have hr9 : Bk w9 (w.heap.size + 1 + 1) 24 zc := by rw [← hw9]; exact hz8.other (by simp; omega) _
                have ht9 : Tn [w.heap.size] w8 w9 := by rw [← hw9]; exact (Tn.refl _ _).setCell (.inl (by simp)) _
                rw [hw9]
                clear hw9 a4' z4' hS
                have a0 : w9.cell? ⟨w.heap.size, 0, none⟩ = some (.bool leaf) := hk9.cell 0
                have a1 : w9.cell? ⟨w.heap.size, 1, none⟩ = some (.string lo) := hk9.cell 1
                have a2 : w9.cell? ⟨w.heap.size, 2, none⟩ = some (.string hi) := hk9.cell 2
                have a3 : w9.cell? ⟨w.heap.size, 3, none⟩ = some (.int .i64 r) := hk9.cell 3
                have a4 : w9.cell? ⟨w.heap.size, 4, none⟩ = some (.slice q9 (k + 1) c9) := hk9.cell 4
                have b0 : w9.cell? ⟨w.heap.size + 1 + 1, 0, none⟩ = some (.bool false) := hr9.cell 0
                have f0 : w9.frozen? ⟨w.heap.size + 1 + 1, 0, none⟩ = false := hr9.frozen 0
                have b1 : w9.cell? ⟨w.heap.size + 1 + 1, 1, none⟩ = some (.string ⟨#[]⟩) := hr9.cell 1
                have f1 : w9.frozen? ⟨w.heap.size + 1 + 1, 1, none⟩ = false := hr9.frozen 1
                have b2 : w9.cell? ⟨w.heap.size + 1 + 1, 2, none⟩ = some (.string ⟨#[]⟩) := hr9.cell 2
                have f2 : w9.frozen? ⟨w.heap.size + 1 + 1, 2, none⟩ = false := hr9.frozen 2
                have b3 : w9.cell? ⟨w.heap.size + 1 + 1, 3, none⟩ = some (.int .i64 0) := hr9.cell 3
                have f3 : w9.frozen? ⟨w.heap.size + 1 + 1, 3, none⟩ = false := hr9.frozen 3
                have b4 : w9.cell? ⟨w.heap.size + 1 + 1, 4, none⟩ = some (.slice none 0 0) := hr9.cell 4
                have f4 : w9.frozen? ⟨w.heap.size + 1 + 1, 4, none⟩ = false := hr9.frozen 4
                have HR9 : Hid (Bk w9 (w.heap.size + 1 + 1) 24 zc) := hr9
                have HT9 : Hid (Tn [w.heap.size] w8 w9) := ht9
                clear hk9 hr9 ht9
                go_wp2
                obtain ⟨we, hwe⟩ : ∃ we, we = put5 w9 (w.heap.size + 1 + 1) (.bool leaf) (.string lo) (.string hi) (.int .i64 r) (.slice q9 (k + 1) c9) := ⟨_, rfl⟩
                have hA : Bk we (w.heap.size + 1 + 1) 24 #[.bool leaf, .string lo, .string hi, .int .i64 r, .slice q9 (k + 1) c9] := by rw [hwe]; exact Bk.five HR9.out _ _ _ _ _
                have ht : Tn [w.heap.size + 1 + 1] w9 we := by rw [hwe]; exact (Tn.refl _ _).five (.inl (by simp)) _ _ _ _ _
                unfold put5 at hwe
                rw [← hwe]
                clear hwe
                refine bodyPost_ret (results_two (cs := [.bool leaf, .string lo, .string hi, .int .i64 r, .slice q9 (k + 1) c9]) rfl rfl pg_agg pg_size rfl hA) rfl ?_
                rw [HQ.out]
                have hs0 := HR1.out.lt
                have t8 : Tn [w.heap.size, w.heap.size + 1 + 1] w8 we := (HT9.out.mono (by simp)).trans ht (by simp)
                have hB8 := HB1.out.trans (HB8.out.mono HB1.out.size)
                have hsw := HW9.out.size
                have hdl : (l.take k ++ [e] ++ l.drop k).length = (k + 1) := by have := HL.out; first | (simp; done) | (simp; omega) | (simp [List.eq_nil_of_length_eq_zero HL.out])
                refine ⟨_, rfl, ⟨q9, c9, by simp only [hdl], ?_⟩, hB8.trans (t8.below hB8.size (by simp; omega))⟩
                simp only [hdl]
                have hsg := (HO8.out.seg).tn t8 (by intro y hy; simp at hy; omega)
                have hsb := HB1.out.size
                exact (show Seg we wq.heap.size q9 ((k + 1)) c9 (l.take k ++ [e] ++ l.drop k) by simpa using hsg).mono (by omega)
end Go.Proofs.YthpilennljpamaaGreat

namespace Go.Proofs.YthpilennljpamaaGreat
open Go.RowKit Go.Sort
set_option linter.unusedVariables false
set_option maxRecDepth 100000

set_option maxHeartbeats 2000000 in
theorem rmerge_any (a b : Pp) (pa pb : Option Addr) (na nb ca cb : Nat) (w : World) (hna : a.l.length = na) (hnb : b.l.length = nb) (ha : Ens w pa a.l) (hb : Ens w pb b.l) (hpa : pa = none → na = 0 ∧ ca = 0) (hpb : pb = none → nb = 0 ∧ cb = 0) (hl : (na + nb) * 40 ≤ 140737488355328) (hla : na ≤ 3518437208782) :
    Calls Tryz.prog 46 #[pgv a.leaf a.lo a.hi a.r pa na ca, pgv b.leaf b.lo b.hi b.r pb nb cb] w fun e w' => ∃ v, e = .returned (.tuple #[v, .int .i64 (Pg.merge a b).2]) ∧ PgAt w' w.heap.size v (Pg.merge a b).1 ∧ Below w.heap.size w w' := by
  obtain ⟨w0, hw0⟩ : ∃ w0, w0 = ((w.alloc (.cells (pgc a.leaf a.lo a.hi a.r pa na ca) 24)).alloc (.cells (pgc b.leaf b.lo b.hi b.r pb nb cb) 24)).alloc (.cells zc 24) := ⟨_, rfl⟩
  have HB0 : Hid (Below w.heap.size w w0) := by rw [hw0]; exact (((Below.refl _ _).alloc (Nat.le_refl _) _).alloc (by simp) _).alloc (by simp; omega) _
  have HK0 : Hid (Bk w0 w.heap.size 24 (pgc a.leaf a.lo a.hi a.r pa na ca)) := by rw [hw0]; exact ((Bk.new _ _ _).alloc _).alloc _
  have HR0 : Hid (Bk w0 (w.heap.size + 1) 24 (pgc b.leaf b.lo b.hi b.r pb nb cb)) := by rw [hw0]; exact (Bk.new1 _ _ _ _).alloc _
  have HS0 : Hid (Bk w0 (w.heap.size + 1 + 1) 24 zc) := by rw [hw0]; exact Bk.new2 _ _ _ _ _
  have HNA : Hid (a.l.length = na) := hna
  have HNB : Hid (b.l.length = nb) := hnb
  have HA : Hid (Ens w pa a.l) := ha
  have HE : Hid (Ens w pb b.l) := hb
  have HPA : Hid (pa = none → na = 0 ∧ ca = 0) := hpa
  have HPB : Hid (pb = none → nb = 0 ∧ cb = 0) := hpb
  obtain ⟨out, hout⟩ : ∃ out, Pg.merge a b = out := ⟨_, rfl⟩
  rw [hout]
  have HO : Hid (out = if (a.leaf == b.leaf) && (!a.hi.toList.isEmpty && (a.hi.toList == b.lo.toList)) then (⟨a.leaf, a.lo, b.hi, b.r, a.l ++ b.l⟩, 0) else (Pg.zero, 72)) := hout.symm
  clear hout hna hnb ha hb hpa hpb
  obtain ⟨la, aa, ab, ar, al⟩ := a
  obtain ⟨lb, ba, bb, br, bl⟩ := b
  simp only at *
  have a0 : w0.cell? ⟨w.heap.size, 0, none⟩ = some (.bool la) := HK0.out.cell 0
  have a1 : w0.cell? ⟨w.heap.size, 1, none⟩ = some (.string aa) := HK0.out.cell 1
  have a2 : w0.cell? ⟨w.heap.size, 2, none⟩ = some (.string ab) := HK0.out.cell 2
  have a4 : w0.cell? ⟨w.heap.size, 4, none⟩ = some (.slice pa na ca) := HK0.out.cell 4
  have b0 : w0.cell? ⟨w.heap.size + 1, 0, none⟩ = some (.bool lb) := HR0.out.cell 0
  have b1 : w0.cell? ⟨w.heap.size + 1, 1, none⟩ = some (.string ba) := HR0.out.cell 1
  have b2 : w0.cell? ⟨w.heap.size + 1, 2, none⟩ = some (.string bb) := HR0.out.cell 2
  have b3 : w0.cell? ⟨w.heap.size + 1, 3, none⟩ = some (.int .i64 br) := HR0.out.cell 3
  have b4 : w0.cell? ⟨w.heap.size + 1, 4, none⟩ = some (.slice pb nb cb) := HR0.out.cell 4
  cases h0 : (la == lb) with
  | false =>
    rw [h0] at HO
    have HQ : Hid (out = (Pg.zero, 72)) := HO
    go_enter Tryz.func46, Tryz.ntmps46
    go_wp2_with fail
    all_goals try rw [← hw0]
    all_goals try clear hw0
    refine bodyPost_ret (results_two (cs := [.bool false, .string ⟨#[]⟩, .string ⟨#[]⟩, .int .i64 0, .slice none 0 0]) rfl rfl pg_agg pg_size rfl HS0.out) rfl ?_
    rw [HQ.out]
    exact ⟨_, rfl, PgAt.zero _ _, HB0.out⟩
  | true =>
    cases h1 : ab.toList.isEmpty with
    | true =>
      rw [h0, h1] at HO
      have HQ : Hid (out = (Pg.zero, 72)) := HO
      go_enter Tryz.func46, Tryz.ntmps46
      go_wp2_with fail
      all_goals try rw [← hw0]
      all_goals try clear hw0
      refine bodyPost_ret (results_two (cs := [.bool false, .string ⟨#[]⟩, .string ⟨#[]⟩, .int .i64 0, .slice none 0 0]) rfl rfl pg_agg pg_size rfl HS0.out) rfl ?_
      rw [HQ.out]
      exact ⟨_, rfl, PgAt.zero _ _, HB0.out⟩
    | false =>
      cases h2 : (ab.toList == ba.toList) with
      | false =>
        rw [h0, h1, h2] at HO
        have HQ : Hid (out = (Pg.zero, 72)) := HO
        go_enter Tryz.func46, Tryz.ntmps46
        go_wp2_with fail
        all_goals try rw [← hw0]
        all_goals try clear hw0
        refine bodyPost_ret (results_two (cs := [.bool false, .string ⟨#[]⟩, .string ⟨#[]⟩, .int .i64 0, .slice none 0 0]) rfl rfl pg_agg pg_size rfl HS0.out) rfl ?_
        rw [HQ.out]
        exact ⟨_, rfl, PgAt.zero _ _, HB0.out⟩
      | true =>
        rw [h0, h1, h2] at HO
        have HQ : Hid (out = (⟨la, aa, bb, br, al ++ bl⟩, 0)) := HO
        go_enter Tryz.func46, Tryz.ntmps46
        have a3 : w0.cell? ⟨w.heap.size, 3, none⟩ = some (.int .i64 ar) := HK0.out.cell 3
        go_wp2_with fail
        all_goals try rw [← hw0]
        all_goals try clear hw0
        clear a0 a1 a2 a3 a4 b0 b1 b2 b3 b4
        refine (rclone_any la aa ab ar pa na ca al _ HNA.out (HA.out.below HB0.out (Nat.le_refl _)) hla HPA.out).mono ?_
        rintro e w1 ⟨p1, c1, rfl, ho1, hb1⟩
        obtain ⟨wa, hwa⟩ : ∃ wa, w1.alloc (.cells #[.bool la, .string aa, .string ab, .int .i64 ar, .slice p1 na c1] 24) = wa := ⟨_, rfl⟩
        have hba : Below w1.heap.size w1 wa := by rw [← hwa]; exact (Below.refl _ _).alloc (Nat.le_refl _) _
        have hXa : Bk wa w1.heap.size 24 #[.bool la, .string aa, .string ab, .int .i64 ar, .slice p1 na c1] := by rw [← hwa]; exact Bk.new _ _ _
        have hb1a : Below w0.heap.size w0 wa := hb1.trans (hba.mono hb1.size)
        have hoa : OwnE wa w0.heap.size (.slice p1 na c1) al := ho1.below hba (Nat.le_refl _)
        obtain ⟨v2, w2, hr, ho2, hg2, h5⟩ := run_appE wa w0.heap.size 22 (.slice p1 na c1) al bl pb nb cb HNB.out ((HE.out.below HB0.out (Nat.le_refl _)).below hb1a (Nat.le_refl _)) HPB.out hoa (by rw [HNA.out]; exact hl) hb1a.size
        have hb2 : Below w0.heap.size w0 w2 := hb1a.grown hg2 hb1a.size (fun k hk => (World.ownsRow.lt hoa k hk).1)
        have hX2 : Bk w2 w1.heap.size 24 #[.bool la, .string aa, .string ab, .int .i64 ar, .slice p1 na c1] := (hg2.block _ hXa.lt (fun e => by have := (World.ownsRow.lt ho1 _ e.symm).2; omega)).trans hXa
        obtain ⟨q2, d2, rfl, -, -⟩ := ho2.ens
        have HNE : Hid (∀ g o, q2 = some ⟨g, o, none⟩ → g ≠ w1.heap.size) := by
          intro g o hq
          subst hq
          rcases h5 with e | e
          · have := (World.ownsRow.lt ho1 g e.symm).2
            omega
          · have h6 : some g = some wa.heap.size := e
            have h7 := Option.some.inj h6
            have h8 : wa.heap.size = w1.heap.size + 1 := by rw [← hwa]; simp
            omega
        obtain ⟨n2, HN2⟩ : ∃ n2, Hid ((al ++ bl).length = n2) := ⟨_, rfl⟩
        rw [HN2.out] at ho2 hr
        have HR : Hid _ := hr
        have HO2 : Hid (OwnE w2 w0.heap.size (.slice q2 n2 d2) (al ++ bl)) := ho2
        have HX2 : Hid (Bk w2 w1.heap.size 24 #[.bool la, .string aa, .string ab, .int .i64 ar, .slice p1 na c1]) := hX2
        have HB2 : Hid (Below w.heap.size w w2) := HB0.out.trans (hb2.mono HB0.out.size)
        have HR2 : Hid (Bk w2 (w.heap.size + 1) 24 (pgc lb ba bb br pb nb cb)) := HR0.out.below hb2 HR0.out.lt
        have HS2 : Hid (Bk w2 (w.heap.size + 1 + 1) 24 zc) := HS0.out.below hb2 HS0.out.lt
        have HRa : Hid (Bk wa (w.heap.size + 1) 24 (pgc lb ba bb br pb nb cb)) := HR0.out.below hb1a HR0.out.lt
        have HSZ : Hid (w.heap.size + 1 + 1 < w0.heap.size ∧ w0.heap.size ≤ w1.heap.size) := ⟨HS0.out.lt, hb1.size⟩
        have ya : wa.cell? ⟨w1.heap.size, 4, none⟩ = some (.slice p1 na c1) := hXa.cell 4
        have yb : wa.cell? ⟨w.heap.size + 1, 4, none⟩ = some (.slice pb nb cb) := HRa.out.cell 4
        clear ho1 hb1 hba hXa hb1a hoa hr ho2 hg2 hb2 hX2 h5
        have m1 : ¬ w1.heap.size = w.heap.size + 1 + 1 := by have := HSZ.out; omega
        have m2 : ¬ w.heap.size + 1 + 1 = w1.heap.size := by have := HSZ.out; omega
        have m3 : ¬ w1.heap.size = w.heap.size + 1 := by have := HSZ.out; omega
        have m4 : ¬ w.heap.size + 1 = w1.heap.size := by have := HSZ.out; omega
        have x0 : w2.cell? ⟨w1.heap.size, 0, none⟩ = some (.bool la) := HX2.out.cell 0
        have x1 : w2.cell? ⟨w1.heap.size, 1, none⟩ = some (.string aa) := HX2.out.cell 1
        have x2 : w2.cell? ⟨w1.heap.size, 2, none⟩ = some (.string ab) := HX2.out.cell 2
        have x3 : w2.cell? ⟨w1.heap.size, 3, none⟩ = some (.int .i64 ar) := HX2.out.cell 3
        have x4 : w2.cell? ⟨w1.heap.size, 4, none⟩ = some (.slice p1 na c1) := HX2.out.cell 4
        have z2 : w2.frozen? ⟨w1.heap.size, 2, none⟩ = false := HX2.out.frozen 2
        have z3 : w2.frozen? ⟨w1.heap.size, 3, none⟩ = false := HX2.out.frozen 3
        have z4 : w2.frozen? ⟨w1.heap.size, 4, none⟩ = false := HX2.out.frozen 4
        have y2 : w2.cell? ⟨w.heap.size + 1, 2, none⟩ = some (.string bb) := HR2.out.cell 2
        have y3 : w2.cell? ⟨w.heap.size + 1, 3, none⟩ = some (.int .i64 br) := HR2.out.cell 3
        have c0 : w2.cell? ⟨w.heap.size + 1 + 1, 0, none⟩ = some (.bool false) := HS2.out.cell 0
        have f0 : w2.frozen? ⟨w.heap.size + 1 + 1, 0, none⟩ = false := HS2.out.frozen 0
        have c1 : w2.cell? ⟨w.heap.size + 1 + 1, 1, none⟩ = some (.string ⟨#[]⟩) := HS2.out.cell 1
        have f1 : w2.frozen? ⟨w.heap.size + 1 + 1, 1, none⟩ = false := HS2.out.frozen 1
        have c2 : w2.cell? ⟨w.heap.size + 1 + 1, 2, none⟩ = some (.string ⟨#[]⟩) := HS2.out.cell 2
        have f2 : w2.frozen? ⟨w.heap.size + 1 + 1, 2, none⟩ = false := HS2.out.frozen 2
        have c3 : w2.cell? ⟨w.heap.size + 1 + 1, 3, none⟩ = some (.int .i64 0) := HS2.out.cell 3
        have f3 : w2.frozen? ⟨w.heap.size + 1 + 1, 3, none⟩ = false := HS2.out.frozen 3
        have c4 : w2.cell? ⟨w.heap.size + 1 + 1, 4, none⟩ = some (.slice none 0 0) := HS2.out.cell 4
        have f4 : w2.frozen? ⟨w.heap.size + 1 + 1, 4, none⟩ = false := HS2.out.frozen 4
        go_wp2_with (at_builtin; refine Lib.wpList_append_run _ rfl _ _ _ _ rfl _ _ rfl rfl _ _ HR.out ?_)
        go_region
        go_wp2
        obtain ⟨we, hwe⟩ : ∃ we, we = (put5 (((w2.setCell ⟨w1.heap.size, 4, none⟩ (.slice q2 n2 d2)).setCell ⟨w1.heap.size, 2, none⟩ (.string bb)).setCell ⟨w1.heap.size, 3, none⟩ (.int .i64 br)) (w.heap.size + 1 + 1) (.bool la) (.string aa) (.string bb) (.int .i64 br) (.slice q2 n2 d2)).drew := ⟨_, rfl⟩
        have hA : Bk we (w.heap.size + 1 + 1) 24 #[.bool la, .string aa, .string bb, .int .i64 br, .slice q2 n2 d2] := by
          rw [hwe]
          exact (Bk.five (((HS2.out.other (p := ⟨w1.heap.size, 4, none⟩) m2 _).other (p := ⟨w1.heap.size, 2, none⟩) m2 _).other (p := ⟨w1.heap.size, 3, none⟩) m2 _) _ _ _ _ _).drew
        have ht : Tn [w1.heap.size, w.heap.size + 1 + 1] w2 we := by
          rw [hwe]
          exact (((((Tn.refl _ _).setCell (p := ⟨w1.heap.size, 4, none⟩) (.inl (by simp)) _).setCell (p := ⟨w1.heap.size, 2, none⟩) (.inl (by simp)) _).setCell (p := ⟨w1.heap.size, 3, none⟩) (.inl (by simp)) _).five (.inl (by simp)) _ _ _ _ _).drew
        unfold put5 at hwe
        rw [← hwe]
        clear hwe
        refine bodyPost_ret (results_two (cs := [.bool la, .string aa, .string bb, .int .i64 br, .slice q2 n2 d2]) rfl rfl pg_agg pg_size rfl hA) rfl ?_
        rw [HQ.out]
        have hlt := HSZ.out
        refine ⟨_, rfl, ⟨q2, d2, by simp only [HN2.out], ?_⟩, HB2.out.trans (ht.below HB2.out.size (by simp; omega))⟩
        simp only [HN2.out]
        refine (HO2.out.seg.keep fun g o hq => ht.block g (HO2.out.seg.lt hq).2 ?_).mono HB0.out.size
        have h1 := HNE.out g o hq
        have h2 := (HO2.out.seg.lt hq).1
        simp only [List.mem_cons, List.not_mem_nil, or_false]
        omega

end Go.Proofs.YthpilennljpamaaGreat
