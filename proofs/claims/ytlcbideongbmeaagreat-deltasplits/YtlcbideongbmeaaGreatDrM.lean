/- The draft of a page's entries in memory: a block and nine rows. -/
import Derived.Test.YtlcbideongbmeaaGreatDrQ
import Derived.Test.YtlcbideongbmeaaGreatDrN1
import Derived.Sort.EncStr
namespace Go.Proofs.YtlcbideongbmeaaGreat
open Go.RowKit
set_option linter.unusedVariables false
set_option maxRecDepth 100000

/-- A row beside others. -/
structure Rs where
  t : TypeId
  sz : Nat
  v : Value
  n : Nat
  xs : List Value

/-- A block and rows, apart from each other. -/
structure Cl (w : World) (base B : Nat) (T : TypeId) (vals : Array Value) (rows : List Rs) : Prop where
  blk : Bk w B T vals
  ge : base ≤ B
  row : ∀ (i : Nat) r, rows[i]? = some r → w.ownsRow base r.t r.sz r.v r.n r.xs
  ne : ∀ (i : Nat) r, rows[i]? = some r → r.v.ownBlock ≠ some B
  apart : ∀ (i j : Nat) r q k, rows[i]? = some r → rows[j]? = some q → r.v.ownBlock = some k → q.v.ownBlock = some k → i = j

theorem Cl.turn {w w' : World} {base B : Nat} {T : TypeId} {vals : Array Value} {rows : List Rs} (h : Cl w base B T vals rows) {i : Nat} {r : Rs} {g : Nat} {xs' : List Value} (hi : rows[i]? = some r) (hg : r.v.ownBlock = some g) (ht : Tn [g] w w') (ho : w'.ownsRow base r.t r.sz r.v r.n xs') : Cl w' base B T vals (rows.set i { r with xs := xs' }) := by
  have hil : i < rows.length := (List.getElem?_eq_some_iff.1 hi).1
  have key : ∀ (j : Nat) q, (rows.set i { r with xs := xs' })[j]? = some q → ∃ q0, rows[j]? = some q0 ∧ q.v = q0.v ∧ ((j ≠ i ∧ q = q0) ∨ (j = i ∧ q = { r with xs := xs' })) := by
    intro j q hq
    by_cases hj : j = i
    · subst hj
      rw [List.getElem?_set_self hil] at hq
      cases hq
      exact ⟨r, hi, rfl, .inr ⟨rfl, rfl⟩⟩
    · rw [List.getElem?_set_ne (Ne.symm hj)] at hq
      exact ⟨q, hq, rfl, .inl ⟨hj, rfl⟩⟩
  refine ⟨h.blk.tn ht ?_, h.ge, fun j q hq => ?_, fun j q hq => ?_, fun j k q p x hq hp h1 h2 => ?_⟩
  · intro hm
    simp only [List.mem_singleton] at hm
    subst hm
    exact h.ne i r hi hg
  · obtain ⟨q0, h0, hv, hc⟩ := key j q hq
    rcases hc with ⟨hj, rfl⟩ | ⟨rfl, rfl⟩
    · refine row_tn (h.row j q h0) ht fun k hk hm => ?_
      simp only [List.mem_singleton] at hm
      subst hm
      exact hj (h.apart j i q r k h0 hi hk hg)
    · exact ho
  · obtain ⟨q0, h0, hv, hc⟩ := key j q hq
    rw [hv]
    exact h.ne j q0 h0
  · obtain ⟨q0, h0, hv, _⟩ := key j q hq
    obtain ⟨p0, h3, hv2, _⟩ := key k p hp
    exact h.apart j k q0 p0 x h0 h3 (by rw [← hv]; exact h1) (by rw [← hv2]; exact h2)

theorem Cl.still {w w' : World} {base B : Nat} {T : TypeId} {vals : Array Value} {rows : List Rs} (h : Cl w base B T vals rows) (ht : Tn [] w w') : Cl w' base B T vals rows :=
  ⟨h.blk.tn ht (by simp), h.ge, fun i r hi => row_tn (h.row i r hi) ht (by simp), h.ne, h.apart⟩

theorem Cl.put {w : World} {base B : Nat} {T : TypeId} {vals : Array Value} {rows : List Rs} (h : Cl w base B T vals rows) (j : Nat) (u : Value) : Cl (w.setCell ⟨B, j, none⟩ u) base B T (vals.setIfInBounds j u) rows ∧ Tn [B] w (w.setCell ⟨B, j, none⟩ u) := by
  have ht : Tn [B] w (w.setCell ⟨B, j, none⟩ u) := (Tn.refl _ w).setCell (.inl (by simp)) u
  refine ⟨⟨h.blk.set j u, h.ge, fun i r hi => row_tn (h.row i r hi) ht fun k hk hm => ?_, h.ne, h.apart⟩, ht⟩
  simp only [List.mem_singleton] at hm
  subst hm
  exact h.ne i r hi hk

abbrev sl (g n c : Nat) : Value := .slice (some ⟨g, 0, none⟩) n c

/-- Where the rows of a draft lie. -/
structure Dv where
  vK : Value
  vR : Value
  gk : Nat
  ck : Nat
  gn : Nat
  cn : Nat
  gf : Nat
  cf : Nat
  gt : Nat
  ct : Nat
  ga : Nat
  ca : Nat
  gg : Nat
  cg : Nat
  gs : Nat
  cs : Nat

/-- The blocks of a draft that its steps may turn. -/
def Dv.bs (V : Dv) (B : Nat) : List Nat := B :: V.gf :: V.gt :: V.ga :: V.gg :: V.gs :: V.vR.ownBlock.toList
/-- Nothing but a draft's own blocks, and new ones, has turned. -/
def Bw (V : Dv) (B : Nat) (w w' : World) : Prop := Tn (V.bs B) w w'
theorem Bw.of {V : Dv} {B : Nat} {w w' : World} {S : List Nat} (h : Tn S w w') (hs : ∀ x ∈ S, x ∈ V.bs B) : Bw V B w w' := h.mono hs
theorem Bw.refl (V : Dv) (B : Nat) (w : World) : Bw V B w w := Tn.refl _ w
theorem Bw.trans {V : Dv} {B : Nat} {a b c : World} (h : Bw V B a b) (k : Bw V B b c) : Bw V B a c := Tn.trans h k (fun x hx => .inl hx)

/-- Numbers as a row has them. -/
def ofs (l : List Nat) : List Int := l.map Int.ofNat
theorem ofs_at (l : List Nat) (i : Nat) : Pk.at' (ofs l) i = (l.getD i 0 : Nat) := by
  unfold Pk.at' ofs
  rw [List.getD_eq_getElem?_getD, List.getD_eq_getElem?_getD, List.getElem?_map]
  cases l[i]? <;> rfl
theorem ofs_set (l : List Nat) (i x : Nat) : ofs (l.set i x) = (ofs l).set i (x : Int) := by simp [ofs, List.map_set]
theorem ofs_length (l : List Nat) : (ofs l).length = l.length := by simp [ofs]

open Dr

/-- The numbers of the two trees. -/
def xT (F : Fx) (s : Df) (a : Nat) : Int := if a = F.R then 9223372036854775807 else if th F s a then (F.k a : Int) + 1 else 0
def xS (F : Fx) (s : Df) (n : Nat) : Int := if n = F.K then 9223372036854775807 else if s.st n then 1 else 0

def drVals (F : Fx) (s : Df) (V : Dv) (n1 n2 : Nat) : Array Value := #[V.vK, V.vR, .int .i64 (s.came : Int), sl V.gk F.R V.ck, sl V.gn F.R V.cn, sl V.gf F.K V.cf, sl V.gt n1 V.ct, sl V.ga F.K V.ca, sl V.gg F.K V.cg, sl V.gs n2 V.cs]
def drRows (ks : List (List UInt8)) (F : Fx) (s : Df) (V : Dv) (t1 t2 : List Int) (n1 n2 : Nat) : List Rs :=
  [⟨9, 1, V.vK, F.K, ks.map encStr⟩, ⟨30, 4, V.vR, F.R, flatE s.row⟩, ⟨3, 1, sl V.gk F.R V.ck, F.R, ints (ofs F.kn)⟩, ⟨3, 1, sl V.gn F.R V.cn, F.R, ints (ofs F.nx)⟩, ⟨3, 1, sl V.gf F.K V.cf, F.K, ints (ofs s.fs)⟩, ⟨3, 1, sl V.gt n1 V.ct, n1, ints t1⟩, ⟨30, 4, sl V.ga F.K V.ca, F.K, flatE s.al⟩, ⟨3, 1, sl V.gg F.K V.cg, F.K, ints (ofs s.gp)⟩, ⟨3, 1, sl V.gs n2 V.cs, n2, ints t2⟩]

/-- A draft in memory. -/
structure Drc (w : World) (base B : Nat) (ks : List (List UInt8)) (F : Fx) (s : Df) (V : Dv) (t1 t2 : List Int) (n1 n2 D1 D2 : Nat) : Prop where
  cl : Cl w base B 118 (drVals F s V n1 n2) (drRows ks F s V t1 t2 n1 n2)
  inv : Inv F (num ks) (kw ks) s
  rise : Rise ks
  kl : ks.length = F.K
  l1 : t1.length = n1
  l2 : t2.length = n2
  i1 : Pk.Is t1 D1 (xT F s)
  i2 : Pk.Is t2 D2 (xS F s)
  r1 : F.R < 2 ^ D1
  r2 : F.K < 2 ^ D2
  b1 : n1 ≤ 35184372088832
  b2 : n2 ≤ 35184372088832
  bR : F.R ≤ 8796093022207
  bK : F.K ≤ 8796093022207

def Drn (w : World) (base B : Nat) (ks : List (List UInt8)) (F : Fx) (s : Df) (V : Dv) : Prop := ∃ t1 t2 n1 n2 D1 D2, Drc w base B ks F s V t1 t2 n1 n2 D1 D2

section
variable {w w' : World} {base B : Nat} {ks : List (List UInt8)} {F : Fx} {s : Df} {V : Dv} {t1 t2 : List Int} {n1 n2 D1 D2 : Nat}

theorem Drc.still (h : Drc w base B ks F s V t1 t2 n1 n2 D1 D2) (ht : Tn [] w w') : Drc w' base B ks F s V t1 t2 n1 n2 D1 D2 := { h with cl := h.cl.still ht }
theorem Drn.still (h : Drn w base B ks F s V) (ht : Tn [] w w') : Drn w' base B ks F s V := by
  obtain ⟨t1, t2, n1, n2, D1, D2, h⟩ := h
  exact ⟨t1, t2, n1, n2, D1, D2, h.still ht⟩

theorem row_ints {g n c : Nat} {l : List Int} (h : w.ownsRow base 3 1 (sl g n c) n (ints l)) (i : Nat) (hi : i < n) : w.cell? ⟨g, i, none⟩ = some (.int .i64 (Pk.at' l i)) := by
  have hl := h.1
  rw [ints_length, Nat.mul_one] at hl
  have := World.ownsRow.cellAt h i (by omega)
  rw [this]
  simp [ints, Pk.at', List.getD, hl, hi]

theorem Drc.krow (h : Drc w base B ks F s V t1 t2 n1 n2 D1 D2) : w.ownsRow base 3 1 (sl V.gk F.R V.ck) F.R (ints (ofs F.kn)) := h.cl.row 2 _ rfl
theorem Drc.nrow (h : Drc w base B ks F s V t1 t2 n1 n2 D1 D2) : w.ownsRow base 3 1 (sl V.gn F.R V.cn) F.R (ints (ofs F.nx)) := h.cl.row 3 _ rfl
theorem Drc.frow (h : Drc w base B ks F s V t1 t2 n1 n2 D1 D2) : w.ownsRow base 3 1 (sl V.gf F.K V.cf) F.K (ints (ofs s.fs)) := h.cl.row 4 _ rfl
theorem Drc.grow (h : Drc w base B ks F s V t1 t2 n1 n2 D1 D2) : w.ownsRow base 3 1 (sl V.gg F.K V.cg) F.K (ints (ofs s.gp)) := h.cl.row 7 _ rfl
theorem Drc.arow (h : Drc w base B ks F s V t1 t2 n1 n2 D1 D2) : w.ownsRow base 30 4 (sl V.ga F.K V.ca) F.K (flatE s.al) := h.cl.row 6 _ rfl
theorem Drc.rrow (h : Drc w base B ks F s V t1 t2 n1 n2 D1 D2) : w.ownsRow base 30 4 V.vR F.R (flatE s.row) := h.cl.row 1 _ rfl
theorem Drc.srow (h : Drc w base B ks F s V t1 t2 n1 n2 D1 D2) : w.ownsRow base 9 1 V.vK F.K (ks.map encStr) := h.cl.row 0 _ rfl
theorem Drc.trow (h : Drc w base B ks F s V t1 t2 n1 n2 D1 D2) : Ir w base (sl V.gt n1 V.ct) t1 := by
  have : w.ownsRow base 3 1 (sl V.gt n1 V.ct) n1 (ints t1) := h.cl.row 5 _ rfl
  unfold Ir
  rw [h.l1]
  exact this
theorem Drc.irow (h : Drc w base B ks F s V t1 t2 n1 n2 D1 D2) : Ir w base (sl V.gs n2 V.cs) t2 := by
  have : w.ownsRow base 3 1 (sl V.gs n2 V.cs) n2 (ints t2) := h.cl.row 8 _ rfl
  unfold Ir
  rw [h.l2]
  exact this

theorem Drc.kcell (h : Drc w base B ks F s V t1 t2 n1 n2 D1 D2) {a : Nat} (ha : a < F.R) : w.cell? ⟨V.gk, a, none⟩ = some (.int .i64 (F.k a : Nat)) := by
  rw [row_ints h.krow a ha, ofs_at]; rfl
theorem Drc.ncell (h : Drc w base B ks F s V t1 t2 n1 n2 D1 D2) {a : Nat} (ha : a < F.R) : w.cell? ⟨V.gn, a, none⟩ = some (.int .i64 (F.n a : Nat)) := by
  rw [row_ints h.nrow a ha, ofs_at]; rfl
theorem Drc.fcell (h : Drc w base B ks F s V t1 t2 n1 n2 D1 D2) {a : Nat} (ha : a < F.K) : w.cell? ⟨V.gf, a, none⟩ = some (.int .i64 (s.f a : Nat)) := by
  rw [row_ints h.frow a ha, ofs_at]; rfl
theorem Drc.gcell (h : Drc w base B ks F s V t1 t2 n1 n2 D1 D2) {a : Nat} (ha : a < F.K) : w.cell? ⟨V.gg, a, none⟩ = some (.int .i64 (s.g a : Nat)) := by
  rw [row_ints h.grow a ha, ofs_at]; rfl

theorem row_en {g n c : Nat} {l : List En} (h : w.ownsRow base 30 4 (sl g n c) n (flatE l)) (i : Nat) (hi : i < n) : w.cell? ⟨g, i * 4, none⟩ = some (.string (l.getD i En.zero).key) ∧ w.cell? ⟨g, i * 4 + 1, none⟩ = some (.int .i64 (l.getD i En.zero).s) ∧ w.cell? ⟨g, i * 4 + 2, none⟩ = some (.int .i64 (l.getD i En.zero).g) ∧ w.cell? ⟨g, i * 4 + 3, none⟩ = some (.int .i64 (l.getD i En.zero).c) := by
  have hl := h.1
  rw [flatE_len] at hl
  have hil : i < l.length := by omega
  have he : l[i]? = some (l.getD i En.zero) := by simp [List.getD, hil]
  obtain ⟨h0, h1, h2, h3⟩ := flatE_at l i _ he
  rw [World.ownsRow.cellAt h _ (by omega), World.ownsRow.cellAt h _ (by omega), World.ownsRow.cellAt h _ (by omega), World.ownsRow.cellAt h _ (by omega)]
  exact ⟨h0, h1, h2, h3⟩

theorem Drc.below (h : Drc w base B ks F s V t1 t2 n1 n2 D1 D2) : base ≤ w.heap.size := by
  have := h.cl.blk.lt
  have := h.cl.ge
  omega

theorem Drc.bs_ge (h : Drc w base B ks F s V t1 t2 n1 n2 D1 D2) : ∀ x ∈ V.bs B, base ≤ x ∧ ∃ cs t, w.heap[x]? = some (.cells cs t (0, 0)) := by
  have hk : ∀ (i : Nat) r x, (drRows ks F s V t1 t2 n1 n2)[i]? = some r → r.v.ownBlock = some x → base ≤ x ∧ ∃ cs t, w.heap[x]? = some (.cells cs t (0, 0)) := fun i r x hi hx => by
    rcases (h.cl.row i r hi).2 with ⟨h1, _⟩ | ⟨g, cap, cur, h1, h2, h3, _⟩
    · rw [h1] at hx; cases hx
    · rw [h1] at hx
      cases hx
      exact ⟨h2, _, _, h3⟩
  intro x hx
  simp only [Dv.bs, List.mem_cons] at hx
  rcases hx with rfl | rfl | rfl | rfl | rfl | rfl | hx
  · exact ⟨h.cl.ge, _, _, h.cl.blk⟩
  · exact hk 4 _ _ rfl rfl
  · exact hk 5 _ _ rfl rfl
  · exact hk 6 _ _ rfl rfl
  · exact hk 7 _ _ rfl rfl
  · exact hk 8 _ _ rfl rfl
  · refine hk 1 _ x rfl ?_
    show V.vR.ownBlock = some x
    cases hb : V.vR.ownBlock with
    | none => rw [hb] at hx; simp at hx
    | some y => rw [hb] at hx; simp at hx; rw [hx]

theorem Drc.at (h : Drc w base B ks F s V t1 t2 n1 n2 D1 D2) (j : Nat) : w.cell? ⟨B, j, none⟩ = (drVals F s V n1 n2)[j]? := h.cl.blk.cell j

/-- A place is taken out. -/
theorem xT_take (h : Inv F (num ks) (kw ks) s) {a : Nat} (ha : a < s.came) (hf : s.f (F.k a) = a) : xT F (take F s a) = Pk.upd (xT F s) a 0 := by
  have hc := h.came
  funext b
  unfold xT Pk.upd
  rw [take_th h ha hf]
  by_cases hb : b = a
  · subst hb
    rw [if_neg (by omega), if_pos rfl]
    simp
  · rw [if_neg hb]
    simp [hb]
end
end Go.Proofs.YtlcbideongbmeaaGreat
