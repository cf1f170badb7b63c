/- Keys are sorted, and each is kept once. -/
import Derived.Test.YthpilennljpamaaGreatPgOpen
import Derived.Test.YthpilennljpamaaGreatDlM
import Derived.Test.YthpilennljpamaaGreatDlV
import Derived.Laws.Concat
import Derived.Test.YthpilennljpamaaGreatPgPu
import Derived.Test.YthpilennljpamaaGreatPgRm
import Derived.Lib.SlicesCompact
import Derived.Lib.RowBridge
import Derived.Sort.Walk0
import Derived.Shelf.Spec.SearchS
import Derived.Test.YthpilennljpamaaGreatPgBw
import Derived.Test.YthpilennljpamaaGreatRgP
import Derived.Test.YthpilennljpamaaGreatItG
import Derived.StillTailTactics
import Derived.Test.YthpilennljpamaaGreatMem
import Derived.Handy
import Derived.BigQuiet
import Derived.Laws.OwnMore
import Derived.Tactics2
import Derived.WalkSmall
import Derived.Deep.LoopGhost
import Derived.Sort.EncStr
import Derived.Shelf.SortM.Plain
import Derived.Shelf.SortM.SortNone
import Derived.Shelf.SlicesG.CompactS
import Derived.Shelf.Bits.Mul64
import Derived.Ground.NamesProg
import Derived.Ground.SlgmProg
import Derived.Ground.SlgnProg
import Derived.Ground.Names2Prog
import Derived.Test.YthpilennljpamaaGreatProg
import Derived.BigRegion
import Derived.Deep.RegionHeld3
import Derived.Shelf.RegionOpen
import Derived.Laws.CopyRow
import Derived.Laws.IdiomCopy
import Derived.Test.YthpilennljpamaaGreatPgMg
import Derived.Test.YthpilennljpamaaGreatRgM
import Derived.Test.YthpilennljpamaaGreatDlL
import Derived.Maps.AppendAt
import Derived.Sort.OwnSorted
import Derived.Lib.OwnBridge
namespace Go.Proofs.YthpilennljpamaaGreat
open Go.ChangeShapes Go.WideShapes Go.ChangeAt Go.RowKit
open Go.ChangeMaps (open_string shut_string)
set_option linter.unusedVariables false
set_option maxRecDepth 100000

theorem list12 {α : Type} {l : List α} (h : l.length = 12) : ∃ c0 c1 c2 c3 c4 c5 c6 c7 c8 c9 c10 c11, l = [c0, c1, c2, c3, c4, c5, c6, c7, c8, c9, c10, c11] := by
  match l, h with
  | [c0, c1, c2, c3, c4, c5, c6, c7, c8, c9, c10, c11], _ => exact ⟨c0, c1, c2, c3, c4, c5, c6, c7, c8, c9, c10, c11, rfl⟩

/-- A delta that came in. -/
structure InD (M : Nat) (w : World) (d : De) (p : Option Addr) (n c : Nat) : Prop where
  right : InE M w p n c d.rt.l

section
variable {H : Type} {enc : TypeId × Value → H} {W : World} {fuel : Nat} {cs : List Value} {x : DataW H × List MemPlace}

theorem in_delta {M : Nat} (hf : DataW.trod enc Tryz.prog W 0 (fun _ => true) true fuel 32 cs = some x)
    (hB : ∀ y0 y1 y2 y3 z0 z1 z2 z3 elems spare, x.1 = .agg [y0, y1, y2, y3, .agg [z0, z1, z2, z3, .slice elems spare]] → elems.length + spare.length ≤ M ∧ ∀ y ∈ elems, ∀ k r, y = .agg (.lit (.string k) :: r) → k.length ≤ 140737488351232) :
    ∃ (d : De) (a : Option Addr) (len cap : Nat), cs = [.int .i64 d.k, .string d.e.key, .int .i64 d.e.s, .int .i64 d.e.g, .int .i64 d.e.c, .string d.key, .int .i64 d.pg, .bool d.rt.leaf, .string d.rt.lo, .string d.rt.hi, .int .i64 d.rt.r, .slice a len cap] ∧ InD M W d a len cap := by
  obtain ⟨ys, n, -, rfl, hlen, hys, hall⟩ := DataW.trod_struct Tryz.underlying32 hf
  have eT : Tryz.prog.cellsOf 32 = 12 := by kernel_rfl
  rw [eT] at hlen
  obtain ⟨c0, c1, c2, c3, c4, c5, c6, c7, c8, c9, c10, c11, rfl⟩ := list12 hlen
  obtain ⟨y0, y1, y2, y3, y4, rfl⟩ := list5 (l := ys) hys
  have h0 : DataW.trod enc Tryz.prog W 0 (fun _ => true) true n 3 [c0] = some y0 := by
    have h : DataW.trod enc Tryz.prog W 0 (fun _ => true) true n 3 (List.take (Tryz.prog.cellsOf 3) (List.drop 0 [c0, c1, c2, c3, c4, c5, c6, c7, c8, c9, c10, c11])) = some y0 := hall 0 _ rfl
    rw [show Tryz.prog.cellsOf 3 = 1 by kernel_rfl] at h
    exact h
  have h1 : DataW.trod enc Tryz.prog W 0 (fun _ => true) true n 30 [c1, c2, c3, c4] = some y1 := by
    have h : DataW.trod enc Tryz.prog W 0 (fun _ => true) true n 30 (List.take (Tryz.prog.cellsOf 30) (List.drop 1 [c0, c1, c2, c3, c4, c5, c6, c7, c8, c9, c10, c11])) = some y1 := hall 1 _ rfl
    rw [show Tryz.prog.cellsOf 30 = 4 by kernel_rfl] at h
    exact h
  have h2 : DataW.trod enc Tryz.prog W 0 (fun _ => true) true n 9 [c5] = some y2 := by
    have h : DataW.trod enc Tryz.prog W 0 (fun _ => true) true n 9 (List.take (Tryz.prog.cellsOf 9) (List.drop 5 [c0, c1, c2, c3, c4, c5, c6, c7, c8, c9, c10, c11])) = some y2 := hall 2 _ rfl
    rw [show Tryz.prog.cellsOf 9 = 1 by kernel_rfl] at h
    exact h
  have h3 : DataW.trod enc Tryz.prog W 0 (fun _ => true) true n 3 [c6] = some y3 := by
    have h : DataW.trod enc Tryz.prog W 0 (fun _ => true) true n 3 (List.take (Tryz.prog.cellsOf 3) (List.drop 6 [c0, c1, c2, c3, c4, c5, c6, c7, c8, c9, c10, c11])) = some y3 := hall 3 _ rfl
    rw [show Tryz.prog.cellsOf 3 = 1 by kernel_rfl] at h
    exact h
  have h4 : DataW.trod enc Tryz.prog W 0 (fun _ => true) true n 24 [c7, c8, c9, c10, c11] = some y4 := by
    have h : DataW.trod enc Tryz.prog W 0 (fun _ => true) true n 24 (List.take (Tryz.prog.cellsOf 24) (List.drop 7 [c0, c1, c2, c3, c4, c5, c6, c7, c8, c9, c10, c11])) = some y4 := hall 4 _ rfl
    rw [show Tryz.prog.cellsOf 24 = 5 by kernel_rfl] at h
    exact h
  obtain ⟨v0, q0, _, _⟩ := DataW.trod_int Tryz.underlying3 h0
  obtain ⟨e, q1, _⟩ := in_en h1
  obtain ⟨v2, q2, _, _⟩ := DataW.trod_string Tryz.underlying9 h2
  obtain ⟨v3, q3, _, _⟩ := DataW.trod_int Tryz.underlying3 h3
  obtain ⟨leaf, lo, hi, r, a, len, cap, l, q4, hl⟩ := in_page (M := M) h4 (fun z0 z1 z2 z3 elems spare he => hB y0.1 y1.1 y2.1 y3.1 z0 z1 z2 z3 elems spare (by simp [he]))
  simp only [List.cons.injEq, and_true] at q0 q1 q2 q3 q4
  obtain ⟨rfl, rfl, rfl, rfl, rfl⟩ := q4
  simp only [En.cells, List.cons.injEq, and_true] at q1
  obtain ⟨rfl, rfl, rfl, rfl⟩ := q1
  subst q0 q2 q3
  exact ⟨⟨v0, e, v2, v3, ⟨leaf, lo, hi, r, l⟩⟩, a, len, cap, rfl, ⟨hl⟩⟩

theorem delta_said {M : Nat} (hM : 3518437208780 ≤ M) (hW : ∀ n ∈ x.1.weights Tryz.prog 32, n ≤ 140737488351232) :
    ∀ y0 y1 y2 y3 z0 z1 z2 z3 elems spare, x.1 = .agg [y0, y1, y2, y3, .agg [z0, z1, z2, z3, .slice elems spare]] → elems.length + spare.length ≤ M ∧ ∀ y ∈ elems, ∀ k r, y = .agg (.lit (.string k) :: r) → k.length ≤ 140737488351232 := by
  intro y0 y1 y2 y3 z0 z1 z2 z3 elems spare e
  refine page_said (x := ((.agg [z0, z1, z2, z3, .slice elems spare] : DataW H), [])) hM (fun n hn => hW n ?_) z0 z1 z2 z3 elems spare rfl
  rw [e, DataW.weights, Tryz.underlying32]
  simp [DataW.weightsEach]
  simp only at hn
  simp [hn]
end

end Go.Proofs.YthpilennljpamaaGreat

namespace Go.Proofs.YthpilennljpamaaGreat
open Go.RowKit
set_option linter.unusedVariables false
set_option maxRecDepth 100000

theorem cells_at {w : World} {b : Nat} {T : TypeId} {cs : List Value} (hk : Bk w b T cs.toArray) {i : Nat} {v : Value} (h : cs[i]? = some v) : w.cell? ⟨b, i, none⟩ = some v := by
  have hk' : w.heap[b]? = some (.cells cs.toArray T) := hk
  simp [World.cell?, hk', h]

theorem des_two {w : World} {b : Nat} {T : TypeId} {m n : Dm} (hk : Bk w b T (m.cells ++ n.cells).toArray) (hm : m.Ok w) (hn : n.Ok w) : Des w (some ⟨b, 0, none⟩) [m, n] := by
  intro _
  refine ⟨b, 0, rfl, fun i x hi => ?_⟩
  have hl : m.cells.length = 12 := rfl
  match i, hi with
  | 0, hi =>
    simp at hi; subst hi
    refine ⟨fun t v ht => ?_, hm⟩
    have ht2 := (List.getElem?_eq_some_iff.1 ht).1
    rw [show 0 + 0 * 12 + t = t by omega]
    exact cells_at hk (by rw [List.getElem?_append_left ht2]; exact ht)
  | 1, hi =>
    simp at hi; subst hi
    refine ⟨fun t v ht => ?_, hn⟩
    rw [show 0 + 1 * 12 + t = 12 + t by omega]
    exact cells_at hk (by rw [List.getElem?_append_right (by omega), hl, Nat.add_sub_cancel_left]; exact ht)
  | n + 2, hi => simp at hi

theorem cat_list (a b : ByteArray) : (a ++ b).toList = a.toList ++ b.toList := by
  rw [ByteArray.toList_eq, ByteArray.toList_eq, ByteArray.toList_eq]
  simp

/-- A delta that came in. -/
structure InDk (M : Nat) (w : World) (d : De) (p : Option Addr) (n c : Nat) : Prop where
  right : InE M w p n c d.rt.l
  k1 : d.e.key.size ≤ 140737488351232
  k2 : d.key.size ≤ 140737488351232

section
variable {H : Type} {enc : TypeId × Value → H} {W : World} {fuel : Nat} {cs : List Value} {x : DataW H × List MemPlace}

theorem in_deltak {M : Nat} (hf : DataW.trod enc Tryz.prog W 0 (fun _ => true) true fuel 32 cs = some x)
    (hW : ∀ n ∈ x.1.weights Tryz.prog 32, n ≤ 140737488351232) (hB : ∀ y0 y1 y2 y3 z0 z1 z2 z3 elems spare, x.1 = .agg [y0, y1, y2, y3, .agg [z0, z1, z2, z3, .slice elems spare]] → elems.length + spare.length ≤ M ∧ ∀ y ∈ elems, ∀ k r, y = .agg (.lit (.string k) :: r) → k.length ≤ 140737488351232) :
    ∃ (d : De) (a : Option Addr) (len cap : Nat), cs = [.int .i64 d.k, .string d.e.key, .int .i64 d.e.s, .int .i64 d.e.g, .int .i64 d.e.c, .string d.key, .int .i64 d.pg, .bool d.rt.leaf, .string d.rt.lo, .string d.rt.hi, .int .i64 d.rt.r, .slice a len cap] ∧ InDk M W d a len cap := by
  obtain ⟨ys, n, -, rfl, hlen, hys, hall⟩ := DataW.trod_struct Tryz.underlying32 hf
  have eT : Tryz.prog.cellsOf 32 = 12 := by kernel_rfl
  rw [eT] at hlen
  obtain ⟨c0, c1, c2, c3, c4, c5, c6, c7, c8, c9, c10, c11, rfl⟩ := list12 hlen
  obtain ⟨y0, y1, y2, y3, y4, rfl⟩ := list5 (l := ys) hys
  have h0 : DataW.trod enc Tryz.prog W 0 (fun _ => true) true n 3 [c0] = some y0 := by
    have h : DataW.trod enc Tryz.prog W 0 (fun _ => true) true n 3 (List.take (Tryz.prog.cellsOf 3) (List.drop 0 [c0, c1, c2, c3, c4, c5, c6, c7, c8, c9, c10, c11])) = some y0 := hall 0 _ rfl
    rw [show Tryz.prog.cellsOf 3 = 1 by kernel_rfl] at h
    exact h
  have h1 : DataW.trod enc Tryz.prog W 0 (fun _ => true) true n 30 [c1, c2, c3, c4] = some y1 := by
    have h : DataW.trod enc Tryz.prog W 0 (fun _ => true) true n 30 (List.take (Tryz.prog.cellsOf 30) (List.drop 1 [c0, c1, c2, c3, c4, c5, c6, c7, c8, c9, c10, c11])) = some y1 := hall 1 _ rfl
    rw [show Tryz.prog.cellsOf 30 = 4 by kernel_rfl] at h
    exact h
  have h2 : DataW.trod enc Tryz.prog W 0 (fun _ => true) true n 9 [c5] = some y2 := by
    have h : DataW.trod enc Tryz.prog W 0 (fun _ => true) true n 9 (List.take (Tryz.prog.cellsOf 9) (List.drop 5 [c0, c1, c2, c3, c4, c5, c6, c7, c8, c9, c10, c11])) = some y2 := hall 2 _ rfl
    rw [show Tryz.prog.cellsOf 9 = 1 by kernel_rfl] at h
    exact h
  have h3 : DataW.trod enc Tryz.prog W 0 (fun _ => true) true n 3 [c6] = some y3 := by
    have h : DataW.trod enc Tryz.prog W 0 (fun _ => true) true n 3 (List.take (Tryz.prog.cellsOf 3) (List.drop 6 [c0, c1, c2, c3, c4, c5, c6, c7, c8, c9, c10, c11])) = some y3 := hall 3 _ rfl
    rw [show Tryz.prog.cellsOf 3 = 1 by kernel_rfl] at h
    exact h
  have h4 : DataW.trod enc Tryz.prog W 0 (fun _ => true) true n 24 [c7, c8, c9, c10, c11] = some y4 := by
    have h : DataW.trod enc Tryz.prog W 0 (fun _ => true) true n 24 (List.take (Tryz.prog.cellsOf 24) (List.drop 7 [c0, c1, c2, c3, c4, c5, c6, c7, c8, c9, c10, c11])) = some y4 := hall 4 _ rfl
    rw [show Tryz.prog.cellsOf 24 = 5 by kernel_rfl] at h
    exact h
  obtain ⟨v0, q0, _, _⟩ := DataW.trod_int Tryz.underlying3 h0
  obtain ⟨e, q1, re, hre⟩ := in_en h1
  obtain ⟨v2, q2, hv2, _⟩ := DataW.trod_string Tryz.underlying9 h2
  obtain ⟨v3, q3, _, _⟩ := DataW.trod_int Tryz.underlying3 h3
  obtain ⟨leaf, lo, hi, r, a, len, cap, l, q4, hl⟩ := in_page (M := M) h4 (fun z0 z1 z2 z3 elems spare he => hB y0.1 y1.1 y2.1 y3.1 z0 z1 z2 z3 elems spare (by simp [he]))
  have hin1 : e.key.data.toList.length ∈ DataW.weights Tryz.prog 30 y1.1 := by
    rw [hre, DataW.weights, Tryz.underlying30]
    simp [DataW.weightsEach, DataW.weights]
  have hin2 : v2.data.toList.length ∈ DataW.weights Tryz.prog 9 y2.1 := by
    rw [hv2]
    simp [DataW.weights]
  have hk1 : e.key.size ≤ 140737488351232 := by
    have := hW e.key.data.toList.length (by
      simp only [List.map_cons]
      rw [DataW.weights, Tryz.underlying32]
      simp only [DataW.weightsEach, List.map_cons, List.map_nil, List.mem_append]
      exact .inr (.inl hin1))
    simpa using this
  have hk2 : v2.size ≤ 140737488351232 := by
    have := hW v2.data.toList.length (by
      simp only [List.map_cons]
      rw [DataW.weights, Tryz.underlying32]
      simp only [DataW.weightsEach, List.map_cons, List.map_nil, List.mem_append]
      exact .inr (.inr (.inl hin2)))
    simpa using this
  simp only [List.cons.injEq, and_true] at q0 q1 q2 q3 q4
  obtain ⟨rfl, rfl, rfl, rfl, rfl⟩ := q4
  simp only [En.cells, List.cons.injEq, and_true] at q1
  obtain ⟨rfl, rfl, rfl, rfl⟩ := q1
  subst q0 q2 q3
  exact ⟨⟨v0, e, v2, v3, ⟨leaf, lo, hi, r, l⟩⟩, a, len, cap, rfl, ⟨hl, hk1, hk2⟩⟩

end
end Go.Proofs.YthpilennljpamaaGreat

namespace Go.Proofs.YthpilennljpamaaGreat
set_option linter.unusedVariables false
set_option maxRecDepth 100000

namespace Dr
/-- Keys by their numbers. -/
structure Nu (K : Nat) (num : ByteArray → Nat) (kw : ByteArray → Prop) : Prop where
  lt : ∀ x, kw x → num x < K
  is : ∀ x y, kw x → kw y → (x.toList == y.toList) = decide (num x = num y)
  le : ∀ x y, kw x → kw y → Ky.lt x y = decide (num x < num y)

/-- What stays: how many keys and places, each place's key, the next place with it. -/
structure Fx where
  K : Nat
  R : Nat
  kn : List Nat
  nx : List Nat

def Fx.k (F : Fx) (a : Nat) : Nat := F.kn.getD a 0
def Fx.n (F : Fx) (a : Nat) : Nat := F.nx.getD a 0

structure Fx.Ok (F : Fx) : Prop where
  lk : F.kn.length = F.R
  ln : F.nx.length = F.R
  key : ∀ a, a < F.R → F.k a < F.K
  gt : ∀ a, a < F.R → a < F.n a
  le : ∀ a, a < F.R → F.n a ≤ F.R
  same : ∀ a, a < F.R → F.n a < F.R → F.k (F.n a) = F.k a
  next : ∀ a b, a < F.R → a < b → b < F.n a → F.k b ≠ F.k a

/-- What turns. -/
structure Df where
  came : Nat
  row : List En
  fs : List Nat
  al : List En
  gp : List Nat
  st : Nat → Bool

def Df.f (s : Df) (n : Nat) : Nat := s.fs.getD n 0
def Df.g (s : Df) (n : Nat) : Nat := s.gp.getD n 0
def Df.r (s : Df) (a : Nat) : En := s.row.getD a En.zero
def Df.a (s : Df) (n : Nat) : En := s.al.getD n En.zero
/-- Whether the entry of a place is there. -/
def th (F : Fx) (s : Df) (a : Nat) : Bool := decide (a < s.came) && decide (s.f (F.k a) ≤ a)

/-- What stands at a place of the list: places and gaps by one number. -/
def val (F : Fx) (s : Df) (c : Nat) : Option En :=
  if c % (F.K + 1) = F.K then (if th F s (c / (F.K + 1)) then some (s.r (c / (F.K + 1))) else none)
  else (if s.st (c % (F.K + 1)) && decide (s.g (c % (F.K + 1)) = c / (F.K + 1)) then some (s.a (c % (F.K + 1))) else none)

def top (F : Fx) (s : Df) : Nat := s.came * (F.K + 1) + F.K
def view (F : Fx) (s : Df) : List En := (List.range (top F s)).filterMap (val F s)

structure Inv (F : Fx) (num : ByteArray → Nat) (kw : ByteArray → Prop) (s : Df) : Prop where
  fx : F.Ok
  nu : Nu F.K num kw
  lr : s.row.length = F.R
  lf : s.fs.length = F.K
  la : s.al.length = F.K
  lg : s.gp.length = F.K
  came : s.came ≤ F.R
  st : ∀ n, s.st n = true → n < F.K ∧ s.g n ≤ s.came
  rise : ∀ m n, s.st m = true → s.st n = true → m < n → s.g m ≤ s.g n
  ahead : ∀ m a, s.st m = true → th F s a = true → m ≤ F.k a → s.g m ≤ a
  fle : ∀ n, n < F.K → s.f n ≤ F.R
  fkey : ∀ n, n < F.K → s.f n < F.R → F.k (s.f n) = n
  left : ∀ a, s.came ≤ a → a < F.R → s.f (F.k a) ≤ a
  kr : ∀ a, a < F.R → kw (s.r a).key ∧ num (s.r a).key = F.k a
  ka : ∀ n, s.st n = true → kw (s.a n).key ∧ num (s.a n).key = n

theorem div_code (K a n : Nat) (h : n ≤ K) : (a * (K + 1) + n) / (K + 1) = a := by
  rw [Nat.mul_comm, Nat.mul_add_div (by omega), Nat.div_eq_of_lt (by omega), Nat.add_zero]
theorem mod_code (K a n : Nat) (h : n ≤ K) : (a * (K + 1) + n) % (K + 1) = n := by
  rw [Nat.mul_comm, Nat.mul_add_mod, Nat.mod_eq_of_lt (by omega)]

theorem lt_code {K a n b m : Nat} (h : a * (K + 1) + n < b * (K + 1) + m) (hn : n ≤ K) (hm : m ≤ K) : a < b ∨ (a = b ∧ n < m) := by
  by_cases h1 : a < b
  · exact .inl h1
  · by_cases h2 : a = b
    · subst h2; exact .inr ⟨rfl, by omega⟩
    · have h3 : (b + 1) * (K + 1) ≤ a * (K + 1) := Nat.mul_le_mul_right _ (by omega)
      rw [Nat.succ_mul] at h3
      omega

theorem code_lt {K a n b m : Nat} (hn : n ≤ K) (h : a < b ∨ (a = b ∧ n < m)) : a * (K + 1) + n < b * (K + 1) + m := by
  rcases h with h | ⟨rfl, h⟩
  · have h3 : (a + 1) * (K + 1) ≤ b * (K + 1) := Nat.mul_le_mul_right _ (by omega)
    rw [Nat.succ_mul] at h3
    omega
  · omega

theorem code_of (K c : Nat) : c = c / (K + 1) * (K + 1) + c % (K + 1) ∧ c % (K + 1) ≤ K := by
  have := Nat.div_add_mod c (K + 1)
  have h := Nat.mod_lt c (show 0 < K + 1 by omega)
  rw [Nat.mul_comm] at this
  exact ⟨this.symm, by omega⟩

/-- What a number of the list stands for. -/
theorem val_some {F : Fx} {s : Df} {c : Nat} {x : En} (h : val F s c = some x) :
    (∃ a, c = a * (F.K + 1) + F.K ∧ th F s a = true ∧ x = s.r a) ∨ (∃ n, n < F.K ∧ c = s.g n * (F.K + 1) + n ∧ s.st n = true ∧ x = s.a n) := by
  obtain ⟨e, hm⟩ := code_of F.K c
  unfold val at h
  split at h
  · rename_i hK
    split at h
    · rename_i ht
      refine .inl ⟨c / (F.K + 1), by rw [hK] at e; exact e, ht, (Option.some.inj h).symm⟩
    · cases h
  · rename_i hK
    split at h
    · rename_i ht
      simp only [Bool.and_eq_true, decide_eq_true_eq] at ht
      refine .inr ⟨c % (F.K + 1), by omega, by rw [ht.2]; exact e, ht.1, (Option.some.inj h).symm⟩
    · cases h

theorem val_row (F : Fx) (s : Df) (a : Nat) : val F s (a * (F.K + 1) + F.K) = if th F s a then some (s.r a) else none := by
  unfold val
  rw [mod_code _ _ _ (Nat.le_refl _), div_code _ _ _ (Nat.le_refl _), if_pos rfl]

theorem val_gap (F : Fx) (s : Df) (a n : Nat) (h : n < F.K) : val F s (a * (F.K + 1) + n) = if s.st n && decide (s.g n = a) then some (s.a n) else none := by
  unfold val
  rw [mod_code _ _ _ (by omega), div_code _ _ _ (by omega), if_neg (by omega)]

theorem range_split (n c : Nat) (h : c < n) : List.range n = List.range c ++ c :: List.range' (c + 1) (n - c - 1) := by
  rw [List.range_eq_range', List.range_eq_range']
  have : n = c + (1 + (n - c - 1)) := by omega
  conv => lhs; rw [this]
  rw [← List.range'_append_1, Nat.zero_add, Nat.add_comm 1, List.range'_succ]

/-- The list around one place. -/
theorem view_split (F : Fx) (s : Df) (c : Nat) (h : c < top F s) : view F s = (List.range c).filterMap (val F s) ++ ((val F s c).toList ++ (List.range' (c + 1) (top F s - c - 1)).filterMap (val F s)) := by
  unfold view
  rw [range_split _ c h, List.filterMap_append, List.filterMap_cons]
  cases val F s c <;> rfl

theorem fm_congr {f g : Nat → Option En} {l : List Nat} (h : ∀ x ∈ l, f x = g x) : l.filterMap f = l.filterMap g := by
  induction l with
  | nil => rfl
  | cons a r ih =>
    rw [List.filterMap_cons, List.filterMap_cons, h a (by simp), ih fun x hx => h x (by simp [hx])]

/-- The list behind a change of one place. -/
theorem view_turn (F : Fx) (s s' : Df) (c : Nat) (hc : c < top F s) (ht : s'.came = s.came) (h : ∀ d, d ≠ c → val F s' d = val F s d) : view F s' = (List.range c).filterMap (val F s) ++ ((val F s' c).toList ++ (List.range' (c + 1) (top F s - c - 1)).filterMap (val F s)) := by
  have e : top F s' = top F s := by unfold top; rw [ht]
  rw [view_split F s' c (by rw [e]; exact hc), e]
  rw [fm_congr (f := val F s') (g := val F s) (l := List.range c) fun x hx => h x (by have := List.mem_range.1 hx; omega)]
  rw [fm_congr (f := val F s') (g := val F s) (l := List.range' (c + 1) (top F s - c - 1)) fun x hx => h x (by have := List.mem_range'_1.1 hx; omega)]

theorem mem_pre {F : Fx} {s : Df} {c : Nat} {x : En} (h : x ∈ (List.range c).filterMap (val F s)) : ∃ d, d < c ∧ val F s d = some x := by
  obtain ⟨d, hd, hv⟩ := List.mem_filterMap.1 h
  exact ⟨d, List.mem_range.1 hd, hv⟩

theorem putL_same {A B : List En} {x e : En} (hA : ∀ y ∈ A, Pg.is e.key y = false) (hx : Pg.is e.key x = true) : Pg.putL (A ++ x :: B) e = A ++ e :: B := by
  unfold Pg.putL
  have h1 : (A ++ x :: B).any (Pg.is e.key) = true := by simp [hx]
  have h2 : (A ++ x :: B).findIdx (Pg.is e.key) = A.length := by
    rw [List.findIdx_append, if_neg, List.findIdx_cons, hx]
    · simp
    · intro hc
      obtain ⟨y, hy, hp⟩ := List.findIdx_lt_length.1 hc
      rw [hA y hy] at hp
      cases hp
  rw [if_pos h1, h2]
  simp

theorem idx_at {A B : List En} {p : En → Bool} (hA : ∀ y ∈ A, p y = false) (hB : B = [] ∨ ∃ x r, B = x :: r ∧ p x = true) : (A ++ B).findIdx p = A.length := by
  rw [List.findIdx_append, if_neg]
  · rcases hB with rfl | ⟨x, r, rfl, hx⟩
    · simp
    · rw [List.findIdx_cons, hx]; simp
  · intro hc
    obtain ⟨y, hy, hp⟩ := List.findIdx_lt_length.1 hc
    rw [hA y hy] at hp
    cases hp

theorem putL_new {A B : List En} {e : En} (h1 : ∀ y ∈ A ++ B, Pg.is e.key y = false) (hA : ∀ y ∈ A, Ky.lt e.key y.key = false) (hB : B = [] ∨ ∃ x r, B = x :: r ∧ Ky.lt e.key x.key = true) : Pg.putL (A ++ B) e = A ++ e :: B := by
  unfold Pg.putL
  have hn : (A ++ B).any (Pg.is e.key) = false := by
    rw [List.any_eq_false]
    intro y hy
    rw [h1 y hy]
    simp
  rw [if_neg (by rw [hn]; simp), idx_at hA hB]
  unfold Pg.ins
  simp

def without (l : List En) (key : ByteArray) : List En := if l.any (Pg.is key) then Pg.del l (l.findIdx (Pg.is key)) else l

theorem without_same {A B : List En} {x : En} {key : ByteArray} (hA : ∀ y ∈ A, Pg.is key y = false) (hx : Pg.is key x = true) : without (A ++ x :: B) key = A ++ B := by
  unfold without
  rw [if_pos (by simp [hx]), idx_at hA (.inr ⟨x, B, rfl, hx⟩)]
  unfold Pg.del
  rw [List.take_left' rfl, List.drop_append]
  simp

theorem without_none {l : List En} {key : ByteArray} (h : ∀ y ∈ l, Pg.is key y = false) : without l key = l := by
  unfold without
  have hn : l.any (Pg.is key) = false := by
    rw [List.any_eq_false]
    intro y hy
    rw [h y hy]
    simp
  rw [if_neg (by rw [hn]; simp)]

section
variable {F : Fx} {num : ByteArray → Nat} {kw : ByteArray → Prop} {s : Df}

theorem Inv.known (h : Inv F num kw s) {c : Nat} {x : En} (hv : val F s c = some x) : kw x.key := by
  rcases val_some hv with ⟨a, _, ht, rfl⟩ | ⟨n, _, _, hs, rfl⟩
  · unfold th at ht
    simp only [Bool.and_eq_true, decide_eq_true_eq] at ht
    have := h.came
    exact (h.kr a (by omega)).1
  · exact (h.ka n hs).1

/-- With which number something stands in the list. -/
theorem Inv.nmb (h : Inv F num kw s) {c : Nat} {x : En} (hv : val F s c = some x) : (∃ a, c = a * (F.K + 1) + F.K ∧ th F s a = true ∧ num x.key = F.k a ∧ a < s.came ∧ s.f (F.k a) ≤ a) ∨ (∃ n, n < F.K ∧ c = s.g n * (F.K + 1) + n ∧ s.st n = true ∧ num x.key = n) := by
  rcases val_some hv with ⟨a, hc, ht, rfl⟩ | ⟨n, hn, hc, hs, rfl⟩
  · have ht2 := ht
    unfold th at ht2
    simp only [Bool.and_eq_true, decide_eq_true_eq] at ht2
    have := h.came
    exact .inl ⟨a, hc, ht, (h.kr a (by omega)).2, ht2.1, ht2.2⟩
  · exact .inr ⟨n, hn, hc, hs, (h.ka n hs).2⟩

theorem Inv.is (h : Inv F num kw s) {c : Nat} {x : En} (hv : val F s c = some x) {key : ByteArray} (hk : kw key) : Pg.is key x = decide (num x.key = num key) := by
  unfold Pg.is
  exact h.nu.is _ _ (h.known hv) hk

theorem Inv.gr (h : Inv F num kw s) {c : Nat} {x : En} (hv : val F s c = some x) {key : ByteArray} (hk : kw key) : Ky.lt key x.key = decide (num key < num x.key) := h.nu.le _ _ hk (h.known hv)
theorem Inv.ls (h : Inv F num kw s) {c : Nat} {x : En} (hv : val F s c = some x) {key : ByteArray} (hk : kw key) : Ky.lt x.key key = decide (num x.key < num key) := h.nu.le _ _ (h.known hv) hk

/-- Ahead of an entry in a gap stands none with its key. -/
theorem Inv.first_gap (h : Inv F num kw s) {n : Nat} (hs : s.st n = true) {key : ByteArray} (hk : kw key) (hn : num key = n) : ∀ y ∈ (List.range (s.g n * (F.K + 1) + n)).filterMap (val F s), Pg.is key y = false := by
  intro y hy
  obtain ⟨d, hd, hv⟩ := mem_pre hy
  have hnK := (h.st n hs).1
  rw [h.is hv hk, hn, decide_eq_false_iff_not]
  intro he
  rcases h.nmb hv with ⟨a, hc, ht, hna, _, _⟩ | ⟨m, hm, hc, hsm, hna⟩
  · have := h.ahead n a hs ht (by omega)
    rw [hc] at hd
    have := lt_code hd (Nat.le_refl _) (by omega)
    omega
  · have : m = n := by omega
    subst this
    omega

theorem Inv.first_row (h : Inv F num kw s) {n : Nat} (hs : s.st n = false) {key : ByteArray} (hk : kw key) (hn : num key = n) : ∀ y ∈ (List.range (s.f n * (F.K + 1) + F.K)).filterMap (val F s), Pg.is key y = false := by
  intro y hy
  obtain ⟨d, hd, hv⟩ := mem_pre hy
  rw [h.is hv hk, hn, decide_eq_false_iff_not]
  intro he
  rcases h.nmb hv with ⟨a, hc, ht, hna, h1, h2⟩ | ⟨m, hm, hc, hsm, hna⟩
  · rw [hc] at hd
    have := lt_code hd (Nat.le_refl _) (by omega)
    have e : F.k a = n := by omega
    rw [e] at h2
    omega
  · have : m = n := by omega
    subst this
    rw [hs] at hsm
    cases hsm

theorem Inv.none (h : Inv F num kw s) {n : Nat} (hs : s.st n = false) (hf : s.came ≤ s.f n) {key : ByteArray} (hk : kw key) (hn : num key = n) : ∀ y ∈ view F s, Pg.is key y = false := by
  intro y hy
  obtain ⟨d, hd, hv⟩ := mem_pre hy
  rw [h.is hv hk, hn, decide_eq_false_iff_not]
  intro he
  rcases h.nmb hv with ⟨a, hc, ht, hna, h1, h2⟩ | ⟨m, hm, hc, hsm, hna⟩
  · have e : F.k a = n := by omega
    rw [e] at h2
    omega
  · have : m = n := by omega
    subst this
    rw [hs] at hsm
    cases hsm
end

theorem getD_set {α : Type} (l : List α) (i j : Nat) (x d : α) (hi : i < l.length) : (l.set i x).getD j d = if j = i then x else l.getD j d := by
  by_cases h : j = i
  · subst h
    simp [List.getD, hi]
  · simp [List.getD, h, Ne.symm h]

def putA (s : Df) (n : Nat) (e : En) : Df := { s with al := s.al.set n e }
def putR (s : Df) (a : Nat) (e : En) : Df := { s with row := s.row.set a e }
def putN (s : Df) (n : Nat) (e : En) (g : Nat) : Df := { s with al := s.al.set n e, gp := s.gp.set n g, st := fun m => if m = n then true else s.st m }
def rmA (s : Df) (n : Nat) : Df := { s with st := fun m => if m = n then false else s.st m }
def take (F : Fx) (s : Df) (a : Nat) : Df := { s with fs := s.fs.set (F.k a) (F.n a) }
def come1 (s : Df) : Df := { s with came := s.came + 1 }

/-- Where one that is new is to stand. -/
structure Gap (F : Fx) (s : Df) (n g : Nat) : Prop where
  came : g ≤ s.came
  row : ∀ a, th F s a = true → n < F.k a → g ≤ a
  gap : ∀ m, s.st m = true → n < m → g ≤ s.g m
  one : g = s.came ∨ (th F s g = true ∧ n < F.k g) ∨ ∃ m, s.st m = true ∧ n < m ∧ s.g m = g

section
variable {F : Fx} {num : ByteArray → Nat} {kw : ByteArray → Prop} {s : Df}

theorem putA_inv (h : Inv F num kw s) {n : Nat} {e : En} (hs : s.st n = true) (hk : kw e.key) (hn : num e.key = n) : Inv F num kw (putA s n e) := by
  have hl := h.la
  have hnK := (h.st n hs).1
  refine { h with la := by simpa [putA] using hl, ka := fun m hm => ?_ }
  show kw (Df.a (putA s n e) m).key ∧ num (Df.a (putA s n e) m).key = m
  unfold Df.a putA
  simp only
  rw [getD_set _ _ _ _ _ (by omega)]
  split
  · rename_i hmn; subst hmn; exact ⟨hk, hn⟩
  · exact h.ka m hm

theorem putA_view (h : Inv F num kw s) {n : Nat} {e : En} (hs : s.st n = true) (hk : kw e.key) (hn : num e.key = n) : view F (putA s n e) = Pg.putL (view F s) e := by
  have hl := h.la
  obtain ⟨hnK, hg⟩ := h.st n hs
  have hc : s.g n * (F.K + 1) + n < top F s := code_lt (by omega) (by omega)
  have hv : val F s (s.g n * (F.K + 1) + n) = some (s.a n) := by rw [val_gap _ _ _ _ hnK, hs]; simp
  have hv' : val F (putA s n e) (s.g n * (F.K + 1) + n) = some e := by
    rw [val_gap _ _ _ _ hnK]
    have : (putA s n e).a n = e := by unfold Df.a putA; simp only; rw [getD_set _ _ _ _ _ (by omega), if_pos rfl]
    rw [this]
    show (if s.st n && decide (s.g n = s.g n) then some e else none) = some e
    rw [hs]; simp
  rw [view_turn F s (putA s n e) _ hc rfl, hv', view_split F s _ hc, hv]
  · exact (putL_same (h.first_gap hs hk hn) (by rw [h.is hv hk, (h.ka n hs).2, hn]; simp)).symm
  · intro d hd
    obtain ⟨e1, e2⟩ := code_of F.K d
    rw [e1]
    by_cases hK : d % (F.K + 1) = F.K
    · rw [hK, val_row, val_row]; rfl
    · rw [val_gap _ _ _ _ (by omega), val_gap _ _ _ _ (by omega)]
      show (if s.st _ && decide (s.g _ = _) then some ((putA s n e).a _) else none) = _
      by_cases hm : d % (F.K + 1) = n
      · have : s.g n ≠ d / (F.K + 1) := fun hh => hd (by rw [e1, hm, hh])
        rw [hm]
        simp [this]
      · have : (putA s n e).a (d % (F.K + 1)) = s.a (d % (F.K + 1)) := by unfold Df.a putA; simp only; rw [getD_set _ _ _ _ _ (by omega), if_neg hm]
        rw [this]

theorem putR_inv (h : Inv F num kw s) {n : Nat} {e : En} (hn : n < F.K) (hf : s.f n < s.came) (hk : kw e.key) (hne : num e.key = n) : Inv F num kw (putR s (s.f n) e) := by
  have hl := h.lr
  have hc := h.came
  refine { h with lr := by simpa [putR] using hl, kr := fun a ha => ?_ }
  unfold Df.r putR
  simp only
  rw [getD_set _ _ _ _ _ (by omega)]
  split
  · rename_i hmn; subst hmn; exact ⟨hk, by rw [h.fkey n hn (by omega)]; exact hne⟩
  · exact h.kr a ha

theorem putR_view (h : Inv F num kw s) {n : Nat} {e : En} (hn : n < F.K) (hs : s.st n = false) (hf : s.f n < s.came) (hk : kw e.key) (hne : num e.key = n) : view F (putR s (s.f n) e) = Pg.putL (view F s) e := by
  have hl := h.lr
  have hcm := h.came
  have hkf := h.fkey n hn (by omega)
  have hth : th F s (s.f n) = true := by unfold th; rw [hkf]; simp [hf]
  have hc : s.f n * (F.K + 1) + F.K < top F s := code_lt (Nat.le_refl _) (by omega)
  have hv : val F s (s.f n * (F.K + 1) + F.K) = some (s.r (s.f n)) := by rw [val_row, if_pos hth]
  have hv' : val F (putR s (s.f n) e) (s.f n * (F.K + 1) + F.K) = some e := by
    rw [val_row, show th F (putR s (s.f n) e) (s.f n) = th F s (s.f n) from rfl, if_pos hth]
    unfold Df.r putR
    simp only
    rw [getD_set _ _ _ _ _ (by omega), if_pos rfl]
  rw [view_turn F s (putR s (s.f n) e) _ hc rfl, hv', view_split F s _ hc, hv]
  · refine (putL_same (h.first_row hs hk hne) ?_).symm
    rw [h.is hv hk, (h.kr _ (by omega)).2, hkf, hne]; simp
  · intro d hd
    obtain ⟨e1, e2⟩ := code_of F.K d
    rw [e1]
    by_cases hK : d % (F.K + 1) = F.K
    · rw [hK, val_row, val_row]
      have hne2 : d / (F.K + 1) ≠ s.f n := fun hh => hd (by rw [e1, hK, hh])
      have : (putR s (s.f n) e).r (d / (F.K + 1)) = s.r (d / (F.K + 1)) := by unfold Df.r putR; simp only; rw [getD_set _ _ _ _ _ (by omega), if_neg hne2]
      rw [this]; rfl
    · rw [val_gap _ _ _ _ (by omega), val_gap _ _ _ _ (by omega)]; rfl

theorem putN_g (h : Inv F num kw s) {n g : Nat} {e : En} (hn : n < F.K) (m : Nat) : (putN s n e g).g m = if m = n then g else s.g m := by
  have := h.lg
  unfold Df.g putN
  simp only
  rw [getD_set _ _ _ _ _ (by omega)]
theorem putN_a (h : Inv F num kw s) {n g : Nat} {e : En} (hn : n < F.K) (m : Nat) : (putN s n e g).a m = if m = n then e else s.a m := by
  have := h.la
  unfold Df.a putN
  simp only
  rw [getD_set _ _ _ _ _ (by omega)]

theorem putN_inv (h : Inv F num kw s) {n g : Nat} {e : En} (hn : n < F.K) (hs : s.st n = false) (hf : s.came ≤ s.f n) (hg : Gap F s n g) (hk : kw e.key) (hne : num e.key = n) : Inv F num kw (putN s n e g) := by
  have hl := h.la
  have hl2 := h.lg
  have hst : ∀ m, (putN s n e g).st m = if m = n then true else s.st m := fun m => rfl
  refine { h with la := by simpa [putN] using hl, lg := by simpa [putN] using hl2, st := fun m hm => ?_, rise := fun m k hm hk2 hlt => ?_, ahead := fun m a hm ht hle => ?_, ka := fun m hm => ?_ }
  · rw [hst] at hm
    rw [putN_g h hn]
    split
    · rename_i hh; subst hh; exact ⟨hn, hg.came⟩
    · rename_i hh; rw [if_neg hh] at hm; exact h.st m hm
  · rw [hst] at hm hk2
    rw [putN_g h hn, putN_g h hn]
    by_cases h1 : m = n
    · subst h1
      rw [if_neg (by omega)] at hk2
      rw [if_pos rfl, if_neg (by omega)]
      exact hg.gap k hk2 hlt
    · rw [if_neg h1] at hm
      rw [if_neg h1]
      by_cases h2 : k = n
      · subst h2
        rw [if_pos rfl]
        rcases hg.one with h3 | ⟨h3, h4⟩ | ⟨q, h3, h4, h5⟩
        · rw [h3]; exact (h.st m hm).2
        · exact h.ahead m g hm h3 (by omega)
        · rw [← h5]; exact h.rise m q hm h3 (by omega)
      · rw [if_neg h2] at hk2 ⊢
        exact h.rise m k hm hk2 hlt
  · rw [hst] at hm
    rw [putN_g h hn]
    have ht2 : th F s a = true := ht
    by_cases h1 : m = n
    · subst h1
      rw [if_pos rfl]
      by_cases h2 : F.k a = m
      · unfold th at ht2
        simp only [Bool.and_eq_true, decide_eq_true_eq] at ht2
        rw [h2] at ht2
        omega
      · exact hg.row a ht2 (by omega)
    · rw [if_neg h1] at hm ⊢
      exact h.ahead m a hm ht2 hle
  · rw [hst] at hm
    rw [putN_a h hn]
    split
    · rename_i hh; subst hh; exact ⟨hk, hne⟩
    · rename_i hh; rw [if_neg hh] at hm; exact h.ka m hm

/-- The first of some that are there. -/
theorem head_fm (f : Nat → Option En) (p : En → Bool) : ∀ N c, (∀ d, c ≤ d → d < c + N → ∀ x, f d = some x → p x = true ∨ ∃ d' y, c ≤ d' ∧ d' < d ∧ f d' = some y ∧ p y = true) → (List.range' c N).filterMap f = [] ∨ ∃ x r, (List.range' c N).filterMap f = x :: r ∧ p x = true := by
  intro N
  induction N with
  | zero => intro c _; left; rfl
  | succ N ih =>
    intro c hc
    rw [List.range'_succ, List.filterMap_cons]
    cases hf : f c with
    | some x =>
      right
      refine ⟨x, _, rfl, ?_⟩
      rcases hc c (Nat.le_refl _) (by omega) x hf with h | ⟨d', y, h1, h2, _⟩
      · exact h
      · omega
    | none =>
      refine ih (c + 1) fun d h1 h2 x hx => ?_
      rcases hc d (by omega) (by omega) x hx with h | ⟨d', y, h3, h4, h5, h6⟩
      · exact .inl h
      · refine .inr ⟨d', y, ?_, h4, h5, h6⟩
        by_cases hd : d' = c
        · subst hd; rw [hf] at h5; cases h5
        · omega

theorem putN_view (h : Inv F num kw s) {n g : Nat} {e : En} (hn : n < F.K) (hs : s.st n = false) (hf : s.came ≤ s.f n) (hg : Gap F s n g) (hk : kw e.key) (hne : num e.key = n) : view F (putN s n e g) = Pg.putL (view F s) e := by
  have hc : g * (F.K + 1) + n < top F s := code_lt (by omega) (by have := hg.came; omega)
  have hv : val F s (g * (F.K + 1) + n) = none := by rw [val_gap _ _ _ _ hn, hs]; simp
  have hv' : val F (putN s n e g) (g * (F.K + 1) + n) = some e := by
    rw [val_gap _ _ _ _ hn, putN_g h hn, putN_a h hn]
    show (if (if n = n then true else s.st n) && _ then _ else _) = _
    simp
  have hnone := h.none hs hf hk hne
  rw [view_turn F s (putN s n e g) _ hc rfl, hv', view_split F s _ hc, hv]
  · rw [view_split F s _ hc, hv] at hnone
    simp only [Option.toList_none, List.nil_append, Option.toList_some, List.singleton_append] at hnone ⊢
    refine (putL_new hnone (fun y hy => ?_) ?_).symm
    · obtain ⟨d, hd, hy2⟩ := mem_pre hy
      rw [h.gr hy2 hk, hne, decide_eq_false_iff_not]
      intro hlt
      rcases h.nmb hy2 with ⟨a, hca, ht, hna, _, _⟩ | ⟨m, hm, hca, hsm, hna⟩
      · rw [hca] at hd
        have h1 := lt_code hd (Nat.le_refl _) (by omega)
        have h2 := hg.row a ht (by omega)
        omega
      · rw [hca] at hd
        have h1 := lt_code hd (by omega) (by omega)
        have h2 := hg.gap m hsm (by omega)
        omega
    · refine head_fm (val F s) (fun x => Ky.lt e.key x.key) _ _ fun d h1 h2 x hx => ?_
      have hd2 : d < top F s := by omega
      by_cases hdK : d < g * (F.K + 1) + F.K
      · left
        rw [h.gr hx hk, hne, decide_eq_true_eq]
        rcases h.nmb hx with ⟨a, hca, ht, hna, _, _⟩ | ⟨m, hm, hca, hsm, hna⟩
        · rw [hca] at h1 hdK
          have h3 := lt_code hdK (Nat.le_refl _) (Nat.le_refl _)
          have h4 := lt_code (show g * (F.K + 1) + n < a * (F.K + 1) + F.K by omega) (by omega) (Nat.le_refl _)
          omega
        · rw [hca] at h1 hdK
          have h3 := lt_code hdK (by omega) (Nat.le_refl _)
          have h4 := lt_code (show g * (F.K + 1) + n < s.g m * (F.K + 1) + m by omega) (by omega) (by omega)
          omega
      · have hgc : g < s.came := by
          have h3 : g * (F.K + 1) + F.K < s.came * (F.K + 1) + F.K := by unfold top at hd2; omega
          have := lt_code h3 (Nat.le_refl _) (Nat.le_refl _)
          omega
        rcases hg.one with h3 | ⟨h3, h4⟩ | ⟨m, h3, h4, h5⟩
        · omega
        · have hvg : val F s (g * (F.K + 1) + F.K) = some (s.r g) := by rw [val_row, if_pos h3]
          have hpg : Ky.lt e.key (s.r g).key = true := by
            rw [h.gr hvg hk, hne, decide_eq_true_eq, (h.kr g (by have := h.came; omega)).2]
            exact h4
          by_cases h6 : d = g * (F.K + 1) + F.K
          · left
            rw [h6, hvg] at hx
            cases hx
            exact hpg
          · exact .inr ⟨_, _, by omega, by omega, hvg, hpg⟩
        · have hmK := (h.st m h3).1
          have hvg : val F s (g * (F.K + 1) + m) = some (s.a m) := by rw [val_gap _ _ _ _ hmK, h3, h5]; simp
          refine .inr ⟨_, _, ?_, ?_, hvg, ?_⟩
          · omega
          · omega
          · show Ky.lt e.key (s.a m).key = true
            rw [h.gr hvg hk, hne, decide_eq_true_eq, (h.ka m h3).2]
            exact h4
  · intro d hd
    obtain ⟨e1, e2⟩ := code_of F.K d
    rw [e1]
    by_cases hK : d % (F.K + 1) = F.K
    · rw [hK, val_row, val_row]; rfl
    · rw [val_gap _ _ _ _ (by omega), val_gap _ _ _ _ (by omega), putN_g h hn, putN_a h hn]
      show (if (if d % (F.K + 1) = n then true else s.st _) && _ then _ else _) = _
      by_cases hm : d % (F.K + 1) = n
      · have : g ≠ d / (F.K + 1) := fun hh => hd (by rw [e1, hm, hh])
        rw [hm, hs]
        simp [this]
      · rw [if_neg hm, if_neg hm, if_neg hm]
end
end Dr
end Go.Proofs.YthpilennljpamaaGreat

namespace Go.Proofs.YthpilennljpamaaGreat
set_option linter.unusedVariables false
set_option maxRecDepth 100000

namespace Dr
section
variable {F : Fx} {num : ByteArray → Nat} {kw : ByteArray → Prop} {s : Df}

theorem rmA_inv (h : Inv F num kw s) (n : Nat) : Inv F num kw (rmA s n) := by
  have hst : ∀ m, (rmA s n).st m = true → s.st m = true := by
    intro m hm
    have : (if m = n then false else s.st m) = true := hm
    split at this
    · cases this
    · exact this
  exact { h with st := fun m hm => h.st m (hst m hm), rise := fun m k hm hk => h.rise m k (hst m hm) (hst k hk), ahead := fun m a hm => h.ahead m a (hst m hm), ka := fun m hm => h.ka m (hst m hm) }

theorem rmA_view (h : Inv F num kw s) {n : Nat} {key : ByteArray} (hs : s.st n = true) (hk : kw key) (hn : num key = n) : view F (rmA s n) = without (view F s) key := by
  obtain ⟨hnK, hg⟩ := h.st n hs
  have hc : s.g n * (F.K + 1) + n < top F s := code_lt (by omega) (by omega)
  have hv : val F s (s.g n * (F.K + 1) + n) = some (s.a n) := by rw [val_gap _ _ _ _ hnK, hs]; simp
  have hv' : val F (rmA s n) (s.g n * (F.K + 1) + n) = none := by
    rw [val_gap _ _ _ _ hnK]
    show (if (if n = n then false else s.st n) && _ then _ else _) = _
    simp
  rw [view_turn F s (rmA s n) _ hc rfl, hv', view_split F s _ hc, hv]
  · exact (without_same (h.first_gap hs hk hn) (by rw [h.is hv hk, (h.ka n hs).2, hn]; simp)).symm
  · intro d hd
    obtain ⟨e1, e2⟩ := code_of F.K d
    rw [e1]
    by_cases hK : d % (F.K + 1) = F.K
    · rw [hK, val_row, val_row]; rfl
    · rw [val_gap _ _ _ _ (by omega), val_gap _ _ _ _ (by omega)]
      show (if (if d % (F.K + 1) = n then false else s.st _) && _ then _ else _) = _
      by_cases hm : d % (F.K + 1) = n
      · have : s.g n ≠ d / (F.K + 1) := fun hh => hd (by rw [e1, hm, hh])
        rw [hm]
        simp [this]
      · rw [if_neg hm]; rfl

theorem take_f (h : Inv F num kw s) {a : Nat} (ha : a < F.R) (n : Nat) : (take F s a).f n = if n = F.k a then F.n a else s.f n := by
  have h1 := h.lf
  have h2 := h.fx.key a ha
  unfold Df.f take
  simp only
  rw [getD_set _ _ _ _ _ (by omega)]

theorem take_th (h : Inv F num kw s) {a : Nat} (ha : a < s.came) (hf : s.f (F.k a) = a) (b : Nat) : th F (take F s a) b = (th F s b && decide (b ≠ a)) := by
  have hc := h.came
  unfold th
  rw [take_f h (by omega)]
  show (decide (b < s.came) && _) = _
  by_cases hb : b < s.came
  · by_cases hk : F.k b = F.k a
    · rw [if_pos hk, hk, hf]
      have h1 := h.fx.gt a (by omega)
      by_cases hba : b = a
      · subst hba
        simp; omega
      · by_cases hlt : a < b
        · have : F.n a ≤ b := by
            by_cases h2 : F.n a ≤ b
            · exact h2
            · exact absurd hk (h.fx.next a b (by omega) hlt (by omega))
          simp [hb, this, hba]; omega
        · have h2 : ¬ F.n a ≤ b := by omega
          have h3 : ¬ a ≤ b := by omega
          simp [h2, h3]
    · rw [if_neg hk]
      have : b ≠ a := fun e => hk (by rw [e])
      simp [this]
  · simp [hb]

theorem take_inv (h : Inv F num kw s) {a : Nat} (ha : a < s.came) (hf : s.f (F.k a) = a) : Inv F num kw (take F s a) := by
  have hc := h.came
  have hl := h.lf
  have hg := h.fx.gt a (by omega)
  refine { h with lf := by simpa [take] using hl, ahead := fun m b hm ht hle => ?_, fle := fun n hn => ?_, fkey := fun n hn hlt => ?_, left := fun b h1 h2 => ?_ }
  · rw [take_th h ha hf] at ht
    simp only [Bool.and_eq_true] at ht
    exact h.ahead m b hm ht.1 hle
  · rw [take_f h (by omega)]
    split
    · exact h.fx.le a (by omega)
    · exact h.fle n hn
  · rw [take_f h (by omega)] at hlt ⊢
    split
    · rename_i e
      rw [if_pos e] at hlt
      rw [e]
      exact h.fx.same a (by omega) hlt
    · rename_i e
      rw [if_neg e] at hlt
      exact h.fkey n hn hlt
  · have h3 : s.came ≤ b := h1
    rw [take_f h (by omega)]
    split
    · rename_i e
      by_cases h4 : F.n a ≤ b
      · exact h4
      · exact absurd e (h.fx.next a b (by omega) (by omega) (by omega))
    · exact h.left b h3 h2

theorem take_val (h : Inv F num kw s) {a : Nat} (ha : a < s.came) (hf : s.f (F.k a) = a) (d : Nat) : val F (take F s a) d = if d = a * (F.K + 1) + F.K then none else val F s d := by
  obtain ⟨e1, e2⟩ := code_of F.K d
  rw [e1]
  by_cases hK : d % (F.K + 1) = F.K
  · rw [hK, val_row, val_row, take_th h ha hf]
    by_cases hd : d / (F.K + 1) = a
    · rw [hd]; simp
    · have : ¬ d / (F.K + 1) * (F.K + 1) + F.K = a * (F.K + 1) + F.K := by
        intro e
        have := congrArg (· / (F.K + 1)) e
        simp only [div_code _ _ _ (Nat.le_refl F.K)] at this
        exact hd this
      rw [if_neg this]
      simp only [ne_eq, hd, not_false_eq_true, decide_true, Bool.and_true]
      rfl
  · rw [val_gap _ _ _ _ (by omega), val_gap _ _ _ _ (by omega)]
    have : ¬ d / (F.K + 1) * (F.K + 1) + d % (F.K + 1) = a * (F.K + 1) + F.K := by
      intro e
      have := congrArg (· % (F.K + 1)) e
      simp only [mod_code _ _ _ (Nat.le_refl F.K), mod_code _ _ _ e2] at this
      exact hK this
    rw [if_neg this]
    rfl

theorem take_view (h : Inv F num kw s) {n : Nat} {key : ByteArray} (hn : n < F.K) (hs : s.st n = false) (hf : s.f n < s.came) (hk : kw key) (hne : num key = n) : view F (take F s (s.f n)) = without (view F s) key := by
  have hcm := h.came
  have hkf := h.fkey n hn (by omega)
  have hth : th F s (s.f n) = true := by unfold th; rw [hkf]; simp [hf]
  have hc : s.f n * (F.K + 1) + F.K < top F s := code_lt (Nat.le_refl _) (by omega)
  have hv : val F s (s.f n * (F.K + 1) + F.K) = some (s.r (s.f n)) := by rw [val_row, if_pos hth]
  have tv := take_val h hf (by rw [hkf])
  rw [view_turn F s (take F s (s.f n)) _ hc rfl (fun d hd => by rw [tv, if_neg hd]), tv, if_pos rfl, view_split F s _ hc, hv]
  refine (without_same (h.first_row hs hk hne) ?_).symm
  rw [h.is hv hk, (h.kr _ (by omega)).2, hkf, hne]; simp

theorem none_view (h : Inv F num kw s) {n : Nat} {key : ByteArray} (hs : s.st n = false) (hf : s.came ≤ s.f n) (hk : kw key) (hne : num key = n) : without (view F s) key = view F s := without_none (h.none hs hf hk hne)

theorem come_inv (h : Inv F num kw s) (hc : s.came < F.R) : Inv F num kw (come1 s) := by
  refine { h with came := hc, st := fun n hn => ?_, ahead := fun m a hm ht hle => ?_, left := fun a h1 h2 => h.left a (by have : s.came + 1 ≤ a := h1; omega) h2 }
  · obtain ⟨h1, h2⟩ := h.st n hn
    exact ⟨h1, by show s.g n ≤ s.came + 1; omega⟩
  · have ht2 : th F (come1 s) a = true := ht
    unfold th at ht2
    simp only [Bool.and_eq_true, decide_eq_true_eq] at ht2
    obtain ⟨t1, t2⟩ := ht2
    have t3 : a < s.came + 1 := t1
    by_cases hlt : a < s.came
    · refine h.ahead m a hm ?_ hle
      unfold th
      have t4 : s.f (F.k a) ≤ a := t2
      simp [hlt, t4]
    · have := (h.st m hm).2
      show s.g m ≤ a
      omega

theorem come_view (h : Inv F num kw s) (hc : s.came < F.R) : view F (come1 s) = view F s ++ [s.r s.came] := by
  have hl := h.left s.came (Nat.le_refl _) hc
  unfold view
  have e : top F (come1 s) = s.came * (F.K + 1) + F.K + (1 + F.K) := by
    show (s.came + 1) * (F.K + 1) + F.K = _
    rw [Nat.succ_mul]; omega
  have e0 : top F s = s.came * (F.K + 1) + F.K := rfl
  rw [e, e0]
  have e5 : List.range (1 + F.K) = List.range 1 ++ (List.range F.K).map (fun x => 1 + x) := List.range_add
  have e6 : ∀ M, List.range (M + (1 + F.K)) = List.range M ++ (List.range (1 + F.K)).map (fun x => M + x) := fun M => List.range_add
  rw [e6, List.filterMap_append, e5, List.map_append, List.filterMap_append]
  congr 1
  · refine fm_congr fun d hd => ?_
    have hd2 := List.mem_range.1 hd
    obtain ⟨e1, e2⟩ := code_of F.K d
    rw [e1] at hd2 ⊢
    by_cases hK : d % (F.K + 1) = F.K
    · rw [hK] at hd2
      rw [hK, val_row, val_row]
      have h1 := lt_code hd2 (Nat.le_refl _) (Nat.le_refl _)
      have h2 : th F (come1 s) (d / (F.K + 1)) = th F s (d / (F.K + 1)) := by
        unfold th
        show (decide (_ < s.came + 1) && _) = _
        have a1 : d / (F.K + 1) < s.came := by omega
        have a2 : d / (F.K + 1) < s.came + 1 := by omega
        simp only [a1, a2, decide_true, Bool.true_and]
        rfl
      rw [h2]; rfl
    · rw [val_gap _ _ _ _ (by omega), val_gap _ _ _ _ (by omega)]; rfl
  · have h1 : val F (come1 s) (s.came * (F.K + 1) + F.K) = some (s.r s.came) := by
      rw [val_row]
      have : th F (come1 s) s.came = true := by
        unfold th
        show (decide (s.came < s.came + 1) && decide (s.f _ ≤ _)) = true
        simp [hl]
      rw [this]; rfl
    have h2 : ((List.map (fun x => 1 + x) (List.range F.K)).map (fun x => s.came * (F.K + 1) + F.K + x)).filterMap (val F (come1 s)) = [] := by
      rw [List.filterMap_eq_nil_iff]
      intro d hd
      simp only [List.mem_map, List.mem_range] at hd
      obtain ⟨x, ⟨y, hy, rfl⟩, rfl⟩ := hd
      have : s.came * (F.K + 1) + F.K + (1 + y) = (s.came + 1) * (F.K + 1) + y := by rw [Nat.succ_mul]; omega
      rw [this, val_gap _ _ _ _ hy]
      show (if s.st y && decide (s.g y = _) then _ else _) = _
      cases hs : s.st y with
      | false => simp
      | true =>
        have := (h.st y hs).2
        have hne : ¬ s.g y = s.came + 1 := by omega
        simp [hne]
    simp only [List.range_one, List.map_cons, List.map_nil, Nat.add_zero]
    rw [List.filterMap_cons, h1]
    simp only [List.filterMap_nil, List.singleton_append]
    rw [h2]

/-- All from a number on are taken away. -/
structure Cutd (F : Fx) (s s' : Df) (n : Nat) : Prop where
  came : s'.came = s.came
  row : s'.row = s.row
  al : s'.al = s.al
  gp : s'.gp = s.gp
  st : ∀ m, s'.st m = (s.st m && decide (m < n))
  th : ∀ a, th F s' a = (th F s a && decide (F.k a < n))

theorem cut_view {s' : Df} (h : Inv F num kw s) {n : Nat} {key : ByteArray} (hc : Cutd F s s' n) (hk : kw key) (hne : num key = n) : view F s' = (view F s).filter fun e => Ky.lt e.key key := by
  unfold view
  have e : top F s' = top F s := by unfold top; rw [hc.came]
  rw [e, List.filter_filterMap]
  refine fm_congr fun d hd => ?_
  have hr : ∀ a, s'.r a = s.r a := fun a => by unfold Df.r; rw [hc.row]
  have ha : ∀ a, s'.a a = s.a a := fun a => by unfold Df.a; rw [hc.al]
  have hg : ∀ a, s'.g a = s.g a := fun a => by unfold Df.g; rw [hc.gp]
  obtain ⟨e1, e2⟩ := code_of F.K d
  rw [e1]
  cases hv : val F s (d / (F.K + 1) * (F.K + 1) + d % (F.K + 1)) with
  | none =>
    by_cases hK : d % (F.K + 1) = F.K
    · rw [hK, val_row] at hv ⊢
      rw [hc.th]
      split at hv
      · cases hv
      · rename_i h0
        simp [h0]
    · rw [val_gap _ _ _ _ (by omega)] at hv ⊢
      rw [hc.st, hg]
      split at hv
      · cases hv
      · rename_i h0
        simp only [Option.filter_none]
        rw [if_neg]
        simp only [Bool.and_eq_true, decide_eq_true_eq] at h0 ⊢
        exact fun hh => h0 ⟨hh.1.1, hh.2⟩
  | some x =>
    have hlt := h.ls hv hk
    rw [hne] at hlt
    by_cases hK : d % (F.K + 1) = F.K
    · rw [hK] at hv ⊢
      rcases h.nmb hv with ⟨a, hca, ht, hna, _, _⟩ | ⟨m, hm, hca, hsm, hna⟩
      · have : a = d / (F.K + 1) := by
          have := congrArg (· / (F.K + 1)) hca
          simp only [div_code _ _ _ (Nat.le_refl F.K)] at this
          exact this.symm
        subst this
        rw [val_row, if_pos ht] at hv
        cases hv
        rw [val_row, hc.th, ht, hr]
        simp only [Option.filter, Bool.true_and, hlt, hna]
      · have := congrArg (· % (F.K + 1)) hca
        simp only [mod_code _ _ _ (Nat.le_refl F.K), mod_code _ _ _ (show m ≤ F.K by omega)] at this
        omega
    · rcases h.nmb hv with ⟨a, hca, ht, hna, _, _⟩ | ⟨m, hm, hca, hsm, hna⟩
      · have := congrArg (· % (F.K + 1)) hca
        simp only [mod_code _ _ _ (Nat.le_refl F.K), mod_code _ _ _ e2] at this
        omega
      · have e4 := congrArg (· % (F.K + 1)) hca
        simp only [mod_code _ _ _ (show m ≤ F.K by omega), mod_code _ _ _ e2] at e4
        have e5 := congrArg (· / (F.K + 1)) hca
        simp only [div_code _ _ _ (show m ≤ F.K by omega), div_code _ _ _ e2] at e5
        rw [e4, e5] at hv ⊢
        rw [val_gap _ _ _ _ hm, hsm] at hv
        simp only [decide_true, Bool.and_self, if_true, Option.some.injEq] at hv
        subst hv
        rw [val_gap _ _ _ _ hm, hc.st, hg, ha, hsm]
        simp only [Option.filter, Bool.true_and, hlt, hna, decide_true, Bool.and_true]

/-- What is told up to a number. -/
def pv (F : Fx) (s : Df) (c : Nat) : List En := (List.range c).filterMap (val F s)

theorem pv_succ (F : Fx) (s : Df) (c : Nat) : pv F s (c + 1) = pv F s c ++ (val F s c).toList := by
  unfold pv
  rw [List.range_succ, List.filterMap_append]
  congr 1

theorem pv_skip (F : Fx) (s : Df) (at' n : Nat) : ∀ k, n + k ≤ F.K → (∀ m, n ≤ m → m < n + k → s.st m = false ∨ s.g m ≠ at') → pv F s (at' * (F.K + 1) + (n + k)) = pv F s (at' * (F.K + 1) + n) := by
  intro k
  induction k with
  | zero => intro _ _; rfl
  | succ k ih =>
    intro hk hall
    rw [← Nat.add_assoc, ← Nat.add_assoc, pv_succ, Nat.add_assoc, ih (by omega) fun m h1 h2 => hall m h1 (by omega)]
    have : val F s (at' * (F.K + 1) + (n + k)) = none := by
      rw [val_gap _ _ _ _ (by omega)]
      rcases hall (n + k) (by omega) (by omega) with h | h
      · simp [h]
      · simp [h]
    rw [this]; simp

theorem pv_gap (F : Fx) (s : Df) (n : Nat) (hn : n < F.K) (hs : s.st n = true) : pv F s (s.g n * (F.K + 1) + (n + 1)) = pv F s (s.g n * (F.K + 1) + n) ++ [s.a n] := by
  rw [← Nat.add_assoc, pv_succ, val_gap _ _ _ _ hn, hs]; simp

theorem pv_row (F : Fx) (s : Df) (a : Nat) : pv F s ((a + 1) * (F.K + 1)) = pv F s (a * (F.K + 1) + F.K) ++ (if th F s a then [s.r a] else []) := by
  rw [Nat.succ_mul, ← Nat.add_assoc, pv_succ, val_row]
  cases th F s a <;> rfl

end
end Dr
end Go.Proofs.YthpilennljpamaaGreat

namespace Go.Proofs.YthpilennljpamaaGreat
open Go.Lib
set_option linter.unusedVariables false
set_option maxRecDepth 100000

namespace Dr
/-- Keys that rise, each once. -/
def Rise (ks : List (List UInt8)) : Prop := ks.Pairwise (· < ·)

def num (ks : List (List UInt8)) (key : ByteArray) : Nat := ks.findIdx fun k => !Op.bytesLess k key.toList
def kw (ks : List (List UInt8)) (key : ByteArray) : Prop := key.toList ∈ ks

theorem Rise.lt {ks : List (List UInt8)} (h : Rise ks) {i j : Nat} (hj : j < ks.length) (hij : i < j) : ks[i] < ks[j] := List.pairwise_iff_getElem.1 h i j (by omega) hj hij

theorem Rise.iff {ks : List (List UInt8)} (h : Rise ks) {i j : Nat} (hi : i < ks.length) (hj : j < ks.length) : ks[i] < ks[j] ↔ i < j := by
  constructor
  · intro hlt
    by_cases h1 : i < j
    · exact h1
    · by_cases h2 : i = j
      · subst h2; exact absurd hlt (List.lt_irrefl _)
      · exact absurd (List.lt_trans hlt (h.lt hi (by omega))) (List.lt_irrefl _)
  · exact h.lt hj

theorem num_at {ks : List (List UInt8)} (h : Rise ks) {i : Nat} (hi : i < ks.length) {key : ByteArray} (hk : key.toList = ks[i]) : num ks key = i := by
  unfold num
  rw [List.findIdx_eq hi]
  rw [hk]
  constructor
  · rw [bytesLess_eq]; simp [List.lt_irrefl]
  · intro j hj
    rw [bytesLess_eq]
    have := h.lt hi hj
    simp [this]

theorem kw_at {ks : List (List UInt8)} {key : ByteArray} (h : kw ks key) : ∃ i, ∃ hi : i < ks.length, key.toList = ks[i] := by
  obtain ⟨i, hi, e⟩ := List.getElem_of_mem h
  exact ⟨i, hi, e.symm⟩

theorem num_nu {ks : List (List UInt8)} (h : Rise ks) : Nu ks.length (num ks) (kw ks) where
  lt x hx := by
    obtain ⟨i, hi, e⟩ := kw_at hx
    rw [num_at h hi e]; exact hi
  is x y hx hy := by
    obtain ⟨i, hi, e⟩ := kw_at hx
    obtain ⟨j, hj, f⟩ := kw_at hy
    rw [num_at h hi e, num_at h hj f, e, f, Bool.eq_iff_iff, beq_iff_eq, decide_eq_true_iff]
    constructor
    · intro he
      by_cases h1 : i < j
      · have := h.lt hj h1; rw [he] at this; exact absurd this (List.lt_irrefl _)
      · by_cases h2 : j < i
        · have := h.lt hi h2; rw [he] at this; exact absurd this (List.lt_irrefl _)
        · omega
    · intro he; subst he; rfl
  le x y hx hy := by
    obtain ⟨i, hi, e⟩ := kw_at hx
    obtain ⟨j, hj, f⟩ := kw_at hy
    rw [num_at h hi e, num_at h hj f]
    unfold Ky.lt
    rw [e, f, bytesLess_eq, Bool.eq_iff_iff, decide_eq_true_iff, decide_eq_true_iff]
    exact h.iff hi hj

/-- What the halving finds. -/
theorem search_num {ks : List (List UInt8)} (h : Rise ks) (key : ByteArray) (Sx : Nat → ByteArray) (h1 : ∀ t, ∀ ht : t < ks.length, (Sx t).toList = ks[t]) (h2 : ∀ t, ks.length ≤ t → Sx t = key) :
    bsGo (fun t => Op.bytesLess (Sx t).toList key.toList) ks.length 0 ks.length = num ks key := by
  have hle : num ks key ≤ ks.length := List.findIdx_le_length
  refine bsGo_spec _ _ (fun t ht => ?_) (fun t ht => ?_) _ _ _ (by omega) (by omega) hle
  · have htl : t < ks.length := by omega
    rw [h1 t htl]
    have := List.not_of_lt_findIdx (p := fun k => !Op.bytesLess k key.toList) ht
    simpa using this
  · by_cases htl : t < ks.length
    · rw [h1 t htl, bytesLess_eq, decide_eq_false_iff_not]
      have hn : num ks key < ks.length := by omega
      have h3 := List.findIdx_getElem (p := fun k => !Op.bytesLess k key.toList) (xs := ks) (w := hn)
      rw [bytesLess_eq] at h3
      simp only [Bool.not_eq_true', decide_eq_false_iff_not] at h3
      intro h4
      by_cases h5 : t = num ks key
      · subst h5; exact h3 h4
      · exact h3 (List.lt_trans (h.lt htl (show num ks key < t by omega)) h4)
    · rw [h2 t (by omega), bytesLess_eq]
      simp [List.lt_irrefl]

/-- Sorted keys, each once: they rise, and are the same. -/
theorem compact_facts {d : Array (List UInt8)} (hs : ∀ i j, i < j → j < d.size → d[i]! ≤ d[j]!) : ∀ m, m ≤ d.size → (∀ x ∈ compactUpTo d m, ∃ j, j < m ∧ x = d[j]!) ∧ (∀ j, j < m → d[j]! ∈ compactUpTo d m) ∧ (compactUpTo d m).Pairwise (· < ·) := by
  intro m
  induction m with
  | zero =>
    intro _
    refine ⟨fun x hx => ?_, fun j hj => absurd hj (Nat.not_lt_zero _), ?_⟩
    · simp [compactUpTo] at hx
    · simp [compactUpTo]
  | succ m ih =>
    intro hm
    obtain ⟨h1, h2, h3⟩ := ih (by omega)
    rw [compactUpTo_succ]
    cases hk : keeps d m with
    | true =>
      simp only [if_true]
      have hlt : ∀ x ∈ compactUpTo d m, x < d[m]! := by
        intro x hx
        obtain ⟨j, hj, rfl⟩ := h1 x hx
        unfold keeps at hk
        simp only [decide_eq_true_eq] at hk
        have h0 : m ≠ 0 := by omega
        have hne : d[m]! ≠ d[m - 1]! := by
          rcases hk with h | h
          · exact absurd h h0
          · exact h
        have hle : d[j]! ≤ d[m - 1]! := by
          by_cases h5 : j = m - 1
          · subst h5; exact List.le_refl _
          · exact hs j (m - 1) (by omega) (by omega)
        have hle2 := hs (m - 1) m (by omega) (by omega)
        have hlt2 : d[m - 1]! < d[m]! := by
          by_cases h6 : d[m - 1]! < d[m]!
          · exact h6
          · exact absurd (List.le_antisymm (List.not_lt.1 h6) hle2) hne
        exact List.lt_of_le_of_lt hle hlt2
      refine ⟨fun x hx => ?_, fun j hj => ?_, ?_⟩
      · rcases List.mem_append.1 hx with h | h
        · obtain ⟨j, hj, e⟩ := h1 x h
          exact ⟨j, by omega, e⟩
        · exact ⟨m, by omega, by simpa using h⟩
      · by_cases hjm : j = m
        · subst hjm; simp
        · exact List.mem_append_left _ (h2 j (by omega))
      · rw [List.pairwise_append]
        exact ⟨h3, by simp, fun x hx y hy => by rw [List.mem_singleton.1 hy]; exact hlt x hx⟩
    | false =>
      simp only [Bool.false_eq_true, if_false, List.append_nil]
      refine ⟨fun x hx => ?_, fun j hj => ?_, h3⟩
      · obtain ⟨j, hj, e⟩ := h1 x hx
        exact ⟨j, by omega, e⟩
      · by_cases hjm : j = m
        · subst hjm
          unfold keeps at hk
          simp only [decide_eq_false_iff_not, not_or, Decidable.not_not] at hk
          rw [hk.2]
          exact h2 (j - 1) (by omega)
        · exact h2 j (by omega)

/-- The keys of some texts. -/
def keysOf (ss : List (List UInt8)) : List (List UInt8) := compact (ss.mergeSort fun x y => decide (x ≤ y))

theorem keysOf_facts (ss : List (List UInt8)) : Rise (keysOf ss) ∧ ∀ x ∈ ss, x ∈ keysOf ss := by
  have hsort : (ss.mergeSort fun x y => decide (x ≤ y)).Pairwise fun x y => x ≤ y := by
    have := List.pairwise_mergeSort (le := fun (x y : List UInt8) => decide (x ≤ y)) (fun a b c h1 h2 => by
      simp only [decide_eq_true_eq] at *
      exact List.le_trans h1 h2) (fun a b => by
      simp only [Bool.or_eq_true, decide_eq_true_eq]
      exact List.le_total a b) ss
    exact this.imp fun h => by simpa using h
  have hd : ∀ i j, i < j → j < (ss.mergeSort fun x y => decide (x ≤ y)).toArray.size → (ss.mergeSort fun x y => decide (x ≤ y)).toArray[i]! ≤ (ss.mergeSort fun x y => decide (x ≤ y)).toArray[j]! := by
    intro i j hij hj
    rw [getElem!_pos _ i (by omega), getElem!_pos _ j hj]
    have hj' : j < (ss.mergeSort fun x y => decide (x ≤ y)).length := by simpa using hj
    simpa using List.pairwise_iff_getElem.1 hsort i j (by omega) hj' hij
  have h := compact_facts hd _ (Nat.le_refl _)
  refine ⟨?_, fun x hx => ?_⟩
  · unfold Rise keysOf compact
    simpa using h.2.2
  · have hx2 : x ∈ ss.mergeSort fun x y => decide (x ≤ y) := List.mem_mergeSort.2 hx
    obtain ⟨j, hj, e⟩ := List.getElem_of_mem hx2
    have := h.2.1 j (by simpa using hj)
    rw [getElem!_pos _ j (by simpa using hj)] at this
    unfold keysOf compact
    simp only [List.size_toArray, List.getElem_toArray, e] at this
    exact this

theorem keysOf_len (ss : List (List UInt8)) : (keysOf ss).length ≤ ss.length := by
  unfold keysOf
  have := compact_length_le (ss.mergeSort fun x y => decide (x ≤ y))
  rw [List.length_mergeSort] at this
  exact this
end Dr
end Go.Proofs.YthpilennljpamaaGreat

namespace Go.Proofs.YthpilennljpamaaGreat
open Go.RowKit Go.Shelf Go.Sort
attribute [local go_sem] Oper.semAt_some
set_option linter.unusedVariables false
set_option maxRecDepth 100000

set_option maxHeartbeats 2000000 in
theorem backE_in (l b : Nat) (S : List Nat) (L : List En) (J Jx : List (Nat × En) → World → Prop) (Jp : List PanicEntry → List (Nat × En) → World → Prop)
    (hY : ∀ pre x W, J pre W → pre ++ [x] <+: Pg.bw L → YieldAt Fence.wide 7 Tryz.prog l (encB x) W fun r W' =>
      (r = .returned (.bool true) ∧ J (pre ++ [x]) W' ∧ KpP S W W') ∨ (r = .returned (.bool false) ∧ Jx (pre ++ [x]) W') ∨ (∃ chain, r = .panicked chain ∧ Jp chain (pre ++ [x]) W'))
    (W : World) (hL : Fm W b S L) (h0 : J [] W) :
    CallsIn Fence.wide 8 Tryz.prog 142 #[.func (.yield l) #[] #[], .pointer (some ⟨b, 0, none⟩)] W fun r W' => ((∃ v, r = .returned v) ∧
      ((∃ ys, ys = Pg.bw L ∧ J ys W') ∨ (∃ pre, pre <+: Pg.bw L ∧ Jx pre W'))) ∨ ∃ chain pre, r = .panicked chain ∧ pre <+: Pg.bw L ∧ Jp chain pre W' := by
  refine callsIn_of_wp Tryz.func142 rfl trivial ?_ rfl
  simp only [Tryz.ntmps142, List.size_toArray, List.length_cons, List.length_nil, Nat.reduceAdd, Nat.reduceSub, Array.replicate_succ, Array.replicate_zero, List.push_toArray, List.append_toArray, List.nil_append, List.cons_append]
  obtain ⟨p, c, k1, r1, s1⟩ := hL.ex
  obtain ⟨len, hlen⟩ : ∃ len, L.length = len := ⟨_, rfl⟩
  have hreach := hL.reach
  have HR : Hid (∀ W', KpP S W W' → ∀ j x, L[j]? = some x → ∃ g o, p = some ⟨g, o, none⟩ ∧ W'.cell? ⟨g, o + j * 4, none⟩ = some (.string x.key) ∧ W'.cell? ⟨g, o + j * 4 + 1, none⟩ = some (.int .i64 x.s) ∧ W'.cell? ⟨g, o + j * 4 + 2, none⟩ = some (.int .i64 x.g) ∧ W'.cell? ⟨g, o + j * 4 + 3, none⟩ = some (.int .i64 x.c)) := fun W' hk j x hx => by
    have hj : j < L.length := (List.getElem?_eq_some_iff.1 hx).1
    obtain ⟨g, o, e, rfl, he, -, h⟩ := (r1.kp hk (s1 (by omega))).at hj
    rw [hx] at he
    cases he
    exact ⟨g, o, rfl, h⟩
  rw [hlen] at hreach k1
  have HL : Hid (L.length = len) := hlen
  have HY : Hid _ := hY
  have HBX : Hid (∀ W', KpP S W W' → W'.cell? ⟨b, 0, none⟩ = some (.slice p len c)) := fun W' hk => (hk.bk k1 hL.h1).cell 0
  have hbx := HBX.out W (KpP.refl _ _)
  clear hlen hY hL k1 r1 s1
  gi_wp2
  gi_loopw [3] (fun i wr => ∃ k : Nat, k ≤ len ∧ i = .int .i64 ((k : Int) - 1) ∧ J ((Pg.bw L).take (len - k)) wr ∧ KpP S W wr) (fun i _ => (intOf i + 1).toNat)
  case atStart => exact ⟨len, Nat.le_refl _, by go_num, by simpa using h0, KpP.refl _ _⟩
  case round =>
    obtain ⟨k', hk, rfl, hJs, hK⟩ := hrel
    cases k' with
    | succ k =>
      rw [show ((k + 1 : Nat) : Int) - 1 = (k : Int) by omega]
      have hkL : k < L.length := by rw [HL.out]; omega
      obtain ⟨x, hx⟩ : ∃ x, L[k]? = some x := ⟨_, List.getElem?_eq_getElem hkL⟩
      have hli : (k : Int) < (len : Int) := by omega
      have hk0 : (0 : Int) ≤ (k : Int) := by omega
      have hb0 := HBX.out wr hK
      obtain ⟨g, o, rfl, z0, z1, z2, z3⟩ := HR.out wr hK k x hx
      have hbw := Pg.bw_at hkL hx
      rw [HL.out, show len - 1 - k = len - (k + 1) by omega] at hbw
      have HT : Hid ((Pg.bw L).take (len - k) = (Pg.bw L).take (len - (k + 1)) ++ [(k, x)]) := by
        rw [Hid, show len - k = len - (k + 1) + 1 by omega]
        exact take_snoc hbw
      obtain ⟨fn, tmps, assign, body, hy, hR⟩ := HY.out ((Pg.bw L).take (len - (k + 1))) (k, x) wr hJs (by rw [← HT.out]; exact List.take_prefix _ _)
      simp only [encB, En.val] at hy
      clear hx hbw
      gi_wp2
      refine hR.mono ?_
      rintro e W4 (⟨rfl, hJ4, hk4⟩ | ⟨rfl, hJx4⟩ | ⟨chain, rfl, hJp4⟩)
      · gi_wp2
        go_roundw
        case rel => exact ⟨k, by omega, by go_num, by rw [HT.out]; exact hJ4, hK.t hk4⟩
        case measure => simp [intOf]
      · gi_wp2
        refine bodyPost_ret (results_none rfl _ _ _) rfl ?_
        exact .inl ⟨⟨_, rfl⟩, .inr ⟨_, by rw [← HT.out]; exact List.take_prefix _ _, hJx4⟩⟩
      · refine ⟨rfl, ?_⟩
        exact .inr ⟨chain, _, rfl, by rw [← HT.out]; exact List.take_prefix _ _, hJp4⟩
    | zero =>
      rw [show ((0 : Nat) : Int) - 1 = -1 by omega]
      gi_wp2
      go_end0
      refine .inl ⟨⟨_, rfl⟩, .inl ⟨_, rfl, ?_⟩⟩
      rw [List.take_of_length_le (by rw [Pg.bw_len, HL.out]; exact Nat.le_refl _)] at hJs
      exact hJs

theorem backE_stops {w : World} {b : Nat} {S : List Nat} {L : List En} (hL : Fm w b S L) :
    SeqStopsP 8 Tryz.prog 142 #[.pointer (some ⟨b, 0, none⟩)] encB (KpP S) (fun ys => ys = Pg.bw L) (fun pre => pre <+: Pg.bw L) w := fun l J Jx Jp W hW hY h0 =>
  backE_in l b S L J Jx Jp hY W (hL.kp (KpP.of_below hW hL.lt)) h0

namespace Dr
/-- The first place from j on with a key's number. -/
def fsAt (kn : List Nat) (j n : Nat) : Nat := j + (kn.drop j).findIdx fun k => k == n

theorem fsAt_step {kn : List Nat} {j n : Nat} (hj : j < kn.length) : fsAt kn j n = if kn.getD j 0 = n then j else fsAt kn (j + 1) n := by
  unfold fsAt
  rw [List.drop_eq_getElem_cons hj, List.findIdx_cons]
  have : kn.getD j 0 = kn[j] := by simp [List.getD, hj]
  rw [this]
  by_cases h : kn[j] = n
  · simp [h]
  · rw [if_neg h]
    have : (kn[j] == n) = false := by simp [h]
    rw [this]
    simp only [cond_false]
    omega

theorem fsAt_le (kn : List Nat) (j n : Nat) (hj : j ≤ kn.length) : fsAt kn j n ≤ kn.length := by
  unfold fsAt
  have := List.findIdx_le_length (p := fun k => k == n) (xs := kn.drop j)
  rw [List.length_drop] at this
  omega

theorem fsAt_key {kn : List Nat} {j n : Nat} (h : fsAt kn j n < kn.length) : kn.getD (fsAt kn j n) 0 = n := by
  have hlt : (kn.drop j).findIdx (fun k => k == n) < (kn.drop j).length := by
    unfold fsAt at h
    rw [List.length_drop]; omega
  have := List.findIdx_getElem (p := fun k => k == n) (xs := kn.drop j) (w := hlt)
  rw [List.getElem_drop] at this
  unfold fsAt at h ⊢
  simp only [List.getD, List.getElem?_eq_getElem h, Option.getD_some]
  simpa using this

theorem fsAt_min {kn : List Nat} {j n b : Nat} (hj : j ≤ b) (hb : b < fsAt kn j n) (hl : b < kn.length) : kn.getD b 0 ≠ n := by
  unfold fsAt at hb
  have hlt : b - j < (kn.drop j).findIdx (fun k => k == n) := by omega
  have := List.not_of_lt_findIdx hlt
  rw [List.getElem_drop] at this
  simp only [show j + (b - j) = b by omega] at this
  simp only [List.getD, List.getElem?_eq_getElem hl, Option.getD_some]
  simpa using this

def nxOf (kn : List Nat) : List Nat := (List.range kn.length).map fun a => fsAt kn (a + 1) (kn.getD a 0)
def fsOf (kn : List Nat) (K j : Nat) : List Nat := (List.range K).map (fsAt kn j)
/-- A row that is filled from behind. -/
def upFrom (l : List Nat) (j : Nat) : List Nat := List.replicate j 0 ++ l.drop j

theorem upFrom_len (l : List Nat) (j : Nat) (h : j ≤ l.length) : (upFrom l j).length = l.length := by simp [upFrom]; omega
theorem upFrom_step {l : List Nat} {j : Nat} (h : j < l.length) : (upFrom l (j + 1)).set j (l.getD j 0) = upFrom l j := by
  unfold upFrom
  rw [List.drop_eq_getElem_cons h, List.replicate_succ', List.append_assoc, List.set_append_right _ _ (by simp)]
  simp [List.getD, h]
theorem fsOf_step {kn : List Nat} {K j : Nat} (hj : j < kn.length) (hn : kn.getD j 0 < K) : (fsOf kn K (j + 1)).set (kn.getD j 0) j = fsOf kn K j := by
  apply List.ext_getElem?
  intro m
  unfold fsOf
  by_cases hm : m < K
  · by_cases he : kn.getD j 0 = m
    · subst he
      rw [List.getElem?_set_self (by simpa using hn), List.getElem?_map, List.getElem?_range hm, Option.map_some, fsAt_step hj, if_pos rfl]
    · rw [List.getElem?_set_ne he, List.getElem?_map, List.getElem?_map, List.getElem?_range hm, Option.map_some, Option.map_some, fsAt_step hj, if_neg he]
  · rw [List.getElem?_eq_none (by simp; omega), List.getElem?_eq_none (by simp; omega)]

theorem nxOf_at {kn : List Nat} {a : Nat} (h : a < kn.length) : (nxOf kn).getD a 0 = fsAt kn (a + 1) (kn.getD a 0) := by
  simp [nxOf, List.getD, h]
theorem fsOf_at {kn : List Nat} {K j n : Nat} (h : n < K) : (fsOf kn K j).getD n 0 = fsAt kn j n := by
  simp [fsOf, List.getD, h]

/-- The keys' numbers of a row. -/
def knOf (ks : List (List UInt8)) (row : List En) : List Nat := row.map fun e => num ks e.key
def fx0 (ks : List (List UInt8)) (row : List En) : Fx := ⟨ks.length, row.length, knOf ks row, nxOf (knOf ks row)⟩
def df0 (ks : List (List UInt8)) (row : List En) : Df := ⟨0, row, fsOf (knOf ks row) ks.length 0, List.replicate ks.length En.zero, List.replicate ks.length 0, fun _ => false⟩

theorem knOf_len (ks : List (List UInt8)) (row : List En) : (knOf ks row).length = row.length := by simp [knOf]
theorem knOf_at {ks : List (List UInt8)} {row : List En} {a : Nat} (h : a < row.length) : (knOf ks row).getD a 0 = num ks (row.getD a En.zero).key := by
  simp [knOf, List.getD, h]

theorem inv0 {ks : List (List UInt8)} {row : List En} (hr : Rise ks) (hk : ∀ e ∈ row, kw ks e.key) : Inv (fx0 ks row) (num ks) (kw ks) (df0 ks row) := by
  have hl := knOf_len ks row
  have hkr : ∀ a, a < row.length → kw ks (row.getD a En.zero).key := fun a ha => by
    simp only [List.getD, List.getElem?_eq_getElem ha, Option.getD_some]
    exact hk _ (List.getElem_mem ha)
  have hlt : ∀ a, a < row.length → (knOf ks row).getD a 0 < ks.length := fun a ha => by
    rw [knOf_at ha]
    exact (num_nu hr).lt _ (hkr a ha)
  refine ⟨⟨hl, by simp [fx0, nxOf, hl], hlt, fun a ha => ?_, fun a ha => ?_, fun a ha h1 => ?_, fun a b ha h1 h2 => ?_⟩, num_nu hr, rfl, by simp [df0, fsOf, fx0], by simp [df0, fx0], by simp [df0, fx0], Nat.zero_le _, fun n h => (by cases h), fun m n h => (by cases h), fun m a h => (by cases h), fun n hn => ?_, fun n hn h1 => ?_, fun a h1 h2 => ?_, fun a ha => ?_, fun n h => (by cases h)⟩
  · show a < (nxOf (knOf ks row)).getD a 0
    rw [nxOf_at (by rw [hl]; exact ha)]
    unfold fsAt; omega
  · show (nxOf (knOf ks row)).getD a 0 ≤ row.length
    rw [nxOf_at (by rw [hl]; exact ha), ← hl]
    exact fsAt_le _ _ _ (by rw [hl]; exact ha)
  · show (knOf ks row).getD ((nxOf (knOf ks row)).getD a 0) 0 = (knOf ks row).getD a 0
    have h3 : (nxOf (knOf ks row)).getD a 0 < row.length := h1
    rw [nxOf_at (by rw [hl]; exact ha)] at h3 ⊢
    exact fsAt_key (by rw [hl]; exact h3)
  · show (knOf ks row).getD b 0 ≠ (knOf ks row).getD a 0
    have h3 : b < (nxOf (knOf ks row)).getD a 0 := h2
    rw [nxOf_at (by rw [hl]; exact ha)] at h3
    have h4 := fsAt_le (knOf ks row) (a + 1) ((knOf ks row).getD a 0) (by rw [hl]; exact ha)
    exact fsAt_min (by omega) h3 (by omega)
  · show (fsOf (knOf ks row) ks.length 0).getD n 0 ≤ row.length
    rw [fsOf_at (show n < ks.length from hn), ← hl]
    exact fsAt_le _ _ _ (Nat.zero_le _)
  · show (knOf ks row).getD ((fsOf (knOf ks row) ks.length 0).getD n 0) 0 = n
    have h3 : (fsOf (knOf ks row) ks.length 0).getD n 0 < row.length := h1
    rw [fsOf_at (show n < ks.length from hn)] at h3 ⊢
    exact fsAt_key (by rw [hl]; exact h3)
  · show (fsOf (knOf ks row) ks.length 0).getD ((knOf ks row).getD a 0) 0 ≤ a
    rw [fsOf_at (hlt a h2)]
    by_cases hc : fsAt (knOf ks row) 0 ((knOf ks row).getD a 0) ≤ a
    · exact hc
    · have hmin := fsAt_min (kn := knOf ks row) (j := 0) (n := (knOf ks row).getD a 0) (b := a) (Nat.zero_le _) (by omega) (by rw [hl]; exact h2)
      exact absurd rfl hmin
  · exact ⟨hkr a ha, (knOf_at ha).symm⟩

theorem view0 (ks : List (List UInt8)) (row : List En) : view (fx0 ks row) (df0 ks row) = [] := by
  unfold view top
  rw [List.filterMap_eq_nil_iff]
  intro d hd
  cases hv : val (fx0 ks row) (df0 ks row) d with
  | none => rfl
  | some x =>
    rcases val_some hv with ⟨a, _, ht, _⟩ | ⟨n, _, _, hs, _⟩
    · unfold th at ht
      simp [df0] at ht
    · cases hs
end Dr
end Go.Proofs.YthpilennljpamaaGreat

namespace Go.Proofs.YthpilennljpamaaGreat
open Go.RowKit
set_option linter.unusedVariables false

section
variable {P : Program} {ops : Array Oper} {md : Region.Mode} {w : World} {l n : Nat}

theorem stt_of_still {o : Oper} {a : Act} {K : Act → Prop} {K' : Act → World → Prop} {Q' : Exit → Act → World → Prop} (ho : ∀ c, o.op ≠ .defer c) (h : ∀ a, K a → K' a w) (hh : o.still P a w K) : o.wpIn (Fence.wide.inRound l) n P a w K' Q' := by
  unfold Oper.wpIn
  refine ⟨fun f _ => trivial, ?_⟩
  rw [Oper.semAt_eq _ _ _ ho]
  unfold Oper.still at hh
  generalize (execOp a.eval o).run P w = r at *
  cases r with
  | ok nx w' =>
    cases nx <;> simp only [Oper.stillUpon] at hh
    case value v => obtain ⟨rfl, h1⟩ := hh; exact h _ h1
    case skip => obtain ⟨rfl, h1⟩ := hh; exact h _ h1
    case enter f args =>
      obtain ⟨rfl, v, hc, hn⟩ := hh
      refine ⟨fun h => (by cases h), ?_⟩
      refine CallsIn.inRound l ((callsIn_wide.2 hc).mono ?_)
      rintro e w'' ⟨rfl, rfl⟩
      exact h _ hn
  | halt x w' => simp only [Oper.stillUpon] at hh

theorem wpOpIn_of_stOp {i : Nat} {a : Act} {K : Act → Prop} {K' : Act → World → Prop} {Q' : Exit → Act → World → Prop} (ho : ∀ o, ops[i]? = some o → ∀ c, o.op ≠ .defer c) (h : ∀ a, K a → K' a w) (hh : stOp P ops w i K a) :
    wpOpIn (Fence.wide.inRound l) n P ops Q' i K' a w := by
  unfold stOp at hh
  unfold wpOpIn
  split
  · rename_i ho'
    simp only [ho'] at hh
    exact h _ hh
  · rename_i o ho'
    simp only [ho'] at hh
    split
    · rename_i hw
      simp only [hw, if_true] at hh
      exact stt_of_still (ho o ho') h hh
    · rename_i hw
      simp only [hw] at hh
      exact ⟨fun f _ => trivial, h _ hh⟩

theorem wpAnyIn_of_head {m g : Nat} {L : Array Bool → Act → Prop} {Q' : Exit → Act → World → Prop} (ho : ∀ (i : Nat) (o : Oper), ops[i]? = some o → ∀ c, o.op ≠ .defer c) (hL : ∀ listed a, L listed a → wpAnyIn (Fence.wide.inRound l) n P md ops Q' g listed a w) :
    ∀ (f : Nat) (listed : Array Bool) (a : Act), wpAnyL P md ops w m L f listed a → wpAnyIn (Fence.wide.inRound l) n P md ops Q' (f + g) listed a w
  | 0, listed, a, h => by rw [Nat.zero_add]; exact hL _ _ h
  | f + 1, listed, a, h => by
    rw [show f + 1 + g = (f + g) + 1 by omega]
    exact ⟨fun h0 => absurd h0 h.1, fun i hi => wpOpIn_of_stOp (ho i) (fun a' h' => wpAnyIn_of_head ho hL f _ a' h') (h.2 i hi).2⟩

theorem wpAnyIn_of_seq {F : Fence} {Q' : Exit → Act → World → Prop} : ∀ (l : List Oper) (k : Nat) (listed : Array Bool) (a : Act) (w : World), (∀ j, l[j]? = ops[k + j]?) →
    Region.seqB md ops l.length k listed = true → wpListIn F n P ops Q' l a w → wpAnyIn F n P md ops Q' l.length listed a w
  | [], _, _, _, _, _, hB, h => ⟨by simpa [Region.seqB] using hB, h⟩
  | o :: l, k, listed, a, w, hl, hB, h => by
    have h0 : ops[k]? = some o := by simpa using (hl 0).symm
    simp only [List.length_cons, Region.seqB, Bool.and_eq_true, decide_eq_true_eq] at hB
    refine ⟨fun h1 => (by rw [hB.1] at h1; cases h1), fun i hi => ?_⟩
    rw [hB.1] at hi
    have hik : i = k := by simpa using hi
    subst hik
    have hw : wpOpIn F n P ops Q' i (wpListIn F n P ops Q' l) a w := by unfold wpOpIn; simp only [h0]; exact h
    exact wpOpIn_mono (fun a' w' h' => wpAnyIn_of_seq l (i + 1) _ a' w' (fun j => by have := hl (j + 1); simpa [Nat.add_assoc, Nat.add_comm 1 j] using this) hB.2 h') hw

theorem stt_region {id : Nat} {Q : Exit → Act → World → Prop} {a : Act} {os : List Oper} (m : Nat) (hm : P.follows .mixedOrders = true) (hB : Region.lexTailB .any os.toArray m = true) (hd : noDefer os = true)
    (h : wpStill P os.toArray w.drew (fun a' => wpListIn (Fence.wide.inRound l) n P os.toArray Q (os.drop m) a' w.drew) (os.take m) a) : (Code.region id os.toArray true).wpIn (Fence.wide.inRound l) n P Q a w := by
  simp only [Region.lexTailB, Bool.and_eq_true, decide_eq_true_eq] at hB
  obtain ⟨⟨⟨⟨hsel, hn⟩, hs⟩, hc⟩, hlex⟩ := hB
  have hn' : m < os.length := by simpa using hn
  have htl : (os.take m).length = m := by simp; omega
  have hdl : (os.drop m).length = os.toArray.size - m := by simp
  have inv0 : HeadInv .any os.toArray m (Array.replicate os.toArray.size false) :=
    ⟨by simp, fun j oj _ hl => (by rw [getD_replicate_false] at hl; cases hl), fun t _ ht => getD_in (by simpa using ht) (getD_replicate_false _ _)⟩
  have H := wpAnyL_lex (md := .any) (g := os.toArray.size - m) hsel hs hc hn (os.take m) 0 _ a (fun j hj => by
    have hj' : j < m := by rw [htl] at hj; exact hj
    simp [hj']) (by simpa using htl) inv0 (by rw [htl]; exact hlex) h
  refine wpIn_region_any hm ?_
  have := wpAnyIn_of_head (l := l) (n := n) (Q' := Q) (g := os.toArray.size - m) (noDefer_out hd) (fun listed a' hL => by
    have := wpAnyIn_of_seq (F := Fence.wide.inRound l) (n := n) (md := .any) (Q' := Q) (os.drop m) m listed a' w.drew (fun j => by simp [List.getElem?_drop]) (by rw [hdl]; exact hL.1) hL.2
    rwa [hdl] at this) _ _ _ H
  rw [htl, show m + (os.toArray.size - m) = os.toArray.size by omega] at this
  exact this
end

end Go.Proofs.YthpilennljpamaaGreat

namespace Go.Proofs.YthpilennljpamaaGreat
set_option linter.unusedVariables false
set_option maxRecDepth 100000

namespace Pk
/-- The number at a place of a list. -/
def at' (t : List Int) (i : Nat) : Int := t.getD i 0

theorem at_set (t : List Int) (i k : Nat) (x : Int) (hi : i < t.length) : at' (t.set i x) k = if k = i then x else at' t k := by
  unfold at'
  by_cases h : k = i
  · subst h
    simp [List.getD, hi]
  · simp [List.getD, h, Ne.symm h]

theorem at_get {t : List Int} {i : Nat} (hi : i < t.length) : t[i]? = some (at' t i) := by
  simp [at', List.getD, hi]

def Ok (t : List Int) (m : Nat) : Prop := at' t m = max (at' t (2 * m)) (at' t (2 * m + 1))

/-- A tree whose lowest row has the numbers xs. -/
structure Is (t : List Int) (D : Nat) (xs : Nat → Int) : Prop where
  len : t.length = 2 * 2 ^ D
  ok : ∀ m, 1 ≤ m → m < 2 ^ D → Ok t m
  leaf : ∀ i, i < 2 ^ D → at' t (2 ^ D + i) = xs i

/-- What a node says of what lies below it. -/
theorem Is.le_iff {t : List Int} {D : Nat} {xs : Nat → Int} (h : Is t D xs) (a : Int) : ∀ k E j, E + k = D → j < 2 ^ E → (at' t (2 ^ E + j) ≤ a ↔ ∀ i, j * 2 ^ k ≤ i → i < (j + 1) * 2 ^ k → xs i ≤ a) := by
  intro k
  induction k with
  | zero =>
    intro E j hE hj
    have e : E = D := by omega
    subst e
    rw [h.leaf j hj]
    constructor
    · intro hle i h1 h2
      have : i = j := by simp at h1 h2; omega
      subst this
      exact hle
    · intro hall
      exact hall j (by simp) (by simp)
  | succ k ih =>
    intro E j hE hj
    have hp : 0 < 2 ^ E := Nat.pos_of_ne_zero (by simp)
    have hn : 2 ^ E + j < 2 ^ D := by
      have h1 : 2 ^ (E + 1) ≤ 2 ^ D := Nat.pow_le_pow_right (by decide) (by omega)
      rw [Nat.pow_succ] at h1
      omega
    have hok := h.ok (2 ^ E + j) (by omega) hn
    unfold Ok at hok
    have e1 : 2 * (2 ^ E + j) = 2 ^ (E + 1) + 2 * j := by rw [Nat.pow_succ]; omega
    have e2 : 2 * (2 ^ E + j) + 1 = 2 ^ (E + 1) + (2 * j + 1) := by rw [Nat.pow_succ]; omega
    rw [e2, e1] at hok
    have hj1 : 2 * j < 2 ^ (E + 1) := by rw [Nat.pow_succ]; omega
    have hj2 : 2 * j + 1 < 2 ^ (E + 1) := by rw [Nat.pow_succ]; omega
    have i1 := ih (E + 1) (2 * j) (by omega) hj1
    have i2 := ih (E + 1) (2 * j + 1) (by omega) hj2
    have m0 : j * 2 ^ (k + 1) = 2 * j * 2 ^ k := by rw [Nat.pow_succ, Nat.mul_comm (2 ^ k) 2, ← Nat.mul_assoc, Nat.mul_comm j 2]
    have m1 : (j + 1) * 2 ^ (k + 1) = (2 * j + 1 + 1) * 2 ^ k := by rw [Nat.pow_succ, Nat.mul_comm (2 ^ k) 2, ← Nat.mul_assoc]; congr 1; omega
    have m2 : 2 * j * 2 ^ k ≤ (2 * j + 1) * 2 ^ k := Nat.mul_le_mul_right _ (by omega)
    have m3 : (2 * j + 1) * 2 ^ k ≤ (2 * j + 1 + 1) * 2 ^ k := Nat.mul_le_mul_right _ (by omega)
    rw [m0, m1, hok]
    constructor
    · intro hle i h1 h2
      by_cases hc : i < (2 * j + 1) * 2 ^ k
      · exact i1.1 (by omega) i h1 hc
      · exact i2.1 (by omega) i (by omega) h2
    · intro hall
      have a1 := i1.2 fun i h1 h2 => hall i h1 (by omega)
      have a2 := i2.2 fun i h1 h2 => hall i (by omega) h2
      omega

/-- The first place from one on with a number above one. -/
structure Fst (xs : Nat → Int) (from' : Nat) (a : Int) (r : Nat) : Prop where
  ge : from' ≤ r
  gt : a < xs r
  le : ∀ i, from' ≤ i → i < r → xs i ≤ a

theorem Fst.one {xs : Nat → Int} {f : Nat} {a : Int} {r s : Nat} (h : Fst xs f a r) (k : Fst xs f a s) : r = s := by
  by_cases h1 : r < s
  · have := k.le r h.ge h1
    have := h.gt
    omega
  · by_cases h2 : s < r
    · have := h.le s k.ge h2
      have := k.gt
      omega
    · omega

/-- Where the search stands. -/
structure At (D : Nat) (xs : Nat → Int) (f P : Nat) (a : Int) (n E k j : Nat) : Prop where
  lev : E + k = D
  node : n = 2 ^ E + j
  lt : j < 2 ^ E
  ge : f ≤ j * 2 ^ k
  le : j * 2 ^ k ≤ P
  none : ∀ i, f ≤ i → i < j * 2 ^ k → xs i ≤ a

theorem At.start {D : Nat} {xs : Nat → Int} {f P : Nat} {a : Int} (hf : f ≤ P) (hP : P < 2 ^ D) : At D xs f P a (2 ^ D + f) D 0 f :=
  ⟨rfl, rfl, by omega, by simp, by simpa using hf, fun i h1 h2 => by simp at h2; omega⟩

theorem At.next {t : List Int} {D : Nat} {xs : Nat → Int} (h : Is t D xs) {f P : Nat} {a : Int} {n E k j : Nat} (hA : At D xs f P a n E k j) (hP : P < 2 ^ D) (hx : a < xs P) (hle : at' t n ≤ a) : At D xs f P a (n + 1) E k (j + 1) ∧ j * 2 ^ k < (j + 1) * 2 ^ k := by
  have hall := (h.le_iff a k E j hA.lev hA.lt).1 (by rw [← hA.node]; exact hle)
  have hp : 0 < 2 ^ k := Nat.pos_of_ne_zero (by simp)
  have e : (j + 1) * 2 ^ k = j * 2 ^ k + 2 ^ k := Nat.succ_mul _ _
  have hPn : (j + 1) * 2 ^ k ≤ P := by
    by_cases hc : (j + 1) * 2 ^ k ≤ P
    · exact hc
    · have := hall P hA.le (by omega)
      omega
  have hDk : 2 ^ D = 2 ^ E * 2 ^ k := by rw [← Nat.pow_add, hA.lev]
  have hj : j + 1 < 2 ^ E := by
    have : (j + 1) * 2 ^ k < 2 ^ E * 2 ^ k := by omega
    exact Nat.lt_of_mul_lt_mul_right this
  refine ⟨⟨hA.lev, by rw [hA.node]; omega, hj, by have := hA.ge; omega, hPn, fun i h1 h2 => ?_⟩, by omega⟩
  by_cases hc : i < j * 2 ^ k
  · exact hA.none i h1 hc
  · exact hall i (by omega) h2

theorem At.up {D : Nat} {xs : Nat → Int} {f P : Nat} {a : Int} {n E k j : Nat} (hA : At D xs f P a n E k j) (he : n % 2 = 0) : ∃ E' j', At D xs f P a (n / 2) E' (k + 1) j' ∧ j' * 2 ^ (k + 1) = j * 2 ^ k := by
  cases E with
  | zero =>
    have h1 := hA.lt
    have h2 := hA.node
    simp at h1 h2
    omega
  | succ E =>
    have h2 := hA.node
    have h1 := hA.lt
    rw [Nat.pow_succ] at h1 h2
    have hj : j = 2 * (j / 2) := by omega
    have m0 : j / 2 * 2 ^ (k + 1) = j * 2 ^ k := by
      rw [Nat.pow_succ, Nat.mul_comm (2 ^ k) 2, ← Nat.mul_assoc, Nat.mul_comm (j / 2) 2, ← hj]
    refine ⟨E, j / 2, ⟨by have := hA.lev; omega, by omega, by omega, by rw [m0]; exact hA.ge, by rw [m0]; exact hA.le, by rw [m0]; exact hA.none⟩, m0⟩

/-- One step down. -/
theorem At.down {t : List Int} {D : Nat} {xs : Nat → Int} (h : Is t D xs) {f P : Nat} {a : Int} {n E k j : Nat} (hA : At D xs f P a n E (k + 1) j) (hP : P < 2 ^ D) (hx : a < xs P) (hgt : a < at' t n) :
    (a < at' t (2 * n) → At D xs f P a (2 * n) (E + 1) k (2 * j)) ∧ (at' t (2 * n) ≤ a → At D xs f P a (2 * n + 1) (E + 1) k (2 * j + 1) ∧ a < at' t (2 * n + 1)) := by
  have m0 : 2 * j * 2 ^ k = j * 2 ^ (k + 1) := by rw [Nat.pow_succ, Nat.mul_comm (2 ^ k) 2, ← Nat.mul_assoc, Nat.mul_comm j 2]
  have hp : 0 < 2 ^ E := Nat.pos_of_ne_zero (by simp)
  have hlt := hA.lt
  have hn := hA.node
  have hnD : n < 2 ^ D := by
    have h1 : 2 ^ (E + 1) ≤ 2 ^ D := Nat.pow_le_pow_right (by decide) (by have := hA.lev; omega)
    rw [Nat.pow_succ] at h1
    omega
  have hok := h.ok n (by omega) hnD
  unfold Ok at hok
  have base : At D xs f P a (2 * n) (E + 1) k (2 * j) := ⟨by have := hA.lev; omega, by rw [Nat.pow_succ]; omega, by rw [Nat.pow_succ]; omega, by rw [m0]; exact hA.ge, by rw [m0]; exact hA.le, by rw [m0]; exact hA.none⟩
  refine ⟨fun _ => base, fun hle => ?_⟩
  refine ⟨(base.next h hP hx hle).1, by omega⟩

theorem At.done {D : Nat} {xs : Nat → Int} {t : List Int} (h : Is t D xs) {f P : Nat} {a : Int} {n E k j : Nat} (hA : At D xs f P a n E k j) (hn : 2 ^ D ≤ n) (hgt : a < at' t n) : k = 0 ∧ n = 2 ^ D + j ∧ Fst xs f a j ∧ j ≤ P := by
  have hk : k = 0 := by
    cases k with
    | zero => rfl
    | succ k =>
      have h1 : 2 ^ (E + 1) ≤ 2 ^ D := Nat.pow_le_pow_right (by decide) (by have := hA.lev; omega)
      rw [Nat.pow_succ] at h1
      have := hA.lt
      have := hA.node
      omega
  subst hk
  have hE : E = D := by have := hA.lev; omega
  subst hE
  have h1 := hA.ge
  have h2 := hA.le
  have h3 := hA.none
  simp only [Nat.pow_zero, Nat.mul_one] at h1 h2 h3
  refine ⟨rfl, hA.node, ⟨h1, ?_, h3⟩, h2⟩
  rw [← h.leaf j hA.lt, ← hA.node]
  exact hgt

theorem At.small {D : Nat} {xs : Nat → Int} {f P : Nat} {a : Int} {n E k j : Nat} (hA : At D xs f P a n E k j) : 1 ≤ n ∧ n < 2 * 2 ^ D := by
  have hp : 0 < 2 ^ E := Nat.pos_of_ne_zero (by simp)
  have h1 : 2 ^ E ≤ 2 ^ D := Nat.pow_le_pow_right (by decide) (by have := hA.lev; omega)
  have := hA.lt
  have := hA.node
  omega

/-- One number changed. -/
def upd (xs : Nat → Int) (i : Nat) (x : Int) : Nat → Int := fun k => if k = i then x else xs k

/-- A tree whose nodes above n are still to be reckoned. -/
structure Half (t : List Int) (D : Nat) (xs : Nat → Int) (n : Nat) : Prop where
  len : t.length = 2 * 2 ^ D
  ge : 1 ≤ n
  lt : n < 2 * 2 ^ D
  ok : ∀ m, 1 ≤ m → m < 2 ^ D → (∀ j, n / 2 ^ (j + 1) ≠ m) → Ok t m
  leaf : ∀ i, i < 2 ^ D → at' t (2 ^ D + i) = xs i

theorem Half.start {t : List Int} {D : Nat} {xs : Nat → Int} (h : Is t D xs) {i : Nat} (hi : i < 2 ^ D) (x : Int) : Half (t.set (2 ^ D + i) x) D (upd xs i x) (2 ^ D + i) := by
  have hl : 2 ^ D + i < t.length := by rw [h.len]; omega
  refine ⟨by rw [List.length_set]; exact h.len, by have : 0 < 2 ^ D := Nat.pos_of_ne_zero (by simp); omega, by omega, fun m h1 h2 hm => ?_, fun q hq => ?_⟩
  · have hne : 2 * m ≠ 2 ^ D + i ∧ 2 * m + 1 ≠ 2 ^ D + i := by
      have := hm 0
      simp only [Nat.zero_add, Nat.pow_one] at this
      omega
    unfold Ok
    rw [at_set _ _ _ _ hl, at_set _ _ _ _ hl, at_set _ _ _ _ hl, if_neg (by omega), if_neg hne.1, if_neg hne.2]
    exact h.ok m h1 h2
  · rw [at_set _ _ _ _ hl]
    unfold upd
    by_cases hc : q = i
    · subst hc; simp
    · rw [if_neg (by omega), if_neg hc]
      exact h.leaf q hq

theorem Half.step {t : List Int} {D : Nat} {xs : Nat → Int} {n : Nat} (h : Half t D xs n) (hn : 1 < n) : Half (t.set (n / 2) (max (at' t (2 * (n / 2))) (at' t (2 * (n / 2) + 1)))) D xs (n / 2) := by
  have hlt := h.lt
  have hl : n / 2 < t.length := by rw [h.len]; omega
  refine ⟨by rw [List.length_set]; exact h.len, by omega, by omega, fun m h1 h2 hm => ?_, fun q hq => ?_⟩
  · have hne : 2 * m ≠ n / 2 ∧ 2 * m + 1 ≠ n / 2 := by
      have := hm 0
      simp only [Nat.zero_add, Nat.pow_one] at this
      omega
    unfold Ok
    rw [at_set _ _ _ _ hl, at_set _ _ _ _ hl, at_set _ _ _ _ hl, if_neg hne.1, if_neg hne.2]
    by_cases hc : m = n / 2
    · rw [if_pos hc, hc]
    · rw [if_neg hc]
      refine h.ok m h1 h2 fun j => ?_
      cases j with
      | zero => simp only [Nat.zero_add, Nat.pow_one]; omega
      | succ j =>
        have := hm j
        rw [Nat.div_div_eq_div_mul] at this
        rw [Nat.pow_succ 2 (j + 1), Nat.mul_comm]
        exact this
  · rw [at_set _ _ _ _ hl, if_neg (by omega)]
    exact h.leaf q hq

theorem Half.done {t : List Int} {D : Nat} {xs : Nat → Int} (h : Half t D xs 1) : Is t D xs :=
  ⟨h.len, fun m h1 h2 => h.ok m h1 h2 fun j => by
    have : 1 / 2 ^ (j + 1) = 0 := Nat.div_eq_of_lt (Nat.one_lt_two_pow (by omega))
    omega, h.leaf⟩

theorem Is.zero (D : Nat) : Is (List.replicate (2 * 2 ^ D) 0) D fun _ => 0 := by
  have h0 : ∀ i, at' (List.replicate (2 * 2 ^ D) 0) i = 0 := by
    intro i
    unfold at'
    rw [List.getD_eq_getElem?_getD, List.getElem?_replicate]
    split <;> rfl
  refine ⟨by simp, fun m _ _ => ?_, fun i _ => h0 _⟩
  unfold Ok
  rw [h0, h0, h0]
  rfl
end Pk
end Go.Proofs.YthpilennljpamaaGreat

namespace Go.Proofs.YthpilennljpamaaGreat
open Go.RowKit
set_option linter.unusedVariables false
set_option maxRecDepth 100000

/-- Numbers as cells. -/
def ints (l : List Int) : List Value := l.map (Value.int .i64)

theorem ints_length (l : List Int) : (ints l).length = l.length := by simp [ints]

/-- A row of numbers in memory. -/
def Ir (w : World) (base : Nat) (v : Value) (l : List Int) : Prop := w.ownsRow base 3 1 v l.length (ints l)

theorem tn_grown {W W' : World} {row : Option Nat} (hg : W.grownBy W' row) : Tn row.toList W W' :=
  ⟨hg.os, hg.tape, hg.output, hg.size, fun k hk hn => hg.block k hk (fun e => hn (by rw [← e]; simp))⟩

theorem row_tn {S : List Nat} {w w' : World} {base size n : Nat} {e : TypeId} {v : Value} {xs : List Value} (h : w.ownsRow base e size v n xs) (ht : Tn S w w') (hn : ∀ k, v.ownBlock = some k → k ∉ S) : w'.ownsRow base e size v n xs := by
  refine ⟨h.1, ?_⟩
  rcases h.2 with hv | ⟨g, cap, cur, rfl, hb, hgg, rest⟩
  · exact .inl hv
  · exact .inr ⟨g, cap, cur, rfl, hb, (ht.block g (Array.getElem?_eq_some_iff.1 hgg).1 (hn g rfl)).trans hgg, rest⟩

theorem Ir.cell {w : World} {base g c : Nat} {l : List Int} {n : Nat} (hn : l.length = n) (h : Ir w base (.slice (some ⟨g, 0, none⟩) n c) l) (i : Nat) (hi : i < n) : w.cell? ⟨g, i, none⟩ = some (.int .i64 (Pk.at' l i)) := by
  subst hn
  have := World.ownsRow.cellAt h i (by omega)
  rw [this]
  simp [ints, Pk.at', List.getD, hi]

theorem Ir.frozen {w : World} {base g c n : Nat} {l : List Int} (hn : l.length = n) (h : Ir w base (.slice (some ⟨g, 0, none⟩) n c) l) (i : Nat) : w.frozen? ⟨g, i, none⟩ = false := by
  subst hn
  exact World.ownsRow.frozenAt h i

theorem Ir.set {w : World} {base g c n : Nat} {l : List Int} (hn : l.length = n) (h : Ir w base (.slice (some ⟨g, 0, none⟩) n c) l) (i : Nat) (x : Int) : Ir (w.setCell ⟨g, i, none⟩ (.int .i64 x)) base (.slice (some ⟨g, 0, none⟩) n c) (l.set i x) ∧ Tn [g] w (w.setCell ⟨g, i, none⟩ (.int .i64 x)) := by
  subst hn
  have := World.ownsRow.stored h i (.int .i64 x)
  refine ⟨?_, tn_grown this.2⟩
  have h1 := this.1
  unfold Ir
  rw [show ints (l.set i x) = (ints l).set i (.int .i64 x) by simp [ints, List.map_set], List.length_set]
  exact h1

theorem Ir.tn {S : List Nat} {w w' : World} {base : Nat} {v : Value} {l : List Int} (h : Ir w base v l) (ht : Tn S w w') (hn : ∀ k, v.ownBlock = some k → k ∉ S) : Ir w' base v l := row_tn h ht hn

theorem half_any (p : Option Addr) (n H c : Nat) (w : World) (hn : n = 2 * H) (hb : n ≤ 35184372088832) :
    Calls Tryz.prog 123 #[.slice p n c] w fun e w' => e = .returned (.int .i64 (H : Int)) ∧ w' = w := by
  have hh : (n : Int).tdiv 2 = (H : Int) := by
    rw [hn]
    have : ((2 * H : Nat) : Int) = (H : Int) * 2 := by omega
    rw [this]
    exact Int.mul_tdiv_cancel _ (by decide)
  have hHb : H ≤ 17592186044416 := by omega
  clear hn
  go_enter Tryz.func123, Tryz.ntmps123
  go_wp2
  go_ret
  exact ⟨rfl, rfl⟩

theorem half_div (n : Nat) : (n : Int).tdiv 2 = ((n / 2 : Nat) : Int) := by rfl

set_option maxHeartbeats 2000000 in
theorem pset_any {w : World} {base g c n : Nat} {t : List Int} {D : Nat} {xs : Nat → Int} (h : Ir w base (.slice (some ⟨g, 0, none⟩) n c) t) (hn : t.length = n) (hI : Pk.Is t D xs) (hb : n ≤ 35184372088832) (i : Nat) (hi : i < 2 ^ D) (x : Int) :
    Calls Tryz.prog 98 #[.slice (some ⟨g, 0, none⟩) n c, .int .i64 (i : Int), .int .i64 x] w fun e w' => e = .returned (.tuple #[]) ∧ ∃ t', Ir w' base (.slice (some ⟨g, 0, none⟩) n c) t' ∧ t'.length = n ∧ Pk.Is t' D (Pk.upd xs i x) ∧ Tn [g] w w' := by
  have hl := hI.len
  have HX := Pk.Half.start hI hi x
  obtain ⟨H, hH⟩ : ∃ H, 2 ^ D = H := ⟨_, rfl⟩
  rw [hH] at hl HX hi
  have hn2 : n = 2 * H := by omega
  have f0 : w.frozen? ⟨g, H + i, none⟩ = false := h.frozen hn _
  have c0 := h.cell hn (H + i) (by omega)
  have hset := h.set hn (H + i) x
  obtain ⟨w1, hw1⟩ : ∃ w1, w.setCell ⟨g, H + i, none⟩ (.int .i64 x) = w1 := ⟨_, rfl⟩
  rw [hw1] at hset
  have HS : Hid (∃ t', Ir w1 base (.slice (some ⟨g, 0, none⟩) n c) t' ∧ t'.length = n ∧ Pk.Half t' D (Pk.upd xs i x) (H + i) ∧ Tn [g] w w1) := ⟨_, hset.1, by simpa using hn, HX, hset.2⟩
  have HN : Hid (n = 2 * H) := hn2
  have HD : Hid (2 ^ D = H) := hH
  have hhn : ((H : Int) + (i : Int)) < (n : Int) := by omega
  have hh0 : (0 : Int) ≤ ((H : Int) + (i : Int)) := by omega
  have hto : ((H : Int) + (i : Int)).toNat = H + i := by omega
  have hHb : H ≤ 17592186044416 := by omega
  have hib : i ≤ 17592186044416 := by omega
  clear hset HX hI hn h hH hl hn2
  generalize Pk.at' t (H + i) = y0 at *
  go_enter Tryz.func98, Tryz.ntmps98
  go_wp2_with fail
  refine (half_any _ n H c w HN.out hb).mono ?_
  rintro e w' ⟨rfl, rfl⟩
  go_wp2_with fail
  go_loopw [6] (fun jv wr => ∃ k : Nat, jv = .int .i64 (k : Int) ∧ Hid (∃ t', Ir wr base (.slice (some ⟨g, 0, none⟩) n c) t' ∧ t'.length = n ∧ Pk.Half t' D (Pk.upd xs i x) k ∧ Tn [g] w' wr)) (fun jv _ => (intOf jv).toNat)
  case atStart => exact ⟨H + i, by go_num, HS⟩
  case round =>
    obtain ⟨k, rfl, HW⟩ := hrel
    clear HS hw1 c0 f0
    obtain ⟨t', h1, hl1, hX, ht⟩ := HW.out
    have hk1 := hX.ge
    have hk2 := hX.lt
    rw [HD.out, ← HN.out] at hk2
    by_cases h0 : k = 1
    · subst h0
      have HE : Hid (Pk.Is t' D (Pk.upd xs i x)) := hX.done
      have HG : Hid (Ir wr base (.slice (some ⟨g, 0, none⟩) n c) t' ∧ t'.length = n ∧ Tn [g] w' wr) := ⟨h1, hl1, ht⟩
      clear h1 hl1 ht hX HW
      go_wp2
      go_end0
      exact ⟨rfl, t', HG.out.1, HG.out.2.1, HE.out, HG.out.2.2⟩
    · have hk3 : (1 : Int) < (k : Int) := by omega
      have hs := hX.step (by omega)
      obtain ⟨p, hp⟩ : ∃ p : Nat, k / 2 = p := ⟨_, rfl⟩
      have hdiv : (k : Int).tdiv 2 = (p : Int) := by rw [half_div, hp]
      have hpk : p < k := by omega
      have hp1 : 1 ≤ p := by omega
      have hp2 : 2 * p + 1 < n := by have := HN.out; omega
      rw [hp] at hs
      have c1 := h1.cell hl1 (2 * p) (by omega)
      have c2 := h1.cell hl1 (2 * p + 1) (by omega)
      have c3 := h1.cell hl1 p (by omega)
      have f3 : wr.frozen? ⟨g, p, none⟩ = false := h1.frozen hl1 p
      have h2 := h1.set hl1 p (max (Pk.at' t' (2 * p)) (Pk.at' t' (2 * p + 1)))
      obtain ⟨a, ha⟩ : ∃ a, Pk.at' t' (2 * p) = a := ⟨_, rfl⟩
      obtain ⟨b, hb'⟩ : ∃ b, Pk.at' t' (2 * p + 1) = b := ⟨_, rfl⟩
      obtain ⟨m, hm⟩ : ∃ m, max a b = m := ⟨_, rfl⟩
      rw [ha, hb', hm] at hs h2
      rw [ha] at c1
      rw [hb'] at c2
      obtain ⟨w2, hw2⟩ : ∃ w2, wr.setCell ⟨g, p, none⟩ (.int .i64 m) = w2 := ⟨_, rfl⟩
      rw [hw2] at h2
      have HS2 : Hid (∃ t', Ir w2.drew base (.slice (some ⟨g, 0, none⟩) n c) t' ∧ t'.length = n ∧ Pk.Half t' D (Pk.upd xs i x) p ∧ Tn [g] w' w2.drew) := ⟨_, World.ownsRow.drew h2.1, by simpa using hl1, hs, (ht.trans h2.2 (fun x hx => .inl hx)).drew⟩
      have hpn : (p : Int) < (n : Int) := by omega
      have hp0 : (0 : Int) ≤ (p : Int) := by omega
      have hq0 : (0 : Int) ≤ 2 * (p : Int) := by omega
      have hqn : 2 * (p : Int) < (n : Int) := by omega
      have hr0 : (0 : Int) ≤ 2 * (p : Int) + 1 := by omega
      have hrn : 2 * (p : Int) + 1 < (n : Int) := by omega
      have t1 : (2 * (p : Int)).toNat = 2 * p := by omega
      have t2 : (2 * (p : Int) + 1).toNat = 2 * p + 1 := by omega
      clear h1 h2 hl1 ht hX HW hs ha hb' hp
      generalize Pk.at' t' p = y at *
      have hmx : (if b > a then b else a) = m := by rw [← hm]; split <;> omega
      have hmy : max a b = m := by rw [← hmx]; split <;> omega
      clear hm
      go_wp2_with fail
      go_region
      go_wp2
      exact ⟨⟨p, rfl, HS2⟩, by simp [intOf]; omega⟩

theorem pat_any {w : World} {base g c n : Nat} {t : List Int} {D : Nat} {xs : Nat → Int} (h : Ir w base (.slice (some ⟨g, 0, none⟩) n c) t) (hn : t.length = n) (hI : Pk.Is t D xs) (hb : n ≤ 35184372088832) (i : Nat) (hi : i < 2 ^ D) :
    Calls Tryz.prog 100 #[.slice (some ⟨g, 0, none⟩) n c, .int .i64 (i : Int)] w fun e w' => e = .returned (.int .i64 (xs i)) ∧ w' = w := by
  have hl := hI.len
  have hx := hI.leaf i hi
  obtain ⟨H, hH⟩ : ∃ H, 2 ^ D = H := ⟨_, rfl⟩
  rw [hH] at hl hx hi
  have c0 := h.cell hn (H + i) (by omega)
  rw [hx] at c0
  have HN : Hid (n = 2 * H) := by rw [Hid]; omega
  have hhn : ((H : Int) + (i : Int)) < (n : Int) := by omega
  have hh0 : (0 : Int) ≤ ((H : Int) + (i : Int)) := by omega
  have hto : ((H : Int) + (i : Int)).toNat = H + i := by omega
  have hHb : H ≤ 17592186044416 := by omega
  have hib : i ≤ 17592186044416 := by omega
  generalize xs i = y at *
  clear h hI hx hn hl hH
  go_enter Tryz.func100, Tryz.ntmps100
  go_wp2_with fail
  refine (half_any _ n H c w HN.out hb).mono ?_
  rintro e w' ⟨rfl, rfl⟩
  go_wp2
  go_ret
  exact ⟨rfl, rfl⟩

set_option maxHeartbeats 2000000 in
theorem pfirst_any {w : World} {base g c n : Nat} {t : List Int} {D : Nat} {xs : Nat → Int} (h : Ir w base (.slice (some ⟨g, 0, none⟩) n c) t) (hn : t.length = n) (hI : Pk.Is t D xs) (hb : n ≤ 35184372088832) (f P : Nat) (a : Int) (hf : f ≤ P) (hP : P < 2 ^ D) (hx : a < xs P) :
    Calls Tryz.prog 103 #[.slice (some ⟨g, 0, none⟩) n c, .int .i64 (f : Int), .int .i64 a] w fun e w' => (∃ r : Nat, e = .returned (.int .i64 (r : Int)) ∧ Pk.Fst xs f a r ∧ r ≤ P) ∧ w' = w := by
  have hl := hI.len
  have HA : Hid (∃ E k j, Pk.At D xs f P a (2 ^ D + f) E k j ∧ P - j * 2 ^ k ≤ P) := ⟨_, _, _, Pk.At.start hf hP, by omega⟩
  obtain ⟨H, hH⟩ : ∃ H, 2 ^ D = H := ⟨_, rfl⟩
  rw [hH] at hl HA hP
  have HC : Hid (∀ m, m < n → w.cell? ⟨g, m, none⟩ = some (.int .i64 (Pk.at' t m))) := fun m hm => h.cell hn m hm
  have HN : Hid (n = 2 * H) := by rw [Hid]; omega
  have HD : Hid (2 ^ D = H) := hH
  have HI : Hid (Pk.Is t D xs) := hI
  have HP : Hid (P < 2 ^ D) := by rw [Hid, hH]; exact hP
  have HX : Hid (a < xs P) := hx
  have hfb : f ≤ 17592186044416 := by omega
  have hHb : H ≤ 17592186044416 := by omega
  clear h hI hn hl hH hx
  go_enter Tryz.func103, Tryz.ntmps103
  go_wp2_with fail
  refine (half_any _ n H c w HN.out hb).mono ?_
  rintro e w' ⟨rfl, rfl⟩
  go_wp2_with fail
  go_loopg [7] P (fun gh nv wr => ∃ m : Nat, nv = .int .i64 (m : Int) ∧ wr = w' ∧ Hid (∃ E k j, Pk.At D xs f P a m E k j ∧ P - j * 2 ^ k ≤ gh))
  case atStart => exact ⟨H + f, by go_num, rfl, HA⟩
  case round =>
    obtain ⟨m, rfl, rfl, HW⟩ := hrel
    obtain ⟨E, k, j, hA, hg⟩ := HW.out
    have hm1 := hA.small
    rw [HD.out, ← HN.out] at hm1
    obtain ⟨hm1, hm2⟩ := hm1
    have c0 := HC.out m hm2
    have hmn : (m : Int) < (n : Int) := by omega
    have hm0 : (0 : Int) ≤ (m : Int) := by omega
    by_cases hle : Pk.at' t m ≤ a
    · have hnx := hA.next HI.out HP.out HX.out hle
      have hpos : j * 2 ^ k < P := by
        have := hnx.1.le
        omega
      have HB : Hid (∃ E k j, Pk.At D xs f P a (m + 1) E k j ∧ P - j * 2 ^ k < gk) := ⟨E, k, j + 1, hnx.1, by have := hnx.2; omega⟩
      generalize Pk.at' t m = y at *
      clear hA hnx hpos HW
      go_wp2_with fail
      go_loopw [7] (fun nv wx => ∃ q : Nat, nv = .int .i64 (q : Int) ∧ wx = wr ∧ Hid (∃ E k j, Pk.At D xs f P a q E k j ∧ P - j * 2 ^ k < gk)) (fun nv _ => (intOf nv).toNat)
      case atStart => exact ⟨m + 1, by go_num, rfl, HB⟩
      case round =>
        obtain ⟨q, rfl, rfl, HV⟩ := hrel
        obtain ⟨E, k, j, hA, hg2⟩ := HV.out
        have hq1 := hA.small
        rw [HD.out, ← HN.out] at hq1
        obtain ⟨hq1, hq2⟩ := hq1
        by_cases he : q % 2 = 0
        · have hr : (q : Int).tmod 2 = 0 := by
            have : (q : Int).tmod 2 = ((q % 2 : Nat) : Int) := rfl
            rw [this, he]; rfl
          obtain ⟨E', j', hA', e'⟩ := hA.up he
          obtain ⟨p, hp⟩ : ∃ p : Nat, q / 2 = p := ⟨_, rfl⟩
          have hdiv : (q : Int).tdiv 2 = (p : Int) := by rw [half_div, hp]
          have hpq : p < q := by omega
          have HV2 : Hid (∃ E k j, Pk.At D xs f P a p E k j ∧ P - j * 2 ^ k < gk) := ⟨_, _, _, by rw [← hp]; exact hA', by rw [e']; exact hg2⟩
          clear hA hA' hp HV
          go_wp2
          exact ⟨⟨p, rfl, trivial, HV2⟩, by simp [intOf]; omega⟩
        · have hr : (q : Int).tmod 2 = 1 := by
            have : (q : Int).tmod 2 = ((q % 2 : Nat) : Int) := rfl
            rw [this, show q % 2 = 1 by omega]; rfl
          clear hA
          go_wp2
          go_roundg (gk - 1)
          case rel => exact ⟨q, rfl, rfl, by obtain ⟨E, k, j, h1, h2⟩ := HV.out; exact ⟨E, k, j, h1, by omega⟩⟩
          case measure => omega
    · have HB : Hid (∃ E k j, Pk.At D xs f P a m E k j ∧ a < Pk.at' t m) := ⟨E, k, j, hA, by omega⟩
      have hlt : ¬ Pk.at' t m ≤ a := hle
      obtain ⟨y, hy⟩ : ∃ y, Pk.at' t m = y := ⟨_, rfl⟩
      rw [hy] at c0 hlt
      clear hA HW hy hle
      go_wp2_with fail
      go_loopw [7] (fun nv wx => ∃ q : Nat, nv = .int .i64 (q : Int) ∧ wx = wr ∧ Hid (∃ E k j, Pk.At D xs f P a q E k j ∧ a < Pk.at' t q)) (fun nv _ => n - (intOf nv).toNat)
      case atStart => exact ⟨m, rfl, rfl, by rw [Hid]; exact HB.out⟩
      case round =>
        obtain ⟨q, rfl, rfl, HV⟩ := hrel
        obtain ⟨E, k, j, hA, hg2⟩ := HV.out
        have hq1 := hA.small
        rw [HD.out, ← HN.out] at hq1
        obtain ⟨hq1, hq2⟩ := hq1
        clear c0
        go_wp2_with fail
        refine (half_any _ n H c wr HN.out hb).mono ?_
        rintro e w' ⟨rfl, rfl⟩
        by_cases he : q < H
        · have hqH : (q : Int) < (H : Int) := by omega
          have hn2 := HN.out
          have c1 := HC.out (2 * q) (by omega)
          have hk : ∃ k', k = k' + 1 := by
            cases k with
            | zero =>
              have h1 := hA.node
              have h2 := hA.lev
              simp only [Nat.add_zero] at h2
              rw [h2, HD.out] at h1
              omega
            | succ k => exact ⟨k, rfl⟩
          obtain ⟨k, rfl⟩ := hk
          obtain ⟨d1, d2⟩ := hA.down HI.out HP.out HX.out hg2
          have hq0 : (0 : Int) ≤ (q : Int) * 2 := by omega
          have hqn : (q : Int) * 2 < (n : Int) := by omega
          have t1 : ((q : Int) * 2).toNat = 2 * q := by omega
          by_cases hc : Pk.at' t (2 * q) ≤ a
          · have HV2 : Hid (∃ E k j, Pk.At D xs f P a (2 * q + 1) E k j ∧ a < Pk.at' t (2 * q + 1)) := ⟨_, _, _, d2 hc⟩
            generalize Pk.at' t (2 * q) = z at *
            clear hA d1 d2 HV hg2 hn2
            go_wp2
            exact ⟨⟨2 * q + 1, by go_num, trivial, HV2⟩, by simp [intOf]; omega⟩
          · have HV2 : Hid (∃ E k j, Pk.At D xs f P a (2 * q) E k j ∧ a < Pk.at' t (2 * q)) := ⟨_, _, _, d1 (by omega), by omega⟩
            obtain ⟨z, hz⟩ : ∃ z, Pk.at' t (2 * q) = z := ⟨_, rfl⟩
            rw [hz] at hc c1
            clear hA d1 d2 HV hg2 hn2 hz
            go_wp2
            exact ⟨⟨2 * q, by go_num, trivial, HV2⟩, by simp [intOf]; omega⟩
        · have hqH : ¬ (q : Int) < (H : Int) := by omega
          obtain ⟨rfl, hqe, hF, hjP⟩ := hA.done HI.out (by rw [HD.out]; omega) hg2
          rw [HD.out] at hqe
          have HF : Hid (Pk.Fst xs f a j ∧ j ≤ P) := ⟨hF, hjP⟩
          have hsub : (q : Int) - (H : Int) = (j : Int) := by omega
          have hjb : j ≤ 17592186044416 := by omega
          clear hA hF HV hg2
          go_wp2_with fail
          refine (half_any _ n H c w' HN.out hb).mono ?_
          rintro e w2 ⟨rfl, rfl⟩
          go_wp2
          go_ret
          exact ⟨⟨j, ret_int (by omega), HF.out.1, HF.out.2⟩, rfl⟩
end Go.Proofs.YthpilennljpamaaGreat

namespace Go.Proofs.YthpilennljpamaaGreat
open Go.RowKit
set_option linter.unusedVariables false
set_option maxRecDepth 100000

theorem intinfoD : (Tryz.prog.info? 3).map (fun i => (i.zero, i.size, i.bytes)) = some (some (.int .i64 0), 1, 8) := by kernel_rfl

theorem made_ints (n : Nat) : (madeCells (Value.int .i64 0).cells (n * 1)).toList = ints (List.replicate n 0) := by
  rw [Nat.mul_one]
  have := toList_madeCells_one (Value.int .i64 0) n
  rw [show (Value.int .i64 0).cells = #[Value.int .i64 0] from rfl, this]
  simp [ints]

theorem make_ints (t : TypeId) (ht : Tryz.prog.underlying t = some (.slice 3)) (n : Nat) (hb : n ≤ 35184372088832) (w : World) :
    ∃ w1, (Instr.makeSlice t (.int .i64 (n : Int)) (.int .i64 (n : Int))).run Tryz.prog w = .ok (.slice (some ⟨w.heap.size, 0, none⟩) n n) w1 ∧ Ir w1 w.heap.size (.slice (some ⟨w.heap.size, 0, none⟩) n n) (List.replicate n 0) ∧ Below w.heap.size w w1 := by
  obtain ⟨i0, hi, hz0, hz1, hz2⟩ := info_parts intinfoD
  obtain ⟨w1, h1, h2, h3⟩ := run_make_full (P := Tryz.prog) w w.heap.size t 3 i0 (.int .i64 0) 1 ht hi hz0 hz1 .i64 .i64 n (by rw [hz2]; omega) (by unfold maxLen; omega) (Nat.le_refl _)
  refine ⟨w1, h1, ?_, ⟨h3.os, h3.tape, h3.output, h3.size, fun k hk => h3.block k hk (by simp)⟩⟩
  unfold Ir
  rw [List.length_replicate, ← made_ints]
  exact h2

set_option maxHeartbeats 2000000 in
theorem newPeaks_any (P : Nat) (hP : P ≤ 8796093022207) (w : World) :
    Calls Tryz.prog 97 #[.int .i64 (P : Int)] w fun e w' => ∃ n t D, e = .returned (.slice (some ⟨w.heap.size, 0, none⟩) n n) ∧ Ir w' w.heap.size (.slice (some ⟨w.heap.size, 0, none⟩) n n) t ∧ t.length = n ∧ Pk.Is t D (Pk.upd (fun _ => 0) P 9223372036854775807) ∧ P < 2 ^ D ∧ n ≤ 35184372088832 ∧ Below w.heap.size w w' := by
  go_enter Tryz.func97, Tryz.ntmps97
  go_wp2_with fail
  go_loopw [3] (fun nv wx => ∃ q : Nat, nv = .int .i64 (q : Int) ∧ wx = w ∧ Hid (∃ D, q = 2 ^ D) ∧ 1 ≤ q ∧ q ≤ 2 * P + 1) (fun nv _ => 2 * P + 2 - (intOf nv).toNat)
  case atStart => exact ⟨1, rfl, rfl, ⟨0, rfl⟩, by omega, by omega⟩
  case round =>
    obtain ⟨q, rfl, rfl, HQ, h1, h2⟩ := hrel
    by_cases hle : q ≤ P
    · have hli : (q : Int) ≤ (P : Int) := by omega
      have HQ2 : Hid (∃ D, 2 * q = 2 ^ D) := by
        obtain ⟨D, hD⟩ := HQ.out
        exact ⟨D + 1, by rw [Nat.pow_succ, hD]; omega⟩
      go_wp2
      exact ⟨⟨2 * q, by go_num, trivial, HQ2, by omega, by omega⟩, by simp [intOf]; omega⟩
    · have hli : ¬ (q : Int) ≤ (P : Int) := by omega
      obtain ⟨n, hn⟩ : ∃ n : Nat, 2 * q = n := ⟨_, rfl⟩
      have hqn : 2 * (q : Int) = (n : Int) := by omega
      have hnb : n ≤ 35184372088832 := by omega
      obtain ⟨w1, hmk, hI, hB⟩ := make_ints 116 Tryz.underlying116 n hnb wr
      obtain ⟨D, hD⟩ := HQ.out
      have HI : Hid (Ir w1 wr.heap.size (.slice (some ⟨wr.heap.size, 0, none⟩) n n) (List.replicate n 0) ∧ Pk.Is (List.replicate n 0) D (fun _ => 0) ∧ P < 2 ^ D ∧ Below wr.heap.size wr w1) := ⟨hI, by rw [← hn, hD]; exact Pk.Is.zero D, by rw [← hD]; omega, hB⟩
      clear hI hB hD HQ
      go_wp2_with fail
      refine (pset_any HI.out.1 (by simp) HI.out.2.1 hnb P HI.out.2.2.1 9223372036854775807).mono ?_
      rintro e w2 ⟨rfl, t', h1', h2', h3', h4'⟩
      have HE : Hid (Ir w2 wr.heap.size (.slice (some ⟨wr.heap.size, 0, none⟩) n n) t' ∧ t'.length = n ∧ Pk.Is t' D (Pk.upd (fun _ => 0) P 9223372036854775807) ∧ Below wr.heap.size wr w2) := ⟨h1', h2', h3', HI.out.2.2.2.trans (h4'.below HI.out.2.2.2.size (by simp))⟩
      clear h1' h2' h3' h4'
      go_wp2
      go_ret
      exact ⟨n, t', D, rfl, HE.out.1, HE.out.2.1, HE.out.2.2.1, HI.out.2.2.1, hnb, HE.out.2.2.2⟩
end Go.Proofs.YthpilennljpamaaGreat

namespace Go.Proofs.YthpilennljpamaaGreat
open Go.RowKit
set_option linter.unusedVariables false
set_option maxRecDepth 100000

/-- A row beside others. -/
structure Rs where
  t : TypeId
  sz : Nat
  v : Value
  n : Nat
  xs : List Value

/-- A block and rows, apart from each other. -/
structure Cl (w : World) (base B : Nat) (T : TypeId) (vals : Array Value) (rows : List Rs) : Prop where
  blk : Bk w B T vals
  ge : base ≤ B
  row : ∀ (i : Nat) r, rows[i]? = some r → w.ownsRow base r.t r.sz r.v r.n r.xs
  ne : ∀ (i : Nat) r, rows[i]? = some r → r.v.ownBlock ≠ some B
  apart : ∀ (i j : Nat) r q k, rows[i]? = some r → rows[j]? = some q → r.v.ownBlock = some k → q.v.ownBlock = some k → i = j

theorem Cl.turn {w w' : World} {base B : Nat} {T : TypeId} {vals : Array Value} {rows : List Rs} (h : Cl w base B T vals rows) {i : Nat} {r : Rs} {g : Nat} {xs' : List Value} (hi : rows[i]? = some r) (hg : r.v.ownBlock = some g) (ht : Tn [g] w w') (ho : w'.ownsRow base r.t r.sz r.v r.n xs') : Cl w' base B T vals (rows.set i { r with xs := xs' }) := by
  have hil : i < rows.length := (List.getElem?_eq_some_iff.1 hi).1
  have key : ∀ (j : Nat) q, (rows.set i { r with xs := xs' })[j]? = some q → ∃ q0, rows[j]? = some q0 ∧ q.v = q0.v ∧ ((j ≠ i ∧ q = q0) ∨ (j = i ∧ q = { r with xs := xs' })) := by
    intro j q hq
    by_cases hj : j = i
    · subst hj
      rw [List.getElem?_set_self hil] at hq
      cases hq
      exact ⟨r, hi, rfl, .inr ⟨rfl, rfl⟩⟩
    · rw [List.getElem?_set_ne (Ne.symm hj)] at hq
      exact ⟨q, hq, rfl, .inl ⟨hj, rfl⟩⟩
  refine ⟨h.blk.tn ht ?_, h.ge, fun j q hq => ?_, fun j q hq => ?_, fun j k q p x hq hp h1 h2 => ?_⟩
  · intro hm
    simp only [List.mem_singleton] at hm
    subst hm
    exact h.ne i r hi hg
  · obtain ⟨q0, h0, hv, hc⟩ := key j q hq
    rcases hc with ⟨hj, rfl⟩ | ⟨rfl, rfl⟩
    · refine row_tn (h.row j q h0) ht fun k hk hm => ?_
      simp only [List.mem_singleton] at hm
      subst hm
      exact hj (h.apart j i q r k h0 hi hk hg)
    · exact ho
  · obtain ⟨q0, h0, hv, hc⟩ := key j q hq
    rw [hv]
    exact h.ne j q0 h0
  · obtain ⟨q0, h0, hv, _⟩ := key j q hq
    obtain ⟨p0, h3, hv2, _⟩ := key k p hp
    exact h.apart j k q0 p0 x h0 h3 (by rw [← hv]; exact h1) (by rw [← hv2]; exact h2)

theorem Cl.still {w w' : World} {base B : Nat} {T : TypeId} {vals : Array Value} {rows : List Rs} (h : Cl w base B T vals rows) (ht : Tn [] w w') : Cl w' base B T vals rows :=
  ⟨h.blk.tn ht (by simp), h.ge, fun i r hi => row_tn (h.row i r hi) ht (by simp), h.ne, h.apart⟩

theorem Cl.put {w : World} {base B : Nat} {T : TypeId} {vals : Array Value} {rows : List Rs} (h : Cl w base B T vals rows) (j : Nat) (u : Value) : Cl (w.setCell ⟨B, j, none⟩ u) base B T (vals.setIfInBounds j u) rows ∧ Tn [B] w (w.setCell ⟨B, j, none⟩ u) := by
  have ht : Tn [B] w (w.setCell ⟨B, j, none⟩ u) := (Tn.refl _ w).setCell (.inl (by simp)) u
  refine ⟨⟨h.blk.set j u, h.ge, fun i r hi => row_tn (h.row i r hi) ht fun k hk hm => ?_, h.ne, h.apart⟩, ht⟩
  simp only [List.mem_singleton] at hm
  subst hm
  exact h.ne i r hi hk

abbrev sl (g n c : Nat) : Value := .slice (some ⟨g, 0, none⟩) n c

/-- Where the rows of a draft lie. -/
structure Dv where
  vK : Value
  vR : Value
  gk : Nat
  ck : Nat
  gn : Nat
  cn : Nat
  gf : Nat
  cf : Nat
  gt : Nat
  ct : Nat
  ga : Nat
  ca : Nat
  gg : Nat
  cg : Nat
  gs : Nat
  cs : Nat

/-- The blocks of a draft that its steps may turn. -/
def Dv.bs (V : Dv) (B : Nat) : List Nat := B :: V.gf :: V.gt :: V.ga :: V.gg :: V.gs :: V.vR.ownBlock.toList
/-- Nothing but a draft's own blocks, and new ones, has turned. -/
def Bw (V : Dv) (B : Nat) (w w' : World) : Prop := Tn (V.bs B) w w'
theorem Bw.of {V : Dv} {B : Nat} {w w' : World} {S : List Nat} (h : Tn S w w') (hs : ∀ x ∈ S, x ∈ V.bs B) : Bw V B w w' := h.mono hs
theorem Bw.refl (V : Dv) (B : Nat) (w : World) : Bw V B w w := Tn.refl _ w
theorem Bw.trans {V : Dv} {B : Nat} {a b c : World} (h : Bw V B a b) (k : Bw V B b c) : Bw V B a c := Tn.trans h k (fun x hx => .inl hx)

/-- Numbers as a row has them. -/
def ofs (l : List Nat) : List Int := l.map Int.ofNat
theorem ofs_at (l : List Nat) (i : Nat) : Pk.at' (ofs l) i = (l.getD i 0 : Nat) := by
  unfold Pk.at' ofs
  rw [List.getD_eq_getElem?_getD, List.getD_eq_getElem?_getD, List.getElem?_map]
  cases l[i]? <;> rfl
theorem ofs_set (l : List Nat) (i x : Nat) : ofs (l.set i x) = (ofs l).set i (x : Int) := by simp [ofs, List.map_set]
theorem ofs_length (l : List Nat) : (ofs l).length = l.length := by simp [ofs]

open Dr

/-- The numbers of the two trees. -/
def xT (F : Fx) (s : Df) (a : Nat) : Int := if a = F.R then 9223372036854775807 else if th F s a then (F.k a : Int) + 1 else 0
def xS (F : Fx) (s : Df) (n : Nat) : Int := if n = F.K then 9223372036854775807 else if s.st n then 1 else 0

def drVals (F : Fx) (s : Df) (V : Dv) (n1 n2 : Nat) : Array Value := #[V.vK, V.vR, .int .i64 (s.came : Int), sl V.gk F.R V.ck, sl V.gn F.R V.cn, sl V.gf F.K V.cf, sl V.gt n1 V.ct, sl V.ga F.K V.ca, sl V.gg F.K V.cg, sl V.gs n2 V.cs]
def drRows (ks : List (List UInt8)) (F : Fx) (s : Df) (V : Dv) (t1 t2 : List Int) (n1 n2 : Nat) : List Rs :=
  [⟨9, 1, V.vK, F.K, ks.map encStr⟩, ⟨30, 4, V.vR, F.R, flatE s.row⟩, ⟨3, 1, sl V.gk F.R V.ck, F.R, ints (ofs F.kn)⟩, ⟨3, 1, sl V.gn F.R V.cn, F.R, ints (ofs F.nx)⟩, ⟨3, 1, sl V.gf F.K V.cf, F.K, ints (ofs s.fs)⟩, ⟨3, 1, sl V.gt n1 V.ct, n1, ints t1⟩, ⟨30, 4, sl V.ga F.K V.ca, F.K, flatE s.al⟩, ⟨3, 1, sl V.gg F.K V.cg, F.K, ints (ofs s.gp)⟩, ⟨3, 1, sl V.gs n2 V.cs, n2, ints t2⟩]

/-- A draft in memory. -/
structure Drc (w : World) (base B : Nat) (ks : List (List UInt8)) (F : Fx) (s : Df) (V : Dv) (t1 t2 : List Int) (n1 n2 D1 D2 : Nat) : Prop where
  cl : Cl w base B 118 (drVals F s V n1 n2) (drRows ks F s V t1 t2 n1 n2)
  inv : Inv F (num ks) (kw ks) s
  rise : Rise ks
  kl : ks.length = F.K
  l1 : t1.length = n1
  l2 : t2.length = n2
  i1 : Pk.Is t1 D1 (xT F s)
  i2 : Pk.Is t2 D2 (xS F s)
  r1 : F.R < 2 ^ D1
  r2 : F.K < 2 ^ D2
  b1 : n1 ≤ 35184372088832
  b2 : n2 ≤ 35184372088832
  bR : F.R ≤ 8796093022207
  bK : F.K ≤ 8796093022207

def Drn (w : World) (base B : Nat) (ks : List (List UInt8)) (F : Fx) (s : Df) (V : Dv) : Prop := ∃ t1 t2 n1 n2 D1 D2, Drc w base B ks F s V t1 t2 n1 n2 D1 D2

section
variable {w w' : World} {base B : Nat} {ks : List (List UInt8)} {F : Fx} {s : Df} {V : Dv} {t1 t2 : List Int} {n1 n2 D1 D2 : Nat}

theorem Drc.still (h : Drc w base B ks F s V t1 t2 n1 n2 D1 D2) (ht : Tn [] w w') : Drc w' base B ks F s V t1 t2 n1 n2 D1 D2 := { h with cl := h.cl.still ht }
theorem Drn.still (h : Drn w base B ks F s V) (ht : Tn [] w w') : Drn w' base B ks F s V := by
  obtain ⟨t1, t2, n1, n2, D1, D2, h⟩ := h
  exact ⟨t1, t2, n1, n2, D1, D2, h.still ht⟩

theorem row_ints {g n c : Nat} {l : List Int} (h : w.ownsRow base 3 1 (sl g n c) n (ints l)) (i : Nat) (hi : i < n) : w.cell? ⟨g, i, none⟩ = some (.int .i64 (Pk.at' l i)) := by
  have hl := h.1
  rw [ints_length, Nat.mul_one] at hl
  have := World.ownsRow.cellAt h i (by omega)
  rw [this]
  simp [ints, Pk.at', List.getD, hl, hi]

theorem Drc.krow (h : Drc w base B ks F s V t1 t2 n1 n2 D1 D2) : w.ownsRow base 3 1 (sl V.gk F.R V.ck) F.R (ints (ofs F.kn)) := h.cl.row 2 _ rfl
theorem Drc.nrow (h : Drc w base B ks F s V t1 t2 n1 n2 D1 D2) : w.ownsRow base 3 1 (sl V.gn F.R V.cn) F.R (ints (ofs F.nx)) := h.cl.row 3 _ rfl
theorem Drc.frow (h : Drc w base B ks F s V t1 t2 n1 n2 D1 D2) : w.ownsRow base 3 1 (sl V.gf F.K V.cf) F.K (ints (ofs s.fs)) := h.cl.row 4 _ rfl
theorem Drc.grow (h : Drc w base B ks F s V t1 t2 n1 n2 D1 D2) : w.ownsRow base 3 1 (sl V.gg F.K V.cg) F.K (ints (ofs s.gp)) := h.cl.row 7 _ rfl
theorem Drc.arow (h : Drc w base B ks F s V t1 t2 n1 n2 D1 D2) : w.ownsRow base 30 4 (sl V.ga F.K V.ca) F.K (flatE s.al) := h.cl.row 6 _ rfl
theorem Drc.rrow (h : Drc w base B ks F s V t1 t2 n1 n2 D1 D2) : w.ownsRow base 30 4 V.vR F.R (flatE s.row) := h.cl.row 1 _ rfl
theorem Drc.srow (h : Drc w base B ks F s V t1 t2 n1 n2 D1 D2) : w.ownsRow base 9 1 V.vK F.K (ks.map encStr) := h.cl.row 0 _ rfl
theorem Drc.trow (h : Drc w base B ks F s V t1 t2 n1 n2 D1 D2) : Ir w base (sl V.gt n1 V.ct) t1 := by
  have : w.ownsRow base 3 1 (sl V.gt n1 V.ct) n1 (ints t1) := h.cl.row 5 _ rfl
  unfold Ir
  rw [h.l1]
  exact this
theorem Drc.irow (h : Drc w base B ks F s V t1 t2 n1 n2 D1 D2) : Ir w base (sl V.gs n2 V.cs) t2 := by
  have : w.ownsRow base 3 1 (sl V.gs n2 V.cs) n2 (ints t2) := h.cl.row 8 _ rfl
  unfold Ir
  rw [h.l2]
  exact this

theorem Drc.kcell (h : Drc w base B ks F s V t1 t2 n1 n2 D1 D2) {a : Nat} (ha : a < F.R) : w.cell? ⟨V.gk, a, none⟩ = some (.int .i64 (F.k a : Nat)) := by
  rw [row_ints h.krow a ha, ofs_at]; rfl
theorem Drc.ncell (h : Drc w base B ks F s V t1 t2 n1 n2 D1 D2) {a : Nat} (ha : a < F.R) : w.cell? ⟨V.gn, a, none⟩ = some (.int .i64 (F.n a : Nat)) := by
  rw [row_ints h.nrow a ha, ofs_at]; rfl
theorem Drc.fcell (h : Drc w base B ks F s V t1 t2 n1 n2 D1 D2) {a : Nat} (ha : a < F.K) : w.cell? ⟨V.gf, a, none⟩ = some (.int .i64 (s.f a : Nat)) := by
  rw [row_ints h.frow a ha, ofs_at]; rfl
theorem Drc.gcell (h : Drc w base B ks F s V t1 t2 n1 n2 D1 D2) {a : Nat} (ha : a < F.K) : w.cell? ⟨V.gg, a, none⟩ = some (.int .i64 (s.g a : Nat)) := by
  rw [row_ints h.grow a ha, ofs_at]; rfl

theorem row_en {g n c : Nat} {l : List En} (h : w.ownsRow base 30 4 (sl g n c) n (flatE l)) (i : Nat) (hi : i < n) : w.cell? ⟨g, i * 4, none⟩ = some (.string (l.getD i En.zero).key) ∧ w.cell? ⟨g, i * 4 + 1, none⟩ = some (.int .i64 (l.getD i En.zero).s) ∧ w.cell? ⟨g, i * 4 + 2, none⟩ = some (.int .i64 (l.getD i En.zero).g) ∧ w.cell? ⟨g, i * 4 + 3, none⟩ = some (.int .i64 (l.getD i En.zero).c) := by
  have hl := h.1
  rw [flatE_len] at hl
  have hil : i < l.length := by omega
  have he : l[i]? = some (l.getD i En.zero) := by simp [List.getD, hil]
  obtain ⟨h0, h1, h2, h3⟩ := flatE_at l i _ he
  rw [World.ownsRow.cellAt h _ (by omega), World.ownsRow.cellAt h _ (by omega), World.ownsRow.cellAt h _ (by omega), World.ownsRow.cellAt h _ (by omega)]
  exact ⟨h0, h1, h2, h3⟩

theorem Drc.below (h : Drc w base B ks F s V t1 t2 n1 n2 D1 D2) : base ≤ w.heap.size := by
  have := h.cl.blk.lt
  have := h.cl.ge
  omega

theorem Drc.bs_ge (h : Drc w base B ks F s V t1 t2 n1 n2 D1 D2) : ∀ x ∈ V.bs B, base ≤ x ∧ ∃ cs t, w.heap[x]? = some (.cells cs t (0, 0)) := by
  have hk : ∀ (i : Nat) r x, (drRows ks F s V t1 t2 n1 n2)[i]? = some r → r.v.ownBlock = some x → base ≤ x ∧ ∃ cs t, w.heap[x]? = some (.cells cs t (0, 0)) := fun i r x hi hx => by
    rcases (h.cl.row i r hi).2 with ⟨h1, _⟩ | ⟨g, cap, cur, h1, h2, h3, _⟩
    · rw [h1] at hx; cases hx
    · rw [h1] at hx
      cases hx
      exact ⟨h2, _, _, h3⟩
  intro x hx
  simp only [Dv.bs, List.mem_cons] at hx
  rcases hx with rfl | rfl | rfl | rfl | rfl | rfl | hx
  · exact ⟨h.cl.ge, _, _, h.cl.blk⟩
  · exact hk 4 _ _ rfl rfl
  · exact hk 5 _ _ rfl rfl
  · exact hk 6 _ _ rfl rfl
  · exact hk 7 _ _ rfl rfl
  · exact hk 8 _ _ rfl rfl
  · refine hk 1 _ x rfl ?_
    show V.vR.ownBlock = some x
    cases hb : V.vR.ownBlock with
    | none => rw [hb] at hx; simp at hx
    | some y => rw [hb] at hx; simp at hx; rw [hx]

theorem Drc.at (h : Drc w base B ks F s V t1 t2 n1 n2 D1 D2) (j : Nat) : w.cell? ⟨B, j, none⟩ = (drVals F s V n1 n2)[j]? := h.cl.blk.cell j

/-- A place is taken out. -/
theorem xT_take (h : Inv F (num ks) (kw ks) s) {a : Nat} (ha : a < s.came) (hf : s.f (F.k a) = a) : xT F (take F s a) = Pk.upd (xT F s) a 0 := by
  have hc := h.came
  funext b
  unfold xT Pk.upd
  rw [take_th h ha hf]
  by_cases hb : b = a
  · subst hb
    rw [if_neg (by omega), if_pos rfl]
    simp
  · rw [if_neg hb]
    simp [hb]
end
end Go.Proofs.YthpilennljpamaaGreat

namespace Go.Proofs.YthpilennljpamaaGreat
open Go.Shelf
def Tryz.drSort_ren : Go.Shelf.Ren := ⟨fun | 6 => 94 | 8 => 120 | 9 => 119 | 19 => 139 | 20 => 140 | 21 => 130 | 22 => 131 | 23 => 132 | 24 => 133 | 25 => 134 | 26 => 135 | 27 => 136 | 28 => 137 | 29 => 138 | 36 => 146 | 31 => 147 | 32 => 148 | 37 => 149 | 38 => 150 | 39 => 151 | 41 => 154 | n => n, fun | 27 => 114 | 29 => 9 | 3 => 3 | 32 => 140 | 26 => 114 | 0 => 0 | 44 => 157 | 46 => 159 | 4 => 4 | 36 => 151 | 35 => 150 | 41 => 68 | 5 => 5 | 9 => 9 | 53 => 164 | 57 => 168 | 63 => 174 | 64 => 175 | n => n, fun | n => n⟩
theorem Tryz.drSort : Go.Proofs.SlLaysM.n6 Tryz.prog Tryz.drSort_ren := {
  mixed := by kernel_rfl
  f6 := ⟨Tryz.f94.name, by decide, Tryz.func94.trans (congrArg some (by kernel_rfl))⟩
  f8 := Tryz.func120.trans (congrArg some (by kernel_rfl))
  f9 := ⟨Tryz.f119.name, by decide, Tryz.func119.trans (congrArg some (by kernel_rfl))⟩
  f19 := Tryz.func139.trans (congrArg some (by kernel_rfl))
  f20 := Tryz.func140.trans (congrArg some (by kernel_rfl))
  f21 := ⟨Tryz.f130.name, by decide, Tryz.func130.trans (congrArg some (by kernel_rfl))⟩
  f22 := ⟨Tryz.f131.name, by decide, Tryz.func131.trans (congrArg some (by kernel_rfl))⟩
  f23 := ⟨Tryz.f132.name, by decide, Tryz.func132.trans (congrArg some (by kernel_rfl))⟩
  f24 := ⟨Tryz.f133.name, by decide, Tryz.func133.trans (congrArg some (by kernel_rfl))⟩
  f25 := ⟨Tryz.f134.name, by decide, Tryz.func134.trans (congrArg some (by kernel_rfl))⟩
  f26 := ⟨Tryz.f135.name, by decide, Tryz.func135.trans (congrArg some (by kernel_rfl))⟩
  f27 := ⟨Tryz.f136.name, by decide, Tryz.func136.trans (congrArg some (by kernel_rfl))⟩
  f28 := ⟨Tryz.f137.name, by decide, Tryz.func137.trans (congrArg some (by kernel_rfl))⟩
  f29 := ⟨Tryz.f138.name, by decide, Tryz.func138.trans (congrArg some (by kernel_rfl))⟩
  f31 := Tryz.func147.trans (congrArg some (by kernel_rfl))
  f32 := Tryz.func148.trans (congrArg some (by kernel_rfl))
  f36 := ⟨Tryz.f146.name, by decide, Tryz.func146.trans (congrArg some (by kernel_rfl))⟩
  f37 := ⟨Tryz.f149.name, by decide, Tryz.func149.trans (congrArg some (by kernel_rfl))⟩
  f38 := ⟨Tryz.f150.name, by decide, Tryz.func150.trans (congrArg some (by kernel_rfl))⟩
  f39 := ⟨Tryz.f151.name, by decide, Tryz.func151.trans (congrArg some (by kernel_rfl))⟩
  f41 := ⟨Tryz.f154.name, by decide, Tryz.func154.trans (congrArg some (by kernel_rfl))⟩
  t0 := Tryz.underlying0
  a0 := Tryz.isAgg0
  z0 := Tryz.sizeOf0
  v0 := Tryz.zeroValue0
  t3 := Tryz.underlying3
  a3 := Tryz.isAgg3
  z3 := Tryz.sizeOf3
  v3 := Tryz.zeroValue3
  t4 := Tryz.underlying4
  a4 := Tryz.isAgg4
  z4 := Tryz.sizeOf4
  v4 := Tryz.zeroValue4
  t5 := Tryz.underlying5
  a5 := Tryz.isAgg5
  z5 := Tryz.sizeOf5
  v5 := Tryz.zeroValue5
  t9 := Tryz.underlying9
  a9 := Tryz.isAgg9
  z9 := Tryz.sizeOf9
  v9 := Tryz.zeroValue9
  t26 := Tryz.underlying114
  a26 := Tryz.isAgg114
  z26 := Tryz.sizeOf114
  v26 := Tryz.zeroValue114
  t27 := Tryz.underlying114
  a27 := Tryz.isAgg114
  z27 := Tryz.sizeOf114
  v27 := Tryz.zeroValue114
  t29 := Tryz.underlying9
  a29 := Tryz.isAgg9
  z29 := Tryz.sizeOf9
  v29 := Tryz.zeroValue9
  t32 := Tryz.underlying140
  a32 := Tryz.isAgg140
  z32 := Tryz.sizeOf140
  v32 := Tryz.zeroValue140
  t35 := Tryz.underlying150
  a35 := Tryz.isAgg150
  z35 := Tryz.sizeOf150
  v35 := Tryz.zeroValue150
  t36 := Tryz.underlying151
  a36 := Tryz.isAgg151
  z36 := Tryz.sizeOf151
  v36 := Tryz.zeroValue151
  t41 := Tryz.underlying68
  a41 := Tryz.isAgg68
  z41 := Tryz.sizeOf68
  v41 := Tryz.zeroValue68
  t44 := Tryz.underlying157
  a44 := Tryz.isAgg157
  z44 := Tryz.sizeOf157
  v44 := Tryz.zeroValue157
  t46 := Tryz.underlying159
  a46 := Tryz.isAgg159
  z46 := Tryz.sizeOf159
  v46 := Tryz.zeroValue159
  t53 := Tryz.underlying164
  a53 := Tryz.isAgg164
  z53 := Tryz.sizeOf164
  v53 := Tryz.zeroValue164
  t57 := Tryz.underlying168
  a57 := Tryz.isAgg168
  z57 := Tryz.sizeOf168
  v57 := Tryz.zeroValue168
  t63 := Tryz.underlying174
  a63 := Tryz.isAgg174
  z63 := Tryz.sizeOf174
  v63 := Tryz.zeroValue174
  t64 := Tryz.underlying175
  a64 := Tryz.isAgg175
  z64 := Tryz.sizeOf175
  v64 := Tryz.zeroValue175 }
def Tryz.drCompact_ren : Go.Shelf.Ren := ⟨fun | 44 => 95 | n => n, fun | 25 => 114 | 26 => 9 | 3 => 3 | 4 => 4 | 0 => 0 | n => n, fun | n => n⟩
theorem Tryz.drCompact : Go.Proofs.SlLaysN.n44 Tryz.prog Tryz.drCompact_ren := {
  mixed := by kernel_rfl
  f44 := ⟨Tryz.f95.name, by decide, Tryz.func95.trans (congrArg some (by kernel_rfl))⟩
  t0 := Tryz.underlying0
  a0 := Tryz.isAgg0
  z0 := Tryz.sizeOf0
  v0 := Tryz.zeroValue0
  t3 := Tryz.underlying3
  a3 := Tryz.isAgg3
  z3 := Tryz.sizeOf3
  v3 := Tryz.zeroValue3
  t4 := Tryz.underlying4
  a4 := Tryz.isAgg4
  z4 := Tryz.sizeOf4
  v4 := Tryz.zeroValue4
  t25 := Tryz.underlying114
  a25 := Tryz.isAgg114
  z25 := Tryz.sizeOf114
  v25 := Tryz.zeroValue114
  t26 := Tryz.underlying9
  a26 := Tryz.isAgg9
  z26 := Tryz.sizeOf9
  v26 := Tryz.zeroValue9
  i26 := by kernel_rfl }
def Tryz.drSearch_ren : Go.Shelf.Ren := ⟨fun | 26 => 124 | 33 => 136 | 34 => 143 | 38 => 151 | n => n, fun | 24 => 114 | 9 => 9 | 3 => 3 | 4 => 4 | 40 => 140 | 0 => 0 | n => n, fun | n => n⟩
theorem Tryz.drSearch : Go.Proofs.Lays2.n26 Tryz.prog Tryz.drSearch_ren := {
  mixed := by kernel_rfl
  f26 := Tryz.func124.trans (congrArg some (by kernel_rfl))
  f33 := Tryz.func136.trans (congrArg some (by kernel_rfl))
  f34 := Tryz.func143.trans (congrArg some (by kernel_rfl))
  f38 := Tryz.func151.trans (congrArg some (by kernel_rfl))
  t0 := Tryz.underlying0
  a0 := Tryz.isAgg0
  z0 := Tryz.sizeOf0
  v0 := Tryz.zeroValue0
  t3 := Tryz.underlying3
  a3 := Tryz.isAgg3
  z3 := Tryz.sizeOf3
  v3 := Tryz.zeroValue3
  t4 := Tryz.underlying4
  a4 := Tryz.isAgg4
  z4 := Tryz.sizeOf4
  v4 := Tryz.zeroValue4
  t9 := Tryz.underlying9
  a9 := Tryz.isAgg9
  z9 := Tryz.sizeOf9
  v9 := Tryz.zeroValue9
  t24 := Tryz.underlying114
  a24 := Tryz.isAgg114
  z24 := Tryz.sizeOf114
  v24 := Tryz.zeroValue114
  t40 := Tryz.underlying140
  a40 := Tryz.isAgg140
  z40 := Tryz.sizeOf140
  v40 := Tryz.zeroValue140 }
def Tryz.drMul_ren : Go.Shelf.Ren := ⟨fun | 212 => 141 | 263 => 152 | 264 => 153 | n => n, fun | 46 => 140 | 51 => 157 | 146 => 170 | 53 => 159 | 148 => 172 | n => n, fun | n => n⟩
theorem Tryz.drMul : Go.Proofs.Lays.n212 Tryz.prog Tryz.drMul_ren := {
  mixed := by kernel_rfl
  f212 := Tryz.func141.trans (congrArg some (by kernel_rfl))
  f263 := Tryz.func152.trans (congrArg some (by kernel_rfl))
  f264 := Tryz.func153.trans (congrArg some (by kernel_rfl))
  t46 := Tryz.underlying140
  a46 := Tryz.isAgg140
  z46 := Tryz.sizeOf140
  v46 := Tryz.zeroValue140
  t51 := Tryz.underlying157
  a51 := Tryz.isAgg157
  z51 := Tryz.sizeOf157
  v51 := Tryz.zeroValue157
  t53 := Tryz.underlying159
  a53 := Tryz.isAgg159
  z53 := Tryz.sizeOf159
  v53 := Tryz.zeroValue159
  t146 := Tryz.underlying170
  a146 := Tryz.isAgg170
  z146 := Tryz.sizeOf170
  v146 := Tryz.zeroValue170
  t148 := Tryz.underlying172
  a148 := Tryz.isAgg172
  z148 := Tryz.sizeOf172
  v148 := Tryz.zeroValue172 }
end Go.Proofs.YthpilennljpamaaGreat

namespace Go.Proofs.YthpilennljpamaaGreat
open Go.RowKit Go.Lib Go.Shelf Dr
set_option linter.unusedVariables false
set_option maxRecDepth 100000

section
variable {w : World} {base B : Nat} {ks : List (List UInt8)} {F : Fx} {s : Df} {V : Dv}

set_option maxHeartbeats 4000000 in
theorem dtake_any (h : Drn w base B ks F s V) (a : Nat) (ha : a < s.came) (hf : s.f (F.k a) = a) :
    Calls Tryz.prog 102 #[.pointer (some ⟨B, 0, none⟩), .int .i64 (a : Int)] w fun e w' => e = .returned (.tuple #[]) ∧ Drn w' base B ks F (take F s a) V ∧ Bw V B w w' := by
  obtain ⟨t1, t2, n1, n2, D1, D2, h⟩ := h
  have hc := h.inv.came
  have haR : a < F.R := by omega
  have hkK := h.inv.fx.key a haR
  have x6 : w.cell? ⟨B, 6, none⟩ = some (sl V.gt n1 V.ct) := h.at 6
  have HH : Hid (Drc w base B ks F s V t1 t2 n1 n2 D1 D2) := h
  clear h
  go_enter Tryz.func102, Tryz.ntmps102
  go_wp2_with fail
  refine (pset_any HH.out.trow HH.out.l1 HH.out.i1 HH.out.b1 a (by have := HH.out.r1; omega) 0).mono ?_
  rintro e w1 ⟨rfl, t1', g1, g2, g3, g4⟩
  have hcl : Cl w1 base B 118 (drVals F s V n1 n2) (drRows ks F s V t1' t2 n1 n2) := by
    have ho : w1.ownsRow base 3 1 (sl V.gt n1 V.ct) n1 (ints t1') := by unfold Ir at g1; rw [g2] at g1; exact g1
    exact HH.out.cl.turn (i := 5) rfl rfl g4 ho
  have y3 : w1.cell? ⟨B, 3, none⟩ = some (sl V.gk F.R V.ck) := hcl.blk.cell 3
  have y4 : w1.cell? ⟨B, 4, none⟩ = some (sl V.gn F.R V.cn) := hcl.blk.cell 4
  have y5 : w1.cell? ⟨B, 5, none⟩ = some (sl V.gf F.K V.cf) := hcl.blk.cell 5
  have kc : w1.cell? ⟨V.gk, a, none⟩ = some (.int .i64 (F.k a : Nat)) := by rw [row_ints (hcl.row 2 _ rfl) a haR, ofs_at]; rfl
  have nc : w1.cell? ⟨V.gn, a, none⟩ = some (.int .i64 (F.n a : Nat)) := by rw [row_ints (hcl.row 3 _ rfl) a haR, ofs_at]; rfl
  have fr : w1.ownsRow base 3 1 (sl V.gf F.K V.cf) F.K (ints (ofs s.fs)) := hcl.row 4 _ rfl
  have fc := row_ints fr (F.k a) hkK
  have ff : w1.frozen? ⟨V.gf, F.k a, none⟩ = false := World.ownsRow.frozenAt fr _
  have hst := World.ownsRow.stored fr (F.k a) (.int .i64 (F.n a : Nat))
  have HE : Hid (Drn (w1.setCell ⟨V.gf, F.k a, none⟩ (.int .i64 (F.n a : Nat))).drew base B ks F (take F s a) V ∧ Bw V B w (w1.setCell ⟨V.gf, F.k a, none⟩ (.int .i64 (F.n a : Nat))).drew) := by
    have ht := tn_grown hst.2
    have hB1 : Bw V B w w1 := Bw.of g4 (by simp [Dv.bs])
    have hcl2 := (hcl.turn (i := 4) rfl rfl ht hst.1).still (Tn.drew (Tn.refl [] _))
    refine ⟨⟨t1', t2, n1, n2, D1, D2, ?_⟩, hB1.trans (Bw.of ht.drew (by simp [Dv.bs]))⟩
    refine { HH.out with cl := ?_, inv := take_inv HH.out.inv ha hf, l1 := g2, i1 := by rw [xT_take HH.out.inv ha hf]; exact g3, i2 := HH.out.i2 }
    have e : drRows ks F (take F s a) V t1' t2 n1 n2 = (drRows ks F s V t1' t2 n1 n2).set 4 ⟨3, 1, sl V.gf F.K V.cf, F.K, (ints (ofs s.fs)).set (F.k a) (.int .i64 (F.n a : Nat))⟩ := by
      have : ints (ofs (take F s a).fs) = (ints (ofs s.fs)).set (F.k a) (.int .i64 (F.n a : Nat)) := by
        show ints (ofs (s.fs.set (F.k a) (F.n a))) = _
        rw [ofs_set]; simp [ints, List.map_set]
      unfold drRows
      rw [this]; rfl
    rw [e]
    exact hcl2
  have ai : (a : Int) < (F.R : Int) := by omega
  have a0 : (0 : Int) ≤ (a : Int) := by omega
  have ki : ((F.k a : Nat) : Int) < (F.K : Int) := by omega
  have k0 : (0 : Int) ≤ ((F.k a : Nat) : Int) := by omega
  clear g1 g2 g3 g4 hcl fr hst x6
  generalize F.k a = k at *
  generalize Pk.at' (ofs s.fs) k = y at *
  obtain ⟨m, hm⟩ : ∃ m : Int, ((F.n a : Nat) : Int) = m := ⟨_, rfl⟩
  rw [hm] at nc HE
  clear hm
  go_wp2_with fail
  go_region
  go_wp2
  go_end0
  exact ⟨rfl, HE.out.1, HE.out.2⟩

set_option maxHeartbeats 4000000 in
theorem number_row {vK : Value} {K : Nat} (x0 : w.cell? ⟨B, 0, none⟩ = some vK) (hrow : w.ownsRow base 9 1 vK K (ks.map encStr)) (hkl : ks.length = K) (hb : K ≤ 8796093022207) (hrise : Rise ks) (key : ByteArray) :
    Calls Tryz.prog 99 #[.pointer (some ⟨B, 0, none⟩), .string key] w fun e w' => e = .returned (.int .i64 (num ks key : Nat)) ∧ Tn [] w w' := by
  rcases hrow.2 with ⟨hv, hn⟩ | ⟨g, cap, cur, hv, _, _, h1, h2, _⟩
  · rw [hv] at x0
    have hnum : num ks key = 0 := by
      have : ks = [] := List.eq_nil_of_length_eq_zero (by omega)
      rw [this]; rfl
    rw [hnum]
    clear hrow hnum hrise hv
    go_enter Tryz.func99, Tryz.ntmps99
    go_wp2_with fail
    refine (Any2.slices_BinarySearch_string_empty Tryz.drSearch none 0 key w).mono ?_
    rintro e w1 ⟨rfl, rfl⟩
    go_wp2
    go_ret
    exact ⟨rfl, Tn.refl _ _⟩
  · rw [hv] at x0 hrow
    obtain ⟨Sx, HS, HN⟩ : ∃ Sx : Nat → ByteArray, Hid (∀ j, j < K → w.cell? ⟨g, 0 + j, none⟩ = some (.string (Sx j))) ∧ Hid (bsGo (fun t => Op.bytesLess (Sx t).toList key.toList) K 0 K = num ks key) := by
      refine ⟨fun t => if h : t < ks.length then ⟨ks[t].toArray⟩ else key, ?_, ?_⟩
      · intro j hj
        simp only [Nat.zero_add]
        rw [World.ownsRow.cellAt hrow j (by omega), dif_pos (by omega)]
        simp [encStr, show j < ks.length by omega]
      · rw [Hid, ← hkl]
        refine search_num hrise key (fun t => if h : t < ks.length then ⟨ks[t].toArray⟩ else key) (fun t ht => ?_) (fun t ht => ?_)
        · simp only [ht, dif_pos]
          rw [ByteArray.toList_eq]
        · rw [dif_neg (by omega)]
    obtain ⟨m, hm⟩ : ∃ m : Nat, num ks key = m := ⟨_, rfl⟩
    rw [hm] at HN ⊢
    clear hrow hrise hv hm
    go_enter Tryz.func99, Tryz.ntmps99
    go_wp2_with fail
    refine (Any2.slices_BinarySearch_string Tryz.drSearch g 0 K cap Sx key w (by omega) HS.out).mono ?_
    rw [HN.out]
    generalize decide (m < K ∧ Sx m = key) = bb
    rintro e w1 ⟨rfl, q, rfl⟩
    go_wp2
    go_ret
    exact ⟨rfl, Tn.of_below (below_drewN (Below.refl _ _) _) _⟩

theorem number_any (h : Drn w base B ks F s V) (key : ByteArray) :
    Calls Tryz.prog 99 #[.pointer (some ⟨B, 0, none⟩), .string key] w fun e w' => e = .returned (.int .i64 (num ks key : Nat)) ∧ Tn [] w w' := by
  obtain ⟨t1, t2, n1, n2, D1, D2, h⟩ := h
  exact number_row (h.at 0) h.srow h.kl h.bK h.rise key

/-- So many more have come. -/
def comes (s : Df) (m : Nat) : Df := { s with came := s.came + m }

theorem xT_come (h : Inv F (num ks) (kw ks) s) (hc : s.came < F.R) : xT F (come1 s) = Pk.upd (xT F s) s.came ((F.k s.came : Int) + 1) := by
  have hl := h.left s.came (Nat.le_refl _) hc
  funext b
  unfold xT Pk.upd
  by_cases hb : b = s.came
  · subst hb
    rw [if_neg (by omega), if_pos rfl]
    have : th F (come1 s) s.came = true := by
      unfold th
      show (decide (s.came < s.came + 1) && decide (s.f _ ≤ _)) = true
      simp [hl]
    rw [this]; rfl
  · rw [if_neg hb]
    have : th F (come1 s) b = th F s b := by
      unfold th
      show (decide (b < s.came + 1) && decide (s.f _ ≤ _)) = _
      by_cases h1 : b < s.came
      · simp [h1, show b < s.came + 1 by omega]
      · simp [h1, show ¬ b < s.came + 1 by omega]
    rw [this]

theorem Inv.comes {m : Nat} (h : Inv F (num ks) (kw ks) s) (hm : s.came + m ≤ F.R) : Inv F (num ks) (kw ks) (comes s m) := by
  induction m with
  | zero => exact h
  | succ m ih => exact come_inv (ih (by omega)) (by show s.came + m < F.R; omega)

set_option maxHeartbeats 4000000 in
theorem come_any (h : Drn w base B ks F s V) (m : Nat) (hm : s.came + m ≤ F.R) :
    Calls Tryz.prog 73 #[.pointer (some ⟨B, 0, none⟩), .int .i64 (m : Int)] w fun e w' => e = .returned (.tuple #[]) ∧ Drn w' base B ks F (comes s m) V ∧ Bw V B w w' := by
  have HH : Hid (Drn w base B ks F (comes s 0) V ∧ Bw V B w w) := ⟨h, Bw.refl _ _ _⟩
  have hmb : m ≤ 8796093022207 := by
    obtain ⟨t1, t2, n1, n2, D1, D2, h⟩ := h
    have := h.bR
    omega
  have HM : Hid (s.came + m ≤ F.R) := hm
  clear h hm
  go_enter Tryz.func73, Tryz.ntmps73
  go_wp2_with fail
  go_loopw [5] (fun i wr => ∃ k : Nat, k ≤ m ∧ i = .int .i64 (k : Int) ∧ Hid (Drn wr base B ks F (comes s k) V ∧ Bw V B w wr)) (fun i _ => m - (intOf i).toNat)
  case atStart => exact ⟨0, Nat.zero_le _, rfl, HH⟩
  case round =>
    obtain ⟨k, hk, rfl, HW⟩ := hrel
    clear HH
    by_cases hlt : k < m
    · have hki : (k : Int) < (m : Int) := by omega
      obtain ⟨⟨t1, t2, n1, n2, D1, D2, h⟩, hB⟩ := HW.out
      have hcR : (comes s k).came < F.R := by show s.came + k < F.R; have := HM.out; omega
      obtain ⟨c, hc⟩ : ∃ c : Nat, (comes s k).came = c := ⟨_, rfl⟩
      have hR := h.bR
      have hkK := h.inv.fx.key c (by omega)
      have hbK := h.bK
      have x2 : wr.cell? ⟨B, 2, none⟩ = some (.int .i64 (c : Int)) := by rw [← hc]; exact h.at 2
      have x3 : wr.cell? ⟨B, 3, none⟩ = some (sl V.gk F.R V.ck) := h.at 3
      have x6 : wr.cell? ⟨B, 6, none⟩ = some (sl V.gt n1 V.ct) := h.at 6
      have kc := h.kcell (show c < F.R by omega)
      have HD : Hid (Drc wr.drew base B ks F (comes s k) V t1 t2 n1 n2 D1 D2) := h.still (Tn.drew (Tn.refl [] _))
      have HB : Hid (Bw V B w wr) := hB
      have HC : Hid ((comes s k).came = c) := hc
      have HcR : Hid (c < F.R) := by rw [Hid, ← hc]; exact hcR
      have ci : (c : Int) < (F.R : Int) := by omega
      have c0 : (0 : Int) ≤ (c : Int) := by omega
      clear h hB hc hcR HW
      obtain ⟨y, hy⟩ : ∃ y : Nat, F.k c = y := ⟨_, rfl⟩
      rw [hy] at kc hkK
      have HY : Hid (F.k c = y) := hy
      have hyb : y ≤ 8796093022207 := by omega
      clear hy
      go_wp2_with fail
      go_still_tail 19, (by kernel_rfl)
      go_wp2_with fail
      refine (pset_any HD.out.trow HD.out.l1 HD.out.i1 HD.out.b1 c (by have := HD.out.r1; have := HcR.out; omega) ((y : Int) + 1)).mono ?_
      rintro e w1 ⟨rfl, t1', g1, g2, g3, g4⟩
      have hcl : Cl w1 base B 118 (drVals F (comes s k) V n1 n2) (drRows ks F (comes s k) V t1' t2 n1 n2) := by
        have ho : w1.ownsRow base 3 1 (sl V.gt n1 V.ct) n1 (ints t1') := by unfold Ir at g1; rw [g2] at g1; exact g1
        exact HD.out.cl.turn (i := 5) rfl rfl g4 ho
      have z2 : w1.cell? ⟨B, 2, none⟩ = some (.int .i64 (c : Int)) := by rw [← HC.out]; exact hcl.blk.cell 2
      have f2 : w1.frozen? ⟨B, 2, none⟩ = false := hcl.blk.frozen 2
      obtain ⟨hp1, hp2⟩ := hcl.put 2 (.int .i64 ((c : Int) + 1))
      obtain ⟨w2, hw2⟩ : ∃ w2, w1.setCell ⟨B, 2, none⟩ (.int .i64 ((c : Int) + 1)) = w2 := ⟨_, rfl⟩
      rw [hw2] at hp1 hp2
      have HE : Hid (Drn w2 base B ks F (comes s (k + 1)) V ∧ Bw V B w w2) := by
        have hB1 : Bw V B wr.drew w1 := Bw.of g4 (by simp [Dv.bs])
        have hB2 : Bw V B w1 w2 := Bw.of hp2 (by simp [Dv.bs])
        refine ⟨⟨t1', t2, n1, n2, D1, D2, ?_⟩, HB.out.trans ((Bw.of (Tn.drew (Tn.refl [] wr)) (by simp)).trans (hB1.trans hB2))⟩
        have hcR : (comes s k).came < F.R := by rw [HC.out]; exact HcR.out
        have hx := xT_come HD.out.inv hcR
        rw [HC.out, HY.out] at hx
        refine { HD.out with cl := ?_, inv := come_inv HD.out.inv hcR, l1 := g2, i1 := ?_, i2 := HD.out.i2 }
        · have e1 : drVals F (comes s (k + 1)) V n1 n2 = (drVals F (comes s k) V n1 n2).setIfInBounds 2 (.int .i64 ((c : Int) + 1)) := by
            have : ((comes s (k + 1)).came : Int) = (c : Int) + 1 := by
              have := HC.out
              show ((s.came + (k + 1) : Nat) : Int) = _
              have h3 : (comes s k).came = s.came + k := rfl
              omega
            unfold drVals
            rw [this]; rfl
          rw [e1]
          exact hp1
        · have : xT F (comes s (k + 1)) = xT F (come1 (comes s k)) := rfl
          rw [this, hx]
          exact g3
      clear g1 g2 g3 g4 hcl hp1 hp2 x2 x3 x6 kc HD
      have hcb : c ≤ 8796093022207 := by omega
      go_wp2
      exact ⟨⟨k + 1, by omega, by go_num, HE⟩, by simp [intOf]; omega⟩
    · have hki : ¬ (k : Int) < (m : Int) := by omega
      have hkm : k = m := by omega
      have HE : Hid (Drn wr base B ks F (comes s m) V ∧ Bw V B w wr) := by rw [← hkm]; exact HW
      go_wp2
      go_end0
      exact ⟨rfl, HE.out.1, HE.out.2⟩
end
end Go.Proofs.YthpilennljpamaaGreat

namespace Go.Proofs.YthpilennljpamaaGreat
open Go.RowKit Go.Lib Go.Shelf
set_option linter.unusedVariables false
set_option maxRecDepth 100000

theorem intsize : (Tryz.prog.info? 3).map (·.size) = some 1 := by kernel_rfl

def rep (m K : Nat) (R : Int) : List Int := List.replicate m R ++ List.replicate (K - m) 0

theorem rep_len (m K : Nat) (R : Int) (h : m ≤ K) : (rep m K R).length = K := by simp [rep]; omega

theorem copy_rep {w : World} {g m K c : Nat} {R : Int} (hB : Bk w g 3 (ints (rep m K R)).toArray) (hc : c = Nat.min m (K - m)) (hm : m ≤ K) :
    ∃ w', (∀ ty dc sc, (Builtin.copy_ #[115, 115] ty #[.slice (some ⟨g, m, none⟩) (K - m) dc, .slice (some ⟨g, 0, none⟩) m sc]).run Tryz.prog w = .ok (goInt (c : Int)) w') ∧ Bk w' g 3 (ints (rep (m + c) K R)).toArray ∧ Tn [g] w w' := by
  have hlr := rep_len m K R hm
  have hcm : c ≤ m ∧ c ≤ K - m := by subst hc; simp only [Nat.min_def]; split <;> omega
  have hsz : (ints (rep m K R)).toArray.size = K := by simp [ints, hlr]
  have hr := fun ty dc sc => run_copy_row (P := Tryz.prog) w 115 115 ty 3 g m (K - m) dc ⟨g, 0, none⟩ m sc (ints (rep m K R)).toArray 3 (ints (List.replicate c R)) Tryz.underlying115 intsize hB (by rw [ints_length, List.length_replicate]; exact hc)
    (fun j v hj => by
      rw [show (⟨g, 0, none⟩ : Addr).add j = ⟨g, j, none⟩ by unfold Addr.add; split <;> simp_all]
      rw [hB.cell j]
      have hjc : j < c := by have := (List.getElem?_eq_some_iff.1 hj).1; simpa [ints] using this
      simp only [ints, List.getElem?_toArray, List.getElem?_map] at hj ⊢
      rw [show (rep m K R)[j]? = (List.replicate c R)[j]? by
        rw [rep, List.getElem?_append_left (by simp; omega)]
        simp [hjc, show j < m by omega]]
      exact hj)
    (by rw [hsz, ints_length, List.length_replicate]; omega)
    (fun v hv => by
      obtain ⟨x, _, rfl⟩ := List.mem_map.1 hv
      rfl)
  simp only [ints_length, List.length_replicate] at hr
  refine ⟨_, hr, ?_, (Tn.refl _ w).setRow (.inl (by simp)) _⟩
  have e : ((ints (rep m K R)).toArray.toList.take m ++ ints (List.replicate c R) ++ (ints (rep m K R)).toArray.toList.drop (m + c)) = ints (rep (m + c) K R) := by
    simp only [ints, ← List.map_take, ← List.map_drop, ← List.map_append]
    congr 1
    unfold rep
    rw [List.take_append_of_le_length (by simp), List.take_of_length_le (by simp), List.replicate_append_replicate, List.drop_append]
    simp only [List.length_replicate, List.drop_replicate]
    rw [show m - (m + c) = 0 by omega, show m + c - m = c by omega]
    simp only [List.replicate_zero, List.nil_append]
    rw [show K - m - c = K - (m + c) by omega]
  rw [e]
  exact hB.setRow _

set_option maxHeartbeats 4000000 in
theorem repeat_any (b : Nat) (c K : Nat) (R : Int) (w : World) (hb : w.cell? ⟨b, 0, none⟩ = some (.int .i64 R)) (hK : K ≤ 8796093022207) :
    Calls Tryz.prog 121 #[.slice (some ⟨b, 0, none⟩) 1 c, .int .i64 (K : Int)] w fun e w' => e = .returned (.slice (some ⟨w.heap.size, 0, none⟩) K K) ∧ Ir w' w.heap.size (.slice (some ⟨w.heap.size, 0, none⟩) K K) (List.replicate K R) ∧ Below w.heap.size w w' := by
  have hblt : b < w.heap.size := World.block_lt_of_cell? w _ hb
  have hbb := hb
  have h0 : ¬ (K : Int) < 0 := by omega
  have hKm : ¬ (9223372036854775807 : Int) < (K : Int) := by omega
  obtain ⟨w1, hmk, hI, hB1⟩ := make_ints 115 Tryz.underlying115 K (by omega) w
  have hbk : Bk w1 w.heap.size 3 (ints (List.replicate K 0)).toArray := by
    rcases hI.2 with ⟨h1, _⟩ | ⟨g, cap, cur, hv, _, hg, _, _, hcs, ht⟩
    · cases h1
    · simp only [List.length_replicate, Value.slice.injEq, Option.some.injEq, Addr.mk.injEq, and_true, true_and] at hv
      obtain ⟨hg1, hg2⟩ := hv
      subst hg1
      subst hg2
      have : cur = (ints (List.replicate K 0)).toArray := by
        rw [← ht, List.take_of_length_le (by rw [Array.length_toList, hcs, List.length_replicate]; omega)]
      rw [← this]
      exact hg
  have hb1 : w1.cell? ⟨b, 0, none⟩ = some (.int .i64 R) := by rw [hB1.cell (p := ⟨b, 0, none⟩) hblt]; exact hb
  have HI0 : Hid (K = 0 → Ir w1 w.heap.size (.slice (some ⟨w.heap.size, 0, none⟩) K K) (List.replicate K 0)) := fun _ => hI
  clear hI hb
  by_cases hK0 : K = 0
  · have hcp : ∀ ty, (Builtin.copy_ #[115, 115] ty #[.slice (some ⟨w.heap.size, 0, none⟩) K K, .slice (some ⟨b, 0, none⟩) 1 c]).run Tryz.prog w1 = .ok (goInt 0) w1 := fun ty => run_copy_none w1 _ _ ty 3 _ _ _ _ _ _ Tryz.underlying115 intsize (by rw [hK0]; rfl)
    have HE : Hid (Ir w1 w.heap.size (.slice (some ⟨w.heap.size, 0, none⟩) K K) (List.replicate K R) ∧ Below w.heap.size w w1) := ⟨by have := HI0.out hK0; rw [hK0] at this ⊢; exact this, hB1⟩
    have hlt0 : ¬ (0 : Int) < (K : Int) := by omega
    have HK0 : Hid (K = 0) := hK0
    clear hbk hb1 hbb hK0 HI0
    go_enter Tryz.func121, Tryz.ntmps121
    go_wp2_with fail
    refine (Any.bits_Mul Tryz.drMul 1 K (by omega) (by omega) w).mono ?_
    rintro e w' ⟨rfl, rfl⟩
    rw [show 1 * K / 18446744073709551616 = 0 by omega, show 1 * K % 18446744073709551616 = K by omega]
    go_wp2_with fail
    go_loopw [8] (fun nv wr => nv = .int .i64 0 ∧ wr = w1) (fun _ _ => 0)
    case atStart => exact ⟨rfl, rfl⟩
    case round =>
      obtain ⟨rfl, rfl⟩ := hrel
      go_wp2
      go_ret
      exact ⟨rfl, HE.out.1, HE.out.2⟩
  · obtain ⟨w2, hcp, hb2, ht2⟩ : ∃ w2, (∀ ty, (Builtin.copy_ #[115, 115] ty #[.slice (some ⟨w.heap.size, 0, none⟩) K K, .slice (some ⟨b, 0, none⟩) 1 c]).run Tryz.prog w1 = .ok (goInt 1) w2) ∧ Bk w2 w.heap.size 3 (ints (rep 1 K R)).toArray ∧ Tn [w.heap.size] w1 w2 := by
      have hsz : (ints (List.replicate K 0)).toArray.size = K := by simp [ints]
      refine ⟨w1.setRow w.heap.size (ints (rep 1 K R)).toArray, fun ty => ?_, hbk.setRow _, (Tn.refl _ w1).setRow (.inl (by simp)) _⟩
      have hr := run_copy_row (P := Tryz.prog) w1 115 115 ty 3 w.heap.size 0 K K ⟨b, 0, none⟩ 1 c (ints (List.replicate K 0)).toArray 3 [.int .i64 R] Tryz.underlying115 intsize hbk (by simp only [List.length_singleton, Nat.min_def]; split <;> omega)
        (fun j v hj => by
          have hj0 : j = 0 := by have := (List.getElem?_eq_some_iff.1 hj).1; simp at this; omega
          subst hj0
          simp at hj
          subst hj
          exact hb1) (by rw [hsz]; simp; omega) (fun v hv => by simp at hv; subst hv; rfl)
      rw [hr]
      have e : ((ints (List.replicate K 0)).toArray.toList.take 0 ++ [Value.int .i64 R] ++ (ints (List.replicate K 0)).toArray.toList.drop (0 + [Value.int .i64 R].length)) = ints (rep 1 K R) := by
        simp [ints, rep]
      rw [e]
      rfl
    go_enter Tryz.func121, Tryz.ntmps121
    go_wp2_with fail
    refine (Any.bits_Mul Tryz.drMul 1 K (by omega) (by omega) w).mono ?_
    rintro e w' ⟨rfl, rfl⟩
    rw [show 1 * K / 18446744073709551616 = 0 by omega, show 1 * K % 18446744073709551616 = K by omega]
    have HB2 : Hid (Below w'.heap.size w' w2) := hB1.trans (ht2.below hB1.size (by simp))
    have HK2 : Hid (Bk w2 w'.heap.size 3 (ints (rep 1 K R)).toArray) := hb2
    clear hb2 ht2 hbk hb1 hbb HI0
    go_wp2_with fail
    go_loopw [8] (fun nv wr => ∃ m : Nat, 1 ≤ m ∧ m ≤ K ∧ nv = .int .i64 (m : Int) ∧ Hid (Bk wr w'.heap.size 3 (ints (rep m K R)).toArray ∧ Below w'.heap.size w' wr)) (fun nv _ => K - (intOf nv).toNat)
    case atStart => exact ⟨1, Nat.le_refl _, by omega, rfl, HK2.out, HB2.out⟩
    case round =>
      obtain ⟨m, hm1, hmK, rfl, HW⟩ := hrel
      clear HK2 HB2 hcp hmk
      by_cases hlt : m < K
      · have hli : (m : Int) < (K : Int) := by omega
        have hle : (m : Int) ≤ (K : Int) := by omega
        have hm0 : (0 : Int) ≤ (m : Int) := by omega
        have hne : ¬ K = m := by omega
        obtain ⟨q, hq⟩ : ∃ q, q = Nat.min m (K - m) := ⟨_, rfl⟩
        have hqb : 1 ≤ q ∧ q ≤ K - m := by subst hq; simp only [Nat.min_def]; split <;> omega
        obtain ⟨w3, hcp, hb3, ht3⟩ : ∃ w3, (∀ ty dc sc, (Builtin.copy_ #[115, 115] ty #[.slice (some ⟨w'.heap.size, m, none⟩) (K - m) dc, .slice (some ⟨w'.heap.size, 0, none⟩) m sc]).run Tryz.prog wr.drew = .ok (goInt (q : Int)) w3) ∧ Bk w3 w'.heap.size 3 (ints (rep (m + q) K R)).toArray ∧ Tn [w'.heap.size] wr.drew w3 := by
          exact copy_rep (w := wr.drew) HW.out.1 hq hmK
        have HE : Hid (Bk w3 w'.heap.size 3 (ints (rep (m + q) K R)).toArray ∧ Below w'.heap.size w' w3) := ⟨hb3, (HW.out.2.drew).trans (ht3.below HW.out.2.size (by simp))⟩
        clear hb3 ht3 HW hq
        go_wp2_with fail
        go_region
        go_wp2
        exact ⟨⟨m + q, by omega, by omega, by go_num, HE⟩, by simp [intOf]; omega⟩
      · have hli : ¬ (m : Int) < (K : Int) := by omega
        have hmE : m = K := by omega
        have HE : Hid (Ir wr w'.heap.size (.slice (some ⟨w'.heap.size, 0, none⟩) K K) (List.replicate K R) ∧ Below w'.heap.size w' wr) := by
          refine ⟨?_, HW.out.2⟩
          have h1 := HW.out.1
          rw [hmE] at h1
          have e : rep K K R = List.replicate K R := by simp [rep]
          rw [e] at h1
          unfold Ir
          rw [List.length_replicate]
          exact ⟨by simp [ints], .inr ⟨_, K, _, rfl, Nat.le_refl _, h1, Nat.le_refl _, by unfold maxLen; omega, by simp [ints], by simp [ints]⟩⟩
        clear HW
        go_wp2
        go_ret
        exact ⟨rfl, HE.out.1, HE.out.2⟩
end Go.Proofs.YthpilennljpamaaGreat

namespace Go.Proofs.YthpilennljpamaaGreat
open Go.RowKit Go.Lib Go.Shelf Dr
attribute [local go_sem] Oper.semAt_some
set_option linter.unusedVariables false
set_option maxRecDepth 100000

abbrev nilS : Value := .slice none 0 0

section
variable {w w' : World} {base B : Nat} {T : TypeId} {vals : Array Value} {rows : List Rs}

/-- A new row beside the others. -/
theorem Cl.add (h : Cl w base B T vals rows) (ht : Tn [] w w') {r : Rs} {g : Nat} (ho : w'.ownsRow base r.t r.sz r.v r.n r.xs) (hv : r.v.ownBlock = some g) (hg : w.heap.size ≤ g) : Cl w' base B T vals (rows ++ [r]) := by
  have h' := h.still ht
  have hold : ∀ (i : Nat) q k, rows[i]? = some q → q.v.ownBlock = some k → k < w.heap.size := fun i q k hi hk => ((h.row i q hi).lt k hk).2
  have key : ∀ (i : Nat) q, (rows ++ [r])[i]? = some q → rows[i]? = some q ∨ (i = rows.length ∧ q = r) := by
    intro i q hi
    by_cases hl : i < rows.length
    · rw [List.getElem?_append_left hl] at hi
      exact .inl hi
    · rw [List.getElem?_append_right (by omega)] at hi
      have : i - rows.length < 1 := by have := (List.getElem?_eq_some_iff.1 hi).1; simpa using this
      have h0 : i - rows.length = 0 := by omega
      rw [h0] at hi
      simp at hi
      exact .inr ⟨by omega, hi.symm⟩
  refine ⟨h'.blk, h'.ge, fun i q hi => ?_, fun i q hi => ?_, fun i j q p k hi hj h1 h2 => ?_⟩
  · rcases key i q hi with h1 | ⟨_, rfl⟩
    · exact h'.row i q h1
    · exact ho
  · rcases key i q hi with h1 | ⟨_, rfl⟩
    · exact h'.ne i q h1
    · rw [hv]
      have := h.blk.lt
      intro e
      cases e
      omega
  · rcases key i q hi with a1 | ⟨a1, rfl⟩
    · rcases key j p hj with b1 | ⟨b1, rfl⟩
      · exact h'.apart i j q p k a1 b1 h1 h2
      · have := hold i q k a1 h1
        rw [hv] at h2
        cases h2
        omega
    · rcases key j p hj with b1 | ⟨b1, rfl⟩
      · have := hold j p k b1 h2
        rw [hv] at h1
        cases h1
        omega
      · omega

theorem row_mono {base' : Nat} {e : TypeId} {size n : Nat} {v : Value} {xs : List Value} (h : w.ownsRow base e size v n xs) (hb : base' ≤ base) : w.ownsRow base' e size v n xs := by
  refine ⟨h.1, ?_⟩
  rcases h.2 with h1 | ⟨g, cap, cur, hv, hg, rest⟩
  · exact .inl h1
  · exact .inr ⟨g, cap, cur, hv, by omega, rest⟩

/-- A row of zeros is made. -/
theorem Cl.make (h : Cl w base B T vals rows) (t : TypeId) (ht : Tryz.prog.underlying t = some (.slice 3)) (n : Nat) (hn : n ≤ 35184372088832) :
    ∃ w1, (Instr.makeSlice t (.int .i64 (n : Int)) (.int .i64 (n : Int))).run Tryz.prog w.drew = .ok (.slice (some ⟨w.heap.size, 0, none⟩) n n) w1 ∧ Cl w1 base B T vals (rows ++ [⟨3, 1, sl w.heap.size n n, n, ints (List.replicate n 0)⟩]) ∧ Tn [] w w1 := by
  obtain ⟨w1, hmk, hI, hB⟩ := make_ints t ht n hn w.drew
  have ht1 : Tn [] w w1 := (Tn.drew (Tn.refl [] w)).trans (Tn.of_below hB []) (by simp)
  refine ⟨w1, hmk, ?_, ht1⟩
  refine h.add ht1 (r := ⟨3, 1, sl w.heap.size n n, n, ints (List.replicate n 0)⟩) (g := w.heap.size) ?_ rfl (Nat.le_refl _)
  have h1 := hI
  unfold Ir at h1
  rw [List.length_replicate] at h1
  exact row_mono h1 (by have := h.blk.lt; have := h.ge; show base ≤ w.heap.size; omega)

theorem row_kind {e : TypeId} {size n : Nat} {v : Value} {xs : List Value} (h : w.ownsRow base e size v n xs) {g : Nat} (hg : v.ownBlock = some g) : ∃ o : Obj, w.heap[g]? = some o ∧ o.isCells = true := by
  rcases h.2 with ⟨rfl, _⟩ | ⟨g', cap, cur, rfl, _, hb, _⟩
  · cases hg
  · cases hg
    exact ⟨_, hb, rfl⟩

/-- What is no block of cells may turn. -/
theorem Cl.abides (h : Cl w base B T vals rows) {row : Option Nat} {m : Nat} (hg : w.grownBy w' row) (hr : ∀ r, row = some r → m ≤ r ∧ ∃ o : Obj, w.heap[r]? = some o ∧ o.isCells = false) : Cl w' base B T vals rows := by
  refine ⟨bk_from h.blk hg hr, h.ge, fun i r hi => ?_, h.ne, h.apart⟩
  refine row_tn (h.row i r hi) (tn_grown hg) fun k hk hm => ?_
  obtain ⟨o, ho, hc⟩ := row_kind (h.row i r hi) hk
  have : row = some k := by
    cases row with
    | none => simp at hm
    | some x => simp at hm; rw [hm]
  obtain ⟨_, o', ho', hc'⟩ := hr k this
  rw [ho] at ho'
  cases ho'
  rw [hc] at hc'
  cases hc'
end

theorem bw_idx {l : List En} {pre : List (Nat × En)} {x : Nat × En} (h : pre ++ [x] <+: Pg.bw l) : x.1 + pre.length + 1 = l.length ∧ l[x.1]? = some x.2 := by
  obtain ⟨t, ht⟩ := h
  have hn : pre.length < l.length := by rw [← Pg.bw_len, ← ht]; simp
  have h0 : (Pg.bw l)[pre.length]? = some x := by rw [← ht]; simp
  have hx0 : l[l.length - 1 - pre.length]? = some l[l.length - 1 - pre.length] := List.getElem?_eq_getElem (by omega)
  have h1 := Pg.bw_at (k := l.length - 1 - pre.length) (by omega) hx0
  rw [show l.length - 1 - (l.length - 1 - pre.length) = pre.length by omega, h0] at h1
  cases h1
  exact ⟨by simp only; omega, hx0⟩

def lkVals (vK vR : Value) (gk gn gf R K : Nat) : Array Value := #[vK, vR, .int .i64 0, sl gk R R, sl gn R R, sl gf K K, nilS, nilS, nilS, nilS]
def lkRows (ks : List (List UInt8)) (row : List En) (vK vR : Value) (gk gn gf R K j : Nat) : List Rs := [⟨9, 1, vK, K, ks.map encStr⟩, ⟨30, 4, vR, R, flatE row⟩, ⟨3, 1, sl gk R R, R, ints (ofs (upFrom (knOf ks row) j))⟩, ⟨3, 1, sl gn R R, R, ints (ofs (upFrom (nxOf (knOf ks row)) j))⟩, ⟨3, 1, sl gf K K, K, ints (ofs (fsOf (knOf ks row) K j))⟩]

/-- Between the rounds of link. -/
structure Lnk (w W : World) (base B : Nat) (ks : List (List UInt8)) (row : List En) (vK vR : Value) (gk gn gf R K m j : Nat) : Prop where
  cl : Cl W base B 118 (lkVals vK vR gk gn gf R K) (lkRows ks row vK vR gk gn gf R K j)
  bx : Bk W w.heap.size 99 #[.pointer (some ⟨B, 0, none⟩)]
  below : Tn [B] w W
  sz : m ≤ W.heap.size

theorem Lnk.abides {w W W' : World} {base B : Nat} {ks : List (List UInt8)} {row : List En} {vK vR : Value} {gk gn gf R K m j : Nat} {rw' : Option Nat} {k : Nat} (h : Lnk w W base B ks row vK vR gk gn gf R K m j) (hm : w.heap.size ≤ k) (hg : W.grownBy W' rw') (hr : ∀ r, rw' = some r → k ≤ r ∧ ∃ o : Obj, W.heap[r]? = some o ∧ o.isCells = false) : Lnk w W' base B ks row vK vR gk gn gf R K m j where
  cl := h.cl.abides hg hr
  bx := bk_from h.bx hg hr
  below := h.below.grown hg (fun k hk => .inr (by have := (hr k hk).1; omega))
  sz := Nat.le_trans h.sz hg.size
theorem Lnk.still {w W W' : World} {base B : Nat} {ks : List (List UInt8)} {row : List En} {vK vR : Value} {gk gn gf R K m j : Nat} (h : Lnk w W base B ks row vK vR gk gn gf R K m j) (ht : Tn [] W W') : Lnk w W' base B ks row vK vR gk gn gf R K m j where
  cl := h.cl.still ht
  bx := h.bx.tn ht (by simp)
  below := h.below.trans ht (by simp)
  sz := Nat.le_trans h.sz ht.size

theorem up_all (l : List Nat) (R : Nat) (h : l.length = R) : ofs (upFrom l R) = List.replicate R 0 := by
  unfold upFrom ofs
  rw [List.drop_of_length_le (by omega), List.append_nil, List.map_replicate]
  rfl
theorem fs_all (kn : List Nat) (K R : Nat) (h : kn.length = R) : ofs (fsOf kn K R) = List.replicate K (R : Int) := by
  unfold fsOf ofs
  rw [List.map_map]
  apply List.ext_getElem?
  intro i
  by_cases hi : i < K
  · simp only [List.getElem?_map, List.getElem?_range hi, Option.map_some, List.getElem?_replicate, hi, if_true, Function.comp]
    unfold fsAt
    rw [List.drop_of_length_le (by omega)]
    simp
  · rw [List.getElem?_eq_none (by simp; omega), List.getElem?_eq_none (by simp; omega)]

section
variable {w : World} {base B : Nat} {ks : List (List UInt8)} {row : List En} {vK vR : Value}

set_option maxHeartbeats 8000000 in
theorem link_any {K R : Nat} (h : Cl w base B 118 #[vK, vR, .int .i64 0, nilS, nilS, nilS, nilS, nilS, nilS, nilS] [⟨9, 1, vK, K, ks.map encStr⟩, ⟨30, 4, vR, R, flatE row⟩]) (hK : ks.length = K) (hR : row.length = R) (hrise : Rise ks) (hkw : ∀ e ∈ row, kw ks e.key) (hbK : K ≤ 8796093022207) (hbR : R ≤ 4398046511104) :
    Calls Tryz.prog 96 #[.pointer (some ⟨B, 0, none⟩)] w fun e w' => e = .returned (.tuple #[]) ∧ (∃ gk gn gf, Cl w' base B 118 #[vK, vR, .int .i64 0, sl gk R R, sl gn R R, sl gf K K, nilS, nilS, nilS, nilS] [⟨9, 1, vK, K, ks.map encStr⟩, ⟨30, 4, vR, R, flatE row⟩, ⟨3, 1, sl gk R R, R, ints (ofs (knOf ks row))⟩, ⟨3, 1, sl gn R R, R, ints (ofs (nxOf (knOf ks row)))⟩, ⟨3, 1, sl gf K K, K, ints (ofs (fsOf (knOf ks row) K 0))⟩]) ∧ Tn [B] w w' := by
  obtain ⟨pR, cR, hvR⟩ : ∃ p c, vR = .slice p R c := by
    rcases (h.row 1 _ rfl).2 with ⟨hv, hn⟩ | ⟨g, cap, cur, hv, _⟩
    · exact ⟨none, 0, by simp only at hv hn; rw [hv, hn]⟩
    · exact ⟨_, cap, hv⟩
  obtain ⟨pK, cK, hvK⟩ : ∃ p c, vK = .slice p K c := by
    rcases (h.row 0 _ rfl).2 with ⟨hv, hn⟩ | ⟨g, cap, cur, hv, _⟩
    · exact ⟨none, 0, by simp only at hv hn; rw [hv, hn]⟩
    · exact ⟨_, cap, hv⟩
  have HVR : Hid (vR = .slice pR R cR) := hvR
  have HVK : Hid (vK = .slice pK K cK) := hvK
  have hbz : base ≤ w.heap.size := by have := h.blk.lt; have := h.ge; omega
  have HVB : Hid (∀ b, vR.ownBlock = some b → b < w.heap.size) := fun b hb => ((h.row 1 _ rfl).lt b hb).2
  refine calls_of_wpAt Tryz.func96 rfl ?_
  simp only [Tryz.ntmps96, List.size_toArray, List.length_cons, List.length_nil, Nat.reduceAdd, Nat.reduceSub, Array.replicate_succ, Array.replicate_zero, List.push_toArray, List.append_toArray, List.nil_append, List.cons_append]
  obtain ⟨w0, hw0⟩ : ∃ w0, w0 = w.alloc (.cells #[.pointer (some ⟨B, 0, none⟩)] 99) := ⟨_, rfl⟩
  have ht0 : Tn [] w w0 := by rw [hw0]; exact (Tn.refl [] w).alloc _
  have HP0 : Hid (Bk w0 w.heap.size 99 #[.pointer (some ⟨B, 0, none⟩)]) := by rw [hw0]; exact Bk.new _ _ _
  have HC0 : Hid (Cl w0 base B 118 #[vK, vR, .int .i64 0, nilS, nilS, nilS, nilS, nilS, nilS, nilS] [⟨9, 1, vK, K, ks.map encStr⟩, ⟨30, 4, vR, R, flatE row⟩]) := h.still ht0
  have HBw : Hid (Tn [B] w w0) := ht0.mono (by simp)
  have HPB : Hid (B < w.heap.size) := h.blk.lt
  clear h ht0
  refine wpAt_seq_k fun K2 hK2 => wpAt_of_wp ?_
  go_wp2
  rw [← hw0]
  clear hw0
  refine wpAt_seq_k fun K2 hK2 => wpAt_of_wp ?_
  have p0 : w0.cell? ⟨w.heap.size, 0, none⟩ = some (.pointer (some ⟨B, 0, none⟩)) := HP0.out.cell 0
  have x1 : w0.cell? ⟨B, 1, none⟩ = some (.slice pR R cR) := by rw [← HVR.out]; exact HC0.out.blk.cell 1
  obtain ⟨w1, hmk, hc1, ht1⟩ := HC0.out.make 115 Tryz.underlying115 R (by omega)
  have q0 : w1.cell? ⟨w.heap.size, 0, none⟩ = some (.pointer (some ⟨B, 0, none⟩)) := (HP0.out.tn ht1 (by simp)).cell 0
  have y3 : w1.cell? ⟨B, 3, none⟩ = some nilS := hc1.blk.cell 3
  have f3 : w1.frozen? ⟨B, 3, none⟩ = false := hc1.blk.frozen 3
  have y1 : w1.cell? ⟨B, 1, none⟩ = some (.slice pR R cR) := by rw [← HVR.out]; exact hc1.blk.cell 1
  go_wp2_with fail
  go_region
  obtain ⟨hc2, ht2⟩ := hc1.put 3 (sl w0.heap.size R R)
  have ht12 : Tn [B] w0 (w1.setCell ⟨B, 3, none⟩ (sl w0.heap.size R R)) := (ht1.mono (by simp)).trans ht2 (by simp)
  obtain ⟨gk, hgk⟩ : ∃ gk, gk = w0.heap.size := ⟨_, rfl⟩
  obtain ⟨w2, hw2⟩ : ∃ w2, w2 = w1.setCell ⟨B, 3, none⟩ (sl w0.heap.size R R) := ⟨_, rfl⟩
  rw [← hw2] at hc2 ht12 ⊢
  rw [← hgk] at hc2 ⊢
  have HC2 : Hid (Cl w2 base B 118 #[vK, vR, .int .i64 0, sl gk R R, nilS, nilS, nilS, nilS, nilS, nilS] [⟨9, 1, vK, K, ks.map encStr⟩, ⟨30, 4, vR, R, flatE row⟩, ⟨3, 1, sl gk R R, R, ints (List.replicate R 0)⟩]) := hc2
  have HP2 : Hid (Bk w2 w.heap.size 99 #[.pointer (some ⟨B, 0, none⟩)]) := HP0.out.tn ht12 (by have := HPB.out; simp; omega)
  have HB2 : Hid (Tn [B] w w2) := HBw.out.trans ht12 (fun x hx => .inl hx)
  have HNK : Hid (w.heap.size ≠ gk) := by have := HP0.out.lt; rw [Hid]; omega
  have hgek : w.heap.size ≤ gk := by have := HP0.out.lt; omega
  clear hc1 hc2 ht1 ht2 ht12 hw2 hgk hmk HC0 HP0 HBw p0 x1 q0 y3 f3 y1
  go_wp2
  refine wpAt_seq_k fun K2 hK2 => wpAt_of_wp ?_
  have p0 : w2.cell? ⟨w.heap.size, 0, none⟩ = some (.pointer (some ⟨B, 0, none⟩)) := HP2.out.cell 0
  have x1 : w2.cell? ⟨B, 1, none⟩ = some (.slice pR R cR) := by rw [← HVR.out]; exact HC2.out.blk.cell 1
  obtain ⟨w3, hmk, hc3, ht3⟩ := HC2.out.make 115 Tryz.underlying115 R (by omega)
  have q0 : w3.cell? ⟨w.heap.size, 0, none⟩ = some (.pointer (some ⟨B, 0, none⟩)) := (HP2.out.tn ht3 (by simp)).cell 0
  have y3 : w3.cell? ⟨B, 4, none⟩ = some nilS := hc3.blk.cell 4
  have f3 : w3.frozen? ⟨B, 4, none⟩ = false := hc3.blk.frozen 4
  have y1 : w3.cell? ⟨B, 1, none⟩ = some (.slice pR R cR) := by rw [← HVR.out]; exact hc3.blk.cell 1
  go_wp2_with fail
  go_region
  obtain ⟨hc4, ht4⟩ := hc3.put 4 (sl w2.heap.size R R)
  have ht34 : Tn [B] w2 (w3.setCell ⟨B, 4, none⟩ (sl w2.heap.size R R)) := (ht3.mono (by simp)).trans ht4 (by simp)
  obtain ⟨gn, hgn⟩ : ∃ gn, gn = w2.heap.size := ⟨_, rfl⟩
  obtain ⟨w4, hw4⟩ : ∃ w4, w4 = w3.setCell ⟨B, 4, none⟩ (sl w2.heap.size R R) := ⟨_, rfl⟩
  rw [← hw4] at hc4 ht34 ⊢
  rw [← hgn] at hc4 ⊢
  have HC4 : Hid (Cl w4 base B 118 #[vK, vR, .int .i64 0, sl gk R R, sl gn R R, nilS, nilS, nilS, nilS, nilS] [⟨9, 1, vK, K, ks.map encStr⟩, ⟨30, 4, vR, R, flatE row⟩, ⟨3, 1, sl gk R R, R, ints (List.replicate R 0)⟩, ⟨3, 1, sl gn R R, R, ints (List.replicate R 0)⟩]) := hc4
  have HP4 : Hid (Bk w4 w.heap.size 99 #[.pointer (some ⟨B, 0, none⟩)]) := HP2.out.tn ht34 (by have := HPB.out; simp; omega)
  have HB4 : Hid (Tn [B] w w4) := HB2.out.trans ht34 (fun x hx => .inl hx)
  have HNN : Hid (w.heap.size ≠ gn) := by have := HP2.out.lt; rw [Hid]; omega
  have hgen : w.heap.size ≤ gn := by have := HP2.out.lt; omega
  clear hc3 hc4 ht3 ht4 ht34 hw4 hgn hmk HC2 HP2 HB2 p0 x1 q0 y3 f3 y1
  go_wp2
  refine wpAt_seq_k fun K2 hK2 => wpAt_of_wp ?_
  have p0 : w4.cell? ⟨w.heap.size, 0, none⟩ = some (.pointer (some ⟨B, 0, none⟩)) := HP4.out.cell 0
  have x1 : w4.cell? ⟨B, 1, none⟩ = some (.slice pR R cR) := by rw [← HVR.out]; exact HC4.out.blk.cell 1
  have x0 : w4.cell? ⟨B, 0, none⟩ = some (.slice pK K cK) := by rw [← HVK.out]; exact HC4.out.blk.cell 0
  have hBl : B < w4.heap.size := HC4.out.blk.lt
  have hPl : w.heap.size < w4.heap.size := HP4.out.lt
  have HRP : Hid (∀ w5 w6, w5 = w4.drew.alloc (.cells #[.int .i64 (R : Int)] 3) → Below w5.heap.size w5 w6 → Ir w6 w5.heap.size (.slice (some ⟨w5.heap.size, 0, none⟩) K K) (List.replicate K (R : Int)) → Cl w6 base B 118 #[vK, vR, .int .i64 0, sl gk R R, sl gn R R, nilS, nilS, nilS, nilS, nilS] [⟨9, 1, vK, K, ks.map encStr⟩, ⟨30, 4, vR, R, flatE row⟩, ⟨3, 1, sl gk R R, R, ints (List.replicate R 0)⟩, ⟨3, 1, sl gn R R, R, ints (List.replicate R 0)⟩, ⟨3, 1, sl w5.heap.size K K, K, ints (List.replicate K (R : Int))⟩] ∧ Tn [] w4 w6) := by
    intro w5 w6 h5 hb6 hi6
    have ht5 : Tn [] w4 w5 := by rw [h5]; exact (Tn.drew (Tn.refl [] w4)).alloc _
    have ht6 : Tn [] w4 w6 := ht5.trans (Tn.of_below hb6 []) (by simp)
    refine ⟨HC4.out.add ht6 (r := ⟨3, 1, sl w5.heap.size K K, K, ints (List.replicate K (R : Int))⟩) (g := w5.heap.size) ?_ rfl ht5.size, ht6⟩
    have h1 := hi6
    unfold Ir at h1
    rw [List.length_replicate] at h1
    exact row_mono h1 (by have := HB4.out.size; have := ht5.size; show base ≤ w5.heap.size; omega)
  go_wp2_with fail
  go_region_held3 (fun w' => w'.cell? ⟨w.heap.size, 0, none⟩ = some (.pointer (some ⟨B, 0, none⟩)) ∧ w'.cell? ⟨B, 0, none⟩ = some (.slice pK K cK) ∧ w'.cell? ⟨B, 1, none⟩ = some (.slice pR R cR)) (go_keep) (first | (go_at_call 121; refine (repeat_any _ _ K (R : Int) _ (by simp) hbK).mono ?_; rintro e w6 ⟨rfl, hi6, hb6⟩; have hcl6 := HRP.out _ w6 rfl hb6 hi6; have q0 : w6.cell? ⟨w.heap.size, 0, none⟩ = some (.pointer (some ⟨B, 0, none⟩)) := (HP4.out.tn hcl6.2 (by simp)).cell 0; have q1 : w6.cell? ⟨B, 0, none⟩ = some (.slice pK K cK) := (by (rw [← HVK.out]; exact hcl6.1.blk.cell 0)); have q2 : w6.cell? ⟨B, 1, none⟩ = some (.slice pR R cR) := (by (rw [← HVR.out]; exact hcl6.1.blk.cell 1)); have q5 : w6.cell? ⟨B, 5, none⟩ = some nilS := hcl6.1.blk.cell 5; have f5 : w6.frozen? ⟨B, 5, none⟩ = false := hcl6.1.blk.frozen 5; have r0 : ∀ u, (w6.setCell ⟨B, 5, none⟩ u).cell? ⟨w.heap.size, 0, none⟩ = some (.pointer (some ⟨B, 0, none⟩)) := fun u => ((HP4.out.tn hcl6.2 (by simp)).other (p := ⟨B, 5, none⟩) (by have := HPB.out; simp; omega) u).cell 0; have r1 : ∀ u, (w6.setCell ⟨B, 5, none⟩ u).cell? ⟨B, 0, none⟩ = some (.slice pK K cK) := fun u => (by (rw [← HVK.out]; exact (hcl6.1.blk.set 5 u).cell 0)); have r2 : ∀ u, (w6.setCell ⟨B, 5, none⟩ u).cell? ⟨B, 1, none⟩ = some (.slice pR R cR) := fun u => (by (rw [← HVR.out]; exact (hcl6.1.blk.set 5 u).cell 1))))
  obtain ⟨hc7, ht7⟩ := hcl6.1.put 5 (sl (w4.heap.size + 1) K K)
  have ht67 : Tn [B] w4 (w6.setCell ⟨B, 5, none⟩ (sl (w4.heap.size + 1) K K)) := (hcl6.2.mono (by simp)).trans ht7 (by simp)
  obtain ⟨gf, hgf⟩ : ∃ gf, gf = w4.heap.size + 1 := ⟨_, rfl⟩
  have hgf2 : (w4.drew.alloc (.cells #[.int .i64 (R : Int)] 3)).heap.size = gf := by rw [hgf]; simp
  rw [hgf2] at hc7
  obtain ⟨w7, hw7⟩ : ∃ w7, w7 = w6.setCell ⟨B, 5, none⟩ (sl (w4.heap.size + 1) K K) := ⟨_, rfl⟩
  rw [← hw7] at hc7 ht67 ⊢
  rw [← hgf] at hc7 ⊢
  have hkn := knOf_len ks row
  have HU7 : Hid (Lnk w w7 base B ks row vK vR gk gn gf R K 0 R) := by
    refine ⟨?_, HP4.out.tn ht67 (by have := HPB.out; simp; omega), HB4.out.trans ht67 (fun x hx => .inl hx), Nat.zero_le _⟩
    unfold lkRows
    rw [up_all _ R (by omega), up_all _ R (by simp [nxOf]; omega), fs_all _ K R (by omega)]
    exact hc7
  have HNF : Hid (w.heap.size ≠ gf) := by rw [Hid]; omega
  have HGE : Hid (w.heap.size ≤ gk ∧ w.heap.size ≤ gn ∧ w.heap.size ≤ gf) := ⟨hgek, hgen, by omega⟩
  clear hc7 ht7 ht67 hw7 hgf hgf2 hcl6 hi6 hb6 q0 q1 q2 q5 f5 r0 r1 r2 HRP HC4 HP4 HB4 p0 x1 x0 hBl hPl
  go_wp2
  refine wpAt_seq_k fun K3 hK3 => wpAt_of_wp ?_
  have p0 : w7.cell? ⟨w.heap.size, 0, none⟩ = some (.pointer (some ⟨B, 0, none⟩)) := HU7.out.bx.cell 0
  have x1 : w7.cell? ⟨B, 1, none⟩ = some (.slice pR R cR) := by rw [← HVR.out]; exact HU7.out.cl.blk.cell 1
  go_wp2_with fail
  refine (back_any pR R cR w7).mono ?_
  rintro e w8 ⟨rfl, hw8⟩
  have ht8 : Tn [] w7 w8 := by rw [hw8]; exact (Tn.refl _ _).alloc _
  have hU8 : Lnk w w8 base B ks row vK vR gk gn gf R K w8.heap.size R := { HU7.out.still ht8 with sz := Nat.le_refl _ }
  have hk8 : Bk w8 w7.heap.size 22 #[.slice pR R cR] := by rw [hw8]; exact Bk.new _ _ _
  have hs8 : w7.heap.size < w8.heap.size := hk8.lt
  have hs7 : w.heap.size < w7.heap.size := HU7.out.bx.lt
  have hens : Ens w8 pR row := by
    have h1 : w8.ownsRow base 30 4 vR R (flatE row) := hU8.cl.row 1 _ rfl
    have h2 : OwnE w8 base vR row := by unfold OwnE; rw [hR]; exact h1
    rw [HVR.out] at h2
    obtain ⟨p', c', hv', he', _⟩ := h2.ens
    simp only [Value.slice.injEq] at hv'
    obtain ⟨rfl, _⟩ := hv'
    exact he'
  obtain ⟨S, hSm, hFm⟩ : ∃ S : List Nat, (∀ b ∈ S, b = w7.heap.size ∨ vR.ownBlock = some b) ∧ Fm w8 w7.heap.size S row := by
    rcases Nat.eq_zero_or_pos row.length with h0 | h0
    · exact ⟨[w7.heap.size], by simp, ⟨⟨pR, cR, by rw [hR]; exact hk8, hens, fun h => by omega⟩, by simp, by intro b hb; simp at hb; omega, by omega⟩⟩
    · obtain ⟨g, o, hp, _⟩ := hens h0
      refine ⟨[w7.heap.size, g], fun b hb => ?_, ⟨⟨pR, cR, by rw [hR]; exact hk8, hens, fun _ g' o' h => ?_⟩, by simp, fun b hb => ?_, by omega⟩⟩
      · simp only [List.mem_cons, List.not_mem_nil, or_false] at hb
        rcases hb with rfl | rfl
        · exact .inl rfl
        · right
          rw [HVR.out, hp]; rfl
      · rw [hp] at h
        cases h
        simp
      · simp only [List.mem_cons, List.not_mem_nil, or_false] at hb
        rcases hb with rfl | rfl
        · exact hs8
        · have h1 := ((hU8.cl.row 1 _ rfl).lt b (by show vR.ownBlock = some b; rw [HVR.out, hp]; rfl)).2
          exact h1
  have hseq := backE_stops hFm
  have HSL : Hid (∀ b ∈ S, b ≠ B ∧ b ≠ w.heap.size ∧ b < w8.heap.size ∧ b ≠ gk ∧ b ≠ gn ∧ b ≠ gf) := by
    intro b hb
    have hlt := hFm.lt b hb
    have hBl := hU8.cl.blk.lt
    have hrl : ∀ (i : Nat) r k, (lkRows ks row vK vR gk gn gf R K R)[i]? = some r → r.v.ownBlock = some k → k < w7.heap.size := fun i r k hi hk => ((HU7.out.cl.row i r hi).lt k hk).2
    rcases hSm b hb with rfl | h1
    · have h2 := hrl 2 _ gk rfl rfl
      have h3 := hrl 3 _ gn rfl rfl
      have h4 := hrl 4 _ gf rfl rfl
      have h5 := HU7.out.cl.blk.lt
      omega
    · refine ⟨fun e => hU8.cl.ne 1 _ rfl (by show vR.ownBlock = some B; rw [h1, e]), fun e => ?_, hlt, fun e => ?_, fun e => ?_, fun e => ?_⟩
      · have := HVB.out b h1
        omega
      · have := hU8.cl.apart 1 2 _ _ b rfl rfl h1 (by show some gk = some b; rw [e]); cases this
      · have := hU8.cl.apart 1 3 _ _ b rfl rfl h1 (by show some gn = some b; rw [e]); cases this
      · have := hU8.cl.apart 1 4 _ _ b rfl rfl h1 (by show some gf = some b; rw [e]); cases this
  clear hw8 ht8 hk8 hSm hFm hens p0 x1
  go_wp2
  refine wpAt_block ?_
  refine wpAt_boxed ?A Tryz.func96 (gf := 142) (lb := #[.pointer (some ⟨w7.heap.size, 0, none⟩)]) rfl (enters_of Tryz.func142 (by kernel_rfl) rfl)
    hseq KpP.t (fun W l o o' hl _ _ _ k hk => World.putObj_heap_other (fun e => by
      subst e
      have := (HSL.out _ hk).2.2.1
      omega)) (Below.refl _ _) (fun _ => rfl)
    (fun pre W => Lnk w W base B ks row vK vR gk gn gf R K w8.heap.size (R - pre.length))
    (fun _ _ _ => False)
    (fun _ _ _ => False)
    (fun s A B' row hs hg hr => hs.abides (k := w8.heap.size) (by omega) hg hr)
    (fun cc s A B row hs hg hr => hs.elim)
    hU8
    (fun x bx W => w8.heap.size ≤ bx ∧ Bk W bx 30 #[.string x.2.key, .int .i64 x.2.s, .int .i64 x.2.g, .int .i64 x.2.c])
    (fun x bx _ A B' row hs hg hr => ⟨hs.1, bk_from hs.2 hg hr⟩)
    ?assign ?body ?done (fun D cc pre W _ _ h _ => h.elim) (fun D cc pre W _ _ h _ => h.elim)
  case assign =>
    rintro l pre x W K hL hK
    gi_wp2
    have ht : Tn [] W (W.alloc (.cells #[.string x.2.key, .int .i64 x.2.s, .int .i64 x.2.g, .int .i64 x.2.c] 30)) := (Tn.refl _ _).alloc _
    obtain ⟨bx, hbx⟩ : ∃ bx, W.heap.size = bx := ⟨_, rfl⟩
    have kx : Bk (W.alloc (.cells #[.string x.2.key, .int .i64 x.2.s, .int .i64 x.2.g, .int .i64 x.2.c] 30)) bx 30 #[.string x.2.key, .int .i64 x.2.s, .int .i64 x.2.g, .int .i64 x.2.c] := by rw [← hbx]; exact Bk.new _ _ _
    have hle : w8.heap.size ≤ bx := by have := hL.sz; omega
    have hsl := HSL.out
    rw [hbx]
    refine hK bx _ ((keeps_tn ht (by simp)).from _) (KpP.of_tn ht (fun y hy => ⟨by have := (hsl y hy).2.2.1; omega, by simp⟩)) (hL.still ht) ⟨hle, kx⟩
  case done =>
    rintro D zs W hD rfl hT hK2
    rw [Pg.bw_len, hR, Nat.sub_self] at hT
    have HE : Hid (Lnk w W base B ks row vK vR gk gn gf R K w8.heap.size 0) := hT
    clear hT
    show bodyPostM Fence.wide 9 _ _ _ Exit.normal _ _
    refine ⟨by simp, .inl ⟨_, _, rfl, run_takeDeferred hK2, ?_⟩⟩
    have hg : W.grownBy (W.putObj D (.deferred none)) (some D) := ⟨rfl, rfl, rfl, by simp, fun k _ hk => World.putObj_heap_other (fun e => hk (by rw [e]))⟩
    have hL := HE.out.abides (k := w8.heap.size) (by omega) hg (fun r hr => by cases hr; exact ⟨hD, _, hK2, rfl⟩)
    refine ⟨_, results_none rfl _ _ _, rfl, ⟨gk, gn, gf, ?_⟩, hL.below⟩
    have e1 : ∀ l : List Nat, upFrom l 0 = l := fun l => by simp [upFrom]
    have h1 := hL.cl
    unfold lkRows at h1
    rw [e1, e1] at h1
    exact h1
  case body =>
    rintro l pre x bx W hl2 hT ⟨hbx, kx⟩ hpre
    obtain ⟨hxi, hxr⟩ := bw_idx hpre
    obtain ⟨xi, xe⟩ := x
    simp only at hxi hxr kx
    rw [hR] at hxi
    have hj : R - pre.length = xi + 1 := by omega
    rw [hj] at hT
    have hxR : xi < R := by omega
    have hkwx : kw ks xe.key := hkw xe (List.mem_of_getElem? hxr)
    have hnum : (knOf ks row).getD xi 0 = num ks xe.key := by
      rw [knOf_at (by omega)]
      simp [List.getD, hxr]
    obtain ⟨n, hn⟩ : ∃ n : Nat, num ks xe.key = n := ⟨_, rfl⟩
    have hnK : n < K := by rw [← hn, ← hK]; exact (num_nu hrise).lt _ hkwx
    rw [hn] at hnum
    have HT : Hid (Lnk w W base B ks row vK vR gk gn gf R K w8.heap.size (xi + 1)) := hT
    have HKX : Hid (Bk W bx 30 #[.string xe.key, .int .i64 xe.s, .int .i64 xe.g, .int .i64 xe.c]) := kx
    have p0 : W.cell? ⟨w.heap.size, 0, none⟩ = some (.pointer (some ⟨B, 0, none⟩)) := hT.bx.cell 0
    have e0 : W.cell? ⟨bx, 0, none⟩ = some (.string xe.key) := kx.cell 0
    clear hT kx
    gi_wp2_with fail
    refine ⟨trivial, ?_⟩
    refine (CallsIn.inRound l (callsIn_wide.2 (number_row (HT.out.cl.blk.cell 0) (HT.out.cl.row 0 _ rfl) hK hbK hrise xe.key))).mono ?_
    rintro e W2 ⟨rfl, ht2⟩
    rw [hn]
    have HT2 : Hid (Lnk w W2 base B ks row vK vR gk gn gf R K w8.heap.size (xi + 1)) := HT.out.still ht2
    have hkn2 : (upFrom (knOf ks row) (xi + 1)).length = R := by rw [upFrom_len _ _ (by omega)]; omega
    have kr := HT2.out.cl.row 2 _ rfl
    have kc := row_ints kr xi hxR
    have kf : W2.frozen? ⟨gk, xi, none⟩ = false := World.ownsRow.frozenAt kr xi
    have kst := World.ownsRow.stored kr xi (.int .i64 (n : Int))
    have ht3 := tn_grown kst.2
    have hc3 := HT2.out.cl.turn (i := 2) rfl rfl ht3 kst.1
    obtain ⟨W3, hW3⟩ : ∃ W3, W2.setCell ⟨gk, xi, none⟩ (.int .i64 (n : Int)) = W3 := ⟨_, rfl⟩
    rw [hW3] at ht3 hc3
    have hgkl : gk < W2.heap.size := (kr.lt gk rfl).2
    have p0' : W2.cell? ⟨w.heap.size, 0, none⟩ = some (.pointer (some ⟨B, 0, none⟩)) := HT2.out.bx.cell 0
    have y3 : W2.cell? ⟨B, 3, none⟩ = some (sl gk R R) := HT2.out.cl.blk.cell 3
    have ai : (xi : Int) < (R : Int) := by omega
    have a0 : (0 : Int) ≤ (xi : Int) := by omega
    have ni : (n : Int) < (K : Int) := by omega
    have n0 : (0 : Int) ≤ (n : Int) := by omega
    clear p0 e0
    -- next[at] = first[n]
    have hb3 : Bk W3 w.heap.size 99 #[.pointer (some ⟨B, 0, none⟩)] := HT2.out.bx.tn ht3 (by have := HNK.out; simp; exact this)
    have p1 : W3.cell? ⟨w.heap.size, 0, none⟩ = some (.pointer (some ⟨B, 0, none⟩)) := hb3.cell 0
    have z4 : W3.cell? ⟨B, 4, none⟩ = some (sl gn R R) := hc3.blk.cell 4
    have z5 : W3.cell? ⟨B, 5, none⟩ = some (sl gf K K) := hc3.blk.cell 5
    have nr := hc3.row 3 _ rfl
    have fr := hc3.row 4 _ rfl
    have fc : W3.cell? ⟨gf, n, none⟩ = some (.int .i64 ((fsAt (knOf ks row) (xi + 1) n : Nat) : Int)) := by
      rw [row_ints fr n hnK, ofs_at, fsOf_at hnK]
    have nc := row_ints nr xi hxR
    have nf : W3.frozen? ⟨gn, xi, none⟩ = false := World.ownsRow.frozenAt nr xi
    obtain ⟨fv, hfv⟩ : ∃ fv : Nat, fsAt (knOf ks row) (xi + 1) n = fv := ⟨_, rfl⟩
    rw [hfv] at fc
    have nst := World.ownsRow.stored nr xi (.int .i64 (fv : Int))
    have ht4 := tn_grown nst.2
    have hc4 := hc3.turn (i := 3) rfl rfl ht4 nst.1
    have hb4 := hb3.tn ht4 (by have := HNN.out; simp; exact this)
    obtain ⟨W4, hW4⟩ : ∃ W4, W3.setCell ⟨gn, xi, none⟩ (.int .i64 (fv : Int)) = W4 := ⟨_, rfl⟩
    rw [hW4] at ht4 hc4 hb4
    -- first[n] = at
    have hc4d := hc4.still (Tn.drew (Tn.refl [] W4))
    have hb4d := hb4.tn (Tn.drew (Tn.refl [] W4)) (by simp)
    have p2 : W4.cell? ⟨w.heap.size, 0, none⟩ = some (.pointer (some ⟨B, 0, none⟩)) := hb4.cell 0
    have u5 : W4.cell? ⟨B, 5, none⟩ = some (sl gf K K) := hc4.blk.cell 5
    have fr4 := hc4.row 4 _ rfl
    have fc4 := row_ints fr4 n hnK
    have ff4 : W4.frozen? ⟨gf, n, none⟩ = false := World.ownsRow.frozenAt fr4 n
    have fst := World.ownsRow.stored (hc4d.row 4 _ rfl) n (.int .i64 (xi : Int))
    have ht5 := tn_grown fst.2
    have hc5 := hc4d.turn (i := 4) rfl rfl ht5 fst.1
    have hb5 := hb4d.tn ht5 (by have := HNF.out; simp; exact this)
    have HE : Hid (Lnk w (W4.drew.setCell ⟨gf, n, none⟩ (.int .i64 (xi : Int))) base B ks row vK vR gk gn gf R K w8.heap.size xi ∧ Tn [gk, gn, gf] W (W4.drew.setCell ⟨gf, n, none⟩ (.int .i64 (xi : Int)))) := by
      have htt : Tn [gk, gn, gf] W (W4.drew.setCell ⟨gf, n, none⟩ (.int .i64 (xi : Int))) := by
        refine Tn.trans (ht2.mono (by simp)) (T := [gk, gn, gf]) ?_ (fun x hx => .inl hx)
        refine Tn.trans (ht3.mono (by simp)) (T := [gk, gn, gf]) ?_ (fun x hx => .inl hx)
        refine Tn.trans (ht4.mono (by simp)) (T := [gk, gn, gf]) ?_ (fun x hx => .inl hx)
        refine Tn.trans (Tn.drew (Tn.refl [] W4) |>.mono (by simp)) (T := [gk, gn, gf]) ?_ (fun x hx => .inl hx)
        exact ht5.mono (by simp)
      refine ⟨⟨?_, hb5, HT.out.below.trans htt ?_, Nat.le_trans HT.out.sz htt.size⟩, htt⟩
      · have e1 : ints (ofs (upFrom (knOf ks row) xi)) = (ints (ofs (upFrom (knOf ks row) (xi + 1)))).set xi (.int .i64 (n : Int)) := by
          rw [← upFrom_step (by omega), hnum, ofs_set]; simp [ints, List.map_set]
        have e2 : ints (ofs (upFrom (nxOf (knOf ks row)) xi)) = (ints (ofs (upFrom (nxOf (knOf ks row)) (xi + 1)))).set xi (.int .i64 (fv : Int)) := by
          have hl : xi < (nxOf (knOf ks row)).length := by simp [nxOf]; omega
          rw [← upFrom_step hl, nxOf_at (by omega), hnum, hfv, ofs_set]; simp [ints, List.map_set]
        have e3 : ints (ofs (fsOf (knOf ks row) K xi)) = (ints (ofs (fsOf (knOf ks row) K (xi + 1)))).set n (.int .i64 (xi : Int)) := by
          have := fsOf_step (kn := knOf ks row) (K := K) (j := xi) (by omega) (by rw [hnum]; exact hnK)
          rw [hnum] at this
          rw [← this, ofs_set]; simp [ints, List.map_set]
        unfold lkRows
        rw [e1, e2, e3]
        exact hc5
      · intro x hx
        simp only [List.mem_cons, List.not_mem_nil, or_false] at hx
        have h1 := HGE.out
        rcases hx with rfl | rfl | rfl
        · exact .inr (by omega)
        · exact .inr (by omega)
        · exact .inr (by omega)
    have HCK : Hid (∀ y ∈ [gk, gn, gf], ∃ o : Obj, W.heap[y]? = some o ∧ o.isCells = true) := by
      intro y hy
      simp only [List.mem_cons, List.not_mem_nil, or_false] at hy
      rcases hy with rfl | rfl | rfl
      · exact row_kind (HT.out.cl.row 2 _ rfl) rfl
      · exact row_kind (HT.out.cl.row 3 _ rfl) rfl
      · exact row_kind (HT.out.cl.row 4 _ rfl) rfl
    have HSZ : Hid (∀ y ∈ S, y < W.heap.size) := fun y hy => by have := (HSL.out y hy).2.2.1; have := HT.out.sz; omega
    generalize Pk.at' (ofs (upFrom (knOf ks row) (xi + 1))) xi = o1 at *
    generalize Pk.at' (ofs (upFrom (nxOf (knOf ks row)) (xi + 1))) xi = o2 at *
    generalize Pk.at' (ofs (fsOf (knOf ks row) K (xi + 1))) n = o3 at *
    clear hc3 hc4 hc5 hc4d hb3 hb4 hb4d hb5 ht3 ht4 ht5 kst nst fst kr nr fr fr4 hfv hkn2
    gi_wp2_with fail
    refine stt_region 12 (by kernel_rfl) (by kernel_rfl) (by rfl) ?_
    simp only [List.take_succ_cons, List.take_zero, List.drop_succ_cons, List.drop_zero]
    repeat still_step
    refine wpStill_nil ?_
    gi_wp2
    refine ⟨(keeps_tn HE.out.2 HCK.out).from _, KpP.of_tn HE.out.2 (fun y hy => ⟨HSZ.out y hy, ?_⟩), ?_⟩
    · have := HSL.out y hy
      simp only [List.mem_cons, List.not_mem_nil, or_false]
      omega
    · have e : R - (pre ++ [(xi, xe)]).length = xi := by simp; omega
      show Lnk w _ base B ks row vK vR gk gn gf R K w8.heap.size (R - (pre ++ [(xi, xe)]).length)
      rw [e]
      exact HE.out.1
end
end Go.Proofs.YthpilennljpamaaGreat

namespace Go.Proofs.YthpilennljpamaaGreat
open Go.RowKit Go.Sort
set_option linter.unusedVariables false
set_option maxRecDepth 100000

/-- An append whose run is known, in a drawn region. -/
theorem step_appR {ops : Array Oper} {o : Oper} {a : Act} {w : World} {K : Act → World → Prop} {Q : Exit → Act → World → Prop} {E : Prop}
    (hg : o.guard = none) (s x : Operand) (t : TypeId) (hop : o.op = Op.call { callee := Callee.builtin Builtin.append, args := #[s, x], argTypes := #[t, t] })
    (v u : Value) (hs : a.eval s = v) (hx : a.eval x = u) {v' : Value} {w' : World} (hr : (Builtin.append_ #[t, t] o.type #[v, u]).run Tryz.prog w = .ok v' w') (hK : K (a.put o.dst v') w') :
    if Region.wanted o (yielded ops a.tmps) = true then Oper.wp Tryz.prog o a w K Q else E := by
  have hw : Region.wanted o (yielded ops a.tmps) = true := by simp [Region.wanted, hg]
  rw [if_pos hw]
  unfold Oper.wp
  simp [execOp, hop, resolve, invoke, builtin, hs, hx, hr, Result.andThen]
  exact hK

theorem findIdx_hit {α : Type} {l : List α} {p : α → Bool} {j : Nat} {x : α} (hj : j ≤ l.findIdx p) (hx : l[j]? = some x) (hp : p x = true) : l.findIdx p = j := by
  rcases Nat.lt_or_ge j (l.findIdx p) with h | h
  · have hl := (List.getElem?_eq_some_iff.1 hx)
    obtain ⟨h1, h2⟩ := hl
    have := List.not_of_lt_findIdx h
    rw [h2] at this
    simp [hp] at this
  · omega

theorem findIdx_miss {α : Type} {l : List α} {p : α → Bool} {j : Nat} {x : α} (hj : j ≤ l.findIdx p) (hx : l[j]? = some x) (hp : p x = false) : j + 1 ≤ l.findIdx p := by
  rcases Nat.lt_or_ge j (l.findIdx p) with h | h
  · omega
  · have e : l.findIdx p = j := by omega
    obtain ⟨h1, h2⟩ := List.getElem?_eq_some_iff.1 hx
    have h3 : l.findIdx p < l.length := by omega
    have := List.findIdx_getElem (w := h3)
    simp only [e, h2, hp] at this
    cases this

theorem findIdx_none {α : Type} {l : List α} {p : α → Bool} (h : l.length ≤ l.findIdx p) : l.any p = false := by
  rw [List.any_eq_false]
  intro x hx
  obtain ⟨i, hi, rfl⟩ := List.getElem_of_mem hx
  have := List.not_of_lt_findIdx (p := p) (xs := l) (i := i) (by omega)
  simpa using this

theorem any_hit {α : Type} {l : List α} {p : α → Bool} {j : Nat} {x : α} (hx : l[j]? = some x) (hp : p x = true) : l.any p = true :=
  List.any_eq_true.2 ⟨x, List.mem_of_getElem? hx, hp⟩

set_option maxHeartbeats 8000000 in
theorem rremove_any (leaf : Bool) (lo hi : ByteArray) (r : Int) (p : Option Addr) (len cap : Nat) (l : List En) (key : ByteArray) (w : World) (hlen : l.length = len) (hx : Ens w p l) (hl : len ≤ 3518437208782) (hc : len ≤ cap) :
    Calls Tryz.prog 45 #[pgv leaf lo hi r p len cap, .string key] w fun e w' => ∃ v, e = .returned (.tuple #[v, .int .i64 (Pg.remove ⟨leaf, lo, hi, r, l⟩ key).2]) ∧ PgAt w' w.heap.size v (Pg.remove ⟨leaf, lo, hi, r, l⟩ key).1 ∧ Below w.heap.size w w' := by
  obtain ⟨w0, hw0⟩ : ∃ w0, (w.alloc (.cells #[.bool leaf, .string lo, .string hi, .int .i64 r, .slice p len cap] 24)).alloc (.cells zc 24) = w0 := ⟨_, rfl⟩
  have HB0 : Hid (Below w.heap.size w w0) := by rw [← hw0]; exact ((Below.refl _ _).alloc (Nat.le_refl _) _).alloc (by simp) _
  have HK0 : Hid (Bk w0 w.heap.size 24 #[.bool leaf, .string lo, .string hi, .int .i64 r, .slice p len cap]) := by rw [← hw0]; exact (Bk.new _ _ _).alloc _
  have HR0 : Hid (Bk w0 (w.heap.size + 1) 24 zc) := by rw [← hw0]; exact Bk.new1 _ _ _ _
  have HX : Hid (Ens w0 p l) := hx.below HB0.out (Nat.le_refl _)
  have HL : Hid (l.length = len) := hlen
  clear hx hlen
  obtain ⟨out, hout⟩ : ∃ out, Pg.remove ⟨leaf, lo, hi, r, l⟩ key = out := ⟨_, rfl⟩
  rw [hout]
  have HO : Hid (out = if l.any (Pg.is key) then (⟨leaf, lo, hi, r, Pg.del l (l.findIdx (Pg.is key))⟩, 0) else (Pg.zero, 4)) := hout.symm
  clear hout
  have a4 : w0.cell? ⟨w.heap.size, 4, none⟩ = some (.slice p len cap) := HK0.out.cell 4
  go_enter Tryz.func45, Tryz.ntmps45
  go_wp2_with fail
  clear hw0
  go_loopw [6] (fun iv wr => ∃ j : Nat, j ≤ len ∧ iv = .int .i64 j ∧ wr = w0 ∧ Hid (j ≤ l.findIdx (Pg.is key))) (fun iv _ => len - (intOf iv).toNat)
  case atStart => exact ⟨0, Nat.zero_le _, rfl, by trivial, Nat.zero_le _⟩
  case round =>
    obtain ⟨j, hj, rfl, rfl, HF⟩ := hrel
    by_cases hlt : j < len
    · have hli : (j : Int) < (len : Int) := by omega
      have hj0 : (0 : Int) ≤ (j : Int) := by omega
      obtain ⟨b, o, x, rfl, hgx, -, x0, -, -, -⟩ := HX.out.at (j := j) (by have := HL.out; omega)
      have HG : Hid (l[j]? = some x) := hgx
      clear hgx
      cases hq : Pg.is key x with
      | true =>
        have hqs : (x.key.toList == key.toList) = true := hq
        have HQ : Hid (out = (⟨leaf, lo, hi, r, Pg.del l j⟩, 0)) := by
          have := HO.out
          rw [any_hit HG.out hq, findIdx_hit HF.out HG.out hq] at this
          exact this
        clear hq HO HF
        obtain ⟨a7, ha7⟩ : ∃ a7 : Addr, (if cap = j + 1 then some (⟨b, o, none⟩ : Addr) else some ⟨b, o + (j + 1) * 4, none⟩) = some a7 := by split <;> exact ⟨_, rfl⟩
        have HE7 : Hid (∀ W, Below wr.heap.size wr W → Ens W (some a7) (l.drop (j + 1))) := fun W hW => by
          by_cases hlast : len = j + 1
          · rw [List.drop_of_length_le (by have := HL.out; omega)]
            exact Ens.nil _ _
          · rw [if_neg (by omega)] at ha7
            obtain rfl := Option.some.inj ha7
            exact ((HX.out.below hW (Nat.le_refl _)).drop (j + 1))
        have HE5 : Hid (∀ W, Below wr.heap.size wr W → Ens W (some ⟨b, o, none⟩) (l.take j)) := fun W hW => (HX.out.below hW (Nat.le_refl _)).take j
        have E7 : Hid ((if cap = j + 1 then some (⟨b, o, none⟩ : Addr) else some ⟨b, o + (j + 1) * 4, none⟩) = some a7) := ha7
        have e6 : (0 : Int) ≤ (j : Int) + 1 := by omega
        have HS : Hid (∀ W, Below wr.heap.size wr W → W.cell? ⟨w.heap.size, 4, none⟩ = some (.slice (some ⟨b, o, none⟩) len cap)) := fun W hW => (HK0.out.below hW HK0.out.lt).cell 4
        have e1 : (j : Int) ≤ (len : Int) := by omega
        have e2 : (j : Int) ≤ (cap : Int) := by omega
        have e4 : (j : Int) + 1 ≤ (len : Int) := by omega
        clear ha7
        go_wp2_with fail
        obtain ⟨v1, w6, hr1, ho1, hg1, hk1⟩ := run_appE wr.drew wr.heap.size 22 (.slice none 0 0) [] (l.take j) (some ⟨b, o, none⟩) j cap (by rw [List.length_take]; have := HL.out; omega) (HE5.out _ (Below.refl _ _).drew) (fun h => by cases h) (OwnE.nil _ _) (by simp; omega) (Nat.le_refl _)
        have hb6 : Below wr.heap.size wr w6 := ((Below.refl _ _).drew).grown hg1 (Nat.le_refl _) (fun k hk => by cases hk)
        rw [List.nil_append] at ho1
        obtain ⟨v2, w7, hr2, ho2, hg2, hk2⟩ := run_appE w6 wr.heap.size 22 v1 (l.take j) (l.drop (j + 1)) (some a7) (len - (j + 1)) (cap - (j + 1)) (by rw [List.length_drop, HL.out]) (HE7.out _ hb6) (fun h => by cases h) ho1 (by rw [List.length_take]; have := HL.out; omega) hb6.size
        have hb7 : Below wr.heap.size wr w7 := hb6.grown hg2 hb6.size (fun k hk => (World.ownsRow.lt ho1 k hk).1)
        obtain ⟨q2, c2, hv2, -, -⟩ := ho2.ens
        rw [hv2] at ho2 hr2
        have hlen2 : (l.take j ++ l.drop (j + 1)).length = len - 1 := by simp; have := HL.out; omega
        rw [hlen2] at ho2 hr2
        have HO2 : Hid (OwnE w7 wr.heap.size (.slice q2 (len - 1) c2) (Pg.del l j)) := ho2
        have HB7 : Hid (Below wr.heap.size wr w7) := hb7
        have HR1 : Hid _ := hr1
        have HR2 : Hid _ := hr2
        have HB6 : Hid (Below wr.heap.size wr w6) := hb6
        have HK7 : Hid (Bk w7 w.heap.size 24 #[.bool leaf, .string lo, .string hi, .int .i64 r, .slice (some ⟨b, o, none⟩) len cap]) := HK0.out.below hb7 HK0.out.lt
        have HZ7 : Hid (Bk w7 (w.heap.size + 1) 24 zc) := HR0.out.below hb7 HR0.out.lt
        clear hr1 ho1 hg1 hk1 hr2 ho2 hg2 hk2 hb6 hb7 hv2 hlen2
        have hS := HS.out wr.drew (Below.refl _ _).drew
        refine wp_region_mid (S := (fun w' => w'.cell? ⟨w.heap.size, 4, none⟩ = some (.slice (some ⟨b, o, none⟩) len cap))) 13 (by kernel_rfl) ?_
        refine wpAnyM_take (i := 0) [] (oi := { dst := some 23, op := Op.move (Operand.tmp 7), type := 22, pos := _, after := #[], guard := none }) (v := .slice none 0 0) rfl (by kernel_rfl) (by kernel_rfl) (by kernel_rfl) (by kernel_rfl) (fun _ _ _ h => h) (Or.inl ⟨by rfl, ?_⟩) hS ?_
        · (intro w' hSw; have k0 := hSw; go_simp; try with_reducible rfl)
        try simp only [Act.put, List.setIfInBounds_toArray, List.set_cons_zero, List.set_cons_succ]
        refine wpAnyM_take (i := 1) [] (oi := { dst := some 24, op := Op.fieldAddr 24 (Operand.tmp 2) 4, type := 0, pos := _, after := #[], guard := none }) (v := ?_) rfl (by kernel_rfl) (by kernel_rfl) (by kernel_rfl) (by kernel_rfl) (fun _ _ _ h => h) (Or.inl ⟨by rfl, ?_⟩) hS ?_
        rotate_left
        · (intro w' hSw; have k0 := hSw; go_simp; try with_reducible rfl)
        try simp only [Act.put, List.setIfInBounds_toArray, List.set_cons_zero, List.set_cons_succ]
        refine wpAnyM_take (i := 2) [] (oi := { dst := some 25, op := Op.load 22 (Operand.tmp 24), type := 22, pos := _, after := #[{ on := 1, ground := Ground.data }], guard := none }) (v := .slice (some ⟨b, o, none⟩) len cap) rfl (by kernel_rfl) (by kernel_rfl) (by kernel_rfl) (by kernel_rfl) (fun _ _ _ h => h) (Or.inl ⟨by rfl, ?_⟩) hS ?_
        · (intro w' hSw; have k0 := hSw; go_simp; try with_reducible rfl)
        try simp only [Act.put, List.setIfInBounds_toArray, List.set_cons_zero, List.set_cons_succ]
        refine wpAnyM_take (i := 3) [] (oi := { dst := some 26, op := Op.move (Operand.tmp 6), type := 3, pos := _, after := #[], guard := none }) (v := .int .i64 (j : Int)) rfl (by kernel_rfl) (by kernel_rfl) (by kernel_rfl) (by kernel_rfl) (fun _ _ _ h => h) (Or.inl ⟨by rfl, ?_⟩) hS ?_
        · (intro w' hSw; have k0 := hSw; go_simp; try with_reducible rfl)
        try simp only [Act.put, List.setIfInBounds_toArray, List.set_cons_zero, List.set_cons_succ]
        refine wpAnyM_take (i := 4) [] (oi := { dst := some 27, op := Op.slice 22 (Operand.tmp 25) none (some (Operand.tmp 26)) none, type := 22, pos := _, after := #[{ on := 2, ground := Ground.data }, { on := 3, ground := Ground.data }], guard := none }) (v := .slice (some ⟨b, o, none⟩) j cap) rfl (by kernel_rfl) (by kernel_rfl) (by kernel_rfl) (by kernel_rfl) (fun _ _ _ h => h) (Or.inl ⟨by rfl, ?_⟩) hS ?_
        · (intro w' hSw; have k0 := hSw; go_simp; try with_reducible rfl)
        try simp only [Act.put, List.setIfInBounds_toArray, List.set_cons_zero, List.set_cons_succ]
        refine wpAnyM_take (i := 6) [] (oi := { dst := some 29, op := Op.fieldAddr 24 (Operand.tmp 2) 4, type := 0, pos := _, after := #[], guard := none }) (v := ?_) rfl (by kernel_rfl) (by kernel_rfl) (by kernel_rfl) (by kernel_rfl) (fun _ _ _ h => h) (Or.inl ⟨by rfl, ?_⟩) hS ?_
        rotate_left
        · (intro w' hSw; have k0 := hSw; go_simp; try with_reducible rfl)
        try simp only [Act.put, List.setIfInBounds_toArray, List.set_cons_zero, List.set_cons_succ]
        refine wpAnyM_take (i := 7) [] (oi := { dst := some 30, op := Op.load 22 (Operand.tmp 29), type := 22, pos := _, after := #[{ on := 6, ground := Ground.data }], guard := none }) (v := .slice (some ⟨b, o, none⟩) len cap) rfl (by kernel_rfl) (by kernel_rfl) (by kernel_rfl) (by kernel_rfl) (fun _ _ _ h => h) (Or.inl ⟨by rfl, ?_⟩) hS ?_
        · (intro w' hSw; have k0 := hSw; go_simp; try with_reducible rfl)
        try simp only [Act.put, List.setIfInBounds_toArray, List.set_cons_zero, List.set_cons_succ]
        refine wpAnyM_take (i := 8) [] (oi := { dst := some 31, op := Op.move (Operand.tmp 6), type := 3, pos := _, after := #[], guard := none }) (v := .int .i64 (j : Int)) rfl (by kernel_rfl) (by kernel_rfl) (by kernel_rfl) (by kernel_rfl) (fun _ _ _ h => h) (Or.inl ⟨by rfl, ?_⟩) hS ?_
        · (intro w' hSw; have k0 := hSw; go_simp; try with_reducible rfl)
        try simp only [Act.put, List.setIfInBounds_toArray, List.set_cons_zero, List.set_cons_succ]
        refine wpAnyM_take (i := 9) [] (oi := { dst := some 32, op := Op.binOp BinOp.add 3 (Operand.tmp 31) (Operand.const (Value.int IntKind.i64 1)) 3, type := 3, pos := _, after := #[{ on := 8, ground := Ground.data }], guard := none }) (v := .int .i64 ((j : Int) + 1)) rfl (by kernel_rfl) (by kernel_rfl) (by kernel_rfl) (by kernel_rfl) (fun _ _ _ h => h) (Or.inl ⟨by rfl, ?_⟩) hS ?_
        · (intro w' hSw; have k0 := hSw; go_simp; exact wrap_id9 (by omega))
        try simp only [Act.put, List.setIfInBounds_toArray, List.set_cons_zero, List.set_cons_succ]
        refine wpAnyM_take (i := 10) [] (oi := { dst := some 33, op := Op.slice 22 (Operand.tmp 30) (some (Operand.tmp 32)) none none, type := 22, pos := _, after := #[{ on := 7, ground := Ground.data }, { on := 9, ground := Ground.data }], guard := none }) (v := .slice (some a7) (len - (j + 1)) (cap - (j + 1))) rfl (by kernel_rfl) (by kernel_rfl) (by kernel_rfl) (by kernel_rfl) (fun _ _ _ h => h) (Or.inl ⟨by rfl, ?_⟩) hS ?_
        · (intro w' hSw; have k0 := hSw; go_simp; exact E7.out)
        try simp only [Act.put, List.setIfInBounds_toArray, List.set_cons_zero, List.set_cons_succ]
        refine wpAnyM_ready (rs := [5]) (by kernel_rfl) (by simp) ?_
        refine AllReadyM.cons (o := { dst := some 28, op := Op.call { callee := Callee.builtin Builtin.append, args := #[Operand.tmp 23, Operand.tmp 27], argTypes := #[22, 22] }, type := 22, pos := _, after := #[{ on := 0, ground := Ground.data }, { on := 4, ground := Ground.data }], guard := none }) rfl (fun K hK => ?_) AllReadyM.nil
        have HK9 : Hid (∀ a w, _ → K a w) := hK
        clear hK
        refine step_appR rfl _ _ _ rfl _ _ rfl rfl HR1.out ?_
        refine HK9.out _ _ ⟨fun _ => HS.out _ HB6.out, ?_⟩
        clear HK9 K
        try simp only [Act.put, List.setIfInBounds_toArray, List.set_cons_zero, List.set_cons_succ]
        refine wpAnyM_ready (rs := [11]) (by kernel_rfl) (by simp) ?_
        refine AllReadyM.cons (o := { dst := some 34, op := Op.call { callee := Callee.builtin Builtin.append, args := #[Operand.tmp 28, Operand.tmp 33], argTypes := #[22, 22] }, type := 22, pos := _, after := #[{ on := 5, ground := Ground.data }, { on := 10, ground := Ground.data }, { on := 5, ground := Ground.chain }], guard := none }) rfl (fun K hK => ?_) AllReadyM.nil
        have HK9 : Hid (∀ a w, _ → K a w) := hK
        clear hK
        refine step_appR rfl _ _ _ rfl _ _ rfl rfl HR2.out ?_
        refine HK9.out _ _ ⟨fun _ => HS.out _ HB7.out, ?_⟩
        clear HK9 K
        try simp only [Act.put, List.setIfInBounds_toArray, List.set_cons_zero, List.set_cons_succ]
        have a4' : w7.cell? ⟨w.heap.size, 4, none⟩ = some (.slice (some ⟨b, o, none⟩) len cap) := HK7.out.cell 4
        have z4' : w7.frozen? ⟨w.heap.size, 4, none⟩ = false := HK7.out.frozen 4
        refine wpAnyM_ready (rs := [12]) (by kernel_rfl) (by simp) ?_
        refine AllReadyM.cons (o := { dst := some 35, op := Op.fieldAddr 24 (Operand.tmp 2) 4, type := 0, pos := _, after := #[{ on := 0, ground := Ground.phase }, { on := 1, ground := Ground.phase }, { on := 2, ground := Ground.phase }, { on := 3, ground := Ground.phase }, { on := 4, ground := Ground.phase }, { on := 5, ground := Ground.phase }, { on := 6, ground := Ground.phase }, { on := 7, ground := Ground.phase }, { on := 8, ground := Ground.phase }, { on := 9, ground := Ground.phase }, { on := 10, ground := Ground.phase }, { on := 11, ground := Ground.phase }], guard := none }) rfl (fun K hK => ?_) AllReadyM.nil
        have HK9 : Hid (∀ a w, _ → K a w) := hK
        clear hK
        go_simp
        refine HK9.out _ _ ⟨fun _ => a4', ?_⟩
        clear HK9 K
        try simp only [Act.put, List.setIfInBounds_toArray, List.set_cons_zero, List.set_cons_succ]
        refine wpAnyM_ready (rs := [13]) (by kernel_rfl) (by simp) ?_
        refine AllReadyM.cons (o := { dst := none, op := Op.store 22 (Operand.tmp 35) (Operand.tmp 34), type := 0, pos := _, after := #[{ on := 12, ground := Ground.data }, { on := 11, ground := Ground.data }, { on := 11, ground := Ground.chain }, { on := 0, ground := Ground.phase }, { on := 1, ground := Ground.phase }, { on := 2, ground := Ground.phase }, { on := 3, ground := Ground.phase }, { on := 4, ground := Ground.phase }, { on := 5, ground := Ground.phase }, { on := 6, ground := Ground.phase }, { on := 7, ground := Ground.phase }, { on := 8, ground := Ground.phase }, { on := 9, ground := Ground.phase }, { on := 10, ground := Ground.phase }, { on := 11, ground := Ground.phase }], guard := none }) rfl (fun K hK => ?_) AllReadyM.nil
        have HK9 : Hid (∀ a w, _ → K a w) := hK
        clear hK
        go_simp
        refine HK9.out _ _ ⟨fun h => absurd h (by omega), ?_⟩
        clear HK9 K
        try simp only [Act.put, List.setIfInBounds_toArray, List.set_cons_zero, List.set_cons_succ]
        refine wpAnyM_done (by kernel_rfl) ?_ _
        obtain ⟨w8, hw8⟩ : ∃ w8, w7.setCell ⟨w.heap.size, 4, none⟩ (.slice q2 (len - 1) c2) = w8 := ⟨_, rfl⟩
        have hk8 : Bk w8 w.heap.size 24 #[.bool leaf, .string lo, .string hi, .int .i64 r, .slice q2 (len - 1) c2] := by rw [← hw8]; exact HK7.out.set 4 _
        have hr8 : Bk w8 (w.heap.size + 1) 24 zc := by rw [← hw8]; exact HZ7.out.other (by simp) _
        have ht8 : Tn [w.heap.size] w7 w8 := by rw [← hw8]; exact (Tn.refl _ _).setCell (.inl (by simp)) _
        rw [hw8]
        clear hw8 a4' z4' hS
        have a0 : w8.cell? ⟨w.heap.size, 0, none⟩ = some (.bool leaf) := hk8.cell 0
        have a1 : w8.cell? ⟨w.heap.size, 1, none⟩ = some (.string lo) := hk8.cell 1
        have a2 : w8.cell? ⟨w.heap.size, 2, none⟩ = some (.string hi) := hk8.cell 2
        have a3 : w8.cell? ⟨w.heap.size, 3, none⟩ = some (.int .i64 r) := hk8.cell 3
        have a4 : w8.cell? ⟨w.heap.size, 4, none⟩ = some (.slice q2 (len - 1) c2) := hk8.cell 4
        have b0 : w8.cell? ⟨w.heap.size + 1, 0, none⟩ = some (.bool false) := hr8.cell 0
        have f0 : w8.frozen? ⟨w.heap.size + 1, 0, none⟩ = false := hr8.frozen 0
        have b1 : w8.cell? ⟨w.heap.size + 1, 1, none⟩ = some (.string ⟨#[]⟩) := hr8.cell 1
        have f1 : w8.frozen? ⟨w.heap.size + 1, 1, none⟩ = false := hr8.frozen 1
        have b2 : w8.cell? ⟨w.heap.size + 1, 2, none⟩ = some (.string ⟨#[]⟩) := hr8.cell 2
        have f2 : w8.frozen? ⟨w.heap.size + 1, 2, none⟩ = false := hr8.frozen 2
        have b3 : w8.cell? ⟨w.heap.size + 1, 3, none⟩ = some (.int .i64 0) := hr8.cell 3
        have f3 : w8.frozen? ⟨w.heap.size + 1, 3, none⟩ = false := hr8.frozen 3
        have b4 : w8.cell? ⟨w.heap.size + 1, 4, none⟩ = some (.slice none 0 0) := hr8.cell 4
        have f4 : w8.frozen? ⟨w.heap.size + 1, 4, none⟩ = false := hr8.frozen 4
        have HR8 : Hid (Bk w8 (w.heap.size + 1) 24 zc) := hr8
        have HT8 : Hid (Tn [w.heap.size] w7 w8) := ht8
        clear hk8 hr8 ht8
        go_wp2
        obtain ⟨we, hwe⟩ : ∃ we, we = put5 w8 (w.heap.size + 1) (.bool leaf) (.string lo) (.string hi) (.int .i64 r) (.slice q2 (len - 1) c2) := ⟨_, rfl⟩
        have hA : Bk we (w.heap.size + 1) 24 #[.bool leaf, .string lo, .string hi, .int .i64 r, .slice q2 (len - 1) c2] := by rw [hwe]; exact Bk.five HR8.out _ _ _ _ _
        have ht : Tn [w.heap.size + 1] w8 we := by rw [hwe]; exact (Tn.refl _ _).five (.inl (by simp)) _ _ _ _ _
        unfold put5 at hwe
        rw [← hwe]
        clear hwe
        refine bodyPost_ret (results_two (cs := [.bool leaf, .string lo, .string hi, .int .i64 r, .slice q2 (len - 1) c2]) rfl rfl pg_agg pg_size rfl hA) rfl ?_
        rw [HQ.out]
        have hs0 := HR0.out.lt
        have t7 : Tn [w.heap.size, w.heap.size + 1] w7 we := (HT8.out.mono (by simp)).trans ht (by simp)
        have hB7 := HB0.out.trans (HB7.out.mono HB0.out.size)
        have hdl : (Pg.del l j).length = len - 1 := by unfold Pg.del; simp; have := HL.out; omega
        refine ⟨_, rfl, ⟨q2, c2, by simp only [hdl], ?_⟩, hB7.trans (t7.below hB7.size (by simp))⟩
        simp only [hdl]
        exact ((HO2.out.seg).tn t7 (by simp; omega)).mono HB0.out.size
      | false =>
        have hqs : (x.key.toList == key.toList) = false := hq
        have HF2 : Hid (j + 1 ≤ l.findIdx (Pg.is key)) := findIdx_miss HF.out HG.out hq
        clear hq
        go_wp2
        go_roundw
        case rel => exact ⟨j + 1, by omega, by go_num, by trivial, HF2⟩
        case measure => simp [intOf]; omega
    · have hli : ¬ (j : Int) < (len : Int) := by omega
      have HQ : Hid (out = (Pg.zero, 4)) := by
        have := HO.out
        rw [findIdx_none (by have := HF.out; have := HL.out; omega)] at this
        exact this
      clear HO HF
      have b0 : wr.cell? ⟨w.heap.size + 1, 0, none⟩ = some (.bool false) := HR0.out.cell 0
      have f0 : wr.frozen? ⟨w.heap.size + 1, 0, none⟩ = false := HR0.out.frozen 0
      have b1 : wr.cell? ⟨w.heap.size + 1, 1, none⟩ = some (.string ⟨#[]⟩) := HR0.out.cell 1
      have f1 : wr.frozen? ⟨w.heap.size + 1, 1, none⟩ = false := HR0.out.frozen 1
      have b2 : wr.cell? ⟨w.heap.size + 1, 2, none⟩ = some (.string ⟨#[]⟩) := HR0.out.cell 2
      have f2 : wr.frozen? ⟨w.heap.size + 1, 2, none⟩ = false := HR0.out.frozen 2
      have b3 : wr.cell? ⟨w.heap.size + 1, 3, none⟩ = some (.int .i64 0) := HR0.out.cell 3
      have f3 : wr.frozen? ⟨w.heap.size + 1, 3, none⟩ = false := HR0.out.frozen 3
      have b4 : wr.cell? ⟨w.heap.size + 1, 4, none⟩ = some (.slice none 0 0) := HR0.out.cell 4
      have f4 : wr.frozen? ⟨w.heap.size + 1, 4, none⟩ = false := HR0.out.frozen 4
      go_wp2
      obtain ⟨we, hwe⟩ : ∃ we, we = put5 wr (w.heap.size + 1) (.bool false) (.string ⟨#[]⟩) (.string ⟨#[]⟩) (.int .i64 0) (.slice none 0 0) := ⟨_, rfl⟩
      have hA : Bk we (w.heap.size + 1) 24 #[.bool false, .string ⟨#[]⟩, .string ⟨#[]⟩, .int .i64 0, .slice none 0 0] := by rw [hwe]; exact Bk.five HR0.out _ _ _ _ _
      have ht : Tn [w.heap.size + 1] wr we := by rw [hwe]; exact (Tn.refl _ _).five (.inl (by simp)) _ _ _ _ _
      unfold put5 at hwe
      rw [← hwe]
      clear hwe
      refine bodyPost_ret (results_two (cs := [.bool false, .string ⟨#[]⟩, .string ⟨#[]⟩, .int .i64 0, .slice none 0 0]) rfl rfl pg_agg pg_size rfl hA) rfl ?_
      rw [HQ.out]
      exact ⟨_, rfl, PgAt.zero _ _, HB0.out.trans (ht.below HB0.out.size (by simp))⟩
end Go.Proofs.YthpilennljpamaaGreat

namespace Go.Proofs.YthpilennljpamaaGreat
open Go.RowKit Go.Lib Go.Shelf Dr
attribute [local go_sem] Oper.semAt_some
set_option linter.unusedVariables false
set_option maxRecDepth 100000

theorem enc_key (key : ByteArray) : encStr key.toList = .string key := by
  rw [ByteArray.toList_eq]

section
variable {w w' : World} {base B : Nat} {T : TypeId} {vals : Array Value} {rows : List Rs}

/-- A row has grown. -/
theorem Cl.app (h : Cl w base B T vals rows) {i : Nat} {r : Rs} {v' : Value} {n' : Nat} {xs' : List Value} (hi : rows[i]? = some r) (hg : w.grownBy w' r.v.ownBlock) (ho : w'.ownsRow base r.t r.sz v' n' xs') (hv : v'.ownBlock = r.v.ownBlock ∨ v'.ownBlock = some w.heap.size) : Cl w' base B T vals (rows.set i ⟨r.t, r.sz, v', n', xs'⟩) := by
  have hil : i < rows.length := (List.getElem?_eq_some_iff.1 hi).1
  have ht := tn_grown hg
  have hold : ∀ (j : Nat) q k, rows[j]? = some q → q.v.ownBlock = some k → k < w.heap.size := fun j q k hj hk => ((h.row j q hj).lt k hk).2
  have key : ∀ (j : Nat) q, (rows.set i ⟨r.t, r.sz, v', n', xs'⟩)[j]? = some q → (j ≠ i ∧ rows[j]? = some q) ∨ (j = i ∧ q = ⟨r.t, r.sz, v', n', xs'⟩) := by
    intro j q hq
    by_cases hj : j = i
    · subst hj
      rw [List.getElem?_set_self hil] at hq
      cases hq
      exact .inr ⟨rfl, rfl⟩
    · rw [List.getElem?_set_ne (Ne.symm hj)] at hq
      exact .inl ⟨hj, hq⟩
  have hnot : ∀ k, k ∈ r.v.ownBlock.toList → r.v.ownBlock = some k := fun k hk => by
    cases hb : r.v.ownBlock with
    | none => rw [hb] at hk; simp at hk
    | some x => rw [hb] at hk; simp at hk; rw [hk]
  have hap : ∀ (j : Nat) q k, j ≠ i → rows[j]? = some q → q.v.ownBlock = some k → v'.ownBlock ≠ some k := by
    intro j q k hj hq hk hc
    rcases hv with h1 | h1
    · rw [h1] at hc
      exact hj (h.apart j i q r k hq hi hk hc)
    · rw [h1] at hc
      cases hc
      have := hold j q _ hq hk
      omega
  refine ⟨h.blk.tn ht (fun hm => h.ne i r hi (hnot _ hm)), h.ge, fun j q hq => ?_, fun j q hq => ?_, fun j k q p x hq hp h1 h2 => ?_⟩
  · rcases key j q hq with ⟨hj, h0⟩ | ⟨rfl, rfl⟩
    · exact row_tn (h.row j q h0) ht fun k hk hm => hj (h.apart j i q r k h0 hi hk (hnot k hm))
    · exact ho
  · rcases key j q hq with ⟨hj, h0⟩ | ⟨rfl, rfl⟩
    · exact h.ne j q h0
    · intro hc
      rcases hv with h1 | h1
      · rw [show (⟨r.t, r.sz, v', n', xs'⟩ : Rs).v = v' from rfl, h1] at hc
        exact h.ne _ r hi hc
      · rw [show (⟨r.t, r.sz, v', n', xs'⟩ : Rs).v = v' from rfl, h1] at hc
        cases hc
        have := h.blk.lt
        omega
  · rcases key j q hq with ⟨hj, h0⟩ | ⟨hj, rfl⟩
    · rcases key k p hp with ⟨hk, h3⟩ | ⟨hk, rfl⟩
      · exact h.apart j k q p x h0 h3 h1 h2
      · exact absurd h2 (hap j q x hj h0 h1)
    · rcases key k p hp with ⟨hk, h3⟩ | ⟨hk, rfl⟩
      · exact absurd h1 (hap k p x hk h3 h2)
      · omega
end

theorem strinfoD : (Tryz.prog.info? 9).map (fun i => (i.zero, i.size, i.bytes)) = some (some (.string ⟨#[]⟩), 1, 16) := by kernel_rfl

/-- 'append' of texts to a row of the call's own. -/
theorem run_appS (w : World) (base : Nat) (ty : TypeId) (v : Value) (ss news : List (List UInt8)) (E m : Nat) (hm : news.length = m) (hc : ∀ j u, (news.map encStr)[j]? = some u → w.cell? ((⟨E, 0, none⟩ : Addr).add j) = some u) (hown : w.ownsRow base 9 1 v ss.length (ss.map encStr)) (hb : (ss.length + m) * 16 ≤ 140737488355328) (hbase : base ≤ w.heap.size) :
    ∃ v' w', (Builtin.append_ #[114, 114] ty #[v, .slice (some ⟨E, 0, none⟩) m m]).run Tryz.prog w = .ok v' w' ∧ w'.ownsRow base 9 1 v' (ss ++ news).length ((ss ++ news).map encStr) ∧ w.grownBy w' v.ownBlock ∧ (v'.ownBlock = v.ownBlock ∨ v'.ownBlock = some w.heap.size) := by
  obtain ⟨i0, hi0, hz0, hz1, hz2⟩ := info_parts strinfoD
  obtain ⟨v', w', hr, h2, h3, h4, h5⟩ := run_append_own_at (P := Tryz.prog) w base 114 ty 9 i0 _ 1 16 Tryz.underlying114 hi0 hz0 hz1 hz2 rfl (by decide) v ss.length (ss.map encStr) hown ⟨E, 0, none⟩ m m (news.map encStr) (by simp [hm]) hc (fun u hu => by
    obtain ⟨x, _, rfl⟩ := List.mem_map.1 hu
    rfl) (by unfold maxLen; omega) hb hbase
  refine ⟨v', w', hr, ?_, h3, h5⟩
  rw [List.length_append, hm, List.map_append]
  exact h2

def ndVals (vK vR : Value) : Array Value := #[vK, vR, .int .i64 0, nilS, nilS, nilS, nilS, nilS, nilS, nilS]
def ndRows (ss : List (List UInt8)) (rl : List En) (vK vR : Value) : List Rs := [⟨9, 1, vK, ss.length, ss.map encStr⟩, ⟨30, 4, vR, rl.length, flatE rl⟩]

/-- A draft while its rows are gathered. -/
structure Nd (w W : World) (B P m : Nat) (ss : List (List UInt8)) (rl : List En) (vK vR : Value) : Prop where
  cl : Cl W w.heap.size B 118 (ndVals vK vR) (ndRows ss rl vK vR)
  bx : Bk W P 99 #[.pointer (some ⟨B, 0, none⟩)]
  np : B ≠ P ∧ ∀ k, vK.ownBlock = some k ∨ vR.ownBlock = some k → k ≠ P
  below : Below w.heap.size w W
  sz : m ≤ W.heap.size

theorem Nd.abides {w W W' : World} {B P m : Nat} {ss : List (List UInt8)} {rl : List En} {vK vR : Value} {rw' : Option Nat} {k : Nat} (h : Nd w W B P m ss rl vK vR) (hm : w.heap.size ≤ k) (hg : W.grownBy W' rw') (hr : ∀ r, rw' = some r → k ≤ r ∧ ∃ o : Obj, W.heap[r]? = some o ∧ o.isCells = false) : Nd w W' B P m ss rl vK vR where
  cl := h.cl.abides hg hr
  bx := bk_from h.bx hg hr
  np := h.np
  below := h.below.grown hg h.below.size (fun k hk => by have := (hr k hk).1; omega)
  sz := Nat.le_trans h.sz hg.size
theorem Nd.still {w W W' : World} {B P m : Nat} {ss : List (List UInt8)} {rl : List En} {vK vR : Value} (h : Nd w W B P m ss rl vK vR) (ht : Tn [] W W') : Nd w W' B P m ss rl vK vR where
  cl := h.cl.still ht
  bx := h.bx.tn ht (by simp)
  np := h.np
  below := h.below.trans (ht.below h.below.size (by simp))
  sz := Nat.le_trans h.sz ht.size

/-- The row of entries has grown, and is noted. -/
theorem Nd.appR {w W W1 : World} {B P m : Nat} {ss : List (List UInt8)} {rl rl' : List En} {vK vR v' : Value} (h : Nd w W B P m ss rl vK vR) (hg : W.grownBy W1 vR.ownBlock) (ho : OwnE W1 w.heap.size v' rl') (hv : v'.ownBlock = vR.ownBlock ∨ v'.ownBlock = some W.heap.size) :
    Nd w (W1.setCell ⟨B, 1, none⟩ v') B P m ss rl' vK v' ∧ Tn (B :: vR.ownBlock.toList) W (W1.setCell ⟨B, 1, none⟩ v') ∧ Bk W1 B 118 (ndVals vK vR) := by
  have h1 := h.cl.app (i := 1) rfl hg ho hv
  have ht := tn_grown hg
  obtain ⟨h2, ht2⟩ := h1.put 1 v'
  have ht3 : Tn (B :: vR.ownBlock.toList) W (W1.setCell ⟨B, 1, none⟩ v') := (ht.mono (fun x hx => List.mem_cons_of_mem _ hx)).trans ht2 (fun x hx => .inl (by simp at hx; subst hx; simp))
  have hown : ∀ k, k ∈ vR.ownBlock.toList → vR.ownBlock = some k := fun k hk => by
    cases hb : vR.ownBlock with
    | none => rw [hb] at hk; simp at hk
    | some x => rw [hb] at hk; simp at hk; rw [hk]
  have hP := h.bx.lt
  refine ⟨⟨h2, h.bx.tn ht3 ?_, ⟨h.np.1, fun k hk => ?_⟩, h.below.trans (ht3.below h.below.size ?_), Nat.le_trans h.sz ht3.size⟩, ht3, h1.blk⟩
  · intro hm
    rcases List.mem_cons.1 hm with h3 | h3
    · exact h.np.1 h3.symm
    · exact h.np.2 P (.inr (hown P h3)) rfl
  · rcases hk with h3 | h3
    · exact h.np.2 k (.inl h3)
    · rcases hv with h4 | h4
      · rw [h4] at h3; exact h.np.2 k (.inr h3)
      · rw [h4] at h3; cases h3; omega
  · intro x hx
    rcases List.mem_cons.1 hx with rfl | h3
    · exact h.cl.ge
    · exact ((h.cl.row 1 _ rfl).lt x (hown x h3)).1

/-- The row of keys has grown, and is noted. -/
theorem Nd.appK {w W W1 : World} {B P m : Nat} {ss ss' : List (List UInt8)} {rl : List En} {vK vR v' : Value} (h : Nd w W B P m ss rl vK vR) (hg : W.grownBy W1 vK.ownBlock) (ho : W1.ownsRow w.heap.size 9 1 v' ss'.length (ss'.map encStr)) (hv : v'.ownBlock = vK.ownBlock ∨ v'.ownBlock = some W.heap.size) :
    Nd w (W1.setCell ⟨B, 0, none⟩ v') B P m ss' rl v' vR ∧ Tn (B :: vK.ownBlock.toList) W (W1.setCell ⟨B, 0, none⟩ v') ∧ Bk W1 B 118 (ndVals vK vR) := by
  have h1 := h.cl.app (i := 0) rfl hg ho hv
  have ht := tn_grown hg
  obtain ⟨h2, ht2⟩ := h1.put 0 v'
  have ht3 : Tn (B :: vK.ownBlock.toList) W (W1.setCell ⟨B, 0, none⟩ v') := (ht.mono (fun x hx => List.mem_cons_of_mem _ hx)).trans ht2 (fun x hx => .inl (by simp at hx; subst hx; simp))
  have hown : ∀ k, k ∈ vK.ownBlock.toList → vK.ownBlock = some k := fun k hk => by
    cases hb : vK.ownBlock with
    | none => rw [hb] at hk; simp at hk
    | some x => rw [hb] at hk; simp at hk; rw [hk]
  have hP := h.bx.lt
  refine ⟨⟨h2, h.bx.tn ht3 ?_, ⟨h.np.1, fun k hk => ?_⟩, h.below.trans (ht3.below h.below.size ?_), Nat.le_trans h.sz ht3.size⟩, ht3, h1.blk⟩
  · intro hm
    rcases List.mem_cons.1 hm with h3 | h3
    · exact h.np.1 h3.symm
    · exact h.np.2 P (.inl (hown P h3)) rfl
  · rcases hk with h3 | h3
    · rcases hv with h4 | h4
      · rw [h4] at h3; exact h.np.2 k (.inl h3)
      · rw [h4] at h3; cases h3; omega
    · exact h.np.2 k (.inr h3)
  · intro x hx
    rcases List.mem_cons.1 hx with rfl | h3
    · exact h.cl.ge
    · exact ((h.cl.row 0 _ rfl).lt x (hown x h3)).1

/-- What the deltas bring: entries; keys. -/
def rowsOf (ds : List De) : List En := (ds.map fun d => d.rt.l).flatten
def textsOf (ds : List De) : List (List UInt8) := (ds.map fun d => [d.key.toList, d.e.key.toList]).flatten

theorem rowsOf_snoc (ds : List De) (d : De) : rowsOf (ds ++ [d]) = rowsOf ds ++ d.rt.l := by simp [rowsOf]
theorem textsOf_snoc (ds : List De) (d : De) : textsOf (ds ++ [d]) = textsOf ds ++ [d.key.toList, d.e.key.toList] := by simp [textsOf]

section
variable {P : Program} {Q : Exit → Act → World → Prop} {S : World → Prop} {l n : Nat}
theorem wpIn_mid {id : Nat} {os : List Oper} {a : Act} {w : World} (m : Nat) (hm : P.follows .mixedOrders = true) (hd : noDefer os = true) (hq : ¬ LetsOut Q)
    (h : wpAnyM P .any os.toArray Q S m os.toArray.size (Array.replicate os.toArray.size false) a w.drew) : (Code.region id os.toArray true).wpIn (Fence.wide.inRound l) n P Q a w :=
  wpIn_region_any hm (wpAnyIn_of_any (noDefer_out hd) hq _ _ _ _ (wpAny_of_mid _ _ _ _ h))
end
end Go.Proofs.YthpilennljpamaaGreat

namespace Go.Proofs.YthpilennljpamaaGreat
open Go.RowKit Go.Lib Go.Shelf Go.Sort Dr
set_option linter.unusedVariables false
set_option maxRecDepth 100000

theorem dsort_any {w : World} {base : Nat} {v : Value} {ss : List (List UInt8)} (h : w.ownsRow base 9 1 v ss.length (ss.map encStr)) (hb : ss.length ≤ 8796093022207) :
    Calls Tryz.prog 94 #[v] w fun e w' => e = .returned (.tuple #[]) ∧ w'.ownsRow base 9 1 v ss.length ((ss.mergeSort fun x y => decide (x ≤ y)).map encStr) ∧ w.grownBy w' v.ownBlock := by
  rcases h.2 with ⟨hv, hn⟩ | ⟨g, cap, cur, hv, hbase, hbk, h1, h2, h3, h4⟩
  · subst hv
    have hs : ss = [] := List.eq_nil_of_length_eq_zero hn
    subst hs
    refine (AnyM.slices_Sort_string_none Tryz.drSort none 0 w).mono ?_
    rintro e w' ⟨rfl, rfl⟩
    refine ⟨rfl, ?_, ?_⟩
    · simp
      exact World.ownsRow_nil _ _ _ _
    · exact ⟨rfl, rfl, rfl, Nat.le_refl _, fun _ _ _ => rfl⟩
  · subst hv
    refine (AnyM.slices_Sort_string Tryz.drSort g 0 cap ss w (holds_of_block hbk (by simpa using h4)) (Array.getElem?_eq_some_iff.1 hbk).1 (by omega)).mono ?_
    rintro e w' ⟨rfl, n, os, rfl⟩
    exact ⟨rfl, ownsRow_sorted (by simp) hbase hbk h1 h2 h3, grownBy_sorted _⟩

theorem dcompact_any {w : World} {base : Nat} {v : Value} {ss : List (List UInt8)} (h : w.ownsRow base 9 1 v ss.length (ss.map encStr)) (hb : ss.length ≤ 8796093022207) :
    Calls Tryz.prog 95 #[v] w fun e w' => ∃ v', e = .returned v' ∧ w'.ownsRow base 9 1 v' (compact ss).length ((compact ss).map encStr) ∧ w.grownBy w' v.ownBlock ∧ v'.ownBlock = v.ownBlock := by
  rcases h.2 with ⟨hv, hn⟩ | ⟨g, cap, cur, hv, hbase, hbk, h1, h2, h3, h4⟩
  · subst hv
    have hs : ss = [] := List.eq_nil_of_length_eq_zero hn
    subst hs
    refine (AnyG.slices_Compact_string_empty Tryz.drCompact none 0 w).mono ?_
    rintro e w' ⟨rfl, rfl⟩
    exact ⟨_, rfl, World.ownsRow_nil _ _ _ _, ⟨rfl, rfl, rfl, Nat.le_refl _, fun _ _ _ => rfl⟩, rfl⟩
  · subst hv
    refine (AnyG.slices_Compact_string Tryz.drCompact g 0 cap ss w (holds_of_block hbk (by simpa using h4)) (by omega) h1).mono ?_
    rintro e w' ⟨rfl, q, rfl⟩
    have hle := compact_length_le ss
    refine ⟨_, rfl, ?_, ?_, rfl⟩
    · have := ownsRow_putRow (enc := encStr) (q := q) (k := (compact ss).length) (ys := compact ss ++ List.replicate (ss.length - (compact ss).length) []) h (by simp; omega) hle
      rw [List.take_left' rfl] at this
      exact this
    · have := grownBy_sorted (w := w) (g := g) (n := q) (os := #[]) (compact ss ++ List.replicate (ss.length - (compact ss).length) []).toArray
      rw [grow_empty] at this
      exact this

/-- A draft while its rows are laid. -/
structure Nwd (w W : World) (B P D : Nat) (vals : Array Value) (rows : List Rs) : Prop where
  cl : Cl W w.heap.size B 118 vals rows
  bx : Bk W P 99 #[.pointer (some ⟨B, 0, none⟩)]
  np : B ≠ P ∧ ∀ (i : Nat) r, rows[i]? = some r → r.v.ownBlock ≠ some P
  dd : W.heap[D]? = some (.deferred (some []))
  below : Below w.heap.size w W

section
variable {w W W' : World} {B P D : Nat} {vals : Array Value} {rows : List Rs}
theorem dd_ne {k : Nat} (hd : W.heap[D]? = some (.deferred (some []))) {o : Obj} (ho : W.heap[k]? = some o) (hc : o.isCells = true) : D ≠ k := fun e => by
  rw [← e, hd] at ho
  cases ho
  cases hc

theorem Nwd.still (h : Nwd w W B P D vals rows) (ht : Tn [] W W') : Nwd w W' B P D vals rows :=
  ⟨h.cl.still ht, h.bx.tn ht (by simp), h.np, (ht.block D (Array.getElem?_eq_some_iff.1 h.dd).1 (by simp)).trans h.dd, h.below.trans (ht.below h.below.size (by simp))⟩

theorem Nwd.put (h : Nwd w W B P D vals rows) (j : Nat) (u : Value) : Nwd w (W.setCell ⟨B, j, none⟩ u) B P D (vals.setIfInBounds j u) rows := by
  obtain ⟨h1, ht⟩ := h.cl.put j u
  exact ⟨h1, h.bx.tn ht (by simp; exact Ne.symm h.np.1), h.np, (ht.block D (Array.getElem?_eq_some_iff.1 h.dd).1 (by simp; exact dd_ne h.dd h.cl.blk rfl)).trans h.dd, h.below.trans (ht.below h.below.size (by simp; exact h.cl.ge))⟩

theorem Nwd.app (h : Nwd w W B P D vals rows) {i : Nat} {r : Rs} {v' : Value} {n' : Nat} {xs' : List Value} (hi : rows[i]? = some r) (hg : W.grownBy W' r.v.ownBlock) (ho : W'.ownsRow w.heap.size r.t r.sz v' n' xs') (hv : v'.ownBlock = r.v.ownBlock ∨ v'.ownBlock = some W.heap.size) : Nwd w W' B P D vals (rows.set i ⟨r.t, r.sz, v', n', xs'⟩) := by
  have hil : i < rows.length := (List.getElem?_eq_some_iff.1 hi).1
  have ht := tn_grown hg
  have hnm : ∀ k, k ∈ r.v.ownBlock.toList → r.v.ownBlock = some k := fun k hk => by
    cases hb : r.v.ownBlock with
    | none => rw [hb] at hk; simp at hk
    | some x => rw [hb] at hk; simp at hk; rw [hk]
  refine ⟨h.cl.app hi hg ho hv, h.bx.tn ht (fun hm => h.np.2 i r hi (hnm _ hm)), ⟨h.np.1, fun j q hq => ?_⟩, (ht.block D (Array.getElem?_eq_some_iff.1 h.dd).1 (fun hm => ?_)).trans h.dd, h.below.trans (ht.below h.below.size (fun x hx => ((h.cl.row i r hi).lt x (hnm x hx)).1))⟩
  · by_cases hj : j = i
    · subst hj
      rw [List.getElem?_set_self hil] at hq
      cases hq
      rcases hv with h1 | h1
      · show v'.ownBlock ≠ some P
        rw [h1]; exact h.np.2 _ r hi
      · show v'.ownBlock ≠ some P
        rw [h1]
        have := h.bx.lt
        intro e; cases e; omega
    · rw [List.getElem?_set_ne (Ne.symm hj)] at hq
      exact h.np.2 j q hq
  · obtain ⟨o, ho', hc⟩ := row_kind (h.cl.row i r hi) (hnm _ hm)
    exact dd_ne h.dd ho' hc rfl

theorem Nwd.add (h : Nwd w W B P D vals rows) (ht : Tn [] W W') {r : Rs} {g : Nat} (ho : W'.ownsRow w.heap.size r.t r.sz r.v r.n r.xs) (hv : r.v.ownBlock = some g) (hg : W.heap.size ≤ g) : Nwd w W' B P D vals (rows ++ [r]) := by
  have h1 := h.still ht
  refine ⟨h.cl.add ht ho hv hg, h1.bx, ⟨h.np.1, fun i q hi => ?_⟩, h1.dd, h1.below⟩
  by_cases hl : i < rows.length
  · rw [List.getElem?_append_left hl] at hi
    exact h.np.2 i q hi
  · rw [List.getElem?_append_right (by omega)] at hi
    have h0 : i - rows.length = 0 := by have := (List.getElem?_eq_some_iff.1 hi).1; simp at this; omega
    rw [h0] at hi
    simp at hi
    rw [← hi, hv]
    have := h.bx.lt
    intro e; cases e; omega

theorem bk_ne_row {t e : TypeId} {cs : Array Value} {base size n k : Nat} {v : Value} {xs : List Value} (h : Bk W P t cs) (hr : W.ownsRow base e size v n xs) (hv : v.ownBlock = some k) (hte : t ≠ e) : v.ownBlock ≠ some P := fun hP => by
  rcases hr.2 with ⟨h1, _⟩ | ⟨g, c, cur, h1, _, h2, _⟩
  · rw [h1] at hv; cases hv
  · rw [h1] at hP
    have hgx : g = P := Option.some.inj hP
    rw [hgx, show W.heap[P]? = _ from h] at h2
    cases h2
    exact hte rfl

theorem made_ens (n : Nat) : (madeCells (Value.agg #[.string ⟨#[]⟩, .int .i64 0, .int .i64 0, .int .i64 0]).cells (n * 4)).toList = flatE (List.replicate n En.zero) := by
  apply List.ext_getElem?
  intro j
  by_cases hj : j < n * 4
  · have hi : j / 4 < n := by omega
    have he : (List.replicate n En.zero)[j / 4]? = some En.zero := by simp [hi]
    obtain ⟨h0, h1, h2, h3⟩ := flatE_at (List.replicate n En.zero) (j / 4) _ he
    have hm : j = j / 4 * 4 + j % 4 := by omega
    have hlhs : (madeCells (Value.agg #[.string ⟨#[]⟩, .int .i64 0, .int .i64 0, .int .i64 0]).cells (n * 4)).toList[j]? = some ((#[Value.string ⟨#[]⟩, .int .i64 0, .int .i64 0, .int .i64 0] : Array Value).getD (j % 4) undef) := by
      have h4 : j % 4 = 0 ∨ j % 4 = 1 ∨ j % 4 = 2 ∨ j % 4 = 3 := by omega
      rcases h4 with h | h | h | h <;> simp [madeCells, Value.cells, hj, h]
    rw [hlhs]
    have h4 : j % 4 = 0 ∨ j % 4 = 1 ∨ j % 4 = 2 ∨ j % 4 = 3 := by omega
    rcases h4 with h | h | h | h
    · rw [h]; rw [h] at hm; rw [hm]; simp only [Nat.add_zero]; rw [h0]; rfl
    · rw [h]; rw [h] at hm; rw [hm]; rw [h1]; rfl
    · rw [h]; rw [h] at hm; rw [hm]; rw [h2]; rfl
    · rw [h]; rw [h] at hm; rw [hm]; rw [h3]; rfl
  · rw [List.getElem?_eq_none (by simp [madeCells]; omega), List.getElem?_eq_none (by rw [flatE_len]; simp; omega)]

/-- A row of entries is made. -/
theorem Nwd.makeE (h : Nwd w W B P D vals rows) (n : Nat) (hn : n ≤ 7036874417766) :
    ∃ W1, (Instr.makeSlice 22 (.int .i64 (n : Int)) (.int .i64 (n : Int))).run Tryz.prog W.drew = .ok (.slice (some ⟨W.heap.size, 0, none⟩) n n) W1 ∧ Nwd w W1 B P D vals (rows ++ [⟨30, 4, sl W.heap.size n n, n, flatE (List.replicate n En.zero)⟩]) := by
  obtain ⟨i0, hi, hz0, hz1, hz2⟩ := en_info
  obtain ⟨W1, h1, h2, h3⟩ := run_make_full (P := Tryz.prog) W.drew w.heap.size 22 30 i0 _ 4 Tryz.underlying22 hi hz0 hz1 .i64 .i64 n (by rw [hz2]; omega) (by unfold maxLen; omega) h.below.size
  have ht : Tn [] W W1 := (Tn.drew (Tn.refl [] W)).trans (T := []) ⟨h3.os, h3.tape, h3.output, h3.size, fun k hk _ => h3.block k hk (by simp)⟩ (by simp)
  refine ⟨W1, h1, h.add ht (r := ⟨30, 4, sl W.heap.size n n, n, flatE (List.replicate n En.zero)⟩) (g := W.heap.size) ?_ rfl (Nat.le_refl _)⟩
  rw [made_ens] at h2
  exact h2

theorem Nwd.makeI (h : Nwd w W B P D vals rows) (n : Nat) (hn : n ≤ 35184372088832) :
    ∃ W1, (Instr.makeSlice 115 (.int .i64 (n : Int)) (.int .i64 (n : Int))).run Tryz.prog W.drew = .ok (.slice (some ⟨W.heap.size, 0, none⟩) n n) W1 ∧ Nwd w W1 B P D vals (rows ++ [⟨3, 1, sl W.heap.size n n, n, ints (List.replicate n 0)⟩]) := by
  obtain ⟨W1, h1, hI, hB⟩ := make_ints 115 Tryz.underlying115 n hn W.drew
  have ht : Tn [] W W1 := (Tn.drew (Tn.refl [] W)).trans (Tn.of_below hB []) (by simp)
  refine ⟨W1, h1, h.add ht (r := ⟨3, 1, sl W.heap.size n n, n, ints (List.replicate n 0)⟩) (g := W.heap.size) ?_ rfl (Nat.le_refl _)⟩
  have h2 := hI
  unfold Ir at h2
  rw [List.length_replicate] at h2
  exact row_mono h2 h.below.size
end
end Go.Proofs.YthpilennljpamaaGreat
