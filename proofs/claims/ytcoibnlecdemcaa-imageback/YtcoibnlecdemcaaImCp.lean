/- Pairs cut into chunks: plain data; what lies between the rounds. -/
import Derived.Test.YtcoibnlecdemcaaImIt
import Derived.Test.YtcoibnlecdemcaaImEq
import Derived.Test.YtcoibnlecdemcaaRgT2
namespace Go.Proofs.Ytcoibnlecdemcaa
open Go.RowKit Go.Shelf
set_option linter.unusedVariables false
set_option maxRecDepth 100000

/-- A chunk, as it is handed on, and its pairs. -/
structure Cd where
  x : Ck
  s : List St
abbrev Cd.dat (c : Cd) : Int × List St × Bool := (c.x.num, c.s, c.x.last)
def Cd.Dt (c : Cd) (A : World) : Prop := Rk.InS A c.x.p c.x.n c.x.c c.s
def Cd.blk (c : Cd) : List Nat := (Value.slice c.x.p c.x.n c.x.c).ownBlock.toList
abbrev encC (c : Cd) : Array Value := #[c.x.v]

theorem Cd.Dt.kp {c : Cd} {W W' : World} (h : c.Dt W) (hk : KpP c.blk W W') : c.Dt W' := by
  refine ⟨h.lenq, fun hl => ?_, h.le, h.room, h.nil⟩
  obtain ⟨b, o, hp, hc⟩ := h.cel hl
  refine ⟨b, o, hp, fun i g hi j v hv => ?_⟩
  have h0 := hc i g hi j v hv
  have hb := hk b (by unfold Cd.blk; rw [hp]; simp [Value.ownBlock])
  simp only [World.cell?, hb] at h0 ⊢
  exact h0

namespace Cc
def nch (L : List St) : Nat := (L.length - 1) / 16 + 1
def ck (L : List St) (i : Nat) : Int × List St × Bool := ((i : Int), (L.drop (16 * i)).take 16, decide (i + 1 = nch L))
def all (L : List St) : List (Int × List St × Bool) := (List.range (nch L)).map (ck L)
theorem all_len (L : List St) : (all L).length = nch L := by simp [all]
theorem all_at {L : List St} {i : Nat} (h : i < nch L) : (all L)[i]? = some (ck L i) := by
  unfold all
  rw [List.getElem?_map, List.getElem?_range h]
  rfl
/-- The chunks of xs are the first ones. -/
def First (L : List St) (xs : List Cd) : Prop := xs.map Cd.dat = (List.range xs.length).map (ck L) ∧ xs.length ≤ nch L
def Whole (L : List St) (xs : List Cd) : Prop := xs.map Cd.dat = all L
theorem First.nil (L : List St) : First L [] := ⟨rfl, Nat.zero_le _⟩
theorem First.snoc {L : List St} {xs : List Cd} (h : First L xs) (hl : xs.length < nch L) (c : Cd) (hc : c.dat = ck L xs.length) : First L (xs ++ [c]) := by
  refine ⟨?_, by simp; omega⟩
  rw [List.map_append, h.1, List.length_append, List.length_singleton, List.range_succ, List.map_append]
  simp [hc]
theorem First.whole {L : List St} {xs : List Cd} (h : First L xs) (hl : xs.length = nch L) : Whole L xs := by
  unfold Whole all
  rw [h.1, hl]
theorem First.last {L : List St} {xs : List Cd} {c : Cd} (h : First L (xs ++ [c])) : xs.length < nch L ∧ c.dat = ck L xs.length := by
  have h2 := h.2
  simp at h2
  refine ⟨by omega, ?_⟩
  have h1 := h.1
  rw [List.map_append, List.length_append, List.length_singleton, List.range_succ, List.map_append] at h1
  have := List.append_inj_right' h1 (by simp)
  simpa using this
theorem nch_le (L : List St) {i : Nat} (h : 16 * i + 17 ≤ L.length) : i + 1 < nch L := by unfold nch; omega
theorem nch_eq {L : List St} {i c : Nat} (h : L.length = 16 * i + c) (hc : c ≤ 16) (h1 : i = 0 ∨ 1 ≤ c) : nch L = i + 1 := by unfold nch; omega
end Cc

/-- How far it has come: k chunks were handed on, cur is gathered. -/
structure At (L : List St) (k : Nat) (pre cur : List St) : Prop where
  len : pre.length = 16 * k + cur.length
  pf : pre <+: L
  tk : cur = (L.drop (16 * k)).take cur.length
  le : cur.length ≤ 16
  ne : k = 0 ∨ 1 ≤ cur.length

theorem At.start (L : List St) : At L 0 [] [] := ⟨rfl, List.nil_prefix, rfl, Nat.zero_le _, .inl rfl⟩
theorem take_snocs {α : Type} {l : List α} {n : Nat} {x : α} (h : l[n]? = some x) : l.take (n + 1) = l.take n ++ [x] := by
  rw [List.take_add_one, h]
  rfl
theorem pre_next {L pre : List St} {x : St} (h : pre ++ [x] <+: L) : L[pre.length]? = some x := by
  obtain ⟨t, rfl⟩ := h
  simp
/-- One pair more. -/
theorem At.more {L : List St} {k : Nat} {pre cur : List St} (h : At L k pre cur) (hl : cur.length < 16) (x : St) (hx : pre ++ [x] <+: L) : At L k (pre ++ [x]) (cur ++ [x]) := by
  refine ⟨by simp [h.len]; omega, hx, ?_, by simp; omega, .inr (by simp)⟩
  have h1 := pre_next hx
  rw [h.len] at h1
  have h2 : (L.drop (16 * k))[cur.length]? = some x := by rw [List.getElem?_drop]; exact h1
  rw [List.length_append, List.length_singleton, take_snocs h2, ← h.tk]
/-- A full one is handed on. -/
theorem At.full {L : List St} {k : Nat} {pre cur : List St} (h : At L k pre cur) (hl : cur.length = 16) (x : St) (hx : pre ++ [x] <+: L) : At L (k + 1) (pre ++ [x]) [x] ∧ k < Cc.nch L ∧ ((k : Int), cur, false) = Cc.ck L k := by
  have h1 := pre_next hx
  have h2 := (List.getElem?_eq_some_iff.1 h1).1
  have h3 := h.len
  have h4 := Cc.nch_le L (i := k) (by omega)
  refine ⟨⟨by simp [h.len]; omega, hx, ?_, by simp, .inr (by simp)⟩, by omega, ?_⟩
  · have h5 : L[16 * (k + 1)]? = some x := by rw [show 16 * (k + 1) = pre.length by omega]; exact h1
    have h6 : (L.drop (16 * (k + 1)))[0]? = some x := by rw [List.getElem?_drop]; exact h5
    rw [List.length_singleton, take_snocs h6]
    rfl
  · unfold Cc.ck
    have h5 : (L.drop (16 * k)).take 16 = cur := by
      have h6 := h.tk
      rw [hl] at h6
      exact h6.symm
    rw [h5, show decide (k + 1 = Cc.nch L) = false by simp; omega]
/-- The last one. -/
theorem At.last {L : List St} {k : Nat} {cur : List St} (h : At L k L cur) : Cc.nch L = k + 1 ∧ ((k : Int), cur, true) = Cc.ck L k := by
  have h1 := Cc.nch_eq h.len h.le h.ne
  refine ⟨h1, ?_⟩
  have h2 : (L.drop (16 * k)).length = cur.length := by rw [List.length_drop, h.len]; omega
  have h3 : (L.drop (16 * k)).take 16 = cur := by
    rw [List.take_of_length_le (by rw [h2]; exact h.le)]
    have h4 := h.tk
    rw [List.take_of_length_le (by omega)] at h4
    exact h4.symm
  unfold Cc.ck
  rw [h3, h1]
  simp

/-- The iterator's own: the caller's function, the chunk under way. -/
structure Cu (B l : Nat) (num : Int) (v : Value) (cur : List St) (T : List Nat) (A : World) : Prop where
  yb : Bk A B 106 #[.func (.yield l) #[] #[]]
  cb : Bk A (B + 1) 71 #[.int .i64 num, v, .bool false]
  row : OwnS A (B + 4) v cur
  sep : ∀ b ∈ T, b ≠ B ∧ b ≠ B + 1 ∧ v.ownBlock ≠ some b

section
variable {B l : Nat} {num : Int} {v : Value} {cur : List St} {T T' : List Nat} {A A' : World}
theorem Cu.keep (h : Cu B l num v cur T A) (hk : ∀ b, B ≤ b → b < A.heap.size → b ∉ T → A'.heap[b]? = A.heap[b]?) (hT : ∀ b ∈ T', b ∈ T ∨ A.heap.size ≤ b) : Cu B l num v cur T' A' := by
  have n1 : B ∉ T := fun hm => (h.sep _ hm).1 rfl
  have n2 : B + 1 ∉ T := fun hm => (h.sep _ hm).2.1 rfl
  have l1 := h.yb.lt
  have l2 := h.cb.lt
  refine ⟨(hk _ (Nat.le_refl _) l1 n1).trans h.yb, (hk _ (by omega) l2 n2).trans h.cb, ?_, fun b hb => ?_⟩
  · refine ⟨h.row.1, ?_⟩
    rcases h.row.2 with hn | ⟨g, cap, c0, hv, hbb, hg, rest⟩
    · exact .inl hn
    · have hgl := (Array.getElem?_eq_some_iff.1 hg).1
      exact .inr ⟨g, cap, c0, hv, hbb, (hk g (by omega) hgl (fun hm => (h.sep _ hm).2.2 (by rw [hv]; rfl))).trans hg, rest⟩
  · rcases hT b hb with h1 | h1
    · exact h.sep b h1
    · refine ⟨by omega, by omega, fun e => ?_⟩
      have := (h.row.blk e).2
      omega
/-- The chunk's cells behind a round that took its row. -/
theorem Cu.gone (h : Cu B l num v cur T A) (hk : ∀ b, B ≤ b → b < A.heap.size → b ∉ T → A'.heap[b]? = A.heap[b]?) : Bk A' B 106 #[.func (.yield l) #[] #[]] ∧ Bk A' (B + 1) 71 #[.int .i64 num, v, .bool false] := by
  have n1 : B ∉ T := fun hm => (h.sep _ hm).1 rfl
  have n2 : B + 1 ∉ T := fun hm => (h.sep _ hm).2.1 rfl
  exact ⟨(hk _ (Nat.le_refl _) h.yb.lt n1).trans h.yb, (hk _ (by omega) h.cb.lt n2).trans h.cb⟩
/-- The row in a list of blocks. -/
theorem Cu.tn (h : Cu B l num v cur T A) (h0 : B + 2 ≤ A'.heap.size) (hb : Below (B + 2) A A') (hk : KpP (T ++ v.ownBlock.toList) A A') : Cu B l num v cur T A' := by
  refine ⟨(hb.block _ (by omega)).trans h.yb, (hb.block _ (by omega)).trans h.cb, ?_, h.sep⟩
  refine ⟨h.row.1, ?_⟩
  rcases h.row.2 with hn | ⟨g, cap, c0, hv, hbb, hg, rest⟩
  · exact .inl hn
  · exact .inr ⟨g, cap, c0, hv, hbb, (hk g (by rw [hv]; simp [Value.ownBlock])).trans hg, rest⟩
/-- One pair more is gathered. -/
theorem Cu.app {R : List Nat} {w5 : World} {v' : Value} {x : St} (h : Cu B l num v cur T A) (hs : B + 4 ≤ A.heap.size) (hR : ∀ b ∈ R, b < B) (hT : ∀ b ∈ T, b < A.heap.size)
    (ho : OwnS w5 (B + 4) v' (cur ++ [x])) (hg : (A.alloc (.cells (Rk.St.cells x).toArray 52)).grownBy w5 v.ownBlock) (hq : v'.ownBlock = v.ownBlock ∨ v'.ownBlock = some (A.heap.size + 1)) :
    Bk w5 (B + 1) 71 #[.int .i64 num, v, .bool false] ∧ Cu B l num v' (cur ++ [x]) T (w5.setCell ⟨B + 1, 1, none⟩ v') ∧ Below B A (w5.setCell ⟨B + 1, 1, none⟩ v') ∧ KpP T A (w5.setCell ⟨B + 1, 1, none⟩ v') ∧ KpP R A (w5.setCell ⟨B + 1, 1, none⟩ v') ∧ (∀ b, b < A.heap.size → b ≠ B + 1 → v.ownBlock ≠ some b → (w5.setCell ⟨B + 1, 1, none⟩ v').heap[b]? = A.heap[b]?) := by
  have hz : (A.alloc (.cells (Rk.St.cells x).toArray 52)).heap.size = A.heap.size + 1 := by simp
  have hblk : ∀ g, v.ownBlock = some g → B + 4 ≤ g := fun g e => (h.row.blk e).1
  have e1 : ∀ b, b < A.heap.size → v.ownBlock ≠ some b → w5.heap[b]? = A.heap[b]? := fun b h1 h2 =>
    (hg.block b (by omega) (fun e => h2 e.symm)).trans (Below.heap_alloc _ _ _ h1)
  have hl1 := h.yb.lt
  have hl2 := h.cb.lt
  have kc : Bk w5 (B + 1) 71 #[.int .i64 num, v, .bool false] := (e1 _ hl2 (fun e => by have := hblk _ e; omega)).trans h.cb
  have e2 : ∀ b, b < A.heap.size → b ≠ B + 1 → v.ownBlock ≠ some b → (w5.setCell ⟨B + 1, 1, none⟩ v').heap[b]? = A.heap[b]? := fun b h1 h2 h3 =>
    (Below.heap_setCell _ _ _ _ h2).trans (e1 b h1 h3)
  have hz5 : A.heap.size + 1 ≤ w5.heap.size := by have := hg.size; omega
  have nb : ∀ b, B ≤ b → b < B + 4 → v.ownBlock ≠ some b := fun b h1 h2 e => by have := hblk _ e; omega
  refine ⟨kc, ⟨(e2 _ hl1 (by omega) (nb _ (by omega) (by omega))).trans h.yb, ?_, ?_, fun b hb => ⟨(h.sep b hb).1, (h.sep b hb).2.1, fun e => ?_⟩⟩, ?_, fun b hb => e2 b (hT b hb) (h.sep b hb).2.1 (h.sep b hb).2.2, fun b hb => ?_, e2⟩
  · have := kc.set 1 v'
    simpa using this
  · exact ho.tn ((Tn.refl [B + 1] w5).setCell (.inl (by simp)) v') (fun b hb => by
      have := (ho.blk hb).1
      simp
      omega)
  · rcases hq with hq | hq
    · exact (h.sep b hb).2.2 (by rw [← hq]; exact e)
    · rw [hq] at e
      have := hT b hb
      simp at e
      omega
  · have h1 : Below B A (A.alloc (.cells (Rk.St.cells x).toArray 52)) := (Below.refl _ _).alloc (by omega) _
    exact (h1.grown hg (by omega) (fun b e => by have := hblk b e; omega)).setCell (p := ⟨B + 1, 1, none⟩) (by show B ≤ B + 1; omega) _
  · have := hR b hb
    exact e2 b (by omega) (by omega) (fun e => by have := hblk _ e; omega)
theorem Cu.dt (h : Cu B l num v cur T A) : ∃ p c, v = .slice p cur.length c ∧ ∀ b, Cd.Dt ⟨⟨num, p, cur.length, c, b⟩, cur⟩ A := by
  obtain ⟨p, c, hv, hi⟩ := OwnS.ins h.row
  exact ⟨p, c, hv, fun b => hi⟩
end
end Go.Proofs.Ytcoibnlecdemcaa
