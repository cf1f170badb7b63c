/- Arenas in memory. -/
import Derived.Test.YtfbmbjbokmomhaaArSt
namespace Go.Proofs.Ytfbmbjbokmomhaa
open Go.RowKit
set_option linter.unusedVariables false
set_option maxRecDepth 100000

namespace Ar
/-- What Put makes of it. -/
def put (a : Ar) (x : Value) : Ar := { a with us := if low a.us < a.us.length then a.us.set (low a.us) ⟨(slAt a.us (low a.us)).gen + 1, true, x⟩ else a.us ++ [⟨1, true, x⟩] }
/-- The Gen that Put answers. -/
def gen (a : Ar) : Int := if low a.us < a.us.length then (slAt a.us (low a.us)).gen + 1 else 1
/-- Is a handle good? -/
def Good (a : Ar) (s g : Int) : Prop := 0 ≤ s ∧ s < a.us.length ∧ (slAt a.us s.toNat).given = true ∧ (slAt a.us s.toNat).gen = g
/-- A call is refused. -/
def bad (a : Ar) : Ar := { a with stale := a.stale + 1 }
/-- Another value. -/
def set (a : Ar) (i : Nat) (x : Value) : Ar := { a with us := a.us.set i { slAt a.us i with val := x } }
/-- A slot is taken back. -/
def free (a : Ar) (i : Nat) (z : Value) : Ar := { a with us := a.us.set i ⟨(slAt a.us i).gen, false, z⟩ }
/-- A new one. -/
def fresh (n : Nat) : Ar := ⟨n, [], 0⟩
end Ar

/-- An arena: its block, the row of its slots, the row of those that wait. -/
structure IsAr (tA tS : TypeId) (w : World) (B : Nat) (uv fv : Value) (fr : List Nat) (a : Ar) : Prop where
  wt : Wt w B tA (.int .i64 a.size) uv (.int .i64 a.stale) fv fr
  row : w.ownsRow 0 tS 3 uv a.us.length (slCells a.us)
  ne1 : ∀ k, uv.ownBlock = some k → k ≠ B
  ne2 : ∀ k, uv.ownBlock = some k → fv.ownBlock ≠ some k
  hp : Hq.Is fr
  perm : fr.Perm (freeOf a.us)
  le : a.us.length ≤ a.size
  s1 : 1 ≤ a.size
  s2 : a.size ≤ 65536

def bsOf (B : Nat) (uv fv : Value) : List Nat := B :: (uv.ownBlock.toList ++ fv.ownBlock.toList)

theorem mem_bsOf {B : Nat} {uv fv : Value} {k : Nat} : k ∈ bsOf B uv fv ↔ k = B ∨ uv.ownBlock = some k ∨ fv.ownBlock = some k := by simp only [bsOf, List.mem_cons, List.mem_append, opt_toList]

/-- An arena, and the blocks that are its. -/
def Arn (tA tS : TypeId) (w : World) (B : Nat) (bs : List Nat) (a : Ar) : Prop := ∃ uv fv fr, bs = bsOf B uv fv ∧ IsAr tA tS w B uv fv fr a

/-- What has become of an arena. -/
def ArT (tA tS : TypeId) (w w' : World) (B : Nat) (bs : List Nat) (a : Ar) : Prop := ∃ bs', Arn tA tS w' B bs' a ∧ Tn bs w w' ∧ ∀ b ∈ bs', b ∈ bs ∨ w.heap.size ≤ b

variable {tA tS : TypeId}

theorem IsAr.tn {S : List Nat} {w w' : World} {B : Nat} {uv fv : Value} {fr : List Nat} {a : Ar} (h : IsAr tA tS w B uv fv fr a) (ht : Tn S w w') (hS : ∀ b ∈ bsOf B uv fv, b ∉ S) : IsAr tA tS w' B uv fv fr a :=
  { wt := ⟨h.wt.blk.tn ht (hS B (mem_bsOf.2 (.inl rfl))), h.wt.row.tn ht (fun k hk => hS k (mem_bsOf.2 (.inr (.inr hk)))), h.wt.ne, h.wt.len⟩
    row := owns_tn h.row ht (fun k hk => hS k (mem_bsOf.2 (.inr (.inl hk))))
    ne1 := h.ne1, ne2 := h.ne2, hp := h.hp, perm := h.perm, le := h.le, s1 := h.s1, s2 := h.s2 }

theorem Arn.tn {S : List Nat} {w w' : World} {B : Nat} {bs : List Nat} {a : Ar} (h : Arn tA tS w B bs a) (ht : Tn S w w') (hS : ∀ b ∈ bs, b ∉ S) : Arn tA tS w' B bs a := by
  obtain ⟨uv, fv, fr, rfl, h⟩ := h
  exact ⟨uv, fv, fr, rfl, h.tn ht hS⟩

theorem IsAr.lt {w : World} {B : Nat} {uv fv : Value} {fr : List Nat} {a : Ar} (h : IsAr tA tS w B uv fv fr a) : ∀ b ∈ bsOf B uv fv, b < w.heap.size := by
  intro b hb
  rcases mem_bsOf.1 hb with rfl | hb | hb
  · exact h.wt.blk.lt
  · exact row_block h.row b hb
  · exact row_block h.wt.row b hb

theorem Arn.lt {w : World} {B : Nat} {bs : List Nat} {a : Ar} (h : Arn tA tS w B bs a) : ∀ b ∈ bs, b < w.heap.size := by
  obtain ⟨uv, fv, fr, rfl, h⟩ := h
  exact h.lt

theorem Arn.hB {w : World} {B : Nat} {bs : List Nat} {a : Ar} (h : Arn tA tS w B bs a) : B ∈ bs := by
  obtain ⟨uv, fv, fr, rfl, h⟩ := h
  exact mem_bsOf.2 (.inl rfl)

theorem Arn.below {w w' : World} {B : Nat} {bs : List Nat} {a : Ar} (h : Arn tA tS w B bs a) (hb : Below w.heap.size w w') : Arn tA tS w' B bs a := h.tn (Tn.of_below hb []) (by simp)

theorem ArT.refl {w : World} {B : Nat} {bs : List Nat} {a : Ar} (h : Arn tA tS w B bs a) : ArT tA tS w w B bs a := ⟨bs, h, Tn.refl _ _, fun b hb => .inl hb⟩

theorem ArT.same {w w' : World} {B : Nat} {bs : List Nat} {a : Ar} (h : Arn tA tS w B bs a) (ht : Tn [] w w') : ArT tA tS w w' B bs a := ⟨bs, h.tn ht (by simp), ht.mono (by simp), fun b hb => .inl hb⟩

theorem ArT.trans {w w1 w2 : World} {B : Nat} {bs bs1 : List Nat} {a : Ar} (h1 : Tn bs w w1) (hn : ∀ b ∈ bs1, b ∈ bs ∨ w.heap.size ≤ b) (h2 : ArT tA tS w1 w2 B bs1 a) : ArT tA tS w w2 B bs a := by
  obtain ⟨bs2, ha, ht, hm⟩ := h2
  refine ⟨bs2, ha, h1.trans ht hn, fun b hb => ?_⟩
  rcases hm b hb with h | h
  · exact hn b h
  · exact .inr (Nat.le_trans h1.size h)

/-- A step that changes no old block, and then one on the arena. -/
theorem ArT.pre {w w1 w2 : World} {B : Nat} {bs : List Nat} {a : Ar} (h1 : Tn [] w w1) (h2 : ArT tA tS w1 w2 B bs a) : ArT tA tS w w2 B bs a :=
  ArT.trans (h1.mono (by simp)) (fun b hb => .inl hb) h2

/-- .. and one behind it, at new blocks alone. -/
theorem ArT.post {w w1 w2 : World} {B : Nat} {bs S : List Nat} {a : Ar} (h1 : ArT tA tS w w1 B bs a) (ht : Tn S w1 w2) (hS : ∀ x ∈ S, w.heap.size ≤ x ∧ x ∉ bs) (hnew : ∀ bs', Arn tA tS w1 B bs' a → ∀ b ∈ bs', b ∉ S) : ArT tA tS w w2 B bs a := by
  obtain ⟨bs1, ha, ht1, hm⟩ := h1
  exact ⟨bs1, ha.tn ht (hnew bs1 ha), ht1.trans ht (fun x hx => .inr (hS x hx).1), hm⟩

theorem ArT.drew {w w1 : World} {B : Nat} {bs : List Nat} {a : Ar} (h : ArT tA tS w w1 B bs a) : ArT tA tS w w1.drew B bs a :=
  h.post (S := []) (Tn.refl [] w1).drew (by simp) (by simp)

theorem ArT.drewN {w w1 : World} {B : Nat} {bs : List Nat} {a : Ar} (h : ArT tA tS w w1 B bs a) (n : Nat) : ArT tA tS w (w1.drewN n) B bs a :=
  h.post (S := []) (Tn.of_below (below_drewN (Below.refl _ _) _) _) (by simp) (by simp)

/-- The cells of an arena's block. -/
theorem IsAr.cells {w : World} {B : Nat} {uv fv : Value} {fr : List Nat} {a : Ar} (h : IsAr tA tS w B uv fv fr a) :
    w.cell? ⟨B, 0, none⟩ = some (.int .i64 a.size) ∧ w.cell? ⟨B, 1, none⟩ = some uv ∧ w.cell? ⟨B, 2, none⟩ = some fv ∧ w.cell? ⟨B, 3, none⟩ = some (.int .i64 a.stale) :=
  ⟨h.wt.blk.cell 0, h.wt.blk.cell 1, h.wt.blk.cell 2, h.wt.blk.cell 3⟩

theorem IsAr.uform {w : World} {B : Nat} {uv fv : Value} {fr : List Nat} {a : Ar} (h : IsAr tA tS w B uv fv fr a) : ∃ p c, uv = .slice p a.us.length c := by
  rcases h.row.2 with ⟨hv, hn⟩ | ⟨g, cap, cur, hv, _⟩
  · exact ⟨none, 0, by rw [hv, hn]⟩
  · exact ⟨_, cap, hv⟩

theorem IsAr.fform {w : World} {B : Nat} {uv fv : Value} {fr : List Nat} {a : Ar} (h : IsAr tA tS w B uv fv fr a) : ∃ p c, fv = .slice p fr.length c := by
  obtain ⟨p, c, hv, _⟩ := h.wt.row.form
  exact ⟨p, c, hv⟩

theorem IsAr.frlen {w : World} {B : Nat} {uv fv : Value} {fr : List Nat} {a : Ar} (h : IsAr tA tS w B uv fv fr a) : live a.us + fr.length = a.us.length := by
  rw [h.perm.length_eq]
  exact live_free _

/-- The cells of a row of slots. -/
theorem row_cells {w : World} {us : List Sl} {g n c : Nat} (hn : us.length = n) (h : w.ownsRow 0 tS 3 (.slice (some ⟨g, 0, none⟩) n c) us.length (slCells us)) (i : Nat) (hi : i < n) :
    w.cell? ⟨g, i * 3, none⟩ = some (.int .i64 (slAt us i).gen) ∧ w.cell? ⟨g, i * 3 + 1, none⟩ = some (.bool (slAt us i).given) ∧ w.cell? ⟨g, i * 3 + 2, none⟩ = some (slAt us i).val := by
  subst hn
  refine ⟨?_, ?_, ?_⟩
  · rw [World.ownsRow.cellAt h (i * 3) (by omega)]
    exact slCells_at us i 0 hi (by omega)
  · rw [World.ownsRow.cellAt h (i * 3 + 1) (by omega)]
    exact slCells_at us i 1 hi (by omega)
  · rw [World.ownsRow.cellAt h (i * 3 + 2) (by omega)]
    exact slCells_at us i 2 hi (by omega)

theorem row_frozen {w : World} {us : List Sl} {g n c : Nat} (hn : us.length = n) (h : w.ownsRow 0 tS 3 (.slice (some ⟨g, 0, none⟩) n c) us.length (slCells us)) (j : Nat) : w.frozen? ⟨g, j, none⟩ = false := by
  subst hn
  exact World.ownsRow.frozenAt h j

/-- A slot is written. -/
theorem row_write {w : World} {us : List Sl} {g n c : Nat} (hn : us.length = n) (h : w.ownsRow 0 tS 3 (.slice (some ⟨g, 0, none⟩) n c) us.length (slCells us)) (i : Nat) (hi : i < n) (s : Sl) :
    (((w.setCell ⟨g, i * 3, none⟩ (.int .i64 s.gen)).setCell ⟨g, i * 3 + 1, none⟩ (.bool s.given)).setCell ⟨g, i * 3 + 2, none⟩ s.val).ownsRow 0 tS 3 (.slice (some ⟨g, 0, none⟩) n c) (us.set i s).length (slCells (us.set i s)) := by
  subst hn
  have h1 := World.ownsRow.stored h (i * 3) (.int .i64 s.gen)
  have h2 := World.ownsRow.stored h1.1 (i * 3 + 1) (.bool s.given)
  have h3 := World.ownsRow.stored h2.1 (i * 3 + 2) s.val
  rw [List.length_set, slCells_set _ _ _ hi]
  exact h3.1

/-- Its value alone. -/
theorem row_value {w : World} {us : List Sl} {g n c : Nat} (hn : us.length = n) (h : w.ownsRow 0 tS 3 (.slice (some ⟨g, 0, none⟩) n c) us.length (slCells us)) (i : Nat) (hi : i < n) (x : Value) :
    (w.setCell ⟨g, i * 3 + 2, none⟩ x).ownsRow 0 tS 3 (.slice (some ⟨g, 0, none⟩) n c) (us.set i { slAt us i with val := x }).length (slCells (us.set i { slAt us i with val := x })) := by
  subst hn
  have h3 := World.ownsRow.stored h (i * 3 + 2) x
  rw [List.length_set, slCells_set _ _ _ hi]
  have e1 : (slCells us).set (i * 3) (.int .i64 (slAt us i).gen) = slCells us := by
    have e0 := slCells_at us i 0 hi (by omega)
    obtain ⟨hl, e0⟩ := List.getElem?_eq_some_iff.1 (show (slCells us)[i * 3]? = some (.int .i64 (slAt us i).gen) from e0)
    rw [← e0]
    exact List.set_getElem_self hl
  have e2 : (slCells us).set (i * 3 + 1) (.bool (slAt us i).given) = slCells us := by
    have e0 := slCells_at us i 1 hi (by omega)
    obtain ⟨hl, e0⟩ := List.getElem?_eq_some_iff.1 (show (slCells us)[i * 3 + 1]? = some (.bool (slAt us i).given) from e0)
    rw [← e0]
    exact List.set_getElem_self hl
  show (w.setCell ⟨g, i * 3 + 2, none⟩ x).ownsRow 0 tS 3 _ _ ((((slCells us).set (i * 3) (.int .i64 (slAt us i).gen)).set (i * 3 + 1) (.bool (slAt us i).given)).set (i * 3 + 2) x)
  rw [e1, e2]
  exact h3.1

/-- Between the choice of a slot and its being given. -/
structure Mid (tA tS : TypeId) (w : World) (B : Nat) (uv fv : Value) (fr : List Nat) (size : Nat) (stale : Int) (us : List Sl) (i : Nat) : Prop where
  wt : Wt w B tA (.int .i64 size) uv (.int .i64 stale) fv fr
  row : w.ownsRow 0 tS 3 uv us.length (slCells us)
  ne1 : ∀ k, uv.ownBlock = some k → k ≠ B
  ne2 : ∀ k, uv.ownBlock = some k → fv.ownBlock ≠ some k
  hp : Hq.Is fr
  perm : ∀ s : Sl, s.given = true → fr.Perm (freeOf (us.set i s))
  hi : i < us.length

/-- The slots, with a place for the next one. -/
def opened (us : List Sl) (z : Value) : List Sl := if low us < us.length then us else us ++ [⟨0, false, z⟩]

theorem opened_set (a : Ar) (z x : Value) : (opened a.us z).set (low a.us) ⟨a.gen, true, x⟩ = (a.put x).us := by
  unfold opened Ar.put Ar.gen
  by_cases h : low a.us < a.us.length
  · simp only [if_pos h]
  · simp only [if_neg h]
    have : low a.us = a.us.length := by have := low_le a.us; omega
    rw [this]
    simp

theorem opened_gen (a : Ar) (z : Value) : (slAt (opened a.us z) (low a.us)).gen + 1 = a.gen := by
  unfold opened Ar.gen
  by_cases h : low a.us < a.us.length
  · simp only [if_pos h]
  · simp only [if_neg h]
    have : low a.us = a.us.length := by have := low_le a.us; omega
    rw [this, slAt_last]
    rfl

/-- A slot is given. -/
theorem Mid.give {w w' : World} {B : Nat} {g n c : Nat} {fv : Value} {fr : List Nat} {size : Nat} {stale : Int} {us : List Sl} {i : Nat} (hn : us.length = n) (h : Mid tA tS w B (.slice (some ⟨g, 0, none⟩) n c) fv fr size stale us i) (s : Sl) (hs : s.given = true) (h1 : 1 ≤ size) (h2 : size ≤ 65536) (hl : n ≤ size)
    (hw' : w' = ((w.setCell ⟨g, i * 3, none⟩ (.int .i64 s.gen)).setCell ⟨g, i * 3 + 1, none⟩ (.bool s.given)).setCell ⟨g, i * 3 + 2, none⟩ s.val) :
    IsAr tA tS w' B (.slice (some ⟨g, 0, none⟩) n c) fv fr ⟨size, us.set i s, stale⟩ ∧ Tn [g] w w' := by
  have ht : Tn [g] w w' := by
    rw [hw']
    exact (((Tn.refl _ _).setCell (.inl (by simp)) _).setCell (.inl (by simp)) _).setCell (.inl (by simp)) _
  have hgB : g ≠ B := h.ne1 g rfl
  refine ⟨?_, ht⟩
  exact {
    wt := ⟨h.wt.blk.tn ht (by simp; omega), h.wt.row.tn ht (fun k hk hm => by simp at hm; subst hm; exact h.ne2 k rfl hk), h.wt.ne, h.wt.len⟩
    row := by rw [hw']; exact row_write hn h.row i (by have := h.hi; omega) s
    ne1 := h.ne1
    ne2 := h.ne2
    hp := h.hp
    perm := h.perm s hs
    le := by simp [hn]; exact hl
    s1 := h1
    s2 := h2 }

end Go.Proofs.Ytfbmbjbokmomhaa
