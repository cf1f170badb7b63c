/- Arenas in memory. -/
import Derived.Test.YtoehlgigidgfpaaGreatAgSt
namespace Go.Proofs.YtoehlgigidgfpaaGreat
open Go.RowKit
set_option linter.unusedVariables false
set_option linter.unusedSectionVars false
set_option maxRecDepth 100000

variable {α : Type} [Inhabited α]

namespace Ar
/-- What Put makes of it. -/
def put (a : Ar α) (x : α) : Ar α := { a with us := if low a.us < a.us.length then a.us.set (low a.us) ⟨(slAt a.us (low a.us)).gen + 1, true, x⟩ else a.us ++ [⟨1, true, x⟩] }
/-- The Gen that Put answers. -/
def gen (a : Ar α) : Int := if low a.us < a.us.length then (slAt a.us (low a.us)).gen + 1 else 1
/-- Is a handle good? -/
def Good (a : Ar α) (s g : Int) : Prop := 0 ≤ s ∧ s < a.us.length ∧ (slAt a.us s.toNat).given = true ∧ (slAt a.us s.toNat).gen = g
/-- A call is refused. -/
def bad (a : Ar α) : Ar α := { a with stale := a.stale + 1 }
/-- Another value. -/
def set (a : Ar α) (i : Nat) (x : α) : Ar α := { a with us := a.us.set i { slAt a.us i with val := x } }
/-- A slot is taken back. -/
def free (a : Ar α) (i : Nat) (z : α) : Ar α := { a with us := a.us.set i ⟨(slAt a.us i).gen, false, z⟩ }
/-- A new one. -/
def fresh (n : Nat) : Ar α := ⟨n, [], 0⟩
end Ar

/-- An arena: its block, the row of its slots, the row of those that wait. -/
structure IsAr (cells : α → List Value) (k : Nat) (tA tS : TypeId) (w : World) (B : Nat) (uv fv : Value) (fr : List Nat) (a : Ar α) : Prop where
  wt : Wt w B tA (.int .i64 a.size) uv (.int .i64 a.stale) fv fr
  row : w.ownsRow 0 tS (k + 2) uv a.us.length (flat (slc cells) a.us)
  ne1 : ∀ k, uv.ownBlock = some k → k ≠ B
  ne2 : ∀ k, uv.ownBlock = some k → fv.ownBlock ≠ some k
  hp : Hq.Is fr
  perm : fr.Perm (freeOf a.us)
  le : a.us.length ≤ a.size
  s1 : 1 ≤ a.size
  s2 : a.size ≤ 65536

def bsOf (B : Nat) (uv fv : Value) : List Nat := B :: (uv.ownBlock.toList ++ fv.ownBlock.toList)

theorem mem_bsOf {B : Nat} {uv fv : Value} {k : Nat} : k ∈ bsOf B uv fv ↔ k = B ∨ uv.ownBlock = some k ∨ fv.ownBlock = some k := by simp only [bsOf, List.mem_cons, List.mem_append, opt_toList]

/-- An arena, and the blocks that are its. -/
def Arn (cells : α → List Value) (k : Nat) (tA tS : TypeId) (w : World) (B : Nat) (bs : List Nat) (a : Ar α) : Prop := ∃ uv fv fr, bs = bsOf B uv fv ∧ IsAr cells k tA tS w B uv fv fr a

/-- What has become of an arena. -/
def ArT (cells : α → List Value) (k : Nat) (tA tS : TypeId) (w w' : World) (B : Nat) (bs : List Nat) (a : Ar α) : Prop := ∃ bs', Arn cells k tA tS w' B bs' a ∧ Tn bs w w' ∧ ∀ b ∈ bs', b ∈ bs ∨ w.heap.size ≤ b

variable {tA tS : TypeId} {cells : α → List Value} {k : Nat}

theorem IsAr.tn {S : List Nat} {w w' : World} {B : Nat} {uv fv : Value} {fr : List Nat} {a : Ar α} (h : IsAr cells k tA tS w B uv fv fr a) (ht : Tn S w w') (hS : ∀ b ∈ bsOf B uv fv, b ∉ S) : IsAr cells k tA tS w' B uv fv fr a :=
  { wt := ⟨h.wt.blk.tn ht (hS B (mem_bsOf.2 (.inl rfl))), h.wt.row.tn ht (fun k hk => hS k (mem_bsOf.2 (.inr (.inr hk)))), h.wt.ne, h.wt.len⟩
    row := owns_tn h.row ht (fun k hk => hS k (mem_bsOf.2 (.inr (.inl hk))))
    ne1 := h.ne1, ne2 := h.ne2, hp := h.hp, perm := h.perm, le := h.le, s1 := h.s1, s2 := h.s2 }

theorem Arn.tn {S : List Nat} {w w' : World} {B : Nat} {bs : List Nat} {a : Ar α} (h : Arn cells k tA tS w B bs a) (ht : Tn S w w') (hS : ∀ b ∈ bs, b ∉ S) : Arn cells k tA tS w' B bs a := by
  obtain ⟨uv, fv, fr, rfl, h⟩ := h
  exact ⟨uv, fv, fr, rfl, h.tn ht hS⟩

theorem IsAr.lt {w : World} {B : Nat} {uv fv : Value} {fr : List Nat} {a : Ar α} (h : IsAr cells k tA tS w B uv fv fr a) : ∀ b ∈ bsOf B uv fv, b < w.heap.size := by
  intro b hb
  rcases mem_bsOf.1 hb with rfl | hb | hb
  · exact h.wt.blk.lt
  · exact row_block h.row b hb
  · exact row_block h.wt.row b hb

theorem Arn.lt {w : World} {B : Nat} {bs : List Nat} {a : Ar α} (h : Arn cells k tA tS w B bs a) : ∀ b ∈ bs, b < w.heap.size := by
  obtain ⟨uv, fv, fr, rfl, h⟩ := h
  exact h.lt

theorem Arn.hB {w : World} {B : Nat} {bs : List Nat} {a : Ar α} (h : Arn cells k tA tS w B bs a) : B ∈ bs := by
  obtain ⟨uv, fv, fr, rfl, h⟩ := h
  exact mem_bsOf.2 (.inl rfl)

theorem Arn.below {w w' : World} {B : Nat} {bs : List Nat} {a : Ar α} (h : Arn cells k tA tS w B bs a) (hb : Below w.heap.size w w') : Arn cells k tA tS w' B bs a := h.tn (Tn.of_below hb []) (by simp)

theorem ArT.refl {w : World} {B : Nat} {bs : List Nat} {a : Ar α} (h : Arn cells k tA tS w B bs a) : ArT cells k tA tS w w B bs a := ⟨bs, h, Tn.refl _ _, fun b hb => .inl hb⟩

theorem ArT.same {w w' : World} {B : Nat} {bs : List Nat} {a : Ar α} (h : Arn cells k tA tS w B bs a) (ht : Tn [] w w') : ArT cells k tA tS w w' B bs a := ⟨bs, h.tn ht (by simp), ht.mono (by simp), fun b hb => .inl hb⟩

theorem ArT.trans {w w1 w2 : World} {B : Nat} {bs bs1 : List Nat} {a : Ar α} (h1 : Tn bs w w1) (hn : ∀ b ∈ bs1, b ∈ bs ∨ w.heap.size ≤ b) (h2 : ArT cells k tA tS w1 w2 B bs1 a) : ArT cells k tA tS w w2 B bs a := by
  obtain ⟨bs2, ha, ht, hm⟩ := h2
  refine ⟨bs2, ha, h1.trans ht hn, fun b hb => ?_⟩
  rcases hm b hb with h | h
  · exact hn b h
  · exact .inr (Nat.le_trans h1.size h)

/-- A step that changes no old block, and then one on the arena. -/
theorem ArT.pre {w w1 w2 : World} {B : Nat} {bs : List Nat} {a : Ar α} (h1 : Tn [] w w1) (h2 : ArT cells k tA tS w1 w2 B bs a) : ArT cells k tA tS w w2 B bs a :=
  ArT.trans (h1.mono (by simp)) (fun b hb => .inl hb) h2

/-- .. and one behind it, at new blocks alone. -/
theorem ArT.post {w w1 w2 : World} {B : Nat} {bs S : List Nat} {a : Ar α} (h1 : ArT cells k tA tS w w1 B bs a) (ht : Tn S w1 w2) (hS : ∀ x ∈ S, w.heap.size ≤ x ∧ x ∉ bs) (hnew : ∀ bs', Arn cells k tA tS w1 B bs' a → ∀ b ∈ bs', b ∉ S) : ArT cells k tA tS w w2 B bs a := by
  obtain ⟨bs1, ha, ht1, hm⟩ := h1
  exact ⟨bs1, ha.tn ht (hnew bs1 ha), ht1.trans ht (fun x hx => .inr (hS x hx).1), hm⟩

theorem ArT.drew {w w1 : World} {B : Nat} {bs : List Nat} {a : Ar α} (h : ArT cells k tA tS w w1 B bs a) : ArT cells k tA tS w w1.drew B bs a :=
  h.post (S := []) (Tn.refl [] w1).drew (by simp) (by simp)

theorem ArT.drewN {w w1 : World} {B : Nat} {bs : List Nat} {a : Ar α} (h : ArT cells k tA tS w w1 B bs a) (n : Nat) : ArT cells k tA tS w (w1.drewN n) B bs a :=
  h.post (S := []) (Tn.of_below (below_drewN (Below.refl _ _) _) _) (by simp) (by simp)

/-- The cells of an arena's block. -/
theorem IsAr.four {w : World} {B : Nat} {uv fv : Value} {fr : List Nat} {a : Ar α} (h : IsAr cells k tA tS w B uv fv fr a) :
    w.cell? ⟨B, 0, none⟩ = some (.int .i64 a.size) ∧ w.cell? ⟨B, 1, none⟩ = some uv ∧ w.cell? ⟨B, 2, none⟩ = some fv ∧ w.cell? ⟨B, 3, none⟩ = some (.int .i64 a.stale) :=
  ⟨h.wt.blk.cell 0, h.wt.blk.cell 1, h.wt.blk.cell 2, h.wt.blk.cell 3⟩

theorem IsAr.uform {w : World} {B : Nat} {uv fv : Value} {fr : List Nat} {a : Ar α} (h : IsAr cells k tA tS w B uv fv fr a) : ∃ p c, uv = .slice p a.us.length c := by
  rcases h.row.2 with ⟨hv, hn⟩ | ⟨g, cap, cur, hv, _⟩
  · exact ⟨none, 0, by rw [hv, hn]⟩
  · exact ⟨_, cap, hv⟩

theorem IsAr.fform {w : World} {B : Nat} {uv fv : Value} {fr : List Nat} {a : Ar α} (h : IsAr cells k tA tS w B uv fv fr a) : ∃ p c, fv = .slice p fr.length c := by
  obtain ⟨p, c, hv, _⟩ := h.wt.row.form
  exact ⟨p, c, hv⟩

theorem IsAr.frlen {w : World} {B : Nat} {uv fv : Value} {fr : List Nat} {a : Ar α} (h : IsAr cells k tA tS w B uv fv fr a) : live a.us + fr.length = a.us.length := by
  rw [h.perm.length_eq]
  exact live_free _

/-- Some cells are written, one behind the other. -/
def setCells (w : World) (b : Nat) : Nat → List Value → World
  | _, [] => w
  | o, v :: r => setCells (w.setCell ⟨b, o, none⟩ v) b (o + 1) r

/-- .. as a list. -/
def sets {β : Type} (xs : List β) : Nat → List β → List β
  | _, [] => xs
  | o, v :: r => sets (xs.set o v) (o + 1) r

theorem sets_eq {β : Type} (l : List β) : ∀ (xs : List β) (o : Nat), o + l.length ≤ xs.length → sets xs o l = xs.take o ++ l ++ xs.drop (o + l.length) := by
  induction l with
  | nil => intro xs o h; simp [sets]
  | cons v r ih =>
    intro xs o h
    simp only [List.length_cons] at h ⊢
    show sets (xs.set o v) (o + 1) r = _
    rw [ih _ _ (by rw [List.length_set]; omega), List.drop_set_of_lt (by omega), List.take_add_one, List.take_set_of_le (Nat.le_refl _), List.getElem?_set_self (by omega), show o + 1 + r.length = o + (r.length + 1) by omega]
    simp

theorem setCells_tn {w : World} {b : Nat} : ∀ (l : List Value) (o : Nat), Tn [b] w (setCells w b o l) := by
  suffices H : ∀ (l : List Value) (w' : World) (o : Nat), Tn [b] w w' → Tn [b] w (setCells w' b o l) from fun l o => H l w o (Tn.refl _ _)
  intro l
  induction l with
  | nil => intro w' o h; exact h
  | cons v r ih => intro w' o h; exact ih _ _ (h.setCell (.inl (by simp)) _)

theorem setCells_row {base size n c g : Nat} {e : TypeId} : ∀ (l : List Value) (w : World) (xs : List Value) (o : Nat), w.ownsRow base e size (.slice (some ⟨g, 0, none⟩) n c) n xs → (setCells w g o l).ownsRow base e size (.slice (some ⟨g, 0, none⟩) n c) n (sets xs o l) := by
  intro l
  induction l with
  | nil => intro w xs o h; exact h
  | cons v r ih => intro w xs o h; exact ih _ _ _ (World.ownsRow.stored h o v).1

/-- The cells of a row of slots. -/
theorem row_cells (K : Knd cells k) {w : World} {us : List (Sl α)} {g n c : Nat} (hn : us.length = n) (h : w.ownsRow 0 tS (k + 2) (.slice (some ⟨g, 0, none⟩) n c) us.length (flat (slc cells) us)) (i : Nat) (hi : i < n) (j : Nat) (v : Value) (hv : (slc cells (slAt us i))[j]? = some v) : w.cell? ⟨g, i * (k + 2) + j, none⟩ = some v := by
  subst hn
  have hf := flat_at (slK K) us i _ (slAt_get hi) j v hv
  have hl := (List.getElem?_eq_some_iff.1 hf).1
  rw [flat_len (slK K)] at hl
  rw [World.ownsRow.cellAt h _ hl]
  exact hf

theorem row_frozen {w : World} {us : List (Sl α)} {g n c : Nat} (hn : us.length = n) (h : w.ownsRow 0 tS (k + 2) (.slice (some ⟨g, 0, none⟩) n c) us.length (flat (slc cells) us)) (j : Nat) : w.frozen? ⟨g, j, none⟩ = false := by
  subst hn
  exact World.ownsRow.frozenAt h j

theorem flat_room (K : Knd cells k) {us : List (Sl α)} {i : Nat} (hi : i < us.length) : i * (k + 2) + (k + 2) ≤ (flat (slc cells) us).length := by
  rw [flat_len (slK K)]
  have : (i + 1) * (k + 2) ≤ us.length * (k + 2) := Nat.mul_le_mul_right _ hi
  rw [Nat.add_mul, Nat.one_mul] at this
  exact this

/-- A slot is written. -/
theorem row_write (K : Knd cells k) {w : World} {us : List (Sl α)} {g n c : Nat} (hn : us.length = n) (h : w.ownsRow 0 tS (k + 2) (.slice (some ⟨g, 0, none⟩) n c) us.length (flat (slc cells) us)) (i : Nat) (hi : i < n) (s : Sl α) :
    (setCells w g (i * (k + 2)) (slc cells s)).ownsRow 0 tS (k + 2) (.slice (some ⟨g, 0, none⟩) n c) (us.set i s).length (flat (slc cells) (us.set i s)) := by
  subst hn
  have h1 := setCells_row (slc cells s) _ _ (i * (k + 2)) h
  have hr := flat_room K hi
  rw [sets_eq _ _ _ (by rw [(slK K).len]; exact hr), (slK K).len] at h1
  rw [List.length_set, flat_set (slK K) _ _ _ hi]
  exact h1

/-- Its value alone. -/
theorem row_value (K : Knd cells k) {w : World} {us : List (Sl α)} {g n c : Nat} (hn : us.length = n) (h : w.ownsRow 0 tS (k + 2) (.slice (some ⟨g, 0, none⟩) n c) us.length (flat (slc cells) us)) (i : Nat) (hi : i < n) (x : α) :
    (setCells w g (i * (k + 2) + 2) (cells x)).ownsRow 0 tS (k + 2) (.slice (some ⟨g, 0, none⟩) n c) (us.set i { slAt us i with val := x }).length (flat (slc cells) (us.set i { slAt us i with val := x })) := by
  subst hn
  have h1 := setCells_row (cells x) _ _ (i * (k + 2) + 2) h
  have hr := flat_room K hi
  rw [sets_eq _ _ _ (by rw [K.len]; omega), K.len] at h1
  rw [List.length_set, flat_set (slK K) _ _ _ hi]
  have hs : us.set i (slAt us i) = us := by
    have e0 := slAt_get hi
    obtain ⟨hl, e0⟩ := List.getElem?_eq_some_iff.1 e0
    rw [← e0]
    exact List.set_getElem_self hl
  have hf := flat_set (slK K) us i (slAt us i) hi
  rw [hs] at hf
  have h2 : (flat (slc cells) us).take (i * (k + 2) + 2) = (flat (slc cells) us).take (i * (k + 2)) ++ [.int .i64 (slAt us i).gen, .bool (slAt us i).given] := by
    have hA : ((flat (slc cells) us).take (i * (k + 2))).length = i * (k + 2) := by rw [List.length_take]; omega
    generalize (flat (slc cells) us).take (i * (k + 2)) = A at *
    generalize (flat (slc cells) us).drop (i * (k + 2) + (k + 2)) = D at *
    rw [hf, List.append_assoc, ← hA, List.take_length_add_append]
    simp [slc]
  rw [h2, show i * (k + 2) + 2 + k = i * (k + 2) + (k + 2) by omega] at h1
  simpa [slc] using h1

/-- Between the choice of a slot and its being given. -/
structure Mid (cells : α → List Value) (k : Nat) (tA tS : TypeId) (w : World) (B : Nat) (uv fv : Value) (fr : List Nat) (size : Nat) (stale : Int) (us : List (Sl α)) (i : Nat) : Prop where
  wt : Wt w B tA (.int .i64 size) uv (.int .i64 stale) fv fr
  row : w.ownsRow 0 tS (k + 2) uv us.length (flat (slc cells) us)
  ne1 : ∀ k, uv.ownBlock = some k → k ≠ B
  ne2 : ∀ k, uv.ownBlock = some k → fv.ownBlock ≠ some k
  hp : Hq.Is fr
  perm : ∀ s : Sl α, s.given = true → fr.Perm (freeOf (us.set i s))
  hi : i < us.length

/-- The slots, with a place for the next one. -/
def opened (us : List (Sl α)) (z : α) : List (Sl α) := if low us < us.length then us else us ++ [⟨0, false, z⟩]

theorem opened_set (a : Ar α) (z x : α) : (opened a.us z).set (low a.us) ⟨a.gen, true, x⟩ = (a.put x).us := by
  unfold opened Ar.put Ar.gen
  by_cases h : low a.us < a.us.length
  · simp only [if_pos h]
  · simp only [if_neg h]
    have : low a.us = a.us.length := by have := low_le a.us; omega
    rw [this]
    simp

theorem opened_gen (a : Ar α) (z : α) : (slAt (opened a.us z) (low a.us)).gen + 1 = a.gen := by
  unfold opened Ar.gen
  by_cases h : low a.us < a.us.length
  · simp only [if_pos h]
  · simp only [if_neg h]
    have : low a.us = a.us.length := by have := low_le a.us; omega
    rw [this, slAt_last]
    rfl

/-- A slot is given. -/
theorem Mid.give {w w' : World} {B : Nat} {g n c : Nat} {fv : Value} {fr : List Nat} {size : Nat} {stale : Int} {us : List (Sl α)} {i : Nat} (hn : us.length = n) (h : Mid cells k tA tS w B (.slice (some ⟨g, 0, none⟩) n c) fv fr size stale us i) (K : Knd cells k) (s : Sl α) (hs : s.given = true) (h1 : 1 ≤ size) (h2 : size ≤ 65536) (hl : n ≤ size)
    (hw' : w' = setCells w g (i * (k + 2)) (slc cells s)) :
    IsAr cells k tA tS w' B (.slice (some ⟨g, 0, none⟩) n c) fv fr ⟨size, us.set i s, stale⟩ ∧ Tn [g] w w' := by
  have ht : Tn [g] w w' := by
    rw [hw']
    exact setCells_tn _ _
  have hgB : g ≠ B := h.ne1 g rfl
  refine ⟨?_, ht⟩
  exact {
    wt := ⟨h.wt.blk.tn ht (by simp; omega), h.wt.row.tn ht (fun k hk hm => by simp at hm; subst hm; exact h.ne2 k rfl hk), h.wt.ne, h.wt.len⟩
    row := by rw [hw']; exact row_write K hn h.row i (by have := h.hi; omega) s
    ne1 := h.ne1
    ne2 := h.ne2
    hp := h.hp
    perm := h.perm s hs
    le := by simp [hn]; exact hl
    s1 := h1
    s2 := h2 }

end Go.Proofs.YtoehlgigidgfpaaGreat
