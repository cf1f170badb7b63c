/- Tables: their state as plain data, and how it lies in memory. -/
import Derived.Test.YtnjafmjkaajbkaaDoorCeH
import Derived.Test.YtnjafmjkaajbkaaDoorApA
namespace Go.Proofs.YtnjafmjkaajbkaaDoor
open Go.RowKit
set_option linter.unusedVariables false
set_option maxRecDepth 100000

/-- A page that was ever given: free again, gone, or live: its cell, its head, how often that was changed. -/
structure Pa where
  o : Option (Option (Nat × (Int × Int) × Int))

namespace Pa
abbrev free : Pa := ⟨none⟩
abbrev gone : Pa := ⟨some none⟩
abbrev live (c : Nat) (h : Int × Int) (n : Int) : Pa := ⟨some (some (c, h, n))⟩
def st (p : Pa) : Int := match p.o with
  | none => 0
  | some none => 2
  | some (some _) => 1
def ptr (p : Pa) : Option Addr := match p.o with
  | some (some (c, _, _)) => some ⟨c, 0, none⟩
  | _ => none
def isFree (p : Pa) : Bool := match p.o with
  | none => true
  | _ => false
def isGone (p : Pa) : Bool := match p.o with
  | some none => true
  | _ => false
def hd (p : Pa) : Option (Int × Int) := match p.o with
  | some (some (_, h, _)) => some h
  | _ => none
def cells (p : Pa) : List Value := [.int .i64 p.st, .pointer p.ptr]
theorem live_inj {c c' : Nat} {h h' : Int × Int} {n n' : Int} (e : live c h n = live c' h' n') : c = c' ∧ h = h' ∧ n = n' := by
  cases e
  exact ⟨rfl, rfl, rfl⟩
theorem isFree_iff {p : Pa} : p.isFree = true ↔ p = .free := by rcases p with ⟨_ | _ | ⟨c, h, n⟩⟩ <;> simp [isFree]
theorem isGone_iff {p : Pa} : p.isGone = true ↔ p = .gone := by rcases p with ⟨_ | _ | ⟨c, h, n⟩⟩ <;> simp [isGone]
theorem st0 {p : Pa} : p.st = 0 ↔ p = .free := by rcases p with ⟨_ | _ | ⟨c, h, n⟩⟩ <;> simp [st]
theorem st2 {p : Pa} : p.st = 2 ↔ p = .gone := by rcases p with ⟨_ | _ | ⟨c, h, n⟩⟩ <;> simp [st]
theorem st1 {p : Pa} : p.st = 1 ↔ ∃ c h n, p = .live c h n := by rcases p with ⟨_ | _ | ⟨c, h, n⟩⟩ <;> simp [st]
end Pa

def paCells (us : List Pa) : List Value := (us.map Pa.cells).flatten
theorem paCells_cons (s : Pa) (us : List Pa) : paCells (s :: us) = s.cells ++ paCells us := rfl
theorem paCells_append (us vs : List Pa) : paCells (us ++ vs) = paCells us ++ paCells vs := by simp [paCells]
theorem paCells_length (us : List Pa) : (paCells us).length = us.length * 2 := by
  induction us with
  | nil => rfl
  | cons s us ih =>
    rw [paCells_cons, List.length_append, ih]
    simp [Pa.cells]
    omega
theorem paCells_at (us : List Pa) (i j : Nat) {p : Pa} (hp : us[i]? = some p) (hj : j < 2) : (paCells us)[i * 2 + j]? = p.cells[j]? := by
  induction us generalizing i with
  | nil => simp at hp
  | cons s us ih =>
    rw [paCells_cons]
    cases i with
    | zero =>
      obtain rfl : s = p := by simpa using hp
      rw [List.getElem?_append_left (by simp [Pa.cells]; omega)]
      simp
    | succ i =>
      rw [List.getElem?_append_right (by simp [Pa.cells]; omega)]
      have : (i + 1) * 2 + j - s.cells.length = i * 2 + j := by simp [Pa.cells]; omega
      rw [this, ih i (by simpa using hp)]
theorem paCells_set (us : List Pa) (i : Nat) (s : Pa) (hi : i < us.length) : paCells (us.set i s) = ((paCells us).set (i * 2) (.int .i64 s.st)).set (i * 2 + 1) (.pointer s.ptr) := by
  induction us generalizing i with
  | nil => simp at hi
  | cons r us ih =>
    cases i with
    | zero => simp [paCells_cons, Pa.cells]
    | succ i =>
      have e0 : (i + 1) * 2 = i * 2 + 1 + 1 := by omega
      rw [List.set_cons_succ, paCells_cons, ih i (by simpa using hi), paCells_cons, e0]
      simp [Pa.cells]

/-- What lies in a block of one type is no block of another. -/
theorem ne_type {w : World} {a b : Nat} {cs ds : Array Value} {t u : TypeId} {f g : Nat × Nat} (h : w.heap[a]? = some (.cells cs t f)) (k : w.heap[b]? = some (.cells ds u g)) (hn : t ≠ u) : a ≠ b := by
  intro e
  subst e
  rw [h] at k
  injection k with k
  injection k with _ k _
  exact hn k

theorem row_type {w : World} {base size n : Nat} {e : TypeId} {v : Value} {xs : List Value} (h : w.ownsRow base e size v n xs) : ∀ k, v.ownBlock = some k → ∃ cs, w.heap[k]? = some (.cells cs e (0, 0)) := by
  intro k hk
  rcases h.2 with ⟨rfl, _⟩ | ⟨g, cap, cur, rfl, hb, hgg, _⟩
  · cases hk
  · cases hk
    exact ⟨cur, hgg⟩

def wsCells (ws : List Nat) : List Value := ws.map fun (x : Nat) => Value.int .u64 (x : Int)

/-- A table as it lies in memory. -/
structure Rw (w : World) (B : Nat) (uv wv : Value) (size : Int) (us : List Pa) (ws : List Nat) (many gone missed : Int) : Prop where
  blk : Bk w B 64 #[.int .i64 size, uv, wv, .int .i64 many, .int .i64 gone, .int .i64 missed]
  row : w.ownsRow 0 80 2 uv us.length (paCells us)
  wrd : w.ownsRow 0 100 1 wv ws.length (wsCells ws)
  cel : ∀ (i c : Nat) (h : Int × Int) (n : Int), us[i]? = some (Pa.live c h n) → Ce w c h n
  dis : ∀ (i j c : Nat) (h : Int × Int) (n : Int) (h' : Int × Int) (n' : Int), us[i]? = some (Pa.live c h n) → us[j]? = some (Pa.live c h' n') → i = j

/-- The blocks that are its. -/
def bsT (B : Nat) (uv wv : Value) (us : List Pa) : List Nat := B :: (uv.ownBlock.toList ++ wv.ownBlock.toList ++ us.filterMap fun p => p.ptr.map (·.block))

theorem mem_bsT {B : Nat} {uv wv : Value} {us : List Pa} {k : Nat} : k ∈ bsT B uv wv us ↔ k = B ∨ uv.ownBlock = some k ∨ wv.ownBlock = some k ∨ ∃ (i : Nat) (h : Int × Int) (n : Int), us[i]? = some (Pa.live k h n) := by
  simp only [bsT, List.mem_cons, List.mem_append, opt_toList, List.mem_filterMap, or_assoc]
  refine or_congr Iff.rfl (or_congr Iff.rfl (or_congr Iff.rfl ⟨?_, ?_⟩))
  · rintro ⟨p, hp, hk⟩
    obtain ⟨i, hi, rfl⟩ := List.mem_iff_getElem.1 hp
    rcases hq : us[i] with ⟨_ | _ | ⟨c, h, n⟩⟩
    · rw [hq] at hk; simp [Pa.ptr] at hk
    · rw [hq] at hk; simp [Pa.ptr] at hk
    · rw [hq] at hk
      obtain rfl : c = k := by simpa [Pa.ptr] using hk
      exact ⟨i, h, n, by rw [List.getElem?_eq_getElem hi, hq]⟩
  · rintro ⟨i, h, n, hi⟩
    exact ⟨_, List.mem_of_getElem? hi, rfl⟩

section
variable {w w' : World} {B : Nat} {uv wv : Value} {size : Int} {us : List Pa} {ws : List Nat} {many gone missed : Int}

theorem Rw.tn {S : List Nat} (h : Rw w B uv wv size us ws many gone missed) (ht : Tn S w w') (hS : ∀ b ∈ bsT B uv wv us, b ∉ S) : Rw w' B uv wv size us ws many gone missed :=
  { blk := h.blk.tn ht (hS B (mem_bsT.2 (.inl rfl)))
    row := owns_tn h.row ht (fun k hk => hS k (mem_bsT.2 (.inr (.inl hk))))
    wrd := owns_tn h.wrd ht (fun k hk => hS k (mem_bsT.2 (.inr (.inr (.inl hk)))))
    cel := fun i c x n hi => (h.cel i c x n hi).tn ht (hS c (mem_bsT.2 (.inr (.inr (.inr ⟨i, x, n, hi⟩)))))
    dis := h.dis }

theorem Rw.lt (h : Rw w B uv wv size us ws many gone missed) : ∀ b ∈ bsT B uv wv us, b < w.heap.size := by
  intro b hb
  rcases mem_bsT.1 hb with rfl | hb | hb | ⟨i, x, n, hi⟩
  · exact h.blk.lt
  · exact row_block h.row b hb
  · exact row_block h.wrd b hb
  · exact (h.cel _ _ _ _ hi).lt

theorem Rw.below (h : Rw w B uv wv size us ws many gone missed) (hb : Below w.heap.size w w') : Rw w' B uv wv size us ws many gone missed := h.tn (Tn.of_below hb []) (by simp)

/-- The cells of its block. -/
theorem Rw.cells (h : Rw w B uv wv size us ws many gone missed) :
    w.cell? ⟨B, 0, none⟩ = some (.int .i64 size) ∧ w.cell? ⟨B, 1, none⟩ = some uv ∧ w.cell? ⟨B, 2, none⟩ = some wv ∧ w.cell? ⟨B, 3, none⟩ = some (.int .i64 many) ∧ w.cell? ⟨B, 4, none⟩ = some (.int .i64 gone) ∧ w.cell? ⟨B, 5, none⟩ = some (.int .i64 missed) :=
  ⟨h.blk.cell 0, h.blk.cell 1, h.blk.cell 2, h.blk.cell 3, h.blk.cell 4, h.blk.cell 5⟩

/-- Blocks of its that are apart. -/
theorem Rw.neU (h : Rw w B uv wv size us ws many gone missed) : ∀ k, uv.ownBlock = some k → k ≠ B ∧ wv.ownBlock ≠ some k ∧ ∀ (i c : Nat) (x : Int × Int) (n : Int), us[i]? = some (Pa.live c x n) → c ≠ k := by
  intro k hk
  obtain ⟨cs, hc⟩ := row_type h.row k hk
  refine ⟨ne_type hc h.blk (by decide), fun hw => ?_, fun i c x n hi => (ne_type hc (h.cel i c x n hi) (by decide)).symm⟩
  obtain ⟨ds, hd⟩ := row_type h.wrd k hw
  exact ne_type hc hd (by decide) rfl
theorem Rw.neW (h : Rw w B uv wv size us ws many gone missed) : ∀ k, wv.ownBlock = some k → k ≠ B ∧ uv.ownBlock ≠ some k ∧ ∀ (i c : Nat) (x : Int × Int) (n : Int), us[i]? = some (Pa.live c x n) → c ≠ k := by
  intro k hk
  obtain ⟨cs, hc⟩ := row_type h.wrd k hk
  refine ⟨ne_type hc h.blk (by decide), fun hw => ?_, fun i c x n hi => (ne_type hc (h.cel i c x n hi) (by decide)).symm⟩
  obtain ⟨ds, hd⟩ := row_type h.row k hw
  exact ne_type hc hd (by decide) rfl
theorem Rw.neC (h : Rw w B uv wv size us ws many gone missed) {i c : Nat} {x : Int × Int} {n : Int} (hi : us[i]? = some (Pa.live c x n)) : c ≠ B ∧ uv.ownBlock ≠ some c ∧ wv.ownBlock ≠ some c :=
  ⟨ne_type (h.cel i c x n hi) h.blk (by decide), fun hk => (h.neU c hk).2.2 i c x n hi rfl, fun hk => (h.neW c hk).2.2 i c x n hi rfl⟩

/-- The cells of an entry. -/
theorem Rw.entry (h : Rw w B uv wv size us ws many gone missed) {i : Nat} {p : Pa} (hi : us[i]? = some p) : ∃ g c, uv = .slice (some ⟨g, 0, none⟩) us.length c ∧ us.length ≤ c ∧ w.cell? ⟨g, i * 2, none⟩ = some (.int .i64 p.st) ∧ w.cell? ⟨g, i * 2 + 1, none⟩ = some (.pointer p.ptr) ∧ ∀ j, w.frozen? ⟨g, j, none⟩ = false := by
  have hl : i < us.length := (List.getElem?_eq_some_iff.1 hi).1
  obtain ⟨g, c, rfl⟩ := row_some h.row (by omega)
  obtain ⟨p', c', he, hcap⟩ := row_form h.row
  cases he
  refine ⟨g, c, rfl, hcap, ?_, ?_, fun j => World.ownsRow.frozenAt h.row j⟩
  · rw [World.ownsRow.cellAt h.row (i * 2) (by omega)]
    exact paCells_at us i 0 hi (by omega)
  · rw [World.ownsRow.cellAt h.row (i * 2 + 1) (by omega)]
    exact paCells_at us i 1 hi (by omega)

/-- An entry is written. -/
theorem Rw.setEntry {g c n : Nat} (hn : us.length = n) (h : Rw w B (.slice (some ⟨g, 0, none⟩) n c) wv size us ws many gone missed) {i : Nat} (hi : i < n) (p : Pa) (hp : ∀ k x m, p = Pa.live k x m → Ce w k x m ∧ ∀ (j : Nat) (x' : Int × Int) (m' : Int), us[j]? = some (Pa.live k x' m') → j = i) :
    Rw ((w.setCell ⟨g, i * 2, none⟩ (.int .i64 p.st)).setCell ⟨g, i * 2 + 1, none⟩ (.pointer p.ptr)) B (.slice (some ⟨g, 0, none⟩) n c) wv size (us.set i p) ws many gone missed ∧ Tn [g] w ((w.setCell ⟨g, i * 2, none⟩ (.int .i64 p.st)).setCell ⟨g, i * 2 + 1, none⟩ (.pointer p.ptr)) := by
  subst hn
  have ht : Tn [g] w ((w.setCell ⟨g, i * 2, none⟩ (.int .i64 p.st)).setCell ⟨g, i * 2 + 1, none⟩ (.pointer p.ptr)) := ((Tn.refl [g] w).setCell (.inl (by simp)) _).setCell (.inl (by simp)) _
  have hg := h.neU g rfl
  refine ⟨⟨h.blk.tn ht (by simpa using hg.1.symm), ?_, owns_tn h.wrd ht (fun k hk hm => by simp at hm; subst hm; exact hg.2.1 hk), ?_, ?_⟩, ht⟩
  · have h1 := World.ownsRow.stored h.row (i * 2) (.int .i64 p.st)
    have h2 := World.ownsRow.stored h1.1 (i * 2 + 1) (.pointer p.ptr)
    rw [List.length_set, paCells_set _ _ _ hi]
    exact h2.1
  · intro j k x m hj
    rw [List.getElem?_set] at hj
    split at hj
    · skip
      injection hj with hj
      have hc := (hp k x m hj).1
      refine hc.tn ht ?_
      obtain ⟨cs, hcs⟩ := row_type h.row g rfl
      simpa using (ne_type hcs hc (by decide)).symm
    · exact (h.cel j k x m hj).tn ht (by simpa using hg.2.2 j k x m hj)
  · intro j j' k x m x' m' hj hj'
    rw [List.getElem?_set] at hj hj'
    split at hj <;> split at hj'
    · omega
    · skip
      injection hj with hj
      have := (hp k x m hj).2 j' x' m' hj'
      omega
    · skip
      injection hj' with hj'
      have := (hp k x' m' hj').2 j x m hj
      omega
    · exact h.dis j j' k x m x' m' hj hj'

/-- A live page's cell is turned. -/
theorem Rw.setCell {i c : Nat} {x y : Int × Int} {n m : Int} (h : Rw w B uv wv size us ws many gone missed) (hi : us[i]? = some (Pa.live c x n)) (hc : Ce w' c y m) (ht : Tn [c] w w') : Rw w' B uv wv size (us.set i (Pa.live c y m)) ws many gone missed := by
  have hne := h.neC hi
  have hl : i < us.length := (List.getElem?_eq_some_iff.1 hi).1
  have e : paCells (us.set i (Pa.live c y m)) = paCells us := by
    rw [paCells_set _ _ _ hl]
    have e1 := paCells_at us i 0 hi (by omega)
    have e2 := paCells_at us i 1 hi (by omega)
    obtain ⟨l1, e1⟩ := List.getElem?_eq_some_iff.1 (show (paCells us)[i * 2]? = some (.int .i64 (Pa.live c y m).st) from e1)
    obtain ⟨l2, e2⟩ := List.getElem?_eq_some_iff.1 (show (paCells us)[i * 2 + 1]? = some (.pointer (Pa.live c y m).ptr) from e2)
    rw [← e1, List.set_getElem_self l1, ← e2, List.set_getElem_self l2]
  refine ⟨h.blk.tn ht (by simpa using hne.1.symm), ?_, owns_tn h.wrd ht (fun k hk hm => by simp at hm; subst hm; exact hne.2.2 hk), ?_, ?_⟩
  · rw [e, List.length_set]
    exact owns_tn h.row ht (fun k hk hm => by simp at hm; subst hm; exact hne.2.1 hk)
  · intro j k x' m' hj
    rw [List.getElem?_set] at hj
    split at hj
    · skip
      injection hj with hj
      obtain ⟨e1, e2, e3⟩ := Pa.live_inj hj
      subst e1; subst e2; subst e3
      exact hc
    · rename_i hne'
      refine (h.cel j k x' m' hj).tn ht ?_
      simp
      intro e'
      subst e'
      exact hne' (h.dis _ _ _ _ _ _ _ hi hj)
  · intro j j' k x' m' x'' m'' hj hj'
    have key : ∀ (j : Nat) (z : Int × Int) (q : Int), (us.set i (Pa.live c y m))[j]? = some (Pa.live k z q) → ∃ z' q', us[j]? = some (Pa.live k z' q') := by
      intro j z q hj
      rw [List.getElem?_set] at hj
      split at hj
      · rename_i e'
        subst e'
        injection hj with hj
        obtain ⟨e1, -, -⟩ := Pa.live_inj hj
        exact ⟨x, n, by rw [hi, e1]⟩
      · exact ⟨z, q, hj⟩
    obtain ⟨_, _, a1⟩ := key j _ _ hj
    obtain ⟨_, _, a2⟩ := key j' _ _ hj'
    exact h.dis _ _ _ _ _ _ _ a1 a2
end
end Go.Proofs.YtnjafmjkaajbkaaDoor
