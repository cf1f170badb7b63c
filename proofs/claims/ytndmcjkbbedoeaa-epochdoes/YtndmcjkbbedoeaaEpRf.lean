/- The document's epoch in memory. -/
import Derived.Test.YtndmcjkbbedoeaaEpSf
namespace Go.Proofs.Ytndmcjkbbedoeaa
open Go.RowKit
set_option linter.unusedVariables false
set_option maxRecDepth 100000

def wt (x : Nat × Rt) : List Value := [.int .i64 (x.1 : Int), .int .i64 x.2.k, .int .i64 x.2.s, .int .i64 x.2.g]
def wts (l : List (Nat × Rt)) : List Value := (l.map wt).flatten
def wAt (l : List (Nat × Rt)) (i : Nat) : Nat × Rt := l.getD i (0, ⟨0, 0, 0⟩)

theorem wts_append (l m : List (Nat × Rt)) : wts (l ++ m) = wts l ++ wts m := by simp [wts]
theorem wts_length (l : List (Nat × Rt)) : (wts l).length = l.length * 4 := by
  induction l with
  | nil => rfl
  | cons s us ih =>
    simp only [wts, List.map_cons, List.flatten_cons, List.length_append] at ih ⊢
    rw [ih]
    simp [wt]
    omega
theorem wts_at (l : List (Nat × Rt)) (i j : Nat) (hi : i < l.length) (hj : j < 4) : (wts l)[i * 4 + j]? = (wt (wAt l i))[j]? := by
  induction l generalizing i with
  | nil => simp at hi
  | cons s us ih =>
    have e : wts (s :: us) = wt s ++ wts us := rfl
    rw [e]
    cases i with
    | zero =>
      rw [List.getElem?_append_left (by simp [wt]; omega)]
      simp [wAt]
    | succ i =>
      rw [List.getElem?_append_right (by simp [wt]; omega)]
      have : (i + 1) * 4 + j - (wt s).length = i * 4 + j := by simp [wt]; omega
      rw [this, ih i (by simpa using hi)]
      simp [wAt]
theorem wAt_mem {l : List (Nat × Rt)} {i : Nat} (hi : i < l.length) : l[i]? = some (wAt l i) := by
  simp [wAt, List.getD, hi]
theorem wtone (x : Nat × Rt) : ∀ u ∈ wt x, u.oneCell' = true := by
  intro u hu
  simp only [wt, List.mem_cons, List.not_mem_nil, or_false] at hu
  rcases hu with rfl | rfl | rfl | rfl <;> rfl
theorem wtinfo : (Try.prog.info? 85).map (fun i => (i.zero, i.size, i.bytes)) = some (some (.agg #[.int .i64 0, .int .i64 0, .int .i64 0, .int .i64 0]), 4, 32) := by kernel_rfl

/-- A row of what waits. -/
def Wr (w : World) (v : Value) (l : List (Nat × Rt)) : Prop := w.ownsRow 0 85 4 v l.length (wts l)

theorem Wr.nil (w : World) : Wr w (.slice none 0 0) [] := World.ownsRow_nil _ _ _ _
theorem Wr.tn {S : List Nat} {w w' : World} {v : Value} {l : List (Nat × Rt)} (h : Wr w v l) (ht : Tn S w w') (hn : ∀ k, v.ownBlock = some k → k ∉ S) : Wr w' v l := owns_tn h ht hn
theorem Wr.cell {w : World} {g c n : Nat} {l : List (Nat × Rt)} (hn : l.length = n) (h : Wr w (.slice (some ⟨g, 0, none⟩) n c) l) (i : Nat) (hi : i < n) :
    w.cell? ⟨g, i * 4, none⟩ = some (.int .i64 ((wAt l i).1 : Int)) ∧ w.cell? ⟨g, i * 4 + 1, none⟩ = some (.int .i64 (wAt l i).2.k) ∧ w.cell? ⟨g, i * 4 + 2, none⟩ = some (.int .i64 (wAt l i).2.s) ∧ w.cell? ⟨g, i * 4 + 3, none⟩ = some (.int .i64 (wAt l i).2.g) := by
  subst hn
  refine ⟨?_, ?_, ?_, ?_⟩
  · rw [World.ownsRow.cellAt h (i * 4) (by omega)]
    exact wts_at l i 0 hi (by omega)
  · rw [World.ownsRow.cellAt h (i * 4 + 1) (by omega)]
    exact wts_at l i 1 hi (by omega)
  · rw [World.ownsRow.cellAt h (i * 4 + 2) (by omega)]
    exact wts_at l i 2 hi (by omega)
  · rw [World.ownsRow.cellAt h (i * 4 + 3) (by omega)]
    exact wts_at l i 3 hi (by omega)
theorem Wr.news {w : World} {p : Option Addr} {n c : Nat} {l : List (Nat × Rt)} (h : Wr w (.slice p n c) l) : (∀ ad, p = some ad → ∀ j u, (wts l)[j]? = some u → w.cell? (ad.add j) = some u) ∧ (∀ u ∈ wts l, u.oneCell' = true) ∧ (wts l).length = n * 4 ∧ (p = none → n = 0 ∧ c = 0) := by
  have hl : n = l.length := by
    obtain ⟨q, d, e, -⟩ := row_form h
    cases e
    rfl
  subst hl
  refine ⟨fun ad had j u hu => ?_, fun u hu => ?_, wts_length l, fun hp => ?_⟩
  · subst had
    have hj : j < l.length * 4 := by
      have := (List.getElem?_eq_some_iff.1 hu).1
      rwa [wts_length] at this
    rcases h.2 with ⟨hv, _⟩ | ⟨g, cap, cur, hv, _⟩
    · cases hv
    · cases hv
      rw [show (⟨g, 0, none⟩ : Addr).add j = ⟨g, j, none⟩ by unfold Addr.add; split <;> simp_all]
      rw [World.ownsRow.cellAt h j (by omega)]
      exact hu
  · obtain ⟨x, hx, hu⟩ := List.mem_flatten.1 hu
    obtain ⟨y, _, rfl⟩ := List.mem_map.1 hx
    exact wtone y u hu
  · subst hp
    rcases h.2 with ⟨hv, hn⟩ | ⟨g, cap, cur, hv, _⟩
    · simp only [Value.slice.injEq] at hv
      exact ⟨hn, hv.2.2⟩
    · cases hv

/-- Its cells. -/
def reCells (now : Nat) (isl : List Bool) (atl : List Nat) (v : Value) : Array Value := ((.int .i64 (now : Int)) :: (isl.map Value.bool ++ (atl.map (fun (p : Nat) => Value.int .i64 (p : Int)) ++ [v]))).toArray

theorem re_now (now : Nat) (isl : List Bool) (atl : List Nat) (v : Value) : (reCells now isl atl v)[0]? = some (.int .i64 (now : Int)) := by simp [reCells]
theorem re_is (now : Nat) (isl : List Bool) (atl : List Nat) (v : Value) (s : Nat) (hs : s < isl.length) : (reCells now isl atl v)[1 + s]? = some (.bool (isl.getD s false)) := by
  simp [reCells, Nat.add_comm 1 s, List.getElem?_append_left, hs]
theorem re_at (now : Nat) (isl : List Bool) (atl : List Nat) (v : Value) (h1 : isl.length = 17) (s : Nat) (hs : s < atl.length) : (reCells now isl atl v)[18 + s]? = some (.int .i64 ((atl.getD s 0 : Nat) : Int)) := by
  have e : 18 + s = (17 + s) + 1 := by omega
  simp only [reCells, List.getElem?_toArray, e, List.getElem?_cons_succ]
  rw [List.getElem?_append_right (by simp [h1]), List.getElem?_append_left (by simp [h1]; omega)]
  simp [h1, hs]
theorem re_lim (now : Nat) (isl : List Bool) (atl : List Nat) (v : Value) (h1 : isl.length = 17) (h2 : atl.length = 17) : (reCells now isl atl v)[35]? = some v := by
  simp only [reCells, List.getElem?_toArray, show 35 = 34 + 1 from rfl, List.getElem?_cons_succ]
  rw [List.getElem?_append_right (by simp [h1]), List.getElem?_append_right (by simp [h1, h2])]
  simp [h1, h2]
theorem re_setNow (now x : Nat) (isl : List Bool) (atl : List Nat) (v : Value) : (reCells now isl atl v).setIfInBounds 0 (.int .i64 (x : Int)) = reCells x isl atl v := by simp [reCells]
theorem re_setIs (now : Nat) (b : Bool) (isl : List Bool) (atl : List Nat) (v : Value) (s : Nat) (hs : s < isl.length) : (reCells now isl atl v).setIfInBounds (1 + s) (.bool b) = reCells now (isl.set s b) atl v := by
  unfold reCells
  apply Array.ext'
  simp only [Array.toList_setIfInBounds, Nat.add_comm 1 s, List.set_cons_succ, List.map_set]
  rw [List.set_append_left _ _ (by simpa using hs)]
theorem re_setAt (now x : Nat) (isl : List Bool) (atl : List Nat) (v : Value) (h1 : isl.length = 17) (s : Nat) (hs : s < atl.length) : (reCells now isl atl v).setIfInBounds (18 + s) (.int .i64 (x : Int)) = reCells now isl (atl.set s x) v := by
  have e : 18 + s = (17 + s) + 1 := by omega
  unfold reCells
  apply Array.ext'
  simp only [Array.toList_setIfInBounds, e, List.set_cons_succ, List.map_set]
  rw [List.set_append_right _ _ (by simp [h1]), List.set_append_left _ _ (by simp [h1]; omega)]
  simp [h1]
theorem re_setLim (now : Nat) (isl : List Bool) (atl : List Nat) (v u : Value) (h1 : isl.length = 17) (h2 : atl.length = 17) : (reCells now isl atl v).setIfInBounds 35 u = reCells now isl atl u := by
  unfold reCells
  apply Array.ext'
  simp only [Array.toList_setIfInBounds, show 35 = 34 + 1 from rfl, List.set_cons_succ]
  rw [List.set_append_right _ _ (by simp [h1]), List.set_append_right _ _ (by simp [h1, h2])]
  simp [h1, h2]

/-- The document's epoch says what the plain one says. -/
structure IsRe (w : World) (R : Nat) (v : Value) (atl : List Nat) (e : Ep) : Prop where
  blk : Bk w R 41 (reCells e.now (e.pins.map fun p => decide (p ≠ 0)) atl v)
  p17 : e.pins.length = 17
  a17 : atl.length = 17
  at' : ∀ s, s < 17 → e.pin s ≠ 0 → atl.getD s 0 = e.pin s
  row : Wr w v e.limbo
  ne : ∀ b, v.ownBlock = some b → b ≠ R
  n1 : 1 ≤ e.now

def Ren (w : World) (R : Nat) (rs : List Nat) (e : Ep) : Prop := ∃ v atl, rs = R :: v.ownBlock.toList ∧ IsRe w R v atl e
def ReT (w w' : World) (R : Nat) (rs : List Nat) (e : Ep) : Prop := ∃ rs', Ren w' R rs' e ∧ Tn rs w w' ∧ ∀ b ∈ rs', b ∈ rs ∨ w.heap.size ≤ b

theorem IsRe.tn {S : List Nat} {w w' : World} {R : Nat} {v : Value} {atl : List Nat} {e : Ep} (h : IsRe w R v atl e) (ht : Tn S w w') (hS : ∀ b ∈ R :: v.ownBlock.toList, b ∉ S) : IsRe w' R v atl e :=
  { h with
    blk := h.blk.tn ht (hS R (by simp))
    row := h.row.tn ht (fun b hb => hS b (List.mem_cons_of_mem _ (opt_toList.2 hb))) }
theorem Ren.tn {S : List Nat} {w w' : World} {R : Nat} {rs : List Nat} {e : Ep} (h : Ren w R rs e) (ht : Tn S w w') (hS : ∀ b ∈ rs, b ∉ S) : Ren w' R rs e := by
  obtain ⟨v, atl, rfl, h⟩ := h
  exact ⟨v, atl, rfl, h.tn ht hS⟩
theorem Ren.lt {w : World} {R : Nat} {rs : List Nat} {e : Ep} (h : Ren w R rs e) : ∀ b ∈ rs, b < w.heap.size := by
  obtain ⟨v, atl, rfl, h⟩ := h
  intro b hb
  rcases List.mem_cons.1 hb with rfl | hb
  · exact h.blk.lt
  · exact row_block h.row b (opt_toList.1 hb)
theorem Ren.hR {w : World} {R : Nat} {rs : List Nat} {e : Ep} (h : Ren w R rs e) : R ∈ rs := by
  obtain ⟨v, atl, rfl, h⟩ := h
  simp
theorem ReT.refl {w : World} {R : Nat} {rs : List Nat} {e : Ep} (h : Ren w R rs e) : ReT w w R rs e := ⟨rs, h, Tn.refl _ _, fun b hb => .inl hb⟩
theorem ReT.then {w w1 w2 : World} {R : Nat} {rs : List Nat} {e : Ep} (h1 : ReT w w1 R rs e) (ht : Tn [] w1 w2) : ReT w w2 R rs e := by
  obtain ⟨rs1, ha, ht1, hm⟩ := h1
  exact ⟨rs1, ha.tn ht (by simp), ht1.trans ht (by simp), hm⟩
theorem IsRe.cNow {w : World} {R : Nat} {v : Value} {atl : List Nat} {e : Ep} (h : IsRe w R v atl e) : w.cell? ⟨R, 0, none⟩ = some (.int .i64 (e.now : Int)) := (h.blk.cell 0).trans (re_now _ _ _ _)
theorem IsRe.cIs {w : World} {R : Nat} {v : Value} {atl : List Nat} {e : Ep} (h : IsRe w R v atl e) (s : Nat) (hs : s < 17) : w.cell? ⟨R, 1 + s, none⟩ = some (.bool (decide (e.pin s ≠ 0))) := by
  refine (h.blk.cell _).trans ((re_is _ _ _ _ s (by simp [h.p17]; exact hs)).trans ?_)
  have : s < e.pins.length := by rw [h.p17]; exact hs
  simp [Ep.pin, List.getD, this]
theorem IsRe.cAt {w : World} {R : Nat} {v : Value} {atl : List Nat} {e : Ep} (h : IsRe w R v atl e) (s : Nat) (hs : s < 17) : w.cell? ⟨R, 18 + s, none⟩ = some (.int .i64 ((atl.getD s 0 : Nat) : Int)) := (h.blk.cell _).trans (re_at _ _ _ _ (by simp [h.p17]) s (by rw [h.a17]; exact hs))
theorem IsRe.cLim {w : World} {R : Nat} {v : Value} {atl : List Nat} {e : Ep} (h : IsRe w R v atl e) : w.cell? ⟨R, 35, none⟩ = some v := (h.blk.cell _).trans (re_lim _ _ _ _ (by simp [h.p17]) h.a17)

theorem isl_set (e : Ep) (s x : Nat) : ((e.setPin s x).pins.map fun p => decide (p ≠ 0)) = (e.pins.map fun p => decide (p ≠ 0)).set s (decide (x ≠ 0)) := by
  simp [Ep.setPin, List.map_set]

/-- A session is pinned. -/
theorem IsRe.pin {w : World} {R : Nat} {v : Value} {atl : List Nat} {e : Ep} (h : IsRe w R v atl e) (s : Nat) (hs : s < 17) : ReT w ((w.setCell ⟨R, 1 + s, none⟩ (.bool true)).setCell ⟨R, 18 + s, none⟩ (.int .i64 (e.now : Int))) R (R :: v.ownBlock.toList) (e.setPin s e.now) := by
  have ht : Tn [R] w ((w.setCell ⟨R, 1 + s, none⟩ (.bool true)).setCell ⟨R, 18 + s, none⟩ (.int .i64 (e.now : Int))) := ((Tn.refl _ _).setCell (.inl (by simp)) _).setCell (.inl (by simp)) _
  have h1 := h.n1
  refine ⟨_, ⟨v, atl.set s e.now, rfl, ?_⟩, ht.mono (by simp), fun b hb => .inl hb⟩
  exact {
    blk := by
      have := (h.blk.set (1 + s) (.bool true)).set (18 + s) (.int .i64 (e.now : Int))
      rw [re_setIs _ _ _ _ _ s (by simp [h.p17]; exact hs), re_setAt _ _ _ _ _ (by simp [h.p17]) s (by rw [h.a17]; exact hs)] at this
      rw [isl_set, show decide (e.now ≠ 0) = true from decide_eq_true (by omega)]
      exact this
    p17 := by simp [Ep.setPin, h.p17]
    a17 := by simp [h.a17]
    at' := fun t ht2 hp => by
      rw [Ep.pin_set e s e.now t (by rw [h.p17]; exact hs)] at hp ⊢
      rw [getD_set _ _ _ _ _ (by rw [h.a17]; exact hs)]
      by_cases hts : t = s
      · rw [if_pos hts, if_pos hts]
      · rw [if_neg hts] at hp ⊢
        rw [if_neg hts]
        exact h.at' t ht2 hp
    row := h.row.tn ht (fun b hb => by simpa using h.ne b hb)
    ne := h.ne
    n1 := h.n1 }

/-- .. and let go. -/
theorem IsRe.unpin {w : World} {R : Nat} {v : Value} {atl : List Nat} {e : Ep} (h : IsRe w R v atl e) (s : Nat) (hs : s < 17) : ReT w (w.setCell ⟨R, 1 + s, none⟩ (.bool false)) R (R :: v.ownBlock.toList) (e.setPin s 0) := by
  have ht : Tn [R] w (w.setCell ⟨R, 1 + s, none⟩ (.bool false)) := (Tn.refl _ _).setCell (.inl (by simp)) _
  refine ⟨_, ⟨v, atl, rfl, ?_⟩, ht.mono (by simp), fun b hb => .inl hb⟩
  exact {
    blk := by
      have := h.blk.set (1 + s) (.bool false)
      rw [re_setIs _ _ _ _ _ s (by simp [h.p17]; exact hs)] at this
      rw [isl_set]
      exact this
    p17 := by simp [Ep.setPin, h.p17]
    a17 := h.a17
    at' := fun t ht2 hp => by
      rw [Ep.pin_set e s 0 t (by rw [h.p17]; exact hs)] at hp ⊢
      by_cases hts : t = s
      · rw [if_pos hts] at hp
        exact absurd rfl hp
      · rw [if_neg hts] at hp ⊢
        exact h.at' t ht2 hp
    row := h.row.tn ht (fun b hb => by simpa using h.ne b hb)
    ne := h.ne
    n1 := h.n1 }

/-- Other things wait, in another epoch. -/
theorem IsRe.lim {w w2 w3 : World} {R : Nat} {v u : Value} {atl : List Nat} {e e' : Ep} (h : IsRe w R v atl e) (ht : Tn [R] w w2) (hb : Bk w2 R 41 (reCells e'.now (e.pins.map fun p => decide (p ≠ 0)) atl v)) (hp : e'.pins = e.pins) (hn : 1 ≤ e'.now) (hr : Wr w2 u e'.limbo) (hu : ∀ b, u.ownBlock = some b → w.heap.size ≤ b) (hw : w3 = w2.setCell ⟨R, 35, none⟩ u) : ReT w w3 R (R :: v.ownBlock.toList) e' := by
  have ht3 : Tn [R] w2 w3 := by rw [hw]; exact (Tn.refl _ _).setCell (.inl (by simp)) _
  have hRl := h.blk.lt
  refine ⟨R :: u.ownBlock.toList, ⟨u, atl, rfl, ?_⟩, (ht.trans ht3 (fun x hx => .inl hx)).mono (by simp), fun b hb => ?_⟩
  · exact {
      blk := by
        rw [hw, hp]
        have := hb.set 35 u
        rwa [re_setLim _ _ _ _ _ (by simp [h.p17]) h.a17] at this
      p17 := by rw [hp]; exact h.p17
      a17 := h.a17
      at' := fun s hs hps => by
        have : e'.pin s = e.pin s := by unfold Ep.pin; rw [hp]
        rw [this] at hps ⊢
        exact h.at' s hs hps
      row := hr.tn ht3 (fun b hb => by have := hu b hb; simp; omega)
      ne := fun b hb => by have := hu b hb; omega
      n1 := hn }
  · rcases List.mem_cons.1 hb with rfl | hb
    · exact .inl (by simp)
    · exact .inr (hu b (opt_toList.1 hb))

theorem Ep.limbo_retire (e : Ep) (x : Rt) : (e.retire x).limbo = e.limbo ++ [(e.now, x)] := by
  simp [Ep.limbo, Ep.retire]
theorem Ep.limbo_next (e : Ep) : e.next.limbo = e.cur.map (fun x => (e.now, x)) := by
  simp [Ep.limbo, Ep.next]

end Go.Proofs.Ytndmcjkbbedoeaa
