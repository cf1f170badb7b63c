/- The law's own memory beside an epoch: who is pinned, a map. -/
import Derived.Test.YtndmcjkbbedoeaaEpSafeP
namespace Go.Proofs.Ytndmcjkbbedoeaa
open Go.RowKit Go.Maps
set_option linter.unusedVariables false
set_option maxRecDepth 100000

structure Sg (w wr : World) (B bp M n j : Nat) (bs : List Nat) (e : Ep) (c : List Int) (f : Nat → Option (List Int)) : Prop where
  sc : Sc w wr B j bs e
  kp : Bk wr bp 45 (pinCells c)
  mp : Mp wr M n f
  n1 : bp ∉ bs
  n2 : M ∉ bs
  n3 : bp ≠ M
  l1 : w.heap.size ≤ bp
  l2 : w.heap.size ≤ M

theorem Sg.turn {w wr wo w' : World} {B bp M n j k : Nat} {bs : List Nat} {e e' : Ep} {c : List Int} {f : Nat → Option (List Int)} (h : Sg w wr B bp M n j bs e c f) (ht : Tn [] wr wo) (hT : EpT wo w' B bs e') (hl : e'.Le k k) : ∃ bs', Sg w w' B bp M n k bs' e' c f ∧ (∀ b ∈ bs', b ∈ bs ∨ wo.heap.size ≤ b) ∧ Tn bs wo w' := by
  have hT' := hT
  obtain ⟨bs', h1, h2, h3⟩ := hT
  have hs := ht.size
  have hk := h.kp.lt
  have hm := h.mp.lt
  have hss := h.sc.below.size
  have kp' := (h.kp.tn ht (by simp)).tn h2 h.n1
  have mp' := (h.mp.tn ht (by simp)).tn h2 h.n2
  refine ⟨bs', ⟨⟨h1, fun b hb => ?_, ?_, hl⟩, kp', mp', fun hb => ?_, fun hb => ?_, h.n3, h.l1, h.l2⟩, h3, h2⟩
  · rcases h3 b hb with h4 | h4
    · exact h.sc.low b h4
    · omega
  · exact (h.sc.below.trans ((ht.below (Nat.le_refl _) (by simp)).mono hss)).trans (h2.below (by omega) h.sc.low)
  · rcases h3 _ hb with h4 | h4
    · exact h.n1 h4
    · omega
  · rcases h3 _ hb with h4 | h4
    · exact h.n2 h4
    · omega

theorem Sg.still {w wr w' : World} {B bp M n j k : Nat} {bs : List Nat} {e : Ep} {c : List Int} {f : Nat → Option (List Int)} (h : Sg w wr B bp M n j bs e c f) (ht : Tn [] wr w') (hk : j ≤ k) : Sg w w' B bp M n k bs e c f :=
  ⟨h.sc.still ht hk, h.kp.tn ht (by simp), h.mp.tn ht (by simp), h.n1, h.n2, h.n3, h.l1, h.l2⟩

/-- Another block turns. -/
theorem Sg.other {w wr w' : World} {B bp M n j y : Nat} {bs : List Nat} {e : Ep} {c c' : List Int} {f f' : Nat → Option (List Int)} (h : Sg w wr B bp M n j bs e c f) (ht : Tn [y] wr w') (hy : y ∉ bs) (hw : w.heap.size ≤ y) (kp : Bk w' bp 45 (pinCells c')) (mp : Mp w' M n f') : Sg w w' B bp M n j bs e c' f' :=
  ⟨⟨h.sc.ep.tn ht (fun b hb hm => hy (by simp at hm; rw [← hm]; exact hb)), h.sc.low, h.sc.below.trans (ht.below h.sc.below.size (by simpa using hw)), h.sc.le⟩, kp, mp, h.n1, h.n2, h.n3, h.l1, h.l2⟩

theorem Sg.adv {w wr wo w5 : World} {B bp M n j : Nat} {bs : List Nat} {e : Ep} {c : List Int} {f : Nat → Option (List Int)} {v : Value} (h : Sg w wr B bp M n j bs e c f) (ht : Tn [] wr wo) (hA : Adv wo w5 B bs e v) : ∃ bs', Sg w w5 B bp M n (j + 1) bs' e.next c f ∧ Rr w5 v e.old ∧ ∀ b, v.ownBlock = some b → b ∉ bs' ∧ b ≠ bp ∧ b ≠ M := by
  obtain ⟨bs', h1, h2, h3, h4⟩ := hA.ep
  have ho := h.still ht (Nat.le_refl _)
  have hB := h.sc.low B h.sc.ep.hB
  have hBp : bp ≠ B := fun e => h.n1 (by rw [e]; exact h.sc.ep.hB)
  have hBm : M ≠ B := fun e => h.n2 (by rw [e]; exact h.sc.ep.hB)
  have l1 := h.sc.le.now
  have l2 := h.sc.le.len
  refine ⟨bs', ⟨⟨h1, fun b hb => h.sc.low b (h3 b hb), ho.sc.below.trans (h2.below ho.sc.below.size (by simpa using hB)), ⟨?_, ?_⟩⟩, ho.kp.tn h2 (by simpa using hBp), ho.mp.tn h2 (by simpa using hBm), fun hb => h.n1 (h3 _ hb), fun hb => h.n2 (h3 _ hb), h.n3, h.l1, h.l2⟩, hA.row, fun b hb => ⟨(h4 b hb).2, fun e => h.n1 (by rw [← e]; exact (h4 b hb).1), fun e => h.n2 (by rw [← e]; exact (h4 b hb).1)⟩⟩
  · show e.now + 1 ≤ j + 1 + 1
    omega
  · simp [Ep.next]
    omega

theorem pinCells_at (c : List Int) (s : Nat) (hs : s < c.length) : (pinCells c)[s]? = some (.int .i64 (cAt c s)) := by
  simp [pinCells, cAt, List.getD, hs]

theorem pinCells_set (c : List Int) (s : Nat) (x : Int) : (pinCells c).setIfInBounds s (.int .i64 x) = pinCells (c.set s x) := by
  unfold pinCells
  apply Array.ext'
  simp [List.map_set]

/-- A session's number turns. -/
theorem Sg.count {w wr : World} {B bp M n j : Nat} {bs : List Nat} {e : Ep} {c : List Int} {f : Nat → Option (List Int)} (h : Sg w wr B bp M n j bs e c f) (s : Nat) (x : Int) : Sg w (wr.setCell ⟨bp, s, none⟩ (.int .i64 x)) B bp M n j bs e (c.set s x) f := by
  have ht : Tn [bp] wr (wr.setCell ⟨bp, s, none⟩ (.int .i64 x)) := (Tn.refl _ _).setCell (.inl (by simp)) _
  refine h.other ht h.n1 h.l1 ?_ (h.mp.tn ht (by have := h.n3; simp; omega))
  have := h.kp.set s (.int .i64 x)
  rwa [pinCells_set] at this

theorem list17 {l : List Int} (h : l.length = 17) : ∃ a0 a1 a2 a3 a4 a5 a6 a7 a8 a9 a10 a11 a12 a13 a14 a15 a16, l = [a0, a1, a2, a3, a4, a5, a6, a7, a8, a9, a10, a11, a12, a13, a14, a15, a16] := by
  match l, h with
  | [a0, a1, a2, a3, a4, a5, a6, a7, a8, a9, a10, a11, a12, a13, a14, a15, a16], _ => exact ⟨_, _, _, _, _, _, _, _, _, _, _, _, _, _, _, _, _, rfl⟩

/-- What lies ahead of the loop. -/
theorem safe_start {w w2 : World} {n : Nat} (h : Sc w w2 w.heap.size 0 [w.heap.size] Ep.fresh) : ∃ ws, (w2.alloc (.cells #[.int .i64 0, .int .i64 0, .int .i64 0, .int .i64 0, .int .i64 0, .int .i64 0, .int .i64 0, .int .i64 0, .int .i64 0, .int .i64 0, .int .i64 0, .int .i64 0, .int .i64 0, .int .i64 0, .int .i64 0, .int .i64 0, .int .i64 0] 45)).alloc (.map #[] 0) = ws ∧ Sg w ws w.heap.size w2.heap.size (w2.heap.size + 1) n 0 [w.heap.size] Ep.fresh (List.replicate 17 0) (fun _ => none) := by
  have hlt := h.ep.lt _ h.ep.hB
  have hs := h.below.size
  have k : Bk (w2.alloc (.cells (pinCells (List.replicate 17 0)) 45)) w2.heap.size 45 (pinCells (List.replicate 17 0)) := Bk.new _ _ _
  have m := Mp.new (w2.alloc (.cells (pinCells (List.replicate 17 0)) 45)) n
  rw [World.size_alloc] at m
  refine ⟨_, rfl, ⟨h.still (((Tn.refl _ _).alloc _).alloc _) (Nat.le_refl _), ?_, m, ?_, ?_, by omega, hs, by omega⟩⟩
  · exact k.alloc _
  · simp
    omega
  · simp
    omega

end Go.Proofs.Ytndmcjkbbedoeaa
