/- The document's arena: over the same data; New, Put. -/
import Derived.Test.YtfbmbjbokmomhaaArStep
import Derived.BigQuiet
import Derived.Lib.MakeNoZero
namespace Go.Proofs.Ytfbmbjbokmomhaa
open Go.RowKit
set_option linter.unusedVariables false
set_option maxRecDepth 100000

theorem Bk.ne {w : World} {a b : Nat} {t u : TypeId} {cs ds : Array Value} (h : Bk w a t cs) (k : Bk w b u ds) (hn : t ≠ u) : a ≠ b := by
  rintro rfl
  have := h.symm.trans k
  simp only [Option.some.injEq, Obj.cells.injEq] at this
  exact hn this.2.1

/-- A slot behind a Put. -/
theorem put_at (a : Ar) (x : Value) (k : Nat) : slAt (a.put x).us k = if k = low a.us then ⟨a.gen, true, x⟩ else slAt a.us k := by
  unfold Ar.put Ar.gen
  have hle := low_le a.us
  by_cases h : low a.us < a.us.length
  · simp only [if_pos h]
    rw [slAt_set _ _ _ _ h]
  · simp only [if_neg h]
    have e : low a.us = a.us.length := by omega
    rw [e]
    by_cases hk : k = a.us.length
    · subst hk
      rw [if_pos rfl, slAt_last]
    · rw [if_neg hk]
      rcases Nat.lt_or_ge k a.us.length with h1 | h1
      · exact slAt_left _ _ _ h1
      · simp [slAt, List.getD, List.getElem?_append_right h1]
        rw [List.getElem?_eq_none (by simp; omega), List.getElem?_eq_none h1]
theorem gen_at (a : Ar) : a.gen = (slAt a.us (low a.us)).gen + 1 := by
  unfold Ar.gen
  split
  · rfl
  · rename_i h
    simp [slAt, List.getD, List.getElem?_eq_none (Nat.le_of_not_lt h)]
theorem slAt_out {us : List Sl} {i : Nat} (h : us.length ≤ i) : (slAt us i).given = false ∧ (slAt us i).gen = 0 := by
  simp [slAt, List.getD, List.getElem?_eq_none h]
theorem low_first {us : List Sl} {j : Nat} (h1 : ∀ k, k < j → (slAt us k).given = true) (h2 : (slAt us j).given = false) : low us = j := by
  have hj : j ≤ us.length := by
    rcases Nat.lt_or_ge us.length j with h | h
    · have := h1 us.length h
      rw [(slAt_out (Nat.le_refl _)).1] at this
      cases this
    · exact h
  rcases Nat.lt_trichotomy (low us) j with h | h | h
  · have := (low_free (us := us) (by omega)).1
    rw [h1 _ h] at this
    cases this
  · exact h
  · have hl := low_le us
    have hjl : j < us.length := by omega
    have := List.not_of_lt_findIdx (p := fun s : Sl => !s.given) h
    simp at this
    simp only [slAt, List.getD, List.getElem?_eq_getElem hjl, Option.getD_some] at h2
    rw [h2] at this
    cases this
theorem live_all {us : List Sl} {n : Nat} (hle : us.length ≤ n) (h : ∀ k, k < n → (slAt us k).given = true) : live us = n := by
  have e : us.length = n := by
    rcases Nat.lt_or_ge us.length n with h1 | h1
    · have := h us.length h1
      rw [(slAt_out (Nat.le_refl _)).1] at this
      cases this
    · omega
  have h2 := live_free us
  have h3 : freeOf us = [] := by
    rw [List.eq_nil_iff_forall_not_mem]
    intro i hi
    have := mem_freeOf.1 hi
    rw [h i (by omega)] at this
    cases this.2
  rw [h3] at h2
  simp at h2
  omega
theorem live_not {us : List Sl} {n j : Nat} (hle : us.length ≤ n) (hj : j < n) (h : (slAt us j).given = false) : live us < n := by
  have h2 := live_free us
  rcases Nat.lt_or_ge j us.length with h1 | h1
  · have : 0 < (freeOf us).length := List.length_pos_of_mem (mem_freeOf.2 ⟨h1, h⟩)
    omega
  · omega

def gcs (a : Ar) : Array Value := ((List.range a.size).map fun i => Value.bool (slAt a.us i).given).toArray
def ncs (a : Ar) : Array Value := ((List.range a.size).map fun i => Value.int .i64 (slAt a.us i).gen).toArray
def hcs (hs : List ByteArray) : Array Value := (hs.map Value.string).toArray
theorem gcs_at {a : Ar} {i : Nat} (h : i < a.size) : (gcs a)[i]? = some (.bool (slAt a.us i).given) := by simp [gcs, h]
theorem ncs_at {a : Ar} {i : Nat} (h : i < a.size) : (ncs a)[i]? = some (.int .i64 (slAt a.us i).gen) := by simp [ncs, h]
theorem hcs_at {hs : List ByteArray} {i : Nat} (h : i < hs.length) : (hcs hs)[i]? = some (.string (tAt hs i)) := by simp [hcs, tAt, List.getD, h]
theorem hcs_set (hs : List ByteArray) (i : Nat) (x : ByteArray) : (hcs hs).setIfInBounds i (.string x) = hcs (hs.set i x) := by
  simp [hcs, List.map_set]
theorem gcs_set {a b : Ar} (hs : b.size = a.size) {i : Nat} {y : Bool} (h : ∀ k, (slAt b.us k).given = if k = i then y else (slAt a.us k).given) : (gcs a).setIfInBounds i (.bool y) = gcs b := by
  apply Array.ext'
  apply List.ext_getElem?
  intro k
  simp only [gcs, hs, Array.toList_setIfInBounds, List.getElem?_set, List.getElem?_map, List.length_map, List.length_range]
  by_cases hk : i = k
  · subst hk
    by_cases hl : i < a.size
    · simp [hl, h]
    · simp [hl]
  · by_cases hl : k < a.size
    · simp [hl, h, hk, Ne.symm hk]
    · simp [hl, hk]
theorem ncs_set {a b : Ar} (hs : b.size = a.size) {i : Nat} {y : Int} (h : ∀ k, (slAt b.us k).gen = if k = i then y else (slAt a.us k).gen) : (ncs a).setIfInBounds i (.int .i64 y) = ncs b := by
  apply Array.ext'
  apply List.ext_getElem?
  intro k
  simp only [ncs, hs, Array.toList_setIfInBounds, List.getElem?_set, List.getElem?_map, List.length_map, List.length_range]
  by_cases hk : i = k
  · subst hk
    by_cases hl : i < a.size
    · simp [hl, h]
    · simp [hl]
  · by_cases hl : k < a.size
    · simp [hl, h, hk, Ne.symm hk]
    · simp [hl, hk]

/-- The document's arena in memory. -/
structure IsRa (w : World) (R G N H : Nat) (a : Ar) (hs : List ByteArray) : Prop where
  blk : Bk w R 74 #[.slice (some ⟨G, 0, none⟩) a.size a.size, .slice (some ⟨N, 0, none⟩) a.size a.size, .slice (some ⟨H, 0, none⟩) a.size a.size, .int .i64 a.stale]
  bg : Bk w G 4 (gcs a)
  bn : Bk w N 2 (ncs a)
  bh : Bk w H 9 (hcs hs)
  hl : hs.length = a.size
  le : a.us.length ≤ a.size
  s2 : a.size ≤ 65536
  rel : ∀ i, (slAt a.us i).given = true → (slAt a.us i).val = .string (tAt hs i)

def ras (R G N H : Nat) : List Nat := [R, G, N, H]

section
variable {w w' : World} {R G N H : Nat} {a : Ar} {hs : List ByteArray}
theorem IsRa.tn {S : List Nat} (h : IsRa w R G N H a hs) (ht : Tn S w w') (hS : ∀ x ∈ ras R G N H, x ∉ S) : IsRa w' R G N H a hs :=
  ⟨h.blk.tn ht (hS R (by simp [ras])), h.bg.tn ht (hS G (by simp [ras])), h.bn.tn ht (hS N (by simp [ras])), h.bh.tn ht (hS H (by simp [ras])), h.hl, h.le, h.s2, h.rel⟩
theorem IsRa.quiet (h : IsRa w R G N H a hs) (ht : Tn [] w w') : IsRa w' R G N H a hs := h.tn ht (by simp)
theorem IsRa.lt (h : IsRa w R G N H a hs) : ∀ x ∈ ras R G N H, x < w.heap.size := by
  intro x hx
  simp [ras] at hx
  rcases hx with rfl | rfl | rfl | rfl
  · exact h.blk.lt
  · exact h.bg.lt
  · exact h.bn.lt
  · exact h.bh.lt
theorem IsRa.c0 (h : IsRa w R G N H a hs) : w.cell? ⟨R, 0, none⟩ = some (.slice (some ⟨G, 0, none⟩) a.size a.size) := h.blk.cell 0
theorem IsRa.c1 (h : IsRa w R G N H a hs) : w.cell? ⟨R, 1, none⟩ = some (.slice (some ⟨N, 0, none⟩) a.size a.size) := h.blk.cell 1
theorem IsRa.c2 (h : IsRa w R G N H a hs) : w.cell? ⟨R, 2, none⟩ = some (.slice (some ⟨H, 0, none⟩) a.size a.size) := h.blk.cell 2
theorem IsRa.c3 (h : IsRa w R G N H a hs) : w.cell? ⟨R, 3, none⟩ = some (.int .i64 a.stale) := h.blk.cell 3
theorem IsRa.cg (h : IsRa w R G N H a hs) {i : Nat} (hi : i < a.size) : w.cell? ⟨G, i, none⟩ = some (.bool (slAt a.us i).given) := (h.bg.cell i).trans (gcs_at hi)
theorem IsRa.cn (h : IsRa w R G N H a hs) {i : Nat} (hi : i < a.size) : w.cell? ⟨N, i, none⟩ = some (.int .i64 (slAt a.us i).gen) := (h.bn.cell i).trans (ncs_at hi)
theorem IsRa.ch (h : IsRa w R G N H a hs) {i : Nat} (hi : i < a.size) : w.cell? ⟨H, i, none⟩ = some (.string (tAt hs i)) := (h.bh.cell i).trans (hcs_at (by rw [h.hl]; exact hi))
theorem IsRa.dis (h : IsRa w R G N H a hs) : R ≠ G ∧ R ≠ N ∧ R ≠ H ∧ G ≠ N ∧ G ≠ H ∧ N ≠ H :=
  ⟨h.blk.ne h.bg (by decide), h.blk.ne h.bn (by decide), h.blk.ne h.bh (by decide), h.bg.ne h.bn (by decide), h.bg.ne h.bh (by decide), h.bn.ne h.bh (by decide)⟩

/-- Three rows turned into another state's. -/
theorem IsRa.turn {b : Ar} {hs' : List ByteArray} (h : IsRa w R G N H a hs) (ht : Tn [G, N, H] w w') (hsz : b.size = a.size) (hst : b.stale = a.stale) (kg : Bk w' G 4 (gcs b)) (kn : Bk w' N 2 (ncs b)) (kh : Bk w' H 9 (hcs hs')) (hl : hs'.length = hs.length) (hle : b.us.length ≤ b.size) (hr : ∀ i, (slAt b.us i).given = true → (slAt b.us i).val = .string (tAt hs' i)) : IsRa w' R G N H b hs' := by
  obtain ⟨d1, d2, d3, -⟩ := h.dis
  refine ⟨?_, kg, kn, kh, by rw [hl, hsz]; exact h.hl, hle, by rw [hsz]; exact h.s2, hr⟩
  rw [hsz, hst]
  exact h.blk.tn ht (by simp [d1, d2, d3])

theorem Ar.put_len {a : Ar} {x : Value} (hle : a.us.length ≤ a.size) (hl : low a.us < a.size) : (a.put x).us.length ≤ a.size := by
  unfold Ar.put
  have := low_le a.us
  by_cases h : low a.us < a.us.length
  · simp only [if_pos h, List.length_set]
    exact hle
  · simp only [if_neg h, List.length_append, List.length_cons, List.length_nil]
    omega

set_option maxHeartbeats 4000000 in
theorem rput_any (h : IsRa w R G N H a hs) (x : ByteArray) (hf : live a.us < a.size) (hg2 : a.gen ≤ 9223372036854775807) (hg1 : 1 ≤ a.gen) :
    Calls Try.prog 29 #[.pointer (some ⟨R, 0, none⟩), .string x] w fun e w' => e = .returned (.tuple #[.agg #[.int .i64 (low a.us : Int), .int .i64 a.gen], .int .i64 0]) ∧ IsRa w' R G N H (a.put (.string x)) (hs.set (low a.us) x) ∧ Tn [G, N, H] w w' := by
  obtain ⟨w0, hw0⟩ : ∃ w0, w.alloc (.cells #[.int .i64 0, .int .i64 0] 36) = w0 := ⟨_, rfl⟩
  have t0 : Tn [] w w0 := by rw [← hw0]; exact (Tn.refl _ _).alloc _
  have k0 : Bk w0 w.heap.size 36 #[.int .i64 0, .int .i64 0] := by rw [← hw0]; exact Bk.new _ _ _
  have HH : Hid (IsRa w R G N H a hs ∧ IsRa w0 R G N H a hs ∧ Bk w0 w.heap.size 36 #[.int .i64 0, .int .i64 0] ∧ Tn [] w w0) := ⟨h, h.quiet t0, k0, t0⟩
  have HF : Hid (live a.us < a.size) := hf
  have c0 := (h.quiet t0).c0
  obtain ⟨n, hn⟩ : ∃ n, a.size = n := ⟨_, rfl⟩
  have HN : Hid (a.size = n) := hn
  rw [hn] at c0
  have hn6 : n ≤ 65536 := by rw [← hn]; exact h.s2
  obtain ⟨B, hB⟩ : ∃ B, w.heap.size = B := ⟨_, rfl⟩
  have HB : Hid (w.heap.size = B) := hB
  clear h hf t0 k0 hn
  go_enter Try.func29, Try.ntmps29
  go_wp2_with fail
  clear hB
  go_loopw [6] (fun i wr => ∃ j : Nat, j ≤ n ∧ i = .int .i64 (j : Int) ∧ wr = w0 ∧ Hid (∀ k, k < j → (slAt a.us k).given = true)) (fun i _ => n - (intOf i).toNat)
  case atStart => exact ⟨0, by omega, rfl, rfl, fun k hk => by omega⟩
  case round =>
    obtain ⟨j, hj, rfl, rfl, HA⟩ := hrel
    by_cases hlt : j < n
    · have hli : (j : Int) < (n : Int) := by omega
      have hj0 : (0 : Int) ≤ (j : Int) := by omega
      have cg := HH.out.2.1.cg (i := j) (by rw [HN.out]; exact hlt)
      by_cases hgv : (slAt a.us j).given = true
      · rw [hgv] at cg
        have HA2 : Hid (∀ k, k < j + 1 → (slAt a.us k).given = true) := fun k hk => by
          rcases Nat.lt_or_ge k j with h1 | h1
          · exact HA.out k h1
          · obtain rfl : k = j := by omega
            exact hgv
        clear hgv
        go_wp2
        go_roundw
        case rel => exact ⟨j + 1, by omega, by go_num, trivial, HA2⟩
        case measure => simp [intOf]; omega
      · have hgv' : (slAt a.us j).given = false := by simpa using hgv
        rw [hgv'] at cg
        have hlow := low_first HA.out hgv'
        obtain ⟨d1, d2, d3, d4, d5, d6⟩ := HH.out.2.1.dis
        have hjn : j < a.size := by rw [HN.out]; exact hlt
        -- the three stores
        have f1 : wr.frozen? ⟨G, j, none⟩ = false := HH.out.2.1.bg.frozen j
        obtain ⟨w1, hw1⟩ : ∃ w1, wr.setCell ⟨G, j, none⟩ (.bool true) = w1 := ⟨_, rfl⟩
        have t1 : Tn [G] wr w1 := by rw [← hw1]; exact (Tn.refl _ _).setCell (.inl (by simp)) _
        have k1 : Bk w1 G 4 (gcs (a.put (.string x))) := by
          have := HH.out.2.1.bg.set j (.bool true)
          rw [gcs_set (a := a) (b := a.put (.string x)) rfl (i := j) (y := true) (fun k => by rw [put_at, hlow]; split <;> rfl)] at this
          rw [← hw1]
          exact this
        have e1 : w1.cell? ⟨R, 1, none⟩ = some (.slice (some ⟨N, 0, none⟩) n n) := by
          rw [(HH.out.2.1.blk.tn t1 (by simpa using d1)).cell 1, ← HN.out]
          rfl
        have n1 := HH.out.2.1.bn.tn t1 (by simp; omega)
        have q1 : w1.cell? ⟨N, j, none⟩ = some (.int .i64 (slAt a.us j).gen) := (n1.cell j).trans (ncs_at hjn)
        have f2 : w1.frozen? ⟨N, j, none⟩ = false := n1.frozen j
        have hgen : (slAt a.us j).gen + 1 = a.gen := by rw [gen_at, hlow]
        obtain ⟨gg, hgg⟩ : ∃ gg, a.gen = gg := ⟨_, rfl⟩
        have hw : wrap64 ((slAt a.us j).gen + 1) = gg := by rw [hgen, hgg]; unfold wrap64; rw [hgg] at hg1 hg2; omega
        obtain ⟨w2, hw2⟩ : ∃ w2, w1.setCell ⟨N, j, none⟩ (.int .i64 gg) = w2 := ⟨_, rfl⟩
        have t2 : Tn [N] w1 w2 := by rw [← hw2]; exact (Tn.refl _ _).setCell (.inl (by simp)) _
        have k2 : Bk w2 N 2 (ncs (a.put (.string x))) := by
          have := n1.set j (.int .i64 gg)
          rw [ncs_set (a := a) (b := a.put (.string x)) rfl (i := j) (y := gg) (fun k => by rw [put_at, hlow]; split <;> first | exact hgg | rfl)] at this
          rw [← hw2]
          exact this
        have t12 : Tn [G, N] wr w2 := (t1.mono (by simp)).trans t2 (by simp)
        have e2 : w2.cell? ⟨R, 2, none⟩ = some (.slice (some ⟨H, 0, none⟩) n n) := by
          rw [(HH.out.2.1.blk.tn t12 (by simp [d1, d2])).cell 2, ← HN.out]
          rfl
        have n2 := HH.out.2.1.bh.tn t12 (by simp; omega)
        have q2 : w2.cell? ⟨H, j, none⟩ = some (.string (tAt hs j)) := (n2.cell j).trans (hcs_at (by rw [HH.out.2.1.hl]; exact hjn))
        have f3 : w2.frozen? ⟨H, j, none⟩ = false := n2.frozen j
        obtain ⟨w3, hw3⟩ : ∃ w3, w2.setCell ⟨H, j, none⟩ (.string x) = w3 := ⟨_, rfl⟩
        have t3 : Tn [H] w2 w3 := by rw [← hw3]; exact (Tn.refl _ _).setCell (.inl (by simp)) _
        have T3 : Tn [G, N, H] wr w3 := (t12.mono (by simp)).trans t3 (by simp)
        have k3 : Bk w3 H 9 (hcs (hs.set j x)) := by
          have := n2.set j (.string x)
          rw [hcs_set] at this
          rw [← hw3]
          exact this
        have r3 : IsRa w3 R G N H (a.put (.string x)) (hs.set j x) := HH.out.2.1.turn T3 rfl rfl ((k1.tn t2 (by simpa using d4)).tn t3 (by simpa using d5)) (k2.tn t3 (by simpa using d6)) k3 (by simp) (Ar.put_len HH.out.2.1.le (by rw [hlow]; exact hjn)) (fun i hi => by
          rw [put_at, hlow] at hi ⊢
          by_cases hij : i = j
          · subst hij
            rw [if_pos rfl]
            simp [tAt, List.getD, HH.out.2.1.hl, hjn]
          · rw [if_neg hij] at hi ⊢
            rw [HH.out.2.1.rel i hi]
            simp [tAt, List.getD, Ne.symm hij])
        have e3 : w3.cell? ⟨R, 1, none⟩ = some (.slice (some ⟨N, 0, none⟩) n n) := by rw [← HN.out]; exact r3.c1
        have q3 : w3.cell? ⟨N, j, none⟩ = some (.int .i64 gg) := by
          have := r3.cn (i := j) hjn
          rw [put_at, hlow, if_pos rfl] at this
          rw [← hgg]
          exact this
        have hBlt := HH.out.2.2.1.lt
        have hBne : B ∉ [G, N, H] := by
          have hL := HH.out.1.lt
          have := HB.out
          have h1 := hL G (by simp [ras])
          have h2 := hL N (by simp [ras])
          have h3 := hL H (by simp [ras])
          simp
          omega
        have kB : Bk w3 B 36 #[.int .i64 0, .int .i64 0] := by
          have := HH.out.2.2.1
          rw [HB.out] at this
          exact this.tn T3 hBne
        have b0 : w3.cell? ⟨B, 0, none⟩ = some (.int .i64 0) := kB.cell 0
        have b1 : w3.cell? ⟨B, 1, none⟩ = some (.int .i64 0) := kB.cell 1
        have y0 : w3.frozen? ⟨B, 0, none⟩ = false := kB.frozen 0
        have y1 : w3.frozen? ⟨B, 1, none⟩ = false := kB.frozen 1
        obtain ⟨w4, hw4⟩ : ∃ w4, w4 = (w3.setCell ⟨B, 0, none⟩ (.int .i64 (j : Int))).setCell ⟨B, 1, none⟩ (.int .i64 gg) := ⟨_, rfl⟩
        have t4 : Tn [B] w3 w4 := by rw [hw4]; exact ((Tn.refl _ _).setCell (.inl (by simp)) _).setCell (.inl (by simp)) _
        have k4 : Bk w4 B 36 #[.int .i64 (j : Int), .int .i64 gg] := by
          rw [hw4]
          exact (kB.set 0 (.int .i64 (j : Int))).set 1 (.int .i64 gg)
        have HE : Hid (IsRa w4 R G N H (a.put (.string x)) (hs.set j x) ∧ Tn [G, N, H] w w4 ∧ low a.us = j ∧ a.gen = gg) := by
          refine ⟨r3.tn t4 (fun y hy => ?_), ?_, hlow, hgg⟩
          · have := HH.out.1.lt y hy
            have := HB.out
            simp
            omega
          · exact ((HH.out.2.2.2.mono (by simp)).trans T3 (fun y hy => .inl hy)).trans t4 (by simp; right; exact Nat.le_of_eq HB.out)
        have HK4 : Hid (Bk w4 B 36 #[.int .i64 (j : Int), .int .i64 gg]) := k4
        clear t1 k1 n1 t2 k2 t12 n2 t3 T3 k3 r3 kB t4 k4 HA HF hgv hgv' hlow hgen hBne hBlt d1 d2 d3 d4 d5 d6 hg1 hg2 hgg
        generalize (slAt a.us j).gen = g0 at *
        go_wp2
        rw [← hw4]
        refine bodyPost_ret (results_hndS rfl rfl HK4.out) rfl ?_
        obtain ⟨h1, h2, h3, h4⟩ := HE.out
        refine ⟨?_, by rw [h3]; exact h1, h2⟩
        rw [h3, h4]
        rfl
    · have hli : ¬ (j : Int) < (n : Int) := by omega
      exfalso
      obtain rfl : j = n := by omega
      have := live_all HH.out.1.le (by rw [HN.out]; exact HA.out)
      have := HF.out
      omega

set_option maxHeartbeats 4000000 in
theorem rput_full (h : IsRa w R G N H a hs) (x : ByteArray) (hf : live a.us = a.size) :
    Calls Try.prog 29 #[.pointer (some ⟨R, 0, none⟩), .string x] w fun e w' => e = .returned (.tuple #[.agg #[.int .i64 0, .int .i64 0], .int .i64 5]) ∧ Tn [] w w' := by
  obtain ⟨w0, hw0⟩ : ∃ w0, w.alloc (.cells #[.int .i64 0, .int .i64 0] 36) = w0 := ⟨_, rfl⟩
  have t0 : Tn [] w w0 := by rw [← hw0]; exact (Tn.refl _ _).alloc _
  have k0 : Bk w0 w.heap.size 36 #[.int .i64 0, .int .i64 0] := by rw [← hw0]; exact Bk.new _ _ _
  have HH : Hid (IsRa w0 R G N H a hs ∧ Tn [] w w0) := ⟨h.quiet t0, t0⟩
  have HF : Hid (live a.us = a.size) := hf
  have c0 := (h.quiet t0).c0
  obtain ⟨n, hn⟩ : ∃ n, a.size = n := ⟨_, rfl⟩
  have HN : Hid (a.size = n) := hn
  rw [hn] at c0
  have hn6 : n ≤ 65536 := by rw [← hn]; exact h.s2
  obtain ⟨B, hB⟩ : ∃ B, w.heap.size = B := ⟨_, rfl⟩
  rw [hB] at k0
  have b0 : w0.cell? ⟨B, 0, none⟩ = some (.int .i64 0) := k0.cell 0
  have b1 : w0.cell? ⟨B, 1, none⟩ = some (.int .i64 0) := k0.cell 1
  have y0 : w0.frozen? ⟨B, 0, none⟩ = false := k0.frozen 0
  have y1 : w0.frozen? ⟨B, 1, none⟩ = false := k0.frozen 1
  obtain ⟨w4, hw4⟩ : ∃ w4, w4 = (w0.setCell ⟨B, 0, none⟩ (.int .i64 0)).setCell ⟨B, 1, none⟩ (.int .i64 0) := ⟨_, rfl⟩
  have HE : Hid (Bk w4 B 36 #[.int .i64 0, .int .i64 0] ∧ Tn [] w w4) := by
    rw [hw4]
    exact ⟨(k0.set 0 (.int .i64 0)).set 1 (.int .i64 0), (t0.setCell (.inr (by show w.heap.size ≤ B; omega)) _).setCell (.inr (by show w.heap.size ≤ B; omega)) _⟩
  clear h hf t0 k0 hn
  go_enter Try.func29, Try.ntmps29
  go_wp2_with fail
  clear hB
  go_loopw [6] (fun i wr => ∃ j : Nat, j ≤ n ∧ i = .int .i64 (j : Int) ∧ wr = w0) (fun i _ => n - (intOf i).toNat)
  case atStart => exact ⟨0, by omega, rfl, rfl⟩
  case round =>
    obtain ⟨j, hj, rfl, rfl⟩ := hrel
    by_cases hlt : j < n
    · have hli : (j : Int) < (n : Int) := by omega
      have hj0 : (0 : Int) ≤ (j : Int) := by omega
      have cg := HH.out.1.cg (i := j) (by rw [HN.out]; exact hlt)
      have hgv : (slAt a.us j).given = true := by
        cases hq : (slAt a.us j).given with
        | true => rfl
        | false =>
          have := live_not HH.out.1.le (by rw [HN.out]; exact hlt) hq
          have := HF.out
          omega
      rw [hgv] at cg
      clear hgv
      go_wp2
      go_roundw
      case rel => exact ⟨j + 1, by omega, by go_num, trivial⟩
      case measure => simp [intOf]; omega
    · have hli : ¬ (j : Int) < (n : Int) := by omega
      go_wp2
      rw [← hw4]
      refine bodyPost_ret (results_hndS rfl rfl HE.out.1) rfl ?_
      exact ⟨rfl, HE.out.2⟩

/-- A handle's box, and what is read there. -/
theorem IsRa.box (h : IsRa w R G N H a hs) (s g : Int) : ∃ w0, w.alloc (.cells #[.int .i64 s, .int .i64 g] 36) = w0 ∧ IsRa w0 R G N H a hs ∧ Bk w0 w.heap.size 36 #[.int .i64 s, .int .i64 g] ∧ Tn [] w w0 :=
  ⟨_, rfl, h.quiet ((Tn.refl _ _).alloc _), Bk.new _ _ _, (Tn.refl _ _).alloc _⟩

theorem drewN_tn (w : World) (k : Nat) : Tn [] w (w.drewN k) := ⟨rfl, rfl, rfl, Nat.le_refl _, fun _ _ _ => rfl⟩
theorem IsRa.drewN (h : IsRa w R G N H a hs) (k : Nat) : IsRa (w.drewN k) R G N H a hs := h.quiet (drewN_tn w k)

set_option maxHeartbeats 4000000 in
theorem rgood_any (h : IsRa w R G N H a hs) (s g : Int) {b : Bool} (hb : b = true ↔ a.Good s g) : Calls Try.prog 57 #[.pointer (some ⟨R, 0, none⟩), .agg #[.int .i64 s, .int .i64 g]] w fun e w' => e = .returned (.bool b) ∧ Tn [] w w' := by
  obtain ⟨w0, hw0, h0, k0, t0⟩ := h.box s g
  have hs2 := h.s2
  have hle := h.le
  have c0 := h0.c0
  have c1 := h0.c1
  have HCG : Hid (∀ i, i < a.size → w0.cell? ⟨G, i, none⟩ = some (.bool (slAt a.us i).given)) := fun i hi => h0.cg hi
  have HCN : Hid (∀ i, i < a.size → w0.cell? ⟨N, i, none⟩ = some (.int .i64 (slAt a.us i).gen)) := fun i hi => h0.cn hi
  obtain ⟨n, hn⟩ : ∃ n, a.size = n := ⟨_, rfl⟩
  rw [hn] at c0 c1 HCG HCN hs2 hle
  obtain ⟨B, hB⟩ : ∃ B, w.heap.size = B := ⟨_, rfl⟩
  rw [hB] at k0
  have b0 : w0.cell? ⟨B, 0, none⟩ = some (.int .i64 s) := k0.cell 0
  have b1 : w0.cell? ⟨B, 1, none⟩ = some (.int .i64 g) := k0.cell 1
  have HT : Hid (∀ k, Tn [] w (w0.drewN k)) := fun k => t0.trans (drewN_tn _ _) (by simp)
  unfold Ar.Good at hb
  clear h h0 k0 t0 hn
  by_cases h1 : s < 0
  · obtain rfl : b = false := by rw [Bool.eq_false_iff]; intro e; have := (hb.1 e).1; omega
    have hd : decide ((0 : Int) ≤ s) = false := by simp; omega
    clear hb HCG HCN h1
    go_enter Try.func57, Try.ntmps57
    go_wp2_with fail
    go_quiet (fail)
    go_wp2
    go_ret
    exact ⟨rfl, HT.out _⟩
  · obtain ⟨i, rfl⟩ : ∃ i : Nat, s = (i : Int) := ⟨s.toNat, by omega⟩
    have h0i : (0 : Int) ≤ (i : Int) := by omega
    clear h1
    simp only [Int.toNat_natCast] at hb
    by_cases h2 : i < n
    · have h2i : (i : Int) < (n : Int) := by omega
      have cg := HCG.out i h2
      have cn := HCN.out i h2
      clear HCG HCN
      cases hgv : (slAt a.us i).given with
      | false =>
        rw [hgv] at cg
        obtain rfl : b = false := by rw [Bool.eq_false_iff]; intro e; have := (hb.1 e).2.2.1; rw [hgv] at this; cases this
        clear hb hgv
        generalize (slAt a.us i).gen = gg at *
        go_enter Try.func57, Try.ntmps57
        go_wp2_with fail
        go_quiet (fail)
        go_wp2
        go_ret
        exact ⟨rfl, HT.out _⟩
      | true =>
        rw [hgv] at cg
        have hil : i < a.us.length := by
          rcases Nat.lt_or_ge i a.us.length with h | h
          · exact h
          · rw [(slAt_out h).1] at hgv
            cases hgv
        by_cases hq : (slAt a.us i).gen = g
        · obtain rfl : b = true := hb.2 ⟨h0i, by omega, hgv, hq⟩
          rw [hq] at cn
          clear hb hgv hq
          go_enter Try.func57, Try.ntmps57
          go_wp2_with fail
          go_quiet (fail)
          go_wp2
          go_ret
          exact ⟨by simp, HT.out _⟩
        · obtain rfl : b = false := by rw [Bool.eq_false_iff]; intro e; exact hq (hb.1 e).2.2.2
          have hq' : ((slAt a.us i).gen == g) = false := by simpa using hq
          clear hb hgv hq
          generalize (slAt a.us i).gen = gg at *
          go_enter Try.func57, Try.ntmps57
          go_wp2_with fail
          go_quiet (fail)
          go_wp2
          go_ret
          exact ⟨by simp, HT.out _⟩
    · have h2i : ¬ (i : Int) < (n : Int) := by omega
      obtain rfl : b = false := by rw [Bool.eq_false_iff]; intro e; have := (hb.1 e).2.1; omega
      clear hb HCG HCN
      go_enter Try.func57, Try.ntmps57
      go_wp2_with fail
      go_quiet (fail)
      go_wp2
      go_ret
      exact ⟨rfl, HT.out _⟩
end
end Go.Proofs.Ytfbmbjbokmomhaa
