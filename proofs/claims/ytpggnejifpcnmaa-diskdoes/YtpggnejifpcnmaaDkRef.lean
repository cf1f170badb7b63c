/- The reference: how it lies in memory, and its small calls. -/
import Derived.Test.YtpggnejifpcnmaaDkSame
namespace Go.Proofs.Ytpggnejifpcnmaa
open Go.RowKit Go.Shelf Go.Maps
set_option linter.unusedVariables false

/-- Texts in a row. -/
def SRow (w : World) (N n : Nat) (f : Nat → List Int) : Prop := ∃ cur : Array Value, Bk w N 9 cur ∧ n ≤ cur.size ∧ ∀ i, i < n → cur[i]? = some (.string (strOfNums (f i)))
/-- Bools in a row. -/
def BRow (w : World) (N n : Nat) (f : Nat → Bool) : Prop := ∃ cur : Array Value, Bk w N 4 cur ∧ n ≤ cur.size ∧ ∀ i, i < n → cur[i]? = some (.bool (f i))

theorem SRow.tn {T : List Nat} {w w' : World} {N n : Nat} {f : Nat → List Int} (h : SRow w N n f) (k : Tn T w w') (hN : N ∉ T) : SRow w' N n f := by
  obtain ⟨cur, h1, h2⟩ := h
  exact ⟨cur, h1.tn k hN, h2⟩
theorem BRow.tn {T : List Nat} {w w' : World} {N n : Nat} {f : Nat → Bool} (h : BRow w N n f) (k : Tn T w w') (hN : N ∉ T) : BRow w' N n f := by
  obtain ⟨cur, h1, h2⟩ := h
  exact ⟨cur, h1.tn k hN, h2⟩
theorem SRow.as {w : World} {N n : Nat} {f g : Nat → List Int} (h : SRow w N n f) (hg : ∀ i, i < n → g i = f i) : SRow w N n g := by
  obtain ⟨cur, h1, h2, h3⟩ := h
  exact ⟨cur, h1, h2, fun i hi => by rw [hg i hi]; exact h3 i hi⟩
theorem BRow.as {w : World} {N n : Nat} {f g : Nat → Bool} (h : BRow w N n f) (hg : ∀ i, i < n → g i = f i) : BRow w N n g := by
  obtain ⟨cur, h1, h2, h3⟩ := h
  exact ⟨cur, h1, h2, fun i hi => by rw [hg i hi]; exact h3 i hi⟩
theorem SRow.cell {w : World} {N n : Nat} {f : Nat → List Int} (h : SRow w N n f) {i : Nat} (hi : i < n) : w.cell? ⟨N, i, none⟩ = some (.string (strOfNums (f i))) ∧ w.frozen? ⟨N, i, none⟩ = false := by
  obtain ⟨cur, h1, h2, h3⟩ := h
  exact ⟨by rw [h1.cell]; exact h3 i hi, h1.frozen i⟩
theorem BRow.cell {w : World} {N n : Nat} {f : Nat → Bool} (h : BRow w N n f) {i : Nat} (hi : i < n) : w.cell? ⟨N, i, none⟩ = some (.bool (f i)) ∧ w.frozen? ⟨N, i, none⟩ = false := by
  obtain ⟨cur, h1, h2, h3⟩ := h
  exact ⟨by rw [h1.cell]; exact h3 i hi, h1.frozen i⟩
theorem SRow.set {w : World} {N n : Nat} {f g : Nat → List Int} (h : SRow w N n f) {i : Nat} (hi : i < n) {xs : List Int} (hg : g i = xs ∧ ∀ x, x < n → x ≠ i → g x = f x) : SRow (w.setCell ⟨N, i, none⟩ (.string (strOfNums xs))) N n g := by
  obtain ⟨cur, h1, h2, h3⟩ := h
  refine ⟨_, h1.set i _, by simp; omega, fun j hj => ?_⟩
  by_cases hji : j = i
  · subst hji
    rw [hg.1]
    exact Array.getElem?_setIfInBounds_self_of_lt (by omega)
  · rw [hg.2 j hj hji, Array.getElem?_setIfInBounds_ne (by omega)]
    exact h3 j hj
theorem BRow.set {w : World} {N n : Nat} {f g : Nat → Bool} (h : BRow w N n f) {i : Nat} (hi : i < n) {x : Bool} (hg : g i = x ∧ ∀ y, y < n → y ≠ i → g y = f y) : BRow (w.setCell ⟨N, i, none⟩ (.bool x)) N n g := by
  obtain ⟨cur, h1, h2, h3⟩ := h
  refine ⟨_, h1.set i _, by simp; omega, fun j hj => ?_⟩
  by_cases hji : j = i
  · subst hji
    rw [hg.1]
    exact Array.getElem?_setIfInBounds_self_of_lt (by omega)
  · rw [hg.2 j hj hji, Array.getElem?_setIfInBounds_ne (by omega)]
    exact h3 j hj

structure IsRf (w : World) (R N S D cN cS : Nat) (p : Option Addr) (c : Nat) (kk : List Bool) (kb : List Nat) (d : Dk) : Prop where
  blk : Bk w R 65 #[.slice (some ⟨N, 0, none⟩) d.n cN, .slice (some ⟨S, 0, none⟩) d.n cS, .slice (some ⟨D, 0, none⟩) d.n d.n, .int .i64 d.left, .slice p kk.length c, .int .i64 d.calls, .bool d.down]
  now : SRow w N d.n d.last
  sure : SRow w S d.n d.sure
  dirty : BRow w D d.n (fun i => (d.dirty i).isSome)
  keep : Bls w p kk
  kbs : ∀ ad, p = some ad → 0 < kk.length → ad.block ∈ kb
  kne : R ∉ kb ∧ N ∉ kb ∧ S ∉ kb ∧ D ∉ kb
  klt : ∀ b ∈ kb, b < w.heap.size
  ne : R ≠ N ∧ R ≠ S ∧ R ≠ D ∧ N ≠ S ∧ N ≠ D ∧ S ≠ D
  eqk : d.left ≠ 0 → kk = d.keep
  n1 : 1 ≤ d.n
  n2 : d.n ≤ 16384
  caps : d.n ≤ cN ∧ d.n ≤ cS
  secS : ∀ i, i < d.n → Sec (d.sure i)
  secD : ∀ i x, d.dirty i = some x → Sec x
  left : 0 ≤ d.left ∧ d.left ≤ 9223372036854775807

/-- The reference, and the blocks that are its. -/
def Rf (w : World) (R : Nat) (bs : List Nat) (d : Dk) : Prop := ∃ N S D cN cS p c kk kb, bs = R :: N :: S :: D :: kb ∧ IsRf w R N S D cN cS p c kk kb d

/-- What has become of it. -/
def RTurns (w w' : World) (R : Nat) (bs : List Nat) (d : Dk) : Prop := ∃ bs', Rf w' R bs' d ∧ Tn bs w w' ∧ ∀ b ∈ bs', b ∈ bs ∨ w.heap.size ≤ b

section
variable {w w' : World} {R N S D cN cS : Nat} {p : Option Addr} {c : Nat} {kk : List Bool} {kb : List Nat} {d : Dk}

theorem IsRf.lt (h : IsRf w R N S D cN cS p c kk kb d) : ∀ b ∈ R :: N :: S :: D :: kb, b < w.heap.size := by
  intro b hb
  simp only [List.mem_cons] at hb
  rcases hb with rfl | rfl | rfl | rfl | hb
  · exact h.blk.lt
  · exact h.now.choose_spec.1.lt
  · exact h.sure.choose_spec.1.lt
  · exact h.dirty.choose_spec.1.lt
  · exact h.klt b hb

theorem IsRf.tn (h : IsRf w R N S D cN cS p c kk kb d) {T : List Nat} (k : Tn T w w') (hT : ∀ b ∈ R :: N :: S :: D :: kb, b ∉ T) : IsRf w' R N S D cN cS p c kk kb d :=
  { h with
    blk := h.blk.tn k (hT _ (by simp))
    now := h.now.tn k (hT _ (by simp))
    sure := h.sure.tn k (hT _ (by simp))
    dirty := h.dirty.tn k (hT _ (by simp))
    keep := h.keep.tn k (fun ad ha hl => hT _ (by simp [h.kbs ad ha hl]))
    klt := fun b hb => Nat.lt_of_lt_of_le (h.klt b hb) k.size }

theorem IsRf.cells (h : IsRf w R N S D cN cS p c kk kb d) :
    w.cell? ⟨R, 0, none⟩ = some (.slice (some ⟨N, 0, none⟩) d.n cN) ∧ w.cell? ⟨R, 1, none⟩ = some (.slice (some ⟨S, 0, none⟩) d.n cS) ∧ w.cell? ⟨R, 2, none⟩ = some (.slice (some ⟨D, 0, none⟩) d.n d.n) ∧ w.cell? ⟨R, 3, none⟩ = some (.int .i64 d.left) ∧ w.cell? ⟨R, 4, none⟩ = some (.slice p kk.length c) ∧ w.cell? ⟨R, 5, none⟩ = some (.int .i64 d.calls) ∧ w.cell? ⟨R, 6, none⟩ = some (.bool d.down) := by
  refine ⟨?_, ?_, ?_, ?_, ?_, ?_, ?_⟩ <;> (rw [h.blk.cell]; rfl)
end

theorem Rf.lt {w : World} {R : Nat} {bs : List Nat} {d : Dk} (h : Rf w R bs d) : ∀ b ∈ bs, b < w.heap.size := by
  obtain ⟨N, S, D, cN, cS, p, c, kk, kb, rfl, h⟩ := h
  exact h.lt
theorem Rf.tn {w w' : World} {R : Nat} {bs : List Nat} {d : Dk} (h : Rf w R bs d) {T : List Nat} (k : Tn T w w') (hT : ∀ b ∈ bs, b ∉ T) : Rf w' R bs d := by
  obtain ⟨N, S, D, cN, cS, p, c, kk, kb, rfl, h⟩ := h
  exact ⟨N, S, D, cN, cS, p, c, kk, kb, rfl, h.tn k hT⟩
theorem Rf.below {w w' : World} {R : Nat} {bs : List Nat} {d : Dk} (h : Rf w R bs d) (k : Below w.heap.size w w') : Rf w' R bs d := h.tn (Tn.of_below k []) (fun _ _ => by simp)
theorem RTurns.refl {w : World} {R : Nat} {bs : List Nat} {d : Dk} (h : Rf w R bs d) : RTurns w w R bs d := ⟨bs, h, Tn.refl _ _, fun b hb => .inl hb⟩
theorem RTurns.trans {w w1 w2 : World} {R : Nat} {bs : List Nat} {d1 d2 : Dk} (h : RTurns w w1 R bs d1) (k : ∀ bs1, Rf w1 R bs1 d1 → RTurns w1 w2 R bs1 d2) : RTurns w w2 R bs d2 := by
  obtain ⟨bs1, h1, t1, s1⟩ := h
  obtain ⟨bs2, h2, t2, s2⟩ := k bs1 h1
  refine ⟨bs2, h2, t1.trans t2 s1, fun b hb => ?_⟩
  rcases s2 b hb with h | h
  · exact s1 b h
  · exact .inr (Nat.le_trans t1.size h)

set_option maxHeartbeats 1000000 in
theorem rsectors {w : World} {R : Nat} {bs : List Nat} {d : Dk} (h : Rf w R bs d) : Calls Try.prog 40 #[.pointer (some ⟨R, 0, none⟩)] w fun e w' => e = .returned (.int .i64 d.n) ∧ w' = w := by
  obtain ⟨N, S, D, cN, cS, p, c, kk, kb, -, h⟩ := h
  obtain ⟨c0, -⟩ := h.cells
  clear h
  go_enter Try.func40, Try.ntmps40
  go_wp2
  go_ret
  exact ⟨rfl, rfl⟩

set_option maxHeartbeats 1000000 in
theorem rdown {w : World} {R : Nat} {bs : List Nat} {d : Dk} (h : Rf w R bs d) : Calls Try.prog 14 #[.pointer (some ⟨R, 0, none⟩)] w fun e w' => e = .returned (.bool d.down) ∧ w' = w := by
  obtain ⟨N, S, D, cN, cS, p, c, kk, kb, -, h⟩ := h
  obtain ⟨-, -, -, -, -, -, c6⟩ := h.cells
  clear h
  go_enter Try.func14, Try.ntmps14
  go_wp2
  go_ret
  exact ⟨rfl, rfl⟩

set_option maxHeartbeats 1000000 in
theorem rcalls {w : World} {R : Nat} {bs : List Nat} {d : Dk} (h : Rf w R bs d) : Calls Try.prog 16 #[.pointer (some ⟨R, 0, none⟩)] w fun e w' => e = .returned (.int .i64 d.calls) ∧ w' = w := by
  obtain ⟨N, S, D, cN, cS, p, c, kk, kb, -, h⟩ := h
  obtain ⟨-, -, -, -, -, c5, -⟩ := h.cells
  clear h
  go_enter Try.func16, Try.ntmps16
  go_wp2
  go_ret
  exact ⟨rfl, rfl⟩

set_option maxHeartbeats 1000000 in
theorem rat {w : World} {R : Nat} {bs : List Nat} {d : Dk} (h : Rf w R bs d) (i : Nat) (hi : i < d.n) : Calls Try.prog 41 #[.pointer (some ⟨R, 0, none⟩), .int .i64 (i : Int)] w fun e w' => e = .returned (.string (strOfNums (d.last i))) ∧ w' = w := by
  obtain ⟨N, S, D, cN, cS, p, c, kk, kb, -, h⟩ := h
  obtain ⟨c0, -⟩ := h.cells
  obtain ⟨cn, -⟩ := h.now.cell hi
  have hii : (i : Int) < (d.n : Int) := by omega
  clear h
  go_enter Try.func41, Try.ntmps41
  go_wp2
  go_ret
  exact ⟨rfl, rfl⟩

set_option maxHeartbeats 2000000 in
theorem rmay {w : World} {R : Nat} {bs : List Nat} {d : Dk} (h : Rf w R bs d) (i : Int) : Calls Try.prog 51 #[.pointer (some ⟨R, 0, none⟩), .int .i64 i] w fun e w' => e = .returned (.int .i64 (d.reach i)) ∧ w' = w := by
  obtain ⟨N, S, D, cN, cS, p, c, kk, kb, -, h⟩ := h
  obtain ⟨c0, -, -, -, -, -, c6⟩ := h.cells
  clear h
  cases hd : d.down
  · rw [hd] at c6
    by_cases h1 : i < 0
    · go_enter Try.func51, Try.ntmps51
      go_wp2
      go_ret
      exact ⟨by simp [Dk.reach, hd, h1], rfl⟩
    · by_cases h2 : (d.n : Int) ≤ i
      · go_enter Try.func51, Try.ntmps51
        go_wp2
        go_ret
        exact ⟨by simp [Dk.reach, hd, h2], rfl⟩
      · go_enter Try.func51, Try.ntmps51
        go_wp2
        go_ret
        exact ⟨by simp [Dk.reach, hd, h1, h2], rfl⟩
  · rw [hd] at c6
    go_enter Try.func51, Try.ntmps51
    go_wp2
    go_ret
    exact ⟨by simp [Dk.reach, hd], rfl⟩

end Go.Proofs.Ytpggnejifpcnmaa
