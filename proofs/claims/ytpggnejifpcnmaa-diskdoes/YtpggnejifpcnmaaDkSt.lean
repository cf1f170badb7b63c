/- Disks: their state, how it lies in memory, and the small calls. -/
import Derived.Test.YtpggnejifpcnmaaDkOps
namespace Go.Proofs.Ytpggnejifpcnmaa
open Go.RowKit Go.Maps
set_option linter.unusedVariables false

/-- What a disk is. -/
structure Dk where
  n : Nat
  sure : Nat → List Int
  dirty : Nat → Option (List Int)
  calls : Int
  down : Bool
  left : Int
  keep : List Bool
  cs : Nat

/-- What was written last. -/
def Dk.last (d : Dk) (i : Nat) : List Int := (d.dirty i).getD (d.sure i)

/-- The cells of the sure sectors. -/
def SureAt (cur : Array Value) (n : Nat) (f : Nat → List Int) : Prop := n * 512 ≤ cur.size ∧ ∀ i, i < n → ∀ j, j < 512 → cur[i * 512 + j]? = some (.int .u8 ((f i).getD j 0))

/-- Bools that a slice leads to. -/
def Bls (w : World) (p : Option Addr) (ks : List Bool) : Prop :=
  0 < ks.length → ∃ b o, p = some ⟨b, o, none⟩ ∧ ∀ i, i < ks.length → w.cell? ⟨b, o + i, none⟩ = some (.bool (ks.getD i false))

theorem Bls.nil (w : World) (p : Option Addr) : Bls w p [] := fun h => absurd h (Nat.lt_irrefl 0)

theorem Bls.below {w w' : World} {p : Option Addr} {ks : List Bool} (h : Bls w p ks) {B : Nat} (hb : Below B w w') (hB : w.heap.size ≤ B) : Bls w' p ks := by
  intro hl
  obtain ⟨b, o, rfl, hc⟩ := h hl
  refine ⟨b, o, rfl, fun i hi => ?_⟩
  have hh := hc i hi
  rw [hb.cell (p := ⟨b, o + i, none⟩) (Nat.lt_of_lt_of_le (World.block_lt_of_cell? w _ hh) hB)]
  exact hh

theorem Tn.cell {S : List Nat} {w w' : World} (h : Tn S w w') {b o : Nat} {v : Value} (hc : w.cell? ⟨b, o, none⟩ = some v) (hb : b ∉ S) : w'.cell? ⟨b, o, none⟩ = some v := by
  rw [World.cell?_of_block (w := w) (h.block b (World.block_lt_of_cell? w _ hc) hb)]
  exact hc

theorem Bls.tn {S : List Nat} {w w' : World} {p : Option Addr} {ks : List Bool} (h : Bls w p ks) (hb : Tn S w w') (hS : ∀ ad, p = some ad → 0 < ks.length → ad.block ∉ S) : Bls w' p ks := by
  intro hl
  obtain ⟨b, o, rfl, hc⟩ := h hl
  exact ⟨b, o, rfl, fun i hi => hb.cell (hc i hi) (hS _ rfl hl)⟩

structure IsDk (w : World) (B S M : Nat) (p : Option Addr) (c : Nat) (kb : List Nat) (d : Dk) : Prop where
  blk : Bk w B 62 #[.slice (some ⟨S, 0, none⟩) d.n d.cs, .map (some M), .int .i64 d.calls, .bool d.down, .int .i64 d.left, .slice p d.keep.length c]
  sure : ∃ cur, Bk w S 79 cur ∧ SureAt cur d.n d.sure
  map : w.ownsMap Try.prog 3 secElem M d.n (datum d.dirty d.n)
  keep : Bls w p d.keep
  kbs : ∀ ad, p = some ad → 0 < d.keep.length → ad.block ∈ kb
  kne : B ∉ kb ∧ S ∉ kb ∧ M ∉ kb
  klt : ∀ b ∈ kb, b < w.heap.size
  n1 : 1 ≤ d.n
  n2 : d.n ≤ 16384
  secS : ∀ i, i < d.n → Sec (d.sure i)
  secD : ∀ i x, d.dirty i = some x → Sec x
  lowD : ∀ i, d.n ≤ i → d.dirty i = none
  left : 0 ≤ d.left ∧ d.left ≤ 9223372036854775807
  knil : p = none → d.keep.length = 0 ∧ c = 0
  kcap : d.keep.length ≤ c

/-- A disk, and the blocks that are its. -/
def Dsk (w : World) (B : Nat) (bs : List Nat) (d : Dk) : Prop := ∃ S M p c kb, bs = B :: S :: M :: kb ∧ IsDk w B S M p c kb d

/-- What has become of a disk. -/
def Turns (w w' : World) (B : Nat) (bs : List Nat) (d : Dk) : Prop := ∃ bs', Dsk w' B bs' d ∧ Tn bs w w' ∧ ∀ b ∈ bs', b ∈ bs ∨ w.heap.size ≤ b

theorem IsDk.ne_bs {w : World} {B S M : Nat} {p : Option Addr} {c : Nat} {kb : List Nat} {d : Dk} (h : IsDk w B S M p c kb d) : B ≠ S ∧ B ≠ M ∧ S ≠ M := by
  obtain ⟨cur, hs, hz⟩ := h.sure
  obtain ⟨es, cl, hm, _⟩ := h.map
  refine ⟨?_, ?_, ?_⟩
  · rintro rfl
    have e : Bk w B _ _ := h.blk
    unfold Bk at e hs
    rw [e] at hs
    simp only [Option.some.injEq, Obj.cells.injEq] at hs
    have := hz.1
    rw [← hs.1] at this
    simp at this
    have := h.n1
    omega
  · rintro rfl
    have e : Bk w B _ _ := h.blk
    unfold Bk at e
    rw [e] at hm
    cases hm
  · rintro rfl
    unfold Bk at hs
    rw [hs] at hm
    cases hm

theorem IsDk.lt {w : World} {B S M : Nat} {p : Option Addr} {c : Nat} {kb : List Nat} {d : Dk} (h : IsDk w B S M p c kb d) : ∀ b ∈ B :: S :: M :: kb, b < w.heap.size := by
  intro b hb
  obtain ⟨cur, hs, hz⟩ := h.sure
  simp only [List.mem_cons] at hb
  rcases hb with rfl | rfl | rfl | hb
  · exact h.blk.lt
  · exact hs.lt
  · exact h.map.lt
  · exact h.klt b hb

theorem Dsk.lt {w : World} {B : Nat} {bs : List Nat} {d : Dk} (h : Dsk w B bs d) : ∀ b ∈ bs, b < w.heap.size := by
  obtain ⟨S, M, p, c, kb, rfl, h⟩ := h
  exact h.lt

theorem owns_tn {S : List Nat} {w w' : World} {M n : Nat} {D : DataW (List Int)} (h : w.ownsMap Try.prog 3 secElem M n D) (k : Tn S w w') (hM : M ∉ S) : w'.ownsMap Try.prog 3 secElem M n D := by
  have hlt := h.lt
  obtain ⟨es, clock, hb, F, hs, hD⟩ := h
  exact ⟨es, clock, (k.block M hlt hM).trans hb, F, hs, hD⟩

theorem IsDk.tn {w w' : World} {B S M : Nat} {p : Option Addr} {c : Nat} {kb : List Nat} {d : Dk} (h : IsDk w B S M p c kb d) {T : List Nat} (k : Tn T w w') (hT : ∀ b ∈ B :: S :: M :: kb, b ∉ T) : IsDk w' B S M p c kb d := by
  obtain ⟨cur, hs, hz⟩ := h.sure
  exact { h with
    blk := h.blk.tn k (hT _ (by simp))
    sure := ⟨cur, hs.tn k (hT _ (by simp)), hz⟩
    map := owns_tn h.map k (hT _ (by simp))
    keep := h.keep.tn k (fun ad ha hl => hT _ (by simp [h.kbs ad ha hl]))
    klt := fun b hb => Nat.lt_of_lt_of_le (h.klt b hb) k.size }

theorem Dsk.tn {w w' : World} {B : Nat} {bs : List Nat} {d : Dk} (h : Dsk w B bs d) {T : List Nat} (k : Tn T w w') (hT : ∀ b ∈ bs, b ∉ T) : Dsk w' B bs d := by
  obtain ⟨S, M, p, c, kb, rfl, h⟩ := h
  exact ⟨S, M, p, c, kb, rfl, h.tn k hT⟩

theorem Dsk.below {w w' : World} {B : Nat} {bs : List Nat} {d : Dk} (h : Dsk w B bs d) (k : Below w.heap.size w w') : Dsk w' B bs d := h.tn (Tn.of_below k []) (fun _ _ => by simp)

/-- The cells of a disk, as the walk wants them. -/
theorem IsDk.cells {w : World} {B S M : Nat} {p : Option Addr} {c : Nat} {kb : List Nat} {d : Dk} (h : IsDk w B S M p c kb d) :
    w.cell? ⟨B, 0, none⟩ = some (.slice (some ⟨S, 0, none⟩) d.n d.cs) ∧ w.cell? ⟨B, 1, none⟩ = some (.map (some M)) ∧ w.cell? ⟨B, 2, none⟩ = some (.int .i64 d.calls) ∧ w.cell? ⟨B, 3, none⟩ = some (.bool d.down) ∧ w.cell? ⟨B, 4, none⟩ = some (.int .i64 d.left) ∧ w.cell? ⟨B, 5, none⟩ = some (.slice p d.keep.length c) := by
  refine ⟨?_, ?_, ?_, ?_, ?_, ?_⟩ <;> (rw [h.blk.cell]; rfl)

set_option maxHeartbeats 1000000 in
theorem made_any {w : World} {B : Nat} {bs : List Nat} {d : Dk} (h : Dsk w B bs d) : Calls Try.prog 35 #[.pointer (some ⟨B, 0, none⟩)] w fun e w' => e = .returned (.bool true) ∧ w' = w := by
  obtain ⟨S, M, p, c, kb, -, h⟩ := h
  obtain ⟨c0, -⟩ := h.cells
  have hn : 0 < d.n := h.n1
  clear h
  generalize d.n = n at *
  go_enter Try.func35, Try.ntmps35
  go_wp2
  go_ret
  exact ⟨rfl, rfl⟩

theorem made_nil (w : World) : Calls Try.prog 35 #[.pointer none] w fun e w' => e = .returned (.bool false) ∧ w' = w := by
  go_enter Try.func35, Try.ntmps35
  go_wp2
  go_ret
  exact ⟨rfl, rfl⟩

/-- Why nothing can be asked of a disk. -/
def Dk.ready (d : Dk) : Int := if d.down = true then 6 else 0

set_option maxHeartbeats 1000000 in
theorem ready_any {w : World} {B : Nat} {bs : List Nat} {d : Dk} (h : Dsk w B bs d) : Calls Try.prog 47 #[.pointer (some ⟨B, 0, none⟩)] w fun e w' => e = .returned (.int .i64 d.ready) ∧ w' = w := by
  have hm := made_any h
  obtain ⟨S, M, p, c, kb, -, h⟩ := h
  obtain ⟨-, -, -, c3, -, -⟩ := h.cells
  clear h
  go_enter Try.func47, Try.ntmps47
  go_wp2_with fail
  refine hm.mono ?_
  rintro e w1 ⟨rfl, rfl⟩
  clear hm
  cases hd : d.down <;> rw [hd] at c3
  · go_wp2
    go_ret
    exact ⟨by simp [Dk.ready, hd], rfl⟩
  · go_wp2
    go_ret
    exact ⟨by simp [Dk.ready, hd], rfl⟩

/-- .. of a sector. -/
def Dk.reach (d : Dk) (i : Int) : Int := if d.down = true then 6 else if i < 0 ∨ (d.n : Int) ≤ i then 20 else 0

set_option maxHeartbeats 1000000 in
theorem reach_any {w : World} {B : Nat} {bs : List Nat} {d : Dk} (h : Dsk w B bs d) (i : Int) : Calls Try.prog 44 #[.pointer (some ⟨B, 0, none⟩), .int .i64 i] w fun e w' => e = .returned (.int .i64 (d.reach i)) ∧ w' = w := by
  have hr := ready_any h
  obtain ⟨S, M, p, c, kb, -, h⟩ := h
  obtain ⟨c0, -, -, c3, -, -⟩ := h.cells
  clear h
  go_enter Try.func44, Try.ntmps44
  go_wp2_with fail
  refine hr.mono ?_
  rintro e w1 ⟨rfl, rfl⟩
  clear hr
  cases hd : d.down
  · rw [show d.ready = 0 by simp [Dk.ready, hd]]
    by_cases h1 : i < 0
    · go_wp2
      go_ret
      exact ⟨by simp [Dk.reach, hd, h1], rfl⟩
    · by_cases h2 : (d.n : Int) ≤ i
      · go_wp2
        go_ret
        exact ⟨by simp [Dk.reach, hd, h2], rfl⟩
      · go_wp2
        go_ret
        exact ⟨by simp [Dk.reach, hd, h1, h2], rfl⟩
  · rw [show d.ready = 6 by simp [Dk.ready, hd]]
    go_wp2
    go_ret
    exact ⟨by simp [Dk.reach, hd], rfl⟩

end Go.Proofs.Ytpggnejifpcnmaa
