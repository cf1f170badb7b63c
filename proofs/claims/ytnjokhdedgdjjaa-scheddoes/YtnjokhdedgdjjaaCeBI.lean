/- Boxes of int. -/
import Derived.Test.YtnjokhdedgdjjaaCePpI
import Derived.Handy
import Derived.BigQuiet
import Derived.Tactics2
import Derived.WalkSmall
import Derived.WalkLawsBesides
import Derived.Laws.Pointers
namespace Go.Proofs.Ytnjokhdedgdjjaa
open Go.RowKit Go.Conc
set_option linter.unusedVariables false
set_option maxRecDepth 100000

def bufCI (bs : List Nat) : Array Value := (bs.map fun b => Value.pointer (some ⟨b, 0, none⟩)).toArray
theorem bufC_sizeI (bs : List Nat) : (bufCI bs).size = bs.length := by simp [bufCI]
theorem bufC_pushI (bs : List Nat) (b : Nat) : (bufCI bs).push (.pointer (some ⟨b, 0, none⟩)) = bufCI (bs ++ [b]) := by simp [bufCI]
theorem bufC_tailI (bs : List Nat) (b : Nat) : (bufCI (b :: bs)).extract 1 (bufCI (b :: bs)).size = bufCI bs := by
  apply Array.ext'
  simp [bufCI]
  exact List.take_of_length_le (by simp)

/-- A box: its block, its channel, its room, what waits (where it lies, and what it is). -/
structure BxI (w : World) (B c room : Nat) (bs : List Nat) (xs : List Int) : Prop where
  blk : Bk w B 88 #[.chan (some c)]
  ch : Ch w c room (bufCI bs)
  len : bs.length = xs.length
  el : ∀ (i b : Nat) (x : Int), bs[i]? = some b → xs[i]? = some x → Bk w b 3 #[.int .i64 x]
  fits : xs.length ≤ room

theorem BxI.mem {w : World} {B c room : Nat} {bs : List Nat} {xs : List Int} (h : BxI w B c room bs xs) {b : Nat} (hb : b ∈ bs) : ∃ x : Int, Bk w b 3 #[.int .i64 x] := by
  obtain ⟨i, hi, rfl⟩ := List.getElem_of_mem hb
  exact ⟨xs[i]'(by rw [← h.len]; exact hi), h.el i _ _ (List.getElem?_eq_getElem hi) (List.getElem?_eq_getElem _)⟩

theorem BxI.tn {S : List Nat} {w w' : World} {B c room : Nat} {bs : List Nat} {xs : List Int} (h : BxI w B c room bs xs) (t : Tn S w w') (hB : B ∉ S) (hc : c ∉ S) (hb : ∀ b ∈ bs, b ∉ S) : BxI w' B c room bs xs :=
  ⟨h.blk.tn t hB, h.ch.tn t hc, h.len, fun i b x k1 k2 => (h.el i b x k1 k2).tn t (hb b (List.mem_of_getElem? k1)), h.fits⟩

theorem BxI.below {w w' : World} {B c room : Nat} {bs : List Nat} {xs : List Int} (h : BxI w B c room bs xs) (t : Below w.heap.size w w') : BxI w' B c room bs xs :=
  h.tn (Tn.of_below t []) (by simp) (by simp) (by simp)

/-- What turns another channel leaves a box as it is. -/
theorem BxI.other {w w' : World} {B c room c' r' : Nat} {b' : Array Value} {bs : List Nat} {xs : List Int} (h : BxI w B c room bs xs) (k : Ch w c' r' b') (hne : c ≠ c') (t : Tn [c'] w w') : BxI w' B c room bs xs :=
  h.tn t (by simpa using k.ne h.blk) (by simpa using hne) (fun b hb => by obtain ⟨x, hx⟩ := h.mem hb; simpa using k.ne hx)

theorem BxI.pushed {w : World} {B c room : Nat} {bs : List Nat} {xs : List Int} (h : BxI w B c room bs xs) {b : Nat} {x : Int} (k : Bk w b 3 #[.int .i64 x]) (hr : xs.length < room) (s r : Nat) :
    BxI (w.setChan c room ((bufCI bs).push (.pointer (some ⟨b, 0, none⟩))) false s r false) B c room (bs ++ [b]) (xs ++ [x]) ∧ Tn [c] w (w.setChan c room ((bufCI bs).push (.pointer (some ⟨b, 0, none⟩))) false s r false) := by
  rw [bufC_pushI]
  have t : Tn [c] w (w.setChan c room (bufCI (bs ++ [b])) false s r false) := (Tn.refl [c] w).setChan (.inl (by simp)) _ _ _ _ _ _
  refine ⟨⟨h.blk.tn t (by simpa using h.ch.ne h.blk), h.ch.set _ _ _, by simp [h.len], fun i b' x' k1 k2 => ?_, by simp; omega⟩, t⟩
  by_cases hi : i < bs.length
  · rw [List.getElem?_append_left hi] at k1
    rw [List.getElem?_append_left (by rw [← h.len]; exact hi)] at k2
    have := h.el i b' x' k1 k2
    exact this.tn t (by simpa using h.ch.ne this)
  · rw [List.getElem?_append_right (by omega)] at k1
    rw [List.getElem?_append_right (by rw [← h.len]; omega)] at k2
    rw [h.len] at k1
    match hq : i - xs.length with
    | 0 =>
      rw [hq] at k1 k2
      simp at k1 k2
      subst k1 k2
      exact k.tn t (by simpa using h.ch.ne k)
    | n + 1 => rw [hq] at k1; simp at k1

theorem BxI.pulled {w : World} {B c room b : Nat} {x : Int} {bs : List Nat} {xs : List Int} (h : BxI w B c room (b :: bs) (x :: xs)) (s r : Nat) :
    BxI (w.setChan c room ((bufCI (b :: bs)).extract 1 (bufCI (b :: bs)).size) false s r false) B c room bs xs ∧ Tn [c] w (w.setChan c room ((bufCI (b :: bs)).extract 1 (bufCI (b :: bs)).size) false s r false) := by
  rw [bufC_tailI]
  have t : Tn [c] w (w.setChan c room (bufCI bs) false s r false) := (Tn.refl [c] w).setChan (.inl (by simp)) _ _ _ _ _ _
  refine ⟨⟨h.blk.tn t (by simpa using h.ch.ne h.blk), h.ch.set _ _ _, by simpa using h.len, fun i b' x' k1 k2 => ?_, by have := h.fits; simp at this; omega⟩, t⟩
  have := h.el (i + 1) b' x' (by simpa using k1) (by simpa using k2)
  exact this.tn t (by simpa using h.ch.ne this)

theorem BxI.chan {w : World} {B c room : Nat} {bs : List Nat} {xs : List Int} (h : BxI w B c room bs xs) : w.cell? ⟨B, 0, none⟩ = some (.chan (some c)) := h.blk.cell 0

theorem push_anyI {w : World} {B c room : Nat} {bs : List Nat} {xs : List Int} (h : BxI w B c room bs xs) {b : Nat} {x : Int} (k : Bk w b 3 #[.int .i64 x]) (hr : xs.length < room) :
    Calls Try.prog 59 #[.pointer (some ⟨B, 0, none⟩), .pointer (some ⟨b, 0, none⟩)] w fun e w' => e = .returned (.int .i64 0) ∧ BxI w' B c room (bs ++ [b]) (xs ++ [x]) ∧ Tn [c] w w' := by
  obtain ⟨s, r, hc⟩ := h.ch
  refine (push_roomI (some ⟨b, 0, none⟩) h.chan hc (by rw [bufC_sizeI, h.len]; exact hr)).mono ?_
  rintro e w' ⟨rfl, rfl⟩
  exact ⟨rfl, h.pushed k hr _ _⟩

theorem push_noI {w : World} {B c room : Nat} {bs : List Nat} {xs : List Int} (h : BxI w B c room bs xs) (q : Option Addr) (hr : room ≤ xs.length) :
    Calls Try.prog 59 #[.pointer (some ⟨B, 0, none⟩), .pointer q] w fun e w' => e = .returned (.int .i64 5) ∧ w' = w := by
  obtain ⟨s, r, hc⟩ := h.ch
  exact push_fullI q h.chan hc (by rw [bufC_sizeI, h.len]; exact hr)

theorem pull_anyI {w : World} {B c room b : Nat} {x : Int} {bs : List Nat} {xs : List Int} (h : BxI w B c room (b :: bs) (x :: xs)) :
    Calls Try.prog 49 #[.pointer (some ⟨B, 0, none⟩)] w fun e w' => e = .returned (.tuple #[.pointer (some ⟨b, 0, none⟩), .int .i64 0]) ∧ BxI w' B c room bs xs ∧ Tn [c] w w' := by
  obtain ⟨s, r, hc⟩ := h.ch
  refine (pull_someI (q := some ⟨b, 0, none⟩) h.chan hc (by rw [bufC_sizeI]; simp) (by simp [bufCI])).mono ?_
  rintro e w' ⟨rfl, rfl⟩
  exact ⟨rfl, h.pulled _ _⟩

theorem pull_noI {w : World} {B c room : Nat} {bs : List Nat} (h : BxI w B c room bs []) :
    Calls Try.prog 49 #[.pointer (some ⟨B, 0, none⟩)] w fun e w' => e = .returned (.tuple #[.pointer none, .int .i64 4]) ∧ w' = w := by
  obtain ⟨s, r, hc⟩ := h.ch
  obtain rfl : bs = [] := List.eq_nil_of_length_eq_zero (by rw [h.len]; rfl)
  exact pull_noneI h.chan hc

theorem bmade_anyI {w : World} {B c : Nat} (h0 : w.cell? ⟨B, 0, none⟩ = some (.chan (some c))) : Calls Try.prog 47 #[.pointer (some ⟨B, 0, none⟩)] w fun e w' => e = .returned (.bool true) ∧ w' = w := by
  have hne : (binOp BinOp.neq 86 (.chan (some c)) (.chan none)).run Try.prog w = .ok (.bool true) w := by kernel_rfl
  go_enter Try.func47, Try.ntmps47
  go_wp2
  go_ret
  exact ⟨rfl, rfl⟩

theorem bytesCI : ∃ i, Try.prog.info? 89 = some i ∧ i.bytes = 8 := by
  have h : (Try.prog.info? 89).map (·.bytes) = some 8 := by kernel_rfl
  obtain ⟨i, hi, hb⟩ := Option.map_eq_some_iff.1 h
  exact ⟨i, hi, hb⟩
theorem mkCI (n : Nat) (h : n ≤ 4096) (w : World) : (Instr.makeChan 86 (.int .i64 (n : Int))).run Try.prog w = .ok (.chan (some w.heap.size)) (w.alloc (.chan n #[] false 0 0 false)) := by
  obtain ⟨i, hi, hb⟩ := bytesCI
  exact run_makeChan (P := Try.prog) (w := w) Try.underlying86 hi .i64 n (by omega) (by rw [hb]; omega)

theorem BxI.fresh (w : World) (n : Nat) : BxI ((w.alloc (.chan n #[] false 0 0 false)).alloc (.cells #[.chan (some w.heap.size)] 88)) (w.heap.size + 1) w.heap.size n [] [] ∧ Below w.heap.size w ((w.alloc (.chan n #[] false 0 0 false)).alloc (.cells #[.chan (some w.heap.size)] 88)) := by
  refine ⟨⟨?_, ?_, rfl, by simp, by simp⟩, ((Below.refl _ w).alloc (Nat.le_refl _) _).alloc (by simp) _⟩
  · have := Bk.new (w.alloc (.chan n #[] false 0 0 false)) 88 #[.chan (some w.heap.size)]
    simpa only [World.size_alloc] using this
  · exact (Ch.new w n).tn ((Tn.refl [] _).alloc _) (by simp)

theorem newBox_anyI (n : Nat) (h1 : 1 ≤ n) (h2 : n ≤ 4096) (w : World) : Calls Try.prog 26 #[.int .i64 (n : Int)] w fun e w' => e = .returned (.tuple #[.pointer (some ⟨w.heap.size + 1, 0, none⟩), .int .i64 0]) ∧ BxI w' (w.heap.size + 1) w.heap.size n [] [] ∧ Below w.heap.size w w' := by
  have HF : Hid _ := BxI.fresh w n
  have hmk := mkCI n h2
  have g1 : ¬ (n : Int) < 1 := by omega
  have g2 : ¬ (4096 : Int) < (n : Int) := by omega
  clear h1 h2
  go_enter Try.func26, Try.ntmps26
  go_wp2
  go_ret2
  exact ⟨rfl, HF.out⟩
end Go.Proofs.Ytnjokhdedgdjjaa
