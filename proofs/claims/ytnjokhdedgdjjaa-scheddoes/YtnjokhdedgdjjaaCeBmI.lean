/- Boxes of int: what is put and taken, how many wait, a clone. -/
import Derived.Test.YtnjokhdedgdjjaaCeBI
namespace Go.Proofs.Ytnjokhdedgdjjaa
open Go.RowKit Go.Conc
set_option linter.unusedVariables false
set_option maxRecDepth 100000

theorem put_anyI {w : World} {B c room : Nat} {bs : List Nat} {xs : List Int} (h : BxI w B c room bs xs) (x : Int) (hr : xs.length < room) :
    Calls Try.prog 53 #[.pointer (some ⟨B, 0, none⟩), (.int .i64 x)] w fun e w' => e = .returned (.int .i64 0) ∧ (∃ b, BxI w' B c room (bs ++ [b]) (xs ++ [x])) ∧ Tn [c] w w' := by
  have ht : Below w.heap.size w (w.alloc (.cells #[.int .i64 x] 3)) := (Below.refl _ w).alloc (Nat.le_refl _) _
  obtain ⟨w0, hw0⟩ : ∃ w0, w.alloc (.cells #[.int .i64 x] 3) = w0 := ⟨_, rfl⟩
  have h1 : BxI w0 B c room bs xs := hw0 ▸ h.below ht
  have hk : Bk w0 w.heap.size 3 #[.int .i64 x] := hw0 ▸ Bk.new w _ _
  rw [hw0] at ht
  have c0 := h1.chan
  have H1 : Hid (BxI w0 B c room bs xs ∧ Bk w0 w.heap.size 3 #[.int .i64 x] ∧ Below w.heap.size w w0) := ⟨h1, hk, ht⟩
  clear h h1 hk ht
  go_enter Try.func53, Try.ntmps53
  go_wp2_with fail
  refine (bmade_anyI c0).mono ?_
  rintro e w1 ⟨rfl, rfl⟩
  go_wp2_with fail
  refine (push_anyI H1.out.1 H1.out.2.1 hr).mono ?_
  rintro e w2 ⟨rfl, hb, t⟩
  have HE : Hid ((∃ b, BxI w2 B c room (bs ++ [b]) (xs ++ [x])) ∧ Tn [c] w w2) := ⟨⟨_, hb⟩, (Tn.of_below H1.out.2.2 [c]).trans t (by simp)⟩
  clear hb t
  go_wp2
  go_ret
  exact ⟨rfl, HE.out⟩

theorem put_fullI {w : World} {B c room : Nat} {bs : List Nat} {xs : List Int} (h : BxI w B c room bs xs) (x : Int) (hr : room ≤ xs.length) :
    Calls Try.prog 53 #[.pointer (some ⟨B, 0, none⟩), (.int .i64 x)] w fun e w' => e = .returned (.int .i64 5) ∧ BxI w' B c room bs xs ∧ Below w.heap.size w w' := by
  have ht : Below w.heap.size w (w.alloc (.cells #[.int .i64 x] 3)) := (Below.refl _ w).alloc (Nat.le_refl _) _
  obtain ⟨w0, hw0⟩ : ∃ w0, w.alloc (.cells #[.int .i64 x] 3) = w0 := ⟨_, rfl⟩
  have h1 : BxI w0 B c room bs xs := hw0 ▸ h.below ht
  rw [hw0] at ht
  have c0 := h1.chan
  have H1 : Hid (BxI w0 B c room bs xs ∧ Below w.heap.size w w0) := ⟨h1, ht⟩
  clear h h1 ht
  go_enter Try.func53, Try.ntmps53
  go_wp2_with fail
  refine (bmade_anyI c0).mono ?_
  rintro e w1 ⟨rfl, rfl⟩
  go_wp2_with fail
  refine (push_noI H1.out.1 _ hr).mono ?_
  rintro e w2 ⟨rfl, rfl⟩
  go_wp2
  go_ret
  exact ⟨rfl, H1.out⟩

theorem take_anyI {w : World} {B c room b : Nat} {x : Int} {bs : List Nat} {xs : List Int} (h : BxI w B c room (b :: bs) (x :: xs)) :
    Calls Try.prog 37 #[.pointer (some ⟨B, 0, none⟩)] w fun e w' => e = .returned (.tuple #[(.int .i64 x), .int .i64 0]) ∧ BxI w' B c room bs xs ∧ Tn [c] w w' := by
  have c0 := h.chan
  have H1 : Hid (BxI w B c room (b :: bs) (x :: xs)) := h
  clear h
  go_enter Try.func37, Try.ntmps37
  go_wp2_with fail
  refine (bmade_anyI c0).mono ?_
  rintro e w1 ⟨rfl, rfl⟩
  go_wp2_with fail
  refine (pull_anyI H1.out).mono ?_
  rintro e w2 ⟨rfl, hb, t⟩
  have hk : Bk w2 b 3 #[.int .i64 x] := by
    have := H1.out.el 0 b x rfl rfl
    exact this.tn t (by simpa using H1.out.ch.ne this)
  have k0 := hk.cell 0
  have HE : Hid (BxI w2 B c room bs xs ∧ Tn [c] w1 w2) := ⟨hb, t⟩
  clear hb t hk c0
  simp at k0
  go_wp2
  go_ret2
  exact ⟨rfl, HE.out⟩

theorem take_noneI {w : World} {B c room : Nat} {bs : List Nat} (h : BxI w B c room bs []) :
    Calls Try.prog 37 #[.pointer (some ⟨B, 0, none⟩)] w fun e w' => e = .returned (.tuple #[(.int .i64 0), .int .i64 4]) ∧ w' = w := by
  have c0 := h.chan
  have H1 : Hid (BxI w B c room bs []) := h
  clear h
  go_enter Try.func37, Try.ntmps37
  go_wp2_with fail
  refine (bmade_anyI c0).mono ?_
  rintro e w1 ⟨rfl, rfl⟩
  go_wp2_with fail
  refine (pull_noI H1.out).mono ?_
  rintro e w2 ⟨rfl, rfl⟩
  go_wp2
  go_ret2
  exact ⟨rfl, rfl⟩


theorem blen_anyI {w : World} {B c room : Nat} {bs : List Nat} {xs : List Int} (h : BxI w B c room bs xs) (n : Nat) (hn : n = xs.length) :
    Calls Try.prog 34 #[.pointer (some ⟨B, 0, none⟩)] w fun e w' => e = .returned (.int .i64 (n : Int)) ∧ w' = w := by
  have c0 := h.chan
  obtain ⟨s, r, hc⟩ := h.ch
  have hl := fun ty => run_len_chan (P := Try.prog) 86 ty Try.underlying86 hc
  rw [bufC_sizeI, h.len, ← hn] at hl
  clear h hn hc
  go_enter Try.func34, Try.ntmps34
  go_wp2_with fail
  refine (bmade_anyI c0).mono ?_
  rintro e w1 ⟨rfl, rfl⟩
  go_wp2
  go_ret
  exact ⟨rfl, rfl⟩

theorem broom_anyI {w : World} {B c room : Nat} {bs : List Nat} {xs : List Int} (h : BxI w B c room bs xs) :
    Calls Try.prog 35 #[.pointer (some ⟨B, 0, none⟩)] w fun e w' => e = .returned (.int .i64 (room : Int)) ∧ w' = w := by
  have c0 := h.chan
  obtain ⟨s, r, hc⟩ := h.ch
  have hl := fun ty => run_cap_chan (P := Try.prog) 86 ty Try.underlying86 hc
  clear h hc
  go_enter Try.func35, Try.ntmps35
  go_wp2_with fail
  refine (bmade_anyI c0).mono ?_
  rintro e w1 ⟨rfl, rfl⟩
  go_wp2
  go_ret
  exact ⟨rfl, rfl⟩

theorem rot {α : Type} (l : List α) {j : Nat} (hj : j < l.length) : ∃ x, l[j]? = some x ∧ l.drop j ++ l.take j = x :: (l.drop (j + 1) ++ l.take j) ∧ (l.drop (j + 1) ++ l.take j) ++ [x] = l.drop (j + 1) ++ l.take (j + 1) ∧ l.take j ++ [x] = l.take (j + 1) := by
  have e : l.take j ++ [l[j]] = l.take (j + 1) := by rw [List.take_add_one, List.getElem?_eq_getElem hj]; rfl
  refine ⟨l[j], List.getElem?_eq_getElem hj, ?_, ?_, e⟩
  · rw [List.drop_eq_getElem_cons hj]; rfl
  · rw [List.append_assoc, e]

/-- Where a clone stands behind so many rounds: each one goes round to the end, and to the clone. -/
structure ClI (w wr : World) (B c B' c' room : Nat) (bs : List Nat) (xs : List Int) (j : Nat) : Prop where
  one : BxI wr B c room (bs.drop j ++ bs.take j) (xs.drop j ++ xs.take j)
  two : BxI wr B' c' room (bs.take j) (xs.take j)
  tn : Tn [c] w wr
  new : w.heap.size ≤ c'

end Go.Proofs.Ytnjokhdedgdjjaa
