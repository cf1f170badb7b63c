/- What Chunks hands back; told. -/
import Derived.Test.YtcoibnlecdemcaaImCu
import Derived.Test.YtcoibnlecdemcaaImTl
namespace Go.Proofs.Ytcoibnlecdemcaa
open Go.RowKit Go.Shelf
set_option linter.unusedVariables false
set_option maxRecDepth 100000

/-- A function value that goes through chunks: its box, and what it reads. -/
structure Fc (W : World) (pB : Nat) (S : List Nat) (L : List St) : Prop where
  ex : ∃ b, Bk W pB 65 #[.func (.func 50) #[] #[.pointer (some ⟨b, 0, none⟩)]] ∧ Fi W b S L
theorem Fc.below {W W' : World} {pB : Nat} {S : List Nat} {L : List St} (h : Fc W pB S L) (hb : Below W.heap.size W W') : Fc W' pB S L := by
  obtain ⟨b, k, f⟩ := h.ex
  exact ⟨b, k.below hb k.lt, f.kp (KpP.of_below hb f.lt)⟩

theorem cut1_T {w : World} {pB : Nat} {S : List Nat} {L : List St} (h : Fc w pB S L) : SeqT 8 Try.prog 72 #[.pointer (some ⟨pB, 0, none⟩)] encC S Cd.blk Cd.Dt (Cc.First L) (Cc.Whole L) w := by
  intro l J W hW hJ hT hY h0
  obtain ⟨b, k, f⟩ := (h.below hW).ex
  exact cut1_in f.reach hJ hT hY h0 k f

theorem cut_any (w : World) (b : Nat) : Calls Try.prog 52 #[.func (.func 50) #[] #[.pointer (some ⟨b, 0, none⟩)]] w fun e w' => e = .returned (.func (.func 72) #[] #[.pointer (some ⟨w.heap.size, 0, none⟩)]) ∧ Bk w' w.heap.size 65 #[.func (.func 50) #[] #[.pointer (some ⟨b, 0, none⟩)]] ∧ Below w.heap.size w w' := by
  obtain ⟨w1, hw1⟩ : ∃ w1, w.alloc (.cells #[.func (.func 50) #[] #[.pointer (some ⟨b, 0, none⟩)]] 65) = w1 := ⟨_, rfl⟩
  have hb1 : Below w.heap.size w w1 := by rw [← hw1]; exact (Below.refl _ _).alloc (Nat.le_refl _) _
  have kb : Bk w1 w.heap.size 65 #[.func (.func 50) #[] #[.pointer (some ⟨b, 0, none⟩)]] := by rw [← hw1]; exact Bk.new _ _ _
  have HB : Hid (Below w.heap.size w w1 ∧ Bk w1 w.heap.size 65 #[.func (.func 50) #[] #[.pointer (some ⟨b, 0, none⟩)]]) := ⟨hb1, kb⟩
  clear hb1 kb
  go_enter Try.func52, Try.ntmps52
  go_wp2
  go_ret
  exact ⟨rfl, HB.out.2, HB.out.1⟩

theorem chunks_any {w : World} {base B : Nat} {v : Value} {m : Im} (h : IsIm w base B v m) (hr : m.list.length ≤ 4398046511104) :
    Calls Try.prog 30 #[.pointer (some ⟨B, 0, none⟩)] w fun e w' => ∃ pB S, e = .returned (.func (.func 72) #[] #[.pointer (some ⟨pB, 0, none⟩)]) ∧ Fc w' pB S m.list ∧ (∀ x ∈ S, w.heap.size ≤ x ∨ v.ownBlock = some x) ∧ Below w.heap.size w w' := by
  have hmade := isMade_any h
  have hp := pairs_any h hr
  clear h hr
  go_enter Try.func30, Try.ntmps30
  go_wp2_with fail
  refine hmade.mono ?_
  rintro e w1 ⟨rfl, rfl⟩
  go_wp2_with fail
  refine hp.mono ?_
  rintro e w2 ⟨b, S, rfl, hF, hS, hb2⟩
  have HS : Hid (∀ x ∈ S, w1.heap.size ≤ x ∨ v.ownBlock = some x) := hS
  have HF : Hid (Fi w2 b S m.list ∧ Below w1.heap.size w1 w2) := ⟨hF, hb2⟩
  clear hp hmade hF hb2 hS
  go_wp2_with fail
  refine (cut_any w2 b).mono ?_
  rintro e w3 ⟨rfl, kb, hb3⟩
  have HC : Hid (Fc w3 w2.heap.size S m.list ∧ Below w1.heap.size w1 w3) := ⟨⟨b, kb, HF.out.1.kp (KpP.of_below hb3 HF.out.1.lt)⟩, HF.out.2.trans (hb3.mono HF.out.2.size)⟩
  clear kb hb3
  go_wp2
  go_ret
  exact ⟨_, S, rfl, HC.out.1, HS.out, HC.out.2⟩

theorem told_any {w : World} {base B : Nat} {v : Value} {m : Im} (h : IsIm w base B v m) (hr : m.list.length ≤ 4398046511104) {q : Option Addr} {n c : Nat} (hn : m.list.length = n) (hx : Sts w q m.list) (stop : Int) :
    Calls Try.prog 17 #[.pointer (some ⟨B, 0, none⟩), .slice q n c, .int .i64 stop] w fun e w' => e = .returned (.bool true) ∧ Below w.heap.size w w' := by
  have HI : Hid (IsIm w base B v m) := h
  have HX : Hid (Sts w q m.list ∧ m.list.length = n) := ⟨hx, hn⟩
  have hp := pairs_any h hr
  clear h hx hn
  go_enter Try.func17, Try.ntmps17
  go_wp2_with fail
  refine hp.mono ?_
  rintro e w1 ⟨b, S, rfl, hF, -, hb1⟩
  have HF : Hid (Fi w1 b S m.list ∧ Below w.heap.size w w1) := ⟨hF, hb1⟩
  have h1 := lpairs_any hF (c := c) HX.out.2 (Els.below HX.out.1 hb1 (Nat.le_refl _)) stop
  clear hp hF hb1
  go_wp2_with fail
  refine h1.mono ?_
  rintro e w2 ⟨rfl, hb2⟩
  have HB2 : Hid (Below w.heap.size w w2) := HF.out.2.trans (hb2.mono HF.out.2.size)
  have h2 := lpairs_any (HF.out.1.kp (KpP.of_below hb2 HF.out.1.lt)) (c := c) HX.out.2 (Els.below HX.out.1 HB2.out (Nat.le_refl _)) 0
  clear h1 hb2
  go_wp2_with fail
  refine h2.mono ?_
  rintro e w3 ⟨rfl, hb3⟩
  have HB3 : Hid (Below w.heap.size w w3) := HB2.out.trans (hb3.mono HB2.out.size)
  have h3 := imlen_any (HI.out.below HB3.out)
  have hnn := HX.out.2
  clear h2 hb3
  go_wp2_with fail
  refine h3.mono ?_
  rintro e w4 ⟨rfl, hw4⟩
  subst hw4
  clear h3
  go_wp2
  go_ret
  exact ⟨by simp, HB3.out⟩
end Go.Proofs.Ytcoibnlecdemcaa
