/- The ranges that are not empty, by where they begin; whether there is a text between two. -/
import Derived.Test.YtgppnbcneknpdaaKySort
import Derived.Shelf.SlSortCmp.NoneTotal
namespace Go.Proofs.Ytgppnbcneknpdaa
open Go.RowKit Go.Shelf
set_option linter.unusedVariables false
set_option maxRecDepth 100000

theorem sortNone_any (c : Nat) (fv : Value) (w : World) : Calls Try.prog 45 #[.slice none 0 c, fv] w fun e w' => e = .returned (.tuple #[]) ∧ w' = w := by
  have h := AnyF.slices_SortFunc_none Try.kySort none c fv w
  change Calls Try.prog 45 _ _ _ at h
  exact h

theorem Ky.full_le (l : List Rg) : (Ky.full l).length ≤ l.length := List.length_filter_le _ _

set_option maxHeartbeats 1000000 in
theorem rising_any (p : Option Addr) (len cap : Nat) (l : List Rg) (w : World) (hlen : l.length = len) (hx : Rgs w p l) (hl : len ≤ 4398046511104) (hp : p = none → len = 0) :
    Calls Try.prog 33 #[.slice p len cap] w fun e w' => ∃ p' c' l', e = .returned (.slice p' l'.length c') ∧ Rgs w' p' l' ∧ l'.Perm (Ky.full l) ∧ Ky.Sorted l' ∧ Below w.heap.size w w' := by
  go_enter Try.func33, Try.ntmps33
  go_wp2_with fail
  refine (clone_any p len cap l _ hlen hx hl hp).mono ?_
  rintro e w1 ⟨v1, rfl, ho1, hb1⟩
  have HB1 : Hid (Below w.heap.size w w1) := hb1
  have HO1 : Hid (OwnR w1 w.heap.size v1 l) := ho1
  have HLL : Hid (l.length ≤ 4398046511104) := by unfold Hid; omega
  clear hb1 ho1 hx
  go_wp2_with fail
  refine (delete_any v1 l w.heap.size _ HO1.out HLL.out).mono ?_
  rintro e w2 h
  rcases h with ⟨rfl, hf, ht⟩ | ⟨g, c, rfl, hg, hgl, hc, hr, ht⟩
  · have HB2 : Hid (Below w.heap.size w w2) := HB1.out.trans (ht.below HB1.out.size (by simp))
    have HF : Hid (Ky.full l = []) := hf
    clear hf ht
    go_wp2_with fail
    refine (sortNone_any _ _ _).mono ?_
    rintro e w3 ⟨rfl, rfl⟩
    go_wp2
    go_ret
    refine ⟨none, 0, [], rfl, Rgs.nil _ _, ?_, ?_, HB2.out⟩
    · rw [HF.out]
    · intro i j x y _ hi
      simp at hi
  · have HB2 : Hid (Below w.heap.size w w2) := HB1.out.trans (ht.below HB1.out.size (by simp; omega))
    have HG : Hid (w.heap.size ≤ g) := hg
    have HR : Hid (Row w2 g (Ky.full l)) := hr
    have HGT : Hid (g < w2.heap.size) := Nat.lt_of_lt_of_le hgl ht.size
    clear hgl
    have hfl := Ky.full_le l
    clear hg hr ht
    go_wp2_with fail
    refine (sort_any g c (Ky.full l) _ HR.out HGT.out (by have := HLL.out; omega)).mono ?_
    rintro e w3 ⟨rfl, l', hp, hs, hr3, ht3⟩
    have HB3 : Hid (Below w.heap.size w w3) := HB2.out.trans (ht3.below HB2.out.size (by have := HG.out; simpa using this))
    have hpl := hp.length_eq
    rw [← hpl]
    have HP : Hid (l'.Perm (Ky.full l)) := hp
    have HS : Hid (Ky.Sorted l') := hs
    have HR3 : Hid (Row w3 g l') := hr3
    clear hp hs hr3 ht3 hc hfl hpl
    go_wp2
    go_ret
    exact ⟨some ⟨g, 0, none⟩, c, l', rfl, HR3.out.rgs, HP.out, HS.out, HB3.out⟩

def Ky.apart (a b : Rg) : Bool := !Ky.nil a.hi && Ky.lt a.hi b.lo

theorem apart_any (a b : Rg) (w : World) : Calls Try.prog 34 #[a.val, b.val] w fun e w' => e = .returned (.bool (Ky.apart a b)) ∧ Below w.heap.size w w' := by
  have HI : Hid (Ky.apart a b = (!a.hi.toList.isEmpty && Op.bytesLess a.hi.toList b.lo.toList)) := rfl
  have hb : Below w.heap.size w ((w.alloc (.cells #[.string a.lo, .string a.hi] 24)).alloc (.cells #[.string b.lo, .string b.hi] 24)) := ((Below.refl _ _).alloc (Nat.le_refl _) _).alloc (by simp) _
  have HB : Hid _ := hb
  clear hb
  cases h2 : a.hi.toList.isEmpty with
  | true =>
    rw [h2] at HI
    go_enter Try.func34, Try.ntmps34
    go_wp2
    go_ret
    exact ⟨by rw [HI.out]; rfl, HB.out⟩
  | false =>
    rw [h2] at HI
    go_enter Try.func34, Try.ntmps34
    go_wp2
    all_goals go_ret
    all_goals exact ⟨by rw [HI.out]; simp, HB.out⟩
end Go.Proofs.Ytgppnbcneknpdaa
