/- slices.SortFunc by where ranges begin; rising. -/
import Derived.Test.YtgppnbcneknpdaaKyDel
import Derived.Test.YtgppnbcneknpdaaKyLay
import Derived.Shelf.SlSortCmp.WholeK
namespace Go.Proofs.Ytgppnbcneknpdaa
open Go.RowKit Go.Sort Go.Shelf Go.Lib
set_option linter.unusedVariables false
set_option maxRecDepth 100000

theorem Row.holds [Inhabited Rg] {w : World} {g : Nat} {l : List Rg} (h : Row w g l) : HoldsK Rg.cells 2 w g 0 l.toArray := by
  intro j hj
  rw [size_flatK] at hj
  have hj' : j < l.length * 2 := by simpa using hj
  have hi : j / 2 < l.length := by omega
  have hr := h _ _ (List.getElem?_eq_getElem hi)
  rw [get_flatK _ _ _ _ hj, Nat.zero_add]
  have e : l.toArray[j / 2]! = l[j / 2] := by rw [getElem!_pos l.toArray (j / 2) (by simpa using hi)]; simp
  rw [e]
  generalize l[j / 2] = x at hr
  generalize hq : j / 2 = q at hr
  by_cases hm : j = q * 2
  · have h0 : j % 2 = 0 := by omega
    rw [h0, hm]
    exact ⟨hr.1.1, hr.2.1⟩
  · have h0 : j % 2 = 1 := by omega
    rw [h0, show j = q * 2 + 1 by omega]
    exact ⟨hr.1.2, hr.2.2⟩

theorem Row.of_holds [Inhabited Rg] {w : World} {g : Nat} {d : Array Rg} (h : HoldsK Rg.cells 2 w g 0 d) : Row w g d.toList := by
  intro i x hi
  have hil : i < d.size := by have := (List.getElem?_eq_some_iff.1 hi).1; simpa using this
  have e : d[i]! = x := by
    rw [getElem!_pos d i hil]
    rw [Array.getElem?_toList, Array.getElem?_eq_getElem hil] at hi
    exact Option.some.inj hi
  have h0 := h.cell (i := i) (c := 0) hil (by decide)
  have h1 := h.cell (i := i) (c := 1) hil (by decide)
  rw [e] at h0 h1
  simp only [Nat.zero_add, Nat.add_zero] at h0 h1
  exact ⟨⟨h0.1, h1.1⟩, h0.2, h1.2⟩

theorem rising1_any (x y : Rg) (w : World) : Calls Try.prog 46 #[x.val, y.val] w fun e w' => e = .returned (.int .i64 (Ky.cmp x.lo y.lo)) ∧ ∃ q os', w' = grow (w.drewN q) os' := by
  go_enter Try.func46, Try.ntmps46
  go_wp2_with fail
  refine (compare_any x.lo y.lo _).mono ?_
  rintro e w1 ⟨rfl, rfl⟩
  go_wp2
  go_ret
  exact ⟨rfl, 0, _, by rw [alloc_eq_grow, alloc_eq_grow, grow_grow]; rfl⟩

theorem rising1_lays [Inhabited Rg] (blk off size : Nat) (w : World) : CmpLays Try.prog 46 #[] Rg.cells 2 (fun x y => Ky.cmp x.lo y.lo) blk off size w := fun _ _ _ _ x y => rising1_any x y _

theorem ltOf_lo (x y : Rg) : ltOf (fun x y : Rg => Ky.cmp x.lo y.lo) x y = Ky.lt x.lo y.lo := by
  unfold ltOf
  show decide (Ky.cmp x.lo y.lo < 0) = _
  rw [Ky.cmp_lt]
  cases Ky.lt x.lo y.lo with
  | true => rfl
  | false =>
    simp only [Bool.false_eq_true, if_false]
    split <;> rfl

theorem swo_lo : SWO (ltOf fun x y : Rg => Ky.cmp x.lo y.lo) where
  irrefl x := by rw [ltOf_lo]; exact Ky.lt_irrefl _
  trans x y z h1 h2 := by rw [ltOf_lo] at *; exact Ky.lt_trans h1 h2
  ntrans x y z h1 h2 := by
    rw [ltOf_lo] at *
    cases e : Ky.lt x.lo z.lo with
    | false => rfl
    | true =>
      cases e2 : Ky.lt z.lo y.lo with
      | true => have := Ky.lt_trans e e2; rw [h1] at this; cases this
      | false =>
        have := Ky.lt_total h2 e2
        rw [this] at h1
        rw [h1] at e
        cases e

theorem tn_sort [Inhabited Rg] (w : World) (g m : Nat) (d : Array Rg) (os : Array Obj) : Tn [g] w (sortWorldK Rg.cells 2 w g 0 m d os) := by
  refine ⟨rfl, rfl, rfl, ?_, fun k hk hn => ?_⟩
  · show w.heap.size ≤ (((putRowK Rg.cells 2 (Sort.ahead w m) g 0 d)).heap ++ os).size
    rw [Array.size_append, size_putRowK]
    show w.heap.size ≤ w.heap.size + os.size
    omega
  · have hne : k ≠ g := by simpa using hn
    show (((putRowK Rg.cells 2 (Sort.ahead w m) g 0 d)).heap ++ os)[k]? = w.heap[k]?
    rw [Array.getElem?_append_left (by rw [size_putRowK]; exact hk)]
    unfold putRowK putRow mapBlock
    rw [Array.getElem?_modify, if_neg (fun e => hne e.symm)]
    rfl

/-- Sorted by where they begin. -/
def Ky.Sorted (l : List Rg) : Prop := ∀ (i j : Nat) (x y : Rg), i < j → l[i]? = some x → l[j]? = some y → Ky.lt y.lo x.lo = false

set_option maxHeartbeats 1000000 in
theorem sort_any (g cap : Nat) (l : List Rg) (w : World) (hr : Row w g l) (hg : g < w.heap.size) (hl : l.length < 4611686018427387904) :
    Calls Try.prog 45 #[.slice (some ⟨g, 0, none⟩) l.length cap, .func (.func 46) #[] #[]] w fun e w' => e = .returned (.tuple #[]) ∧ ∃ l', l'.Perm l ∧ Ky.Sorted l' ∧ Row w' g l' ∧ Tn [g] w w' := by
  haveI : Inhabited Rg := ⟨Ky.all⟩
  have eg : ∀ args w, (callFunc 46 args).run Try.prog w = .ok (.enter 46 args) w := enters_of Try.func46 (by kernel_rfl) rfl
  have hcon := AnyQ.slices_SortFunc Try.kySort 2 (fun w => by kernel_rfl) (fun w => by kernel_rfl) Rg.cells (fun _ => rfl) (fun x v hv => by simp [Rg.cells] at hv; rcases hv with rfl | rfl <;> rfl) (fun x y => Ky.cmp x.lo y.lo) swo_lo 46 #[] g 0 cap l.toArray w eg (rising1_lays g 0 l.toArray.size w) hr.holds hg (by simpa using hl)
  change Calls Try.prog 45 _ _ _ at hcon
  rw [List.size_toArray] at hcon
  refine hcon.mono ?_
  rintro e w' ⟨rfl, d', n, os, hp, hs, rfl⟩
  have hsz : d'.size = l.length := by simpa using hp.1
  refine ⟨rfl, d'.toList, ?_, ?_, ?_, tn_sort w g n d' os⟩
  · have := hp.2.2
    rw [Array.extract_eq_self_of_le (by omega), Array.extract_eq_self_of_le (by simp)] at this
    simpa using this
  · intro i j x y hij hi hj
    have hjl : j < d'.size := by have := (List.getElem?_eq_some_iff.1 hj).1; simpa using this
    have := hs i j (Nat.zero_le _) hij (by omega)
    rw [ltOf_lo] at this
    rw [Array.getElem?_toList, Array.getElem?_eq_getElem (by omega)] at hi
    rw [Array.getElem?_toList, Array.getElem?_eq_getElem hjl] at hj
    rw [getElem!_pos d' i (by omega), getElem!_pos d' j hjl, Option.some.inj hi, Option.some.inj hj] at this
    exact this
  · refine Row.of_holds ?_
    have h0 := holdsK_putRowK Rg.cells 2 (Sort.ahead w n) g 0 l.toArray d' hr.holds (by simpa using hsz)
    exact holdsK_grow Rg.cells 2 _ os g 0 d' (by rw [size_putRowK]; exact hg) h0

end Go.Proofs.Ytgppnbcneknpdaa
