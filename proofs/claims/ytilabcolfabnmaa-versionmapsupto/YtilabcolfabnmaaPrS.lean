/- slices.SortFunc of pairs by keys; SortedFunc; a map's pairs. -/
import Derived.Test.YtilabcolfabnmaaPrC
import Derived.Test.YtilabcolfabnmaaPrO
import Derived.Test.YtilabcolfabnmaaPrLay
import Derived.Shelf.SlSortCmp.WholeK
namespace Go.Proofs.Ytilabcolfabnmaa
open Go.RowKit Go.Sort Go.Shelf Go.Lib
set_option linter.unusedVariables false
set_option maxRecDepth 100000

/-- Pairs in a block, that may be written. -/
def RowP (w : World) (g : Nat) (l : List Pr) : Prop := ∀ (i : Nat) x, l[i]? = some x → (w.cell? ⟨g, i * 2, none⟩ = some (.string x.key) ∧ w.cell? ⟨g, i * 2 + 1, none⟩ = some (.string x.val)) ∧ w.frozen? ⟨g, i * 2, none⟩ = false ∧ w.frozen? ⟨g, i * 2 + 1, none⟩ = false

theorem RowP.prs {w : World} {g : Nat} {l : List Pr} (h : RowP w g l) : Prs w (some ⟨g, 0, none⟩) l := fun _ => ⟨g, 0, rfl, fun i x hx j v hv => by
  rw [Nat.zero_add]
  have := (h i x hx).1
  match j, hv with
  | 0, hv => simp [Pr.cells] at hv; subst hv; exact this.1
  | 1, hv => simp [Pr.cells] at hv; subst hv; exact this.2
  | j + 2, hv => simp [Pr.cells] at hv⟩

theorem RowP.same {w w' : World} {g : Nat} {l : List Pr} (h : RowP w g l) (hg : w'.heap[g]? = w.heap[g]?) : RowP w' g l := by
  intro i x hx
  have := h i x hx
  simp only [World.cell?, World.frozen?, hg] at this ⊢
  exact this

theorem OwnP.rowP {w : World} {base g n c : Nat} {l : List Pr} (h : OwnP w base (.slice (some ⟨g, 0, none⟩) n c) l) (hn : l.length = n) : RowP w g l := by
  subst hn
  intro i x hx
  have hi : i < l.length := (List.getElem?_eq_some_iff.1 hx).1
  have a0 := flat_at prknd l i x hx 0 _ rfl
  have a1 := flat_at prknd l i x hx 1 _ rfl
  have h0 := World.ownsRow.cellAt h (i * 2 + 0) (by omega)
  have h1 := World.ownsRow.cellAt h (i * 2 + 1) (by omega)
  rw [a0] at h0
  rw [a1] at h1
  exact ⟨⟨h0, h1⟩, World.ownsRow.frozenAt h _, World.ownsRow.frozenAt h _⟩

theorem RowP.holds [Inhabited Pr] {w : World} {g : Nat} {l : List Pr} (h : RowP w g l) : HoldsK Pr.cells 2 w g 0 l.toArray := by
  intro j hj
  rw [size_flatK] at hj
  have hj' : j < l.length * 2 := by simpa using hj
  have hi : j / 2 < l.length := by omega
  have hr := h _ _ (List.getElem?_eq_getElem hi)
  rw [get_flatK _ _ _ _ hj, Nat.zero_add]
  have e : l.toArray[j / 2]! = l[j / 2] := by rw [getElem!_pos l.toArray (j / 2) (by simpa using hi)]; simp
  rw [e]
  generalize l[j / 2] = x at hr
  generalize hq : j / 2 = q at hr
  by_cases hm : j = q * 2
  · have h0 : j % 2 = 0 := by omega
    rw [h0, hm]
    exact ⟨hr.1.1, hr.2.1⟩
  · have h0 : j % 2 = 1 := by omega
    rw [h0, show j = q * 2 + 1 by omega]
    exact ⟨hr.1.2, hr.2.2⟩

theorem RowP.of_holds [Inhabited Pr] {w : World} {g : Nat} {d : Array Pr} (h : HoldsK Pr.cells 2 w g 0 d) : RowP w g d.toList := by
  intro i x hi
  have hil : i < d.size := by have := (List.getElem?_eq_some_iff.1 hi).1; simpa using this
  have e : d[i]! = x := by
    rw [getElem!_pos d i hil]
    rw [Array.getElem?_toList, Array.getElem?_eq_getElem hil] at hi
    exact Option.some.inj hi
  have h0 := h.cell (i := i) (c := 0) hil (by decide)
  have h1 := h.cell (i := i) (c := 1) hil (by decide)
  rw [e] at h0 h1
  simp only [Nat.zero_add, Nat.add_zero] at h0 h1
  exact ⟨⟨h0.1, h1.1⟩, h0.2, h1.2⟩

theorem cmpStr_any (a b : ByteArray) (w : World) : Calls Try.prog 59 #[.string a, .string b] w fun e w' => e = .returned (.int .i64 (Ky.cmp a b)) ∧ w' = w := by
  go_enter Try.func59, Try.ntmps59
  go_wp2
  rw [run_callFunc_extern Try.func66 (by kernel_rfl) (by kernel_rfl) (by kernel_rfl) (e := Extern.BytealgCompare.compare) (by kernel_rfl), Lib.run_compareString]
  simp only [Result.andThen]
  rw [Oper.upon_value]
  go_wp2
  go_ret
  refine ⟨?_, rfl⟩
  unfold Ky.cmp
  rw [ByteArray.toList_eq, ByteArray.toList_eq]
  rfl

theorem compare_any (a b : ByteArray) (w : World) : Calls Try.prog 43 #[.string a, .string b] w fun e w' => e = .returned (.int .i64 (Ky.cmp a b)) ∧ w' = w := by
  go_enter Try.func43, Try.ntmps43
  go_wp2_with fail
  refine (cmpStr_any a b _).mono ?_
  rintro e w1 ⟨rfl, rfl⟩
  go_wp2
  go_ret
  exact ⟨rfl, rfl⟩

theorem pcmp_any (x y : Pr) (w : World) : Calls Try.prog 42 #[x.v, y.v] w fun e w' => e = .returned (.int .i64 (Ky.cmp x.key y.key)) ∧ ∃ q os', w' = grow (w.drewN q) os' := by
  go_enter Try.func42, Try.ntmps42
  go_wp2_with fail
  refine (compare_any x.key y.key _).mono ?_
  rintro e w1 ⟨rfl, rfl⟩
  go_wp2
  go_ret
  exact ⟨rfl, 0, _, by rw [alloc_eq_grow, alloc_eq_grow, grow_grow]; rfl⟩

theorem pcmp_lays [Inhabited Pr] (blk off size : Nat) (w : World) : CmpLays Try.prog 42 #[] Pr.cells 2 (fun x y => Ky.cmp x.key y.key) blk off size w := fun _ _ _ _ x y => pcmp_any x y _

theorem ltOf_key (x y : Pr) : ltOf (fun x y : Pr => Ky.cmp x.key y.key) x y = Ky.lt x.key y.key := by
  unfold ltOf
  show decide (Ky.cmp x.key y.key < 0) = _
  rw [Ky.cmp_lt]
  cases Ky.lt x.key y.key with
  | true => rfl
  | false =>
    simp only [Bool.false_eq_true, if_false]
    split <;> rfl

theorem swo_key : SWO (ltOf fun x y : Pr => Ky.cmp x.key y.key) where
  irrefl x := by rw [ltOf_key]; exact Ky.lt_irrefl _
  trans x y z h1 h2 := by rw [ltOf_key] at *; exact Ky.lt_trans h1 h2
  ntrans x y z h1 h2 := by
    rw [ltOf_key] at *
    cases e : Ky.lt x.key z.key with
    | false => rfl
    | true =>
      cases e2 : Ky.lt z.key y.key with
      | true => have := Ky.lt_trans e e2; rw [h1] at this; cases this
      | false =>
        have := Ky.lt_total h2 e2
        rw [this] at h1
        rw [h1] at e
        cases e

theorem tn_sortP [Inhabited Pr] (w : World) (g m : Nat) (d : Array Pr) (os : Array Obj) : Tn [g] w (sortWorldK Pr.cells 2 w g 0 m d os) := by
  refine ⟨rfl, rfl, rfl, ?_, fun k hk hn => ?_⟩
  · show w.heap.size ≤ (((putRowK Pr.cells 2 (Sort.ahead w m) g 0 d)).heap ++ os).size
    rw [Array.size_append, size_putRowK]
    show w.heap.size ≤ w.heap.size + os.size
    omega
  · have hne : k ≠ g := by simpa using hn
    show (((putRowK Pr.cells 2 (Sort.ahead w m) g 0 d)).heap ++ os)[k]? = w.heap[k]?
    rw [Array.getElem?_append_left (by rw [size_putRowK]; exact hk)]
    unfold putRowK putRow mapBlock
    rw [Array.getElem?_modify, if_neg (fun e => hne e.symm)]
    rfl

set_option maxHeartbeats 1000000 in
theorem psort_any (g cap : Nat) (l : List Pr) (w : World) (hr : RowP w g l) (hg : g < w.heap.size) (hl : l.length < 4611686018427387904) :
    Calls Try.prog 57 #[.slice (some ⟨g, 0, none⟩) l.length cap, .func (.func 42) #[] #[]] w fun e w' => e = .returned (.tuple #[]) ∧ ∃ l', l'.Perm l ∧ (l'.Pairwise fun a b => Ky.lt b.key a.key = false) ∧ RowP w' g l' ∧ Tn [g] w w' := by
  haveI : Inhabited Pr := ⟨⟨⟨#[]⟩, ⟨#[]⟩⟩⟩
  have eg : ∀ args w, (callFunc 42 args).run Try.prog w = .ok (.enter 42 args) w := enters_of Try.func42 (by kernel_rfl) rfl
  have hcon := AnyQ.slices_SortFunc Try.prSort 2 (fun w => by kernel_rfl) (fun w => by kernel_rfl) Pr.cells (fun _ => rfl) (fun x v hv => by simp [Pr.cells] at hv; rcases hv with rfl | rfl <;> rfl) (fun x y => Ky.cmp x.key y.key) swo_key 42 #[] g 0 cap l.toArray w eg (pcmp_lays g 0 l.toArray.size w) hr.holds hg (by simpa using hl)
  change Calls Try.prog 57 _ _ _ at hcon
  rw [List.size_toArray] at hcon
  refine hcon.mono ?_
  rintro e w' ⟨rfl, d', n, os, hp, hs, rfl⟩
  have hsz : d'.size = l.length := by simpa using hp.1
  refine ⟨rfl, d'.toList, ?_, ?_, ?_, tn_sortP w g n d' os⟩
  · have := hp.2.2
    rw [Array.extract_eq_self_of_le (by omega), Array.extract_eq_self_of_le (by simp)] at this
    simpa using this
  · rw [List.pairwise_iff_getElem]
    intro i j hi hj hij
    have hjl : j < d'.size := by simpa using hj
    have := hs i j (Nat.zero_le _) hij (by omega)
    rw [ltOf_key] at this
    rw [getElem!_pos d' i (by omega), getElem!_pos d' j hjl] at this
    simpa using this
  · refine RowP.of_holds ?_
    have h0 := holdsK_putRowK Pr.cells 2 (Sort.ahead w n) g 0 l.toArray d' hr.holds (by simpa using hsz)
    exact holdsK_grow Pr.cells 2 _ os g 0 d' (by rw [size_putRowK]; exact hg) h0
end Go.Proofs.Ytilabcolfabnmaa
