/- Disks: the dirty sectors, rising. -/
import Derived.Test.YtpggnejifpcnmaaDkIter
namespace Go.Proofs.Ytpggnejifpcnmaa
open Go.RowKit Go.Shelf Go.Maps
open Go.Sort (Holds)
attribute [local go_sem] Oper.semAt_some
set_option linter.unusedVariables false

theorem dk_sorts (m : Nat) : AnyZI.SortsIn Try.prog Try.dkSorted_ren Fence.wide m :=
  ⟨fun blk off cap ss W hH hblk hsz => callsIn_wide.2 (AnyM.slices_Sort_int Try.dkSort blk off cap ss W hH hblk hsz),
   fun p cap W => callsIn_wide.2 (AnyM.slices_Sort_int_none Try.dkSort p cap W)⟩

theorem dirts_sorted (f : Nat → Option (List Int)) (n : Nat) : ((dirts f n).map (fun (i : Nat) => (i : Int))).Pairwise (fun x y => decide (x ≤ y) = true) := by
  rw [List.pairwise_map]
  refine List.Pairwise.imp ?_ (List.Pairwise.filter _ List.pairwise_lt_range)
  intro a b hab
  simp
  omega

theorem dirts_merge {f : Nat → Option (List Int)} {n : Nat} {ss : List Int} (h : ss.Perm (intKeys (datum f n))) : ss.mergeSort (fun x y => decide (x ≤ y)) = (dirts f n).map (fun (i : Nat) => (i : Int)) := by
  rw [intKeys_datum] at h
  have hs := List.pairwise_mergeSort (le := fun (x y : Int) => decide (x ≤ y)) (by intro a b c; simp; omega) (by intro a b; simp; omega) ss
  have hp : (ss.mergeSort (fun x y => decide (x ≤ y))).Perm ((dirts f n).map (fun (i : Nat) => (i : Int))) := (List.mergeSort_perm ss _).trans h
  exact List.Perm.eq_of_pairwise (fun a b _ _ h1 h2 => by simp at h1 h2; omega) hs (dirts_sorted f n) hp

theorem dirts_le (f : Nat → Option (List Int)) (n : Nat) : (dirts f n).length ≤ n := by
  have := List.length_filter_le (fun i => (f i).isSome) (List.range n)
  simpa [dirts] using this

set_option maxRecDepth 100000 in
set_option maxHeartbeats 2000000 in
theorem dirty_any {w : World} {B : Nat} {bs : List Nat} {d : Dk} (h : Dsk w B bs d) :
    Calls Try.prog 37 #[.pointer (some ⟨B, 0, none⟩)] w fun e w' => ∃ Bs, e = .returned (.func (.func 65) #[] #[.pointer (some ⟨Bs, 0, none⟩)]) ∧ Goes (fun i : Nat => (i : Int)) w.heap.size w' Bs (dirts d.dirty d.n) ∧ Below w.heap.size w w' := by
  refine (callsIn_wide (n := 7)).1 ?_
  have hm := made_any h
  obtain ⟨S, M, p, c, kb, -, h⟩ := h
  obtain ⟨-, c1, -⟩ := h.cells
  have hown := h.map
  have hn2 := h.n2
  clear h
  have hbl := hown.lt
  have hsz := size_datum d.dirty d.n
  have hseq : SeqGives Fence.wide 3 Try.prog 64 #[.pointer (some ⟨w.heap.size, 0, none⟩)] encZ (fun ss => ss.Perm (intKeys (datum d.dirty d.n))) (Maps.size (datum d.dirty d.n)) (w.alloc (.cells #[.map (some M)] 58)) :=
    AnyZI.keys_gives (ρ := Try.dkKeys_ren) { Try.dkKeys with } Fence.wide _ trivial rfl (by omega) w.heap.size M d.n (datum d.dirty d.n) _ (by simp) (by simp) (by
      obtain ⟨es, clock, hb, Ft, hs, hD⟩ := hown
      exact ⟨es, clock, (Below.heap_alloc _ _ M hbl).trans hb, Ft, hs, hD⟩)
  have cK : ∀ mb W, CallsIn Fence.wide 6 Try.prog 57 #[.map mb] W fun e w' => e = .returned (.func (.func 64) #[] #[.pointer (some ⟨W.heap.size, 0, none⟩)]) ∧ w' = W.alloc (.cells #[.map mb] 58) := fun mb W => AnyZI.keys_in Try.dkKeys Fence.wide 6 trivial rfl mb W
  have cS := AnyZI.sorted_in Try.dkSorted Fence.wide 6 trivial trivial trivial trivial rfl (by omega) (dk_sorts _) (enters_of Try.func63 (by kernel_rfl) rfl) 64 #[.pointer (some ⟨w.heap.size, 0, none⟩)] trivial (enters_of Try.func64 (by kernel_rfl) rfl) _ _ (by unfold maxLen; omega) (by omega) _ hseq
  change CallsIn _ _ Try.prog 56 _ _ _ at cS
  have HS : Hid _ := cS
  have HK : Hid _ := cK
  have HM : Hid _ := hm
  clear hseq cK cS hm hown hsz
  refine callsIn_of_wp Try.func37 rfl trivial ?_ rfl
  simp only [Try.ntmps37, List.size_toArray, List.length_cons, List.length_nil, Nat.reduceAdd, Nat.reduceSub, Array.replicate_succ, Array.replicate_zero, List.push_toArray, List.append_toArray, List.nil_append, List.cons_append]
  gi_wp2_with fail
  refine ⟨trivial, ?_⟩
  refine (callsIn_wide.2 HM.out).mono ?_
  rintro e w1 ⟨rfl, rfl⟩
  clear HM
  gi_wp2_with fail
  refine ⟨trivial, ?_⟩
  refine CallsIn.mono (HK.out _ _) ?_
  rintro e w2 ⟨rfl, hw2⟩
  subst hw2
  gi_wp2_with fail
  refine ⟨trivial, ?_⟩
  refine CallsIn.mono HS.out ?_
  rintro e w3 ⟨v, ss, rfl, hS, hrow, hnil, hb3⟩
  clear HS HK
  have hB3 : Below w1.heap.size w1 w3 := ((Below.refl _ w1).alloc (Nat.le_refl _) _).trans (hb3.mono (by simp))
  have HE : Hid (ss.mergeSort (fun x y => decide (x ≤ y)) = (dirts d.dirty d.n).map (fun (i : Nat) => (i : Int))) := dirts_merge hS
  have HLEN : Hid (ss.length = (dirts d.dirty d.n).length) := by
    have := congrArg List.length HE.out
    rw [Hid]
    simpa using this
  have HR : Hid (w3.ownsRow w1.heap.size 3 1 v (dirts d.dirty d.n).length ((dirts d.dirty d.n).map (fun (i : Nat) => Value.int .i64 (i : Int)))) := by
    have h1 := ownsRow_base_a hrow (base' := w1.heap.size) (by simp)
    change w3.ownsRow w1.heap.size 3 1 v ss.length ((ss.mergeSort (fun x y => decide (x ≤ y))).map encZ) at h1
    rw [HE.out, HLEN.out, List.map_map] at h1
    exact h1
  clear hS hrow hnil
  have HF : Hid (∃ p cap, v = .slice p (dirts d.dirty d.n).length cap ∧ (0 < (dirts d.dirty d.n).length → ∃ b, p = some ⟨b, 0, none⟩ ∧ w1.heap.size ≤ b ∧ b < w3.heap.size)) := by
    rcases HR.out.2 with ⟨hv, hn0⟩ | ⟨g, cap, cur, hv, hbb, hgg, hle, hcm, hcur, htake⟩
    · exact ⟨none, 0, by rw [hv, hn0], fun h => by omega⟩
    · exact ⟨some ⟨g, 0, none⟩, cap, hv, fun _ => ⟨g, rfl, hbb, (Array.getElem?_eq_some_iff.1 hgg).1⟩⟩
  obtain ⟨p3, cap3, rfl, hp3⟩ := HF.out
  clear HF
  have HP : Hid _ := hp3
  clear hp3
  gi_wp2_with fail
  refine ⟨trivial, ?_⟩
  refine (callsIn_wide.2 (values_any p3 _ cap3 w3)).mono ?_
  rintro e w4 ⟨rfl, hw4⟩
  subst hw4
  gi_wp2
  go_ret
  have hle := dirts_le d.dirty d.n
  refine ⟨w3.heap.size, rfl, ⟨⟨p3, cap3, Bk.new _ _ _, fun hpos => ?_⟩, hB3.size, by omega⟩, hB3.alloc hB3.size _⟩
  obtain ⟨b, rfl, hb0, hb1⟩ := HP.out hpos
  refine ⟨b, 0, rfl, hb0, by simp; omega, fun j x hx => ?_⟩
  have hj := World.ownsRow.cells HR.out (g := b) rfl j (.int .i64 (x : Int)) (by simp [hx])
  rw [Addr.add_lit] at hj
  exact (((Below.refl w3.heap.size w3).alloc (Nat.le_refl _) _).cell (p := ⟨b, 0 + j, none⟩) hb1).trans hj

end Go.Proofs.Ytpggnejifpcnmaa
