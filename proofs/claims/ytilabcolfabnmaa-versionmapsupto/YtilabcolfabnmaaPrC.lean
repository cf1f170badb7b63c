/- slices.AppendSeq and Collect of what maps.Values hands back. -/
import Derived.Test.YtilabcolfabnmaaPrV
import Derived.Test.YtilabcolfabnmaaGnT
import Derived.RangeFuncBox
namespace Go.Proofs.Ytilabcolfabnmaa
open Go.RowKit Go.Maps Go.Sort Go.Shelf
attribute [local go_sem] Oper.semAt_some
set_option linter.unusedVariables false
set_option maxRecDepth 100000

/-- What was gathered, in its box. -/
structure Ga (w W : World) (nn : Nat) (pre : List Pr) : Prop where
  len : pre.length ≤ nn
  ex : ∃ v, Boxed W w.heap.size 22 v ∧ OwnP W w.heap.size v pre
  below : Below w.heap.size w W

theorem Ga.abides {w W W' : World} {nn : Nat} {pre : List Pr} {row : Option Nat} {m : Nat} (h : Ga w W nn pre) (hm : w.heap.size ≤ m) (hg : W.grownBy W' row) (hr : ∀ r, row = some r → m ≤ r ∧ ∃ o : Obj, W.heap[r]? = some o ∧ o.isCells = false) : Ga w W' nn pre := by
  obtain ⟨v, h1, h2⟩ := h.ex
  refine ⟨h.len, ⟨v, boxed_from h1 hg hr, ?_⟩, h.below.grown hg h.below.size (fun k hk => by have := (hr k hk).1; omega)⟩
  refine ⟨h2.1, ?_⟩
  rcases h2.2 with hv | ⟨g, cap, cur, rfl, hb, hgg, rest⟩
  · exact .inl hv
  · refine .inr ⟨g, cap, cur, rfl, hb, (hg.block g (Array.getElem?_eq_some_iff.1 hgg).1 (fun e => ?_)).trans hgg, rest⟩
    obtain ⟨_, o, ho, hc⟩ := hr g e.symm
    rw [hgg] at ho
    cases ho
    cases hc

set_option maxHeartbeats 4000000 in
theorem appendSeq_any (Bm M nn : Nat) (F : Fm) (w : World) (hm : Bk w Bm 67 #[.map (some M)]) (hM : Sm w M nn F) (hn : nn ≤ 4398046510976) :
    Calls Try.prog 63 #[.slice none 0 0, .func (.func 58) #[] #[.pointer (some ⟨Bm, 0, none⟩)]] w fun e w' => ∃ v xs, e = .returned v ∧ F.All xs ∧ xs.length ≤ nn ∧ OwnP w' w.heap.size v xs ∧ Below w.heap.size w w' := by
  refine (callsIn_wide (n := 9)).1 ?_
  refine callsIn_of_wp_marks Try.func63 rfl trivial ?_ rfl
  simp only [Try.ntmps63, List.size_toArray, List.length_cons, List.length_nil, Nat.reduceAdd, Nat.reduceSub, Array.replicate_succ, Array.replicate_zero, List.push_toArray, List.append_toArray, List.nil_append, List.cons_append]
  have hb1 : Below w.heap.size w (w.alloc (.cells #[.slice none 0 0] 22)) := (Below.refl _ _).alloc (Nat.le_refl _) _
  have HS : Hid (SeqStopsK Fence.wide (9 - 1) Try.prog 58 #[.pointer (some ⟨Bm, 0, none⟩)] encPr KeepsWalks (fun xs => F.All xs) (fun _ => True) nn (w.alloc (.cells #[.slice none 0 0] 22))) := values1_stops 8 (by omega) Bm M nn F _ (hm.below hb1 hm.lt) (hM.below hb1)
  clear hm hM hb1
  obtain ⟨i0, hi, hz0, hz1, hz2⟩ := info_parts prinfo
  gi_wp2
  obtain ⟨W4, hW4⟩ : ∃ W4, w.alloc (.cells #[.slice none 0 0] 22) = W4 := ⟨_, rfl⟩
  have hk4 : Ga w W4 nn [] := by
    rw [← hW4]
    exact ⟨Nat.zero_le _, ⟨_, Boxed.new w 22 (.slice none 0 0), Own.nil _ _ _⟩, (Below.refl _ _).alloc (Nat.le_refl _) _⟩
  have hs4 : W4.heap.size = w.heap.size + 1 := by rw [← hW4]; simp
  rw [hW4] at HS ⊢
  clear hW4
  refine range_boxed ?A rfl (by omega) (gf := 58) (lb := #[.pointer (some ⟨Bm, 0, none⟩)]) rfl trivial (enters_of Try.func58 (by kernel_rfl) rfl)
    HS.out walksK_t (fun W l o o' hl h1 h2 h3 => walksK_b (w := W4) W l o o' hl h1 h2 h3) (Below.refl _ _) (fun _ => rfl)
    (fun pre W => Ga w W nn pre)
    (fun _ _ _ => False)
    (fun s A B' row hs hg hr => hs.abides (m := W4.heap.size) (by omega) hg hr)
    (fun cc s A B row hs hg hr => hs)
    hk4
    (fun x bx W => W4.heap.size ≤ bx ∧ Bk W bx 54 #[.string x.key, .string x.val])
    (fun x bx _ A B' row hs hg hr => ⟨hs.1, bk_from hs.2 hg hr⟩)
    ?assign ?body ?done (fun D cc pre W _ _ h _ => h.elim)
  case assign =>
    rintro l pre x W K hL hK
    gi_wp2
    have ht : Tn [] W (W.alloc (.cells #[.string x.key, .string x.val] 54)) := (Tn.refl _ _).alloc _
    obtain ⟨bx, hbx⟩ : ∃ bx, W.heap.size = bx := ⟨_, rfl⟩
    have kx : Bk (W.alloc (.cells #[.string x.key, .string x.val] 54)) bx 54 #[.string x.key, .string x.val] := by rw [← hbx]; exact Bk.new _ _ _
    obtain ⟨v, b1, b2⟩ := hL.ex
    have hle : W4.heap.size ≤ bx := by have := b1.lt; omega
    rw [hbx]
    exact hK bx _ ((keeps_tn ht (by simp)).from _) (KeepsWalks.alloc W _) (hL.abides (m := W4.heap.size) (by omega) (World.grownBy_alloc W _ none) (fun r e => by cases e)) ⟨hle, kx⟩
  case body =>
    rintro l pre x bx W hl hT ⟨hbx, kx⟩ hpre
    obtain ⟨v, b1, b2⟩ := hT.ex
    have hc := b1.cell
    have d0 : W.cell? ⟨bx, 0, none⟩ = some (.string x.key) := kx.cell 0
    have d1 : W.cell? ⟨bx, 1, none⟩ = some (.string x.val) := kx.cell 1
    have hB := hT.below
    gi_wp2_with (gi_at_builtin; refine wpListIn_append_own _ rfl _ _ 22 rfl w.heap.size 54 i0 _ 2 32 Try.underlying22 hi hz0 hz1 hz2 rfl (by decide) _ _ _ rfl (World.ownsRow.alloc b2 _) ⟨W.heap.size, 0, none⟩ 1 1 (Pr.cells x) rfl rfl ((els_one prknd W 54 x).news prknd _ rfl) (prknd.one x) (by unfold maxLen; omega) (by omega) (by have := hB.size; simp; omega) ?_; intro v' w1 hown' hgrow hq; obtain ⟨g', cap', rfl⟩ := ownsRow_succ hown'; obtain ⟨hv1, hv2, hr2, hk2, hb2⟩ := b1.appended (by decide) b2 hB.size (Nat.le_refl _) hown' hgrow; have hc1 := hv1.cell; have hf1 := hv1.frozen)
    exact ⟨hk2.from _, hk2.walks, ⟨by rw [List.length_append]; exact hpre, ⟨_, hv2, by unfold OwnP Own; rw [flat_append, flat_single, List.length_append]; exact hr2⟩, hB.trans hb2⟩⟩
  case done =>
    rintro D xs W hD hS hT hK
    obtain ⟨v, b1, b2⟩ := hT.ex
    have hc := b1.cell
    have hB := hT.below
    gi_wp2
    refine ⟨by simp, .inl ⟨_, _, rfl, run_takeDeferred hK, ?_⟩⟩
    exact ⟨_, results_tmp rfl _ _ _, v, xs, rfl, hS, hT.len, ownsRow_putObj b2 _ hK rfl, hB.trans ⟨rfl, rfl, rfl, by simp, fun k hk => World.putObj_heap_other (by omega)⟩⟩

theorem collect_any (Bm M nn : Nat) (F : Fm) (w : World) (hm : Bk w Bm 67 #[.map (some M)]) (hM : Sm w M nn F) (hn : nn ≤ 4398046510976) :
    Calls Try.prog 56 #[.func (.func 58) #[] #[.pointer (some ⟨Bm, 0, none⟩)]] w fun e w' => ∃ v xs, e = .returned v ∧ F.All xs ∧ xs.length ≤ nn ∧ OwnP w' w.heap.size v xs ∧ Below w.heap.size w w' := by
  have hcall := appendSeq_any Bm M nn F w hm hM hn
  clear hm hM
  go_enter Try.func56, Try.ntmps56
  go_wp2_with fail
  refine hcall.mono ?_
  rintro e w' ⟨v, xs, rfl, h1, hln, h2, h3⟩
  have H1 : Hid (F.All xs) := h1
  have HLN : Hid (xs.length ≤ nn) := hln
  have H2 : Hid (OwnP w' w.heap.size v xs) := h2
  have H3 : Hid (Below w.heap.size w w') := h3
  clear h1 h2 h3 hcall hln
  go_wp2
  go_ret
  exact ⟨_, _, rfl, H1.out, HLN.out, H2.out, H3.out⟩
end Go.Proofs.Ytilabcolfabnmaa
