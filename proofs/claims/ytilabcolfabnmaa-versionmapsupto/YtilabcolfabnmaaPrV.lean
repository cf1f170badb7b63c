/- maps.Values of a map of pairs: what it hands back tells each pair once. -/
import Derived.Test.YtilabcolfabnmaaPrM
import Derived.Test.YtilabcolfabnmaaItG
import Derived.Sort.MapsRangeIn
import Derived.WalkKit
import Derived.OwnWalkIn
import Derived.TacticsInMore
import Derived.RegionIn
import Derived.LoopNIn
import Derived.LoopIn
namespace Go.Proofs.Ytilabcolfabnmaa
open Go.RowKit Go.Maps Go.Sort Go.Shelf
attribute [local go_sem] Oper.semAt_some
set_option linter.unusedVariables false
set_option maxRecDepth 100000

/-- The pairs that a map has, each once, in some order. -/
def Fm.All (F : Fm) (xs : List Pr) : Prop := ∃ ks : List (List UInt8), ks.Nodup ∧ (∀ k, k ∈ ks ↔ (F k).isSome = true) ∧ ks.map F = xs.map some

abbrev encPr (x : Pr) : Array Value := #[.agg #[.string x.key, .string x.val]]

set_option maxHeartbeats 2000000 in
theorem values1_in (n : Nat) (hn : 1 ≤ n) (l Bm b nn : Nat) (D0 : DataW Pr) (F : Fm) (J Jx : List Pr → World → Prop)
    (hh : ∀ k, Maps.has D0 (.string k) = (F k).isSome) (ha : ∀ k x, F k = some x → ∀ z, D0.atKey (.string k) z = .held x)
    (hY : ∀ pre x W, J pre W → pre.length < Maps.size D0 → YieldAt Fence.wide (n - 1) Try.prog l (encPr x) W fun e W' =>
      (e = .returned (.bool true) ∧ J (pre ++ [x]) W' ∧ KeepsWalks W W') ∨ (e = .returned (.bool false) ∧ Jx (pre ++ [x]) W'))
    (W : World) (hJ : AbidesFrom W.heap.size J) (hm : W.cell? ⟨Bm, 0, none⟩ = some (.map (some b))) (hown : W.ownsMap Try.prog 9 prR b nn D0) (h0 : J [] W) :
    CallsIn Fence.wide n Try.prog 58 #[.func (.yield l) #[] #[], .pointer (some ⟨Bm, 0, none⟩)] W fun e W' => (∃ v, e = .returned v) ∧
      ((∃ xs, F.All xs ∧ J xs W') ∨ (∃ pre, True ∧ Jx pre W')) := by
  refine callsIn_of_wp Try.func58 rfl trivial ?_ rfl
  simp only [Try.ntmps58, List.size_toArray, List.length_cons, List.length_nil, Nat.reduceAdd, Nat.reduceSub, Array.replicate_succ, Array.replicate_zero, List.push_toArray, List.append_toArray, List.nil_append, List.cons_append]
  have HH : Hid (∀ k, Maps.has D0 (.string k) = (F k).isSome) := hh
  have HA : Hid (∀ k x, F k = some x → ∀ z, D0.atKey (.string k) z = .held x) := ha
  have HY : Hid _ := hY
  have HJ : Hid (AbidesFrom W.heap.size J) := hJ
  have H0 : Hid (J [] W) := h0
  clear hh ha hY hJ h0
  gi_wp2_with (first
    | (gi_at_range; refine wpListIn_range_own _ rfl _ 67 rfl 9 54 str_law Try.underlying67 _ b nn _ rfl hown ?_; intro w0 hrg0 hg0 hs0)
    | gi_in)
  go_frame
  gi_loopw [4] (fun _ wr => ∃ (left : Lit → Bool) (cnt : Nat) (ks : List (List UInt8)) (ps : List Pr), wr.ranges Try.prog 9 prR b W.heap.size nn D0 left cnt ∧ ks.length + cnt ≤ Maps.size D0 ∧ Collected D0 left ks ∧ ks.map F = ps.map some ∧ J ps wr)
    (fun _ wr => wr.rangeLeft b W.heap.size)
  case atStart =>
    exact ⟨_, _, [], [], hrg0, by simp, Collected.start D0, rfl, HJ.out [] W w0 none H0.out hg0 (fun r e => by cases e)⟩
  case round =>
    obtain ⟨left, cnt, ks, ps, hrg, hcs, hC, hV, hJs⟩ := hrel
    have hlen : ps.length = ks.length := by
      have := congrArg List.length hV
      simpa using this.symm
    have HV : Hid (ks.map F = ps.map some) := hV
    have HL : Hid (ps.length = ks.length) := hlen
    clear hV hlen
    gi_wp2_with (first
      | (gi_at_next; refine wpListIn_next_ranges _ rfl _ rfl 9 str_law prR encStr Pr.v (fun key kl hk => by obtain ⟨x, hx, _⟩ := Maps.keyOf_str Try.underlying9 hk; exact ⟨x, hx⟩) (fun v y hv => by obtain ⟨c, rfl, _⟩ := prR_inv _ _ hv; exact ⟨c, rfl⟩) b W.heap.size nn _ _ _ rfl hrg ?_ ?_)
      | gi_in)
    · intro hc0 hl0
      gi_wp2
      go_end0
      exact ⟨⟨_, rfl⟩, .inl ⟨ps, ⟨ks, hC.1, fun k => by rw [hC.2 k, hl0, HH.out k]; simp, HV.out⟩, hJs⟩⟩
    · intro x c kl yd yp w2 cnt2 hkey hlk hv hat hrg2 hlt hg2 hs2 hen
      obtain ⟨x', ex, rfl, _⟩ := Maps.keyOf_str Try.underlying9 hkey
      obtain rfl : x = x' := encStr_inj ex
      obtain ⟨c', ec, ez⟩ := prR_inv _ _ hv
      have hcc : c = c' := by
        obtain ⟨c1, c2⟩ := c
        obtain ⟨d1, d2⟩ := c'
        simpa using ec
      subst hcc
      obtain rfl : yd = .held c := (Prod.mk.inj ez).1
      have hFx : F x = some c := by
        have h1 : Maps.has D0 (.string x) = true := by
          have := (hC.step hlk hat).2 x
          exact (this.1 (by simp)).1
        rw [HH.out] at h1
        obtain ⟨d, hd⟩ := Option.isSome_iff_exists.1 h1
        have h2 := HA.out x d hd (.held c)
        rw [hat] at h2
        cases h2
        exact hd
      obtain ⟨c1, c2⟩ := c
      obtain ⟨w3, hw3⟩ : ∃ w3, w2.alloc (.cells #[.string c1, .string c2] 54) = w3 := ⟨_, rfl⟩
      have hJ2 : J ps w2 := HJ.out ps wr w2 (some W.heap.size) hJs hg2 (fun r e => by cases e; exact ⟨Nat.le_refl _, hrg.iter_walk⟩)
      have hJ3 : J ps w3 := by rw [← hw3]; exact HJ.out ps w2 _ none hJ2 (World.grownBy_alloc w2 _ none) (fun r e => by cases e)
      have k3 : Bk w3 w2.heap.size 54 #[.string c1, .string c2] := by rw [← hw3]; exact Bk.new _ _ _
      have d0 : w3.cell? ⟨w2.heap.size, 0, none⟩ = some (.string c1) := k3.cell 0
      have d1 : w3.cell? ⟨w2.heap.size, 1, none⟩ = some (.string c2) := k3.cell 1
      have hrg3 : w3.ranges Try.prog 9 prR b W.heap.size nn D0 (fun z => left z && !z.sameKey (.string x)) cnt2 := by rw [← hw3]; exact hrg2.alloc _
      obtain ⟨fn, tmps, assign, body, hy, hR⟩ := HY.out ps ⟨c1, c2⟩ w3 hJ3 (by have := HL.out; omega)
      dsimp only [encPr] at hy
      have HC2 : Hid (Collected D0 (fun z => left z && !z.sameKey (.string x)) (ks ++ [x])) := hC.step hlk hat
      have HV2 : Hid ((ks ++ [x]).map F = (ps ++ [Pr.mk c1 c2]).map some) := by
        show (ks ++ [x]).map F = (ps ++ [Pr.mk c1 c2]).map some
        rw [List.map_append, List.map_append, HV.out, List.map_cons, List.map_nil, hFx]
        rfl
      have HR3 : Hid (w3.ranges Try.prog 9 prR b W.heap.size nn D0 (fun z => left z && !z.sameKey (.string x)) cnt2) := hrg3
      clear hs2 k3 hJ2 hJ3 hrg3 hFx
      gi_wp2
      refine hR.mono ?_
      rintro e W3 (⟨rfl, hJ4, hk4⟩ | ⟨rfl, hJx4⟩)
      · gi_wp2
        have hrg4 := HR3.out.of_walks hk4
        go_roundw
        case rel => exact ⟨_, cnt2, ks ++ [x], ps ++ [⟨c1, c2⟩], hrg4, by simp; omega, HC2.out, HV2.out, hJ4⟩
        case measure => rw [hrg4.left_eq, hrg.left_eq]; exact hlt
      · gi_wp2
        refine bodyPost_ret (results_none rfl _ _ _) rfl ?_
        exact ⟨⟨_, rfl⟩, .inr ⟨_, trivial, hJx4⟩⟩

theorem values1_stops (n : Nat) (hn : 1 ≤ n) (Bm b nn : Nat) (F : Fm) (w : World) (hm : Bk w Bm 67 #[.map (some b)]) (h : Sm w b nn F) :
    SeqStopsK Fence.wide n Try.prog 58 #[.pointer (some ⟨Bm, 0, none⟩)] encPr KeepsWalks (fun xs => F.All xs) (fun _ => True) nn w := fun l J Jx W hW hJ _ hY h0 => by
  obtain ⟨D, h1, h2, h3⟩ := (h.below hW).ex
  exact values1_in n hn l Bm b nn D F J Jx h2 h3 (fun pre x W1 hj hl => hY pre x W1 hj (Nat.lt_of_lt_of_le hl h1.size_le)) W hJ ((hm.below hW hm.lt).cell 0) h1 h0
end Go.Proofs.Ytilabcolfabnmaa
