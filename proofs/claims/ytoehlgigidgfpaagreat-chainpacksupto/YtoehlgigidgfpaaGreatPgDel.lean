/- slices.Delete of one entry. -/
import Derived.Test.YtoehlgigidgfpaaGreatPgIns
namespace Go.Proofs.YtoehlgigidgfpaaGreat
open Go.RowKit Go.Sort
set_option linter.unusedVariables false
set_option maxRecDepth 100000

theorem step_appRun {ops : Array Oper} {o : Oper} {a : Act} {w : World} {K : Act → World → Prop} {Q : Exit → Act → World → Prop} {E : Prop}
    (hg : o.guard = none) (d x : Operand) (dT sT : TypeId) (hop : o.op = Op.call { callee := Callee.builtin Builtin.append, args := #[d, x], argTypes := #[dT, sT] })
    (v u : Value) (hd : a.eval d = v) (hx : a.eval x = u) {v' : Value} {w' : World} (hr : (Builtin.append_ #[dT, sT] o.type #[v, u]).run Tryz.prog w = .ok v' w') (hK : K (a.put o.dst v') w') :
    if Region.wanted o (yielded ops a.tmps) = true then Oper.wp Tryz.prog o a w K Q else E := by
  have hw : Region.wanted o (yielded ops a.tmps) = true := by simp [Region.wanted, hg]
  rw [if_pos hw]
  unfold Oper.wp execOp
  simp only [hop, resolve, invoke, builtin, Sem.run_bind, Sem.run_pure, Result.andThen_ok, List.map_toArray, List.map_cons, List.map_nil, hd, hx, hr]
  exact hK

/-- The entries without the one at a place. -/
def Pg.del (l : List En) (i : Nat) : List En := l.take i ++ l.drop (i + 1)

theorem Pg.del_len {l : List En} {i k : Nat} (h : l.length = k + 1) (hi : i ≤ k) : (Pg.del l i).length = k := by
  unfold Pg.del
  simp
  omega

abbrev ez : List Value := [.string ⟨#[]⟩, .int .i64 0, .int .i64 0, .int .i64 0]

theorem row_drop {cur A D Z : List Value} {a d : Nat} (hA : cur.take a = A) (hd : D.length = d) (hZ : Z.length = 4) (hl : a + d + 4 ≤ cur.length) :
    (cur.take a ++ D ++ cur.drop (a + d)).take (a + d) ++ Z ++ (cur.take a ++ D ++ cur.drop (a + d)).drop (a + d + 4) = A ++ D ++ (Z ++ cur.drop (a + d + 4)) := by
  have h1 : (cur.take a).length = a := by rw [List.length_take]; omega
  have h2 : (cur.take a ++ D).length = a + d := by rw [List.length_append]; omega
  rw [List.take_append_of_le_length (by omega), List.take_of_length_le (by omega), hA, List.append_assoc (A ++ D), List.drop_append, ← hA]
  rw [List.drop_eq_nil_of_le (by omega), List.nil_append, h2, List.drop_drop, show a + d + (a + d + 4 - (a + d)) = a + d + 4 by omega]

set_option maxHeartbeats 2000000 in
theorem delete_any (q : Option Addr) (k c : Nat) (l : List En) (i base : Nat) (w : World) (hn : l.length = k + 1) (ho : OwnE w base (.slice q (k + 1) c) l) (hi : i ≤ k) (hb : (k + 1) * 40 ≤ 140737488355328) :
    Calls Tryz.prog 186 #[.slice q (k + 1) c, .int .i64 i, .int .i64 ((i : Int) + 1)] w fun r w' => ∃ v', r = .returned v' ∧ OwnE w' base v' (Pg.del l i) ∧ w.grownBy w' (Value.slice q (k + 1) c).ownBlock := by
  obtain ⟨ob, hob⟩ : ∃ ob, (Value.slice q (k + 1) c).ownBlock = ob := ⟨_, rfl⟩
  rw [hob]
  obtain ⟨i0, hi1, hz0, hz1, hz2⟩ := en_info
  rcases ho.2 with ⟨hv0, hn0⟩ | ⟨g, cp, cur, hvv, hbg, hgk, hnc2, hcm, hcur, htake⟩
  · omega
  simp only [Value.slice.injEq] at hvv
  obtain ⟨rfl, -, rfl⟩ := hvv
  rw [hn] at htake hnc2
  have hobg : ob = some g := hob.symm
  subst hobg
  have hglt : g < w.heap.size := (Array.getElem?_eq_some_iff.1 hgk).1
  have hAl : (flatE (l.take i)).length = i * 4 := by rw [flatE_len, List.length_take]; omega
  have hDl : (flatE (l.drop (i + 1))).length = (k - i) * 4 := by rw [flatE_len, List.length_drop, hn]; omega
  have hA : cur.toList.take (i * 4) = flatE (l.take i) := by
    have := congrArg (List.take (i * 4)) htake
    rw [List.take_take, show min (i * 4) ((k + 1) * 4) = i * 4 by omega] at this
    rw [this, flatE_split l i, List.take_append_of_le_length (by omega), List.take_of_length_le (by omega)]
  have hdrop : ∀ j u, (flatE (l.drop (i + 1)))[j]? = some u → w.cell? ⟨g, (i + 1) * 4 + j, none⟩ = some u := fun j u hj => by
    have := World.ownsRow.cells ho (g := g) rfl ((i + 1) * 4 + j) u (by
      rw [flatE_split l (i + 1), List.getElem?_append_right (by rw [flatE_len, List.length_take]; omega), flatE_len, List.length_take, show (i + 1) * 4 + j - min (i + 1) l.length * 4 = j by omega]
      exact hj)
    rw [Addr.add_lit, Nat.zero_add] at this
    exact this
  obtain ⟨W1, hW1⟩ : ∃ W1, W1 = w.drew.setRow g (cur.toList.take (i * 4) ++ flatE (l.drop (i + 1)) ++ cur.toList.drop (i * 4 + (k - i) * 4)).toArray := ⟨_, rfl⟩
  have hsrc : ∀ ad : Addr, (∀ j u, (flatE (l.drop (i + 1)))[j]? = some u → w.drew.cell? (ad.add j) = some u) → ∀ ty cc, (Builtin.append_ #[27, 27] ty #[.slice (some ⟨g, 0, none⟩) i c, .slice (some ad) (k - i) cc]).run Tryz.prog w.drew = .ok (.slice (some ⟨g, 0, none⟩) k c) W1 := fun ad had ty cc => by
    have := run_append_room (P := Tryz.prog) w.drew 27 ty 33 i0 Tryz.underlying27 hi1 g i c cur hgk ad (k - i) cc (flatE (l.drop (i + 1))) (by rw [hz1, hDl]) had (flatE_one _) (by omega) (by rw [hz1, hDl, hcur]; omega)
    rw [this, hW1, hz1, hDl, show i + (k - i) = k by omega]
  have hg1 : Bk W1 g 33 (cur.toList.take (i * 4) ++ flatE (l.drop (i + 1)) ++ cur.toList.drop (i * 4 + (k - i) * 4)).toArray := by rw [hW1]; exact Bk.setRow (w := w.drew) hgk _
  have hsz1 : (cur.toList.take (i * 4) ++ flatE (l.drop (i + 1)) ++ cur.toList.drop (i * 4 + (k - i) * 4)).length = c * 4 := by
    simp only [List.length_append, List.length_take, List.length_drop, Array.length_toList, hcur, hDl]; omega
  obtain ⟨W2, hW2⟩ : ∃ W2, W2 = W1.setRow g ((cur.toList.take (i * 4) ++ flatE (l.drop (i + 1)) ++ cur.toList.drop (i * 4 + (k - i) * 4)).take (i * 4 + (k - i) * 4) ++ ez ++ (cur.toList.take (i * 4) ++ flatE (l.drop (i + 1)) ++ cur.toList.drop (i * 4 + (k - i) * 4)).drop (i * 4 + (k - i) * 4 + 4)).toArray := ⟨_, rfl⟩
  have hcl : ∀ ty cc, (Builtin.clear_ #[27] ty #[.slice (some ⟨g, k * 4, none⟩) 1 cc]).run Tryz.prog W1 = .ok (.tuple #[]) W2 := fun ty cc => by
    have hst := run_storeCells_at Tryz.prog g (k * 4) 33 ez 0 _ W1 hg1 (by simp only [List.size_toArray, hsz1]; simp; omega) (by intro v hv; simp at hv; rcases hv with rfl | rfl | rfl <;> rfl)
    have hzc : (Builtin.zeroCells (Value.agg #[.string ⟨#[]⟩, .int .i64 0, .int .i64 0, .int .i64 0]).cells 1).toList = ez := by first | kernel_rfl | decide | (simp [Builtin.zeroCells, Value.cells, ez]; done)
    simp [Builtin.clear_, run_underlying Tryz.underlying27, zeroValue, typeInfo, hi1, hz0, hzc]
    rw [hst, hW2]
    simp only [Result.andThen]
    congr 3
    rw [show k * 4 = i * 4 + (k - i) * 4 by omega]
    rfl
  have hrow := row_drop (cur := cur.toList) (A := flatE (l.take i)) (D := flatE (l.drop (i + 1))) (Z := ez) (a := i * 4) (d := (k - i) * 4) hA hDl rfl (by rw [Array.length_toList, hcur]; omega)
  have hg2 : Bk W2 g 33 ((cur.toList.take (i * 4) ++ flatE (l.drop (i + 1)) ++ cur.toList.drop (i * 4 + (k - i) * 4)).take (i * 4 + (k - i) * 4) ++ ez ++ (cur.toList.take (i * 4) ++ flatE (l.drop (i + 1)) ++ cur.toList.drop (i * 4 + (k - i) * 4)).drop (i * 4 + (k - i) * 4 + 4)).toArray := by rw [hW2]; exact Bk.setRow hg1 _
  have HO : Hid (OwnE W2 base (.slice (some ⟨g, 0, none⟩) k c) (Pg.del l i)) := by
    rw [hrow] at hg2
    refine ⟨flatE_len _, .inr ⟨g, c, (flatE (l.take i) ++ flatE (l.drop (i + 1)) ++ (ez ++ cur.toList.drop (i * 4 + (k - i) * 4 + 4))).toArray, by rw [Pg.del_len hn hi], hbg, hg2, by rw [Pg.del_len hn hi]; omega, hcm, ?_, ?_⟩⟩
    · simp only [List.size_toArray, List.length_append, hAl, hDl, List.length_drop, Array.length_toList, hcur, List.length_cons, List.length_nil]; omega
    · rw [Pg.del_len hn hi]
      unfold Pg.del
      rw [flatE_append, List.take_append_of_le_length (by rw [List.length_append]; omega), List.take_of_length_le (by rw [List.length_append]; omega)]
  have HG : Hid (w.grownBy W2 (some g)) := by
    refine ⟨?_, ?_, ?_, ?_, fun j hj hjg => ?_⟩
    · rw [hW2, hW1]; rfl
    · rw [hW2, hW1]; rfl
    · rw [hW2, hW1]; rfl
    · have : W2.heap.size = w.heap.size := by rw [hW2, hW1]; simp [World.setRow]
      omega
    · have hne : j ≠ g := fun h => hjg (by rw [h])
      rw [hW2, hW1]; exact (setRow_other _ _ _ _ hne).trans (setRow_other _ _ _ _ hne)
  have j1 : (i : Int) ≤ (k : Int) + 1 := by omega
  have j2 : (i : Int) + 1 ≤ (k : Int) + 1 := by omega
  have j3 : (k : Int) + 1 ≤ (c : Int) := by omega
  have j4 : (0 : Int) ≤ (i : Int) + 1 := by omega
  have j5 : (0 : Int) ≤ (i : Int) := by omega
  have j6 : (i : Int) ≤ (i : Int) + 1 := by omega
  have j7 : ¬ (i : Int) = (i : Int) + 1 := by omega
  have j8 : (i : Int) ≤ (c : Int) := by omega
  have j9 : ¬ c = k := by omega
  have jA : (k : Int) ≤ (k : Int) + 1 := by omega
  have jB : ((i : Int) == (i : Int) + 1) = false := by simp; omega
  have jC : k ≤ c := by omega
  by_cases hce : c = i + 1
  · have hki : k = i := by omega
    have hself : W1 = w.drew := by
      rw [hW1]
      have hd0 : flatE (l.drop (i + 1)) = [] := List.eq_nil_of_length_eq_zero (by rw [hDl]; omega)
      rw [hd0, List.append_nil, show (k - i) * 4 = 0 by omega, Nat.add_zero, List.take_append_drop, Array.toArray_toList]
      exact setRow_self w.drew g cur 33 (0, 0) hgk
    rw [hself] at hcl
    subst hki
    rw [hce] at HO
    clear hself hsrc hdrop hA hrow hg2 hg1 hsz1 hW1 hW2 hAl hDl htake hcur hgk ho hn hob hglt hb hbg hi1 hz0 hz1 hz2
    go_enter Tryz.func186, Tryz.ntmps186
    go_wp2_with fail
    go_region
    go_wp2
    go_ret
    exact ⟨_, rfl, HO.out, HG.out⟩
  · have hl0 : (loadCellsFrom ⟨g, (i + 1) * 4, none⟩ 0 ((k - i) * 4) #[]).run Tryz.prog w.drew = .ok (flatE (l.drop (i + 1))).toArray w.drew := by
      have := run_loadCells_list (P := Tryz.prog) w.drew ⟨g, (i + 1) * 4, none⟩ (flatE (l.drop (i + 1))) (fun j u hj => by rw [Addr.add_lit]; exact hdrop j u hj)
      rw [hDl] at this
      exact this
    have hs0 : (storeCells ⟨g, i * 4, none⟩ (flatE (l.drop (i + 1)))).run Tryz.prog w.drew = .ok () W1 := by
      have := run_storeCells_at Tryz.prog g (i * 4) 33 (flatE (l.drop (i + 1))) 0 cur w.drew hgk (by rw [hDl, hcur]; omega) (flatE_one _)
      rw [this, hW1, hDl, Nat.add_zero]
    generalize flatE (l.drop (i + 1)) = Ds at hl0 hs0
    clear hsrc hdrop hA hrow hg2 hg1 hsz1 hW1 hW2 hAl hDl htake hcur hgk ho hn hob hglt hb hbg hi1 hz0 hz1 hz2
    go_enter Tryz.func186, Tryz.ntmps186
    go_wp2_with fail
    go_region
    go_wp2
    go_ret
    exact ⟨_, rfl, HO.out, HG.out⟩

end Go.Proofs.YtoehlgigidgfpaaGreat
