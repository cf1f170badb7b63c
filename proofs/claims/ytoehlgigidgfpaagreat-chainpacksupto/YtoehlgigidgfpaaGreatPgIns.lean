/- slices.Insert of one entry. -/
import Derived.Test.YtoehlgigidgfpaaGreatPgMg
import Derived.Lib.AppendZerosOnto
import Derived.Lib.Overlaps
import Derived.Laws.CopyRow
import Derived.Deep.RegionLaw
namespace Go.Proofs.YtoehlgigidgfpaaGreat
open Go.RowKit Go.Sort
set_option linter.unusedVariables false
set_option maxRecDepth 100000

/-- copy: entries over a part of a row. -/
theorem run_copyE (w : World) (ty : TypeId) (g o dLen dCap : Nat) (a : Addr) (sLen sCap : Nat) (cur : Array Value) (cs : List Value) (n : Nat) (hg : Bk w g 33 cur) (hn : n = Nat.min sLen dLen) (hl : cs.length = n * 4)
    (hsrc : ∀ j v, cs[j]? = some v → w.cell? (a.add j) = some v) (hfit : o + cs.length ≤ cur.size) (h1 : ∀ v ∈ cs, v.oneCell' = true) :
    (Builtin.copy_ #[27, 27] ty #[.slice (some ⟨g, o, none⟩) dLen dCap, .slice (some a) sLen sCap]).run Tryz.prog w =
      .ok (goInt n) (w.setRow g (cur.toList.take o ++ cs ++ cur.toList.drop (o + cs.length)).toArray) := by
  obtain ⟨i0, hi0, hz0, hz1, hz2⟩ := en_info
  have hload := run_loadCells_list (P := Tryz.prog) w a cs hsrc
  have hst := run_storeCells_at Tryz.prog g o 33 cs 0 cur w hg (by simpa using hfit) h1
  rw [hl] at hload
  simp [Builtin.copy_, run_underlying Tryz.underlying27, Builtin.lenOf, Builtin.firstCells, sizeOf, typeInfo, hi0, hz1, ← hn, hload, hst]

theorem step_copyE {ops : Array Oper} {o : Oper} {a : Act} {w : World} {K : Act → World → Prop} {Q : Exit → Act → World → Prop} {E : Prop}
    (hg : o.guard = none) (d x : Operand) (dT sT : TypeId) (hop : o.op = Op.call { callee := Callee.builtin Builtin.copy, args := #[d, x], argTypes := #[dT, sT] })
    (v u : Value) (hd : a.eval d = v) (hx : a.eval x = u) {v' : Value} {w' : World} (hr : (Builtin.copy_ #[dT, sT] o.type #[v, u]).run Tryz.prog w = .ok v' w') (hK : K (a.put o.dst v') w') :
    if Region.wanted o (yielded ops a.tmps) = true then Oper.wp Tryz.prog o a w K Q else E := by
  have hw : Region.wanted o (yielded ops a.tmps) = true := by simp [Region.wanted, hg]
  rw [if_pos hw]
  unfold Oper.wp
  simp [execOp, hop, resolve, invoke, builtin, hd, hx, hr, Result.andThen]
  exact hK

theorem wpList_copyE (w : World) {ops : Array Oper} {rest : List Oper} {o : Oper} {a : Act} {Q : Exit → Act → World → Prop} (hgd : o.guard = none) (d s : Operand) (t t' : TypeId)
    (ho : o.op = .call { callee := .builtin .copy, args := #[d, s], argTypes := #[t, t'] }) (v u : Value) (hd : a.eval d = v) (hs : a.eval s = u) {v' : Value} {w' : World}
    (hr : (Builtin.copy_ #[t, t'] o.type #[v, u]).run Tryz.prog w = .ok v' w') (h : wpList Tryz.prog ops Q rest (a.put o.dst v') w') : wpList Tryz.prog ops Q (o :: rest) a w :=
  wpList_plain hgd fun _ hK => by
    unfold Oper.wp execOp
    simp only [ho, resolve, invoke, builtin, Sem.run_bind, Sem.run_pure, Result.andThen_ok, List.map_toArray, List.map_cons, List.map_nil, hd, hs, hr]
    exact hK _ _ h

/-- The entries with one more at a place. -/
def Pg.ins (l : List En) (i : Nat) (e : En) : List En := l.take i ++ e :: l.drop i

theorem Pg.ins_end {l : List En} {e : En} : Pg.ins l l.length e = l ++ [e] := by
  unfold Pg.ins; simp

theorem flatE_ins (l : List En) (i : Nat) (e : En) : flatE (Pg.ins l i e) = flatE (l.take i) ++ (flatE [e] ++ flatE (l.drop i)) := by
  unfold Pg.ins
  rw [show e :: l.drop i = [e] ++ l.drop i from rfl, flatE_append, flatE_append]

theorem Pg.ins_len {l : List En} {i : Nat} {e : En} (h : i ≤ l.length) : (Pg.ins l i e).length = l.length + 1 := by
  unfold Pg.ins
  simp
  omega

theorem row_place {cur A D E : List Value} {a d : Nat} (hA : cur.take a = A) (hd : D.length = d) (hE : E.length = 4) (hl : a + 4 + d ≤ cur.length) :
    (cur.take (a + 4) ++ D ++ cur.drop (a + 4 + d)).take a ++ E ++ (cur.take (a + 4) ++ D ++ cur.drop (a + 4 + d)).drop (a + 4) = A ++ E ++ (D ++ cur.drop (a + 4 + d)) := by
  have h1 : (cur.take (a + 4)).length = a + 4 := by rw [List.length_take]; omega
  rw [List.append_assoc (cur.take (a + 4)), List.take_append_of_le_length (by omega), List.take_take, show min a (a + 4) = a by omega, hA, List.drop_append_of_le_length (by omega), List.drop_eq_nil_of_le (by omega), List.nil_append]

theorem row_fill {cur A D E : List Value} {a d : Nat} (hA : cur.take a = A) (hd : D.length = d) (hE : E.length = 4) (hl : a + 4 + d ≤ cur.length) :
    (cur.take a ++ E ++ cur.drop (a + 4)).take (a + 4) ++ D ++ (cur.take a ++ E ++ cur.drop (a + 4)).drop (a + 4 + d) = A ++ E ++ (D ++ cur.drop (a + 4 + d)) := by
  have h1 : (cur.take a).length = a := by rw [List.length_take]; omega
  have h2 : (cur.take a ++ E).length = a + 4 := by rw [List.length_append]; omega
  rw [List.take_append_of_le_length (by omega), List.take_of_length_le (by omega), hA, List.append_assoc, List.append_assoc, List.append_assoc]
  rw [← hA, List.append_assoc, List.drop_append, List.drop_eq_nil_of_le (by omega), h1, List.nil_append, List.drop_append, List.drop_eq_nil_of_le (by omega), hE, List.nil_append, List.drop_drop, show a + 4 + (a + 4 + d - a - 4) = a + 4 + d by omega]

set_option maxHeartbeats 2000000 in
theorem insert_any (q : Option Addr) (n c : Nat) (l : List En) (i : Nat) (e : En) (V base : Nat) (w : World) (hn : l.length = n) (ho : OwnE w base (.slice q n c) l) (hi : i ≤ n) (hbase : base ≤ w.heap.size)
    (hv : Bk w V 33 #[.string e.key, .int .i64 e.s, .int .i64 e.g, .int .i64 e.c]) (hne : (Value.slice q n c).ownBlock ≠ some V) (hb : (n + 1) * 40 ≤ 140737488355328) :
    Calls Tryz.prog 163 #[.slice q n c, .int .i64 i, .slice (some ⟨V, 0, none⟩) 1 1] w fun r w' => ∃ v', r = .returned v' ∧ OwnE w' base v' (Pg.ins l i e) ∧ w.grownBy w' (Value.slice q n c).ownBlock := by
  obtain ⟨ob, hob⟩ : ∃ ob, (Value.slice q n c).ownBlock = ob := ⟨_, rfl⟩
  rw [hob] at hne ⊢
  have hve : Ens w (some ⟨V, 0, none⟩) [e] := by
    intro _
    refine ⟨V, 0, rfl, fun j g hj => ?_⟩
    match j, hj with
    | 0, hj => simp at hj; subst hj; exact ⟨hv.cell 0, hv.cell 1, hv.cell 2, hv.cell 3⟩
    | k + 1, hj => simp at hj
  have hile : (i : Int) ≤ (n : Int) := by omega
  have hi0 : (0 : Int) ≤ (i : Int) := by omega
  have hseg := ho.seg
  have hnc := hseg.le
  have hici : (i : Int) ≤ (c : Int) := by omega
  by_cases hin : i = n
  · subst hin
    obtain ⟨v', w', hr, h2, h3, -⟩ := run_appE w base 27 (.slice q i c) l [e] (some ⟨V, 0, none⟩) 1 1 rfl hve (fun h => by cases h) ho (by rw [hn]; exact hb) hbase
    have HR : Hid _ := hr
    have HO : Hid (OwnE w' base v' (Pg.ins l i e)) := by rw [Hid, ← hn, Pg.ins_end]; exact h2
    have HG : Hid (w.grownBy w' ob) := by rw [Hid, ← hob]; exact h3
    clear hr h2 h3 ho hseg hve hv hne hob
    go_enter Tryz.func163, Tryz.ntmps163
    go_wp2_with (at_builtin; refine Lib.wpList_append_run _ rfl _ _ _ _ rfl _ _ rfl rfl _ _ HR.out ?_)
    all_goals go_ret
    all_goals exact ⟨_, rfl, HO.out, HG.out⟩
  · have hlt : i < n := by omega
    have hii : ¬ (i : Int) = (n : Int) := by omega
    rcases ho.2 with ⟨hv0, hn0⟩ | ⟨g, cp, cur, hvv, hbg, hgk, hnc2, hcm, hcur, htake⟩
    · omega
    simp only [Value.slice.injEq] at hvv
    obtain ⟨rfl, -, rfl⟩ := hvv
    rw [hn] at htake hnc2
    have hobg : ob = some g := hob.symm
    subst hobg
    have hgV : g ≠ V := fun h => hne (by rw [h])
    have hglt : g < w.heap.size := (Array.getElem?_eq_some_iff.1 hgk).1
    have hld : (l.drop i).length = n - i := by rw [List.length_drop, hn]
    have hcell : ∀ j u, (flatE l)[j]? = some u → w.cell? ⟨g, j, none⟩ = some u := fun j u hj => by
      have := World.ownsRow.cells ho (g := g) rfl j u hj
      rw [Addr.add_lit, Nat.zero_add] at this
      exact this
    have hdrop : ∀ j u, (flatE (l.drop i))[j]? = some u → w.cell? ⟨g, i * 4 + j, none⟩ = some u := fun j u hj => by
      refine hcell _ _ ?_
      rw [flatE_split l i, List.getElem?_append_right (by rw [flatE_len, List.length_take]; omega), flatE_len, List.length_take, show i * 4 + j - min i l.length * 4 = j by omega]
      exact hj
    have hvc : ∀ W : World, (W.heap[V]? = w.heap[V]?) → ∀ j v, (flatE [e])[j]? = some v → W.cell? ((⟨V, 0, none⟩ : Addr).add j) = some v := fun W hW j v hj => by
      have h0 : Bk W V 33 #[.string e.key, .int .i64 e.s, .int .i64 e.g, .int .i64 e.c] := hW.trans hv
      have he : Ens W (some ⟨V, 0, none⟩) [e] := by
        intro _
        refine ⟨V, 0, rfl, fun j g hj => ?_⟩
        match j, hj with
        | 0, hj => simp at hj; subst hj; exact ⟨h0.cell 0, h0.cell 1, h0.cell 2, h0.cell 3⟩
        | k + 1, hj => simp at hj
      exact he.news _ rfl j v hj
    by_cases hroom : n + 1 ≤ c
    · -- in place
      have hc1 : ¬ (c : Int) < (n : Int) + 1 := by omega
      have hc0 : decide ((c : Int) < (n : Int) + 1) = false := decide_eq_false hc1
      have hw1 : IntKind.i64.wrap ((n : Int) + 1) = (n : Int) + 1 := by rw [IntKind.wrap_i64]; omega
      have hw2 : IntKind.i64.wrap ((i : Int) + 1) = (i : Int) + 1 := by rw [IntKind.wrap_i64]; omega
      have hc2 : (n : Int) + 1 ≤ (c : Int) := by omega
      have hc3 : (i : Int) + 1 ≤ (n : Int) + 1 := by omega
      have hc4 : ¬ c = i + 1 := by omega
      have hc5 : ¬ c = i := by omega
      have hc6 : (i : Int) ≤ (n : Int) + 1 := by omega
      have hq1 : (0 : Int) ≤ (i : Int) + 1 := by omega
      have hsa : w.shape? V = some (33, 4) := by simp [World.shape?, show w.heap[V]? = _ from hv]
      have hsb : w.shape? g = some (33, cur.size) := by simp [World.shape?, hgk]
      have hov : ∀ lb cb, (callFunc 184 #[.slice (some ⟨V, 0, none⟩) 1 1, .slice (some ⟨g, (i + 1) * 4, none⟩) lb cb]).run Tryz.prog w = .ok (.value (.bool false)) w := fun lb cb => by
        rw [run_callFunc_extern Tryz.func184 (by kernel_rfl) (by kernel_rfl) (by kernel_rfl) (e := Extern.SlicesOverlaps.overlaps #[27, 27] #[4]) (by kernel_rfl),
          Lib.run_overlaps_apart w 27 4 33 Tryz.underlying27 4 en_size ⟨V, 0, none⟩ ⟨g, (i + 1) * 4, none⟩ 1 1 lb cb (fun h => hgV h.symm) 33 33 4 cur.size hsa hsb (by omega) (hv.frozen 0) (hv.frozen 4)]
        rfl
      have hDl : (flatE (l.drop i)).length = (n - i) * 4 := by rw [flatE_len, hld]
      obtain ⟨W1, hW1⟩ : ∃ W1, W1 = w.drew.setRow g (cur.toList.take (i * 4 + 4) ++ flatE (l.drop i) ++ cur.toList.drop (i * 4 + 4 + (n - i) * 4)).toArray := ⟨_, rfl⟩
      have hcp1 : ∀ ty dc sc, (Builtin.copy_ #[27, 27] ty #[.slice (some ⟨g, (i + 1) * 4, none⟩) (n - i) dc, .slice (some ⟨g, i * 4, none⟩) (n + 1 - i) sc]).run Tryz.prog w.drew = .ok (goInt ((n - i : Nat) : Int)) W1 := fun ty dc sc => by
        have := run_copyE w.drew ty g ((i + 1) * 4) (n - i) dc ⟨g, i * 4, none⟩ (n + 1 - i) sc cur (flatE (l.drop i)) (n - i) hgk (by simp only [Nat.min_def]; split <;> omega) hDl (fun j v hj => by rw [Addr.add_lit]; exact hdrop j v hj) (by rw [hDl, hcur]; omega) (flatE_one _)
        rw [this, hW1, hDl, show (i + 1) * 4 = i * 4 + 4 by omega]
      have hg1 : Bk W1 g 33 (cur.toList.take (i * 4 + 4) ++ flatE (l.drop i) ++ cur.toList.drop (i * 4 + 4 + (n - i) * 4)).toArray := by rw [hW1]; exact Bk.setRow (w := w.drew) hgk _
      have hV1 : W1.heap[V]? = w.heap[V]? := by rw [hW1]; exact setRow_other _ _ _ _ (fun h => hgV h.symm)
      have hEl : (flatE [e]).length = 4 := rfl
      obtain ⟨W2, hW2⟩ : ∃ W2, W2 = W1.setRow g ((cur.toList.take (i * 4 + 4) ++ flatE (l.drop i) ++ cur.toList.drop (i * 4 + 4 + (n - i) * 4)).take (i * 4) ++ flatE [e] ++ (cur.toList.take (i * 4 + 4) ++ flatE (l.drop i) ++ cur.toList.drop (i * 4 + 4 + (n - i) * 4)).drop (i * 4 + 4)).toArray := ⟨_, rfl⟩
      have hszl : (cur.toList.take (i * 4 + 4) ++ flatE (l.drop i) ++ cur.toList.drop (i * 4 + 4 + (n - i) * 4)).length = c * 4 := by
        rw [List.length_append, List.length_append, List.length_take, List.length_drop, hDl, Array.length_toList, hcur]; omega
      have hcp2 : ∀ ty dc, (Builtin.copy_ #[27, 27] ty #[.slice (some ⟨g, i * 4, none⟩) (n + 1 - i) dc, .slice (some ⟨V, 0, none⟩) 1 1]).run Tryz.prog W1 = .ok (goInt 1) W2 := fun ty dc => by
        have := run_copyE W1 ty g (i * 4) (n + 1 - i) dc ⟨V, 0, none⟩ 1 1 _ (flatE [e]) 1 hg1 (by simp only [Nat.min_def]; split <;> omega) rfl (hvc W1 hV1) (by rw [hEl, List.size_toArray, hszl]; omega) (flatE_one _)
        rw [this, hW2]
        rfl
      have hrow := row_place (cur := cur.toList) (A := flatE (l.take i)) (D := flatE (l.drop i)) (E := flatE [e]) (a := i * 4) (d := (n - i) * 4) (by
        have := congrArg (List.take (i * 4)) htake
        rw [List.take_take, show min (i * 4) (n * 4) = i * 4 by omega] at this
        rw [this, flatE_split l i, List.take_append_of_le_length (by rw [flatE_len, List.length_take]; omega), List.take_of_length_le (by rw [flatE_len, List.length_take]; omega)]) hDl hEl (by rw [Array.length_toList, hcur]; omega)
      have HO : Hid (OwnE W2 base (.slice (some ⟨g, 0, none⟩) (n + 1) c) (Pg.ins l i e)) := by
        have hg2 : Bk W2 g 33 ((cur.toList.take (i * 4 + 4) ++ flatE (l.drop i) ++ cur.toList.drop (i * 4 + 4 + (n - i) * 4)).take (i * 4) ++ flatE [e] ++ (cur.toList.take (i * 4 + 4) ++ flatE (l.drop i) ++ cur.toList.drop (i * 4 + 4 + (n - i) * 4)).drop (i * 4 + 4)).toArray := by rw [hW2]; exact Bk.setRow hg1 _
        rw [hrow] at hg2
        refine ⟨flatE_len _, .inr ⟨g, c, (flatE (l.take i) ++ flatE [e] ++ (flatE (l.drop i) ++ cur.toList.drop (i * 4 + 4 + (n - i) * 4))).toArray, by rw [Pg.ins_len (by omega), hn], hbg, hg2, by rw [Pg.ins_len (by omega), hn]; exact hroom, hcm, ?_, ?_⟩⟩
        · simp only [List.size_toArray, List.length_append, flatE_len, List.length_take, List.length_drop, Array.length_toList, List.length_singleton]; rw [hcur, hn]; omega
        · rw [flatE_ins, Pg.ins_len (by omega), hn]
          rw [← List.append_assoc, ← List.append_assoc, List.take_append_of_le_length (by rw [List.length_append, List.length_append, flatE_len, List.length_take, hEl, hDl]; omega), List.take_of_length_le (by rw [List.length_append, List.length_append, flatE_len, List.length_take, hEl, hDl]; omega), List.append_assoc]
      have HG : Hid (w.grownBy W2 (some g)) := by
        rw [hW2, hW1, setRow_setRow]
        exact ⟨rfl, rfl, rfl, by simp [World.setRow], fun k hk hkg => setRow_other _ _ _ _ (fun h => hkg (by rw [h]))⟩
      clear hrow hszl hW1 hW2 hV1 hg1 hvc hdrop hcell hsa hsb htake hcur hgk ho hseg hve hv hDl hEl hn hne hob hglt hb hbase hbg
      go_enter Tryz.func163, Tryz.ntmps163
      go_wp2_with (simp only [hov])
      go_region
      go_wp2
      go_ret
      exact ⟨_, rfl, HO.out, HG.out⟩
    · -- no room: a new row
      obtain ⟨i0, hi1, hz0, hz1, hz2⟩ := en_info
      have hcn : c = n := by omega
      have hc1 : (c : Int) < (n : Int) + 1 := by omega
      have hc5 : ¬ c = i := by omega
      have hw1 : IntKind.i64.wrap ((n : Int) + 1) = (n : Int) + 1 := by rw [IntKind.wrap_i64]; omega
      have hw2 : IntKind.i64.wrap ((i : Int) + 1) = (i : Int) + 1 := by rw [IntKind.wrap_i64]; omega
      have hw3 : IntKind.i64.wrap ((n : Int) + 1 - (i : Int)) = (n : Int) + 1 - (i : Int) := by rw [IntKind.wrap_i64]; omega
      have hAl : (flatE (l.take i)).length = i * 4 := by rw [flatE_len, List.length_take]; omega
      have hDl : (flatE (l.drop i)).length = (n - i) * 4 := by rw [flatE_len, hld]
      have hEl : (flatE [e]).length = 4 := rfl
      have hold : (Builtin.firstCells i0.size i (.slice (some ⟨g, 0, none⟩) i c)).run Tryz.prog w.drew = .ok (flatE (l.take i)).toArray w.drew := run_firstCells_some w.drew i0.size i ⟨g, 0, none⟩ i c (flatE (l.take i)) (by rw [hz1, hAl]) (fun j v hj => by
        rw [Addr.add_lit, Nat.zero_add]
        refine hcell j v ?_
        rw [flatE_split l i]
        exact (List.getElem?_append_left (List.getElem?_eq_some_iff.1 hj).1).trans hj)
      have hr := fun ty => Lib.run_append_grow_zeros (P := Tryz.prog) w 27 3 ty 33 i0 _ .i64 .i64 Tryz.underlying27 Tryz.underlying3 hi1 hz0 (some ⟨g, 0, none⟩) i c (flatE (l.take i)) hold (n + 1 - i) (by omega) (by omega) (by omega) (by omega) (by rw [hz2]; omega) (by rw [hz2, show i + (n + 1 - i) = n + 1 by omega]; exact growslice_fits (by omega) hb)
      have hge := grownCap_ge w (n + 1) c 33
      have hgm := grownCap_le_maxLen w (n + 1) c 33 (by unfold maxLen; omega)
      rw [show i + (n + 1 - i) = n + 1 by omega] at hr
      generalize grownCap w (n + 1) c 33 = G at hr hge hgm
      obtain ⟨C, hC⟩ : ∃ C : Array Value, C = (flatE (l.take i)).toArray ++ Builtin.zeroCells (Value.agg #[.string ⟨#[]⟩, .int .i64 0, .int .i64 0, .int .i64 0]).cells (n + 1 - i) ++ Builtin.zeroCells (Value.agg #[.string ⟨#[]⟩, .int .i64 0, .int .i64 0, .int .i64 0]).cells (G - (n + 1)) := ⟨_, rfl⟩
      have hz4 : (Value.agg #[.string ⟨#[]⟩, .int .i64 0, .int .i64 0, .int .i64 0]).cells.size = 4 := rfl
      have hCs : C.size = G * 4 := by rw [hC]; simp only [Array.size_append, List.size_toArray, size_zeroCells, hz4, hAl]; omega
      have hCt : C.toList.take (i * 4) = flatE (l.take i) := by
        rw [hC]
        simp only [Array.toList_append, List.append_assoc]
        rw [← hAl]
        exact List.take_left
      rw [← hC] at hr
      obtain ⟨W0, hW0⟩ : ∃ W0, W0 = w.drew.alloc (.cells C 33) := ⟨_, rfl⟩
      rw [← hW0] at hr
      have hg0 : Bk W0 w.heap.size 33 C := by rw [hW0]; exact Bk.new w.drew _ _
      have hlt0 : V < w.heap.size := hv.lt
      have hold0 : ∀ k, k < w.heap.size → W0.heap[k]? = w.heap[k]? := fun k hk => by rw [hW0]; exact Below.heap_alloc w.drew _ k hk
      have hcp1 : ∀ ty dc, (Builtin.copy_ #[27, 27] ty #[.slice (some ⟨w.heap.size, i * 4, none⟩) (n + 1 - i) dc, .slice (some ⟨V, 0, none⟩) 1 1]).run Tryz.prog W0 = .ok (goInt 1) (W0.setRow w.heap.size (C.toList.take (i * 4) ++ flatE [e] ++ C.toList.drop (i * 4 + 4)).toArray) := fun ty dc => by
        have := run_copyE W0 ty w.heap.size (i * 4) (n + 1 - i) dc ⟨V, 0, none⟩ 1 1 C (flatE [e]) 1 hg0 (by simp only [Nat.min_def]; split <;> omega) rfl (hvc W0 (hold0 V hlt0)) (by rw [hEl, hCs]; omega) (flatE_one _)
        rw [this]
        rfl
      obtain ⟨W1, hW1⟩ : ∃ W1, W1 = W0.setRow w.heap.size (C.toList.take (i * 4) ++ flatE [e] ++ C.toList.drop (i * 4 + 4)).toArray := ⟨_, rfl⟩
      rw [← hW1] at hcp1
      have hg1 : Bk W1 w.heap.size 33 (C.toList.take (i * 4) ++ flatE [e] ++ C.toList.drop (i * 4 + 4)).toArray := by rw [hW1]; exact Bk.setRow hg0 _
      have hold1 : ∀ k, k < w.heap.size → W1.heap[k]? = w.heap[k]? := fun k hk => by rw [hW1]; exact (setRow_other _ _ _ _ (by omega)).trans (hold0 k hk)
      have hsz1 : (C.toList.take (i * 4) ++ flatE [e] ++ C.toList.drop (i * 4 + 4)).length = G * 4 := by
        simp only [List.length_append, List.length_take, List.length_drop, Array.length_toList, hCs, hEl]; omega
      obtain ⟨W2, hW2⟩ : ∃ W2, W2 = W1.drew.setRow w.heap.size ((C.toList.take (i * 4) ++ flatE [e] ++ C.toList.drop (i * 4 + 4)).take (i * 4 + 4) ++ flatE (l.drop i) ++ (C.toList.take (i * 4) ++ flatE [e] ++ C.toList.drop (i * 4 + 4)).drop (i * 4 + 4 + (n - i) * 4)).toArray := ⟨_, rfl⟩
      have hcp2 : ∀ ty dc sc, (Builtin.copy_ #[27, 27] ty #[.slice (some ⟨w.heap.size, (i + 1) * 4, none⟩) (n - i) dc, .slice (some ⟨g, i * 4, none⟩) (n - i) sc]).run Tryz.prog W1.drew = .ok (goInt ((n - i : Nat) : Int)) W2 := fun ty dc sc => by
        have := run_copyE W1.drew ty w.heap.size ((i + 1) * 4) (n - i) dc ⟨g, i * 4, none⟩ (n - i) sc _ (flatE (l.drop i)) (n - i) hg1 (by simp only [Nat.min_def]; split <;> omega) hDl (fun j v hj => by
          rw [Addr.add_lit]
          have h1 := hdrop j v hj
          have hk : W1.drew.heap[g]? = w.heap[g]? := hold1 g hglt
          have h2 : Bk W1.drew g 33 cur := hk.trans hgk
          rw [show w.cell? ⟨g, i * 4 + j, none⟩ = cur[i * 4 + j]? from (Bk.cell (w := w) hgk _)] at h1
          rw [h2.cell]
          exact h1) (by rw [hDl, List.size_toArray, hsz1]; omega) (flatE_one _)
        rw [this, hW2, hDl, show (i + 1) * 4 = i * 4 + 4 by omega]
      have hrow := row_fill (cur := C.toList) (A := flatE (l.take i)) (D := flatE (l.drop i)) (E := flatE [e]) (a := i * 4) (d := (n - i) * 4) hCt hDl hEl (by rw [Array.length_toList, hCs]; omega)
      have hg2 : Bk W2 w.heap.size 33 ((C.toList.take (i * 4) ++ flatE [e] ++ C.toList.drop (i * 4 + 4)).take (i * 4 + 4) ++ flatE (l.drop i) ++ (C.toList.take (i * 4) ++ flatE [e] ++ C.toList.drop (i * 4 + 4)).drop (i * 4 + 4 + (n - i) * 4)).toArray := by rw [hW2]; exact Bk.setRow (w := W1.drew) hg1 _
      have HO : Hid (OwnE W2 base (.slice (some ⟨w.heap.size, 0, none⟩) (n + 1) G) (Pg.ins l i e)) := by
        rw [hrow] at hg2
        refine ⟨flatE_len _, .inr ⟨w.heap.size, G, (flatE (l.take i) ++ flatE [e] ++ (flatE (l.drop i) ++ C.toList.drop (i * 4 + 4 + (n - i) * 4))).toArray, by rw [Pg.ins_len (by omega), hn], hbase, hg2, by rw [Pg.ins_len (by omega), hn]; exact hge, hgm, ?_, ?_⟩⟩
        · simp only [List.size_toArray, List.length_append, flatE_len, List.length_take, List.length_drop, Array.length_toList, List.length_singleton]; rw [hCs, hn]; omega
        · rw [flatE_ins, Pg.ins_len (by omega), hn]
          rw [← List.append_assoc, ← List.append_assoc, List.take_append_of_le_length (by rw [List.length_append, List.length_append, flatE_len, List.length_take, hEl, hDl]; omega), List.take_of_length_le (by rw [List.length_append, List.length_append, flatE_len, List.length_take, hEl, hDl]; omega), List.append_assoc]
      have HG : Hid (w.grownBy W2 (some g)) := by
        refine ⟨?_, ?_, ?_, ?_, fun k hk _ => ?_⟩
        · rw [hW2, hW1, hW0]; rfl
        · rw [hW2, hW1, hW0]; rfl
        · rw [hW2, hW1, hW0]; rfl
        · exact Nat.le_of_lt hg2.lt
        · rw [hW2]; exact (setRow_other _ _ _ _ (by omega)).trans (hold1 k hk)
      have hri : ∀ ty, (Builtin.append_ #[27, 3] ty #[.slice (some ⟨g, 0, none⟩) i c, .int .i64 ((n : Int) + 1 - (i : Int))]).run Tryz.prog w = .ok (.slice (some ⟨w.heap.size, 0, none⟩) (n + 1) G) W0 := fun ty => by
        have := hr ty
        rw [show ((n + 1 - i : Nat) : Int) = (n : Int) + 1 - (i : Int) by omega] at this
        exact this
      have HR : Hid _ := hri
      have hc6 : (i : Int) ≤ (n : Int) + 1 := by omega
      have hc7 : (i : Int) + 1 ≤ (n : Int) + 1 := by omega
      have hc8 : ¬ G = i := by omega
      have hc9 : ¬ G = i + 1 := by omega
      have hc10 : (i : Int) ≤ (G : Int) := by omega
      have hq1 : (0 : Int) ≤ (i : Int) + 1 := by omega
      have hq2 : (0 : Int) ≤ (n : Int) + 1 - (i : Int) := by omega
      clear hrow hsz1 hW1 hW2 hW0 hg2 hg1 hg0 hvc hdrop hcell htake hcur hgk ho hseg hve hv hDl hEl hn hne hob hglt hb hbase hbg hr hri hold hold0 hold1 hC hCs hCt hcn hAl hge hgm hi1 hz0 hz1 hz2 hz4 hlt0 hld
      go_enter Tryz.func163, Tryz.ntmps163
      go_wp2_with (first | (at_builtin; refine Lib.wpList_append_run _ rfl _ _ _ _ rfl _ _ rfl rfl _ _ (HR.out _) ?_))
      go_region
      go_wp2
      go_ret
      exact ⟨_, rfl, HO.out, HG.out⟩

end Go.Proofs.YtoehlgigidgfpaaGreat
