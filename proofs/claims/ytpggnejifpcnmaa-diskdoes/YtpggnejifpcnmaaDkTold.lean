/- What is told is held against a list of ints. -/
import Derived.Test.YtpggnejifpcnmaaDkOpen
namespace Go.Proofs.Ytpggnejifpcnmaa
open Go.RowKit Go.Shelf Go.Maps
attribute [local go_sem] Oper.semAt_some
set_option linter.unusedVariables false

/-- Ints that a slice leads to. -/
def Its (w : World) (p : Option Addr) (ys : List Int) : Prop :=
  0 < ys.length → ∃ b o, p = some ⟨b, o, none⟩ ∧ ∀ i, i < ys.length → w.cell? ⟨b, o + i, none⟩ = some (.int .i64 (ys.getD i 0))

theorem Its.nil (w : World) (p : Option Addr) : Its w p [] := fun h => absurd h (Nat.lt_irrefl 0)

theorem Its.below {w w' : World} {p : Option Addr} {ys : List Int} (h : Its w p ys) {B : Nat} (hb : Below B w w') (hB : w.heap.size ≤ B) : Its w' p ys := by
  intro hl
  obtain ⟨b, o, rfl, hc⟩ := h hl
  refine ⟨b, o, rfl, fun i hi => ?_⟩
  have hh := hc i hi
  rw [hb.cell (p := ⟨b, o + i, none⟩) (Nat.lt_of_lt_of_le (World.block_lt_of_cell? w _ hh) hB)]
  exact hh

/-- What slices.Values handed back ahead goes through the ints. -/
theorem vals_stops_at {α : Type} {val : α → Int} (n : Nat) (hn : 1 ≤ n) {Bs m0 : Nat} {L : List α} {w0 w : World} (h : Goes val m0 w0 Bs L) (hb : Below w0.heap.size w0 w) :
    SeqStopsK Fence.wide n Try.prog 65 #[.pointer (some ⟨Bs, 0, none⟩)] (fun x : α => #[Value.int .i64 (val x)]) (KpI m0 w0.heap.size)
      (fun ys => ys = L) (fun pre => pre <+: L) L.length w := fun l J Jx W hW _ _ hY h0 => by
  obtain ⟨p, cap, hbx, hp⟩ := h.box
  have hlt := hbx.lt
  have hsz := hb.size
  have hc' : W.cell? ⟨Bs, 0, none⟩ = some (.slice p L.length cap) := (hW.cell (p := ⟨Bs, 0, none⟩) (by show Bs < w.heap.size; omega)).trans ((hb.cell (p := ⟨Bs, 0, none⟩) hlt).trans (by rw [hbx.cell]; rfl))
  by_cases h1 : 0 < L.length
  · obtain ⟨b, off, rfl, hb0, hb1, hcs⟩ := hp h1
    exact vals1_in val n hn l Bs m0 _ b off L.length cap L rfl h.reach h.base hlt hb0 hb1 J Jx hY W hc' (fun j x hx => (hW.cell (p := ⟨b, off + j, none⟩) (by show b < w.heap.size; omega)).trans ((hb.cell (p := ⟨b, off + j, none⟩) hb1).trans (hcs j x hx))) h0
  · obtain rfl : L = [] := List.eq_nil_of_length_eq_zero (by omega)
    exact (vals1_nil_in n l Bs J W p cap hc' h0).mono fun e W' ⟨he, hj⟩ => ⟨he, .inl ⟨_, rfl, hj⟩⟩

def ints (l : List Nat) : List Int := l.map (fun (i : Nat) => (i : Int))

theorem pf_snoc {ys : List Int} {pre : List Nat} (h : ints pre <+: ys) (hN : pre.length < ys.length) (x : Nat) : ints (pre ++ [x]) <+: ys ↔ (x : Int) = ys.getD pre.length 0 := by
  obtain ⟨t, rfl⟩ := h
  cases t with
  | nil => simp [ints] at hN
  | cons y t =>
    have e : (ints pre ++ y :: t).getD pre.length 0 = y := by
      simp [List.getD, ints]
    rw [e, ints, List.map_append]
    show ints pre ++ [(x : Int)] <+: ints pre ++ y :: t ↔ _
    rw [List.prefix_append_right_inj, List.cons_prefix_cons]
    simp

theorem pf_long {ys : List Int} {pre : List Nat} (hN : ys.length ≤ pre.length) (x : Nat) : ¬ ints (pre ++ [x]) <+: ys := by
  intro h
  have := h.length_le
  simp [ints] at this
  omega

theorem pf_all {ys : List Int} {L : List Nat} (h : ints L <+: ys) : (ints L = ys) ↔ L.length = ys.length := by
  constructor
  · intro e
    rw [← e]
    simp [ints]
  · intro e
    exact h.eq_of_length (by simpa [ints] using e)

structure Tl (w W : World) (q : Option Addr) (m c : Nat) (ys : List Int) (pre : List Nat) : Prop where
  b3 : Boxed W w.heap.size 70 (.slice q m c)
  b4 : Boxed W (w.heap.size + 1) 4 (.bool false)
  b5 : Boxed W (w.heap.size + 1 + 1) 3 (.int .i64 (pre.length : Int))
  below : Below w.heap.size w W
  pf : ints pre <+: ys

theorem Tl.abides {w W W' : World} {q : Option Addr} {k c : Nat} {ys : List Int} {pre : List Nat} {row : Option Nat} {m : Nat} (h : Tl w W q k c ys pre) (hm : w.heap.size ≤ m) (hg : W.grownBy W' row) (hr : ∀ r, row = some r → m ≤ r ∧ ∃ o : Obj, W.heap[r]? = some o ∧ o.isCells = false) : Tl w W' q k c ys pre where
  b3 := boxed_from h.b3 hg hr
  b4 := boxed_from h.b4 hg hr
  b5 := boxed_from h.b5 hg hr
  below := h.below.grown hg h.below.size (fun k hk => by have := (hr k hk).1; omega)
  pf := h.pf

theorem tl_start (w : World) (q : Option Addr) (m c : Nat) (ys : List Int) : ∃ W, W = ((w.alloc (Obj.cells #[Value.slice q m c] 70)).alloc (Obj.cells #[Value.bool false] 4)).alloc (Obj.cells #[Value.int IntKind.i64 0] 3) ∧ W.heap.size = w.heap.size + 3 ∧ Tl w W q m c ys [] := by
  have b1 : Below w.heap.size w (((w.alloc (Obj.cells #[Value.slice q m c] 70)).alloc (Obj.cells #[Value.bool false] 4)).alloc (Obj.cells #[Value.int IntKind.i64 0] 3)) := (((Below.refl _ w).alloc (Nat.le_refl _) _).alloc (by simp) _).alloc (by simp; omega) _
  refine ⟨_, rfl, by simp, ?_⟩
  have c0 := Bk.new w 70 #[Value.slice q m c]
  have c1 := Bk.new (w.alloc (Obj.cells #[Value.slice q m c] 70)) 4 #[Value.bool false]
  have c2 := Bk.new ((w.alloc (Obj.cells #[Value.slice q m c] 70)).alloc (Obj.cells #[Value.bool false] 4)) 3 #[Value.int IntKind.i64 0]
  simp only [World.size_alloc] at c1 c2
  exact ⟨(c0.alloc _).alloc _, c1.alloc _, c2, b1, List.nil_prefix⟩

set_option maxRecDepth 100000 in
set_option maxHeartbeats 4000000 in
theorem told_any {w : World} {Bs m0 : Nat} {L : List Nat} (hgo : Goes (fun i : Nat => (i : Int)) m0 w Bs L) (q : Option Addr) (m c : Nat) (ys : List Int) (hm : ys.length = m) (hq : Its w q ys) (hm47 : m ≤ 140737488355328) :
    Calls Try.prog 38 #[.func (.func 65) #[] #[.pointer (some ⟨Bs, 0, none⟩)], .slice q m c] w fun e w' => e = .returned (.bool (decide (ints L = ys))) ∧ Below w.heap.size w w' := by
  refine (callsIn_wide (n := 9)).1 ?_
  refine callsIn_of_wp_marks Try.func38 rfl trivial ?_ rfl
  simp only [Try.ntmps38, List.size_toArray, List.length_cons, List.length_nil, Nat.reduceAdd, Nat.reduceSub, Array.replicate_succ, Array.replicate_zero, List.push_toArray, List.append_toArray, List.nil_append, List.cons_append]
  have HG : Hid (Goes (fun i : Nat => (i : Int)) m0 w Bs L) := hgo
  have HQ : Hid (Its w q ys) := hq
  have HM : Hid (ys.length = m) := hm
  have hLr : L.length ≤ 4611686018427387904 := hgo.reach
  clear hgo hq hm
  gi_wp2
  obtain ⟨W3, hW3, hs3, hk3⟩ := tl_start w q m c ys
  rw [← hW3]
  clear hW3
  have hB3 := hk3.below
  refine wpIn_rangeFunc_ownF rfl (by omega) (gf := 65) (lb := #[.pointer (some ⟨Bs, 0, none⟩)]) rfl trivial (enters_of Try.func65 (by kernel_rfl) rfl)
    (vals_stops_at 8 (by omega) HG.out hB3) KpI.t (fun W l o o' hl _ _ _ k _ h2 => World.putObj_heap_other (by omega)) (Below.refl _ _) (fun _ => rfl)
    (fun pre W => Tl w W q m c ys pre)
    (fun cc pre W => (cc = .ret ∧ Boxed W (w.heap.size + 1) 4 (.bool false) ∧ ¬ ints pre <+: ys) ∧ Below w.heap.size w W)
    (fun s A B' row hs hg hr => hs.abides (m := W3.heap.size) (by omega) hg hr)
    (fun cc s A B row hs hg hr => ⟨⟨hs.1.1, boxed_from hs.1.2.1 hg hr, hs.1.2.2⟩, hs.2.grown hg hs.2.size (fun k hk => by have := (hr k hk).1; omega)⟩)
    hk3
    (fun x => { tmps := #[.func (.func 65) #[] #[.pointer (some ⟨Bs, 0, none⟩)], .slice q m c, undef, .pointer (some ⟨w.heap.size, 0, none⟩), .pointer (some ⟨w.heap.size + 1, 0, none⟩), .pointer (some ⟨w.heap.size + 1 + 1, 0, none⟩), .int .i64 (x : Int), .func (.func 65) #[] #[.pointer (some ⟨Bs, 0, none⟩)], .int .i64 (x : Int), undef, undef, undef, undef, undef, undef, undef, undef, undef, undef, undef, undef, undef, undef, undef, undef, undef, undef], defers := [] }) ?assign ?body ?done ?stop
  case assign =>
    intro l x W K hK
    gi_wp2
    exact hK
  case stop =>
    rintro D cc pre W hD hpre ⟨⟨rfl, hbx, hn⟩, hB⟩ hK
    have cr := hbx.cell
    gi_wp2
    refine ⟨by simp, .inl ⟨_, _, rfl, run_takeDeferred hK, ?_⟩⟩
    have hc5 := cell_kept cr (grownBy_putObj' _ D (.deferred none)) (fun r e => by cases e; exact ⟨_, hK, rfl⟩)
    have hf : decide (ints L = ys) = false := by
      refine decide_eq_false fun e => hn ?_
      obtain ⟨t, rfl⟩ := hpre
      rw [← e]
      exact ⟨ints t, by simp [ints]⟩
    rw [hf]
    refine ⟨.bool false, ?_, rfl, hB.trans (belowK_b (w := w) (Nat.le_refl _) W D _ _ (by omega) hK rfl rfl)⟩
    simp [results, Try.f38, go_sem, hc5]
  case body =>
    rintro l pre x W hls hpre
    have c3 := hls.b3.cell
    have c4 := hls.b4.cell
    have c5 := hls.b5.cell
    have f4 := hls.b4.frozen
    have f5 := hls.b5.frozen
    have hsz : w.heap.size + 3 ≤ W.heap.size := by have := hls.b5.lt; omega
    obtain ⟨N, hN⟩ : ∃ N, pre.length = N := ⟨_, rfl⟩
    rw [hN] at c5 hpre
    have HN : Hid (pre.length = N) := hN
    have HL : Hid (Tl w W q m c ys pre) := hls
    have HQW : Hid (Its W q ys) := HQ.out.below hls.below (Nat.le_refl _)
    clear hls hN hk3
    by_cases hlt : N < m
    · obtain ⟨b, o, rfl, hcs⟩ := HQW.out (by rw [HM.out]; omega)
      have cy := hcs N (by rw [HM.out]; exact hlt)
      have hlti : (N : Int) < (m : Int) := by omega
      have HPF := pf_snoc HL.out.pf (by rw [HN.out, HM.out]; exact hlt) x
      rw [HN.out] at HPF
      clear hcs
      by_cases hxy : (x : Int) = ys.getD N 0
      · have HP : Hid (ints (pre ++ [x]) <+: ys) := HPF.2 hxy
        have hb : ((x : Int) != ys.getD N 0) = false := by simp [hxy]
        clear HPF
        rw [← hxy] at cy
        clear hxy hb
        have hb : ((x : Int) != (x : Int)) = false := by simp
        gi_wp2
        refine ⟨KeepsOthers.setCell _ _ _, fun k h0 h1 => Below.heap_setCell _ _ _ _ (by simp; omega), ?_⟩
        exact {
          b3 := HL.out.b3.other (by omega) _
          b4 := HL.out.b4.other (by omega) _
          b5 := by
            rw [List.length_append, HN.out, show ((N + [x].length : Nat) : Int) = (N : Int) + 1 by simp]
            exact HL.out.b5.set _
          below := HL.out.below.setCell (p := ⟨w.heap.size + 1 + 1, 0, none⟩) (by simp; omega) _
          pf := HP.out }
      · have HP : Hid (¬ ints (pre ++ [x]) <+: ys) := fun h => hxy (HPF.1 h)
        clear HPF
        generalize ys.getD N 0 = y at *
        have hb : ((x : Int) != y) = true := by simpa using hxy
        clear hxy
        gi_wp2
        exact ⟨KeepsOthers.setCell _ _ _, ⟨rfl, HL.out.b4.set _, HP.out⟩, HL.out.below.setCell (p := ⟨w.heap.size + 1, 0, none⟩) (by simp) _⟩
    · have hlti : ¬ (N : Int) < (m : Int) := by omega
      have HP : Hid (¬ ints (pre ++ [x]) <+: ys) := pf_long (by rw [HN.out, HM.out]; omega) x
      gi_wp2
      exact ⟨KeepsOthers.setCell _ _ _, ⟨rfl, HL.out.b4.set _, HP.out⟩, HL.out.below.setCell (p := ⟨w.heap.size + 1, 0, none⟩) (by simp) _⟩
  case done =>
    rintro D zs W hD rfl hls hK
    have c3 := hls.b3.cell
    have c4 := hls.b4.cell
    have c5 := hls.b5.cell
    have f4 := hls.b4.frozen
    have HL : Hid (Tl w W q m c ys zs) := hls
    have HE : Hid (decide (ints zs = ys) = decide (zs.length = m)) := by
      rw [Hid, decide_eq_decide, pf_all hls.pf, HM.out]
    clear hls hk3
    by_cases hzm : zs.length = m
    · have hzb : ((zs.length : Int) == (m : Int)) = true := by simp [hzm]
      have HDT : Hid (decide (ints zs = ys) = true) := HE.out.trans (decide_eq_true hzm)
      clear hzm
      gi_wp2
      have hK' := (KeepsOthers.setCell W ⟨w.heap.size + 1, 0, none⟩ (.bool true)).same D _ hK rfl
      refine ⟨by simp, .inl ⟨_, _, rfl, run_takeDeferred hK', ?_⟩⟩
      have hc5 := cell_kept (World.cell?_setCell_same' W ⟨w.heap.size + 1, 0, none⟩ (.bool true) (by rw [c4]; rfl)) (grownBy_putObj' _ D (.deferred none)) (fun r e => by cases e; exact ⟨_, hK', rfl⟩)
      rw [HDT.out]
      refine ⟨.bool true, ?_, rfl, (HL.out.below.setCell (p := ⟨w.heap.size + 1, 0, none⟩) (by simp) _).trans (belowK_b (w := w) (Nat.le_refl _) _ D _ _ (by omega) hK' rfl rfl)⟩
      simp [results, Try.f38, go_sem, hc5]
    · have hzb : ((zs.length : Int) == (m : Int)) = false := by simp; omega
      have HDT : Hid (decide (ints zs = ys) = false) := HE.out.trans (decide_eq_false hzm)
      clear hzm
      gi_wp2
      have hK' := (KeepsOthers.setCell W ⟨w.heap.size + 1, 0, none⟩ (.bool false)).same D _ hK rfl
      refine ⟨by simp, .inl ⟨_, _, rfl, run_takeDeferred hK', ?_⟩⟩
      have hc5 := cell_kept (World.cell?_setCell_same' W ⟨w.heap.size + 1, 0, none⟩ (.bool false) (by rw [c4]; rfl)) (grownBy_putObj' _ D (.deferred none)) (fun r e => by cases e; exact ⟨_, hK', rfl⟩)
      rw [HDT.out]
      refine ⟨.bool false, ?_, rfl, (HL.out.below.setCell (p := ⟨w.heap.size + 1, 0, none⟩) (by simp) _).trans (belowK_b (w := w) (Nat.le_refl _) _ D _ _ (by omega) hK' rfl rfl)⟩
      simp [results, Try.f38, go_sem, hc5]

end Go.Proofs.Ytpggnejifpcnmaa
