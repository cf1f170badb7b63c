/- The ints that stand one behind the other in any bytes, with their places: all, or as many as are asked for. -/
import Derived.Test.YtcolmebpbjjehabOpen
import Derived.Test.YtcolmebpbjjehabIntsIt
namespace Go.Proofs.Ytcolmebpbjjehab
open Go.ChangeShapes Go.WideShapes Go.ChangeAt Go.RowKit Go.Shelf
open Go.ChangeMaps (open_string shut_string)
set_option linter.unusedVariables false
attribute [local go_sem] Oper.semAt_some

theorem boxed_abides {W W' : World} {row : Option Nat} {B m : Nat} {t : TypeId} {v : Value} (h : Boxed W B t v) (hg : W.grownBy W' row) (hr : ∀ r, row = some r → m ≤ r ∧ ∃ o : Obj, W.heap[r]? = some o ∧ o.isCells = false) : Boxed W' B t v :=
  h.kept hg fun e' => by
    obtain ⟨_, o, ho, hc⟩ := hr B e'.symm
    rw [show W.heap[B]? = _ from h] at ho
    cases ho
    cases hc

/-- What the caller's five boxes hold between two rounds. -/
structure Wk (s : Nat) (p : Option Addr) (len cap : Nat) (xs : List Int) (stop : Int) (pre : List (Nat × Int)) (W : World) (a : Nat) : Prop where
  run : Cd.run xs pre = some a
  le : a ≤ len
  b : Boxed W s 22 (.slice p len cap)
  stop : Boxed W (s + 1) 3 (.int .i64 stop)
  res : Boxed W (s + 1 + 1) 4 (.bool false)
  plc : Boxed W (s + 1 + 1 + 1) 3 (.int .i64 (a : Int))
  n : Boxed W (s + 1 + 1 + 1 + 1) 3 (.int .i64 (pre.length : Int))

/-- The world with the five boxes. -/
theorem boxes (w : World) (p : Option Addr) (len cap : Nat) (xs : List Int) (stop : Int) :
    ∃ W5, W5 = (((((w.alloc (Obj.cells #[Value.slice p len cap] 22)).alloc (Obj.cells #[Value.int IntKind.i64 stop] 3)).alloc (Obj.cells #[Value.bool false] 4)).alloc (Obj.cells #[Value.int IntKind.i64 0] 3)).alloc (Obj.cells #[Value.int IntKind.i64 0] 3))
      ∧ W5.heap.size = w.heap.size + 5 ∧ Below w.heap.size w W5 ∧ Wk w.heap.size p len cap xs stop [] W5 0 := by
  refine ⟨_, rfl, by simp, ?_, ?_⟩
  · exact (((((Below.refl _ w).alloc (Nat.le_refl _) _).alloc (by simp) _).alloc (by simp; omega) _).alloc (by simp; omega) _).alloc (by simp; omega) _
  · have b0 := Boxed.new w 22 (.slice p len cap)
    have b1 := Boxed.new (w.alloc (Obj.cells #[Value.slice p len cap] 22)) 3 (.int .i64 stop)
    have b2 := Boxed.new ((w.alloc (Obj.cells #[Value.slice p len cap] 22)).alloc (Obj.cells #[Value.int IntKind.i64 stop] 3)) 4 (.bool false)
    have b3 := Boxed.new (((w.alloc (Obj.cells #[Value.slice p len cap] 22)).alloc (Obj.cells #[Value.int IntKind.i64 stop] 3)).alloc (Obj.cells #[Value.bool false] 4)) 3 (.int .i64 0)
    have b4 := Boxed.new ((((w.alloc (Obj.cells #[Value.slice p len cap] 22)).alloc (Obj.cells #[Value.int IntKind.i64 stop] 3)).alloc (Obj.cells #[Value.bool false] 4)).alloc (Obj.cells #[Value.int IntKind.i64 0] 3)) 3 (.int .i64 0)
    simp only [World.size_alloc] at b1 b2 b3 b4
    exact ⟨rfl, Nat.zero_le _, (((b0.alloc _).alloc _).alloc _).alloc _, ((b1.alloc _).alloc _).alloc _, (b2.alloc _).alloc _, b3.alloc _, b4⟩

theorem Wk.below {s : Nat} {p : Option Addr} {len cap : Nat} {xs : List Int} {stop : Int} {pre : List (Nat × Int)} {W W' : World} {a : Nat} (h : Wk s p len cap xs stop pre W a) (hb : Below W.heap.size W W') : Wk s p len cap xs stop pre W' a :=
  ⟨h.run, h.le, (hb.block _ h.b.lt).trans h.b, (hb.block _ h.stop.lt).trans h.stop, (hb.block _ h.res.lt).trans h.res, (hb.block _ h.plc.lt).trans h.plc, (hb.block _ h.n.lt).trans h.n⟩

theorem Wk.abides {s m : Nat} {p : Option Addr} {len cap : Nat} {xs : List Int} {stop : Int} {pre : List (Nat × Int)} {W W' : World} {row : Option Nat} {a : Nat} (h : Wk s p len cap xs stop pre W a) (hg : W.grownBy W' row) (hr : ∀ r, row = some r → m ≤ r ∧ ∃ o : Obj, W.heap[r]? = some o ∧ o.isCells = false) : Wk s p len cap xs stop pre W' a :=
  ⟨h.run, h.le, boxed_abides h.b hg hr, boxed_abides h.stop hg hr, boxed_abides h.res hg hr, boxed_abides h.plc hg hr, boxed_abides h.n hg hr⟩

theorem below_abides {w0 W W' : World} {n0 m : Nat} {row : Option Nat} (h : Below n0 w0 W) (hn : n0 ≤ w0.heap.size) (hm : n0 ≤ m) (hg : W.grownBy W' row) (hr : ∀ r, row = some r → m ≤ r ∧ ∃ o : Obj, W.heap[r]? = some o ∧ o.isCells = false) : Below n0 w0 W' :=
  h.grown hg (Nat.le_trans hn h.size) (fun k e => Nat.le_trans hm (hr k e).1)

theorem KpI.set {m0 m1 k : Nat} (W : World) (v : Value) (h : k < m0) : KpI m0 m1 W (W.setCell ⟨k, 0, none⟩ v) := fun j h0 _ => Below.heap_setCell _ _ _ j (by show j ≠ k; omega)

set_option maxRecDepth 100000 in
set_option maxHeartbeats 2000000 in
theorem walks_any (p : Option Addr) (len cap : Nat) (xs : List Int) (stop : Int) (w : World) (hin : InB 140737488351232 w p len cap xs) :
    Calls Try.prog 10 #[.slice p len cap, .int .i64 stop] w fun e w' => e = .returned (.bool true) ∧ Below w.heap.size w w' := by
  have HI : Hid (InB 140737488351232 w p len cap xs) := hin
  have hle := hin.le
  have hcap := hin.room
  clear hin
  refine (callsIn_wide (n := 3)).1 ?_
  refine callsIn_of_wp_marks Try.func10 rfl trivial ?_ rfl
  simp only [Try.ntmps10, List.size_toArray, List.length_cons, List.length_nil, Nat.reduceAdd, Nat.reduceSub, Array.replicate_succ, Array.replicate_zero, List.push_toArray, List.append_toArray, List.nil_append, List.cons_append]
  gi_wp2_with fail
  obtain ⟨W5, hW5, hs5, hB5, hk5⟩ := boxes w p len cap xs stop
  rw [← hW5]
  clear hW5
  have HI5 : Hid (InB 140737488351232 W5 p len cap xs) := HI.out.below hB5
  refine ⟨trivial, ?_⟩
  refine (callsIn_wide.2 (ints_any p cap len xs _ HI5.out.lenq HI5.out.bys (by omega) HI5.out.nil)).mono ?_
  rintro e w1 ⟨Bs, v, rfl, HO1, hbx1, hBs, hb1⟩
  have hk1 := hk5.below hb1
  have hB1 := hB5.trans (hb1.mono hB5.size)
  have hz1 : W5.heap.size ≤ w1.heap.size := hb1.size
  gi_wp2
  refine wpIn_rangeFunc_ownF rfl (by omega) (gf := 36) (lb := #[.pointer (some ⟨Bs, 0, none⟩)]) rfl trivial (enters_of Try.func36 (by kernel_rfl) rfl)
    (ints_stops 2 (by omega) Bs W5.heap.size w1.heap.size len v xs w1 HI5.out.byte HO1 hbx1 hBs rfl) KpI.t (fun W l o o' hl _ _ _ k _ h2 => World.putObj_heap_other (by omega)) (Below.refl _ _) (fun _ => rfl)
    (fun pre W => (∃ a, Wk w.heap.size p len cap xs stop pre W a) ∧ Below w.heap.size w W)
    (fun c pre W => (c = .ret ∧ ∃ r, Boxed W (w.heap.size + 1 + 1) 4 (.bool r) ∧ (r = true ∨ Cd.run xs pre = none)) ∧ Below w.heap.size w W)
    (fun s A B row hs hg hr => ⟨⟨_, hs.1.choose_spec.abides hg hr⟩, below_abides hs.2 (Nat.le_refl _) (by omega) hg hr⟩)
    (fun c s A B row hs hg hr => ⟨⟨hs.1.1, _, boxed_abides hs.1.2.choose_spec.1 hg hr, hs.1.2.choose_spec.2⟩, below_abides hs.2 (Nat.le_refl _) (by omega) hg hr⟩)
    ⟨⟨0, hk1⟩, hB1⟩
    (fun x => { tmps := #[.slice p len cap, .int .i64 stop, .pointer (some ⟨w.heap.size, 0, none⟩), .pointer (some ⟨w.heap.size + 1, 0, none⟩), .pointer (some ⟨w.heap.size + 1 + 1, 0, none⟩), .pointer (some ⟨w.heap.size + 1 + 1 + 1, 0, none⟩), .pointer (some ⟨w.heap.size + 1 + 1 + 1 + 1, 0, none⟩), .int .i64 (x.1 : Int), .int .i64 x.2, undef, undef, undef, undef, undef, undef, .slice p len cap, .func (.func 36) #[] #[.pointer (some ⟨Bs, 0, none⟩)], .int .i64 (x.1 : Int), .int .i64 x.2, undef, undef, undef, undef, undef, undef, undef, undef, undef, undef, undef, undef, undef, undef, undef, undef, undef, undef, undef, undef, undef, undef, undef, undef, undef, undef, undef, undef, undef, undef, undef, undef, undef, undef, undef, undef, undef, undef], defers := [] }) ?assign ?body ?done ?stop
  case assign =>
    intro l x W K hK
    gi_wp2
    exact hK
  case body =>
    rintro l pre x W ⟨⟨a, hw⟩, hB⟩ hlt
    have HIW : Hid (InB 140737488351232 W p len cap xs) := HI.out.below hB
    obtain ⟨b0, o0, rfl, hcs0⟩ := HIW.out.bys (by rw [HIW.out.lenq]; omega)
    clear hcs0
    have ha := hw.le
    have cb := hw.b.cell
    have cs := hw.stop.cell
    have cr := hw.res.cell
    have ca := hw.plc.cell
    have cn := hw.n.cell
    have fr := hw.res.frozen
    have fa := hw.plc.frozen
    have fn := hw.n.frozen
    obtain ⟨N, hN⟩ : ∃ N, pre.length = N := ⟨_, rfl⟩
    rw [hN] at cn hlt
    have HN : Hid (pre.length = N) := hN
    have HW : Hid (Wk w.heap.size (some ⟨b0, o0, none⟩) len cap xs stop pre W a) := hw
    have HB : Hid (Below w.heap.size w W) := hB
    have hsz : w.heap.size + 5 ≤ W.heap.size := by have := hw.n.lt; omega
    clear hN hw hB
    have HDB : Hid (∀ y ∈ xs.drop a, 0 ≤ y ∧ y < 256) := drop_byte HIW.out.byte a
    have HDL : Hid ((xs.drop a).length = len - a) := by rw [Hid, List.length_drop, HIW.out.lenq]
    have HDY : Hid (Bys W (some ⟨b0, o0 + a, none⟩) (xs.drop a)) := by
      have := bys_part HIW.out.bys a (len - a) (by rw [HIW.out.lenq]; omega)
      rw [List.take_of_length_le (by rw [HDL.out]; exact Nat.le_refl _)] at this
      exact this
    have hf := Cd.dec_facts (xs.drop a) HDB.out
    rw [HDL.out] at hf
    have HST : Hid (Cd.run xs (pre ++ [x]) = Cd.step xs x a) := by rw [Hid, Cd.run_snoc, HW.out.run]; rfl
    by_cases hca : cap = a
    · obtain rfl : a = len := by omega
      subst hca
      have HE : Hid (xs.drop cap = []) := List.drop_eq_nil_of_le (by rw [HIW.out.lenq]; exact Nat.le_refl _)
      have HD : Hid (Cd.dec ([] : List Int) = (0, 0, 10)) := rfl
      have HNONE : Hid (Cd.run xs (pre ++ [x]) = none) := by
        rw [Hid, HST.out, Cd.step, HE.out, HD.out, if_neg (by simp)]
      clear hf
      gi_wp2_with fail
      refine ⟨trivial, ?_⟩
      refine (CallsIn.inRound l (callsIn_wide.2 (parse_any _ 0 0 [] _ rfl (Bys.nil _ _) (by omega) (by omega) (by simp)))).mono ?_
      rintro e w2 ⟨rfl, hw2⟩
      subst hw2
      rw [HD.out]
      unfold three
      gi_wp2
      exact ⟨KeepsOthers.setCell _ _ _, ⟨rfl, false, HW.out.res.set _, .inr HNONE.out⟩, HB.out.setCell (p := ⟨w.heap.size + 1 + 1, 0, none⟩) (by simp; omega) _⟩
    · obtain ⟨D, hD⟩ : ∃ D, Cd.dec (xs.drop a) = D := ⟨_, rfl⟩
      obtain ⟨d1, d2, d3⟩ := D
      rw [hD] at hf
      simp only at hf
      have HSTEP : Hid (Cd.run xs (pre ++ [x]) = if x.1 = a ∧ d3 = 0 ∧ d1 = x.2 then some (a + d2.toNat) else none) := by
        rw [Hid, HST.out, Cd.step, hD]
      have HD : Hid (Cd.dec (xs.drop a) = (d1, d2, d3)) := hD
      clear hD HST
      by_cases h3 : d3 = 0
      · subst h3
        have hf1 : 1 ≤ d2 ∧ d2 ≤ 9 ∧ d2 ≤ ((len - a : Nat) : Int) := by omega
        obtain ⟨s, rfl⟩ := Int.eq_ofNat_of_zero_le (show 0 ≤ d2 by omega)
        have hs1 : 1 ≤ s ∧ a + s ≤ len := by omega
        clear hf hf1
        by_cases hx1 : x.1 = a
        · have hx1b : ((x.1 : Int) != (a : Int)) = false := by simp [hx1]
          by_cases hx2 : x.2 = d1
          · have hx2b : (x.2 != d1) = false := by simp [hx2]
            have HRUN : Hid (Cd.run xs (pre ++ [x]) = some (a + s)) := by
              rw [HSTEP.out, Hid, if_pos ⟨hx1, rfl, hx2.symm⟩]
              rfl
            clear HSTEP hx1 hx2
            have hn1 : (N : Int) + 1 ≤ 9223372036854775807 := by omega
            have G2 : Hid (Wk w.heap.size (some ⟨b0, o0, none⟩) len cap xs stop (pre ++ [x]) ((W.setCell ⟨w.heap.size + 1 + 1 + 1, 0, none⟩ (.int .i64 ((a : Int) + (s : Int)))).setCell ⟨w.heap.size + 1 + 1 + 1 + 1, 0, none⟩ (.int .i64 ((N : Int) + 1))) (a + s)) := by
              refine ⟨HRUN.out, hs1.2, (HW.out.b.other (by omega) _).other (by omega) _, (HW.out.stop.other (by omega) _).other (by omega) _, (HW.out.res.other (by omega) _).other (by omega) _, ?_, ?_⟩
              · rw [show ((a + s : Nat) : Int) = (a : Int) + (s : Int) by omega]
                exact (HW.out.plc.set _).other (by omega) _
              · rw [List.length_append, HN.out, show ((N + [x].length : Nat) : Int) = (N : Int) + 1 by simp]
                exact (HW.out.n.other (by omega) _).set _
            have K2 : Hid (KeepsOthers W ((W.setCell ⟨w.heap.size + 1 + 1 + 1, 0, none⟩ (.int .i64 ((a : Int) + (s : Int)))).setCell ⟨w.heap.size + 1 + 1 + 1 + 1, 0, none⟩ (.int .i64 ((N : Int) + 1)))) := (KeepsOthers.setCell _ _ _).trans (KeepsOthers.setCell _ _ _)
            have B2 : Hid (Below w.heap.size w ((W.setCell ⟨w.heap.size + 1 + 1 + 1, 0, none⟩ (.int .i64 ((a : Int) + (s : Int)))).setCell ⟨w.heap.size + 1 + 1 + 1 + 1, 0, none⟩ (.int .i64 ((N : Int) + 1)))) := (HB.out.setCell (p := ⟨w.heap.size + 1 + 1 + 1, 0, none⟩) (by simp; omega) _).setCell (p := ⟨w.heap.size + 1 + 1 + 1 + 1, 0, none⟩) (by simp; omega) _
            have P2 : Hid (KpI W5.heap.size w1.heap.size W ((W.setCell ⟨w.heap.size + 1 + 1 + 1, 0, none⟩ (.int .i64 ((a : Int) + (s : Int)))).setCell ⟨w.heap.size + 1 + 1 + 1 + 1, 0, none⟩ (.int .i64 ((N : Int) + 1)))) := (KpI.set W _ (by omega)).t (KpI.set _ _ (by omega))
            by_cases hst : (N : Int) + 1 = stop
            · have hstb : ((N : Int) + 1 == stop) = true := by simpa using hst
              clear hst
              gi_wp2_with fail
              refine ⟨trivial, ?_⟩
              refine (CallsIn.inRound l (callsIn_wide.2 (parse_any _ (cap - a) (len - a) (xs.drop a) _ HDL.out HDY.out (by omega) (by omega) HDB.out))).mono ?_
              rintro e w2 ⟨rfl, hw2⟩
              subst hw2
              rw [HD.out]
              unfold three
              gi_wp2
              exact ⟨K2.out.trans (KeepsOthers.setCell _ _ _), ⟨rfl, true, G2.out.res.set _, .inl rfl⟩, B2.out.setCell (p := ⟨w.heap.size + 1 + 1, 0, none⟩) (by simp; omega) _⟩
            · have hstb : ((N : Int) + 1 == stop) = false := by simpa using hst
              clear hst
              gi_wp2_with fail
              refine ⟨trivial, ?_⟩
              refine (CallsIn.inRound l (callsIn_wide.2 (parse_any _ (cap - a) (len - a) (xs.drop a) _ HDL.out HDY.out (by omega) (by omega) HDB.out))).mono ?_
              rintro e w2 ⟨rfl, hw2⟩
              subst hw2
              rw [HD.out]
              unfold three
              gi_wp2
              exact ⟨K2.out, P2.out, ⟨_, G2.out⟩, B2.out⟩
          · have hx2b : (x.2 != d1) = true := by simpa using hx2
            have HNONE : Hid (Cd.run xs (pre ++ [x]) = none) := by rw [HSTEP.out, Hid, if_neg (fun h => hx2 h.2.2.symm)]
            clear HSTEP hx1 hx2
            gi_wp2_with fail
            refine ⟨trivial, ?_⟩
            refine (CallsIn.inRound l (callsIn_wide.2 (parse_any _ (cap - a) (len - a) (xs.drop a) _ HDL.out HDY.out (by omega) (by omega) HDB.out))).mono ?_
            rintro e w2 ⟨rfl, hw2⟩
            subst hw2
            rw [HD.out]
            unfold three
            gi_wp2
            exact ⟨KeepsOthers.setCell _ _ _, ⟨rfl, false, HW.out.res.set _, .inr HNONE.out⟩, HB.out.setCell (p := ⟨w.heap.size + 1 + 1, 0, none⟩) (by simp; omega) _⟩
        · have hx1b : ((x.1 : Int) != (a : Int)) = true := by simp; omega
          have HNONE : Hid (Cd.run xs (pre ++ [x]) = none) := by rw [HSTEP.out, Hid, if_neg (fun h => hx1 h.1)]
          clear HSTEP hx1
          gi_wp2_with fail
          refine ⟨trivial, ?_⟩
          refine (CallsIn.inRound l (callsIn_wide.2 (parse_any _ (cap - a) (len - a) (xs.drop a) _ HDL.out HDY.out (by omega) (by omega) HDB.out))).mono ?_
          rintro e w2 ⟨rfl, hw2⟩
          subst hw2
          rw [HD.out]
          unfold three
          gi_wp2
          exact ⟨KeepsOthers.setCell _ _ _, ⟨rfl, false, HW.out.res.set _, .inr HNONE.out⟩, HB.out.setCell (p := ⟨w.heap.size + 1 + 1, 0, none⟩) (by simp; omega) _⟩
      · have h3b : (d3 != 0) = true := by simpa using h3
        have HNONE : Hid (Cd.run xs (pre ++ [x]) = none) := by rw [HSTEP.out, Hid, if_neg (fun h => h3 h.2.1)]
        clear HSTEP hf h3
        gi_wp2_with fail
        refine ⟨trivial, ?_⟩
        refine (CallsIn.inRound l (callsIn_wide.2 (parse_any _ (cap - a) (len - a) (xs.drop a) _ HDL.out HDY.out (by omega) (by omega) HDB.out))).mono ?_
        rintro e w2 ⟨rfl, hw2⟩
        subst hw2
        rw [HD.out]
        unfold three
        gi_wp2
        exact ⟨KeepsOthers.setCell _ _ _, ⟨rfl, false, HW.out.res.set _, .inr HNONE.out⟩, HB.out.setCell (p := ⟨w.heap.size + 1 + 1, 0, none⟩) (by simp; omega) _⟩
  case done =>
    rintro D ys W hD ⟨a, hrun, hne⟩ ⟨⟨a', hw⟩, hB⟩ hK
    obtain rfl : a = a' := by
      have := hw.run
      rw [hrun] at this
      simpa using this
    have HIW : Hid (InB 140737488351232 W p len cap xs) := HI.out.below hB
    have ha := hw.le
    have cb := hw.b.cell
    have cr := hw.res.cell
    have ca := hw.plc.cell
    have fr := hw.res.frozen
    have HB : Hid (Below w.heap.size w W) := hB
    have HW : Hid _ := hw
    have HDB : Hid (∀ y ∈ xs.drop a, 0 ≤ y ∧ y < 256) := drop_byte HIW.out.byte a
    have HDL : Hid ((xs.drop a).length = len - a) := by rw [Hid, List.length_drop, HIW.out.lenq]
    clear hw hB
    by_cases hlt : a < len
    · obtain ⟨b0, o0, rfl, hcs0⟩ := HIW.out.bys (by rw [HIW.out.lenq]; omega)
      clear hcs0
      have hca : ¬ cap = a := by omega
      have HDY : Hid (Bys W (some ⟨b0, o0 + a, none⟩) (xs.drop a)) := by
        have := bys_part HIW.out.bys a (len - a) (by rw [HIW.out.lenq]; omega)
        rw [List.take_of_length_le (by rw [HDL.out]; exact Nat.le_refl _)] at this
        exact this
      obtain ⟨Dd, hD0⟩ : ∃ Dd, Cd.dec (xs.drop a) = Dd := ⟨_, rfl⟩
      obtain ⟨d1, d2, d3⟩ := Dd
      rw [hD0] at hne
      simp only at hne
      have hd3 : (d3 != 0) = true := by simpa using hne
      have HD : Hid (Cd.dec (xs.drop a) = (d1, d2, d3)) := hD0
      clear hD0 hne
      gi_wp2_with fail
      refine ⟨trivial, ?_⟩
      refine (callsIn_wide.2 (parse_any _ (cap - a) (len - a) (xs.drop a) _ HDL.out HDY.out (by omega) (by omega) HDB.out)).mono ?_
      rintro e w2 ⟨rfl, hw2⟩
      subst hw2
      rw [HD.out]
      unfold three
      gi_wp2
      have hK' := (KeepsOthers.setCell w2 ⟨w.heap.size + 1 + 1, 0, none⟩ (.bool true)).same D _ hK rfl
      refine ⟨by simp, .inl ⟨_, _, rfl, run_takeDeferred hK', ?_⟩⟩
      have hc5 := cell_kept (World.cell?_setCell_same' w2 ⟨w.heap.size + 1 + 1, 0, none⟩ (.bool true) (by rw [cr]; rfl)) (grownBy_putObj' _ D (.deferred none)) (fun r e => by cases e; exact ⟨_, hK', rfl⟩)
      refine ⟨.bool true, ?_, rfl, (HB.out.setCell (p := ⟨w.heap.size + 1 + 1, 0, none⟩) (by simp; omega) _).trans (belowK_b (w := w) (Nat.le_refl _) _ D _ _ (by omega) hK' rfl rfl)⟩
      simp [results, Try.f10, go_sem, hc5]
    · obtain rfl : a = len := by omega
      have HD : Hid (Cd.dec ([] : List Int) = (0, 0, 10)) := rfl
      cases p with
      | none =>
        obtain ⟨rfl, rfl⟩ := HIW.out.nil rfl
        gi_wp2_with fail
        refine ⟨trivial, ?_⟩
        refine (callsIn_wide.2 (parse_any _ 0 0 [] _ rfl (Bys.nil _ _) (by omega) (by omega) (by simp))).mono ?_
        rintro e w2 ⟨rfl, hw2⟩
        subst hw2
        rw [HD.out]
        unfold three
        gi_wp2
        have hK' := (KeepsOthers.setCell w2 ⟨w.heap.size + 1 + 1, 0, none⟩ (.bool true)).same D _ hK rfl
        refine ⟨by simp, .inl ⟨_, _, rfl, run_takeDeferred hK', ?_⟩⟩
        have hc5 := cell_kept (World.cell?_setCell_same' w2 ⟨w.heap.size + 1 + 1, 0, none⟩ (.bool true) (by rw [cr]; rfl)) (grownBy_putObj' _ D (.deferred none)) (fun r e => by cases e; exact ⟨_, hK', rfl⟩)
        refine ⟨.bool true, ?_, rfl, (HB.out.setCell (p := ⟨w.heap.size + 1 + 1, 0, none⟩) (by simp; omega) _).trans (belowK_b (w := w) (Nat.le_refl _) _ D _ _ (by omega) hK' rfl rfl)⟩
        simp [results, Try.f10, go_sem, hc5]
      | some x =>
        by_cases hca : cap = a
        · subst hca
          gi_wp2_with fail
          refine ⟨trivial, ?_⟩
          refine (callsIn_wide.2 (parse_any _ 0 0 [] _ rfl (Bys.nil _ _) (by omega) (by omega) (by simp))).mono ?_
          rintro e w2 ⟨rfl, hw2⟩
          subst hw2
          rw [HD.out]
          unfold three
          gi_wp2
          have hK' := (KeepsOthers.setCell w2 ⟨w.heap.size + 1 + 1, 0, none⟩ (.bool true)).same D _ hK rfl
          refine ⟨by simp, .inl ⟨_, _, rfl, run_takeDeferred hK', ?_⟩⟩
          have hc5 := cell_kept (World.cell?_setCell_same' w2 ⟨w.heap.size + 1 + 1, 0, none⟩ (.bool true) (by rw [cr]; rfl)) (grownBy_putObj' _ D (.deferred none)) (fun r e => by cases e; exact ⟨_, hK', rfl⟩)
          refine ⟨.bool true, ?_, rfl, (HB.out.setCell (p := ⟨w.heap.size + 1 + 1, 0, none⟩) (by simp; omega) _).trans (belowK_b (w := w) (Nat.le_refl _) _ D _ _ (by omega) hK' rfl rfl)⟩
          simp [results, Try.f10, go_sem, hc5]
        · gi_wp2_with fail
          refine ⟨trivial, ?_⟩
          refine (callsIn_wide.2 (parse_any _ (cap - a) 0 [] _ rfl (Bys.nil _ _) (by omega) (by omega) (by simp))).mono ?_
          rintro e w2 ⟨rfl, hw2⟩
          subst hw2
          rw [HD.out]
          unfold three
          gi_wp2
          have hK' := (KeepsOthers.setCell w2 ⟨w.heap.size + 1 + 1, 0, none⟩ (.bool true)).same D _ hK rfl
          refine ⟨by simp, .inl ⟨_, _, rfl, run_takeDeferred hK', ?_⟩⟩
          have hc5 := cell_kept (World.cell?_setCell_same' w2 ⟨w.heap.size + 1 + 1, 0, none⟩ (.bool true) (by rw [cr]; rfl)) (grownBy_putObj' _ D (.deferred none)) (fun r e => by cases e; exact ⟨_, hK', rfl⟩)
          refine ⟨.bool true, ?_, rfl, (HB.out.setCell (p := ⟨w.heap.size + 1 + 1, 0, none⟩) (by simp; omega) _).trans (belowK_b (w := w) (Nat.le_refl _) _ D _ _ (by omega) hK' rfl rfl)⟩
          simp [results, Try.f10, go_sem, hc5]
  case stop =>
    rintro D c pre W hD ⟨a, hrun⟩ ⟨⟨rfl, r, hbx, hr⟩, hB⟩ hK
    obtain rfl : r = true := by
      rcases hr with h | h
      · exact h
      · rw [hrun] at h
        cases h
    have cr := hbx.cell
    gi_wp2
    refine ⟨by simp, .inl ⟨_, _, rfl, run_takeDeferred hK, ?_⟩⟩
    have hc5 := cell_kept cr (grownBy_putObj' _ D (.deferred none)) (fun r e => by cases e; exact ⟨_, hK, rfl⟩)
    refine ⟨.bool true, ?_, rfl, hB.trans (belowK_b (w := w) (Nat.le_refl _) W D _ _ (by omega) hK rfl rfl)⟩
    simp [results, Try.f10, go_sem, hc5]

set_option maxHeartbeats 1000000 in
theorem walk_codecWalk (p : Option Addr) (len cap : Nat) (xs : List Int) (stop : Int) (w : World) (hin : InB 140737488351232 w p len cap xs) (hs : (Lit.int .i64 stop).wf = true) :
    Calls Try.prog 3 #[.slice p len cap, .int .i64 stop] w fun e w' => e = .returned (.bool true) ∧ Below w.heap.size w w' := by
  have HI : Hid (InB 140737488351232 w p len cap xs) := hin
  clear hin hs
  go_enter Try.func3, Try.ntmps3
  go_wp2_with fail
  refine (live_any _).mono ?_
  rintro e w1 ⟨rfl, hb1⟩
  have HI1 : Hid (InB 140737488351232 w1 p len cap xs) := HI.out.below hb1
  go_wp2_with fail
  refine (walks_any p len cap xs stop _ HI1.out).mono ?_
  rintro e w2 ⟨rfl, hb2⟩
  have HI2 : Hid (InB 140737488351232 w2 p len cap xs) := HI1.out.below hb2
  have hB2 := hb1.trans (hb2.mono hb1.size)
  go_wp2_with fail
  refine (walks_any p len cap xs 0 _ HI2.out).mono ?_
  rintro e w3 ⟨rfl, hb3⟩
  have hB3 := hB2.trans (hb3.mono hB2.size)
  go_wp2
  go_ret
  exact ⟨rfl, hB3⟩

set_option maxRecDepth 100000 in
theorem lifted_codecWalk (os : Os) (started : os.Started) (H : Type) (enc : TypeId × Value → H) :
    ReturnsInHanded {} Try.checked os 3 .any (Rows.codecWalkSpec.pre6 enc Try.prog Try.f3 Rows.codecWalkRow.domain false) (Rows.codecWalkSpec.post enc Try.prog Try.f3 false true false false) := by
  refine returnsInHanded_of_change_sized (C := Try.checked) own started (by kernel_rfl) Try.func3
    (ChangeSpec.witness6 (enc := enc) (C := Try.checked) false ⟨#[], #[.slice none 0 0, .int .i64 0], []⟩ 8 (by kernel_rfl) (by kernel_rfl) (by kernel_rfl) (by kernel_rfl)) ?_
  intro W base args ds gs before hval0 hW _ hsz0 _
  have hsz : (DataW.weightsEach Try.prog (Try.f3.params.toList ++ Rows.codecWalkSpec.plain.varTypes Try.prog) (ds ++ gs)).all (· ≤ reachBytes) = true := hsz0
  clear hsz0
  have hval : ∀ (j : Nat) t v, Try.f3.params[j]? = some t → args[j]? = some v → Value.okWide Try.prog W .any base t v := hval0
  have hW' := hW
  obtain ⟨p, q, hA0, hV, rfl, hfz, hnd⟩ := hW
  have hA : DataW.TrodAll enc Try.prog W 0 (fun _ => true) true Try.f3.params.toList args.toList ds p := hA0
  rw [Try.params3] at hA hval hsz
  obtain ⟨v0, vs0, d0, ds0, p0, q0, hargs, rfl, rfl, h0, r0⟩ := trodAll_cons hA
  obtain ⟨v1, vs1, d1, ds1, p1, q1, rfl, rfl, rfl, h1, r1⟩ := trodAll_cons r0
  obtain ⟨rfl, rfl, rfl⟩ := trodAll_nil r1
  obtain rfl : args = #[v0, v1] := by cases args; simp_all
  obtain ⟨rfl, rfl⟩ := trodVars_none hV
  obtain ⟨a0, len0, cap0, rfl⟩ := okWide_slice Try.underlying22 (hval 0 22 v0 rfl rfl)
  have k0 := h0
  have lt0 : ∀ x ∈ p0, x.block < W.heap.size := by obtain ⟨m, hm⟩ := k0; exact DataW.trod_lt m _ _ _ hm
  obtain ⟨z0, w0⟩ : ∃ zs, InB 140737488351232 W a0 len0 cap0 zs := by
    refine in_bytes h0 ?_
    intro elems spare hd
    have := sized_slice hsz (j := 0) (t := 22) (e := 5) rfl (by rw [hd]; rfl) Try.underlying22
    rw [bytes_u8] at this
    simp only [reachBytes] at this
    omega
  obtain ⟨a1, rfl, rfl, rfl, w1⟩ := open_int Try.underlying3 (hval 1 3 v1 rfl rfl) h1
  clear hA0 hval0
  refine (walk_codecWalk a0 len0 cap0 z0 a1 W w0 w1).mono fun e W' ⟨he, bel⟩ => ?_
  subst he
  exact ⟨_, rfl, _, _, _, [], _, [], hW', trodAll_mk1 (shut_bool Try.underlying4 _), (trodAll_cons_mk (Below.trod laidOut (by kernel_rfl) (of_decide_eq_true (by kernel_rfl)) k0 bel lt0) (trodAll_cons_mk (shut_int Try.underlying3 w1) trodAll_mk0)), rfl, bel.frame _, fun h => by cases h⟩

/-- The statement. -/
theorem codecWalk_holds : Rows.CodecWalkSaid :=
  OpenClaim.holds_of_wide 3 Try.f3 rfl rfl rfl rfl rfl rfl rfl ⟨rfl, rfl, rfl, rfl, rfl⟩ rfl rfl rfl rfl rfl (by kernel_rfl) Try.func3 (by kernel_rfl)
    (of_decide_eq_true (by kernel_rfl)) (by unfold Func.isWrapper; first | (rw [if_pos (by decide +kernel)]; kernel_rfl) | (rw [if_neg (by decide +kernel)]; exact ⟨rfl, rfl⟩))
    (fun os started H enc _ => lifted_codecWalk os started H enc)
#print axioms codecWalk_holds
end Go.Proofs.Ytcolmebpbjjehab
