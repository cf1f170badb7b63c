/- Disks: a barrier. -/
import Derived.Test.YtpggnejifpcnmaaDkWrite
namespace Go.Proofs.Ytpggnejifpcnmaa
open Go.RowKit Go.Shelf Go.Maps
set_option linter.unusedVariables false

/-- The sure sectors, where some are still to come. -/
def sureL (f : Nat → Option (List Int)) (s : Nat → List Int) (left : Lit → Bool) : Nat → List Int := fun i => if left (.int .i64 (i : Int)) = true then s i else (f i).getD (s i)

theorem sureL_start {f : Nat → Option (List Int)} {n : Nat} (hlow : ∀ i, n ≤ i → f i = none) (s : Nat → List Int) : sureL f s (Maps.has (datum f n)) = s := by
  funext i
  unfold sureL
  by_cases hi : i < n
  · rw [has_datum_nat f n i hi]
    cases f i <;> simp
  · simp [hlow i (by omega)]

theorem sureL_step (f : Nat → Option (List Int)) (s : Nat → List Int) (left : Lit → Bool) {i : Nat} {xs : List Int} (hx : f i = some xs) : upds (sureL f s left) i xs = sureL f s (fun z => left z && !z.sameKey (.int .i64 (i : Int))) := by
  funext j
  unfold upds sureL
  by_cases hj : j = i
  · subst hj
    simp [sameKey_int, hx]
  · have : (Lit.int .i64 (j : Int)).sameKey (.int .i64 (i : Int)) = false := by simp [sameKey_int]; omega
    simp [this, hj]

theorem sureL_end (f : Nat → Option (List Int)) (s : Nat → List Int) {left : Lit → Bool} (h : ∀ kl, left kl = false) : sureL f s left = fun i => (f i).getD (s i) := by
  funext i
  simp [sureL, h]

section
variable {w : World} {ops : Array Oper} {rest : List Oper} {o : Oper} {a : Act} {Q : Exit → Act → World → Prop}

theorem wp_next_sec (hg : o.guard = none) (it : Operand) (hop : o.op = Op.next it false) (M r n : Nat) (f : Nat → Option (List Int)) (left : Lit → Bool) (cnt : Nat) (hit : a.eval it = .pointer (some ⟨r, 0, none⟩)) (h : w.ranges Try.prog 3 secElem M r n (datum f n) left cnt)
    (hDone : (∀ kl, left kl = false) → wpList Try.prog ops Q rest (a.put o.dst (.tuple #[.bool false])) w)
    (hMore : ∀ (i : Nat) (xs : List Int) (w' : World) (cnt' : Nat), i < n → f i = some xs → Sec xs → w'.ranges Try.prog 3 secElem M r n (datum f n) (fun z => left z && !z.sameKey (.int .i64 (i : Int))) cnt' → cnt' < cnt →
      w.grownBy w' (some r) → w'.heap.size = w.heap.size → (Instr.entry (.pointer (some ⟨r, 0, none⟩))).run Try.prog w' = .ok (.tuple #[.int .i64 (i : Int), secVal xs]) w' → wpList Try.prog ops Q rest (a.put o.dst (.tuple #[.bool true, .int .i64 (i : Int), secVal xs])) w') :
    wpList Try.prog ops Q (o :: rest) a w := by
  refine wpList_next_ranges w hg it hop 3 int_law secElem (fun x : Int => Value.int .i64 x) secVal ?_ (fun v y hy => by obtain ⟨xs, h1, _⟩ := secElem_inv hy; exact ⟨xs, h1⟩) M r n _ left cnt hit h (fun _ h2 => hDone h2) ?_
  · intro key kl hk
    obtain ⟨x, h1, _⟩ := Maps.keyOf_int_inv Try.underlying3 hk
    exact ⟨x, h1⟩
  · intro x c kl y w' cnt' hkey hlk hv hat hrg hlt hgr hsz hen
    obtain ⟨x', ex, rfl, hwx⟩ := Maps.keyOf_int_inv Try.underlying3 hkey
    cases ex
    have hh : Maps.has (datum f n) (.int .i64 x) = true := Maps.has_true_of_atKey hat
    obtain ⟨i, hi, hs, hsk⟩ := (has_datum f n _).1 hh
    rw [sameKey_int] at hsk
    obtain rfl : (i : Int) = x := by simpa using hsk
    obtain ⟨xs, hxs⟩ := Option.isSome_iff_exists.1 hs
    obtain ⟨ys, h1, h2, h3⟩ := secElem_inv hv
    have hc : c = ys := by
      have := congrArg (fun v => match v with | .agg cs => cs.toList.map RowKit.intOf | _ => []) h1
      simpa [secVal, secCells_back] using this
    have hat' := hat (.held [])
    rw [at_datum f n i xs hi hxs, h2] at hat'
    obtain rfl : xs = ys := by simpa using hat'
    subst hc
    exact hMore i c w' cnt' hi hxs h3 hrg hlt hgr hsz hen
end

/-- A barrier. -/
def Dk.barrier (d : Dk) : Int × Dk := if d.count.1 = true then (6, d.count.2.lose d.count.2.keep) else (0, { d.count.2 with sure := fun i => (d.count.2.dirty i).getD (d.count.2.sure i), dirty := fun _ => none })

set_option maxHeartbeats 2000000 in
theorem barrier_down {w : World} {B : Nat} {bs : List Nat} {d : Dk} (h : Dsk w B bs d) (hd : d.down = true) :
    Calls Try.prog 24 #[.pointer (some ⟨B, 0, none⟩)] w fun e w' => e = .returned (.int .i64 6) ∧ w' = w := by
  have hr := ready_any h
  rw [show d.ready = 6 by simp [Dk.ready, hd]] at hr
  clear h
  go_enter Try.func24, Try.ntmps24
  go_wp2_with fail
  refine hr.mono ?_
  rintro e w1 ⟨rfl, rfl⟩
  clear hr
  go_wp2
  go_ret
  exact ⟨rfl, rfl⟩

set_option maxRecDepth 100000 in
set_option maxHeartbeats 4000000 in
theorem barrier_up {w : World} {B : Nat} {bs : List Nat} {d : Dk} (h : Dsk w B bs d) (hd : d.down = false) :
    Calls Try.prog 24 #[.pointer (some ⟨B, 0, none⟩)] w fun e w' => e = .returned (.int .i64 d.barrier.1) ∧ Turns w w' B bs d.barrier.2 := by
  have hr := ready_any h
  rw [show d.ready = 0 by simp [Dk.ready, hd]] at hr
  have hcnt := count_any h
  clear h
  go_enter Try.func24, Try.ntmps24
  go_wp2_with fail
  refine hr.mono ?_
  rintro e w0 ⟨rfl, rfl⟩
  clear hr
  go_wp2_with fail
  refine hcnt.mono ?_
  rintro e w1 ⟨rfl, ht1⟩
  clear hcnt
  obtain ⟨bs1, h1, t1, s1⟩ := ht1
  cases hh : d.count.1 with
  | true =>
    have HW2 : Hid (d.barrier = (6, d.count.2.lose d.count.2.keep)) := by rw [Hid, Dk.barrier, hh]; rfl
    have hbl := blow_any h1
    have HBL : Hid _ := hbl
    clear hbl
    go_wp2_with fail
    refine Calls.mono HBL.out ?_
    rintro e w5 ⟨rfl, ht5⟩
    have HTU5 : Hid (Turns w0 w5 B bs (d.count.2.lose d.count.2.keep)) := turns_then t1 s1 ht5
    clear ht5 HBL
    go_wp2
    go_ret
    rw [HW2.out]
    exact ⟨rfl, HTU5.out⟩
  | false =>
    have HW2 : Hid (d.barrier = (0, { d.count.2 with sure := fun i => (d.count.2.dirty i).getD (d.count.2.sure i), dirty := fun _ => none })) := by rw [Hid, Dk.barrier, hh]; rfl
    have HT1 : Hid (Tn bs w0 w1) := t1
    have HS1 : Hid (∀ b ∈ bs1, b ∈ bs ∨ w0.heap.size ≤ b) := s1
    generalize d.count.2 = d1 at *
    obtain ⟨S, M, p, c, kb, rfl, h1⟩ := h1
    obtain ⟨-, c1, -⟩ := h1.cells
    have HD1 : Hid (IsDk w1 B S M p c kb d1) := h1
    have hlt := h1.lt
    have hn2 := h1.n2
    clear h1 t1 s1
    go_wp2_with (at_range; refine wpList_range_own _ rfl _ 58 rfl 3 79 int_law Try.underlying58 _ M d1.n _ rfl HD1.out.map ?_; intro w2 hrg2 hg2 hs2)
    go_frame
    have hBlt : B < w1.heap.size := hlt B (by simp)
    have hSlt : S < w1.heap.size := hlt S (by simp)
    have hMlt : M < w1.heap.size := hlt M (by simp)
    have HRG2 : Hid (w2.ranges Try.prog 3 secElem M w1.heap.size d1.n (datum d1.dirty d1.n) (Maps.has (datum d1.dirty d1.n)) (Maps.size (datum d1.dirty d1.n))) := hrg2
    have HG2 : Hid (w1.grownBy w2 none) := hg2
    clear hrg2 hg2 c1 hs2
    go_loopw [4] (fun _ wr => ∃ (left : Lit → Bool) (cnt : Nat), wr.ranges Try.prog 3 secElem M w1.heap.size d1.n (datum d1.dirty d1.n) left cnt ∧ IsDk wr B S M p c kb { d1 with sure := sureL d1.dirty d1.sure left } ∧ Tn (B :: S :: M :: kb) w1 wr)
      (fun _ wr => wr.rangeLeft M w1.heap.size)
    case atStart =>
      have t2 : Tn (B :: S :: M :: kb) w1 w2 := (Tn.refl _ _).grown HG2.out (fun k hk => by cases hk)
      refine ⟨_, _, HRG2.out, ?_, t2⟩
      rw [sureL_start HD1.out.lowD]
      exact HD1.out.tn (T := []) ((Tn.refl _ _).grown HG2.out (fun k hk => by cases hk)) (fun _ _ => by simp)
    case round =>
      obtain ⟨left, cnt, hrg, hdk, htn⟩ := hrel
      have HRG : Hid (wr.ranges Try.prog 3 secElem M w1.heap.size d1.n (datum d1.dirty d1.n) left cnt) := hrg
      have HDK : Hid (IsDk wr B S M p c kb { d1 with sure := sureL d1.dirty d1.sure left }) := hdk
      have HTN : Hid (Tn (B :: S :: M :: kb) w1 wr) := htn
      clear hrg hdk htn
      go_wp2_with (refine wp_next_sec rfl _ rfl M w1.heap.size d1.n d1.dirty left cnt rfl HRG.out (Hid.out ?_) (Hid.out ?_))
      · unfold Hid
        intro hl0
        have HDK2 : Hid (IsDk wr B S M p c kb { d1 with sure := fun i => (d1.dirty i).getD (d1.sure i) }) := by
          have := HDK.out
          rw [sureL_end _ _ hl0] at this
          exact this
        have hfg := forget_any HDK2.out
        have HFG : Hid _ := hfg
        clear hfg
        go_wp2_with fail
        refine Calls.mono HFG.out ?_
        rintro e w5 ⟨rfl, ht5, hs5, hd5⟩
        have HTU : Hid (Turns w1 w5 B (B :: S :: M :: kb) { d1 with sure := fun i => (d1.dirty i).getD (d1.sure i), dirty := fun _ => none }) := by
          refine ⟨_, ⟨S, wr.heap.size, p, c, kb, rfl, hd5⟩, HTN.out.trans ht5 (fun x hx => .inl (by simp at hx; simp [hx])), fun b hb => ?_⟩
          simp only [List.mem_cons] at hb
          rcases hb with rfl | rfl | rfl | hb
          · exact .inl (by simp)
          · exact .inl (by simp)
          · exact .inr HTN.out.size
          · exact .inl (by simp [hb])
        clear HFG ht5 hs5 hd5
        go_wp2
        go_ret
        rw [HW2.out]
        exact ⟨rfl, turns_then HT1.out HS1.out HTU.out⟩
      · unfold Hid
        intro i xs w3 cnt3 hi hfi hsec hrg3 hlt3 hg3 hs3 hen
        have HFI : Hid (d1.dirty i = some xs) := hfi
        have HSEC : Hid (Sec xs) := hsec
        have HRG3 : Hid (w3.ranges Try.prog 3 secElem M w1.heap.size d1.n (datum d1.dirty d1.n) (fun z => left z && !z.sameKey (.int .i64 (i : Int))) cnt3) := hrg3
        have HTN3 : Hid (Tn (B :: S :: M :: kb) w1 w3) := HTN.out.grown hg3 (fun k hk => by cases hk; exact .inr (Nat.le_refl _))
        have HDK3 : Hid (IsDk w3 B S M p c kb { d1 with sure := sureL d1.dirty d1.sure left }) := HDK.out.tn (T := [w1.heap.size]) ((Tn.refl _ _).grown hg3 (fun k hk => by cases hk; simp)) (fun b hb => by have := hlt b hb; simp; omega)
        have HLT3 : Hid (cnt3 < cnt) := hlt3
        have h13 : w1.heap.size ≤ w3.heap.size := HTN3.out.size
        have hrlt : w1.heap.size < w3.heap.size := hrg3.lt
        clear hfi hsec hrg3 hlt3 hg3 hs3
        go_wp2_with (refine wp_alloc_sec rfl rfl ?_; intro w4 z4 hl4 _ hz4 hb4 hs4; refine Hid.out ?_)
        unfold Hid
        have HB4 : Hid (Below w3.heap.size w3 w4) := hb4
        have HE4 : Hid (w4.heap.size = w3.heap.size + 1) := hs4
        have HZ4 : Hid (Bk w4 w3.heap.size 79 (secCells z4)) := hz4
        clear hz4 hb4 hs4 hen
        go_wp2_with (refine wp_store_new rfl _ _ rfl w3.heap.size rfl xs rfl HSEC.out.1 _ _ HZ4.out (secCells_512 hl4) ?_; intro w5 hz5 hg5 hs5; refine Hid.out ?_)
        unfold Hid
        have hs4 := HE4.out
        have HB5 : Hid (Below w3.heap.size w3 w5) := HB4.out.grown hg5 (by omega) (fun k hk => by cases hk; omega)
        have HX5 : Hid (SecAt w5.drew w3.heap.size 0 xs) := SecAt.of_bk hz5.drew HSEC.out.1
        have HDK5 : Hid (IsDk w5.drew B S M p c kb { d1 with sure := sureL d1.dirty d1.sure left }) := HDK3.out.tn (T := []) ((Tn.of_below HB5.out []).drew) (fun _ _ => by simp)
        obtain ⟨cur, hcur, hsure⟩ := HDK5.out.sure
        have HCUR : Hid (Bk w5.drew S 79 cur) := hcur
        have HSU : Hid (SureAt cur d1.n (sureL d1.dirty d1.sure left)) := hsure
        have hgr5 : w3.grownBy w5.drew none := ⟨HB5.out.os, HB5.out.tape, HB5.out.output, HB5.out.size, fun k hk _ => HB5.out.block k hk⟩
        have HRG5 : Hid (w5.drew.ranges Try.prog 3 secElem M w1.heap.size d1.n (datum d1.dirty d1.n) (fun z => left z && !z.sameKey (.int .i64 (i : Int))) cnt3) := World.ranges.kept HRG3.out hgr5 (by simp) (by simp)
        obtain ⟨cB0, -⟩ := HDK5.out.cells
        have cB0' : w5.cell? ⟨B, 0, none⟩ = some (.slice (some ⟨S, 0, none⟩) d1.n d1.cs) := cB0
        have HTN5 : Hid (Tn (B :: S :: M :: kb) w1 w5.drew) := HTN3.out.grown hgr5 (fun k hk => by cases hk)
        clear hcur hsure hz5 hg5 hs5 hs4 cB0 hgr5
        have hii : (i : Int) < (d1.n : Int) := by omega
        go_wp2_with fail
        refine wp_region_tail 7 (by kernel_rfl) (by kernel_rfl) ?_
        simp only [List.take_succ_cons, List.take_zero, List.drop_succ_cons, List.drop_zero]
        iterate 5 still_step
        refine still_load_sec rfl _ rfl w3.heap.size 0 rfl xs HSEC.out.1 HX5.out ?_
        still_step
        refine wpStill_nil ?_
        refine wp_store_sec rfl _ _ rfl S (i * 512) rfl xs rfl HSEC.out.1 _ cur HCUR.out (HSU.out.fit hi) ?_
        go_frame
        refine wpList_nil ?_
        have HDK6 : Hid (IsDk (w5.drew.setRow S (laid cur (i * 512) xs)) B S M p c kb { d1 with sure := upds (sureL d1.dirty d1.sure left) i xs }) := IsDk.setSure HDK5.out HCUR.out HSU.out hi HSEC.out
        have HG6 : Hid (w5.drew.grownBy (w5.drew.setRow S (laid cur (i * 512) xs)) (some S)) := ⟨rfl, rfl, rfl, by simp [World.setRow], fun k hk hn => setRow_other w5.drew S k _ (fun e => hn (by rw [e]))⟩
        have hSM : S ≠ M := HDK5.out.ne_bs.2.2
        have HRG6 : Hid ((w5.drew.setRow S (laid cur (i * 512) xs)).ranges Try.prog 3 secElem M w1.heap.size d1.n (datum d1.dirty d1.n) (fun z => left z && !z.sameKey (.int .i64 (i : Int))) cnt3) := World.ranges.kept HRG5.out HG6.out (by simp; omega) (by simp; omega)
        have HTN6 : Hid (Tn (B :: S :: M :: kb) w1 (w5.drew.setRow S (laid cur (i * 512) xs))) := HTN5.out.grown HG6.out (fun k hk => by cases hk; simp)
        clear cB0'
        generalize w5.drew.setRow S (laid cur (i * 512) xs) = w6 at *
        go_wp2
        go_roundw
        case rel =>
          refine ⟨_, cnt3, HRG6.out, ?_, HTN6.out⟩
          have := HDK6.out
          rw [sureL_step _ _ _ HFI.out] at this
          exact this
        case measure => rw [World.ranges.left_eq HRG6.out, World.ranges.left_eq HRG.out]; exact HLT3.out

end Go.Proofs.Ytpggnejifpcnmaa
