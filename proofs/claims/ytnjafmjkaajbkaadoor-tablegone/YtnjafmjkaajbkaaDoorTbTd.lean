/- What is told is held against the document's. -/
import Derived.Test.YtnjafmjkaajbkaaDoorTbTp
import Derived.Test.YtnjafmjkaajbkaaDoorTbEq
namespace Go.Proofs.YtnjafmjkaajbkaaDoor
open Go.RowKit Go.Shelf
attribute [local go_sem] Oper.semAt_some
set_option linter.unusedVariables false
set_option maxRecDepth 100000
set_option linter.unusedSimpArgs false

theorem pfx_snoc {L pre : List (Nat × (Int × Int))} (h : pre <+: L) {y : Nat × (Int × Int)} (hN : L[pre.length]? = some y) (x : Nat × (Int × Int)) : pre ++ [x] <+: L ↔ x = y := by
  obtain ⟨t, rfl⟩ := h
  cases t with
  | nil => simp at hN
  | cons z t =>
    have e : (pre ++ z :: t)[pre.length]? = some z := by simp
    rw [hN] at e
    cases e
    rw [List.prefix_append_right_inj, List.cons_prefix_cons]
    simp

section
variable {P : Program} {ops : Array Oper} {Q : Exit → Act → World → Prop} {md : Region.Mode} {S : World → Prop} {n m : Nat}
theorem wpIn_of_wp_w {o : Oper} {a : Act} {w : World} {K : Act → World → Prop} (ho : ∀ c, o.op ≠ .defer c) (hh : o.wp P a w K Q) : o.wpIn Fence.wide n P a w K Q := by
  unfold Oper.wpIn
  refine ⟨fun f _ => trivial, ?_⟩
  rw [Oper.semAt_eq _ _ _ ho]
  unfold Oper.wp at hh
  generalize (execOp a.eval o).run P w = r at *
  cases r with
  | ok nx w' =>
    cases nx <;> simp only [Oper.upon] at hh
    case value v => exact hh
    case skip => exact hh
    case defer d => exact hh
    case enter f args => exact ⟨fun h => (by cases h), callsIn_wide.2 hh⟩
    case row row args => exact ⟨fun h => (by cases h), fun c cs _ => let ⟨v, w', r, s⟩ := hh c cs; ⟨v, w', r, stepsIn_wide.2 s⟩⟩
  | halt x w' => cases x <;> simp only [Oper.upon] at hh <;> exact hh

theorem wpOpIn_of_op_w {i : Nat} {a : Act} {w : World} {K K' : Act → World → Prop} (ho : ∀ (i : Nat) (o : Oper), ops[i]? = some o → ∀ c, o.op ≠ .defer c) (hq : ¬ LetsOut Q) (h : ∀ a w, K a w → K' a w) (hh : wpOp P ops Q i K a w) :
    wpOpIn Fence.wide n P ops Q i K' a w := by
  unfold wpOp at hh
  unfold wpOpIn
  split
  · rename_i ho'
    simp only [ho'] at hh
    exact h _ _ hh
  · rename_i o ho'
    simp only [ho'] at hh
    split
    · rename_i hw
      simp only [hw, if_true] at hh
      rcases hh with hh | hh
      · exact wpIn_of_wp_w (ho i o ho') (Oper.wp_mono h hh)
      · exact absurd hh.2 hq
    · rename_i hw
      simp only [hw] at hh
      exact ⟨fun f _ => trivial, h _ _ hh⟩

theorem wpAnyIn_of_any_w (ho : ∀ (i : Nat) (o : Oper), ops[i]? = some o → ∀ c, o.op ≠ .defer c) (hq : ¬ LetsOut Q) :
    ∀ (f : Nat) (listed : Array Bool) (a : Act) (w : World), wpAny P md ops Q f listed a w → wpAnyIn Fence.wide n P md ops Q f listed a w
  | 0, listed, a, w, h => h
  | f + 1, listed, a, w, h => ⟨h.1, fun i hi => wpOpIn_of_op_w ho hq (fun a' w' h' => wpAnyIn_of_any_w ho hq f _ a' w' h') (h.2 i hi)⟩

theorem wpIn_region_midw {id : Nat} {os : List Oper} {a : Act} {w : World} (m : Nat) (hm : P.follows .mixedOrders = true) (hd : noDefer os = true) (hq : ¬ LetsOut Q)
    (h : wpAnyM P .any os.toArray Q S m os.toArray.size (Array.replicate os.toArray.size false) a w.drew) : (Code.region id os.toArray true).wpIn Fence.wide n P Q a w :=
  wpIn_region_any hm (wpAnyIn_of_any_w (noDefer_out hd) hq _ _ _ _ (wpAny_of_mid _ _ _ _ h))

/-- The region ends, and nothing else. -/
theorem wpIn_then_only {F : Fence} {c : Code} {K : Act → World → Prop} {a : Act} {w : World} (h : c.wpIn F n P (Exit.then K (fun _ _ _ => False)) a w) : c.wpIn F n P (Exit.then K Q) a w :=
  wpIn_mono h (fun e a w hq => by cases e <;> first | exact hq | exact hq.elim)
end

/-- Between the rounds. -/
structure Td (w W : World) (R : Nat) (stop : Int) (N : Nat) (at' : Int) : Prop where
  b0 : Boxed W w.heap.size 27 (.pointer (some ⟨R, 0, none⟩))
  b1 : Boxed W (w.heap.size + 1) 3 (.int .i64 stop)
  b2 : Boxed W (w.heap.size + 1 + 1) 4 (.bool false)
  b3 : Boxed W (w.heap.size + 1 + 1 + 1) 3 (.int .i64 (N : Int))
  b4 : Boxed W (w.heap.size + 1 + 1 + 1 + 1) 3 (.int .i64 at')
  below : Below w.heap.size w W

section
variable {w W W' : World} {R N : Nat} {stop at' : Int}
theorem Td.abides {row : Option Nat} {m : Nat} (h : Td w W R stop N at') (hm : w.heap.size ≤ m) (hg : W.grownBy W' row) (hr : ∀ r, row = some r → m ≤ r ∧ ∃ o : Obj, W.heap[r]? = some o ∧ o.isCells = false) : Td w W' R stop N at' where
  b0 := boxed_from h.b0 hg hr
  b1 := boxed_from h.b1 hg hr
  b2 := boxed_from h.b2 hg hr
  b3 := boxed_from h.b3 hg hr
  b4 := boxed_from h.b4 hg hr
  below := h.below.grown hg h.below.size (fun k hk => by have := (hr k hk).1; omega)

theorem Td.still (h : Td w W R stop N at') (ht : Tn [] W W') : Td w W' R stop N at' where
  b0 := Bk.tn (show Bk W _ _ _ from h.b0) ht (by simp)
  b1 := Bk.tn (show Bk W _ _ _ from h.b1) ht (by simp)
  b2 := Bk.tn (show Bk W _ _ _ from h.b2) ht (by simp)
  b3 := Bk.tn (show Bk W _ _ _ from h.b3) ht (by simp)
  b4 := Bk.tn (show Bk W _ _ _ from h.b4) ht (by simp)
  below := h.below.trans (ht.below h.below.size (by simp))

/-- The boxes that turn. -/
def Td.bs (w : World) : List Nat := [w.heap.size + 1 + 1, w.heap.size + 1 + 1 + 1, w.heap.size + 1 + 1 + 1 + 1]

theorem Td.fin {S : List Nat} (h : Td w W R stop N at') (hS : ∀ b ∈ S, b < w.heap.size) (ht : Tn (Td.bs w) W W') : KeepsOthers W W' ∧ KpP S W W' ∧ Below w.heap.size w W' := by
  have hs := h.below.size
  refine ⟨keeps_tn ht (fun y hy => ?_), KpP.of_tn ht (fun y hy => ?_), h.below.trans (ht.below hs (fun y hy => ?_))⟩
  · simp only [Td.bs, List.mem_cons, List.not_mem_nil, or_false] at hy
    rcases hy with rfl | rfl | rfl
    · exact ⟨_, h.b2, rfl⟩
    · exact ⟨_, h.b3, rfl⟩
    · exact ⟨_, h.b4, rfl⟩
  · have := hS y hy
    simp only [Td.bs, List.mem_cons, List.not_mem_nil, or_false]
    omega
  · simp only [Td.bs, List.mem_cons, List.not_mem_nil, or_false] at hy
    omega

theorem Td.num (h : Td w W R stop N at') : Td w (W.setCell ⟨w.heap.size + 1 + 1 + 1, 0, none⟩ (.int .i64 ((N : Int) + 1))) R stop (N + 1) at' where
  b0 := h.b0.other (by omega) _
  b1 := h.b1.other (by omega) _
  b2 := h.b2.other (by omega) _
  b3 := h.b3.set _
  b4 := h.b4.other (by omega) _
  below := h.below.setCell (p := ⟨w.heap.size + 1 + 1 + 1, 0, none⟩) (by simp; omega) _

theorem Td.at (h : Td w W R stop N at') (a : Int) : Td w (W.setCell ⟨w.heap.size + 1 + 1 + 1 + 1, 0, none⟩ (.int .i64 a)) R stop N a where
  b0 := h.b0.other (by omega) _
  b1 := h.b1.other (by omega) _
  b2 := h.b2.other (by omega) _
  b3 := h.b3.other (by omega) _
  b4 := h.b4.set _
  below := h.below.setCell (p := ⟨w.heap.size + 1 + 1 + 1 + 1, 0, none⟩) (by simp; omega) _
end

theorem td_start (w : World) (R : Nat) (stop : Int) : ∃ W, W = ((((w.alloc (.cells #[.pointer (some ⟨R, 0, none⟩)] 27)).alloc (.cells #[.int .i64 stop] 3)).alloc (.cells #[.bool false] 4)).alloc (.cells #[.int .i64 0] 3)).alloc (.cells #[.int .i64 (-1)] 3) ∧ W.heap.size = w.heap.size + 5 ∧ Td w W R stop 0 (-1) := by
  refine ⟨_, rfl, by simp, ?_⟩
  have c0 := Bk.new w 27 #[.pointer (some ⟨R, 0, none⟩)]
  have c1 := Bk.new (w.alloc (.cells #[.pointer (some ⟨R, 0, none⟩)] 27)) 3 #[.int .i64 stop]
  have c2 := Bk.new ((w.alloc (.cells #[.pointer (some ⟨R, 0, none⟩)] 27)).alloc (.cells #[.int .i64 stop] 3)) 4 #[.bool false]
  have c3 := Bk.new (((w.alloc (.cells #[.pointer (some ⟨R, 0, none⟩)] 27)).alloc (.cells #[.int .i64 stop] 3)).alloc (.cells #[.bool false] 4)) 3 #[.int .i64 0]
  have c4 := Bk.new ((((w.alloc (.cells #[.pointer (some ⟨R, 0, none⟩)] 27)).alloc (.cells #[.int .i64 stop] 3)).alloc (.cells #[.bool false] 4)).alloc (.cells #[.int .i64 0] 3)) 3 #[.int .i64 (-1)]
  simp only [World.size_alloc] at c1 c2 c3 c4
  exact ⟨(((c0.alloc _).alloc _).alloc _).alloc _, ((c1.alloc _).alloc _).alloc _, (c2.alloc _).alloc _, c3.alloc _, c4, (((((Below.refl _ w).alloc (Nat.le_refl _) _).alloc (by simp) _).alloc (by simp; omega) _).alloc (by simp; omega) _).alloc (by simp; omega) _⟩

/-- The number in a box. -/
def atOf (W : World) (b : Nat) : Int := match W.cell? ⟨b, 0, none⟩ with
  | some (.int _ i) => i
  | _ => 0
theorem Td.atOf {w W : World} {R N : Nat} {stop at' : Int} (h : Td w W R stop N at') : atOf W (w.heap.size + 1 + 1 + 1 + 1) = at' := by
  have : W.cell? ⟨w.heap.size + 1 + 1 + 1 + 1, 0, none⟩ = some (.int .i64 at') := h.b4.cell
  simp [Go.Proofs.YtnjafmjkaajbkaaDoor.atOf, this]

set_option maxHeartbeats 8000000 in
theorem told_any {w : World} {R g1 g2 n : Nat} {r : Rt} (h : IsR w R g1 g2 n r) {y1 y2 : Nat} {S : List Nat} {L : List (Nat × (Int × Int))} (hlim : Lim w y1 y2 S L)
    (hnext : ∀ pre, pre <+: L → pre.length < L.length → ∃ y, L[pre.length]? = some y ∧ lastAt pre < (y.1 : Int) ∧ y.1 < n ∧ r.s (y.1 : Int) = 1 ∧ r.h (y.1 : Int) = y.2 ∧ ∀ q : Nat, lastAt pre < (q : Int) → q < y.1 → r.s (q : Int) ≠ 1)
    (hmany : r.st.countP (fun x => decide (x = 1)) = L.length) (stop : Int) :
    Calls Tryd.prog 33 #[.func (.func 50) #[] #[.pointer (some ⟨y1, 0, none⟩), .pointer (some ⟨y2, 0, none⟩)], .pointer (some ⟨R, 0, none⟩), .int .i64 stop] w fun r w' => r = .returned (.bool true) ∧ Below w.heap.size w w' := by
  refine (callsIn_wide (n := 9)).1 ?_
  refine callsIn_of_wp_marks Tryd.func33 rfl trivial ?_ rfl
  simp only [Tryd.ntmps33, List.size_toArray, List.length_cons, List.length_nil, Nat.reduceAdd, Nat.reduceSub, Array.replicate_succ, Array.replicate_zero, List.push_toArray, List.append_toArray, List.nil_append, List.cons_append]
  have HR : Hid (∀ W, Below w.heap.size w W → IsR W R g1 g2 n r) := fun W hb => h.below hb
  have HLIM : Hid (Lim w y1 y2 S L) := hlim
  have HNX : Hid _ := hnext
  have HMN : Hid _ := hmany
  have HLR : Hid (L.length ≤ 3600000000000) := hlim.reach
  have HSL : Hid (∀ b ∈ S, b < w.heap.size) := hlim.lt
  have HN2 : Hid (n ≤ 65536) := h.n2
  clear h hlim hnext hmany
  gi_wp2_with fail
  obtain ⟨W4, hW4, hs4, hk4⟩ := td_start w R stop
  try rw [← hW4]
  have hB4 := hk4.below
  clear hW4
  have hlim4 : Lim W4 y1 y2 S L := HLIM.out.kp (KpP.of_below hB4 HSL.out)
  refine range_boxed ?A rfl (by omega) (gf := 50) (lb := #[.pointer (some ⟨y1, 0, none⟩), .pointer (some ⟨y2, 0, none⟩)]) rfl trivial (enters_of Tryd.func50 (by kernel_rfl) rfl)
    (lim_stops 8 (by omega) hlim4) KpP.t (fun W l o o' hl _ _ _ k hk => World.putObj_heap_other (fun e => by
      subst e
      have := HSL.out _ hk
      omega)) (Below.refl _ _) (fun _ => rfl)
    (fun pre W => Td w W R stop pre.length (lastAt pre) ∧ pre <+: L)
    (fun cc pre W => (cc = .ret ∧ ∃ b, Boxed W (w.heap.size + 1 + 1) 4 (.bool b) ∧ (b = true ∨ ¬ pre <+: L)) ∧ Below w.heap.size w W)
    (fun s A B' row hs hg hr => ⟨hs.1.abides (m := W4.heap.size) (by omega) hg hr, hs.2⟩)
    (fun cc s A B row hs hg hr => by
      obtain ⟨⟨h1, b, h2, h3⟩, h4⟩ := hs
      exact ⟨⟨h1, b, boxed_from h2 hg hr, h3⟩, h4.grown hg h4.size (fun k hk => by have := (hr k hk).1; omega)⟩)
    ⟨hk4, List.nil_prefix⟩
    (fun x bx W => W4.heap.size ≤ bx ∧ Bk W bx 32 #[.int .i64 x.2.1, .int .i64 x.2.2])
    (fun x bx _ A B' row hs hg hr => ⟨hs.1, bk_from hs.2 hg hr⟩)
    ?assign ?body ?done ?stop
  case assign =>
    rintro l pre x W K ⟨hL, hp⟩ hK
    gi_wp2
    have ht : Tn [] W (W.alloc (.cells #[.int .i64 x.2.1, .int .i64 x.2.2] 32)) := (Tn.refl _ _).alloc _
    obtain ⟨bx, hbx⟩ : ∃ bx, W.heap.size = bx := ⟨_, rfl⟩
    have kx : Bk (W.alloc (.cells #[.int .i64 x.2.1, .int .i64 x.2.2] 32)) bx 32 #[.int .i64 x.2.1, .int .i64 x.2.2] := by rw [← hbx]; exact Bk.new _ _ _
    have hs := hL.b4.lt
    have hle : W4.heap.size ≤ bx := by omega
    have hsl := HSL.out
    rw [hbx]
    refine hK bx _ ((keeps_tn ht (by simp)).from _) (KpP.of_tn ht (fun y hy => ⟨by have := hsl y hy; omega, by simp⟩)) ⟨hL.still ht, hp⟩ ⟨hle, kx⟩
  case stop =>
    rintro D cc pre W hD hpre ⟨⟨rfl, b, hbx, hn⟩, hB⟩ hK
    obtain rfl : b = true := hn.elim id (fun h => absurd hpre h)
    have cr := hbx.cell
    gi_wp2
    refine ⟨by simp, .inl ⟨_, _, rfl, run_takeDeferred hK, ?_⟩⟩
    have hc5 := cell_kept cr (grownBy_putObj' _ D (.deferred none)) (fun r e => by cases e; exact ⟨_, hK, rfl⟩)
    refine ⟨.bool true, ?_, rfl, ?_⟩
    · simp [results, Tryd.f33, go_sem, hc5]
    · exact hB.trans ⟨rfl, rfl, rfl, by simp, fun k hk => World.putObj_heap_other (by omega)⟩
  case body =>
    rintro l pre x bx W hl ⟨hT, hpf⟩ ⟨hbx, kx⟩ hpre
    obtain ⟨⟨yp, ya, yb⟩, hy, z1, z2, z3, z4, z5⟩ := HNX.out pre hpf hpre
    have HPF : Hid (pre ++ [x] <+: L ↔ x = (yp, ya, yb)) := pfx_snoc hpf hy x
    have HLA : Hid (lastAt (pre ++ [x]) = (x.1 : Int)) := lastAt_snoc pre x
    have hA1 := lastAt_ge pre
    have HLN : Hid (pre.length < 3600000000000) := by have := HLR.out; show _ < _; omega
    obtain ⟨A, hA⟩ : ∃ A, lastAt pre = A := ⟨_, rfl⟩
    obtain ⟨N, hN⟩ : ∃ N, pre.length = N := ⟨_, rfl⟩
    have HNN : Hid (pre.length = N) := hN
    rw [hA] at z1 z5 hT hA1
    rw [hN] at hT
    have hN3 : N < 3600000000000 := by rw [← hN]; exact HLN.out
    simp only at z1 z2 z3 z4 z5
    have HZ3 : Hid (r.s (yp : Int) = 1) := z3
    have HZ4 : Hid (r.h (yp : Int) = (ya, yb)) := z4
    have HZ5 : Hid _ := z5
    have HT : Hid (Td w W R stop N A) := hT
    have c4 := hT.b4.cell
    have f4 := hT.b4.frozen
    have HKX : Hid (Bk W bx 32 #[.int .i64 x.2.1, .int .i64 x.2.2]) := kx
    have hn2 := HN2.out
    obtain ⟨q0, hq0⟩ : ∃ q0 : Nat, A + 1 = (q0 : Int) := ⟨(A + 1).toNat, by omega⟩
    have HQ0 : Hid (A + 1 = (q0 : Int)) := hq0
    clear hT hpf hpre hy z3 z4 z5 hA hN kx hq0
    gi_wp2_with fail
    gi_loopw [] (fun wr => ∃ q : Nat, A < (q : Int) ∧ q ≤ yp ∧ Td w wr R stop N (q : Int) ∧ Tn (Td.bs w) W wr) (fun wr => ((yp : Int) - atOf wr (w.heap.size + 1 + 1 + 1 + 1)).toNat)
    case atStart =>
      have := HQ0.out
      refine ⟨q0, by omega, by omega, ?_, (Tn.refl _ _).setCell (.inl (by simp [Td.bs])) _⟩
      rw [← HQ0.out]
      exact HT.out.at _
    case round =>
      obtain ⟨q, hq1, hq2, hTd, hTn⟩ := hrel
      have hIR := HR.out wr hTd.below
      have c0' := hTd.b0.cell
      have c4' := hTd.b4.cell
      have f4' := hTd.b4.frozen
      have HTd : Hid (Td w wr R stop N (q : Int)) := hTd
      have HTn : Hid (Tn (Td.bs w) W wr) := hTn
      have hqn : (q : Int) < (n : Int) := by omega
      have HP : Hid (∀ k, Calls Tryd.prog 34 #[.pointer (some ⟨R, 0, none⟩)] (wr.drewN k) fun e w' => e = .returned (.int .i64 (n : Int)) ∧ w' = wr.drewN k) := fun k => rPages (hIR.below (below_drewN (Below.refl _ _) k))
      have HI : Hid (IsR wr R g1 g2 n r) := hIR
      by_cases hlt : q < yp
      · have HSt : Hid (∀ k, Calls Tryd.prog 35 #[.pointer (some ⟨R, 0, none⟩), .int .i64 (q : Int)] (wr.drewN k) fun e w' => e = .returned (.int .i64 (r.s (q : Int))) ∧ w' = wr.drewN k) := fun k => rState (hIR.below (below_drewN (Below.refl _ _) k)) _
        have hs1 : ¬ r.s (q : Int) = 1 := HZ5.out q hq1 hlt
        generalize r.s (q : Int) = sq at *
        have hb1 : (sq != 1) = true := by simp [hs1]
        have hqy : ¬ (q : Int) = yp := by omega
        clear hIR hTd hTn
        gi_wp2_with fail
        refine wpIn_region_quiet_round (by kernel_rfl) (by rfl) (by rintro ⟨a, w, h⟩; exact h) (by kernel_rfl) ?_
        repeat (go_big_quiet_step (first
          | (go_at_call 34; refine Calls.quiet_of_same (HP.out _))
          | (go_at_call 35; refine Calls.quiet_of_same (HSt.out _))))
        refine wpQuiet_nil ?_
        intro _ hw'
        obtain ⟨nq, hw''⟩ := hw'
        subst hw''
        gi_wp2
        go_roundw
        case rel => exact ⟨q + 1, by omega, by omega, (HTd.out.still (tn_drewN _ _)).at _, (HTn.out.trans (tn_drewN _ _) (by simp)).setCell (.inl (by simp [Td.bs])) _⟩
        case measure =>
          have e1 := ((HTd.out.still (tn_drewN wr nq)).at ((q : Int) + 1)).atOf
          have e2 := HTd.out.atOf
          rw [e1, e2]
          omega
      · obtain rfl : q = yp := by omega
        have HSt : Hid (∀ k, Calls Tryd.prog 35 #[.pointer (some ⟨R, 0, none⟩), .int .i64 (q : Int)] (wr.drewN k) fun e w' => e = .returned (.int .i64 1) ∧ w' = wr.drewN k) := fun k => by
          have := rState (hIR.below (below_drewN (Below.refl _ _) k)) (q : Int)
          rwa [HZ3.out] at this
        have HLd : Hid (∀ k, Calls Tryd.prog 29 #[.pointer (some ⟨R, 0, none⟩), .int .i64 (q : Int)] (wr.drewN k) fun e w' => e = .returned (.tuple #[hv (ya, yb), .int .i64 0]) ∧ Below (wr.drewN k).heap.size (wr.drewN k) w') := fun k => rLoad_at (hIR.below (below_drewN (Below.refl _ _) k)) q z2 HZ3.out HZ4.out
        clear hIR hTd hTn
        gi_wp2_with fail
        refine wpIn_region_quiet_round (by kernel_rfl) (by rfl) (by rintro ⟨a, w, h⟩; exact h) (by kernel_rfl) ?_
        repeat (go_big_quiet_step (first
          | (go_at_call 34; refine Calls.quiet_of_same (HP.out _))
          | (go_at_call 35; refine Calls.quiet_of_same (HSt.out _))))
        refine wpQuiet_nil ?_
        intro _ hw'
        obtain ⟨nq, hw''⟩ := hw'
        subst hw''
        gi_wp2_with fail
        refine ⟨trivial, ?_⟩
        refine (CallsIn.inRound l (callsIn_wide.2 (HLd.out nq))).mono ?_
        rintro e w5 ⟨rfl, hb5⟩
        have t5 : Tn [] wr w5 := (tn_drewN wr nq).trans (Tn.of_below hb5 []) (by simp)
        obtain ⟨W5, hW5⟩ : ∃ W5, w5.alloc (.cells #[.int .i64 ya, .int .i64 yb] 32) = W5 := ⟨_, rfl⟩
        have t5' : Tn [] wr W5 := by rw [← hW5]; exact t5.alloc _
        have HTn5 : Hid (Tn (Td.bs w) W W5) := HTn.out.trans t5' (by simp)
        have k5 : Bk W5 w5.heap.size 32 #[.int .i64 ya, .int .i64 yb] := by rw [← hW5]; exact Bk.new _ _ _
        have hT5 := HTd.out.still t5'
        have HT5 : Hid (Td w W5 R stop N (q : Int)) := hT5
        have d1 := hT5.b1.cell
        have d2 := hT5.b2.cell
        have d3 := hT5.b3.cell
        have d4 := hT5.b4.cell
        have e2 := hT5.b2.frozen
        have e3 := hT5.b3.frozen
        have p0 : W5.cell? ⟨w5.heap.size, 0, none⟩ = some (.int .i64 ya) := k5.cell 0
        have p1 : W5.cell? ⟨w5.heap.size, 1, none⟩ = some (.int .i64 yb) := k5.cell 1
        have kx5 := HKX.out.tn HTn5.out (by simp only [Td.bs, List.mem_cons, List.not_mem_nil, or_false]; omega)
        have m0 : W5.cell? ⟨bx, 0, none⟩ = some (.int .i64 x.2.1) := kx5.cell 0
        have m1 : W5.cell? ⟨bx, 1, none⟩ = some (.int .i64 x.2.2) := kx5.cell 1
        clear t5 t5' k5 hT5 kx5 hb5
        obtain ⟨xp, xa, xb⟩ := x
        simp only at m0 m1
        by_cases e0 : xp = q
        · subst e0
          by_cases e1 : ((xa, xb) : Int × Int) = (ya, yb)
          · have HP : Hid (pre ++ [(xp, xa, xb)] <+: L) := HPF.out.2 (by rw [e1])
            have hcmp := hneq_eq e1
            by_cases hst : stop = (N : Int) + 1
            · subst hst
              clear e1
              gi_wp2
              obtain ⟨k1, k2, k3⟩ := HT.out.fin HSL.out (((HTn5.out.setCell (.inl (by simp [Td.bs])) (.int .i64 ((N : Int) + 1))).setCell (.inl (by simp [Td.bs])) (.bool true)) : Tn _ W (World.setCell (World.setCell _ ⟨w.heap.size + 1 + 1 + 1, 0, none⟩ _) ⟨w.heap.size + 1 + 1, 0, none⟩ _))
              exact ⟨k1.from _, ⟨rfl, true, HT5.out.num.b2.set _, .inl rfl⟩, k3⟩
            · have hb : ((N : Int) + 1 == stop) = false := by simp; omega
              have hb2 : ¬ (N : Int) + 1 = stop := by omega
              clear hst e1
              gi_wp2
              obtain ⟨k1, k2, k3⟩ := HT.out.fin HSL.out ((HTn5.out.setCell (.inl (by simp [Td.bs])) (.int .i64 ((N : Int) + 1))) : Tn _ W (World.setCell _ ⟨w.heap.size + 1 + 1 + 1, 0, none⟩ _))
              refine ⟨k1.from _, k2, ?_, HP.out⟩
              rw [HLA.out, List.length_append, HNN.out]
              exact HT5.out.num
          · have HP : Hid (¬ pre ++ [(xp, xa, xb)] <+: L) := fun h => e1 (by have := HPF.out.1 h; simpa using this)
            have hcmp := hneq_ne e1
            clear e1
            gi_wp2
            obtain ⟨k1, k2, k3⟩ := HT.out.fin HSL.out ((HTn5.out.setCell (.inl (by simp [Td.bs])) (.bool false)) : Tn _ W (World.setCell _ ⟨w.heap.size + 1 + 1, 0, none⟩ _))
            exact ⟨k1.from _, ⟨rfl, false, HT5.out.b2.set _, .inr HP.out⟩, k3⟩
        · have HP : Hid (¬ pre ++ [(xp, xa, xb)] <+: L) := fun h => e0 (by have := HPF.out.1 h; simp at this; exact this.1)
          have hb1 : ((xp : Int) != (q : Int)) = true := by simp; omega
          have hb2 : ¬ (xp : Int) = (q : Int) := by omega
          clear e0
          gi_wp2
          obtain ⟨k1, k2, k3⟩ := HT.out.fin HSL.out ((HTn5.out.setCell (.inl (by simp [Td.bs])) (.bool false)) : Tn _ W (World.setCell _ ⟨w.heap.size + 1 + 1, 0, none⟩ _))
          exact ⟨k1.from _, ⟨rfl, false, HT5.out.b2.set _, .inr HP.out⟩, k3⟩
  case done =>
    rintro D zs W hD rfl ⟨hT, -⟩ hK
    have HT : Hid (Td w W R stop zs.length (lastAt zs)) := hT
    have c0 := hT.b0.cell
    have c2 := hT.b2.cell
    have c3 := hT.b3.cell
    have f2 := hT.b2.frozen
    have HMy : Hid (∀ k, Calls Tryd.prog 36 #[.pointer (some ⟨R, 0, none⟩), .int .i64 1] (W.drewN k) fun e w' => e = .returned (.int .i64 (zs.length : Int)) ∧ w' = W.drewN k) := fun k => by
      have := rMany (HR.out _ (below_drewN hT.below k)) 1
      rwa [HMN.out] at this
    have hDn : D ≠ w.heap.size + 1 + 1 := by omega
    have hD2 : w.heap.size ≤ D := by omega
    have hmix : Tryd.prog.follows .mixedOrders = true := by kernel_rfl
    obtain ⟨m, hm⟩ : ∃ m, zs.length = m := ⟨_, rfl⟩
    rw [hm] at c3 HMy
    clear hT hm
    gi_wp2_with fail
    refine wpIn_then_only ?_
    refine wpIn_region_midw (S := fun W' => W'.cell? ⟨w.heap.size, 0, none⟩ = some (.pointer (some ⟨R, 0, none⟩)) ∧ W'.cell? ⟨w.heap.size + 1 + 1 + 1, 0, none⟩ = some (.int .i64 (m : Int))) 4 (by kernel_rfl) (by rfl) (by rintro ⟨a, w, h⟩; exact h) ?_
    have hS : W.drew.cell? ⟨w.heap.size, 0, none⟩ = some (.pointer (some ⟨R, 0, none⟩)) ∧ W.drew.cell? ⟨w.heap.size + 1 + 1 + 1, 0, none⟩ = some (.int .i64 (m : Int)) := ⟨c0, c3⟩
    refine wpAnyM_take (i := 0) [3, 4] (oi := _) (v := ?_) rfl (by kernel_rfl) (by kernel_rfl) (by kernel_rfl) (by kernel_rfl) (fun _ _ _ h => h) (Or.inl ⟨by rfl, ?_⟩) hS ?_
    rotate_left
    · (intro w hSw; (try dsimp only at hSw); go_simp; try with_reducible rfl)
    try simp only [Act.put, List.setIfInBounds_toArray, List.set_cons_zero, List.set_cons_succ]
    refine wpAnyM_take (i := 1) [2, 3, 4] (oi := _) (v := ?_) rfl (by kernel_rfl) (by kernel_rfl) (by kernel_rfl) (by kernel_rfl) (fun _ _ _ h => h) (Or.inl ⟨by rfl, ?_⟩) hS ?_
    rotate_left
    · (intro w hSw; (try dsimp only at hSw); go_simp; try with_reducible rfl)
    try simp only [Act.put, List.setIfInBounds_toArray, List.set_cons_zero, List.set_cons_succ]
    refine wpAnyM_ready (rs := [2]) (by kernel_rfl) (by simp) ?_
    refine AllReadyM.cons rfl (fun K hK => ?_) AllReadyM.nil
    go_simp
    refine (HMy.out 1).mono ?_
    rintro e w9 ⟨rfl, rfl⟩
    refine hK _ _ ⟨fun _ => hS, ?_⟩
    clear hK K
    try simp only [Act.put, List.setIfInBounds_toArray, List.set_cons_zero, List.set_cons_succ]
    refine wpAnyM_ready (rs := [3]) (by kernel_rfl) (by simp) ?_
    refine AllReadyM.cons rfl (fun K hK => ?_) AllReadyM.nil
    go_simp
    refine hK _ _ ⟨fun _ => hS, ?_⟩
    clear hK K
    try simp only [Act.put, List.setIfInBounds_toArray, List.set_cons_zero, List.set_cons_succ]
    refine wpAnyM_ready (rs := [4]) (by kernel_rfl) (by simp) ?_
    refine AllReadyM.cons rfl (fun K hK => ?_) AllReadyM.nil
    go_simp
    refine hK _ _ ⟨fun h => absurd h (by omega), ?_⟩
    clear hK K
    try simp only [Act.put, List.setIfInBounds_toArray, List.set_cons_zero, List.set_cons_succ]
    refine wpAnyM_done (by kernel_rfl) ?_ _
    gi_wp2
    refine ⟨by simp, .inl ⟨_, _, rfl, run_takeDeferred ((Below.heap_setCell _ _ _ _ (by simpa using hDn)).trans hK), ?_⟩⟩
    refine ⟨.bool true, ?_, rfl, ?_⟩
    · have c4 := res_true (W' := (W.drewN 1).setCell ⟨w.heap.size + 1 + 1, 0, none⟩ (.bool true)) HT.out.b2 rfl hDn
      simp [results, Tryd.f33, go_sem, c4]
    · exact res_below (b := w.heap.size + 1 + 1) HT.out.below (by omega) hD2 rfl rfl rfl rfl

end Go.Proofs.YtnjafmjkaajbkaaDoor
