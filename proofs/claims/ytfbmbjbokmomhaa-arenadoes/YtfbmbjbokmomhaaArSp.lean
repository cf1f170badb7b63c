/- An arena beside the document's: a step with both. -/
import Derived.Test.YtfbmbjbokmomhaaArHd
import Derived.Test.YtfbmbjbokmomhaaRgM
namespace Go.Proofs.Ytfbmbjbokmomhaa
open Go.RowKit
set_option linter.unusedVariables false
set_option maxRecDepth 100000

def StepPost (w : World) (P R G N H : Nat) (j : Nat) (e : Ending) (w' : World) : Prop := ∃ B lv L a hs, e = .returned (.bool true) ∧ Pw w w' [] P B R G N H lv L a hs (j + 1)

/-- An append whose run is known, in a drawn region. -/
theorem step_appR {ops : Array Oper} {o : Oper} {a : Act} {w : World} {K : Act → World → Prop} {Q : Exit → Act → World → Prop} {E : Prop}
    (hg : o.guard = none) (s x : Operand) (t : TypeId) (hop : o.op = Op.call { callee := Callee.builtin Builtin.append, args := #[s, x], argTypes := #[t, t] })
    (v u : Value) (hs : a.eval s = v) (hx : a.eval x = u) {v' : Value} {w' : World} (hr : (Builtin.append_ #[t, t] o.type #[v, u]).run Try.prog w = .ok v' w') (hK : K (a.put o.dst v') w') :
    if Region.wanted o (yielded ops a.tmps) = true then Oper.wp Try.prog o a w K Q else E := by
  have hw : Region.wanted o (yielded ops a.tmps) = true := by simp [Region.wanted, hg]
  rw [if_pos hw]
  unfold Oper.wp
  simp [execOp, hop, resolve, invoke, builtin, hs, hx, hr, Result.andThen]
  exact hK

/-- The two boxes of a step. -/
structure Bx (W : World) (O Q : Nat) (dd use : Int) (tx : ByteArray) (gs gg s g : Int) : Prop where
  o : Bk W O 38 #[.int .i64 dd, .int .i64 use, .string tx, .int .i64 gs, .int .i64 gg]
  q : Bk W Q 36 #[.int .i64 s, .int .i64 g]
theorem Bx.keep {W W' : World} {O Q : Nat} {dd use : Int} {tx : ByteArray} {gs gg s g : Int} (h : Bx W O Q dd use tx gs gg s g) (hk : ∀ x ∈ [Q, O], W'.heap[x]? = W.heap[x]?) : Bx W' O Q dd use tx gs gg s g :=
  ⟨(hk O (by simp)).trans h.o, (hk Q (by simp)).trans h.q⟩
theorem Bx.tn {W W' : World} {O Q : Nat} {dd use : Int} {tx : ByteArray} {gs gg s g : Int} (h : Bx W O Q dd use tx gs gg s g) (hk : Tn [] W W') : Bx W' O Q dd use tx gs gg s g :=
  ⟨h.o.tn hk (by simp), h.q.tn hk (by simp)⟩

/-- Behind a call of the program's. -/
structure Half (w W : World) (X : List Nat) (P B R G N H : Nat) (lv : Value) (L : List (Int × Int)) (a a1 : Ar) (hs : List ByteArray) (O Q : Nat) (dd use : Int) (tx : ByteArray) (gs gg s g : Int) : Prop where
  pb : Bk W P 34 #[.pointer (some ⟨B, 0, none⟩), .pointer (some ⟨R, 0, none⟩), lv]
  ar : AsS w.heap.size W B a1 (X ++ avs P R G N H lv)
  ra : IsRa W R G N H a hs
  lr : Hr W lv L
  below : Below w.heap.size w W
  bx : Bx W O Q dd use tx gs gg s g
def NewB (w W : World) (x : Nat) (P B R G N H : Nat) (lv : Value) (a1 : Ar) (X : List Nat) : Prop := AsS w.heap.size W B a1 (x :: X ++ avs P R G N H lv)
theorem owns_keep {w w' : World} {base size n : Nat} {e : TypeId} {v : Value} {xs : List Value} (h : w.ownsRow base e size v n xs) (hb : ∀ k, v.ownBlock = some k → w'.heap[k]? = w.heap[k]?) : w'.ownsRow base e size v n xs := by
  refine ⟨h.1, ?_⟩
  rcases h.2 with hv | ⟨g, cap, cur, rfl, hbb, hgg, rest⟩
  · exact .inl hv
  · exact .inr ⟨g, cap, cur, rfl, hbb, (hb g rfl).trans hgg, rest⟩
theorem Arn.keep {tA tS : TypeId} {w w' : World} {B : Nat} {bs : List Nat} {a : Ar} (h : Arn tA tS w B bs a) (hk : ∀ b ∈ bs, w'.heap[b]? = w.heap[b]?) : Arn tA tS w' B bs a := by
  obtain ⟨uv, fv, fr, rfl, h⟩ := h
  exact ⟨uv, fv, fr, rfl, ⟨⟨(hk B (mem_bsOf.2 (.inl rfl))).trans h.wt.blk, owns_keep h.wt.row (fun k hh => hk k (mem_bsOf.2 (.inr (.inr hh)))), h.wt.ne, h.wt.len⟩, owns_keep h.row (fun k hh => hk k (mem_bsOf.2 (.inr (.inl hh)))), h.ne1, h.ne2, h.hp, h.perm, h.le, h.s1, h.s2⟩⟩

section
variable {w wr : World} {P B R G N H : Nat} {lv : Value} {L : List (Int × Int)} {a : Ar} {hs : List ByteArray} {j : Nat}

set_option maxHeartbeats 8000000 in
theorem step_0 (h : Pw w wr [] P B R G N H lv L a hs j) (hj : j ≤ 2932031007402) (use : Int) (tx : ByteArray) (gs gg : Int) (hu : -9223372036854775808 ≤ use ∧ use ≤ 9223372036854775807) :
    Calls Try.prog 10 #[.pointer (some ⟨P, 0, none⟩), .agg #[.int .i64 0, .int .i64 use, .string tx, .int .i64 gs, .int .i64 gg]] wr (StepPost w P R G N H j) := by
  obtain ⟨w0, hw0⟩ : ∃ w0, wr.alloc (.cells #[.int .i64 0, .int .i64 use, .string tx, .int .i64 gs, .int .i64 gg] 38) = w0 := ⟨_, rfl⟩
  have t0 : Tn [] wr w0 := by rw [← hw0]; exact (Tn.refl _ _).alloc _
  have kO : Bk w0 wr.heap.size 38 #[.int .i64 0, .int .i64 use, .string tx, .int .i64 gs, .int .i64 gg] := by rw [← hw0]; exact Bk.new _ _ _
  obtain ⟨O, hO⟩ : ∃ O, wr.heap.size = O := ⟨_, rfl⟩
  rw [hO] at kO
  have o0 : w0.cell? ⟨O, 0, none⟩ = some (.int .i64 0) := kO.cell 0
  have o1 : w0.cell? ⟨O, 1, none⟩ = some (.int .i64 use) := kO.cell 1
  have o2 : w0.cell? ⟨O, 2, none⟩ = some (.string tx) := kO.cell 2
  have o3 : w0.cell? ⟨O, 3, none⟩ = some (.int .i64 gs) := kO.cell 3
  have o4 : w0.cell? ⟨O, 4, none⟩ = some (.int .i64 gg) := kO.cell 4
  have H0 : Hid (Pw w w0 [O] P B R G N H lv L a hs j ∧ Bk w0 O 38 #[.int .i64 0, .int .i64 use, .string tx, .int .i64 gs, .int .i64 gg]) := ⟨h.box t0 [O] (by simp; rw [← hO, ← hw0]; simp), kO⟩
  have HC : Hid _ := handle_any H0.out.1 (by omega) 0 use tx gs gg hu
  have HJ : Hid (j ≤ 1000000000000000 ∧ j + 1 ≤ 1000000000000000 ∧ j ≤ 2932031007402) := ⟨by omega, by omega, hj⟩
  clear h t0 kO hu hj
  go_enter Try.func10, Try.ntmps10
  go_wp2_with fail
  refine Calls.mono HC.out ?_
  rintro r w1 ⟨s, g, rfl, t1⟩
  obtain ⟨w2, hw2⟩ : ∃ w2, w1.alloc (.cells #[.int .i64 s, .int .i64 g] 36) = w2 := ⟨_, rfl⟩
  have t2 : Tn [] w1 w2 := by rw [← hw2]; exact (Tn.refl _ _).alloc _
  obtain ⟨Q, hQ⟩ : ∃ Q, w1.heap.size = Q := ⟨_, rfl⟩
  have H2 : Hid (Pw w w2 [Q, O] P B R G N H lv L a hs j ∧ Bx w2 O Q 0 use tx gs gg s g) := by
    have hq1 : Pw w w1 [O] P B R G N H lv L a hs j := H0.out.1.quiet t1
    refine ⟨hq1.box t2 [Q] (by simp; rw [← hQ, ← hw2]; simp), ⟨(H0.out.2.tn t1 (by simp)).tn t2 (by simp), ?_⟩⟩
    rw [← hw2, ← hQ]
    exact Bk.new _ _ _
  have HCL : Hid (∀ (W : World) (B' : Nat) (v : Value), Bk W P 34 #[.pointer (some ⟨B', 0, none⟩), .pointer (some ⟨R, 0, none⟩), v] → Bx W O Q 0 use tx gs gg s g → W.cell? ⟨P, 0, none⟩ = some (.pointer (some ⟨B', 0, none⟩)) ∧ W.cell? ⟨P, 1, none⟩ = some (.pointer (some ⟨R, 0, none⟩)) ∧ W.cell? ⟨O, 2, none⟩ = some (.string tx) ∧ W.cell? ⟨Q, 0, none⟩ = some (.int .i64 s) ∧ W.cell? ⟨Q, 1, none⟩ = some (.int .i64 g)) := fun W B' v hp hb => ⟨hp.cell 0, hp.cell 1, hb.o.cell 2, hb.q.cell 0, hb.q.cell 1⟩
  have z0 : w2.cell? ⟨O, 0, none⟩ = some (.int .i64 0) := H2.out.2.o.cell 0
  obtain ⟨p0, p1, o2', q0, q1⟩ := HCL.out w2 B lv H2.out.1.pb H2.out.2
  clear t1 t2 HC H0 o0 o1 o2 o3 o4 hw0 hO
  obtain ⟨s1, g1, e1, a1, hs1, he1, hT⟩ := both_put (hs := hs) H2.out.1.iv HJ.out.1 tx H2.out.1.ra.le
  have HT : Hid _ := hT
  have HE1 : Hid (e1 = 0 ∨ e1 = 5) := he1
  clear hT he1
  have HPC : Hid (∀ W, Tn [] w2 W → Calls Try.prog 16 #[.pointer (some ⟨B, 0, none⟩), .string tx] W fun r W' => r = .returned (.tuple #[.agg #[.int .i64 s1, .int .i64 g1], .int .i64 e1]) ∧ Half w W' [Q, O] P B R G N H lv L a a1 hs O Q 0 use tx gs gg s g ∧ w2.heap.size ≤ W'.heap.size ∧ ∀ x, w2.heap.size ≤ x → x < W.heap.size → W'.heap[x]? = W.heap[x]? ∧ NewB w W' x P B R G N H lv a1 [Q, O]) := by
    intro W hW
    have h1 := H2.out.1.box hW ((List.range W.heap.size).filter fun x => decide (w2.heap.size ≤ x)) (fun y hy => by simp at hy; exact ⟨hy.2, hy.1⟩)
    refine (HT.out.prog w.heap.size W B _ h1.ar).mono ?_
    rintro r W' ⟨hr, hf⟩
    obtain ⟨i1, i2, i3, i4, i5⟩ := h1.half hf
    refine ⟨hr, ⟨i1, hf.1.sub (fun x hx => by simp only [List.append_assoc, List.mem_append] at hx ⊢; exact .inr hx), i2, i3, i4, (H2.out.2.tn hW).keep (fun x hx => i5 x (by simp only [List.mem_append]; exact .inr hx))⟩, Nat.le_trans hW.size hf.2.1.size, fun x h2 h3 => ⟨i5 x (by simp [h2, h3]), hf.1.sub (fun y hy => ?_)⟩⟩
    simp only [List.cons_append, List.mem_cons, List.append_assoc, List.mem_append] at hy ⊢
    rcases hy with rfl | hy
    · exact .inl (by simp [h2, h3])
    · exact .inr (by simpa using hy)
  have HBK : Hid (∀ W W3 : World, W = (w2.alloc (.cells #[.int .i64 0, .int .i64 0] 36)).drew → (∀ x, w2.heap.size ≤ x → x < W.heap.size → W3.heap[x]? = W.heap[x]? ∧ NewB w W3 x P B R G N H lv a1 [Q, O]) → Hid (Bk W3 w2.heap.size 36 #[.int .i64 0, .int .i64 0] ∧ NewB w W3 w2.heap.size P B R G N H lv a1 [Q, O]) ∧ W3.cell? ⟨w2.heap.size, 0, none⟩ = some (.int .i64 0) ∧ W3.cell? ⟨w2.heap.size, 1, none⟩ = some (.int .i64 0) ∧ W3.frozen? ⟨w2.heap.size, 0, none⟩ = false ∧ W3.frozen? ⟨w2.heap.size, 1, none⟩ = false) := by
    rintro W W3 rfl hk
    have k0 : Bk (w2.alloc (.cells #[.int .i64 0, .int .i64 0] 36)).drew w2.heap.size 36 #[.int .i64 0, .int .i64 0] := (Bk.new _ _ _).drew
    have k1 := hk w2.heap.size (Nat.le_refl _) k0.lt
    have k3 : Bk W3 w2.heap.size 36 #[.int .i64 0, .int .i64 0] := k1.1.trans k0
    exact ⟨⟨k3, k1.2⟩, k3.cell 0, k3.cell 1, k3.frozen 0, k3.frozen 1⟩
  have HJ2 : Hid (j ≤ 2932031007402) := HJ.out.2.2
  have HLL : Hid (L.length ≤ j) := H2.out.1.ll
  have m1 : w2.heap.size ≠ P := World.new_ne w2 _ p0
  have m2 : w2.heap.size ≠ O := World.new_ne w2 _ o2'
  go_wp2_with fail
  go_region_held3 (fun w' => w'.cell? ⟨P, 0, none⟩ = some (.pointer (some ⟨B, 0, none⟩)) ∧ w'.cell? ⟨O, 2, none⟩ = some (.string tx)) (go_keep) (first
    | (go_at_call 16; refine Calls.mono (HPC.out _ (by first | exact (Tn.refl _ _).drew | exact ((Tn.refl _ _).alloc _).drew | exact (Tn.refl _ _).drew.alloc _)) ?_; rintro r w3 ⟨rfl, hf3, hz3, hk3⟩; have H3 : Hid (Half w w3 [Q, O] P B R G N H lv L a a1 hs O Q 0 use tx gs gg s g) := hf3; obtain ⟨s0, s1', s2, s3, s4⟩ := HCL.out w3 B lv hf3.pb hf3.bx; clear hf3; first | (have hz9 := HBK.out _ w3 rfl hk3; obtain ⟨HKX, x0, x1, y0, y1⟩ := hz9) | skip))
  · as_aux_lemma =>
      obtain ⟨X6, hX6⟩ : ∃ X6, w3.heap.size = X6 := ⟨_, rfl⟩
      obtain ⟨W5, hW5⟩ : ∃ W5, w3.alloc (.cells #[.int .i64 s1, .int .i64 g1] 36) = W5 := ⟨_, rfl⟩
      have H5 : Hid (Half w W5 [X6, Q, O] P B R G N H lv L a a1 hs O Q 0 use tx gs gg s g ∧ Bk W5 X6 36 #[.int .i64 s1, .int .i64 g1] ∧ w2.heap.size ≤ X6) := by
        have hal : Tn [] w3 W5 := by rw [← hW5]; exact (Tn.refl _ _).alloc _
        have h3 := H3.out
        have hlt : X6 < W5.heap.size := by rw [← hW5, ← hX6]; simp
        refine ⟨⟨h3.pb.tn hal (by simp), ?_, h3.ra.quiet hal, h3.lr.tn hal (by simp), h3.below.trans (hal.below h3.below.size (by simp)), h3.bx.tn hal⟩, by rw [← hW5, ← hX6]; exact Bk.new _ _ _, by rw [← hX6]; exact hz3⟩
        exact h3.ar.add hal (by omega) hlt
      rw [hX6, hW5]
      clear hX6 hW5 H3 s0 s1' s2 s3 s4 hk3
      have HAX : Hid (∀ w6 : World, ∀ {W : World}, W = (W5.alloc (.cells #[.int .i64 0, .int .i64 0] 36)).drew → Tn (ras R G N H) W w6 → AsS w.heap.size w6 B a1 (W5.heap.size :: [X6, Q, O] ++ avs P R G N H lv)) := by
        rintro w6 W rfl ht
        have h9 : AsS w.heap.size (W5.alloc (.cells #[.int .i64 0, .int .i64 0] 36)).drew B a1 (W5.heap.size :: ([X6, Q, O] ++ avs P R G N H lv)) := H5.out.1.ar.add ((Tn.refl _ _).alloc _).drew (Nat.le_refl _) (by show W5.heap.size < (W5.alloc _).heap.size; simp)
        exact ArS.other h9 ht (fun x hx => by simp [avs, hx])
      clear HPC HBK m1 m2
      obtain ⟨r0, r1, r2, r3, r4⟩ := HCL.out W5 B lv H5.out.1.pb H5.out.1.bx
      have HRC : Hid (∀ W, Tn [] W5 W → Calls Try.prog 29 #[.pointer (some ⟨R, 0, none⟩), .string tx] W fun r W' => r = .returned (.tuple #[.agg #[.int .i64 s1, .int .i64 g1], .int .i64 e1]) ∧ IsRa W' R G N H a1 hs1 ∧ Tn (ras R G N H) W W') := fun W hW => HT.out.doc W R G N H (H5.out.1.ra.quiet hW)
      have HW6 : Hid (∀ W W', Tn [] W5 W → IsRa W' R G N H a1 hs1 → Tn (ras R G N H) W W' → Pw w W' [X6, Q, O] P B R G N H lv L a1 hs1 (j + 1) ∧ Bx W' O Q 0 use tx gs gg s g ∧ Bk W' X6 36 #[.int .i64 s1, .int .i64 g1]) := fun W W' hW hR hT => by
        have hx : ∀ x, w2.heap.size ≤ x → x ∉ ras R G N H := fun x hx hm => by have := H2.out.1.lt x (by simp [avs, hm]); omega
        have hOQ : ∀ x ∈ [Q, O], x ∉ ras R G N H := fun x hx hm => H2.out.1.nx x hx (by simp [avs, hm])
        have hP : P ∉ ras R G N H := H2.out.1.neP
        have hL : ∀ k, lv.ownBlock = some k → k ∉ ras R G N H := fun k hk => (H2.out.1.neL k hk).1
        have q := H5.out.1
        have hbl := q.below.trans (hW.below q.below.size (by simp))
        refine ⟨⟨(q.pb.tn hW (by simp)).tn hT hP, (q.ar.quiet hW).other hT (fun x hx => by simp [avs, hx]), hR, (q.lr.tn hW (by simp)).tn hT hL, hbl.trans (hT.below hbl.size (fun x hx => H2.out.1.ge x (by simp [avs, hx]))), H2.out.1.ge, ?_, HT.out.iv, by have := H2.out.1.ll; omega⟩, ⟨(q.bx.o.tn hW (by simp)).tn hT (hOQ O (by simp)), (q.bx.q.tn hW (by simp)).tn hT (hOQ Q (by simp))⟩, (H5.out.2.1.tn hW (by simp)).tn hT (hx X6 H5.out.2.2)⟩
        intro x hx9 hm
        simp only [List.mem_cons, List.not_mem_nil, or_false] at hx9
        rcases hx9 with rfl | hx9
        · have := H2.out.1.lt _ hm
          have := H5.out.2.2
          omega
        · exact H2.out.1.nx x (by simpa using hx9) hm
      have HBK : Hid (∀ W W3 : World, W = (W5.alloc (.cells #[.int .i64 0, .int .i64 0] 36)).drew → Tn (ras R G N H) W W3 → Hid (Bk W3 W5.heap.size 36 #[.int .i64 0, .int .i64 0]) ∧ W3.cell? ⟨W5.heap.size, 0, none⟩ = some (.int .i64 0) ∧ W3.cell? ⟨W5.heap.size, 1, none⟩ = some (.int .i64 0) ∧ W3.frozen? ⟨W5.heap.size, 0, none⟩ = false ∧ W3.frozen? ⟨W5.heap.size, 1, none⟩ = false) := by
        rintro W W3 rfl hk
        have k0 : Bk (W5.alloc (.cells #[.int .i64 0, .int .i64 0] 36)).drew W5.heap.size 36 #[.int .i64 0, .int .i64 0] := (Bk.new _ _ _).drew
        have hx : W5.heap.size ∉ ras R G N H := fun hm => by have := H5.out.1.ra.lt _ hm; omega
        have k3 := k0.tn hk hx
        exact ⟨k3, k3.cell 0, k3.cell 1, k3.frozen 0, k3.frozen 1⟩
      have m1 : W5.heap.size ≠ P := World.new_ne W5 _ r0
      have m2 : W5.heap.size ≠ O := World.new_ne W5 _ r2
      go_wp2_with fail
      go_region_held3 (fun w' => w'.cell? ⟨P, 1, none⟩ = some (.pointer (some ⟨R, 0, none⟩)) ∧ w'.cell? ⟨O, 2, none⟩ = some (.string tx)) (go_keep) (first
        | (go_at_call 29; refine Calls.mono (HRC.out _ (by first | exact (Tn.refl _ _).drew | exact ((Tn.refl _ _).alloc _).drew | exact (Tn.refl _ _).drew.alloc _)) ?_; rintro r w6 ⟨rfl, hr6, ht6⟩; have H6 : Hid _ := HW6.out _ w6 (by first | exact (Tn.refl _ _).drew | exact ((Tn.refl _ _).alloc _).drew | exact (Tn.refl _ _).drew.alloc _) hr6 ht6; obtain ⟨s0, s1', s2, s3, s4⟩ := HCL.out w6 B lv H6.out.1.pb H6.out.2.1; first | (have hz9 := HBK.out _ w6 rfl ht6; obtain ⟨HKX, x0, x1, y0, y1⟩ := hz9; clear hr6) | (have hz8 : W5.heap.size ≤ w6.heap.size := ht6.size; clear hr6)))
      · as_aux_lemma =>
          obtain ⟨X8, hX8⟩ : ∃ X8, w6.heap.size = X8 := ⟨_, rfl⟩
          obtain ⟨W7, hW7⟩ : ∃ W7, w6.alloc (.cells #[.int .i64 s1, .int .i64 g1] 36) = W7 := ⟨_, rfl⟩
          have H7 : Hid (Pw w W7 [] P B R G N H lv L a1 hs1 (j + 1) ∧ Bk W7 X6 36 #[.int .i64 s1, .int .i64 g1] ∧ Bk W7 X8 36 #[.int .i64 s1, .int .i64 g1] ∧ (∀ x ∈ avs P R G N H lv, x ≠ X6 ∧ x ≠ X8)) := by
            have hal : Tn [] w6 W7 := by rw [← hW7]; exact (Tn.refl _ _).alloc _
            exact ⟨(H6.out.1.quiet hal).bare, H6.out.2.2.tn hal (by simp), by rw [← hW7, ← hX8]; exact Bk.new _ _ _, fun x hx => by
              have h1 := H2.out.1.lt x hx
              have h2 := H5.out.2.2
              have h3 := H6.out.1.lt x hx
              omega⟩
          rw [hX8, hW7]
          clear hX8 hW7
          clear H6 H5 H2 HT HCL HRC HW6 HBK m1 m2 r0 r1 r2 r3 r4 s0 s1' s2 s3 s4 HJ
          have x60 : W7.cell? ⟨X6, 0, none⟩ = some (.int .i64 s1) := H7.out.2.1.cell 0
          have x61 : W7.cell? ⟨X6, 1, none⟩ = some (.int .i64 g1) := H7.out.2.1.cell 1
          have x80 : W7.cell? ⟨X8, 0, none⟩ = some (.int .i64 s1) := H7.out.2.2.1.cell 0
          have x81 : W7.cell? ⟨X8, 1, none⟩ = some (.int .i64 g1) := H7.out.2.2.1.cell 1
          rcases HE1.out with he | he
          · subst he
            obtain ⟨n, hn⟩ : ∃ n, L.length = n := ⟨_, rfl⟩
            have hnj : n ≤ 2932031007403 := by have := H7.out.1.ll; have := HJ2.out; omega
            obtain ⟨⟨p, c, hlv⟩, hrow⟩ := H7.out.1.lr.formN hn
            obtain ⟨WA, hWA⟩ : ∃ WA, (W7.alloc (.cells #[.int .i64 s1, .int .i64 g1] 36)).drew = WA := ⟨_, rfl⟩
            have tA : Tn [] W7 WA := by rw [← hWA]; exact ((Tn.refl _ _).alloc _).drew
            obtain ⟨XB, hXB⟩ : ∃ XB, W7.heap.size = XB := ⟨_, rfl⟩
            have kA : Bk WA XB 36 #[.int .i64 s1, .int .i64 g1] := by rw [← hWA, ← hXB]; exact (Bk.new W7 _ _).drew
            obtain ⟨i0, hi0, hz0, hz1, hz2⟩ := info_parts hinfo
            obtain ⟨v8, w8, hr8, ho8, hg8, -, hb8⟩ := run_append_own_at (P := Try.prog) WA 0 32 32 36 i0 _ 2 16 Try.underlying32 hi0 hz0 hz1 hz2 rfl (by decide) lv n (hCells L) (owns_tn hrow tA (by simp)) ⟨XB, 0, none⟩ 1 1 [.int .i64 s1, .int .i64 g1] rfl (news_bk kA) (hone s1 g1) (by unfold maxLen; omega) (by omega) (Nat.zero_le _)
            obtain ⟨p8, c8, hv8, -⟩ := row_form ho8
            subst hv8
            have T8 : Tn lv.ownBlock.toList W7 w8 := (tA.mono (by simp)).grown hg8 (fun k hk => .inl (opt_toList.2 hk))
            have hnL := H7.out.1.neL
            have hpP : P ∉ lv.ownBlock.toList := fun hm => (hnL P (opt_toList.1 hm)).2 rfl
            have h6L : X6 ∉ lv.ownBlock.toList := fun hm => (H7.out.2.2.2 X6 (by simp [avs, hm])).1 rfl
            have h8L : X8 ∉ lv.ownBlock.toList := fun hm => (H7.out.2.2.2 X8 (by simp [avs, hm])).2 rfl
            have hbP := H7.out.1.pb
            have HS : Hid (∀ W, Tn lv.ownBlock.toList W7 W → W.cell? ⟨P, 2, none⟩ = some (.slice p n c) ∧ W.cell? ⟨X6, 0, none⟩ = some (.int .i64 s1) ∧ W.cell? ⟨X6, 1, none⟩ = some (.int .i64 g1)) := fun W hW => by
              have q1 := hbP.tn hW hpP
              have q2 := H7.out.2.1.tn hW h6L
              exact ⟨by rw [q1.cell 2, ← hlv]; rfl, q2.cell 0, q2.cell 1⟩
            have HS0 : Hid _ := HS.out W7.drew ((Tn.refl _ _).drew)
            have HS1 : Hid _ := HS.out WA (tA.mono (by simp))
            have HS2 : Hid _ := HS.out w8 T8
            have d2 : w8.cell? ⟨P, 2, none⟩ = some (.slice p n c) := HS2.out.1
            have f2 : w8.frozen? ⟨P, 2, none⟩ = false := (hbP.tn T8 hpP).frozen 2
            have d2' : W7.cell? ⟨P, 2, none⟩ = some (.slice p n c) := (HS.out W7 (Tn.refl _ _)).1
            obtain ⟨W9, hW9⟩ : ∃ W9, w8.setCell ⟨P, 2, none⟩ (.slice p8 (n + 1) c8) = W9 := ⟨_, rfl⟩
            have t9 : Tn [P] w8 W9 := by rw [← hW9]; exact (Tn.refl _ _).setCell (.inl (by simp)) _
            have h6P : X6 ≠ P := fun e => (H7.out.2.2.2 P (by simp [avs])).1 e.symm
            have h8P : X8 ≠ P := fun e => (H7.out.2.2.2 P (by simp [avs])).2 e.symm
            have k6 := (H7.out.2.1.tn T8 h6L).tn t9 (by simpa using h6P)
            have k8 := (H7.out.2.2.1.tn T8 h8L).tn t9 (by simpa using h8P)
            have y60 : W9.cell? ⟨X6, 0, none⟩ = some (.int .i64 s1) := k6.cell 0
            have y61 : W9.cell? ⟨X6, 1, none⟩ = some (.int .i64 g1) := k6.cell 1
            have y80 : W9.cell? ⟨X8, 0, none⟩ = some (.int .i64 s1) := k8.cell 0
            have y81 : W9.cell? ⟨X8, 1, none⟩ = some (.int .i64 g1) := k8.cell 1
            have HE : Hid (∃ lv' L', Pw w W9 [] P B R G N H lv' L' a1 hs1 (j + 1)) := by
              have q := H7.out.1
              have T9 : Tn (P :: lv.ownBlock.toList) W7 W9 := (T8.mono (fun x hx => by simp [hx])).trans t9 (by simp)
              have hnew : ∀ k, (Value.slice p8 (n + 1) c8).ownBlock = some k → lv.ownBlock = some k ∨ W7.heap.size ≤ k := fun k hk => by
                rcases hb8 with e | e
                · exact .inl (e ▸ hk)
                · rw [e] at hk
                  simp at hk
                  have := tA.size
                  exact .inr (by omega)
              have hr9 : Hr W9 (.slice p8 (n + 1) c8) (L ++ [(s1, g1)]) := by
                unfold Hr
                rw [hCells_append, List.length_append, hn]
                refine owns_tn ho8 t9 (fun k hk => ?_)
                rcases hnew k hk with e | e
                · simpa using (hnL k e).2
                · have := q.pb.lt
                  simp
                  omega
              have hmem : ∀ x ∈ avs P R G N H (.slice p8 (n + 1) c8), x ∈ avs P R G N H lv ∨ W7.heap.size ≤ x := fun x hx => by
                simp only [avs, List.mem_cons, List.mem_append, opt_toList] at hx ⊢
                rcases hx with hx | hx | hx
                · exact .inl (.inl hx)
                · rcases hnew x hx with e | e
                  · exact .inl (.inr (.inl e))
                  · exact .inr e
                · exact .inl (.inr (.inr hx))
              have hr : ∀ x ∈ ras R G N H, x ∉ P :: lv.ownBlock.toList := fun x hx hm => by
                rcases List.mem_cons.1 hm with rfl | hm
                · exact q.neP hx
                · exact (hnL x (opt_toList.1 hm)).1 hx
              refine ⟨_, _, ?_, ?_, q.ra.tn T9 hr, hr9, q.below.trans (T9.below q.below.size (fun x hx => q.ge x (by
                rcases List.mem_cons.1 hx with rfl | hx
                · simp [avs]
                · simp only [avs, List.mem_cons, List.mem_append]; exact .inr (.inl hx)))), fun x hx => ?_, by simp, q.iv, by rw [List.length_append]; have := HLL.out; simp; omega⟩
              · rw [← hW9]
                exact (hbP.tn T8 hpP).set 2 _
              · refine q.ar.grow T9 (fun x hx => .inl ?_) (fun x hx => by simpa using hmem x (by simpa using hx)) (fun x hx => ?_)
                · rcases List.mem_cons.1 hx with rfl | hx
                  · simp [avs]
                  · simp only [List.nil_append, avs, List.mem_cons, List.mem_append]; exact .inr (.inl hx)
                · simp only [List.nil_append, avs, List.mem_cons, List.mem_append, opt_toList] at hx
                  rcases hx with rfl | hx | hx
                  · exact Nat.lt_of_lt_of_le q.pb.lt T9.size
                  · exact row_block hr9 x hx
                  · exact Nat.lt_of_lt_of_le (q.ra.lt x hx) T9.size
              · rcases hmem x hx with e | e
                · exact q.ge x e
                · have := q.below.size
                  omega
            have HWB : Hid ((W7.alloc (.cells #[.int .i64 s1, .int .i64 g1] 36)).drew = WA) := hWA
            have HXB : Hid (W7.heap.size = XB) := hXB
            have HR8 : Hid ((Builtin.append_ #[32, 32] 32 #[.slice p n c, .slice (some ⟨XB, 0, none⟩) 1 1]).run Try.prog WA = .ok (.slice p8 (n + 1) c8) w8) := by
              rw [hlv] at hr8
              exact hr8
            clear hWA hXB hr8 ho8 hg8 hb8 T8 tA kA hrow hnL hpP h6L h8L hbP t9 k6 k8 h6P h8P hi0 hz0 hz1 hz2 H7
            go_wp2_with fail
            refine wp_region_mid (S := (fun w' => w'.cell? ⟨P, 2, none⟩ = some (.slice p n c) ∧ w'.cell? ⟨X6, 0, none⟩ = some (.int .i64 s1) ∧ w'.cell? ⟨X6, 1, none⟩ = some (.int .i64 g1))) 10 (by kernel_rfl) ?_
            refine wpAnyM_take (i := 0) [] (oi := { dst := some 44, op := Op.move (Operand.tmp 0), type := 31, pos := _, after := #[], guard := none }) (v := .pointer (some ⟨P, 0, none⟩)) rfl (by kernel_rfl) (by kernel_rfl) (by kernel_rfl) (by kernel_rfl) (fun _ _ _ h => h) (Or.inl ⟨by rfl, ?_⟩) HS0.out ?_
            · (intro w' hSw; obtain ⟨k0, k1, k2⟩ := hSw; go_simp; try with_reducible rfl)
            try simp only [Act.put, List.setIfInBounds_toArray, List.set_cons_zero, List.set_cons_succ]
            refine wpAnyM_take (i := 1) [] (oi := { dst := some 45, op := Op.move (Operand.tmp 0), type := 31, pos := _, after := #[], guard := none }) (v := .pointer (some ⟨P, 0, none⟩)) rfl (by kernel_rfl) (by kernel_rfl) (by kernel_rfl) (by kernel_rfl) (fun _ _ _ h => h) (Or.inl ⟨by rfl, ?_⟩) HS0.out ?_
            · (intro w' hSw; obtain ⟨k0, k1, k2⟩ := hSw; go_simp; try with_reducible rfl)
            try simp only [Act.put, List.setIfInBounds_toArray, List.set_cons_zero, List.set_cons_succ]
            refine wpAnyM_take (i := 2) [] (oi := { dst := some 46, op := Op.nilCheck (Operand.tmp 45), type := 0, pos := _, after := #[{ on := 1, ground := Ground.data }], guard := none }) (v := ?_) rfl (by kernel_rfl) (by kernel_rfl) (by kernel_rfl) (by kernel_rfl) (fun _ _ _ h => h) (Or.inl ⟨by rfl, ?_⟩) HS0.out ?_
            rotate_left
            · (intro w' hSw; obtain ⟨k0, k1, k2⟩ := hSw; go_simp; try with_reducible rfl)
            try simp only [Act.put, List.setIfInBounds_toArray, List.set_cons_zero, List.set_cons_succ]
            refine wpAnyM_take (i := 3) [] (oi := { dst := some 47, op := Op.fieldAddr 34 (Operand.tmp 46) 2, type := 0, pos := _, after := #[{ on := 2, ground := Ground.data }], guard := none }) (v := ?_) rfl (by kernel_rfl) (by kernel_rfl) (by kernel_rfl) (by kernel_rfl) (fun _ _ _ h => h) (Or.inl ⟨by rfl, ?_⟩) HS0.out ?_
            rotate_left
            · (intro w' hSw; obtain ⟨k0, k1, k2⟩ := hSw; go_simp; try with_reducible rfl)
            try simp only [Act.put, List.setIfInBounds_toArray, List.set_cons_zero, List.set_cons_succ]
            refine wpAnyM_take (i := 4) [] (oi := { dst := some 48, op := Op.load 32 (Operand.tmp 47), type := 32, pos := _, after := #[{ on := 3, ground := Ground.data }], guard := none }) (v := .slice p n c) rfl (by kernel_rfl) (by kernel_rfl) (by kernel_rfl) (by kernel_rfl) (fun _ _ _ h => h) (Or.inl ⟨by rfl, ?_⟩) HS0.out ?_
            · (intro w' hSw; obtain ⟨k0, k1, k2⟩ := hSw; go_simp; try with_reducible rfl)
            try simp only [Act.put, List.setIfInBounds_toArray, List.set_cons_zero, List.set_cons_succ]
            refine wpAnyM_take (i := 5) [] (oi := { dst := some 49, op := Op.load 36 (Operand.tmp 6), type := 36, pos := _, after := #[], guard := none }) (v := .agg #[.int .i64 s1, .int .i64 g1]) rfl (by kernel_rfl) (by kernel_rfl) (by kernel_rfl) (by kernel_rfl) (fun _ _ _ h => h) (Or.inl ⟨by rfl, ?_⟩) HS0.out ?_
            · (intro w' hSw; obtain ⟨k0, k1, k2⟩ := hSw; go_simp; try with_reducible rfl)
            try simp only [Act.put, List.setIfInBounds_toArray, List.set_cons_zero, List.set_cons_succ]
            refine wpAnyM_ready (rs := [6]) (by kernel_rfl) (by simp) ?_
            refine AllReadyM.cons (o := { dst := some 50, op := Op.buildSlice 32 1 #[(0, Operand.tmp 49)], type := 32, pos := _, after := #[{ on := 5, ground := Ground.data }], guard := none }) rfl (fun K hK => ?_) AllReadyM.nil
            have HK9 : Hid (∀ a w, _ → K a w) := hK
            clear hK
            go_simp
            rw [HWB.out, HXB.out]
            refine HK9.out _ _ ⟨fun _ => HS1.out, ?_⟩
            clear HK9 K
            try simp only [Act.put, List.setIfInBounds_toArray, List.set_cons_zero, List.set_cons_succ]
            refine wpAnyM_ready (rs := [7]) (by kernel_rfl) (by simp) ?_
            refine AllReadyM.cons (o := { dst := some 51, op := Op.call { callee := Callee.builtin Builtin.append, args := #[Operand.tmp 48, Operand.tmp 50], argTypes := #[32, 32] }, type := 32, pos := _, after := #[{ on := 4, ground := Ground.data }, { on := 6, ground := Ground.data }], guard := none }) rfl (fun K hK => ?_) AllReadyM.nil
            have HK9 : Hid (∀ a w, _ → K a w) := hK
            clear hK
            refine step_appR rfl _ _ _ rfl _ _ rfl rfl HR8.out ?_
            refine HK9.out _ _ ⟨fun _ => HS2.out, ?_⟩
            clear HK9 K
            try simp only [Act.put, List.setIfInBounds_toArray, List.set_cons_zero, List.set_cons_succ]
            refine wpAnyM_take (i := 8) [9, 10] (oi := { dst := some 52, op := Op.nilCheck (Operand.tmp 44), type := 0, pos := _, after := #[{ on := 0, ground := Ground.data }, { on := 0, ground := Ground.phase }, { on := 1, ground := Ground.phase }, { on := 2, ground := Ground.phase }, { on := 3, ground := Ground.phase }, { on := 4, ground := Ground.phase }, { on := 5, ground := Ground.phase }, { on := 6, ground := Ground.phase }, { on := 7, ground := Ground.phase }], guard := none }) (v := ?_) rfl (by kernel_rfl) (by kernel_rfl) (by kernel_rfl) (by kernel_rfl) (fun _ _ _ h => h) (Or.inl ⟨by rfl, ?_⟩) HS2.out ?_
            rotate_left
            · (intro w' hSw; obtain ⟨k0, k1, k2⟩ := hSw; go_simp; try with_reducible rfl)
            try simp only [Act.put, List.setIfInBounds_toArray, List.set_cons_zero, List.set_cons_succ]
            refine wpAnyM_take (i := 9) [] (oi := { dst := some 53, op := Op.fieldAddr 34 (Operand.tmp 52) 2, type := 0, pos := _, after := #[{ on := 8, ground := Ground.data }, { on := 0, ground := Ground.phase }, { on := 1, ground := Ground.phase }, { on := 2, ground := Ground.phase }, { on := 3, ground := Ground.phase }, { on := 4, ground := Ground.phase }, { on := 5, ground := Ground.phase }, { on := 6, ground := Ground.phase }, { on := 7, ground := Ground.phase }], guard := none }) (v := ?_) rfl (by kernel_rfl) (by kernel_rfl) (by kernel_rfl) (by kernel_rfl) (fun _ _ _ h => h) (Or.inl ⟨by rfl, ?_⟩) HS2.out ?_
            rotate_left
            · (intro w' hSw; obtain ⟨k0, k1, k2⟩ := hSw; go_simp; try with_reducible rfl)
            try simp only [Act.put, List.setIfInBounds_toArray, List.set_cons_zero, List.set_cons_succ]
            refine wpAnyM_ready (rs := [10]) (by kernel_rfl) (by simp) ?_
            refine AllReadyM.cons (o := { dst := none, op := Op.store 32 (Operand.tmp 53) (Operand.tmp 51), type := 0, pos := _, after := #[{ on := 9, ground := Ground.data }, { on := 7, ground := Ground.data }, { on := 7, ground := Ground.chain }, { on := 0, ground := Ground.phase }, { on := 1, ground := Ground.phase }, { on := 2, ground := Ground.phase }, { on := 3, ground := Ground.phase }, { on := 4, ground := Ground.phase }, { on := 5, ground := Ground.phase }, { on := 6, ground := Ground.phase }, { on := 7, ground := Ground.phase }], guard := none }) rfl (fun K hK => ?_) AllReadyM.nil
            have HK9 : Hid (∀ a w, _ → K a w) := hK
            clear hK
            go_simp
            refine HK9.out _ _ ⟨fun h => absurd h (by omega), ?_⟩
            clear HK9 K
            try simp only [Act.put, List.setIfInBounds_toArray, List.set_cons_zero, List.set_cons_succ]
            refine wpAnyM_done (by kernel_rfl) ?_ _
            clear hW9 d2 f2 HS HS0 HS1 HS2 HR8 HWB HXB
            go_wp2
            go_ret
            obtain ⟨lv', L', hE⟩ := HE.out
            exact ⟨B, lv', L', a1, hs1, by simp, hE⟩
          · subst he
            go_wp2
            go_ret
            exact ⟨B, lv, L, a1, hs1, by simp, H7.out.1⟩
      · as_aux_lemma =>
          obtain ⟨X8, hX8⟩ : ∃ X8, W5.heap.size = X8 := ⟨_, rfl⟩
          obtain ⟨W7, hW7⟩ : ∃ W7, (w6.setCell ⟨X8, 0, none⟩ (.int .i64 s1)).setCell ⟨X8, 1, none⟩ (.int .i64 g1) = W7 := ⟨_, rfl⟩
          rw [hX8] at HKX
          have H7 : Hid (Pw w W7 [] P B R G N H lv L a1 hs1 (j + 1) ∧ Bk W7 X6 36 #[.int .i64 s1, .int .i64 g1] ∧ Bk W7 X8 36 #[.int .i64 s1, .int .i64 g1] ∧ (∀ x ∈ avs P R G N H lv, x ≠ X6 ∧ x ≠ X8)) := by
            have hal : Tn [X8] w6 W7 := by rw [← hW7]; exact ((Tn.refl _ _).setCell (.inl (by simp)) _).setCell (.inl (by simp)) _
            have h56 := H5.out.2.1.lt
            have hlt : ∀ x ∈ avs P R G N H lv, x < W5.heap.size := fun x hx => by
              obtain ⟨bb, -, -, h3⟩ := H5.out.1.ar
              exact (h3 x (by simp only [List.mem_append]; exact .inr hx)).2
            have hp := H6.out.1.bare
            have hn : ∀ x ∈ avs P R G N H lv, x ∉ [X8] := fun x hx => by have := hlt x hx; simp; omega
            have hA5 := H5.out.1.ar
            refine ⟨?_, H6.out.2.2.tn hal (by simp; omega), by rw [← hW7]; exact (HKX.out.set 0 _).set 1 _, fun x hx => by
              have h1 := H2.out.1.lt x hx
              have h2 := H5.out.2.2
              have h3 := hlt x hx
              omega⟩
            have har : AsS w.heap.size W7 B a1 ([] ++ avs P R G N H lv) := by
              have h8 : AsS w.heap.size w6 B a1 (X8 :: [X6, Q, O] ++ avs P R G N H lv) := by rw [← hX8]; exact HAX.out w6 rfl ht6
              exact (ArS.other h8 hal (by simp)).sub (fun x hx => by simp only [List.nil_append] at hx; simp [hx])
            exact ⟨hp.pb.tn hal (hn P (by simp [avs])), har, hp.ra.tn hal (fun x hx => hn x (by simp [avs, hx])), hp.lr.tn hal (fun k hk => hn k (by simp [avs, hk])), hp.below.trans (hal.below hp.below.size (by simp; have := H5.out.1.below.size; omega)), hp.ge, by simp, hp.iv, hp.ll⟩
          rw [hX8, hW7]
          clear hX8 hW7 x0 x1 y0 y1 HKX
          clear H6 H5 H2 HT HCL HRC HW6 HBK m1 m2 r0 r1 r2 r3 r4 s0 s1' s2 s3 s4 HJ
          have x60 : W7.cell? ⟨X6, 0, none⟩ = some (.int .i64 s1) := H7.out.2.1.cell 0
          have x61 : W7.cell? ⟨X6, 1, none⟩ = some (.int .i64 g1) := H7.out.2.1.cell 1
          have x80 : W7.cell? ⟨X8, 0, none⟩ = some (.int .i64 s1) := H7.out.2.2.1.cell 0
          have x81 : W7.cell? ⟨X8, 1, none⟩ = some (.int .i64 g1) := H7.out.2.2.1.cell 1
          rcases HE1.out with he | he
          · subst he
            obtain ⟨n, hn⟩ : ∃ n, L.length = n := ⟨_, rfl⟩
            have hnj : n ≤ 2932031007403 := by have := H7.out.1.ll; have := HJ2.out; omega
            obtain ⟨⟨p, c, hlv⟩, hrow⟩ := H7.out.1.lr.formN hn
            obtain ⟨WA, hWA⟩ : ∃ WA, (W7.alloc (.cells #[.int .i64 s1, .int .i64 g1] 36)).drew = WA := ⟨_, rfl⟩
            have tA : Tn [] W7 WA := by rw [← hWA]; exact ((Tn.refl _ _).alloc _).drew
            obtain ⟨XB, hXB⟩ : ∃ XB, W7.heap.size = XB := ⟨_, rfl⟩
            have kA : Bk WA XB 36 #[.int .i64 s1, .int .i64 g1] := by rw [← hWA, ← hXB]; exact (Bk.new W7 _ _).drew
            obtain ⟨i0, hi0, hz0, hz1, hz2⟩ := info_parts hinfo
            obtain ⟨v8, w8, hr8, ho8, hg8, -, hb8⟩ := run_append_own_at (P := Try.prog) WA 0 32 32 36 i0 _ 2 16 Try.underlying32 hi0 hz0 hz1 hz2 rfl (by decide) lv n (hCells L) (owns_tn hrow tA (by simp)) ⟨XB, 0, none⟩ 1 1 [.int .i64 s1, .int .i64 g1] rfl (news_bk kA) (hone s1 g1) (by unfold maxLen; omega) (by omega) (Nat.zero_le _)
            obtain ⟨p8, c8, hv8, -⟩ := row_form ho8
            subst hv8
            have T8 : Tn lv.ownBlock.toList W7 w8 := (tA.mono (by simp)).grown hg8 (fun k hk => .inl (opt_toList.2 hk))
            have hnL := H7.out.1.neL
            have hpP : P ∉ lv.ownBlock.toList := fun hm => (hnL P (opt_toList.1 hm)).2 rfl
            have h6L : X6 ∉ lv.ownBlock.toList := fun hm => (H7.out.2.2.2 X6 (by simp [avs, hm])).1 rfl
            have h8L : X8 ∉ lv.ownBlock.toList := fun hm => (H7.out.2.2.2 X8 (by simp [avs, hm])).2 rfl
            have hbP := H7.out.1.pb
            have HS : Hid (∀ W, Tn lv.ownBlock.toList W7 W → W.cell? ⟨P, 2, none⟩ = some (.slice p n c) ∧ W.cell? ⟨X6, 0, none⟩ = some (.int .i64 s1) ∧ W.cell? ⟨X6, 1, none⟩ = some (.int .i64 g1)) := fun W hW => by
              have q1 := hbP.tn hW hpP
              have q2 := H7.out.2.1.tn hW h6L
              exact ⟨by rw [q1.cell 2, ← hlv]; rfl, q2.cell 0, q2.cell 1⟩
            have HS0 : Hid _ := HS.out W7.drew ((Tn.refl _ _).drew)
            have HS1 : Hid _ := HS.out WA (tA.mono (by simp))
            have HS2 : Hid _ := HS.out w8 T8
            have d2 : w8.cell? ⟨P, 2, none⟩ = some (.slice p n c) := HS2.out.1
            have f2 : w8.frozen? ⟨P, 2, none⟩ = false := (hbP.tn T8 hpP).frozen 2
            have d2' : W7.cell? ⟨P, 2, none⟩ = some (.slice p n c) := (HS.out W7 (Tn.refl _ _)).1
            obtain ⟨W9, hW9⟩ : ∃ W9, w8.setCell ⟨P, 2, none⟩ (.slice p8 (n + 1) c8) = W9 := ⟨_, rfl⟩
            have t9 : Tn [P] w8 W9 := by rw [← hW9]; exact (Tn.refl _ _).setCell (.inl (by simp)) _
            have h6P : X6 ≠ P := fun e => (H7.out.2.2.2 P (by simp [avs])).1 e.symm
            have h8P : X8 ≠ P := fun e => (H7.out.2.2.2 P (by simp [avs])).2 e.symm
            have k6 := (H7.out.2.1.tn T8 h6L).tn t9 (by simpa using h6P)
            have k8 := (H7.out.2.2.1.tn T8 h8L).tn t9 (by simpa using h8P)
            have y60 : W9.cell? ⟨X6, 0, none⟩ = some (.int .i64 s1) := k6.cell 0
            have y61 : W9.cell? ⟨X6, 1, none⟩ = some (.int .i64 g1) := k6.cell 1
            have y80 : W9.cell? ⟨X8, 0, none⟩ = some (.int .i64 s1) := k8.cell 0
            have y81 : W9.cell? ⟨X8, 1, none⟩ = some (.int .i64 g1) := k8.cell 1
            have HE : Hid (∃ lv' L', Pw w W9 [] P B R G N H lv' L' a1 hs1 (j + 1)) := by
              have q := H7.out.1
              have T9 : Tn (P :: lv.ownBlock.toList) W7 W9 := (T8.mono (fun x hx => by simp [hx])).trans t9 (by simp)
              have hnew : ∀ k, (Value.slice p8 (n + 1) c8).ownBlock = some k → lv.ownBlock = some k ∨ W7.heap.size ≤ k := fun k hk => by
                rcases hb8 with e | e
                · exact .inl (e ▸ hk)
                · rw [e] at hk
                  simp at hk
                  have := tA.size
                  exact .inr (by omega)
              have hr9 : Hr W9 (.slice p8 (n + 1) c8) (L ++ [(s1, g1)]) := by
                unfold Hr
                rw [hCells_append, List.length_append, hn]
                refine owns_tn ho8 t9 (fun k hk => ?_)
                rcases hnew k hk with e | e
                · simpa using (hnL k e).2
                · have := q.pb.lt
                  simp
                  omega
              have hmem : ∀ x ∈ avs P R G N H (.slice p8 (n + 1) c8), x ∈ avs P R G N H lv ∨ W7.heap.size ≤ x := fun x hx => by
                simp only [avs, List.mem_cons, List.mem_append, opt_toList] at hx ⊢
                rcases hx with hx | hx | hx
                · exact .inl (.inl hx)
                · rcases hnew x hx with e | e
                  · exact .inl (.inr (.inl e))
                  · exact .inr e
                · exact .inl (.inr (.inr hx))
              have hr : ∀ x ∈ ras R G N H, x ∉ P :: lv.ownBlock.toList := fun x hx hm => by
                rcases List.mem_cons.1 hm with rfl | hm
                · exact q.neP hx
                · exact (hnL x (opt_toList.1 hm)).1 hx
              refine ⟨_, _, ?_, ?_, q.ra.tn T9 hr, hr9, q.below.trans (T9.below q.below.size (fun x hx => q.ge x (by
                rcases List.mem_cons.1 hx with rfl | hx
                · simp [avs]
                · simp only [avs, List.mem_cons, List.mem_append]; exact .inr (.inl hx)))), fun x hx => ?_, by simp, q.iv, by rw [List.length_append]; have := HLL.out; simp; omega⟩
              · rw [← hW9]
                exact (hbP.tn T8 hpP).set 2 _
              · refine q.ar.grow T9 (fun x hx => .inl ?_) (fun x hx => by simpa using hmem x (by simpa using hx)) (fun x hx => ?_)
                · rcases List.mem_cons.1 hx with rfl | hx
                  · simp [avs]
                  · simp only [List.nil_append, avs, List.mem_cons, List.mem_append]; exact .inr (.inl hx)
                · simp only [List.nil_append, avs, List.mem_cons, List.mem_append, opt_toList] at hx
                  rcases hx with rfl | hx | hx
                  · exact Nat.lt_of_lt_of_le q.pb.lt T9.size
                  · exact row_block hr9 x hx
                  · exact Nat.lt_of_lt_of_le (q.ra.lt x hx) T9.size
              · rcases hmem x hx with e | e
                · exact q.ge x e
                · have := q.below.size
                  omega
            have HWB : Hid ((W7.alloc (.cells #[.int .i64 s1, .int .i64 g1] 36)).drew = WA) := hWA
            have HXB : Hid (W7.heap.size = XB) := hXB
            have HR8 : Hid ((Builtin.append_ #[32, 32] 32 #[.slice p n c, .slice (some ⟨XB, 0, none⟩) 1 1]).run Try.prog WA = .ok (.slice p8 (n + 1) c8) w8) := by
              rw [hlv] at hr8
              exact hr8
            clear hWA hXB hr8 ho8 hg8 hb8 T8 tA kA hrow hnL hpP h6L h8L hbP t9 k6 k8 h6P h8P hi0 hz0 hz1 hz2 H7
            go_wp2_with fail
            refine wp_region_mid (S := (fun w' => w'.cell? ⟨P, 2, none⟩ = some (.slice p n c) ∧ w'.cell? ⟨X6, 0, none⟩ = some (.int .i64 s1) ∧ w'.cell? ⟨X6, 1, none⟩ = some (.int .i64 g1))) 10 (by kernel_rfl) ?_
            refine wpAnyM_take (i := 0) [] (oi := { dst := some 44, op := Op.move (Operand.tmp 0), type := 31, pos := _, after := #[], guard := none }) (v := .pointer (some ⟨P, 0, none⟩)) rfl (by kernel_rfl) (by kernel_rfl) (by kernel_rfl) (by kernel_rfl) (fun _ _ _ h => h) (Or.inl ⟨by rfl, ?_⟩) HS0.out ?_
            · (intro w' hSw; obtain ⟨k0, k1, k2⟩ := hSw; go_simp; try with_reducible rfl)
            try simp only [Act.put, List.setIfInBounds_toArray, List.set_cons_zero, List.set_cons_succ]
            refine wpAnyM_take (i := 1) [] (oi := { dst := some 45, op := Op.move (Operand.tmp 0), type := 31, pos := _, after := #[], guard := none }) (v := .pointer (some ⟨P, 0, none⟩)) rfl (by kernel_rfl) (by kernel_rfl) (by kernel_rfl) (by kernel_rfl) (fun _ _ _ h => h) (Or.inl ⟨by rfl, ?_⟩) HS0.out ?_
            · (intro w' hSw; obtain ⟨k0, k1, k2⟩ := hSw; go_simp; try with_reducible rfl)
            try simp only [Act.put, List.setIfInBounds_toArray, List.set_cons_zero, List.set_cons_succ]
            refine wpAnyM_take (i := 2) [] (oi := { dst := some 46, op := Op.nilCheck (Operand.tmp 45), type := 0, pos := _, after := #[{ on := 1, ground := Ground.data }], guard := none }) (v := ?_) rfl (by kernel_rfl) (by kernel_rfl) (by kernel_rfl) (by kernel_rfl) (fun _ _ _ h => h) (Or.inl ⟨by rfl, ?_⟩) HS0.out ?_
            rotate_left
            · (intro w' hSw; obtain ⟨k0, k1, k2⟩ := hSw; go_simp; try with_reducible rfl)
            try simp only [Act.put, List.setIfInBounds_toArray, List.set_cons_zero, List.set_cons_succ]
            refine wpAnyM_take (i := 3) [] (oi := { dst := some 47, op := Op.fieldAddr 34 (Operand.tmp 46) 2, type := 0, pos := _, after := #[{ on := 2, ground := Ground.data }], guard := none }) (v := ?_) rfl (by kernel_rfl) (by kernel_rfl) (by kernel_rfl) (by kernel_rfl) (fun _ _ _ h => h) (Or.inl ⟨by rfl, ?_⟩) HS0.out ?_
            rotate_left
            · (intro w' hSw; obtain ⟨k0, k1, k2⟩ := hSw; go_simp; try with_reducible rfl)
            try simp only [Act.put, List.setIfInBounds_toArray, List.set_cons_zero, List.set_cons_succ]
            refine wpAnyM_take (i := 4) [] (oi := { dst := some 48, op := Op.load 32 (Operand.tmp 47), type := 32, pos := _, after := #[{ on := 3, ground := Ground.data }], guard := none }) (v := .slice p n c) rfl (by kernel_rfl) (by kernel_rfl) (by kernel_rfl) (by kernel_rfl) (fun _ _ _ h => h) (Or.inl ⟨by rfl, ?_⟩) HS0.out ?_
            · (intro w' hSw; obtain ⟨k0, k1, k2⟩ := hSw; go_simp; try with_reducible rfl)
            try simp only [Act.put, List.setIfInBounds_toArray, List.set_cons_zero, List.set_cons_succ]
            refine wpAnyM_take (i := 5) [] (oi := { dst := some 49, op := Op.load 36 (Operand.tmp 6), type := 36, pos := _, after := #[], guard := none }) (v := .agg #[.int .i64 s1, .int .i64 g1]) rfl (by kernel_rfl) (by kernel_rfl) (by kernel_rfl) (by kernel_rfl) (fun _ _ _ h => h) (Or.inl ⟨by rfl, ?_⟩) HS0.out ?_
            · (intro w' hSw; obtain ⟨k0, k1, k2⟩ := hSw; go_simp; try with_reducible rfl)
            try simp only [Act.put, List.setIfInBounds_toArray, List.set_cons_zero, List.set_cons_succ]
            refine wpAnyM_ready (rs := [6]) (by kernel_rfl) (by simp) ?_
            refine AllReadyM.cons (o := { dst := some 50, op := Op.buildSlice 32 1 #[(0, Operand.tmp 49)], type := 32, pos := _, after := #[{ on := 5, ground := Ground.data }], guard := none }) rfl (fun K hK => ?_) AllReadyM.nil
            have HK9 : Hid (∀ a w, _ → K a w) := hK
            clear hK
            go_simp
            rw [HWB.out, HXB.out]
            refine HK9.out _ _ ⟨fun _ => HS1.out, ?_⟩
            clear HK9 K
            try simp only [Act.put, List.setIfInBounds_toArray, List.set_cons_zero, List.set_cons_succ]
            refine wpAnyM_ready (rs := [7]) (by kernel_rfl) (by simp) ?_
            refine AllReadyM.cons (o := { dst := some 51, op := Op.call { callee := Callee.builtin Builtin.append, args := #[Operand.tmp 48, Operand.tmp 50], argTypes := #[32, 32] }, type := 32, pos := _, after := #[{ on := 4, ground := Ground.data }, { on := 6, ground := Ground.data }], guard := none }) rfl (fun K hK => ?_) AllReadyM.nil
            have HK9 : Hid (∀ a w, _ → K a w) := hK
            clear hK
            refine step_appR rfl _ _ _ rfl _ _ rfl rfl HR8.out ?_
            refine HK9.out _ _ ⟨fun _ => HS2.out, ?_⟩
            clear HK9 K
            try simp only [Act.put, List.setIfInBounds_toArray, List.set_cons_zero, List.set_cons_succ]
            refine wpAnyM_take (i := 8) [9, 10] (oi := { dst := some 52, op := Op.nilCheck (Operand.tmp 44), type := 0, pos := _, after := #[{ on := 0, ground := Ground.data }, { on := 0, ground := Ground.phase }, { on := 1, ground := Ground.phase }, { on := 2, ground := Ground.phase }, { on := 3, ground := Ground.phase }, { on := 4, ground := Ground.phase }, { on := 5, ground := Ground.phase }, { on := 6, ground := Ground.phase }, { on := 7, ground := Ground.phase }], guard := none }) (v := ?_) rfl (by kernel_rfl) (by kernel_rfl) (by kernel_rfl) (by kernel_rfl) (fun _ _ _ h => h) (Or.inl ⟨by rfl, ?_⟩) HS2.out ?_
            rotate_left
            · (intro w' hSw; obtain ⟨k0, k1, k2⟩ := hSw; go_simp; try with_reducible rfl)
            try simp only [Act.put, List.setIfInBounds_toArray, List.set_cons_zero, List.set_cons_succ]
            refine wpAnyM_take (i := 9) [] (oi := { dst := some 53, op := Op.fieldAddr 34 (Operand.tmp 52) 2, type := 0, pos := _, after := #[{ on := 8, ground := Ground.data }, { on := 0, ground := Ground.phase }, { on := 1, ground := Ground.phase }, { on := 2, ground := Ground.phase }, { on := 3, ground := Ground.phase }, { on := 4, ground := Ground.phase }, { on := 5, ground := Ground.phase }, { on := 6, ground := Ground.phase }, { on := 7, ground := Ground.phase }], guard := none }) (v := ?_) rfl (by kernel_rfl) (by kernel_rfl) (by kernel_rfl) (by kernel_rfl) (fun _ _ _ h => h) (Or.inl ⟨by rfl, ?_⟩) HS2.out ?_
            rotate_left
            · (intro w' hSw; obtain ⟨k0, k1, k2⟩ := hSw; go_simp; try with_reducible rfl)
            try simp only [Act.put, List.setIfInBounds_toArray, List.set_cons_zero, List.set_cons_succ]
            refine wpAnyM_ready (rs := [10]) (by kernel_rfl) (by simp) ?_
            refine AllReadyM.cons (o := { dst := none, op := Op.store 32 (Operand.tmp 53) (Operand.tmp 51), type := 0, pos := _, after := #[{ on := 9, ground := Ground.data }, { on := 7, ground := Ground.data }, { on := 7, ground := Ground.chain }, { on := 0, ground := Ground.phase }, { on := 1, ground := Ground.phase }, { on := 2, ground := Ground.phase }, { on := 3, ground := Ground.phase }, { on := 4, ground := Ground.phase }, { on := 5, ground := Ground.phase }, { on := 6, ground := Ground.phase }, { on := 7, ground := Ground.phase }], guard := none }) rfl (fun K hK => ?_) AllReadyM.nil
            have HK9 : Hid (∀ a w, _ → K a w) := hK
            clear hK
            go_simp
            refine HK9.out _ _ ⟨fun h => absurd h (by omega), ?_⟩
            clear HK9 K
            try simp only [Act.put, List.setIfInBounds_toArray, List.set_cons_zero, List.set_cons_succ]
            refine wpAnyM_done (by kernel_rfl) ?_ _
            clear hW9 d2 f2 HS HS0 HS1 HS2 HR8 HWB HXB
            go_wp2
            go_ret
            obtain ⟨lv', L', hE⟩ := HE.out
            exact ⟨B, lv', L', a1, hs1, by simp, hE⟩
          · subst he
            go_wp2
            go_ret
            exact ⟨B, lv, L, a1, hs1, by simp, H7.out.1⟩
  · as_aux_lemma =>
      obtain ⟨X6, hX6⟩ : ∃ X6, w2.heap.size = X6 := ⟨_, rfl⟩
      obtain ⟨W5, hW5⟩ : ∃ W5, (w3.setCell ⟨X6, 0, none⟩ (.int .i64 s1)).setCell ⟨X6, 1, none⟩ (.int .i64 g1) = W5 := ⟨_, rfl⟩
      rw [hX6] at HKX
      have H5 : Hid (Half w W5 [X6, Q, O] P B R G N H lv L a a1 hs O Q 0 use tx gs gg s g ∧ Bk W5 X6 36 #[.int .i64 s1, .int .i64 g1] ∧ w2.heap.size ≤ X6) := by
        have hal : Tn [X6] w3 W5 := by rw [← hW5]; exact ((Tn.refl _ _).setCell (.inl (by simp)) _).setCell (.inl (by simp)) _
        have h3 := H3.out
        have hn : ∀ x ∈ avs P R G N H lv, x ∉ [X6] := fun x hx => by have := H2.out.1.lt x hx; simp; omega
        have hO6 : O ∉ [X6] := by have := H2.out.1.xlt O (by simp); simp; omega
        have hQ6 : Q ∉ [X6] := by have := H2.out.1.xlt Q (by simp); simp; omega
        refine ⟨⟨h3.pb.tn hal (hn P (by simp [avs])), ?_, h3.ra.tn hal (fun x hx => hn x (by simp [avs, hx])), h3.lr.tn hal (fun k hk => hn k (by simp [avs, hk])), h3.below.trans (hal.below h3.below.size (by simp; have := H2.out.1.below.size; omega)), ⟨h3.bx.o.tn hal hO6, h3.bx.q.tn hal hQ6⟩⟩, by rw [← hW5]; exact (HKX.out.1.set 0 _).set 1 _, by omega⟩
        exact ArS.other HKX.out.2 hal (by simp)
      rw [hX6, hW5]
      clear hX6 hW5 H3 s0 s1' s2 s3 s4 hk3 HKX x0 x1 y0 y1
      have HAX : Hid (∀ w6 : World, ∀ {W : World}, W = (W5.alloc (.cells #[.int .i64 0, .int .i64 0] 36)).drew → Tn (ras R G N H) W w6 → AsS w.heap.size w6 B a1 (W5.heap.size :: [X6, Q, O] ++ avs P R G N H lv)) := by
        rintro w6 W rfl ht
        have h9 : AsS w.heap.size (W5.alloc (.cells #[.int .i64 0, .int .i64 0] 36)).drew B a1 (W5.heap.size :: ([X6, Q, O] ++ avs P R G N H lv)) := H5.out.1.ar.add ((Tn.refl _ _).alloc _).drew (Nat.le_refl _) (by show W5.heap.size < (W5.alloc _).heap.size; simp)
        exact ArS.other h9 ht (fun x hx => by simp [avs, hx])
      clear HPC HBK m1 m2
      obtain ⟨r0, r1, r2, r3, r4⟩ := HCL.out W5 B lv H5.out.1.pb H5.out.1.bx
      have HRC : Hid (∀ W, Tn [] W5 W → Calls Try.prog 29 #[.pointer (some ⟨R, 0, none⟩), .string tx] W fun r W' => r = .returned (.tuple #[.agg #[.int .i64 s1, .int .i64 g1], .int .i64 e1]) ∧ IsRa W' R G N H a1 hs1 ∧ Tn (ras R G N H) W W') := fun W hW => HT.out.doc W R G N H (H5.out.1.ra.quiet hW)
      have HW6 : Hid (∀ W W', Tn [] W5 W → IsRa W' R G N H a1 hs1 → Tn (ras R G N H) W W' → Pw w W' [X6, Q, O] P B R G N H lv L a1 hs1 (j + 1) ∧ Bx W' O Q 0 use tx gs gg s g ∧ Bk W' X6 36 #[.int .i64 s1, .int .i64 g1]) := fun W W' hW hR hT => by
        have hx : ∀ x, w2.heap.size ≤ x → x ∉ ras R G N H := fun x hx hm => by have := H2.out.1.lt x (by simp [avs, hm]); omega
        have hOQ : ∀ x ∈ [Q, O], x ∉ ras R G N H := fun x hx hm => H2.out.1.nx x hx (by simp [avs, hm])
        have hP : P ∉ ras R G N H := H2.out.1.neP
        have hL : ∀ k, lv.ownBlock = some k → k ∉ ras R G N H := fun k hk => (H2.out.1.neL k hk).1
        have q := H5.out.1
        have hbl := q.below.trans (hW.below q.below.size (by simp))
        refine ⟨⟨(q.pb.tn hW (by simp)).tn hT hP, (q.ar.quiet hW).other hT (fun x hx => by simp [avs, hx]), hR, (q.lr.tn hW (by simp)).tn hT hL, hbl.trans (hT.below hbl.size (fun x hx => H2.out.1.ge x (by simp [avs, hx]))), H2.out.1.ge, ?_, HT.out.iv, by have := H2.out.1.ll; omega⟩, ⟨(q.bx.o.tn hW (by simp)).tn hT (hOQ O (by simp)), (q.bx.q.tn hW (by simp)).tn hT (hOQ Q (by simp))⟩, (H5.out.2.1.tn hW (by simp)).tn hT (hx X6 H5.out.2.2)⟩
        intro x hx9 hm
        simp only [List.mem_cons, List.not_mem_nil, or_false] at hx9
        rcases hx9 with rfl | hx9
        · have := H2.out.1.lt _ hm
          have := H5.out.2.2
          omega
        · exact H2.out.1.nx x (by simpa using hx9) hm
      have HBK : Hid (∀ W W3 : World, W = (W5.alloc (.cells #[.int .i64 0, .int .i64 0] 36)).drew → Tn (ras R G N H) W W3 → Hid (Bk W3 W5.heap.size 36 #[.int .i64 0, .int .i64 0]) ∧ W3.cell? ⟨W5.heap.size, 0, none⟩ = some (.int .i64 0) ∧ W3.cell? ⟨W5.heap.size, 1, none⟩ = some (.int .i64 0) ∧ W3.frozen? ⟨W5.heap.size, 0, none⟩ = false ∧ W3.frozen? ⟨W5.heap.size, 1, none⟩ = false) := by
        rintro W W3 rfl hk
        have k0 : Bk (W5.alloc (.cells #[.int .i64 0, .int .i64 0] 36)).drew W5.heap.size 36 #[.int .i64 0, .int .i64 0] := (Bk.new _ _ _).drew
        have hx : W5.heap.size ∉ ras R G N H := fun hm => by have := H5.out.1.ra.lt _ hm; omega
        have k3 := k0.tn hk hx
        exact ⟨k3, k3.cell 0, k3.cell 1, k3.frozen 0, k3.frozen 1⟩
      have m1 : W5.heap.size ≠ P := World.new_ne W5 _ r0
      have m2 : W5.heap.size ≠ O := World.new_ne W5 _ r2
      go_wp2_with fail
      go_region_held3 (fun w' => w'.cell? ⟨P, 1, none⟩ = some (.pointer (some ⟨R, 0, none⟩)) ∧ w'.cell? ⟨O, 2, none⟩ = some (.string tx)) (go_keep) (first
        | (go_at_call 29; refine Calls.mono (HRC.out _ (by first | exact (Tn.refl _ _).drew | exact ((Tn.refl _ _).alloc _).drew | exact (Tn.refl _ _).drew.alloc _)) ?_; rintro r w6 ⟨rfl, hr6, ht6⟩; have H6 : Hid _ := HW6.out _ w6 (by first | exact (Tn.refl _ _).drew | exact ((Tn.refl _ _).alloc _).drew | exact (Tn.refl _ _).drew.alloc _) hr6 ht6; obtain ⟨s0, s1', s2, s3, s4⟩ := HCL.out w6 B lv H6.out.1.pb H6.out.2.1; first | (have hz9 := HBK.out _ w6 rfl ht6; obtain ⟨HKX, x0, x1, y0, y1⟩ := hz9; clear hr6) | (have hz8 : W5.heap.size ≤ w6.heap.size := ht6.size; clear hr6)))
      · as_aux_lemma =>
          obtain ⟨X8, hX8⟩ : ∃ X8, w6.heap.size = X8 := ⟨_, rfl⟩
          obtain ⟨W7, hW7⟩ : ∃ W7, w6.alloc (.cells #[.int .i64 s1, .int .i64 g1] 36) = W7 := ⟨_, rfl⟩
          have H7 : Hid (Pw w W7 [] P B R G N H lv L a1 hs1 (j + 1) ∧ Bk W7 X6 36 #[.int .i64 s1, .int .i64 g1] ∧ Bk W7 X8 36 #[.int .i64 s1, .int .i64 g1] ∧ (∀ x ∈ avs P R G N H lv, x ≠ X6 ∧ x ≠ X8)) := by
            have hal : Tn [] w6 W7 := by rw [← hW7]; exact (Tn.refl _ _).alloc _
            exact ⟨(H6.out.1.quiet hal).bare, H6.out.2.2.tn hal (by simp), by rw [← hW7, ← hX8]; exact Bk.new _ _ _, fun x hx => by
              have h1 := H2.out.1.lt x hx
              have h2 := H5.out.2.2
              have h3 := H6.out.1.lt x hx
              omega⟩
          rw [hX8, hW7]
          clear hX8 hW7
          clear H6 H5 H2 HT HCL HRC HW6 HBK m1 m2 r0 r1 r2 r3 r4 s0 s1' s2 s3 s4 HJ
          have x60 : W7.cell? ⟨X6, 0, none⟩ = some (.int .i64 s1) := H7.out.2.1.cell 0
          have x61 : W7.cell? ⟨X6, 1, none⟩ = some (.int .i64 g1) := H7.out.2.1.cell 1
          have x80 : W7.cell? ⟨X8, 0, none⟩ = some (.int .i64 s1) := H7.out.2.2.1.cell 0
          have x81 : W7.cell? ⟨X8, 1, none⟩ = some (.int .i64 g1) := H7.out.2.2.1.cell 1
          rcases HE1.out with he | he
          · subst he
            obtain ⟨n, hn⟩ : ∃ n, L.length = n := ⟨_, rfl⟩
            have hnj : n ≤ 2932031007403 := by have := H7.out.1.ll; have := HJ2.out; omega
            obtain ⟨⟨p, c, hlv⟩, hrow⟩ := H7.out.1.lr.formN hn
            obtain ⟨WA, hWA⟩ : ∃ WA, (W7.alloc (.cells #[.int .i64 s1, .int .i64 g1] 36)).drew = WA := ⟨_, rfl⟩
            have tA : Tn [] W7 WA := by rw [← hWA]; exact ((Tn.refl _ _).alloc _).drew
            obtain ⟨XB, hXB⟩ : ∃ XB, W7.heap.size = XB := ⟨_, rfl⟩
            have kA : Bk WA XB 36 #[.int .i64 s1, .int .i64 g1] := by rw [← hWA, ← hXB]; exact (Bk.new W7 _ _).drew
            obtain ⟨i0, hi0, hz0, hz1, hz2⟩ := info_parts hinfo
            obtain ⟨v8, w8, hr8, ho8, hg8, -, hb8⟩ := run_append_own_at (P := Try.prog) WA 0 32 32 36 i0 _ 2 16 Try.underlying32 hi0 hz0 hz1 hz2 rfl (by decide) lv n (hCells L) (owns_tn hrow tA (by simp)) ⟨XB, 0, none⟩ 1 1 [.int .i64 s1, .int .i64 g1] rfl (news_bk kA) (hone s1 g1) (by unfold maxLen; omega) (by omega) (Nat.zero_le _)
            obtain ⟨p8, c8, hv8, -⟩ := row_form ho8
            subst hv8
            have T8 : Tn lv.ownBlock.toList W7 w8 := (tA.mono (by simp)).grown hg8 (fun k hk => .inl (opt_toList.2 hk))
            have hnL := H7.out.1.neL
            have hpP : P ∉ lv.ownBlock.toList := fun hm => (hnL P (opt_toList.1 hm)).2 rfl
            have h6L : X6 ∉ lv.ownBlock.toList := fun hm => (H7.out.2.2.2 X6 (by simp [avs, hm])).1 rfl
            have h8L : X8 ∉ lv.ownBlock.toList := fun hm => (H7.out.2.2.2 X8 (by simp [avs, hm])).2 rfl
            have hbP := H7.out.1.pb
            have HS : Hid (∀ W, Tn lv.ownBlock.toList W7 W → W.cell? ⟨P, 2, none⟩ = some (.slice p n c) ∧ W.cell? ⟨X6, 0, none⟩ = some (.int .i64 s1) ∧ W.cell? ⟨X6, 1, none⟩ = some (.int .i64 g1)) := fun W hW => by
              have q1 := hbP.tn hW hpP
              have q2 := H7.out.2.1.tn hW h6L
              exact ⟨by rw [q1.cell 2, ← hlv]; rfl, q2.cell 0, q2.cell 1⟩
            have HS0 : Hid _ := HS.out W7.drew ((Tn.refl _ _).drew)
            have HS1 : Hid _ := HS.out WA (tA.mono (by simp))
            have HS2 : Hid _ := HS.out w8 T8
            have d2 : w8.cell? ⟨P, 2, none⟩ = some (.slice p n c) := HS2.out.1
            have f2 : w8.frozen? ⟨P, 2, none⟩ = false := (hbP.tn T8 hpP).frozen 2
            have d2' : W7.cell? ⟨P, 2, none⟩ = some (.slice p n c) := (HS.out W7 (Tn.refl _ _)).1
            obtain ⟨W9, hW9⟩ : ∃ W9, w8.setCell ⟨P, 2, none⟩ (.slice p8 (n + 1) c8) = W9 := ⟨_, rfl⟩
            have t9 : Tn [P] w8 W9 := by rw [← hW9]; exact (Tn.refl _ _).setCell (.inl (by simp)) _
            have h6P : X6 ≠ P := fun e => (H7.out.2.2.2 P (by simp [avs])).1 e.symm
            have h8P : X8 ≠ P := fun e => (H7.out.2.2.2 P (by simp [avs])).2 e.symm
            have k6 := (H7.out.2.1.tn T8 h6L).tn t9 (by simpa using h6P)
            have k8 := (H7.out.2.2.1.tn T8 h8L).tn t9 (by simpa using h8P)
            have y60 : W9.cell? ⟨X6, 0, none⟩ = some (.int .i64 s1) := k6.cell 0
            have y61 : W9.cell? ⟨X6, 1, none⟩ = some (.int .i64 g1) := k6.cell 1
            have y80 : W9.cell? ⟨X8, 0, none⟩ = some (.int .i64 s1) := k8.cell 0
            have y81 : W9.cell? ⟨X8, 1, none⟩ = some (.int .i64 g1) := k8.cell 1
            have HE : Hid (∃ lv' L', Pw w W9 [] P B R G N H lv' L' a1 hs1 (j + 1)) := by
              have q := H7.out.1
              have T9 : Tn (P :: lv.ownBlock.toList) W7 W9 := (T8.mono (fun x hx => by simp [hx])).trans t9 (by simp)
              have hnew : ∀ k, (Value.slice p8 (n + 1) c8).ownBlock = some k → lv.ownBlock = some k ∨ W7.heap.size ≤ k := fun k hk => by
                rcases hb8 with e | e
                · exact .inl (e ▸ hk)
                · rw [e] at hk
                  simp at hk
                  have := tA.size
                  exact .inr (by omega)
              have hr9 : Hr W9 (.slice p8 (n + 1) c8) (L ++ [(s1, g1)]) := by
                unfold Hr
                rw [hCells_append, List.length_append, hn]
                refine owns_tn ho8 t9 (fun k hk => ?_)
                rcases hnew k hk with e | e
                · simpa using (hnL k e).2
                · have := q.pb.lt
                  simp
                  omega
              have hmem : ∀ x ∈ avs P R G N H (.slice p8 (n + 1) c8), x ∈ avs P R G N H lv ∨ W7.heap.size ≤ x := fun x hx => by
                simp only [avs, List.mem_cons, List.mem_append, opt_toList] at hx ⊢
                rcases hx with hx | hx | hx
                · exact .inl (.inl hx)
                · rcases hnew x hx with e | e
                  · exact .inl (.inr (.inl e))
                  · exact .inr e
                · exact .inl (.inr (.inr hx))
              have hr : ∀ x ∈ ras R G N H, x ∉ P :: lv.ownBlock.toList := fun x hx hm => by
                rcases List.mem_cons.1 hm with rfl | hm
                · exact q.neP hx
                · exact (hnL x (opt_toList.1 hm)).1 hx
              refine ⟨_, _, ?_, ?_, q.ra.tn T9 hr, hr9, q.below.trans (T9.below q.below.size (fun x hx => q.ge x (by
                rcases List.mem_cons.1 hx with rfl | hx
                · simp [avs]
                · simp only [avs, List.mem_cons, List.mem_append]; exact .inr (.inl hx)))), fun x hx => ?_, by simp, q.iv, by rw [List.length_append]; have := HLL.out; simp; omega⟩
              · rw [← hW9]
                exact (hbP.tn T8 hpP).set 2 _
              · refine q.ar.grow T9 (fun x hx => .inl ?_) (fun x hx => by simpa using hmem x (by simpa using hx)) (fun x hx => ?_)
                · rcases List.mem_cons.1 hx with rfl | hx
                  · simp [avs]
                  · simp only [List.nil_append, avs, List.mem_cons, List.mem_append]; exact .inr (.inl hx)
                · simp only [List.nil_append, avs, List.mem_cons, List.mem_append, opt_toList] at hx
                  rcases hx with rfl | hx | hx
                  · exact Nat.lt_of_lt_of_le q.pb.lt T9.size
                  · exact row_block hr9 x hx
                  · exact Nat.lt_of_lt_of_le (q.ra.lt x hx) T9.size
              · rcases hmem x hx with e | e
                · exact q.ge x e
                · have := q.below.size
                  omega
            have HWB : Hid ((W7.alloc (.cells #[.int .i64 s1, .int .i64 g1] 36)).drew = WA) := hWA
            have HXB : Hid (W7.heap.size = XB) := hXB
            have HR8 : Hid ((Builtin.append_ #[32, 32] 32 #[.slice p n c, .slice (some ⟨XB, 0, none⟩) 1 1]).run Try.prog WA = .ok (.slice p8 (n + 1) c8) w8) := by
              rw [hlv] at hr8
              exact hr8
            clear hWA hXB hr8 ho8 hg8 hb8 T8 tA kA hrow hnL hpP h6L h8L hbP t9 k6 k8 h6P h8P hi0 hz0 hz1 hz2 H7
            go_wp2_with fail
            refine wp_region_mid (S := (fun w' => w'.cell? ⟨P, 2, none⟩ = some (.slice p n c) ∧ w'.cell? ⟨X6, 0, none⟩ = some (.int .i64 s1) ∧ w'.cell? ⟨X6, 1, none⟩ = some (.int .i64 g1))) 10 (by kernel_rfl) ?_
            refine wpAnyM_take (i := 0) [] (oi := { dst := some 44, op := Op.move (Operand.tmp 0), type := 31, pos := _, after := #[], guard := none }) (v := .pointer (some ⟨P, 0, none⟩)) rfl (by kernel_rfl) (by kernel_rfl) (by kernel_rfl) (by kernel_rfl) (fun _ _ _ h => h) (Or.inl ⟨by rfl, ?_⟩) HS0.out ?_
            · (intro w' hSw; obtain ⟨k0, k1, k2⟩ := hSw; go_simp; try with_reducible rfl)
            try simp only [Act.put, List.setIfInBounds_toArray, List.set_cons_zero, List.set_cons_succ]
            refine wpAnyM_take (i := 1) [] (oi := { dst := some 45, op := Op.move (Operand.tmp 0), type := 31, pos := _, after := #[], guard := none }) (v := .pointer (some ⟨P, 0, none⟩)) rfl (by kernel_rfl) (by kernel_rfl) (by kernel_rfl) (by kernel_rfl) (fun _ _ _ h => h) (Or.inl ⟨by rfl, ?_⟩) HS0.out ?_
            · (intro w' hSw; obtain ⟨k0, k1, k2⟩ := hSw; go_simp; try with_reducible rfl)
            try simp only [Act.put, List.setIfInBounds_toArray, List.set_cons_zero, List.set_cons_succ]
            refine wpAnyM_take (i := 2) [] (oi := { dst := some 46, op := Op.nilCheck (Operand.tmp 45), type := 0, pos := _, after := #[{ on := 1, ground := Ground.data }], guard := none }) (v := ?_) rfl (by kernel_rfl) (by kernel_rfl) (by kernel_rfl) (by kernel_rfl) (fun _ _ _ h => h) (Or.inl ⟨by rfl, ?_⟩) HS0.out ?_
            rotate_left
            · (intro w' hSw; obtain ⟨k0, k1, k2⟩ := hSw; go_simp; try with_reducible rfl)
            try simp only [Act.put, List.setIfInBounds_toArray, List.set_cons_zero, List.set_cons_succ]
            refine wpAnyM_take (i := 3) [] (oi := { dst := some 47, op := Op.fieldAddr 34 (Operand.tmp 46) 2, type := 0, pos := _, after := #[{ on := 2, ground := Ground.data }], guard := none }) (v := ?_) rfl (by kernel_rfl) (by kernel_rfl) (by kernel_rfl) (by kernel_rfl) (fun _ _ _ h => h) (Or.inl ⟨by rfl, ?_⟩) HS0.out ?_
            rotate_left
            · (intro w' hSw; obtain ⟨k0, k1, k2⟩ := hSw; go_simp; try with_reducible rfl)
            try simp only [Act.put, List.setIfInBounds_toArray, List.set_cons_zero, List.set_cons_succ]
            refine wpAnyM_take (i := 4) [] (oi := { dst := some 48, op := Op.load 32 (Operand.tmp 47), type := 32, pos := _, after := #[{ on := 3, ground := Ground.data }], guard := none }) (v := .slice p n c) rfl (by kernel_rfl) (by kernel_rfl) (by kernel_rfl) (by kernel_rfl) (fun _ _ _ h => h) (Or.inl ⟨by rfl, ?_⟩) HS0.out ?_
            · (intro w' hSw; obtain ⟨k0, k1, k2⟩ := hSw; go_simp; try with_reducible rfl)
            try simp only [Act.put, List.setIfInBounds_toArray, List.set_cons_zero, List.set_cons_succ]
            refine wpAnyM_take (i := 5) [] (oi := { dst := some 49, op := Op.load 36 (Operand.tmp 6), type := 36, pos := _, after := #[], guard := none }) (v := .agg #[.int .i64 s1, .int .i64 g1]) rfl (by kernel_rfl) (by kernel_rfl) (by kernel_rfl) (by kernel_rfl) (fun _ _ _ h => h) (Or.inl ⟨by rfl, ?_⟩) HS0.out ?_
            · (intro w' hSw; obtain ⟨k0, k1, k2⟩ := hSw; go_simp; try with_reducible rfl)
            try simp only [Act.put, List.setIfInBounds_toArray, List.set_cons_zero, List.set_cons_succ]
            refine wpAnyM_ready (rs := [6]) (by kernel_rfl) (by simp) ?_
            refine AllReadyM.cons (o := { dst := some 50, op := Op.buildSlice 32 1 #[(0, Operand.tmp 49)], type := 32, pos := _, after := #[{ on := 5, ground := Ground.data }], guard := none }) rfl (fun K hK => ?_) AllReadyM.nil
            have HK9 : Hid (∀ a w, _ → K a w) := hK
            clear hK
            go_simp
            rw [HWB.out, HXB.out]
            refine HK9.out _ _ ⟨fun _ => HS1.out, ?_⟩
            clear HK9 K
            try simp only [Act.put, List.setIfInBounds_toArray, List.set_cons_zero, List.set_cons_succ]
            refine wpAnyM_ready (rs := [7]) (by kernel_rfl) (by simp) ?_
            refine AllReadyM.cons (o := { dst := some 51, op := Op.call { callee := Callee.builtin Builtin.append, args := #[Operand.tmp 48, Operand.tmp 50], argTypes := #[32, 32] }, type := 32, pos := _, after := #[{ on := 4, ground := Ground.data }, { on := 6, ground := Ground.data }], guard := none }) rfl (fun K hK => ?_) AllReadyM.nil
            have HK9 : Hid (∀ a w, _ → K a w) := hK
            clear hK
            refine step_appR rfl _ _ _ rfl _ _ rfl rfl HR8.out ?_
            refine HK9.out _ _ ⟨fun _ => HS2.out, ?_⟩
            clear HK9 K
            try simp only [Act.put, List.setIfInBounds_toArray, List.set_cons_zero, List.set_cons_succ]
            refine wpAnyM_take (i := 8) [9, 10] (oi := { dst := some 52, op := Op.nilCheck (Operand.tmp 44), type := 0, pos := _, after := #[{ on := 0, ground := Ground.data }, { on := 0, ground := Ground.phase }, { on := 1, ground := Ground.phase }, { on := 2, ground := Ground.phase }, { on := 3, ground := Ground.phase }, { on := 4, ground := Ground.phase }, { on := 5, ground := Ground.phase }, { on := 6, ground := Ground.phase }, { on := 7, ground := Ground.phase }], guard := none }) (v := ?_) rfl (by kernel_rfl) (by kernel_rfl) (by kernel_rfl) (by kernel_rfl) (fun _ _ _ h => h) (Or.inl ⟨by rfl, ?_⟩) HS2.out ?_
            rotate_left
            · (intro w' hSw; obtain ⟨k0, k1, k2⟩ := hSw; go_simp; try with_reducible rfl)
            try simp only [Act.put, List.setIfInBounds_toArray, List.set_cons_zero, List.set_cons_succ]
            refine wpAnyM_take (i := 9) [] (oi := { dst := some 53, op := Op.fieldAddr 34 (Operand.tmp 52) 2, type := 0, pos := _, after := #[{ on := 8, ground := Ground.data }, { on := 0, ground := Ground.phase }, { on := 1, ground := Ground.phase }, { on := 2, ground := Ground.phase }, { on := 3, ground := Ground.phase }, { on := 4, ground := Ground.phase }, { on := 5, ground := Ground.phase }, { on := 6, ground := Ground.phase }, { on := 7, ground := Ground.phase }], guard := none }) (v := ?_) rfl (by kernel_rfl) (by kernel_rfl) (by kernel_rfl) (by kernel_rfl) (fun _ _ _ h => h) (Or.inl ⟨by rfl, ?_⟩) HS2.out ?_
            rotate_left
            · (intro w' hSw; obtain ⟨k0, k1, k2⟩ := hSw; go_simp; try with_reducible rfl)
            try simp only [Act.put, List.setIfInBounds_toArray, List.set_cons_zero, List.set_cons_succ]
            refine wpAnyM_ready (rs := [10]) (by kernel_rfl) (by simp) ?_
            refine AllReadyM.cons (o := { dst := none, op := Op.store 32 (Operand.tmp 53) (Operand.tmp 51), type := 0, pos := _, after := #[{ on := 9, ground := Ground.data }, { on := 7, ground := Ground.data }, { on := 7, ground := Ground.chain }, { on := 0, ground := Ground.phase }, { on := 1, ground := Ground.phase }, { on := 2, ground := Ground.phase }, { on := 3, ground := Ground.phase }, { on := 4, ground := Ground.phase }, { on := 5, ground := Ground.phase }, { on := 6, ground := Ground.phase }, { on := 7, ground := Ground.phase }], guard := none }) rfl (fun K hK => ?_) AllReadyM.nil
            have HK9 : Hid (∀ a w, _ → K a w) := hK
            clear hK
            go_simp
            refine HK9.out _ _ ⟨fun h => absurd h (by omega), ?_⟩
            clear HK9 K
            try simp only [Act.put, List.setIfInBounds_toArray, List.set_cons_zero, List.set_cons_succ]
            refine wpAnyM_done (by kernel_rfl) ?_ _
            clear hW9 d2 f2 HS HS0 HS1 HS2 HR8 HWB HXB
            go_wp2
            go_ret
            obtain ⟨lv', L', hE⟩ := HE.out
            exact ⟨B, lv', L', a1, hs1, by simp, hE⟩
          · subst he
            go_wp2
            go_ret
            exact ⟨B, lv, L, a1, hs1, by simp, H7.out.1⟩
      · as_aux_lemma =>
          obtain ⟨X8, hX8⟩ : ∃ X8, W5.heap.size = X8 := ⟨_, rfl⟩
          obtain ⟨W7, hW7⟩ : ∃ W7, (w6.setCell ⟨X8, 0, none⟩ (.int .i64 s1)).setCell ⟨X8, 1, none⟩ (.int .i64 g1) = W7 := ⟨_, rfl⟩
          rw [hX8] at HKX
          have H7 : Hid (Pw w W7 [] P B R G N H lv L a1 hs1 (j + 1) ∧ Bk W7 X6 36 #[.int .i64 s1, .int .i64 g1] ∧ Bk W7 X8 36 #[.int .i64 s1, .int .i64 g1] ∧ (∀ x ∈ avs P R G N H lv, x ≠ X6 ∧ x ≠ X8)) := by
            have hal : Tn [X8] w6 W7 := by rw [← hW7]; exact ((Tn.refl _ _).setCell (.inl (by simp)) _).setCell (.inl (by simp)) _
            have h56 := H5.out.2.1.lt
            have hlt : ∀ x ∈ avs P R G N H lv, x < W5.heap.size := fun x hx => by
              obtain ⟨bb, -, -, h3⟩ := H5.out.1.ar
              exact (h3 x (by simp only [List.mem_append]; exact .inr hx)).2
            have hp := H6.out.1.bare
            have hn : ∀ x ∈ avs P R G N H lv, x ∉ [X8] := fun x hx => by have := hlt x hx; simp; omega
            have hA5 := H5.out.1.ar
            refine ⟨?_, H6.out.2.2.tn hal (by simp; omega), by rw [← hW7]; exact (HKX.out.set 0 _).set 1 _, fun x hx => by
              have h1 := H2.out.1.lt x hx
              have h2 := H5.out.2.2
              have h3 := hlt x hx
              omega⟩
            have har : AsS w.heap.size W7 B a1 ([] ++ avs P R G N H lv) := by
              have h8 : AsS w.heap.size w6 B a1 (X8 :: [X6, Q, O] ++ avs P R G N H lv) := by rw [← hX8]; exact HAX.out w6 rfl ht6
              exact (ArS.other h8 hal (by simp)).sub (fun x hx => by simp only [List.nil_append] at hx; simp [hx])
            exact ⟨hp.pb.tn hal (hn P (by simp [avs])), har, hp.ra.tn hal (fun x hx => hn x (by simp [avs, hx])), hp.lr.tn hal (fun k hk => hn k (by simp [avs, hk])), hp.below.trans (hal.below hp.below.size (by simp; have := H5.out.1.below.size; omega)), hp.ge, by simp, hp.iv, hp.ll⟩
          rw [hX8, hW7]
          clear hX8 hW7 x0 x1 y0 y1 HKX
          clear H6 H5 H2 HT HCL HRC HW6 HBK m1 m2 r0 r1 r2 r3 r4 s0 s1' s2 s3 s4 HJ
          have x60 : W7.cell? ⟨X6, 0, none⟩ = some (.int .i64 s1) := H7.out.2.1.cell 0
          have x61 : W7.cell? ⟨X6, 1, none⟩ = some (.int .i64 g1) := H7.out.2.1.cell 1
          have x80 : W7.cell? ⟨X8, 0, none⟩ = some (.int .i64 s1) := H7.out.2.2.1.cell 0
          have x81 : W7.cell? ⟨X8, 1, none⟩ = some (.int .i64 g1) := H7.out.2.2.1.cell 1
          rcases HE1.out with he | he
          · subst he
            obtain ⟨n, hn⟩ : ∃ n, L.length = n := ⟨_, rfl⟩
            have hnj : n ≤ 2932031007403 := by have := H7.out.1.ll; have := HJ2.out; omega
            obtain ⟨⟨p, c, hlv⟩, hrow⟩ := H7.out.1.lr.formN hn
            obtain ⟨WA, hWA⟩ : ∃ WA, (W7.alloc (.cells #[.int .i64 s1, .int .i64 g1] 36)).drew = WA := ⟨_, rfl⟩
            have tA : Tn [] W7 WA := by rw [← hWA]; exact ((Tn.refl _ _).alloc _).drew
            obtain ⟨XB, hXB⟩ : ∃ XB, W7.heap.size = XB := ⟨_, rfl⟩
            have kA : Bk WA XB 36 #[.int .i64 s1, .int .i64 g1] := by rw [← hWA, ← hXB]; exact (Bk.new W7 _ _).drew
            obtain ⟨i0, hi0, hz0, hz1, hz2⟩ := info_parts hinfo
            obtain ⟨v8, w8, hr8, ho8, hg8, -, hb8⟩ := run_append_own_at (P := Try.prog) WA 0 32 32 36 i0 _ 2 16 Try.underlying32 hi0 hz0 hz1 hz2 rfl (by decide) lv n (hCells L) (owns_tn hrow tA (by simp)) ⟨XB, 0, none⟩ 1 1 [.int .i64 s1, .int .i64 g1] rfl (news_bk kA) (hone s1 g1) (by unfold maxLen; omega) (by omega) (Nat.zero_le _)
            obtain ⟨p8, c8, hv8, -⟩ := row_form ho8
            subst hv8
            have T8 : Tn lv.ownBlock.toList W7 w8 := (tA.mono (by simp)).grown hg8 (fun k hk => .inl (opt_toList.2 hk))
            have hnL := H7.out.1.neL
            have hpP : P ∉ lv.ownBlock.toList := fun hm => (hnL P (opt_toList.1 hm)).2 rfl
            have h6L : X6 ∉ lv.ownBlock.toList := fun hm => (H7.out.2.2.2 X6 (by simp [avs, hm])).1 rfl
            have h8L : X8 ∉ lv.ownBlock.toList := fun hm => (H7.out.2.2.2 X8 (by simp [avs, hm])).2 rfl
            have hbP := H7.out.1.pb
            have HS : Hid (∀ W, Tn lv.ownBlock.toList W7 W → W.cell? ⟨P, 2, none⟩ = some (.slice p n c) ∧ W.cell? ⟨X6, 0, none⟩ = some (.int .i64 s1) ∧ W.cell? ⟨X6, 1, none⟩ = some (.int .i64 g1)) := fun W hW => by
              have q1 := hbP.tn hW hpP
              have q2 := H7.out.2.1.tn hW h6L
              exact ⟨by rw [q1.cell 2, ← hlv]; rfl, q2.cell 0, q2.cell 1⟩
            have HS0 : Hid _ := HS.out W7.drew ((Tn.refl _ _).drew)
            have HS1 : Hid _ := HS.out WA (tA.mono (by simp))
            have HS2 : Hid _ := HS.out w8 T8
            have d2 : w8.cell? ⟨P, 2, none⟩ = some (.slice p n c) := HS2.out.1
            have f2 : w8.frozen? ⟨P, 2, none⟩ = false := (hbP.tn T8 hpP).frozen 2
            have d2' : W7.cell? ⟨P, 2, none⟩ = some (.slice p n c) := (HS.out W7 (Tn.refl _ _)).1
            obtain ⟨W9, hW9⟩ : ∃ W9, w8.setCell ⟨P, 2, none⟩ (.slice p8 (n + 1) c8) = W9 := ⟨_, rfl⟩
            have t9 : Tn [P] w8 W9 := by rw [← hW9]; exact (Tn.refl _ _).setCell (.inl (by simp)) _
            have h6P : X6 ≠ P := fun e => (H7.out.2.2.2 P (by simp [avs])).1 e.symm
            have h8P : X8 ≠ P := fun e => (H7.out.2.2.2 P (by simp [avs])).2 e.symm
            have k6 := (H7.out.2.1.tn T8 h6L).tn t9 (by simpa using h6P)
            have k8 := (H7.out.2.2.1.tn T8 h8L).tn t9 (by simpa using h8P)
            have y60 : W9.cell? ⟨X6, 0, none⟩ = some (.int .i64 s1) := k6.cell 0
            have y61 : W9.cell? ⟨X6, 1, none⟩ = some (.int .i64 g1) := k6.cell 1
            have y80 : W9.cell? ⟨X8, 0, none⟩ = some (.int .i64 s1) := k8.cell 0
            have y81 : W9.cell? ⟨X8, 1, none⟩ = some (.int .i64 g1) := k8.cell 1
            have HE : Hid (∃ lv' L', Pw w W9 [] P B R G N H lv' L' a1 hs1 (j + 1)) := by
              have q := H7.out.1
              have T9 : Tn (P :: lv.ownBlock.toList) W7 W9 := (T8.mono (fun x hx => by simp [hx])).trans t9 (by simp)
              have hnew : ∀ k, (Value.slice p8 (n + 1) c8).ownBlock = some k → lv.ownBlock = some k ∨ W7.heap.size ≤ k := fun k hk => by
                rcases hb8 with e | e
                · exact .inl (e ▸ hk)
                · rw [e] at hk
                  simp at hk
                  have := tA.size
                  exact .inr (by omega)
              have hr9 : Hr W9 (.slice p8 (n + 1) c8) (L ++ [(s1, g1)]) := by
                unfold Hr
                rw [hCells_append, List.length_append, hn]
                refine owns_tn ho8 t9 (fun k hk => ?_)
                rcases hnew k hk with e | e
                · simpa using (hnL k e).2
                · have := q.pb.lt
                  simp
                  omega
              have hmem : ∀ x ∈ avs P R G N H (.slice p8 (n + 1) c8), x ∈ avs P R G N H lv ∨ W7.heap.size ≤ x := fun x hx => by
                simp only [avs, List.mem_cons, List.mem_append, opt_toList] at hx ⊢
                rcases hx with hx | hx | hx
                · exact .inl (.inl hx)
                · rcases hnew x hx with e | e
                  · exact .inl (.inr (.inl e))
                  · exact .inr e
                · exact .inl (.inr (.inr hx))
              have hr : ∀ x ∈ ras R G N H, x ∉ P :: lv.ownBlock.toList := fun x hx hm => by
                rcases List.mem_cons.1 hm with rfl | hm
                · exact q.neP hx
                · exact (hnL x (opt_toList.1 hm)).1 hx
              refine ⟨_, _, ?_, ?_, q.ra.tn T9 hr, hr9, q.below.trans (T9.below q.below.size (fun x hx => q.ge x (by
                rcases List.mem_cons.1 hx with rfl | hx
                · simp [avs]
                · simp only [avs, List.mem_cons, List.mem_append]; exact .inr (.inl hx)))), fun x hx => ?_, by simp, q.iv, by rw [List.length_append]; have := HLL.out; simp; omega⟩
              · rw [← hW9]
                exact (hbP.tn T8 hpP).set 2 _
              · refine q.ar.grow T9 (fun x hx => .inl ?_) (fun x hx => by simpa using hmem x (by simpa using hx)) (fun x hx => ?_)
                · rcases List.mem_cons.1 hx with rfl | hx
                  · simp [avs]
                  · simp only [List.nil_append, avs, List.mem_cons, List.mem_append]; exact .inr (.inl hx)
                · simp only [List.nil_append, avs, List.mem_cons, List.mem_append, opt_toList] at hx
                  rcases hx with rfl | hx | hx
                  · exact Nat.lt_of_lt_of_le q.pb.lt T9.size
                  · exact row_block hr9 x hx
                  · exact Nat.lt_of_lt_of_le (q.ra.lt x hx) T9.size
              · rcases hmem x hx with e | e
                · exact q.ge x e
                · have := q.below.size
                  omega
            have HWB : Hid ((W7.alloc (.cells #[.int .i64 s1, .int .i64 g1] 36)).drew = WA) := hWA
            have HXB : Hid (W7.heap.size = XB) := hXB
            have HR8 : Hid ((Builtin.append_ #[32, 32] 32 #[.slice p n c, .slice (some ⟨XB, 0, none⟩) 1 1]).run Try.prog WA = .ok (.slice p8 (n + 1) c8) w8) := by
              rw [hlv] at hr8
              exact hr8
            clear hWA hXB hr8 ho8 hg8 hb8 T8 tA kA hrow hnL hpP h6L h8L hbP t9 k6 k8 h6P h8P hi0 hz0 hz1 hz2 H7
            go_wp2_with fail
            refine wp_region_mid (S := (fun w' => w'.cell? ⟨P, 2, none⟩ = some (.slice p n c) ∧ w'.cell? ⟨X6, 0, none⟩ = some (.int .i64 s1) ∧ w'.cell? ⟨X6, 1, none⟩ = some (.int .i64 g1))) 10 (by kernel_rfl) ?_
            refine wpAnyM_take (i := 0) [] (oi := { dst := some 44, op := Op.move (Operand.tmp 0), type := 31, pos := _, after := #[], guard := none }) (v := .pointer (some ⟨P, 0, none⟩)) rfl (by kernel_rfl) (by kernel_rfl) (by kernel_rfl) (by kernel_rfl) (fun _ _ _ h => h) (Or.inl ⟨by rfl, ?_⟩) HS0.out ?_
            · (intro w' hSw; obtain ⟨k0, k1, k2⟩ := hSw; go_simp; try with_reducible rfl)
            try simp only [Act.put, List.setIfInBounds_toArray, List.set_cons_zero, List.set_cons_succ]
            refine wpAnyM_take (i := 1) [] (oi := { dst := some 45, op := Op.move (Operand.tmp 0), type := 31, pos := _, after := #[], guard := none }) (v := .pointer (some ⟨P, 0, none⟩)) rfl (by kernel_rfl) (by kernel_rfl) (by kernel_rfl) (by kernel_rfl) (fun _ _ _ h => h) (Or.inl ⟨by rfl, ?_⟩) HS0.out ?_
            · (intro w' hSw; obtain ⟨k0, k1, k2⟩ := hSw; go_simp; try with_reducible rfl)
            try simp only [Act.put, List.setIfInBounds_toArray, List.set_cons_zero, List.set_cons_succ]
            refine wpAnyM_take (i := 2) [] (oi := { dst := some 46, op := Op.nilCheck (Operand.tmp 45), type := 0, pos := _, after := #[{ on := 1, ground := Ground.data }], guard := none }) (v := ?_) rfl (by kernel_rfl) (by kernel_rfl) (by kernel_rfl) (by kernel_rfl) (fun _ _ _ h => h) (Or.inl ⟨by rfl, ?_⟩) HS0.out ?_
            rotate_left
            · (intro w' hSw; obtain ⟨k0, k1, k2⟩ := hSw; go_simp; try with_reducible rfl)
            try simp only [Act.put, List.setIfInBounds_toArray, List.set_cons_zero, List.set_cons_succ]
            refine wpAnyM_take (i := 3) [] (oi := { dst := some 47, op := Op.fieldAddr 34 (Operand.tmp 46) 2, type := 0, pos := _, after := #[{ on := 2, ground := Ground.data }], guard := none }) (v := ?_) rfl (by kernel_rfl) (by kernel_rfl) (by kernel_rfl) (by kernel_rfl) (fun _ _ _ h => h) (Or.inl ⟨by rfl, ?_⟩) HS0.out ?_
            rotate_left
            · (intro w' hSw; obtain ⟨k0, k1, k2⟩ := hSw; go_simp; try with_reducible rfl)
            try simp only [Act.put, List.setIfInBounds_toArray, List.set_cons_zero, List.set_cons_succ]
            refine wpAnyM_take (i := 4) [] (oi := { dst := some 48, op := Op.load 32 (Operand.tmp 47), type := 32, pos := _, after := #[{ on := 3, ground := Ground.data }], guard := none }) (v := .slice p n c) rfl (by kernel_rfl) (by kernel_rfl) (by kernel_rfl) (by kernel_rfl) (fun _ _ _ h => h) (Or.inl ⟨by rfl, ?_⟩) HS0.out ?_
            · (intro w' hSw; obtain ⟨k0, k1, k2⟩ := hSw; go_simp; try with_reducible rfl)
            try simp only [Act.put, List.setIfInBounds_toArray, List.set_cons_zero, List.set_cons_succ]
            refine wpAnyM_take (i := 5) [] (oi := { dst := some 49, op := Op.load 36 (Operand.tmp 6), type := 36, pos := _, after := #[], guard := none }) (v := .agg #[.int .i64 s1, .int .i64 g1]) rfl (by kernel_rfl) (by kernel_rfl) (by kernel_rfl) (by kernel_rfl) (fun _ _ _ h => h) (Or.inl ⟨by rfl, ?_⟩) HS0.out ?_
            · (intro w' hSw; obtain ⟨k0, k1, k2⟩ := hSw; go_simp; try with_reducible rfl)
            try simp only [Act.put, List.setIfInBounds_toArray, List.set_cons_zero, List.set_cons_succ]
            refine wpAnyM_ready (rs := [6]) (by kernel_rfl) (by simp) ?_
            refine AllReadyM.cons (o := { dst := some 50, op := Op.buildSlice 32 1 #[(0, Operand.tmp 49)], type := 32, pos := _, after := #[{ on := 5, ground := Ground.data }], guard := none }) rfl (fun K hK => ?_) AllReadyM.nil
            have HK9 : Hid (∀ a w, _ → K a w) := hK
            clear hK
            go_simp
            rw [HWB.out, HXB.out]
            refine HK9.out _ _ ⟨fun _ => HS1.out, ?_⟩
            clear HK9 K
            try simp only [Act.put, List.setIfInBounds_toArray, List.set_cons_zero, List.set_cons_succ]
            refine wpAnyM_ready (rs := [7]) (by kernel_rfl) (by simp) ?_
            refine AllReadyM.cons (o := { dst := some 51, op := Op.call { callee := Callee.builtin Builtin.append, args := #[Operand.tmp 48, Operand.tmp 50], argTypes := #[32, 32] }, type := 32, pos := _, after := #[{ on := 4, ground := Ground.data }, { on := 6, ground := Ground.data }], guard := none }) rfl (fun K hK => ?_) AllReadyM.nil
            have HK9 : Hid (∀ a w, _ → K a w) := hK
            clear hK
            refine step_appR rfl _ _ _ rfl _ _ rfl rfl HR8.out ?_
            refine HK9.out _ _ ⟨fun _ => HS2.out, ?_⟩
            clear HK9 K
            try simp only [Act.put, List.setIfInBounds_toArray, List.set_cons_zero, List.set_cons_succ]
            refine wpAnyM_take (i := 8) [9, 10] (oi := { dst := some 52, op := Op.nilCheck (Operand.tmp 44), type := 0, pos := _, after := #[{ on := 0, ground := Ground.data }, { on := 0, ground := Ground.phase }, { on := 1, ground := Ground.phase }, { on := 2, ground := Ground.phase }, { on := 3, ground := Ground.phase }, { on := 4, ground := Ground.phase }, { on := 5, ground := Ground.phase }, { on := 6, ground := Ground.phase }, { on := 7, ground := Ground.phase }], guard := none }) (v := ?_) rfl (by kernel_rfl) (by kernel_rfl) (by kernel_rfl) (by kernel_rfl) (fun _ _ _ h => h) (Or.inl ⟨by rfl, ?_⟩) HS2.out ?_
            rotate_left
            · (intro w' hSw; obtain ⟨k0, k1, k2⟩ := hSw; go_simp; try with_reducible rfl)
            try simp only [Act.put, List.setIfInBounds_toArray, List.set_cons_zero, List.set_cons_succ]
            refine wpAnyM_take (i := 9) [] (oi := { dst := some 53, op := Op.fieldAddr 34 (Operand.tmp 52) 2, type := 0, pos := _, after := #[{ on := 8, ground := Ground.data }, { on := 0, ground := Ground.phase }, { on := 1, ground := Ground.phase }, { on := 2, ground := Ground.phase }, { on := 3, ground := Ground.phase }, { on := 4, ground := Ground.phase }, { on := 5, ground := Ground.phase }, { on := 6, ground := Ground.phase }, { on := 7, ground := Ground.phase }], guard := none }) (v := ?_) rfl (by kernel_rfl) (by kernel_rfl) (by kernel_rfl) (by kernel_rfl) (fun _ _ _ h => h) (Or.inl ⟨by rfl, ?_⟩) HS2.out ?_
            rotate_left
            · (intro w' hSw; obtain ⟨k0, k1, k2⟩ := hSw; go_simp; try with_reducible rfl)
            try simp only [Act.put, List.setIfInBounds_toArray, List.set_cons_zero, List.set_cons_succ]
            refine wpAnyM_ready (rs := [10]) (by kernel_rfl) (by simp) ?_
            refine AllReadyM.cons (o := { dst := none, op := Op.store 32 (Operand.tmp 53) (Operand.tmp 51), type := 0, pos := _, after := #[{ on := 9, ground := Ground.data }, { on := 7, ground := Ground.data }, { on := 7, ground := Ground.chain }, { on := 0, ground := Ground.phase }, { on := 1, ground := Ground.phase }, { on := 2, ground := Ground.phase }, { on := 3, ground := Ground.phase }, { on := 4, ground := Ground.phase }, { on := 5, ground := Ground.phase }, { on := 6, ground := Ground.phase }, { on := 7, ground := Ground.phase }], guard := none }) rfl (fun K hK => ?_) AllReadyM.nil
            have HK9 : Hid (∀ a w, _ → K a w) := hK
            clear hK
            go_simp
            refine HK9.out _ _ ⟨fun h => absurd h (by omega), ?_⟩
            clear HK9 K
            try simp only [Act.put, List.setIfInBounds_toArray, List.set_cons_zero, List.set_cons_succ]
            refine wpAnyM_done (by kernel_rfl) ?_ _
            clear hW9 d2 f2 HS HS0 HS1 HS2 HR8 HWB HXB
            go_wp2
            go_ret
            obtain ⟨lv', L', hE⟩ := HE.out
            exact ⟨B, lv', L', a1, hs1, by simp, hE⟩
          · subst he
            go_wp2
            go_ret
            exact ⟨B, lv, L, a1, hs1, by simp, H7.out.1⟩

set_option maxHeartbeats 8000000 in
theorem step_2 (h : Pw w wr [] P B R G N H lv L a hs j) (hj : j ≤ 2932031007402) (use : Int) (tx : ByteArray) (gs gg : Int) (hu : -9223372036854775808 ≤ use ∧ use ≤ 9223372036854775807) :
    Calls Try.prog 10 #[.pointer (some ⟨P, 0, none⟩), .agg #[.int .i64 2, .int .i64 use, .string tx, .int .i64 gs, .int .i64 gg]] wr (StepPost w P R G N H j) := by
  obtain ⟨w0, hw0⟩ : ∃ w0, wr.alloc (.cells #[.int .i64 2, .int .i64 use, .string tx, .int .i64 gs, .int .i64 gg] 38) = w0 := ⟨_, rfl⟩
  have t0 : Tn [] wr w0 := by rw [← hw0]; exact (Tn.refl _ _).alloc _
  have kO : Bk w0 wr.heap.size 38 #[.int .i64 2, .int .i64 use, .string tx, .int .i64 gs, .int .i64 gg] := by rw [← hw0]; exact Bk.new _ _ _
  obtain ⟨O, hO⟩ : ∃ O, wr.heap.size = O := ⟨_, rfl⟩
  rw [hO] at kO
  have o0 : w0.cell? ⟨O, 0, none⟩ = some (.int .i64 2) := kO.cell 0
  have o1 : w0.cell? ⟨O, 1, none⟩ = some (.int .i64 use) := kO.cell 1
  have o2 : w0.cell? ⟨O, 2, none⟩ = some (.string tx) := kO.cell 2
  have o3 : w0.cell? ⟨O, 3, none⟩ = some (.int .i64 gs) := kO.cell 3
  have o4 : w0.cell? ⟨O, 4, none⟩ = some (.int .i64 gg) := kO.cell 4
  have H0 : Hid (Pw w w0 [O] P B R G N H lv L a hs j ∧ Bk w0 O 38 #[.int .i64 2, .int .i64 use, .string tx, .int .i64 gs, .int .i64 gg]) := ⟨h.box t0 [O] (by simp; rw [← hO, ← hw0]; simp), kO⟩
  have HC : Hid _ := handle_any H0.out.1 (by omega) 2 use tx gs gg hu
  have HJ : Hid (j ≤ 1000000000000000 ∧ j + 1 ≤ 1000000000000000 ∧ j ≤ 2932031007402) := ⟨by omega, by omega, hj⟩
  clear h t0 kO hu hj
  go_enter Try.func10, Try.ntmps10
  go_wp2_with fail
  refine Calls.mono HC.out ?_
  rintro r w1 ⟨s, g, rfl, t1⟩
  obtain ⟨w2, hw2⟩ : ∃ w2, w1.alloc (.cells #[.int .i64 s, .int .i64 g] 36) = w2 := ⟨_, rfl⟩
  have t2 : Tn [] w1 w2 := by rw [← hw2]; exact (Tn.refl _ _).alloc _
  obtain ⟨Q, hQ⟩ : ∃ Q, w1.heap.size = Q := ⟨_, rfl⟩
  have H2 : Hid (Pw w w2 [Q, O] P B R G N H lv L a hs j ∧ Bx w2 O Q 2 use tx gs gg s g) := by
    have hq1 : Pw w w1 [O] P B R G N H lv L a hs j := H0.out.1.quiet t1
    refine ⟨hq1.box t2 [Q] (by simp; rw [← hQ, ← hw2]; simp), ⟨(H0.out.2.tn t1 (by simp)).tn t2 (by simp), ?_⟩⟩
    rw [← hw2, ← hQ]
    exact Bk.new _ _ _
  have HCL : Hid (∀ (W : World) (B' : Nat) (v : Value), Bk W P 34 #[.pointer (some ⟨B', 0, none⟩), .pointer (some ⟨R, 0, none⟩), v] → Bx W O Q 2 use tx gs gg s g → W.cell? ⟨P, 0, none⟩ = some (.pointer (some ⟨B', 0, none⟩)) ∧ W.cell? ⟨P, 1, none⟩ = some (.pointer (some ⟨R, 0, none⟩)) ∧ W.cell? ⟨O, 2, none⟩ = some (.string tx) ∧ W.cell? ⟨Q, 0, none⟩ = some (.int .i64 s) ∧ W.cell? ⟨Q, 1, none⟩ = some (.int .i64 g)) := fun W B' v hp hb => ⟨hp.cell 0, hp.cell 1, hb.o.cell 2, hb.q.cell 0, hb.q.cell 1⟩
  have z0 : w2.cell? ⟨O, 0, none⟩ = some (.int .i64 2) := H2.out.2.o.cell 0
  obtain ⟨p0, p1, o2', q0, q1⟩ := HCL.out w2 B lv H2.out.1.pb H2.out.2
  clear t1 t2 HC H0 o0 o1 o2 o3 o4 hw0 hO
  obtain ⟨e, a', hs', hT⟩ := both_set (hs := hs) H2.out.1.iv HJ.out.1 s g tx
  have HT : Hid _ := hT
  clear hT
  have HD : Hid (Pw w w2.drew [Q, O] P B R G N H lv L a hs j ∧ Bx w2.drew O Q 2 use tx gs gg s g) := ⟨H2.out.1.quiet (Tn.refl _ _).drew, H2.out.2.tn (Tn.refl _ _).drew⟩
  go_wp2_with fail
  go_region_held3 (fun w' => w'.cell? ⟨P, 0, none⟩ = some (.pointer (some ⟨B, 0, none⟩)) ∧ w'.cell? ⟨P, 1, none⟩ = some (.pointer (some ⟨R, 0, none⟩)) ∧ w'.cell? ⟨O, 2, none⟩ = some (.string tx) ∧ w'.cell? ⟨Q, 0, none⟩ = some (.int .i64 s) ∧ w'.cell? ⟨Q, 1, none⟩ = some (.int .i64 g)) (go_keep) (first
    | (go_at_call 18; refine Calls.mono (HT.out.prog w.heap.size w2.drew B _ HD.out.1.ar) ?_; rintro r w3 ⟨rfl, hf3⟩; have H3 : Hid (AftS w.heap.size w2.drew w3 B a' ([Q, O] ++ avs P R G N H lv)) := hf3; have hh := HD.out.1.half hf3; obtain ⟨s0, s1, s2, s3, s4⟩ := HCL.out w3 B lv hh.1 (HD.out.2.keep hh.2.2.2.2); clear hf3 hh)
    | (go_at_call 30; refine Calls.mono (HT.out.doc w3 R G N H (HD.out.1.half H3.out).2.1) ?_; rintro r w4 ⟨rfl, hr4, ht4⟩; have H4 : Hid (Pw w w4 [Q, O] P B R G N H lv L a' hs' (j + 1)) := (HD.out.1.two H3.out hr4 ht4 HT.out.iv).1; obtain ⟨v0, v1, v2, v3, v4⟩ := HCL.out w4 B lv H4.out.pb (HD.out.2.keep (HD.out.1.two H3.out hr4 ht4 HT.out.iv).2); clear hr4 ht4))
  have HE : Hid (Pw w w4 [] P B R G N H lv L a' hs' (j + 1)) := H4.out.bare
  clear H4 H3 HD HT HCL H2
  go_wp2
  go_ret
  exact ⟨B, lv, L, a', hs', by simp, HE.out⟩

set_option maxHeartbeats 8000000 in
theorem step_3 (h : Pw w wr [] P B R G N H lv L a hs j) (hj : j ≤ 2932031007402) (use : Int) (tx : ByteArray) (gs gg : Int) (hu : -9223372036854775808 ≤ use ∧ use ≤ 9223372036854775807) :
    Calls Try.prog 10 #[.pointer (some ⟨P, 0, none⟩), .agg #[.int .i64 3, .int .i64 use, .string tx, .int .i64 gs, .int .i64 gg]] wr (StepPost w P R G N H j) := by
  obtain ⟨w0, hw0⟩ : ∃ w0, wr.alloc (.cells #[.int .i64 3, .int .i64 use, .string tx, .int .i64 gs, .int .i64 gg] 38) = w0 := ⟨_, rfl⟩
  have t0 : Tn [] wr w0 := by rw [← hw0]; exact (Tn.refl _ _).alloc _
  have kO : Bk w0 wr.heap.size 38 #[.int .i64 3, .int .i64 use, .string tx, .int .i64 gs, .int .i64 gg] := by rw [← hw0]; exact Bk.new _ _ _
  obtain ⟨O, hO⟩ : ∃ O, wr.heap.size = O := ⟨_, rfl⟩
  rw [hO] at kO
  have o0 : w0.cell? ⟨O, 0, none⟩ = some (.int .i64 3) := kO.cell 0
  have o1 : w0.cell? ⟨O, 1, none⟩ = some (.int .i64 use) := kO.cell 1
  have o2 : w0.cell? ⟨O, 2, none⟩ = some (.string tx) := kO.cell 2
  have o3 : w0.cell? ⟨O, 3, none⟩ = some (.int .i64 gs) := kO.cell 3
  have o4 : w0.cell? ⟨O, 4, none⟩ = some (.int .i64 gg) := kO.cell 4
  have H0 : Hid (Pw w w0 [O] P B R G N H lv L a hs j ∧ Bk w0 O 38 #[.int .i64 3, .int .i64 use, .string tx, .int .i64 gs, .int .i64 gg]) := ⟨h.box t0 [O] (by simp; rw [← hO, ← hw0]; simp), kO⟩
  have HC : Hid _ := handle_any H0.out.1 (by omega) 3 use tx gs gg hu
  have HJ : Hid (j ≤ 1000000000000000 ∧ j + 1 ≤ 1000000000000000 ∧ j ≤ 2932031007402) := ⟨by omega, by omega, hj⟩
  clear h t0 kO hu hj
  go_enter Try.func10, Try.ntmps10
  go_wp2_with fail
  refine Calls.mono HC.out ?_
  rintro r w1 ⟨s, g, rfl, t1⟩
  obtain ⟨w2, hw2⟩ : ∃ w2, w1.alloc (.cells #[.int .i64 s, .int .i64 g] 36) = w2 := ⟨_, rfl⟩
  have t2 : Tn [] w1 w2 := by rw [← hw2]; exact (Tn.refl _ _).alloc _
  obtain ⟨Q, hQ⟩ : ∃ Q, w1.heap.size = Q := ⟨_, rfl⟩
  have H2 : Hid (Pw w w2 [Q, O] P B R G N H lv L a hs j ∧ Bx w2 O Q 3 use tx gs gg s g) := by
    have hq1 : Pw w w1 [O] P B R G N H lv L a hs j := H0.out.1.quiet t1
    refine ⟨hq1.box t2 [Q] (by simp; rw [← hQ, ← hw2]; simp), ⟨(H0.out.2.tn t1 (by simp)).tn t2 (by simp), ?_⟩⟩
    rw [← hw2, ← hQ]
    exact Bk.new _ _ _
  have HCL : Hid (∀ (W : World) (B' : Nat) (v : Value), Bk W P 34 #[.pointer (some ⟨B', 0, none⟩), .pointer (some ⟨R, 0, none⟩), v] → Bx W O Q 3 use tx gs gg s g → W.cell? ⟨P, 0, none⟩ = some (.pointer (some ⟨B', 0, none⟩)) ∧ W.cell? ⟨P, 1, none⟩ = some (.pointer (some ⟨R, 0, none⟩)) ∧ W.cell? ⟨O, 2, none⟩ = some (.string tx) ∧ W.cell? ⟨Q, 0, none⟩ = some (.int .i64 s) ∧ W.cell? ⟨Q, 1, none⟩ = some (.int .i64 g)) := fun W B' v hp hb => ⟨hp.cell 0, hp.cell 1, hb.o.cell 2, hb.q.cell 0, hb.q.cell 1⟩
  have z0 : w2.cell? ⟨O, 0, none⟩ = some (.int .i64 3) := H2.out.2.o.cell 0
  obtain ⟨p0, p1, o2', q0, q1⟩ := HCL.out w2 B lv H2.out.1.pb H2.out.2
  clear t1 t2 HC H0 o0 o1 o2 o3 o4 hw0 hO
  obtain ⟨e, a', hs', hT⟩ := both_free (hs := hs) H2.out.1.iv HJ.out.1 s g
  have HT : Hid _ := hT
  clear hT
  have HD : Hid (Pw w w2.drew [Q, O] P B R G N H lv L a hs j ∧ Bx w2.drew O Q 3 use tx gs gg s g) := ⟨H2.out.1.quiet (Tn.refl _ _).drew, H2.out.2.tn (Tn.refl _ _).drew⟩
  go_wp2_with fail
  go_region_held3 (fun w' => w'.cell? ⟨P, 0, none⟩ = some (.pointer (some ⟨B, 0, none⟩)) ∧ w'.cell? ⟨P, 1, none⟩ = some (.pointer (some ⟨R, 0, none⟩)) ∧ w'.cell? ⟨O, 2, none⟩ = some (.string tx) ∧ w'.cell? ⟨Q, 0, none⟩ = some (.int .i64 s) ∧ w'.cell? ⟨Q, 1, none⟩ = some (.int .i64 g)) (go_keep) (first
    | (go_at_call 17; refine Calls.mono (HT.out.prog w.heap.size w2.drew B _ HD.out.1.ar) ?_; rintro r w3 ⟨rfl, hf3⟩; have H3 : Hid (AftS w.heap.size w2.drew w3 B a' ([Q, O] ++ avs P R G N H lv)) := hf3; have hh := HD.out.1.half hf3; obtain ⟨s0, s1, s2, s3, s4⟩ := HCL.out w3 B lv hh.1 (HD.out.2.keep hh.2.2.2.2); clear hf3 hh)
    | (go_at_call 31; refine Calls.mono (HT.out.doc w3 R G N H (HD.out.1.half H3.out).2.1) ?_; rintro r w4 ⟨rfl, hr4, ht4⟩; have H4 : Hid (Pw w w4 [Q, O] P B R G N H lv L a' hs' (j + 1)) := (HD.out.1.two H3.out hr4 ht4 HT.out.iv).1; obtain ⟨v0, v1, v2, v3, v4⟩ := HCL.out w4 B lv H4.out.pb (HD.out.2.keep (HD.out.1.two H3.out hr4 ht4 HT.out.iv).2); clear hr4 ht4))
  have HE : Hid (Pw w w4 [] P B R G N H lv L a' hs' (j + 1)) := H4.out.bare
  clear H4 H3 HD HT HCL H2
  go_wp2
  go_ret
  exact ⟨B, lv, L, a', hs', by simp, HE.out⟩

set_option maxHeartbeats 8000000 in
theorem step_4 (h : Pw w wr [] P B R G N H lv L a hs j) (hj : j ≤ 2932031007402) (use : Int) (tx : ByteArray) (gs gg : Int) (hu : -9223372036854775808 ≤ use ∧ use ≤ 9223372036854775807) :
    Calls Try.prog 10 #[.pointer (some ⟨P, 0, none⟩), .agg #[.int .i64 4, .int .i64 use, .string tx, .int .i64 gs, .int .i64 gg]] wr (StepPost w P R G N H j) := by
  obtain ⟨w0, hw0⟩ : ∃ w0, wr.alloc (.cells #[.int .i64 4, .int .i64 use, .string tx, .int .i64 gs, .int .i64 gg] 38) = w0 := ⟨_, rfl⟩
  have t0 : Tn [] wr w0 := by rw [← hw0]; exact (Tn.refl _ _).alloc _
  have kO : Bk w0 wr.heap.size 38 #[.int .i64 4, .int .i64 use, .string tx, .int .i64 gs, .int .i64 gg] := by rw [← hw0]; exact Bk.new _ _ _
  obtain ⟨O, hO⟩ : ∃ O, wr.heap.size = O := ⟨_, rfl⟩
  rw [hO] at kO
  have o0 : w0.cell? ⟨O, 0, none⟩ = some (.int .i64 4) := kO.cell 0
  have o1 : w0.cell? ⟨O, 1, none⟩ = some (.int .i64 use) := kO.cell 1
  have o2 : w0.cell? ⟨O, 2, none⟩ = some (.string tx) := kO.cell 2
  have o3 : w0.cell? ⟨O, 3, none⟩ = some (.int .i64 gs) := kO.cell 3
  have o4 : w0.cell? ⟨O, 4, none⟩ = some (.int .i64 gg) := kO.cell 4
  have H0 : Hid (Pw w w0 [O] P B R G N H lv L a hs j ∧ Bk w0 O 38 #[.int .i64 4, .int .i64 use, .string tx, .int .i64 gs, .int .i64 gg]) := ⟨h.box t0 [O] (by simp; rw [← hO, ← hw0]; simp), kO⟩
  have HC : Hid _ := handle_any H0.out.1 (by omega) 4 use tx gs gg hu
  have HJ : Hid (j ≤ 1000000000000000 ∧ j + 1 ≤ 1000000000000000 ∧ j ≤ 2932031007402) := ⟨by omega, by omega, hj⟩
  clear h t0 kO hu hj
  go_enter Try.func10, Try.ntmps10
  go_wp2_with fail
  refine Calls.mono HC.out ?_
  rintro r w1 ⟨s, g, rfl, t1⟩
  obtain ⟨w2, hw2⟩ : ∃ w2, w1.alloc (.cells #[.int .i64 s, .int .i64 g] 36) = w2 := ⟨_, rfl⟩
  have t2 : Tn [] w1 w2 := by rw [← hw2]; exact (Tn.refl _ _).alloc _
  obtain ⟨Q, hQ⟩ : ∃ Q, w1.heap.size = Q := ⟨_, rfl⟩
  have H2 : Hid (Pw w w2 [Q, O] P B R G N H lv L a hs j ∧ Bx w2 O Q 4 use tx gs gg s g) := by
    have hq1 : Pw w w1 [O] P B R G N H lv L a hs j := H0.out.1.quiet t1
    refine ⟨hq1.box t2 [Q] (by simp; rw [← hQ, ← hw2]; simp), ⟨(H0.out.2.tn t1 (by simp)).tn t2 (by simp), ?_⟩⟩
    rw [← hw2, ← hQ]
    exact Bk.new _ _ _
  have HCL : Hid (∀ (W : World) (B' : Nat) (v : Value), Bk W P 34 #[.pointer (some ⟨B', 0, none⟩), .pointer (some ⟨R, 0, none⟩), v] → Bx W O Q 4 use tx gs gg s g → W.cell? ⟨P, 0, none⟩ = some (.pointer (some ⟨B', 0, none⟩)) ∧ W.cell? ⟨P, 1, none⟩ = some (.pointer (some ⟨R, 0, none⟩)) ∧ W.cell? ⟨O, 2, none⟩ = some (.string tx) ∧ W.cell? ⟨Q, 0, none⟩ = some (.int .i64 s) ∧ W.cell? ⟨Q, 1, none⟩ = some (.int .i64 g)) := fun W B' v hp hb => ⟨hp.cell 0, hp.cell 1, hb.o.cell 2, hb.q.cell 0, hb.q.cell 1⟩
  have z0 : w2.cell? ⟨O, 0, none⟩ = some (.int .i64 4) := H2.out.2.o.cell 0
  obtain ⟨p0, p1, o2', q0, q1⟩ := HCL.out w2 B lv H2.out.1.pb H2.out.2
  clear t1 t2 HC H0 o0 o1 o2 o3 o4 hw0 hO
  obtain ⟨bs0, hA0, -, -⟩ := H2.out.1.ar
  go_wp2_with fail
  refine (cloneS hA0 H2.out.1.iv.tx).mono ?_
  rintro r w3 ⟨C, bs, rfl, hA3, hge3, hb3⟩
  have HX : Hid (Arn tAS tSS w3 C bs a ∧ (∀ b ∈ bs, w2.heap.size ≤ b)) := ⟨hA3, hge3⟩
  have H3 : Hid (Pw w w3.drew (bs ++ [Q, O]) P B R G N H lv L a hs j ∧ Bx w3.drew O Q 4 use tx gs gg s g) :=
    ⟨(H2.out.1.box (Tn.of_below hb3 []) bs (fun b hb => ⟨hge3 b hb, hA3.lt b hb⟩)).quiet (Tn.refl _ _).drew, (H2.out.2.tn (Tn.of_below hb3 [])).tn (Tn.refl _ _).drew⟩
  obtain ⟨r0, r1, r2, r3, r4⟩ := HCL.out w3.drew B lv H3.out.1.pb H3.out.2
  have r0' : w3.cell? ⟨P, 0, none⟩ = some (.pointer (some ⟨B, 0, none⟩)) := r0
  have r2' : w3.cell? ⟨O, 2, none⟩ = some (.string tx) := r2
  have r3' : w3.cell? ⟨Q, 0, none⟩ = some (.int .i64 s) := r3
  have r4' : w3.cell? ⟨Q, 1, none⟩ = some (.int .i64 g) := r4
  have r1' : w3.cell? ⟨P, 1, none⟩ = some (.pointer (some ⟨R, 0, none⟩)) := r1
  obtain ⟨s1, g1, e1, a1, hs1, -, hT1⟩ := both_put (hs := hs) H3.out.1.iv HJ.out.1 tx H3.out.1.ra.le
  obtain ⟨e2, a2, hs2, hT2⟩ := both_free (hs := hs1) hT1.iv HJ.out.2.1 s g
  have HT1 : Hid _ := hT1
  have HT2 : Hid _ := hT2
  clear hA0 hA3 hge3 hb3 hT1 hT2 p0 p1 o2' q0 q1 r0 r1 r2 r3 r4
  go_wp2_with fail
  go_region_held3 (fun w' => w'.cell? ⟨P, 0, none⟩ = some (.pointer (some ⟨B, 0, none⟩)) ∧ w'.cell? ⟨P, 1, none⟩ = some (.pointer (some ⟨R, 0, none⟩)) ∧ w'.cell? ⟨O, 2, none⟩ = some (.string tx) ∧ w'.cell? ⟨Q, 0, none⟩ = some (.int .i64 s) ∧ w'.cell? ⟨Q, 1, none⟩ = some (.int .i64 g)) (go_keep) (first
    | (go_at_call 16; refine Calls.mono (HT1.out.prog w.heap.size w3.drew B _ H3.out.1.ar) ?_; rintro r w4 ⟨rfl, hf4⟩; have H4 : Hid (AftS w.heap.size w3.drew w4 B a1 ((bs ++ [Q, O]) ++ avs P R G N H lv)) := hf4; have hh := H3.out.1.half hf4; obtain ⟨t0, t1, t2, t3, t4⟩ := HCL.out w4 B lv hh.1 (H3.out.2.keep (fun x hx => hh.2.2.2.2 x (by simp at hx; simp [hx]))); clear hf4 hh))
  have HA4 : Hid (AsS w.heap.size w4.drew B a1 ((bs ++ [Q, O]) ++ avs P R G N H lv)) := H4.out.1.quiet (Tn.refl _ _).drew
  have HF : Hid (∀ w5, AftS w.heap.size w4.drew w5 B a2 ((bs ++ [Q, O]) ++ avs P R G N H lv) → AftS w.heap.size w3.drew w5 B a2 ((bs ++ [Q, O]) ++ avs P R G N H lv)) := fun w5 f => ⟨f.1, H4.out.2.1.trans (Below.trans (Below.drew (Below.refl _ _)) f.2.1), fun x hx => (f.2.2 x hx).trans (H4.out.2.2 x hx)⟩
  go_wp2_with fail
  go_region_held3 (fun w' => w'.cell? ⟨P, 0, none⟩ = some (.pointer (some ⟨B, 0, none⟩)) ∧ w'.cell? ⟨P, 1, none⟩ = some (.pointer (some ⟨R, 0, none⟩)) ∧ w'.cell? ⟨O, 2, none⟩ = some (.string tx) ∧ w'.cell? ⟨Q, 0, none⟩ = some (.int .i64 s) ∧ w'.cell? ⟨Q, 1, none⟩ = some (.int .i64 g)) (go_keep) (first
    | (go_at_call 17; refine Calls.mono (HT2.out.prog w.heap.size w4.drew B _ HA4.out) ?_; rintro r w5 ⟨rfl, hf5⟩; have H5 : Hid (AftS w.heap.size w3.drew w5 B a2 ((bs ++ [Q, O]) ++ avs P R G N H lv)) := HF.out w5 hf5; have hh := H3.out.1.half (HF.out w5 hf5); obtain ⟨v0, v1, v2, v3, v4⟩ := HCL.out w5 B lv hh.1 (H3.out.2.keep (fun x hx => hh.2.2.2.2 x (by simp at hx; simp [hx]))); clear hf5 hh))
  have f0 : w5.frozen? ⟨P, 0, none⟩ = false := (H3.out.1.half H5.out).1.frozen 0
  have HE : Hid (Pw w (w5.setCell ⟨P, 0, none⟩ (.pointer (some ⟨C, 0, none⟩))) [] P C R G N H lv L a hs (j + 1)) := by
    obtain ⟨i1, i2, i3, i4, i5⟩ := H3.out.1.half H5.out
    have t6 : Tn [P] w5 (w5.setCell ⟨P, 0, none⟩ (.pointer (some ⟨C, 0, none⟩))) := (Tn.refl _ _).setCell (.inl (by simp)) _
    have hA5 : Arn tAS tSS w5 C bs a := HX.out.1.keep (fun b hb => i5 b (by simp [hb]))
    have hPb : P ∉ bs := fun hm => by
      have := HX.out.2 P hm
      have := H2.out.1.pb.lt
      omega
    have hav : ∀ x ∈ avs P R G N H lv, x ∉ bs ∧ x < w5.heap.size := fun x hx => ⟨fun hm => by
      have := HX.out.2 x hm
      have := H2.out.1.lt x hx
      omega, by
      obtain ⟨bb, -, -, h3⟩ := H5.out.1
      exact (h3 x (by simp [hx])).2⟩
    refine ⟨i1.set 0 _, ⟨bs, hA5.tn t6 (fun b hb => by simp; rintro rfl; exact hPb hb), fun b hb => ?_, fun x hx => ⟨(hav x (by simpa using hx)).1, Nat.lt_of_lt_of_le (hav x (by simpa using hx)).2 t6.size⟩⟩, i2.tn t6 (fun x hx => by simp; rintro rfl; exact H2.out.1.neP hx), i3.tn t6 (fun k hk => by simpa using (H2.out.1.neL k hk).2), i4.trans (t6.below i4.size (by simpa using H2.out.1.ge P (by simp [avs]))), H2.out.1.ge, by simp, H2.out.1.iv.more, by have := H2.out.1.ll; omega⟩
    have := HX.out.2 b hb
    have := H2.out.1.below.size
    omega
  clear H5 H4 H3 HT1 HT2 HX HCL H2 HA4 HF
  go_wp2
  go_ret
  exact ⟨C, lv, L, a, hs, by simp, HE.out⟩

set_option maxHeartbeats 8000000 in
theorem step_1 (h : Pw w wr [] P B R G N H lv L a hs j) (hj : j ≤ 2932031007402) (dd : Int) (n0 : ¬ dd = 0) (n2 : ¬ dd = 2) (n3 : ¬ dd = 3) (n4 : ¬ dd = 4) (use : Int) (tx : ByteArray) (gs gg : Int) (hu : -9223372036854775808 ≤ use ∧ use ≤ 9223372036854775807) :
    Calls Try.prog 10 #[.pointer (some ⟨P, 0, none⟩), .agg #[.int .i64 dd, .int .i64 use, .string tx, .int .i64 gs, .int .i64 gg]] wr (StepPost w P R G N H j) := by
  obtain ⟨w0, hw0⟩ : ∃ w0, wr.alloc (.cells #[.int .i64 dd, .int .i64 use, .string tx, .int .i64 gs, .int .i64 gg] 38) = w0 := ⟨_, rfl⟩
  have t0 : Tn [] wr w0 := by rw [← hw0]; exact (Tn.refl _ _).alloc _
  have kO : Bk w0 wr.heap.size 38 #[.int .i64 dd, .int .i64 use, .string tx, .int .i64 gs, .int .i64 gg] := by rw [← hw0]; exact Bk.new _ _ _
  obtain ⟨O, hO⟩ : ∃ O, wr.heap.size = O := ⟨_, rfl⟩
  rw [hO] at kO
  have o0 : w0.cell? ⟨O, 0, none⟩ = some (.int .i64 dd) := kO.cell 0
  have o1 : w0.cell? ⟨O, 1, none⟩ = some (.int .i64 use) := kO.cell 1
  have o2 : w0.cell? ⟨O, 2, none⟩ = some (.string tx) := kO.cell 2
  have o3 : w0.cell? ⟨O, 3, none⟩ = some (.int .i64 gs) := kO.cell 3
  have o4 : w0.cell? ⟨O, 4, none⟩ = some (.int .i64 gg) := kO.cell 4
  have H0 : Hid (Pw w w0 [O] P B R G N H lv L a hs j ∧ Bk w0 O 38 #[.int .i64 dd, .int .i64 use, .string tx, .int .i64 gs, .int .i64 gg]) := ⟨h.box t0 [O] (by simp; rw [← hO, ← hw0]; simp), kO⟩
  have HC : Hid _ := handle_any H0.out.1 (by omega) dd use tx gs gg hu
  have HJ : Hid (j ≤ 1000000000000000 ∧ j + 1 ≤ 1000000000000000 ∧ j ≤ 2932031007402) := ⟨by omega, by omega, hj⟩
  clear h t0 kO hu hj
  go_enter Try.func10, Try.ntmps10
  go_wp2_with fail
  refine Calls.mono HC.out ?_
  rintro r w1 ⟨s, g, rfl, t1⟩
  obtain ⟨w2, hw2⟩ : ∃ w2, w1.alloc (.cells #[.int .i64 s, .int .i64 g] 36) = w2 := ⟨_, rfl⟩
  have t2 : Tn [] w1 w2 := by rw [← hw2]; exact (Tn.refl _ _).alloc _
  obtain ⟨Q, hQ⟩ : ∃ Q, w1.heap.size = Q := ⟨_, rfl⟩
  have H2 : Hid (Pw w w2 [Q, O] P B R G N H lv L a hs j ∧ Bx w2 O Q dd use tx gs gg s g) := by
    have hq1 : Pw w w1 [O] P B R G N H lv L a hs j := H0.out.1.quiet t1
    refine ⟨hq1.box t2 [Q] (by simp; rw [← hQ, ← hw2]; simp), ⟨(H0.out.2.tn t1 (by simp)).tn t2 (by simp), ?_⟩⟩
    rw [← hw2, ← hQ]
    exact Bk.new _ _ _
  have HCL : Hid (∀ (W : World) (B' : Nat) (v : Value), Bk W P 34 #[.pointer (some ⟨B', 0, none⟩), .pointer (some ⟨R, 0, none⟩), v] → Bx W O Q dd use tx gs gg s g → W.cell? ⟨P, 0, none⟩ = some (.pointer (some ⟨B', 0, none⟩)) ∧ W.cell? ⟨P, 1, none⟩ = some (.pointer (some ⟨R, 0, none⟩)) ∧ W.cell? ⟨O, 2, none⟩ = some (.string tx) ∧ W.cell? ⟨Q, 0, none⟩ = some (.int .i64 s) ∧ W.cell? ⟨Q, 1, none⟩ = some (.int .i64 g)) := fun W B' v hp hb => ⟨hp.cell 0, hp.cell 1, hb.o.cell 2, hb.q.cell 0, hb.q.cell 1⟩
  have z0 : w2.cell? ⟨O, 0, none⟩ = some (.int .i64 dd) := H2.out.2.o.cell 0
  obtain ⟨p0, p1, o2', q0, q1⟩ := HCL.out w2 B lv H2.out.1.pb H2.out.2
  clear t1 t2 HC H0 o0 o1 o2 o3 o4 hw0 hO
  obtain ⟨y, e, a', hT⟩ := both_get (hs := hs) H2.out.1.iv HJ.out.1 s g H2.out.1.ra.rel
  have HT : Hid _ := hT
  clear hT
  have HD : Hid (Pw w w2.drew [Q, O] P B R G N H lv L a hs j ∧ Bx w2.drew O Q dd use tx gs gg s g) := ⟨H2.out.1.quiet (Tn.refl _ _).drew, H2.out.2.tn (Tn.refl _ _).drew⟩
  go_wp2_with fail
  go_region_held3 (fun w' => w'.cell? ⟨P, 0, none⟩ = some (.pointer (some ⟨B, 0, none⟩)) ∧ w'.cell? ⟨P, 1, none⟩ = some (.pointer (some ⟨R, 0, none⟩)) ∧ w'.cell? ⟨O, 2, none⟩ = some (.string tx) ∧ w'.cell? ⟨Q, 0, none⟩ = some (.int .i64 s) ∧ w'.cell? ⟨Q, 1, none⟩ = some (.int .i64 g)) (go_keep) (first
    | (go_at_call 19; refine Calls.mono (HT.out.prog w.heap.size w2.drew B _ HD.out.1.ar) ?_; rintro r w3 ⟨rfl, hf3⟩; have H3 : Hid (AftS w.heap.size w2.drew w3 B a' ([Q, O] ++ avs P R G N H lv)) := hf3; have hh := HD.out.1.half hf3; obtain ⟨s0, s1, s2, s3, s4⟩ := HCL.out w3 B lv hh.1 (HD.out.2.keep hh.2.2.2.2); clear hf3 hh))
  have HM : Hid (IsRa w3.drew R G N H a hs) := (HD.out.1.half H3.out).2.1.quiet (Tn.refl _ _).drew
  have HB3 : Hid (∀ w4, IsRa w4 R G N H a' hs → Tn (ras R G N H) w3.drew w4 → Pw w w4 [] P B R G N H lv L a' hs (j + 1) ∧ Bk w4 P 34 #[.pointer (some ⟨B, 0, none⟩), .pointer (some ⟨R, 0, none⟩), lv] ∧ Bx w4 O Q dd use tx gs gg s g) := fun w4 h4 t4 => by
    have t4' : Tn (ras R G N H) w3 w4 := ((Tn.refl _ _).drew).trans t4 (fun x hx => .inl hx)
    have h5 := HD.out.1.two H3.out h4 t4' HT.out.iv
    exact ⟨h5.1.bare, h5.1.pb, HD.out.2.keep h5.2⟩
  go_wp2_with fail
  go_region_held3 (fun w' => w'.cell? ⟨P, 0, none⟩ = some (.pointer (some ⟨B, 0, none⟩)) ∧ w'.cell? ⟨P, 1, none⟩ = some (.pointer (some ⟨R, 0, none⟩)) ∧ w'.cell? ⟨O, 2, none⟩ = some (.string tx) ∧ w'.cell? ⟨Q, 0, none⟩ = some (.int .i64 s) ∧ w'.cell? ⟨Q, 1, none⟩ = some (.int .i64 g)) (go_keep) (first
    | (go_at_call 32; refine Calls.mono (HT.out.doc w3.drew R G N H HM.out) ?_; rintro r w4 ⟨rfl, hr4, ht4⟩; have H4 : Hid (Pw w w4 [] P B R G N H lv L a' hs (j + 1)) := (HB3.out w4 hr4 ht4).1; obtain ⟨v0, v1, v2, v3, v4⟩ := HCL.out w4 B lv (HB3.out w4 hr4 ht4).2.1 (HB3.out w4 hr4 ht4).2.2; clear hr4 ht4))
  clear H3 HD HT HCL H2 HM HB3
  have hyy : (y.toList == y.toList) = true := by simp
  go_wp2
  go_ret
  exact ⟨B, lv, L, a', hs, by simp, H4.out⟩

theorem step_any (h : Pw w wr [] P B R G N H lv L a hs j) (hj : j ≤ 2932031007402) (dd use : Int) (tx : ByteArray) (gs gg : Int) (hu : -9223372036854775808 ≤ use ∧ use ≤ 9223372036854775807) :
    Calls Try.prog 10 #[.pointer (some ⟨P, 0, none⟩), .agg #[.int .i64 dd, .int .i64 use, .string tx, .int .i64 gs, .int .i64 gg]] wr (StepPost w P R G N H j) := by
  by_cases h0 : dd = 0
  · subst h0; exact step_0 h hj use tx gs gg hu
  · by_cases h2 : dd = 2
    · subst h2; exact step_2 h hj use tx gs gg hu
    · by_cases h3 : dd = 3
      · subst h3; exact step_3 h hj use tx gs gg hu
      · by_cases h4 : dd = 4
        · subst h4; exact step_4 h hj use tx gs gg hu
        · exact step_1 h hj dd h0 h2 h3 h4 use tx gs gg hu
end
end Go.Proofs.Ytfbmbjbokmomhaa
