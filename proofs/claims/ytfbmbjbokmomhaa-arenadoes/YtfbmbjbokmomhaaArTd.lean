/- What is told, held against the document's arena. -/
import Derived.Test.YtfbmbjbokmomhaaArNx
import Derived.Test.YtfbmbjbokmomhaaStT
namespace Go.Proofs.Ytfbmbjbokmomhaa
open Go.RowKit Go.Shelf
attribute [local go_sem] Oper.semAt_some
set_option linter.unusedVariables false
set_option linter.unusedSimpArgs false
set_option maxRecDepth 100000

theorem wrap_succ (n : Nat) (h : n ≤ 65536) (m : Int) (hm : (n : Int) + 1 = m) : wrap64 ((n : Int) + 1) = m := by
  subst hm
  unfold wrap64
  omega

theorem tn_drewN (W : World) (k : Nat) : Tn [] W (W.drewN k) := Tn.of_below (below_drewN (Below.refl _ _) k) []

/-- The boxes of a telling. -/
structure Tb0 (w W : World) (P : Nat) (stop n q : Int) (r : Bool) : Prop where
  b0 : Boxed W w.heap.size 31 (.pointer (some ⟨P, 0, none⟩))
  b1 : Boxed W (w.heap.size + 1) 3 (.int .i64 stop)
  b2 : Boxed W (w.heap.size + 1 + 1) 4 (.bool r)
  b3 : Boxed W (w.heap.size + 1 + 1 + 1) 3 (.int .i64 n)
  b4 : Boxed W (w.heap.size + 1 + 1 + 1 + 1) 3 (.int .i64 q)

def tbs (w : World) : List Nat := [w.heap.size + 1 + 1, w.heap.size + 1 + 1 + 1, w.heap.size + 1 + 1 + 1 + 1]

section
variable {w W W' : World} {P : Nat} {stop n q : Int} {r : Bool}
theorem Tb0.tn (h : Tb0 w W P stop n q r) (ht : Tn [] W W') : Tb0 w W' P stop n q r :=
  ⟨Bk.tn (show Bk W _ _ _ from h.b0) ht (by simp), Bk.tn (show Bk W _ _ _ from h.b1) ht (by simp), Bk.tn (show Bk W _ _ _ from h.b2) ht (by simp), Bk.tn (show Bk W _ _ _ from h.b3) ht (by simp), Bk.tn (show Bk W _ _ _ from h.b4) ht (by simp)⟩
theorem Tb0.setN (h : Tb0 w W P stop n q r) (m : Int) : Tb0 w (W.setCell ⟨w.heap.size + 1 + 1 + 1, 0, none⟩ (.int .i64 m)) P stop m q r :=
  ⟨h.b0.other (by omega) _, h.b1.other (by omega) _, h.b2.other (by omega) _, h.b3.set _, h.b4.other (by omega) _⟩
theorem Tb0.setQ (h : Tb0 w W P stop n q r) (m : Int) : Tb0 w (W.setCell ⟨w.heap.size + 1 + 1 + 1 + 1, 0, none⟩ (.int .i64 m)) P stop n m r :=
  ⟨h.b0.other (by omega) _, h.b1.other (by omega) _, h.b2.other (by omega) _, h.b3.other (by omega) _, h.b4.set _⟩
theorem Tb0.setR (h : Tb0 w W P stop n q r) (m : Bool) : Tb0 w (W.setCell ⟨w.heap.size + 1 + 1, 0, none⟩ (.bool m)) P stop n q m :=
  ⟨h.b0.other (by omega) _, h.b1.other (by omega) _, h.b2.set _, h.b3.other (by omega) _, h.b4.other (by omega) _⟩
theorem Tb0.is (h : Tb0 w W P stop n q r) : ∀ y ∈ tbs w, ∃ o : Obj, W.heap[y]? = some o ∧ o.isCells = true := by
  intro y hy
  simp [tbs] at hy
  rcases hy with rfl | rfl | rfl
  · exact ⟨_, h.b2, rfl⟩
  · exact ⟨_, h.b3, rfl⟩
  · exact ⟨_, h.b4, rfl⟩
end

/-- Between the rounds. -/
structure Tq (w W : World) (B0 : Nat) (P : Nat) (stop : Int) (us : List Sl) (pre : List (Nat × Int × ByteArray)) : Prop where
  ex : ∃ q : Nat, Tb0 w W P stop (pre.length : Int) (q : Int) false ∧ glTo us q = pre ∧ q ≤ us.length
  below : Below w.heap.size w W
  sz : B0 ≤ W.heap.size

theorem Tq.abides {w W W' : World} {B0 P : Nat} {stop : Int} {us : List Sl} {pre : List (Nat × Int × ByteArray)} {row : Option Nat} (h : Tq w W B0 P stop us pre) (hm : w.heap.size ≤ B0) (hg : W.grownBy W' row) (hr : ∀ r, row = some r → B0 ≤ r ∧ ∃ o : Obj, W.heap[r]? = some o ∧ o.isCells = false) : Tq w W' B0 P stop us pre := by
  obtain ⟨q, hb, h1, h2⟩ := h.ex
  exact ⟨⟨q, ⟨boxed_from hb.b0 hg hr, boxed_from hb.b1 hg hr, boxed_from hb.b2 hg hr, boxed_from hb.b3 hg hr, boxed_from hb.b4 hg hr⟩, h1, h2⟩, h.below.grown hg h.below.size (fun k hk => by have := (hr k hk).1; omega), Nat.le_trans h.sz hg.size⟩

theorem neq_hnd (a b : Int) (w : World) : (binOp .neq 36 (.agg #[.int .i64 a, .int .i64 b]) (.agg #[.int .i64 a, .int .i64 b])).run Try.prog w = .ok (.bool false) w := by
  have h1 : ∀ d x w, (Op.equalIn (d + 1) 3 (.int .i64 x) (.int .i64 x)).run Try.prog w = .ok true w := fun d x w => by simp [Op.equalIn, run_underlying Try.underlying3]
  have h2 : ∀ d x w, (Op.equalIn (d + 1) 2 (.int .i64 x) (.int .i64 x)).run Try.prog w = .ok true w := fun d x w => by simp [Op.equalIn, run_underlying Try.underlying2]
  have key : ∀ m, (∀ x w, (Op.equalIn m 3 (.int .i64 x) (.int .i64 x)).run Try.prog w = .ok true w) → (∀ x w, (Op.equalIn m 2 (.int .i64 x) (.int .i64 x)).run Try.prog w = .ok true w) → (Op.equalIn (m + 1) 36 (.agg #[.int .i64 a, .int .i64 b]) (.agg #[.int .i64 a, .int .i64 b])).run Try.prog w = .ok true w := by
    intro m g1 g2
    have p0 : ∀ (a b : Int) w, (part 3 #[.int .i64 a, .int .i64 b] 0).run Try.prog w = .ok (.int .i64 a) w := fun a b w => by kernel_rfl
    have p1 : ∀ (a b : Int) w, (part 2 #[.int .i64 a, .int .i64 b] 1).run Try.prog w = .ok (.int .i64 b) w := fun a b w => by kernel_rfl
    have hs : Try.prog.stoodInHeld 36 = false := by kernel_rfl
    simp [Op.equalIn, run_underlying Try.underlying36, p0, p1, g1, g2, hs]
  have := key 9999 (fun x w => h1 9998 x w) (fun x w => h2 9998 x w)
  have h : (Op.equal 36 (.agg #[.int .i64 a, .int .i64 b]) (.agg #[.int .i64 a, .int .i64 b])).run Try.prog w = .ok true w := this
  simp [binOp, h]

/-- Code that ends at its end, leaves its block, returns, or panics. -/
def blkEndR (id : Nat) (Q : Exit → Act → World → Prop) : Exit → Act → World → Prop
  | .normal, a, w => Q .normal a w
  | .exit i, a, w => i = id ∧ Q .normal a w
  | .ret, a, w => Q .ret a w
  | .panic ch, a, w => Q (.panic ch) a w
  | _, _, _ => False

theorem wpAt_blockR {P : Program} {f : FuncId} {Q : Exit → Act → World → Prop} {a : Act} {w : World} {id : Nat} {c : Code} (h : wpAt f P c (blkEndR id Q) a w) : wpAt f P (Code.block id c) Q a w := by
  intro b k cs hro hb
  have hr : Fence.wide.room (cs.length + 1 + 0) := room_wide _
  have hF : Fence.wide.fn b.fn := trivial
  have hin : (lone (b.atR a (.code (.block id c) :: k)) cs w).fenced P Fence.wide := fenced_calm hF hr rfl
  obtain ⟨e, a₁, w₁, hq, harr⟩ := h b (.inBlock id :: k) cs hro hb
  cases e with
  | normal =>
    have hs : StepsIn (Machine.fenced P Fence.wide) P _ (lone (b.atR a₁ (.inBlock id :: k)) cs w₁) := harr
    exact ⟨.normal, a₁, w₁, hq, .head hin stepR_block (hs.trans (.one (fenced_calm hF hr rfl) stepR_inBlock))⟩
  | exit i =>
    obtain ⟨rfl, hq⟩ := hq
    exact ⟨.normal, a₁, w₁, hq, .head hin stepR_block (harr.1 k (by simp [exitTo]))⟩
  | panic ch =>
    obtain ⟨todo, hs⟩ := harr
    exact ⟨.panic ch, a₁, w₁, hq, todo, .head hin stepR_block hs⟩
  | ret => exact ⟨.ret, a₁, w₁, hq, ⟨fun hr => let ⟨todo, hs⟩ := harr.1 hr; ⟨todo, .head hin stepR_block hs⟩, fun hr => let ⟨k₁, hs⟩ := harr.2 hr; ⟨k₁, .head hin stepR_block hs⟩⟩⟩
  | goto l => exact hq.elim
  | outgrown => exact hq.elim

set_option maxHeartbeats 8000000 in
theorem told_any {w : World} {b1 b2 : Nat} {S : List Nat} {P B R G N H : Nat} {lv : Value} {a : Ar} {hs : List ByteArray} (hF : Lim w b1 b2 S (gl a.us)) (hq : Pq w P B R G N H lv a hs) (stop : Int) :
    Calls Try.prog 36 #[.pointer (some ⟨P, 0, none⟩), .func (.func 50) #[] #[.pointer (some ⟨b1, 0, none⟩), .pointer (some ⟨b2, 0, none⟩)], .int .i64 stop] w fun r w' => r = .returned (.bool true) ∧ Below w.heap.size w w' := by
  refine calls_of_wpAt Try.func36 rfl ?_
  simp only [Try.ntmps36, List.size_toArray, List.length_cons, List.length_nil, Nat.reduceAdd, Nat.reduceSub, Array.replicate_succ, Array.replicate_zero, List.push_toArray, List.append_toArray, List.nil_append, List.cons_append]
  have HQ : Hid (∀ W, Below w.heap.size w W → Pq W P B R G N H lv a hs) := fun W hb => hq.tn (Tn.of_below hb [])
  have HFL : Hid (Lim w b1 b2 S (gl a.us)) := hF
  have HSL : Hid (∀ b ∈ S, b < w.heap.size) := hF.lt
  have HRA : Hid (a.us.length ≤ a.size ∧ a.size ≤ 65536 ∧ ∀ i, (slAt a.us i).given = true → (slAt a.us i).val = .string (tAt hs i)) := ⟨hq.ra.le, hq.ra.s2, hq.ra.rel⟩
  clear hF hq
  refine wpAt_seq_k fun K hK => wpAt_of_wp ?_
  go_wp2
  refine wpAt_seq_k fun K hK => wpAt_of_wp ?_
  go_wp2
  refine wpAt_seq_k fun K hK => ?_
  have HK : Hid _ := hK
  clear hK
  refine wpAt_seq_k fun K2 hK2 => wpAt_of_wp ?_
  go_wp2
  obtain ⟨w3, hw3⟩ : ∃ w3, ((((w.alloc (.cells #[.pointer (some ⟨P, 0, none⟩)] 31)).alloc (.cells #[.int .i64 stop] 3)).alloc (.cells #[.bool false] 4)).alloc (.cells #[.int .i64 0] 3)).alloc (.cells #[.int .i64 0] 3) = w3 := ⟨_, rfl⟩
  have HT3 : Hid (Tq w w3 w3.heap.size P stop a.us [] ∧ w3.heap.size = w.heap.size + 1 + 1 + 1 + 1 + 1) := by
    rw [← hw3]
    have k1 := Bk.new (w.alloc (.cells #[.pointer (some ⟨P, 0, none⟩)] 31)) 3 #[.int .i64 stop]
    have k2 := Bk.new ((w.alloc (.cells #[.pointer (some ⟨P, 0, none⟩)] 31)).alloc (.cells #[.int .i64 stop] 3)) 4 #[.bool false]
    have k3 := Bk.new (((w.alloc (.cells #[.pointer (some ⟨P, 0, none⟩)] 31)).alloc (.cells #[.int .i64 stop] 3)).alloc (.cells #[.bool false] 4)) 3 #[.int .i64 0]
    have k4 := Bk.new ((((w.alloc (.cells #[.pointer (some ⟨P, 0, none⟩)] 31)).alloc (.cells #[.int .i64 stop] 3)).alloc (.cells #[.bool false] 4)).alloc (.cells #[.int .i64 0] 3)) 3 #[.int .i64 0]
    simp only [World.size_alloc] at k1 k2 k3 k4
    exact ⟨⟨⟨0, ⟨((((Bk.new w _ _).alloc _).alloc _).alloc _).alloc _, ((k1.alloc _).alloc _).alloc _, (k2.alloc _).alloc _, k3.alloc _, k4⟩, rfl, Nat.zero_le _⟩, (((((Below.refl _ w).alloc (Nat.le_refl _) _).alloc (by simp) _).alloc (by simp; omega) _).alloc (by simp; omega) _).alloc (by simp; omega) _, Nat.le_refl _⟩, by simp⟩
  rw [hw3]
  clear hw3
  have hws := HT3.out.2
  have hF3 : Lim w3 b1 b2 S (gl a.us) := HFL.out.kp (KpP.of_below HT3.out.1.below HSL.out)
  refine wpAt_blockR ?_
  refine wpAt_boxedQ ?A Try.func36 (gf := 50) (lb := #[.pointer (some ⟨b1, 0, none⟩), .pointer (some ⟨b2, 0, none⟩)]) rfl (enters_of Try.func50 (by kernel_rfl) rfl)
    (all1_stops hF3) KpP.t (fun W l o o' hl _ _ _ k hk => World.putObj_heap_other (fun e => by
      subst e
      have := HSL.out _ hk
      omega)) (Below.refl _ _) (fun _ => rfl)
    (fun pre W => Tq w W w3.heap.size P stop a.us pre)
    (fun c xs W => c = .ret ∧ Boxed W (w.heap.size + 1 + 1) 4 (.bool true) ∧ Below w.heap.size w W)
    (fun _ _ _ => False)
    (fun s A B' row hs hg hr => hs.abides (by omega) hg hr)
    (fun cc s A B row hs hg hr => ⟨hs.1, boxed_from hs.2.1 hg hr, hs.2.2.grown hg hs.2.2.size (fun k hk => by have := (hr k hk).1; omega)⟩)
    HT3.out.1
    (fun x bx W => w3.heap.size ≤ bx ∧ Bk W bx 36 #[.int .i64 (x.1 : Int), .int .i64 x.2.1])
    (fun x bx _ A B' row hs hg hr => ⟨hs.1, bk_from hs.2 hg hr⟩)
    ?assign ?body ?done ?stop (fun D chain pre W _ _ h _ => h.elim)
  case assign =>
    rintro l pre x W K hL hK
    gi_wp2
    have ht : Tn [] W (W.alloc (.cells #[.int .i64 (x.1 : Int), .int .i64 x.2.1] 36)) := (Tn.refl _ _).alloc _
    obtain ⟨bx, hbx⟩ : ∃ bx, W.heap.size = bx := ⟨_, rfl⟩
    have kx : Bk (W.alloc (.cells #[.int .i64 (x.1 : Int), .int .i64 x.2.1] 36)) bx 36 #[.int .i64 (x.1 : Int), .int .i64 x.2.1] := by rw [← hbx]; exact Bk.new _ _ _
    have hle : w3.heap.size ≤ bx := by have := hL.sz; omega
    rw [hbx]
    exact hK bx _ ((keeps_tn ht (by simp)).from _) (KpP.of_tn ht (fun y hy => ⟨by have := HSL.out y hy; have := hL.below.size; omega, by simp⟩)) (hL.abides (by omega) (World.grownBy_alloc W _ none) (fun r e => by cases e)) ⟨hle, kx⟩
  case stop =>
    rintro D cc pre W hD hpre ⟨rfl, hbx, hB⟩ hK
    have cr := hbx.cell
    have hDn : D ≠ w.heap.size + 1 + 1 := by omega
    gi_wp2
    refine ⟨by simp, .inl ⟨_, _, rfl, run_takeDeferred hK, ?_⟩⟩
    have hc5 := cell_kept cr (grownBy_putObj' _ D (.deferred none)) (fun r e => by cases e; exact ⟨_, hK, rfl⟩)
    refine ⟨.bool true, ?_, rfl, ?_⟩
    · simp [results, Try.f36, go_sem, hc5]
    · exact hB.trans ⟨rfl, rfl, rfl, by simp, fun k hk => World.putObj_heap_other (by omega)⟩
  case body =>
    rintro l pre x bx W hl hT ⟨hbx, kx⟩ hpre
    obtain ⟨q, hb, hgq, hql⟩ := hT.ex
    obtain ⟨n1, n2, n3, n4, n5, n6⟩ := gl_next hpre hgq hql
    obtain ⟨x1, x2, x3⟩ := x
    dsimp only at n1 n2 n3 n4 n5 n6 kx
    have hrel := HRA.out.2.2 x1 n3
    simp only [Prod.mk.injEq, true_and] at n5
    obtain ⟨e2, e3⟩ := n5
    have HX2 : Hid ((slAt a.us x1).gen = x2 ∧ tAt hs x1 = x3 ∧ (slAt a.us x1).given = true) := ⟨e2.symm, by rw [e3, hrel]; rfl, n3⟩
    have hsz1 := HRA.out.1
    have hsz2 := HRA.out.2.1
    have hx1s : x1 < a.size := by omega
    have hq0 := HQ.out W hT.below
    have hnx := next_any hq0 q x1 n1 hx1s n3 n4
    obtain ⟨N1, hN1⟩ : ∃ N1, pre.length = N1 := ⟨_, rfl⟩
    rw [hN1] at hb
    have hNb : N1 ≤ 65536 := by
      have h1 := hpre.length_le
      have h2 := HFL.out.reach
      simp at h1
      omega
    have HKX : Hid (Bk W bx 36 #[.int .i64 (x1 : Int), .int .i64 x2]) := kx
    have HBX : Hid (∀ y, bx ≤ y → y ∉ tbs w) := fun y hy hm => by simp [tbs] at hm; omega
    have HB : Hid (Below w.heap.size w W) := hT.below
    have HSZ : Hid (w3.heap.size ≤ W.heap.size) := hT.sz
    have HB0 : Hid (Tb0 w W P stop (N1 : Int) (q : Int) false) := hb
    have HFIN : Hid ((∀ W', Tn (tbs w) W W' → Boxed W' (w.heap.size + 1 + 1) 4 (.bool true) → KeepsFrom w3.heap.size W W' ∧ (Code.ret = .ret ∧ Boxed W' (w.heap.size + 1 + 1) 4 (.bool true) ∧ Below w.heap.size w W')) ∧
        (∀ W', Tn (tbs w) W W' → Tb0 w W' P stop ((N1 : Int) + 1) ((x1 : Int) + 1) false → KeepsFrom w3.heap.size W W' ∧ KpP S W W' ∧ Tq w W' w3.heap.size P stop a.us (pre ++ [(x1, x2, x3)]))) := by
      have hbel : ∀ W', Tn (tbs w) W W' → Below w.heap.size w W' := fun W' ht => hT.below.trans (ht.below hT.below.size (fun y hy => by simp [tbs] at hy; omega))
      refine ⟨fun W' ht hb2 => ⟨(keeps_tn ht hb.is).from _, rfl, hb2, hbel W' ht⟩, fun W' ht h0 => ⟨(keeps_tn ht hb.is).from _, KpP.of_tn ht (fun y hy => ⟨by have := HSL.out y hy; have := hT.below.size; omega, fun hm => by have := HSL.out y hy; simp [tbs] at hm; omega⟩), ⟨⟨x1 + 1, ?_, n6, by omega⟩, hbel W' ht, Nat.le_trans hT.sz ht.size⟩⟩⟩
      rw [List.length_append, hN1, show ((N1 + [(x1, x2, x3)].length : Nat) : Int) = (N1 : Int) + 1 by simp, show ((x1 + 1 : Nat) : Int) = (x1 : Int) + 1 by omega]
      exact h0
    have c0 := hb.b0.cell
    have c4 := hb.b4.cell
    clear kx hgq hql n1 n2 n3 n4 n6 e2 e3 hrel hq0 hN1 hpre hT HK HT3
    gi_wp2_with fail
    refine ⟨trivial, ?_⟩
    refine (CallsIn.inRound l (callsIn_wide.2 hnx)).mono ?_
    rintro e Wa ⟨rfl, ta⟩
    have hba := HB0.out.tn ta
    have f4 := hba.b4.frozen
    have c4 := hba.b4.cell
    obtain ⟨Wb, hWb⟩ : ∃ Wb, Wa.setCell ⟨w.heap.size + 1 + 1 + 1 + 1, 0, none⟩ (.int .i64 (x1 : Int)) = Wb := ⟨_, rfl⟩
    have HTb : Hid (Tb0 w Wb P stop (N1 : Int) (x1 : Int) false) := by rw [← hWb]; exact hba.setQ _
    have HTNb : Hid (Tn (tbs w) W Wb) := by rw [← hWb]; exact (ta.mono (by simp)).setCell (.inl (by simp [tbs])) _
    have HBb : Hid (Below w.heap.size w Wb) := HB.out.trans (HTNb.out.below HB.out.size (fun y hy => by simp [tbs] at hy; omega))
    have HQb : Hid (∀ k, Pq (Wb.drewN k) P B R G N H lv a hs) := fun k => HQ.out _ (below_drewN HBb.out k)
    have HSL2 : Hid (∀ k, Calls Try.prog 37 #[.pointer (some ⟨R, 0, none⟩)] (Wb.drewN k) fun e w' => e = .returned (.int .i64 (a.size : Int)) ∧ w' = Wb.drewN k) := fun k => rslots_any (HQb.out k).ra.c0
    have p0 := HTb.out.b0.cell
    have p4 := HTb.out.b4.cell
    have p1 : Wb.cell? ⟨P, 1, none⟩ = some (.pointer (some ⟨R, 0, none⟩)) := (HQb.out 0).pb.cell 1
    have hge : decide ((a.size : Int) ≤ (x1 : Int)) = false := decide_eq_false (by omega)
    have hge2 : decide (a.size ≤ x1) = false := decide_eq_false (by omega)
    clear hba ta hnx
    gi_wp2_with fail
    refine wpIn_region_quiet_round (by kernel_rfl) (by rfl) (by rintro ⟨a, w, h⟩; exact h) (by kernel_rfl) ?_
    repeat (go_big_quiet_step (first
      | (go_at_call 37; refine Calls.quiet_of_same (HSL2.out _))))
    refine wpQuiet_nil ?_
    intro _ hw'
    obtain ⟨nq, hw''⟩ := hw'
    subst hw''
    obtain ⟨Wc, hWc⟩ : ∃ Wc, Wb.drewN nq = Wc := ⟨_, rfl⟩
    have htc : Tn [] Wb Wc := by rw [← hWc]; exact tn_drewN _ _
    have HT8 : Hid (Tb0 w Wc P stop (N1 : Int) (x1 : Int) false) := HTb.out.tn htc
    have HT80 : Hid (Tn (tbs w) W Wc) := HTNb.out.trans htc (by simp)
    have HQc : Hid (∀ W', Tn [] Wc W' → Pq W' P B R G N H lv a hs) := fun W' ht => by
      have := HQb.out nq
      rw [hWc] at this
      exact this.tn ht
    rw [hWc]
    clear hWc htc HTb HTNb HBb HQb HSL2 p0 p1 p4 hWb
    have HS : Hid (∀ W', Tn [] Wc W' → W'.cell? ⟨w.heap.size, 0, none⟩ = some (.pointer (some ⟨P, 0, none⟩)) ∧ W'.cell? ⟨P, 1, none⟩ = some (.pointer (some ⟨R, 0, none⟩)) ∧ W'.cell? ⟨w.heap.size + 1 + 1 + 1 + 1, 0, none⟩ = some (.int .i64 (x1 : Int))) := fun W' ht => ⟨(HT8.out.tn ht).b0.cell, (HQc.out W' ht).pb.cell 1, (HT8.out.tn ht).b4.cell⟩
    have HRAT : Hid (∀ W', Tn [] Wc W' → Calls Try.prog 52 #[.pointer (some ⟨R, 0, none⟩), .int .i64 (x1 : Int)] W' fun e w' => e = .returned (.tuple #[.agg #[.int .i64 (x1 : Int), .int .i64 x2], .string x3, .bool true]) ∧ Tn [] W' w') := fun W' ht => by
      have := rat_any (HQc.out W' ht).ra x1 hx1s
      rw [HX2.out.1, HX2.out.2.1, HX2.out.2.2] at this
      exact this
    gi_wp2_with fail
    refine wpIn_region_mid (S := fun W' => W'.cell? ⟨w.heap.size, 0, none⟩ = some (.pointer (some ⟨P, 0, none⟩)) ∧ W'.cell? ⟨P, 1, none⟩ = some (.pointer (some ⟨R, 0, none⟩)) ∧ W'.cell? ⟨w.heap.size + 1 + 1 + 1 + 1, 0, none⟩ = some (.int .i64 (x1 : Int))) 14 (by kernel_rfl) (by rfl) (by rintro ⟨a, w, h⟩; exact h) ?_
    have hS := HS.out Wc.drew (Tn.refl _ _).drew
    refine wpAnyM_take (i := 0) [] (oi := { dst := some 28, op := Op.load 31 (Operand.tmp 3), type := 31, pos := _, after := #[], guard := none }) (v := ?_) rfl (by kernel_rfl) (by kernel_rfl) (by kernel_rfl) (by kernel_rfl) (fun _ _ _ h => h) (Or.inl ⟨by rfl, ?_⟩) hS ?_
    rotate_left
    · (intro w hSw; (try dsimp only at hSw); go_simp; try with_reducible rfl)
    try simp only [Act.put, List.setIfInBounds_toArray, List.set_cons_zero, List.set_cons_succ]
    refine wpAnyM_take (i := 1) [] (oi := { dst := some 29, op := Op.nilCheck (Operand.tmp 28), type := 0, pos := _, after := #[{ on := 0, ground := Ground.data }], guard := none }) (v := ?_) rfl (by kernel_rfl) (by kernel_rfl) (by kernel_rfl) (by kernel_rfl) (fun _ _ _ h => h) (Or.inl ⟨by rfl, ?_⟩) hS ?_
    rotate_left
    · (intro w hSw; (try dsimp only at hSw); go_simp; try with_reducible rfl)
    try simp only [Act.put, List.setIfInBounds_toArray, List.set_cons_zero, List.set_cons_succ]
    refine wpAnyM_take (i := 2) [] (oi := { dst := some 30, op := Op.fieldAddr 34 (Operand.tmp 29) 1, type := 0, pos := _, after := #[{ on := 1, ground := Ground.data }], guard := none }) (v := ?_) rfl (by kernel_rfl) (by kernel_rfl) (by kernel_rfl) (by kernel_rfl) (fun _ _ _ h => h) (Or.inl ⟨by rfl, ?_⟩) hS ?_
    rotate_left
    · (intro w hSw; (try dsimp only at hSw); go_simp; try with_reducible rfl)
    try simp only [Act.put, List.setIfInBounds_toArray, List.set_cons_zero, List.set_cons_succ]
    refine wpAnyM_take (i := 3) [] (oi := { dst := some 31, op := Op.load 27 (Operand.tmp 30), type := 27, pos := _, after := #[{ on := 2, ground := Ground.data }], guard := none }) (v := ?_) rfl (by kernel_rfl) (by kernel_rfl) (by kernel_rfl) (by kernel_rfl) (fun _ _ _ h => h) (Or.inl ⟨by rfl, ?_⟩) hS ?_
    rotate_left
    · (intro w hSw; (try dsimp only at hSw); go_simp; try with_reducible rfl)
    try simp only [Act.put, List.setIfInBounds_toArray, List.set_cons_zero, List.set_cons_succ]
    refine wpAnyM_take (i := 4) [] (oi := { dst := some 32, op := Op.load 3 (Operand.tmp 8), type := 3, pos := _, after := #[], guard := none }) (v := ?_) rfl (by kernel_rfl) (by kernel_rfl) (by kernel_rfl) (by kernel_rfl) (fun _ _ _ h => h) (Or.inl ⟨by rfl, ?_⟩) hS ?_
    rotate_left
    · (intro w hSw; (try dsimp only at hSw); go_simp; try with_reducible rfl)
    try simp only [Act.put, List.setIfInBounds_toArray, List.set_cons_zero, List.set_cons_succ]
    refine wpAnyM_ready (rs := [5, 10]) (by kernel_rfl) (by simp) ?_
    refine AllReadyM.cons (o := { dst := some 33, op := Op.call { callee := Callee.value (Operand.func 52), args := #[Operand.tmp 31, Operand.tmp 32], argTypes := #[27, 3] }, type := 98, pos := _, after := #[{ on := 3, ground := Ground.data }, { on := 4, ground := Ground.data }], guard := none }) rfl (fun K hK => ?_) (AllReadyM.cons (o := { dst := some 11, op := Op.alloc 36, type := 0, pos := _, after := #[], guard := none }) rfl (fun K hK => ?_) AllReadyM.nil)
    · go_simp
      refine Calls.mono (HRAT.out _ (Tn.refl _ _).drew) ?_
      rintro e W5 ⟨rfl, t5⟩
      have ht5 : Tn [] Wc W5 := ((Tn.refl [] Wc).drew).trans t5 (by simp)
      have hS := HS.out W5 ht5
      refine hK _ _ ⟨fun _ => hS, ?_⟩
      clear hK K t5
      try simp only [Act.put, List.setIfInBounds_toArray, List.set_cons_zero, List.set_cons_succ]
      refine wpAnyM_take (i := 6) [] (oi := { dst := some 27, op := Op.move (Operand.tmp 33), type := 98, pos := _, after := #[{ on := 5, ground := Ground.data }], guard := none }) (v := ?_) rfl (by kernel_rfl) (by kernel_rfl) (by kernel_rfl) (by kernel_rfl) (fun _ _ _ h => h) (Or.inl ⟨by rfl, ?_⟩) hS ?_
      rotate_left
      · (intro w hSw; (try dsimp only at hSw); go_simp; try with_reducible rfl)
      try simp only [Act.put, List.setIfInBounds_toArray, List.set_cons_zero, List.set_cons_succ]
      refine wpAnyM_take (i := 7) [] (oi := { dst := some 34, op := Op.extract (Operand.tmp 27) 0, type := 36, pos := _, after := #[{ on := 6, ground := Ground.data }], guard := none }) (v := ?_) rfl (by kernel_rfl) (by kernel_rfl) (by kernel_rfl) (by kernel_rfl) (fun _ _ _ h => h) (Or.inl ⟨by rfl, ?_⟩) hS ?_
      rotate_left
      · (intro w hSw; (try dsimp only at hSw); go_simp; try with_reducible rfl)
      try simp only [Act.put, List.setIfInBounds_toArray, List.set_cons_zero, List.set_cons_succ]
      refine wpAnyM_take (i := 8) [] (oi := { dst := some 35, op := Op.extract (Operand.tmp 27) 1, type := 9, pos := _, after := #[{ on := 6, ground := Ground.data }, { on := 11, ground := Ground.gcOnly Departure.lateStores }], guard := none }) (v := ?_) rfl (by kernel_rfl) (by kernel_rfl) (by kernel_rfl) (by kernel_rfl) (fun _ _ _ h => h) (Or.inl ⟨by rfl, ?_⟩) hS ?_
      rotate_left
      · (intro w hSw; (try dsimp only at hSw); go_simp; try with_reducible rfl)
      try simp only [Act.put, List.setIfInBounds_toArray, List.set_cons_zero, List.set_cons_succ]
      refine wpAnyM_take (i := 9) [] (oi := { dst := some 36, op := Op.extract (Operand.tmp 27) 2, type := 4, pos := _, after := #[{ on := 6, ground := Ground.data }, { on := 12, ground := Ground.gcOnly Departure.lateStores }], guard := none }) (v := ?_) rfl (by kernel_rfl) (by kernel_rfl) (by kernel_rfl) (by kernel_rfl) (fun _ _ _ h => h) (Or.inl ⟨by rfl, ?_⟩) hS ?_
      rotate_left
      · (intro w hSw; (try dsimp only at hSw); go_simp; try with_reducible rfl)
      try simp only [Act.put, List.setIfInBounds_toArray, List.set_cons_zero, List.set_cons_succ]
      refine wpAnyM_ready (rs := [10]) (by kernel_rfl) (by simp) ?_
      refine AllReadyM.cons (o := { dst := some 11, op := Op.alloc 36, type := 0, pos := _, after := #[], guard := none }) rfl (fun K hK => ?_) AllReadyM.nil
      go_simp
      obtain ⟨bz, hbz⟩ : ∃ bz, W5.heap.size = bz := ⟨_, rfl⟩
      obtain ⟨W6, hW6⟩ : ∃ W6, W6 = W5.alloc (.cells #[.int .i64 0, .int .i64 0] 36) := ⟨_, rfl⟩
      have k6 : Bk W6 bz 36 #[.int .i64 0, .int .i64 0] := by rw [hW6, ← hbz]; exact Bk.new _ _ _
      have t6 : Tn [] Wc W6 := by rw [hW6]; exact ht5.alloc _
      have hge : Wc.heap.size ≤ bz := by rw [← hbz]; exact ht5.size
      rw [hbz, ← hW6]
      refine hK _ _ ⟨fun _ => HS.out W6 t6, ?_⟩
      clear hK K hbz hW6 ht5 hS
      try simp only [Act.put, List.setIfInBounds_toArray, List.set_cons_zero, List.set_cons_succ]
      have u0 : W6.cell? ⟨bz, 0, none⟩ = some (.int .i64 0) := k6.cell 0
      have u1 : W6.cell? ⟨bz, 1, none⟩ = some (.int .i64 0) := k6.cell 1
      have v0 := k6.frozen 0
      have v1 := k6.frozen 1
      have hZ : Tn [] Wc ((W6.setCell ⟨bz, 0, none⟩ (.int .i64 (x1 : Int))).setCell ⟨bz, 1, none⟩ (.int .i64 x2)) ∧ Bk ((W6.setCell ⟨bz, 0, none⟩ (.int .i64 (x1 : Int))).setCell ⟨bz, 1, none⟩ (.int .i64 x2)) bz 36 #[.int .i64 (x1 : Int), .int .i64 x2] :=
        ⟨(t6.setCell (.inr hge) _).setCell (.inr hge) _, by have := (k6.set 0 (.int .i64 (x1 : Int))).set 1 (.int .i64 x2); simpa using this⟩
      have HZ0 : Hid (Tn [] Wc ((W6.setCell ⟨bz, 0, none⟩ (.int .i64 (x1 : Int))).setCell ⟨bz, 1, none⟩ (.int .i64 x2)) ∧ Bk ((W6.setCell ⟨bz, 0, none⟩ (.int .i64 (x1 : Int))).setCell ⟨bz, 1, none⟩ (.int .i64 x2)) bz 36 #[.int .i64 (x1 : Int), .int .i64 x2]) := hZ
      clear hZ k6
      refine wpAnyM_ready (rs := [11]) (by kernel_rfl) (by simp) ?_
      refine AllReadyM.cons (o := { dst := none, op := Op.store 36 (Operand.tmp 11) (Operand.tmp 34), type := 0, pos := _, after := #[{ on := 10, ground := Ground.data }, { on := 7, ground := Ground.data }, { on := 5, ground := Ground.chain }, { on := 0, ground := Ground.phase }, { on := 1, ground := Ground.phase }, { on := 2, ground := Ground.phase }, { on := 3, ground := Ground.phase }, { on := 4, ground := Ground.phase }, { on := 5, ground := Ground.phase }, { on := 6, ground := Ground.phase }, { on := 7, ground := Ground.phase }, { on := 8, ground := Ground.textOnly Departure.lateStores }, { on := 9, ground := Ground.textOnly Departure.lateStores }, { on := 10, ground := Ground.phase }], guard := none }) rfl (fun K hK => ?_) AllReadyM.nil
      go_simp
      obtain ⟨W9, hW9⟩ : ∃ W9, (W6.setCell ⟨bz, 0, none⟩ (.int .i64 (x1 : Int))).setCell ⟨bz, 1, none⟩ (.int .i64 x2) = W9 := ⟨_, rfl⟩
      have HZ : Hid (Tn [] Wc W9 ∧ Bk W9 bz 36 #[.int .i64 (x1 : Int), .int .i64 x2]) := by rw [← hW9]; exact HZ0
      rw [hW9]
      refine hK _ _ ⟨fun _ => HS.out W9 HZ.out.1, ?_⟩
      clear hK K HZ0 hW9 u0 u1 v0 v1
      try simp only [Act.put, List.setIfInBounds_toArray, List.set_cons_zero, List.set_cons_succ]
      refine wpAnyM_ready (rs := [12]) (by kernel_rfl) (by simp) ?_
      refine AllReadyM.cons (o := { dst := some 12, op := Op.assign (Operand.tmp 35), type := 9, pos := _, after := #[{ on := 8, ground := Ground.data }, { on := 11, ground := Ground.chain }, { on := 0, ground := Ground.phase }, { on := 1, ground := Ground.phase }, { on := 2, ground := Ground.phase }, { on := 3, ground := Ground.phase }, { on := 4, ground := Ground.phase }, { on := 5, ground := Ground.phase }, { on := 6, ground := Ground.phase }, { on := 7, ground := Ground.phase }, { on := 8, ground := Ground.phase }, { on := 9, ground := Ground.textOnly Departure.lateStores }, { on := 10, ground := Ground.phase }, { on := 11, ground := Ground.phase }], guard := none }) rfl (fun K hK => ?_) AllReadyM.nil
      go_simp
      refine hK _ _ ⟨fun _ => HS.out W9 HZ.out.1, ?_⟩
      clear hK K
      try simp only [Act.put, List.setIfInBounds_toArray, List.set_cons_zero, List.set_cons_succ]
      refine wpAnyM_ready (rs := [13]) (by kernel_rfl) (by simp) ?_
      refine AllReadyM.cons (o := { dst := some 13, op := Op.assign (Operand.tmp 36), type := 4, pos := _, after := #[{ on := 9, ground := Ground.data }, { on := 12, ground := Ground.chain }, { on := 0, ground := Ground.phase }, { on := 1, ground := Ground.phase }, { on := 2, ground := Ground.phase }, { on := 3, ground := Ground.phase }, { on := 4, ground := Ground.phase }, { on := 5, ground := Ground.phase }, { on := 6, ground := Ground.phase }, { on := 7, ground := Ground.phase }, { on := 8, ground := Ground.phase }, { on := 9, ground := Ground.phase }, { on := 10, ground := Ground.phase }, { on := 11, ground := Ground.phase }, { on := 12, ground := Ground.phase }], guard := none }) rfl (fun K hK => ?_) AllReadyM.nil
      go_simp
      refine hK _ _ ⟨fun _ => HS.out W9 HZ.out.1, ?_⟩
      clear hK K
      try simp only [Act.put, List.setIfInBounds_toArray, List.set_cons_zero, List.set_cons_succ]
      refine wpAnyM_done (by kernel_rfl) ?_ _
      clear HRAT
      have d0 : W9.cell? ⟨bz, 0, none⟩ = some (.int .i64 (x1 : Int)) := HZ.out.2.cell 0
      have d1 : W9.cell? ⟨bz, 1, none⟩ = some (.int .i64 x2) := HZ.out.2.cell 1
      have hT9 := HT8.out.tn HZ.out.1
      have c3 := hT9.b3.cell
      have f3 := hT9.b3.frozen
      obtain ⟨Wn, hWn⟩ : ∃ Wn, W9.setCell ⟨w.heap.size + 1 + 1 + 1, 0, none⟩ (.int .i64 ((N1 : Int) + 1)) = Wn := ⟨_, rfl⟩
      have hTn : Tb0 w Wn P stop ((N1 : Int) + 1) (x1 : Int) false := by rw [← hWn]; exact hT9.setN ((N1 : Int) + 1)
      have c4 := hTn.b4.cell
      have f4 := hTn.b4.frozen
      obtain ⟨Wq, hWq⟩ : ∃ Wq, Wn.setCell ⟨w.heap.size + 1 + 1 + 1 + 1, 0, none⟩ (.int .i64 ((x1 : Int) + 1)) = Wq := ⟨_, rfl⟩
      have hTq : Tb0 w Wq P stop ((N1 : Int) + 1) ((x1 : Int) + 1) false := by rw [← hWq]; exact hTn.setQ ((x1 : Int) + 1)
      have g3 := hTq.b3.cell
      have g1 := hTq.b1.cell
      have g2 := hTq.b2.cell
      have h2 := hTq.b2.frozen
      have HTQ : Hid (Tb0 w Wq P stop ((N1 : Int) + 1) ((x1 : Int) + 1) false) := hTq
      have kx9 : Bk W9 bx 36 #[.int .i64 (x1 : Int), .int .i64 x2] := (HKX.out.tn HT80.out (by intro hm; exact HBX.out bx (Nat.le_refl _) hm)).tn HZ.out.1 (by simp)
      have k0 : W9.cell? ⟨bx, 0, none⟩ = some (.int .i64 (x1 : Int)) := kx9.cell 0
      have k1 : W9.cell? ⟨bx, 1, none⟩ = some (.int .i64 x2) := kx9.cell 1
      have hneq := fun w => neq_hnd (x1 : Int) x2 w
      have HTN9 : Hid (Tn (tbs w) W Wq) := by
        rw [← hWq, ← hWn]
        exact ((HT80.out.trans HZ.out.1 (by simp)).setCell (.inl (by simp [tbs])) _).setCell (.inl (by simp [tbs])) _
      have hNb1 : (N1 : Int) ≤ 65536 := Int.ofNat_le.2 hNb
      have hxb1 : (x1 : Int) ≤ 65536 := Int.ofNat_le.2 (Nat.le_trans (Nat.le_of_lt hx1s) hsz2)
      clear hT9 hTn hTq kx9 HZ HT8 HT80 HKX HBX HS HQc HB0 HX2 HRA HQ HFL HSL hF3 HB HSZ c0 hS
      by_cases hst : (N1 : Int) + 1 = stop
      · subst hst
        gi_wp2
        have hf := HFIN.out.1 _ (HTN9.out.setCell (.inl (by simp [tbs])) _) (HTQ.out.setR true).b2
        exact ⟨hf.1, rfl, hf.2.2⟩
      · have hstb : ((N1 : Int) + 1 == stop) = false := by simpa using hst
        gi_wp2
        exact HFIN.out.2 Wq HTN9.out HTQ.out
    · go_simp
      obtain ⟨bz, hbz⟩ : ∃ bz, Wc.heap.size = bz := ⟨_, rfl⟩
      obtain ⟨W5, hW5⟩ : ∃ W5, W5 = (Wc.alloc (.cells #[.int .i64 0, .int .i64 0] 36)).drew := ⟨_, rfl⟩
      have k5 : Bk W5 bz 36 #[.int .i64 0, .int .i64 0] := by rw [hW5, ← hbz]; exact (Bk.new Wc 36 #[.int .i64 0, .int .i64 0]).drew
      have t5 : Tn [] Wc W5 := by rw [hW5]; exact ((Tn.refl [] Wc).alloc _).drew
      have hge : Wc.heap.size ≤ bz := by rw [← hbz]; exact Nat.le_refl _
      rw [hbz, ← hW5]
      refine hK _ _ ⟨fun _ => HS.out W5 t5, ?_⟩
      clear hK K hbz hW5
      try simp only [Act.put, List.setIfInBounds_toArray, List.set_cons_zero, List.set_cons_succ]
      refine wpAnyM_ready (rs := [5]) (by kernel_rfl) (by simp) ?_
      refine AllReadyM.cons (o := { dst := some 33, op := Op.call { callee := Callee.value (Operand.func 52), args := #[Operand.tmp 31, Operand.tmp 32], argTypes := #[27, 3] }, type := 98, pos := _, after := #[{ on := 3, ground := Ground.data }, { on := 4, ground := Ground.data }], guard := none }) rfl (fun K hK => ?_) AllReadyM.nil
      go_simp
      refine Calls.mono (HRAT.out _ t5) ?_
      rintro e W6 ⟨rfl, t6'⟩
      have t6 : Tn [] Wc W6 := t5.trans t6' (by simp)
      have k6 : Bk W6 bz 36 #[.int .i64 0, .int .i64 0] := k5.tn t6' (by simp)
      have hS := HS.out W6 t6
      refine hK _ _ ⟨fun _ => hS, ?_⟩
      clear hK K t5 t6' k5
      try simp only [Act.put, List.setIfInBounds_toArray, List.set_cons_zero, List.set_cons_succ]
      refine wpAnyM_take (i := 6) [] (oi := { dst := some 27, op := Op.move (Operand.tmp 33), type := 98, pos := _, after := #[{ on := 5, ground := Ground.data }], guard := none }) (v := ?_) rfl (by kernel_rfl) (by kernel_rfl) (by kernel_rfl) (by kernel_rfl) (fun _ _ _ h => h) (Or.inl ⟨by rfl, ?_⟩) hS ?_
      rotate_left
      · (intro w hSw; (try dsimp only at hSw); go_simp; try with_reducible rfl)
      try simp only [Act.put, List.setIfInBounds_toArray, List.set_cons_zero, List.set_cons_succ]
      refine wpAnyM_take (i := 7) [] (oi := { dst := some 34, op := Op.extract (Operand.tmp 27) 0, type := 36, pos := _, after := #[{ on := 6, ground := Ground.data }], guard := none }) (v := ?_) rfl (by kernel_rfl) (by kernel_rfl) (by kernel_rfl) (by kernel_rfl) (fun _ _ _ h => h) (Or.inl ⟨by rfl, ?_⟩) hS ?_
      rotate_left
      · (intro w hSw; (try dsimp only at hSw); go_simp; try with_reducible rfl)
      try simp only [Act.put, List.setIfInBounds_toArray, List.set_cons_zero, List.set_cons_succ]
      refine wpAnyM_take (i := 8) [] (oi := { dst := some 35, op := Op.extract (Operand.tmp 27) 1, type := 9, pos := _, after := #[{ on := 6, ground := Ground.data }, { on := 11, ground := Ground.gcOnly Departure.lateStores }], guard := none }) (v := ?_) rfl (by kernel_rfl) (by kernel_rfl) (by kernel_rfl) (by kernel_rfl) (fun _ _ _ h => h) (Or.inl ⟨by rfl, ?_⟩) hS ?_
      rotate_left
      · (intro w hSw; (try dsimp only at hSw); go_simp; try with_reducible rfl)
      try simp only [Act.put, List.setIfInBounds_toArray, List.set_cons_zero, List.set_cons_succ]
      refine wpAnyM_take (i := 9) [] (oi := { dst := some 36, op := Op.extract (Operand.tmp 27) 2, type := 4, pos := _, after := #[{ on := 6, ground := Ground.data }, { on := 12, ground := Ground.gcOnly Departure.lateStores }], guard := none }) (v := ?_) rfl (by kernel_rfl) (by kernel_rfl) (by kernel_rfl) (by kernel_rfl) (fun _ _ _ h => h) (Or.inl ⟨by rfl, ?_⟩) hS ?_
      rotate_left
      · (intro w hSw; (try dsimp only at hSw); go_simp; try with_reducible rfl)
      try simp only [Act.put, List.setIfInBounds_toArray, List.set_cons_zero, List.set_cons_succ]
      have u0 : W6.cell? ⟨bz, 0, none⟩ = some (.int .i64 0) := k6.cell 0
      have u1 : W6.cell? ⟨bz, 1, none⟩ = some (.int .i64 0) := k6.cell 1
      have v0 := k6.frozen 0
      have v1 := k6.frozen 1
      have hZ : Tn [] Wc ((W6.setCell ⟨bz, 0, none⟩ (.int .i64 (x1 : Int))).setCell ⟨bz, 1, none⟩ (.int .i64 x2)) ∧ Bk ((W6.setCell ⟨bz, 0, none⟩ (.int .i64 (x1 : Int))).setCell ⟨bz, 1, none⟩ (.int .i64 x2)) bz 36 #[.int .i64 (x1 : Int), .int .i64 x2] :=
        ⟨(t6.setCell (.inr hge) _).setCell (.inr hge) _, by have := (k6.set 0 (.int .i64 (x1 : Int))).set 1 (.int .i64 x2); simpa using this⟩
      have HZ0 : Hid (Tn [] Wc ((W6.setCell ⟨bz, 0, none⟩ (.int .i64 (x1 : Int))).setCell ⟨bz, 1, none⟩ (.int .i64 x2)) ∧ Bk ((W6.setCell ⟨bz, 0, none⟩ (.int .i64 (x1 : Int))).setCell ⟨bz, 1, none⟩ (.int .i64 x2)) bz 36 #[.int .i64 (x1 : Int), .int .i64 x2]) := hZ
      clear hZ k6
      refine wpAnyM_ready (rs := [11]) (by kernel_rfl) (by simp) ?_
      refine AllReadyM.cons (o := { dst := none, op := Op.store 36 (Operand.tmp 11) (Operand.tmp 34), type := 0, pos := _, after := #[{ on := 10, ground := Ground.data }, { on := 7, ground := Ground.data }, { on := 5, ground := Ground.chain }, { on := 0, ground := Ground.phase }, { on := 1, ground := Ground.phase }, { on := 2, ground := Ground.phase }, { on := 3, ground := Ground.phase }, { on := 4, ground := Ground.phase }, { on := 5, ground := Ground.phase }, { on := 6, ground := Ground.phase }, { on := 7, ground := Ground.phase }, { on := 8, ground := Ground.textOnly Departure.lateStores }, { on := 9, ground := Ground.textOnly Departure.lateStores }, { on := 10, ground := Ground.phase }], guard := none }) rfl (fun K hK => ?_) AllReadyM.nil
      go_simp
      obtain ⟨W9, hW9⟩ : ∃ W9, (W6.setCell ⟨bz, 0, none⟩ (.int .i64 (x1 : Int))).setCell ⟨bz, 1, none⟩ (.int .i64 x2) = W9 := ⟨_, rfl⟩
      have HZ : Hid (Tn [] Wc W9 ∧ Bk W9 bz 36 #[.int .i64 (x1 : Int), .int .i64 x2]) := by rw [← hW9]; exact HZ0
      rw [hW9]
      refine hK _ _ ⟨fun _ => HS.out W9 HZ.out.1, ?_⟩
      clear hK K HZ0 hW9 u0 u1 v0 v1
      try simp only [Act.put, List.setIfInBounds_toArray, List.set_cons_zero, List.set_cons_succ]
      refine wpAnyM_ready (rs := [12]) (by kernel_rfl) (by simp) ?_
      refine AllReadyM.cons (o := { dst := some 12, op := Op.assign (Operand.tmp 35), type := 9, pos := _, after := #[{ on := 8, ground := Ground.data }, { on := 11, ground := Ground.chain }, { on := 0, ground := Ground.phase }, { on := 1, ground := Ground.phase }, { on := 2, ground := Ground.phase }, { on := 3, ground := Ground.phase }, { on := 4, ground := Ground.phase }, { on := 5, ground := Ground.phase }, { on := 6, ground := Ground.phase }, { on := 7, ground := Ground.phase }, { on := 8, ground := Ground.phase }, { on := 9, ground := Ground.textOnly Departure.lateStores }, { on := 10, ground := Ground.phase }, { on := 11, ground := Ground.phase }], guard := none }) rfl (fun K hK => ?_) AllReadyM.nil
      go_simp
      refine hK _ _ ⟨fun _ => HS.out W9 HZ.out.1, ?_⟩
      clear hK K
      try simp only [Act.put, List.setIfInBounds_toArray, List.set_cons_zero, List.set_cons_succ]
      refine wpAnyM_ready (rs := [13]) (by kernel_rfl) (by simp) ?_
      refine AllReadyM.cons (o := { dst := some 13, op := Op.assign (Operand.tmp 36), type := 4, pos := _, after := #[{ on := 9, ground := Ground.data }, { on := 12, ground := Ground.chain }, { on := 0, ground := Ground.phase }, { on := 1, ground := Ground.phase }, { on := 2, ground := Ground.phase }, { on := 3, ground := Ground.phase }, { on := 4, ground := Ground.phase }, { on := 5, ground := Ground.phase }, { on := 6, ground := Ground.phase }, { on := 7, ground := Ground.phase }, { on := 8, ground := Ground.phase }, { on := 9, ground := Ground.phase }, { on := 10, ground := Ground.phase }, { on := 11, ground := Ground.phase }, { on := 12, ground := Ground.phase }], guard := none }) rfl (fun K hK => ?_) AllReadyM.nil
      go_simp
      refine hK _ _ ⟨fun _ => HS.out W9 HZ.out.1, ?_⟩
      clear hK K
      try simp only [Act.put, List.setIfInBounds_toArray, List.set_cons_zero, List.set_cons_succ]
      refine wpAnyM_done (by kernel_rfl) ?_ _
      clear HRAT
      have d0 : W9.cell? ⟨bz, 0, none⟩ = some (.int .i64 (x1 : Int)) := HZ.out.2.cell 0
      have d1 : W9.cell? ⟨bz, 1, none⟩ = some (.int .i64 x2) := HZ.out.2.cell 1
      have hT9 := HT8.out.tn HZ.out.1
      have c3 := hT9.b3.cell
      have f3 := hT9.b3.frozen
      obtain ⟨Wn, hWn⟩ : ∃ Wn, W9.setCell ⟨w.heap.size + 1 + 1 + 1, 0, none⟩ (.int .i64 ((N1 : Int) + 1)) = Wn := ⟨_, rfl⟩
      have hTn : Tb0 w Wn P stop ((N1 : Int) + 1) (x1 : Int) false := by rw [← hWn]; exact hT9.setN ((N1 : Int) + 1)
      have c4 := hTn.b4.cell
      have f4 := hTn.b4.frozen
      obtain ⟨Wq, hWq⟩ : ∃ Wq, Wn.setCell ⟨w.heap.size + 1 + 1 + 1 + 1, 0, none⟩ (.int .i64 ((x1 : Int) + 1)) = Wq := ⟨_, rfl⟩
      have hTq : Tb0 w Wq P stop ((N1 : Int) + 1) ((x1 : Int) + 1) false := by rw [← hWq]; exact hTn.setQ ((x1 : Int) + 1)
      have g3 := hTq.b3.cell
      have g1 := hTq.b1.cell
      have g2 := hTq.b2.cell
      have h2 := hTq.b2.frozen
      have HTQ : Hid (Tb0 w Wq P stop ((N1 : Int) + 1) ((x1 : Int) + 1) false) := hTq
      have kx9 : Bk W9 bx 36 #[.int .i64 (x1 : Int), .int .i64 x2] := (HKX.out.tn HT80.out (by intro hm; exact HBX.out bx (Nat.le_refl _) hm)).tn HZ.out.1 (by simp)
      have k0 : W9.cell? ⟨bx, 0, none⟩ = some (.int .i64 (x1 : Int)) := kx9.cell 0
      have k1 : W9.cell? ⟨bx, 1, none⟩ = some (.int .i64 x2) := kx9.cell 1
      have hneq := fun w => neq_hnd (x1 : Int) x2 w
      have HTN9 : Hid (Tn (tbs w) W Wq) := by
        rw [← hWq, ← hWn]
        exact ((HT80.out.trans HZ.out.1 (by simp)).setCell (.inl (by simp [tbs])) _).setCell (.inl (by simp [tbs])) _
      have hNb1 : (N1 : Int) ≤ 65536 := Int.ofNat_le.2 hNb
      have hxb1 : (x1 : Int) ≤ 65536 := Int.ofNat_le.2 (Nat.le_trans (Nat.le_of_lt hx1s) hsz2)
      clear hT9 hTn hTq kx9 HZ HT8 HT80 HKX HBX HS HQc HB0 HX2 HRA HQ HFL HSL hF3 HB HSZ c0 hS
      by_cases hst : (N1 : Int) + 1 = stop
      · subst hst
        gi_wp2
        have hf := HFIN.out.1 _ (HTN9.out.setCell (.inl (by simp [tbs])) _) (HTQ.out.setR true).b2
        exact ⟨hf.1, rfl, hf.2.2⟩
      · have hstb : ((N1 : Int) + 1 == stop) = false := by simpa using hst
        gi_wp2
        exact HFIN.out.2 Wq HTN9.out HTQ.out
  case done =>
    rintro D zs W hD rfl hT hK
    refine HK.out _ _ (wpAt_of_wp ?_)
    obtain ⟨q, hb, -, -⟩ := hT.ex
    have HT : Hid (Tb0 w W P stop ((gl a.us).length : Int) (q : Int) false) := hb
    have HBL : Hid (Below w.heap.size w W) := hT.below
    have hq := HQ.out W.drew hT.below.drew
    have hlv := rlive_any hq.ra
    have hlen : (gl a.us).length = live a.us := by unfold gl; rw [glTo_len, liveTo_len]
    rw [hlen] at hb
    obtain ⟨lv0, hlv0⟩ : ∃ lv0, live a.us = lv0 := ⟨_, rfl⟩
    rw [hlv0] at hb hlv
    have c0 := hb.b0.cell
    have c3 := hb.b3.cell
    have f2 := hb.b2.frozen
    have c2 := hb.b2.cell
    have p1 : W.cell? ⟨P, 1, none⟩ = some (.pointer (some ⟨R, 0, none⟩)) := (HQ.out W hT.below).pb.cell 1
    have hDn : D ≠ w.heap.size + 1 + 1 := by omega
    have hD2 : w.heap.size ≤ D := by omega
    have HKD : Hid (W.heap[D]? = some (.deferred (some []))) := hK
    have hbe : ((lv0 : Int) == (lv0 : Int)) = true := by simp
    have HLV : Hid (Calls Try.prog 12 #[.pointer (some ⟨R, 0, none⟩)] W.drew fun e w' => e = .returned (.int .i64 (lv0 : Int)) ∧ w' = W.drew) := hlv
    clear HK hK hlen hlv0 hq hT hlv
    go_wp2_with fail
    refine wp_region_still_tail 7 (by kernel_rfl) (by kernel_rfl) ?_
    simp only [List.take_succ_cons, List.take_zero, List.drop_succ_cons, List.drop_zero]
    repeat still_step
    still_call HLV.out
    repeat still_step
    refine wpStill_nil ?_
    go_wp2
    refine ⟨by simp, .inl ⟨_, _, rfl, run_takeDeferred ((Below.heap_setCell _ _ _ _ (by simpa using hDn)).trans HKD.out), ?_⟩⟩
    refine ⟨.bool true, ?_, rfl, ?_⟩
    · have c4 := res_true (W' := (W.setCell ⟨w.heap.size + 1 + 1, 0, none⟩ (.bool true)).drew) HT.out.b2 rfl hDn
      simp [results, Try.f36, go_sem, c4]
    · exact res_below (b := w.heap.size + 1 + 1) HBL.out (by omega) hD2 rfl rfl rfl rfl
end Go.Proofs.Ytfbmbjbokmomhaa
