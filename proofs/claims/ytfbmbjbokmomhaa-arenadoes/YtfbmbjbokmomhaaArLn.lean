/- All. -/
import Derived.Test.YtfbmbjbokmomhaaArLm
import Derived.Test.YtfbmbjbokmomhaaArNone
namespace Go.Proofs.Ytfbmbjbokmomhaa
open Go.RowKit Go.Shelf
attribute [local go_sem] Oper.semAt_some
set_option linter.unusedVariables false
set_option linter.unusedSimpArgs false
set_option maxRecDepth 100000

theorem sone' (x : ByteArray) : ∀ u ∈ [Value.string x], u.oneCell' = true := by
  intro u hu
  simp only [List.mem_cons, List.not_mem_nil, or_false] at hu
  subst hu
  rfl

def blkEnd (id : Nat) (Q : Exit → Act → World → Prop) : Exit → Act → World → Prop
  | .normal, a, w => Q .normal a w
  | .exit i, a, w => i = id ∧ Q .normal a w
  | .panic ch, a, w => Q (.panic ch) a w
  | _, _, _ => False

theorem wpAt_blockE {P : Program} {f : FuncId} {Q : Exit → Act → World → Prop} {a : Act} {w : World} {id : Nat} {c : Code} (h : wpAt f P c (blkEnd id Q) a w) : wpAt f P (Code.block id c) Q a w := by
  intro b k cs hro hb
  have hr : Fence.wide.room (cs.length + 1 + 0) := room_wide _
  have hF : Fence.wide.fn b.fn := trivial
  have hin : (lone (b.atR a (.code (.block id c) :: k)) cs w).fenced P Fence.wide := fenced_calm hF hr rfl
  obtain ⟨e, a₁, w₁, hq, harr⟩ := h b (.inBlock id :: k) cs hro hb
  cases e with
  | normal =>
    have hs : StepsIn (Machine.fenced P Fence.wide) P _ (lone (b.atR a₁ (.inBlock id :: k)) cs w₁) := harr
    exact ⟨.normal, a₁, w₁, hq, .head hin stepR_block (hs.trans (.one (fenced_calm hF hr rfl) stepR_inBlock))⟩
  | exit i =>
    obtain ⟨rfl, hq⟩ := hq
    exact ⟨.normal, a₁, w₁, hq, .head hin stepR_block (harr.1 k (by simp [exitTo]))⟩
  | panic ch =>
    obtain ⟨todo, hs⟩ := harr
    exact ⟨.panic ch, a₁, w₁, hq, todo, .head hin stepR_block hs⟩
  | goto l => exact hq.elim
  | ret => exact hq.elim
  | outgrown => exact hq.elim

section
variable {P : Program} {Q : Exit → Act → World → Prop} {S : World → Prop} {l n : Nat}
theorem wpIn_region_mid {id : Nat} {os : List Oper} {a : Act} {w : World} (m : Nat) (hm : P.follows .mixedOrders = true) (hd : noDefer os = true) (hq : ¬ LetsOut Q)
    (h : wpAnyM P .any os.toArray Q S m os.toArray.size (Array.replicate os.toArray.size false) a w.drew) : (Code.region id os.toArray true).wpIn (Fence.wide.inRound l) n P Q a w :=
  wpIn_region_any hm (wpAnyIn_of_any (noDefer_out hd) hq _ _ _ _ (wpAny_of_mid _ _ _ _ h))
end

theorem Tn.nil_below {w w' : World} (h : Tn [] w w') : Below w.heap.size w w' := h.below (Nat.le_refl _) (by simp)

theorem atone (x : Int) : ∀ u ∈ [Value.int .i64 x], u.oneCell' = true := by
  intro u hu
  simp only [List.mem_cons, List.not_mem_nil, or_false] at hu
  subst hu
  rfl

theorem tnA {W Wa w3 : World} {row : Option Nat} (g : Wa.grownBy w3 row) (h : Tn [] W Wa) : Tn row.toList W w3 := (h.mono (by simp)).grown g (fun k hk => .inl (opt_toList.2 hk))

theorem Lm.two' {w W Wa Wb w3 w7 : World} {pre : List (Nat × Int × ByteArray)} {N : Nat} {v1 v2 v3 v7 : Value} {x : Nat × Int × ByteArray} (h : Lm w pre W v1 v2) (hN : pre.length = N) (ta : Tn [] W Wa)
    (o3 : w3.ownsRow 0 36 2 v3 (N + 1) (ha pre ++ [.int .i64 (x.1 : Int), .int .i64 x.2.1])) (g3 : Wa.grownBy w3 v1.ownBlock) (q3 : v3.ownBlock = v1.ownBlock ∨ v3.ownBlock = some Wa.heap.size)
    (tb : Tn [] w3 Wb) (o7 : w7.ownsRow 0 9 1 v7 (N + 1) (hb pre ++ [.string x.2.2])) (g7 : Wb.grownBy w7 v2.ownBlock) (q7 : v7.ownBlock = v2.ownBlock ∨ v7.ownBlock = some Wb.heap.size) :
    Boxed w7 (w.heap.size) 32 v1 ∧ Boxed w7 (w.heap.size + 1) 44 v2 ∧ Tn (v1.ownBlock.toList ++ v2.ownBlock.toList) W w7 ∧
    Lm w (pre ++ [x]) ((w7.setCell ⟨w.heap.size, 0, none⟩ v3).setCell ⟨w.heap.size + 1, 0, none⟩ v7) v3 v7 ∧
    Tn (v1.ownBlock.toList ++ v2.ownBlock.toList ++ [w.heap.size, w.heap.size + 1]) W ((w7.setCell ⟨w.heap.size, 0, none⟩ v3).setCell ⟨w.heap.size + 1, 0, none⟩ v7) := by
  subst hN
  exact h.two ta o3 g3 q3 tb o7 g7 q7

theorem Lm.held {w W W' : World} {pre : List (Nat × Int × ByteArray)} {v1 v2 : Value} {bx : Nat} {x : Int × Int} (h : Lm w pre W v1 v2) (kx : Bk W bx 36 #[.int .i64 x.1, .int .i64 x.2]) (hn1 : v1.ownBlock ≠ some bx) (hn2 : v2.ownBlock ≠ some bx) (ht : Tn (v1.ownBlock.toList ++ v2.ownBlock.toList) W W') :
    W'.cell? ⟨w.heap.size, 0, none⟩ = some v1 ∧ W'.cell? ⟨w.heap.size + 1, 0, none⟩ = some v2 ∧ W'.cell? ⟨bx, 0, none⟩ = some (.int .i64 x.1) ∧ W'.cell? ⟨bx, 1, none⟩ = some (.int .i64 x.2) := by
  have k1 : Bk W' (w.heap.size) 32 #[v1] := Bk.tn (show Bk W _ _ _ from h.b1) ht (fun hm => by
    rcases List.mem_append.1 hm with hm | hm
    · exact (h.n1 _ (opt_toList.1 hm)).2.1 rfl
    · exact (h.n2 _ (opt_toList.1 hm)).2.1 rfl)
  have k2 : Bk W' (w.heap.size + 1) 44 #[v2] := Bk.tn (show Bk W _ _ _ from h.b2) ht (fun hm => by
    rcases List.mem_append.1 hm with hm | hm
    · exact (h.n1 _ (opt_toList.1 hm)).2.2.1 rfl
    · exact (h.n2 _ (opt_toList.1 hm)).2.2.1 rfl)
  have k3 := kx.tn ht (fun hm => by
    rcases List.mem_append.1 hm with hm | hm
    · exact hn1 (opt_toList.1 hm)
    · exact hn2 (opt_toList.1 hm))
  exact ⟨k1.cell 0, k2.cell 0, k3.cell 0, k3.cell 1⟩

theorem Lm.keeps {w W W' : World} {pre : List (Nat × Int × ByteArray)} {v1 v2 : Value} (h : Lm w pre W v1 v2) (ht : Tn (v1.ownBlock.toList ++ v2.ownBlock.toList ++ [w.heap.size, w.heap.size + 1]) W W') : KeepsOthers W W' :=
  keeps_tn ht (fun b hb => by
    simp only [List.mem_append, List.mem_cons, List.not_mem_nil, or_false, opt_toList] at hb
    rcases hb with (hb | hb) | rfl | rfl
    · exact owns_cells h.r1 hb
    · exact owns_cells h.r2 hb
    · exact ⟨_, h.b1, rfl⟩
    · exact ⟨_, h.b2, rfl⟩)

theorem Lm.kp {w W W' : World} {pre : List (Nat × Int × ByteArray)} {v1 v2 : Value} {L : List Nat} (h : Lm w pre W v1 v2) (ht : Tn (v1.ownBlock.toList ++ v2.ownBlock.toList ++ [w.heap.size, w.heap.size + 1]) W W') (hL : ∀ b ∈ L, b < w.heap.size) : KpP (L ++ [w.heap.size + 2]) W W' :=
  KpP.of_tn ht (fun y hy => by
    have hs := h.size
    refine ⟨?_, fun hb => ?_⟩
    · rcases List.mem_append.1 hy with hy | hy
      · have := hL y hy
        omega
      · simp at hy
        omega
    · simp only [List.mem_append, List.mem_cons, List.not_mem_nil, or_false, opt_toList] at hb
      rcases List.mem_append.1 hy with hy | hy
      · have := hL y hy
        rcases hb with (hb | hb) | rfl | rfl
        · have := (h.n1 y hb).1
          omega
        · have := (h.n2 y hb).1
          omega
        · omega
        · omega
      · simp at hy
        subst hy
        rcases hb with (hb | hb) | hb | hb
        · exact (h.n1 _ hb).2.2.2 rfl
        · exact (h.n2 _ hb).2.2.2 rfl
        · omega
        · omega)

theorem Lm.tn {w W W' : World} {pre : List (Nat × Int × ByteArray)} {v1 v2 : Value} (h : Lm w pre W v1 v2) (ht : Tn [] W W') : Lm w pre W' v1 v2 where
  b1 := Bk.tn (show Bk W _ _ _ from h.b1) ht (by simp)
  b2 := Bk.tn (show Bk W _ _ _ from h.b2) ht (by simp)
  r1 := owns_tn h.r1 ht (by simp)
  r2 := owns_tn h.r2 ht (by simp)
  n1 := h.n1
  n2 := h.n2
  ne := h.ne
  below := h.below.trans (ht.nil_below.mono h.below.size)
  size := Nat.le_trans h.size ht.size

/-- What lies ahead of All's loop. -/
theorem all_start2 (w : World) (p : Option Addr) : ∃ w1, ((w.alloc (.cells #[.slice none 0 0] 32)).alloc (.cells #[.slice none 0 0] 44)).alloc (.cells #[.pointer p] 23) = w1 ∧ Below w.heap.size w w1 ∧ w1.heap.size = w.heap.size + 3 ∧ Bk w1 (w.heap.size + 2) 23 #[.pointer p] ∧ Lm w [] w1 (.slice none 0 0) (.slice none 0 0) := by
  have b0 := Bk.new w 32 #[.slice none 0 0]
  have b1 := Bk.new (w.alloc (.cells #[.slice none 0 0] 32)) 44 #[.slice none 0 0]
  have b2 := Bk.new ((w.alloc (.cells #[.slice none 0 0] 32)).alloc (.cells #[.slice none 0 0] 44)) 23 #[.pointer p]
  simp only [World.size_alloc] at b1 b2
  have hb : Below w.heap.size w (((w.alloc (.cells #[.slice none 0 0] 32)).alloc (.cells #[.slice none 0 0] 44)).alloc (.cells #[.pointer p] 23)) := (((Below.refl _ w).alloc (Nat.le_refl _) _).alloc (by simp) _).alloc (by simp; omega) _
  exact ⟨_, rfl, hb, by simp, b2, {
    b1 := (b0.alloc _).alloc _
    b2 := b1.alloc _
    r1 := World.ownsRow_nil _ _ _ _
    r2 := World.ownsRow_nil _ _ _ _
    n1 := fun b hb => by cases hb
    n2 := fun b hb => by cases hb
    ne := fun b hb => by cases hb
    below := hb
    size := by simp }⟩

set_option maxHeartbeats 8000000 in
theorem all_any {w : World} {B : Nat} {bs : List Nat} {a : Ar} (h : Arn tAS tSS w B bs a) (hT : Txs a.us) :
    Calls Try.prog 35 #[.pointer (some ⟨B, 0, none⟩)] w fun r w' => r = .returned (.func (.func 50) #[] #[.pointer (some ⟨w.heap.size, 0, none⟩), .pointer (some ⟨w.heap.size + 1, 0, none⟩)]) ∧ ∃ v1 v2, Lm w (gl a.us) w' v1 v2 := by
  obtain ⟨uv, fv, fr, rfl, h⟩ := h
  have hmf : ∀ (fn : Fn) (first cap : Array Value) (w : World), (Instr.makeFunc fn first cap).run Try.prog w = .ok (.func fn first cap) w := fun _ _ _ _ => rfl
  refine calls_of_wpAt Try.func35 rfl ?_
  simp only [Try.ntmps35, List.size_toArray, List.length_cons, List.length_nil, Nat.reduceAdd, Nat.reduceSub, Array.replicate_succ, Array.replicate_zero, List.push_toArray, List.append_toArray, List.nil_append, List.cons_append]
  have HE : Hid (∀ W, Below w.heap.size w W → IsAr tAS tSS W B uv fv fr a) := fun W hb => h.tn (Tn.of_below hb []) (by simp)
  have HLT : Hid (∀ b ∈ bsOf B uv fv, b < w.heap.size) := h.lt
  have HTX : Hid (Txs a.us) := hT
  have HLN : Hid ((gl a.us).length ≤ 65536) := by
    show _ ≤ _
    have h1 := liveTo_le a.us a.us.length
    have h2 := h.le
    have h3 := h.s2
    unfold gl
    rw [glTo_len]
    omega
  obtain ⟨w3, hw3, hb3, hs3, kw, hL0⟩ := all_start2 w (some ⟨B, 0, none⟩)
  clear h hT
  refine wpAt_seq_k fun K hK => wpAt_of_wp ?_
  go_wp2
  refine wpAt_seq_k fun K hK => wpAt_of_wp ?_
  go_wp2
  refine wpAt_seq_k fun K hK => wpAt_of_wp ?_
  go_wp2
  refine wpAt_seq_k fun K hK => ?_
  have HK : Hid _ := hK
  clear hK
  refine wpAt_seq_k fun K2 hK2 => wpAt_of_wp ?_
  go_wp2_with fail
  refine (good_any _ _).mono ?_
  rintro r w4 ⟨rfl, hw4⟩
  rw [hw3] at hw4
  subst hw4
  go_wp2
  clear hw3
  refine wpAt_blockE ?_
  refine wpAt_boxedQ ?A Try.func35 (gf := 58) (lb := #[.pointer (some ⟨w.heap.size + 2, 0, none⟩)]) rfl (enters_of Try.func58 (by kernel_rfl) rfl)
    (good1_stops (S := bsOf B uv fv ++ [w.heap.size + 2]) HTX.out (List.mem_append.2 (.inr (by simp))) (fun b hb => List.mem_append.2 (.inl hb)) (fun x hx => by
      rcases List.mem_append.1 hx with hx | hx
      · have := HLT.out x hx
        omega
      · simp at hx
        omega) kw (HE.out _ hb3)) KpP.t (fun W l o o' hl _ _ _ k hk => World.putObj_heap_other (fun e => by
          subst e
          rcases List.mem_append.1 hk with hx | hx
          · have := HLT.out _ hx
            omega
          · simp at hx
            omega)) (Below.refl _ _) (fun _ => rfl)
    (fun pre W => ∃ v1 v2, Lm w pre W v1 v2)
    (fun cc pre W => False)
    (fun _ _ _ => False)
    (fun s A B' row hs hg hr => by
      obtain ⟨v1, v2, hs⟩ := hs
      exact ⟨v1, v2, hs.abides (m := w4.heap.size) (by omega) hg hr⟩)
    (fun cc s A B row hs hg hr => hs)
    ⟨_, _, hL0⟩
    (fun x bx W => ∃ u1 u2, w4.heap.size ≤ bx ∧ Bk W bx 36 #[.int .i64 (x.1 : Int), .int .i64 x.2.1] ∧ Boxed W w.heap.size 32 u1 ∧ Boxed W (w.heap.size + 1) 44 u2 ∧ u1.ownBlock ≠ some bx ∧ u2.ownBlock ≠ some bx)
    (fun x bx _ A B' row hs hg hr => by
      obtain ⟨u1, u2, h1, h2, h3, h4, h5⟩ := hs
      exact ⟨u1, u2, h1, bk_from h2 hg hr, boxed_from h3 hg hr, boxed_from h4 hg hr, h5⟩)
    ?assign ?body ?done (fun D cc pre W _ _ h _ => h.elim) (fun D chain pre W _ _ h _ => h.elim)
  case assign =>
    rintro l pre x W K ⟨v1, v2, hL⟩ hK
    gi_wp2
    have ht : Tn [] W (W.alloc (.cells #[.int .i64 (x.1 : Int), .int .i64 x.2.1] 36)) := (Tn.refl _ _).alloc _
    obtain ⟨bx, hbx⟩ : ∃ bx, W.heap.size = bx := ⟨_, rfl⟩
    have kx : Bk (W.alloc (.cells #[.int .i64 (x.1 : Int), .int .i64 x.2.1] 36)) bx 36 #[.int .i64 (x.1 : Int), .int .i64 x.2.1] := by rw [← hbx]; exact Bk.new _ _ _
    have hsz := hL.size
    have hlt := HLT.out
    rw [hbx]
    refine hK bx _ ((keeps_tn ht (by simp)).from _) (KpP.of_tn ht (fun y hy => ⟨?_, by simp⟩)) ⟨v1, v2, hL.tn ht⟩ ⟨v1, v2, by omega, kx, (hL.tn ht).b1, (hL.tn ht).b2, fun he => ?_, fun he => ?_⟩
    · rcases List.mem_append.1 hy with hx | hx
      · have := hlt _ hx
        omega
      · simp at hx
        omega
    · have := row_block hL.r1 _ he
      omega
    · have := row_block hL.r2 _ he
      omega
  case body =>
    rintro l pre x bx W - ⟨v1, v2, hL⟩ ⟨u1, u2, hbx, kx, hu1, hu2, hn1, hn2⟩ hpre
    have hu : u1 = v1 := by have := (show W.heap[_]? = _ from hu1).symm.trans hL.b1; simpa using this
    have hv : u2 = v2 := by have := (show W.heap[_]? = _ from hu2).symm.trans hL.b2; simpa using this
    subst hu hv
    obtain ⟨N, hN⟩ : ∃ N, pre.length = N := ⟨_, rfl⟩
    have HN : Hid (pre.length = N ∧ N ≤ 65536) := ⟨hN, by have h1 := hpre.length_le; have h2 := HLN.out; simp at h1; omega⟩
    obtain ⟨p1, c1, hv1, -⟩ := row_form hL.r1
    obtain ⟨p2, c2, hv2, -⟩ := row_form hL.r2
    rw [hN] at hv1 hv2
    subst hv1 hv2
    have HL : Hid (Lm w pre W (.slice p1 N c1) (.slice p2 N c2)) := hL
    have HS : Hid (∀ W', Tn ((Value.slice p1 N c1).ownBlock.toList ++ (Value.slice p2 N c2).ownBlock.toList) W W' → W'.cell? ⟨w.heap.size, 0, none⟩ = some (.slice p1 N c1) ∧ W'.cell? ⟨w.heap.size + 1, 0, none⟩ = some (.slice p2 N c2) ∧ W'.cell? ⟨bx, 0, none⟩ = some (.int .i64 (x.1 : Int)) ∧ W'.cell? ⟨bx, 1, none⟩ = some (.int .i64 x.2.1)) := fun W' ht => hL.held (x := ((x.1 : Int), x.2.1)) kx hn1 hn2 ht
    have HR1 : Hid (∀ W', Tn [] W W' → W'.ownsRow 0 36 2 (.slice p1 N c1) N (ha pre)) := fun W' ht => by have := owns_tn hL.r1 ht (by simp); rwa [hN] at this
    have HR2 : Hid (∀ W', Tn (Value.slice p1 N c1).ownBlock.toList W W' → W'.ownsRow 0 9 1 (.slice p2 N c2) N (hb pre)) := fun W' ht => by have := owns_tn hL.r2 ht (fun b hb hm => hL.ne b (opt_toList.1 hm) hb); rwa [hN] at this
    have HBN : Hid (∀ b, W.heap.size ≤ b → (Value.slice p1 N c1).ownBlock ≠ some b) := fun b hb he => by have := row_block hL.r1 b he; omega
    have HF : Hid (∀ v3 v7 w9, Lm w (pre ++ [x]) w9 v3 v7 → Tn ((Value.slice p1 N c1).ownBlock.toList ++ (Value.slice p2 N c2).ownBlock.toList ++ [w.heap.size, w.heap.size + 1]) W w9 → KeepsFrom w4.heap.size W w9 ∧ KpP (bsOf B uv fv ++ [w.heap.size + 2]) W w9 ∧ ∃ v1 v2, Lm w (pre ++ [x]) w9 v1 v2) := fun v3 v7 w9 h4 h5 => ⟨(hL.keeps h5).from _, hL.kp h5 HLT.out, v3, v7, h4⟩
    clear HK hL hu1 hu2 hn1 hn2 kx hN hpre
    gi_wp2_with fail
    refine wpIn_region_mid (S := fun W' => W'.cell? ⟨w.heap.size, 0, none⟩ = some (.slice p1 N c1) ∧ W'.cell? ⟨w.heap.size + 1, 0, none⟩ = some (.slice p2 N c2) ∧ W'.cell? ⟨bx, 0, none⟩ = some (.int .i64 (x.1 : Int)) ∧ W'.cell? ⟨bx, 1, none⟩ = some (.int .i64 x.2.1)) 8 (by kernel_rfl) (by rfl) (by rintro ⟨a, w, h⟩; exact h) ?_
    have hS := HS.out W.drew (Tn.refl _ _).drew
    refine wpAnyM_take (i := 0) [] (oi := _) (v := ?_) rfl (by kernel_rfl) (by kernel_rfl) (by kernel_rfl) (by kernel_rfl) (fun _ _ _ h => h) (Or.inl ⟨by rfl, ?_⟩) hS ?_
    rotate_left
    · (intro w hSw; (try dsimp only at hSw); go_simp; try with_reducible rfl)
    try simp only [Act.put, List.setIfInBounds_toArray, List.set_cons_zero, List.set_cons_succ]
    refine wpAnyM_take (i := 1) [] (oi := _) (v := ?_) rfl (by kernel_rfl) (by kernel_rfl) (by kernel_rfl) (by kernel_rfl) (fun _ _ _ h => h) (Or.inl ⟨by rfl, ?_⟩) hS ?_
    rotate_left
    · (intro w hSw; (try dsimp only at hSw); go_simp; try with_reducible rfl)
    try simp only [Act.put, List.setIfInBounds_toArray, List.set_cons_zero, List.set_cons_succ]
    refine wpAnyM_take (i := 4) [7] (oi := _) (v := ?_) rfl (by kernel_rfl) (by kernel_rfl) (by kernel_rfl) (by kernel_rfl) (fun _ _ _ h => h) (Or.inl ⟨by rfl, ?_⟩) hS ?_
    rotate_left
    · (intro w hSw; (try dsimp only at hSw); go_simp; try with_reducible rfl)
    try simp only [Act.put, List.setIfInBounds_toArray, List.set_cons_zero, List.set_cons_succ]
    refine wpAnyM_take (i := 5) [6, 7] (oi := _) (v := ?_) rfl (by kernel_rfl) (by kernel_rfl) (by kernel_rfl) (by kernel_rfl) (fun _ _ _ h => h) (Or.inl ⟨by rfl, ?_⟩) hS ?_
    rotate_left
    · (intro w hSw; (try dsimp only at hSw); go_simp; try with_reducible rfl)
    try simp only [Act.put, List.setIfInBounds_toArray, List.set_cons_zero, List.set_cons_succ]
    refine wpAnyM_ready (rs := [2, 6]) (by kernel_rfl) (by simp) ?_
    refine AllReadyM.cons rfl (fun K hK => ?_) (AllReadyM.cons rfl (fun K hK => ?_) AllReadyM.nil)
    · go_simp
      refine hK _ _ ⟨fun _ => HS.out _ (by repeat (first | exact Tn.refl _ _ | refine Tn.alloc ?_ _ | refine Tn.drew ?_)), ?_⟩
      clear hK K
      try simp only [Act.put, List.setIfInBounds_toArray, List.set_cons_zero, List.set_cons_succ]
      refine wpAnyM_ready (rs := [3, 6]) (by kernel_rfl) (by simp) ?_
      refine AllReadyM.cons rfl (fun K hK => ?_) (AllReadyM.cons rfl (fun K hK => ?_) AllReadyM.nil)
      · refine stepX rfl _ _ 32 rfl 36 (.agg #[.int .i64 0, .int .i64 0]) 2 16 Try.underlying32 hinfo rfl (by decide) (.slice p1 N c1) N (ha pre) (by go_simp) (HR1.out _ (by repeat (first | exact Tn.refl _ _ | refine Tn.alloc ?_ _ | refine Tn.drew ?_))) ⟨_, 0, none⟩ 1 1 [.int .i64 (x.1 : Int), .int .i64 x.2.1] (by rfl) rfl (news_bk (Bk.new _ _ _)) (hone _ _) (by have := HN.out.2; unfold maxLen; omega) (by have := HN.out.2; omega) ?_
        intro v3 w3 o3 g3 q3
        obtain ⟨e3, f3, rfl⟩ := row_some o3 (by omega)
        have t3 : Tn (Value.slice p1 N c1).ownBlock.toList W w3 := tnA g3 (by repeat (first | exact Tn.refl _ _ | refine Tn.alloc ?_ _ | refine Tn.drew ?_))
        refine hK _ _ ⟨fun _ => HS.out _ (t3.mono (fun y hy => List.mem_append.2 (.inl hy))), ?_⟩
        clear hK K
        try simp only [Act.put, List.setIfInBounds_toArray, List.set_cons_zero, List.set_cons_succ]
        refine wpAnyM_ready (rs := [6]) (by kernel_rfl) (by simp) ?_
        refine AllReadyM.cons rfl (fun K hK => ?_) AllReadyM.nil
        go_simp
        refine hK _ _ ⟨fun _ => HS.out _ (by refine Tn.mono (S := (Value.slice p1 N c1).ownBlock.toList) ?_ (fun y hy => List.mem_append.2 (.inl hy)); repeat (first | exact t3 | refine Tn.alloc ?_ _ | refine Tn.drew ?_)), ?_⟩
        clear hK K
        try simp only [Act.put, List.setIfInBounds_toArray, List.set_cons_zero, List.set_cons_succ]
        refine wpAnyM_ready (rs := [7]) (by kernel_rfl) (by simp) ?_
        refine AllReadyM.cons rfl (fun K hK => ?_) AllReadyM.nil
        refine stepX rfl _ _ 44 rfl 9 (.string ⟨#[]⟩) 1 16 Try.underlying44 strinfo rfl (by decide) (.slice p2 N c2) N (hb pre) (by go_simp) (HR2.out _ (by repeat (first | exact t3 | refine Tn.alloc ?_ _ | refine Tn.drew ?_))) ⟨_, 0, none⟩ 1 1 [.string x.2.2] (by rfl) rfl (news_bk (Bk.new _ _ _)) (sone' _) (by have := HN.out.2; unfold maxLen; omega) (by have := HN.out.2; omega) ?_
        intro v7 w7 o7 g7 q7
        obtain ⟨e7, f7, rfl⟩ := row_some o7 (by omega)
        obtain ⟨z1, z2, z3, z4, z5⟩ := HL.out.two' HN.out.1 (by repeat (first | exact Tn.refl _ _ | refine Tn.alloc ?_ _ | refine Tn.drew ?_)) o3 g3 q3 (by repeat (first | exact Tn.refl _ _ | refine Tn.alloc ?_ _ | refine Tn.drew ?_)) o7 g7 q7
        refine hK _ _ ⟨fun _ => HS.out _ z3, ?_⟩
        clear hK K
        try simp only [Act.put, List.setIfInBounds_toArray, List.set_cons_zero, List.set_cons_succ]
        have y1 := z1.cell
        have y2 := z1.frozen
        have y3 := (Boxed.other z2 (show w.heap.size + 1 ≠ w.heap.size by omega) (.slice (some ⟨e3, 0, none⟩) (N + 1) f3)).cell
        have y4 := (Boxed.other z2 (show w.heap.size + 1 ≠ w.heap.size by omega) (.slice (some ⟨e3, 0, none⟩) (N + 1) f3)).frozen
        refine wpAnyM_ready (rs := [8]) (by kernel_rfl) (by simp) ?_
        refine AllReadyM.cons rfl (fun K hK => ?_) AllReadyM.nil
        go_simp
        refine hK _ _ ⟨fun h => absurd h (by omega), ?_⟩
        clear hK K
        try simp only [Act.put, List.setIfInBounds_toArray, List.set_cons_zero, List.set_cons_succ]
        refine wpAnyM_ready (rs := [9]) (by kernel_rfl) (by simp) ?_
        refine AllReadyM.cons rfl (fun K hK => ?_) AllReadyM.nil
        go_simp
        refine hK _ _ ⟨fun h => absurd h (by omega), ?_⟩
        clear hK K
        try simp only [Act.put, List.setIfInBounds_toArray, List.set_cons_zero, List.set_cons_succ]
        refine wpAnyM_done (by kernel_rfl) ?_ _
        exact HF.out _ _ _ z4 z5
      · go_simp
        refine hK _ _ ⟨fun _ => HS.out _ (by repeat (first | exact Tn.refl _ _ | refine Tn.alloc ?_ _ | refine Tn.drew ?_)), ?_⟩
        clear hK K
        try simp only [Act.put, List.setIfInBounds_toArray, List.set_cons_zero, List.set_cons_succ]
        refine wpAnyM_ready (rs := [3]) (by kernel_rfl) (by simp) ?_
        refine AllReadyM.cons rfl (fun K hK => ?_) AllReadyM.nil
        refine stepX rfl _ _ 32 rfl 36 (.agg #[.int .i64 0, .int .i64 0]) 2 16 Try.underlying32 hinfo rfl (by decide) (.slice p1 N c1) N (ha pre) (by go_simp) (HR1.out _ (by repeat (first | exact Tn.refl _ _ | refine Tn.alloc ?_ _ | refine Tn.drew ?_))) ⟨_, 0, none⟩ 1 1 [.int .i64 (x.1 : Int), .int .i64 x.2.1] (by rfl) rfl (news_bk ((Bk.new _ _ _).alloc _)) (hone _ _) (by have := HN.out.2; unfold maxLen; omega) (by have := HN.out.2; omega) ?_
        intro v3 w3 o3 g3 q3
        obtain ⟨e3, f3, rfl⟩ := row_some o3 (by omega)
        have t3 : Tn (Value.slice p1 N c1).ownBlock.toList W w3 := tnA g3 (by repeat (first | exact Tn.refl _ _ | refine Tn.alloc ?_ _ | refine Tn.drew ?_))
        refine hK _ _ ⟨fun _ => HS.out _ (t3.mono (fun y hy => List.mem_append.2 (.inl hy))), ?_⟩
        clear hK K
        try simp only [Act.put, List.setIfInBounds_toArray, List.set_cons_zero, List.set_cons_succ]
        have kz := bk_grown (bk_new2 W.drew _ 9 #[.string x.2.2]) g3 (HBN.out _ (by simp))
        refine wpAnyM_ready (rs := [7]) (by kernel_rfl) (by simp) ?_
        refine AllReadyM.cons rfl (fun K hK => ?_) AllReadyM.nil
        refine stepX rfl _ _ 44 rfl 9 (.string ⟨#[]⟩) 1 16 Try.underlying44 strinfo rfl (by decide) (.slice p2 N c2) N (hb pre) (by go_simp) (HR2.out _ (by repeat (first | exact t3 | refine Tn.alloc ?_ _ | refine Tn.drew ?_))) ⟨_, 0, none⟩ 1 1 [.string x.2.2] (by rfl) rfl (news_bk (kz)) (sone' _) (by have := HN.out.2; unfold maxLen; omega) (by have := HN.out.2; omega) ?_
        intro v7 w7 o7 g7 q7
        obtain ⟨e7, f7, rfl⟩ := row_some o7 (by omega)
        obtain ⟨z1, z2, z3, z4, z5⟩ := HL.out.two' HN.out.1 (by repeat (first | exact Tn.refl _ _ | refine Tn.alloc ?_ _ | refine Tn.drew ?_)) o3 g3 q3 (by repeat (first | exact Tn.refl _ _ | refine Tn.alloc ?_ _ | refine Tn.drew ?_)) o7 g7 q7
        refine hK _ _ ⟨fun _ => HS.out _ z3, ?_⟩
        clear hK K
        try simp only [Act.put, List.setIfInBounds_toArray, List.set_cons_zero, List.set_cons_succ]
        have y1 := z1.cell
        have y2 := z1.frozen
        have y3 := (Boxed.other z2 (show w.heap.size + 1 ≠ w.heap.size by omega) (.slice (some ⟨e3, 0, none⟩) (N + 1) f3)).cell
        have y4 := (Boxed.other z2 (show w.heap.size + 1 ≠ w.heap.size by omega) (.slice (some ⟨e3, 0, none⟩) (N + 1) f3)).frozen
        refine wpAnyM_ready (rs := [8]) (by kernel_rfl) (by simp) ?_
        refine AllReadyM.cons rfl (fun K hK => ?_) AllReadyM.nil
        go_simp
        refine hK _ _ ⟨fun h => absurd h (by omega), ?_⟩
        clear hK K
        try simp only [Act.put, List.setIfInBounds_toArray, List.set_cons_zero, List.set_cons_succ]
        refine wpAnyM_ready (rs := [9]) (by kernel_rfl) (by simp) ?_
        refine AllReadyM.cons rfl (fun K hK => ?_) AllReadyM.nil
        go_simp
        refine hK _ _ ⟨fun h => absurd h (by omega), ?_⟩
        clear hK K
        try simp only [Act.put, List.setIfInBounds_toArray, List.set_cons_zero, List.set_cons_succ]
        refine wpAnyM_done (by kernel_rfl) ?_ _
        exact HF.out _ _ _ z4 z5
    · go_simp
      refine hK _ _ ⟨fun _ => HS.out _ (by repeat (first | exact Tn.refl _ _ | refine Tn.alloc ?_ _ | refine Tn.drew ?_)), ?_⟩
      clear hK K
      try simp only [Act.put, List.setIfInBounds_toArray, List.set_cons_zero, List.set_cons_succ]
      refine wpAnyM_ready (rs := [2]) (by kernel_rfl) (by simp) ?_
      refine AllReadyM.cons rfl (fun K hK => ?_) AllReadyM.nil
      go_simp
      refine hK _ _ ⟨fun _ => HS.out _ (by repeat (first | exact Tn.refl _ _ | refine Tn.alloc ?_ _ | refine Tn.drew ?_)), ?_⟩
      clear hK K
      try simp only [Act.put, List.setIfInBounds_toArray, List.set_cons_zero, List.set_cons_succ]
      refine wpAnyM_ready (rs := [3]) (by kernel_rfl) (by simp) ?_
      refine AllReadyM.cons rfl (fun K hK => ?_) AllReadyM.nil
      refine stepX rfl _ _ 32 rfl 36 (.agg #[.int .i64 0, .int .i64 0]) 2 16 Try.underlying32 hinfo rfl (by decide) (.slice p1 N c1) N (ha pre) (by go_simp) (HR1.out _ (by repeat (first | exact Tn.refl _ _ | refine Tn.alloc ?_ _ | refine Tn.drew ?_))) ⟨_, 0, none⟩ 1 1 [.int .i64 (x.1 : Int), .int .i64 x.2.1] (by rfl) rfl (news_bk (bk_new2 _ _ _ _)) (hone _ _) (by have := HN.out.2; unfold maxLen; omega) (by have := HN.out.2; omega) ?_
      intro v3 w3 o3 g3 q3
      obtain ⟨e3, f3, rfl⟩ := row_some o3 (by omega)
      have t3 : Tn (Value.slice p1 N c1).ownBlock.toList W w3 := tnA g3 (by repeat (first | exact Tn.refl _ _ | refine Tn.alloc ?_ _ | refine Tn.drew ?_))
      refine hK _ _ ⟨fun _ => HS.out _ (t3.mono (fun y hy => List.mem_append.2 (.inl hy))), ?_⟩
      clear hK K
      try simp only [Act.put, List.setIfInBounds_toArray, List.set_cons_zero, List.set_cons_succ]
      have kz := bk_grown ((Bk.new W.drew 9 #[.string x.2.2]).alloc _) g3 (HBN.out _ (by simp))
      refine wpAnyM_ready (rs := [7]) (by kernel_rfl) (by simp) ?_
      refine AllReadyM.cons rfl (fun K hK => ?_) AllReadyM.nil
      refine stepX rfl _ _ 44 rfl 9 (.string ⟨#[]⟩) 1 16 Try.underlying44 strinfo rfl (by decide) (.slice p2 N c2) N (hb pre) (by go_simp) (HR2.out _ (by repeat (first | exact t3 | refine Tn.alloc ?_ _ | refine Tn.drew ?_))) ⟨_, 0, none⟩ 1 1 [.string x.2.2] (by rfl) rfl (news_bk (kz)) (sone' _) (by have := HN.out.2; unfold maxLen; omega) (by have := HN.out.2; omega) ?_
      intro v7 w7 o7 g7 q7
      obtain ⟨e7, f7, rfl⟩ := row_some o7 (by omega)
      obtain ⟨z1, z2, z3, z4, z5⟩ := HL.out.two' HN.out.1 (by repeat (first | exact Tn.refl _ _ | refine Tn.alloc ?_ _ | refine Tn.drew ?_)) o3 g3 q3 (by repeat (first | exact Tn.refl _ _ | refine Tn.alloc ?_ _ | refine Tn.drew ?_)) o7 g7 q7
      refine hK _ _ ⟨fun _ => HS.out _ z3, ?_⟩
      clear hK K
      try simp only [Act.put, List.setIfInBounds_toArray, List.set_cons_zero, List.set_cons_succ]
      have y1 := z1.cell
      have y2 := z1.frozen
      have y3 := (Boxed.other z2 (show w.heap.size + 1 ≠ w.heap.size by omega) (.slice (some ⟨e3, 0, none⟩) (N + 1) f3)).cell
      have y4 := (Boxed.other z2 (show w.heap.size + 1 ≠ w.heap.size by omega) (.slice (some ⟨e3, 0, none⟩) (N + 1) f3)).frozen
      refine wpAnyM_ready (rs := [8]) (by kernel_rfl) (by simp) ?_
      refine AllReadyM.cons rfl (fun K hK => ?_) AllReadyM.nil
      go_simp
      refine hK _ _ ⟨fun h => absurd h (by omega), ?_⟩
      clear hK K
      try simp only [Act.put, List.setIfInBounds_toArray, List.set_cons_zero, List.set_cons_succ]
      refine wpAnyM_ready (rs := [9]) (by kernel_rfl) (by simp) ?_
      refine AllReadyM.cons rfl (fun K hK => ?_) AllReadyM.nil
      go_simp
      refine hK _ _ ⟨fun h => absurd h (by omega), ?_⟩
      clear hK K
      try simp only [Act.put, List.setIfInBounds_toArray, List.set_cons_zero, List.set_cons_succ]
      refine wpAnyM_done (by kernel_rfl) ?_ _
      exact HF.out _ _ _ z4 z5
  case done =>
    rintro D zs W hD rfl ⟨v1, v2, hL⟩ hK
    refine HK.out _ _ (wpAt_of_wp ?_)
    clear HK
    go_wp2
    refine ⟨by simp, .inl ⟨_, _, rfl, run_takeDeferred hK, ?_⟩⟩
    refine ⟨_, results_tmp rfl _ _ _, rfl, v1, v2, ?_⟩
    exact hL.abides (m := w4.heap.size) (by omega) (grownBy_putObj' W D (.deferred none)) (fun r e => by cases e; exact ⟨hD, _, hK, rfl⟩)
end Go.Proofs.Ytfbmbjbokmomhaa
