/- What is pending is told, and held against a row. -/
import Derived.Test.YtdgphlghmjnjfaaRgQ
import Derived.Test.YtdgphlghmjnjfaaMem
namespace Go.Proofs.Ytdgphlghmjnjfaa
open Go.RowKit Go.Maps Go.Shelf
attribute [local go_sem] Oper.semAt_some
set_option linter.unusedVariables false
set_option maxRecDepth 100000

/-- A function value that goes through numbers: its box, and the blocks that it reads. -/
structure Av (W : World) (b : Nat) (S : List Nat) (L : List Nat) : Prop where
  ex : ∃ p c, Bk W b 36 #[.slice p L.length c] ∧ (∀ (j x : Nat), L[j]? = some x → ∃ G, p = some ⟨G, 0, none⟩ ∧ W.cell? ⟨G, j, none⟩ = some (.int .i64 (x : Int))) ∧ (∀ G o, p = some ⟨G, o, none⟩ → G ∈ S)
  h1 : b ∈ S
  lt : ∀ b ∈ S, b < W.heap.size
  reach : L.length ≤ 1099511627776

theorem KpP.cell {S : List Nat} {W W' : World} (h : KpP S W W') {b o : Nat} (hb : b ∈ S) : W'.cell? ⟨b, o, none⟩ = W.cell? ⟨b, o, none⟩ := by
  simp only [World.cell?, h b hb]

theorem Av.kp {W W' : World} {b : Nat} {S : List Nat} {L : List Nat} (h : Av W b S L) (hk : KpP S W W') : Av W' b S L := by
  obtain ⟨p, c, k1, r1, s1⟩ := h.ex
  refine ⟨⟨p, c, hk.bk k1 h.h1, fun j x hx => ?_, s1⟩, h.h1, hk.lt h.lt, h.reach⟩
  obtain ⟨G, rfl, hc⟩ := r1 j x hx
  exact ⟨G, rfl, by rw [hk.cell (s1 G 0 rfl)]; exact hc⟩

abbrev encN (x : Nat) : Array Value := #[.int .i64 (x : Int)]

/-- Code that ends at its end, leaves its block, or panics. -/
def blkEnd (id : Nat) (Q : Exit → Act → World → Prop) : Exit → Act → World → Prop
  | .normal, a, w => Q .normal a w
  | .exit i, a, w => i = id ∧ Q .normal a w
  | .panic ch, a, w => Q (.panic ch) a w
  | _, _, _ => False

theorem wpAt_blockE {P : Program} {f : FuncId} {Q : Exit → Act → World → Prop} {a : Act} {w : World} {id : Nat} {c : Code} (h : wpAt f P c (blkEnd id Q) a w) : wpAt f P (Code.block id c) Q a w := by
  intro b k cs hro hb
  have hr : Fence.wide.room (cs.length + 1 + 0) := room_wide _
  have hF : Fence.wide.fn b.fn := trivial
  have hin : (lone (b.atR a (.code (.block id c) :: k)) cs w).fenced P Fence.wide := fenced_calm hF hr rfl
  obtain ⟨e, a₁, w₁, hq, harr⟩ := h b (.inBlock id :: k) cs hro hb
  cases e with
  | normal =>
    have hs : StepsIn (Machine.fenced P Fence.wide) P _ (lone (b.atR a₁ (.inBlock id :: k)) cs w₁) := harr
    exact ⟨.normal, a₁, w₁, hq, .head hin stepR_block (hs.trans (.one (fenced_calm hF hr rfl) stepR_inBlock))⟩
  | exit i =>
    obtain ⟨rfl, hq⟩ := hq
    exact ⟨.normal, a₁, w₁, hq, .head hin stepR_block (harr.1 k (by simp [exitTo]))⟩
  | panic ch =>
    obtain ⟨todo, hs⟩ := harr
    exact ⟨.panic ch, a₁, w₁, hq, todo, .head hin stepR_block hs⟩
  | goto l => exact hq.elim
  | ret => exact hq.elim
  | outgrown => exact hq.elim

set_option maxHeartbeats 2000000 in
theorem pend1_inP (l b : Nat) (S : List Nat) (L : List Nat) (J Jx : List Nat → World → Prop) (Jp : List PanicEntry → List Nat → World → Prop)
    (hY : ∀ pre x W, J pre W → pre ++ [x] <+: L → YieldAt Fence.wide (8 - 1) Try.prog l (encN x) W fun r W' =>
      (r = .returned (.bool true) ∧ J (pre ++ [x]) W' ∧ KpP S W W') ∨ (r = .returned (.bool false) ∧ Jx (pre ++ [x]) W') ∨ (∃ chain, r = .panicked chain ∧ Jp chain (pre ++ [x]) W'))
    (W : World) (hL : Av W b S L) (h0 : J [] W) :
    CallsIn Fence.wide 8 Try.prog 43 #[.func (.yield l) #[] #[], .pointer (some ⟨b, 0, none⟩)] W fun r W' => ((∃ v, r = .returned v) ∧
      ((∃ ys, ys = L ∧ J ys W') ∨ (∃ pre, pre <+: L ∧ Jx pre W'))) ∨ ∃ chain pre, r = .panicked chain ∧ pre <+: L ∧ Jp chain pre W' := by
  refine callsIn_of_wp Try.func43 rfl trivial ?_ rfl
  simp only [Try.ntmps43, List.size_toArray, List.length_cons, List.length_nil, Nat.reduceAdd, Nat.reduceSub, Array.replicate_succ, Array.replicate_zero, List.push_toArray, List.append_toArray, List.nil_append, List.cons_append]
  obtain ⟨p, c, k1, r1, s1⟩ := hL.ex
  obtain ⟨len, hlen⟩ : ∃ len, L.length = len := ⟨_, rfl⟩
  have hreach := hL.reach
  have HR : Hid (∀ W', KpP S W W' → ∀ (j x : Nat), L[j]? = some x → ∃ G, p = some ⟨G, 0, none⟩ ∧ W'.cell? ⟨G, j, none⟩ = some (.int .i64 (x : Int))) := fun W' hk j x hx => by
    obtain ⟨G, rfl, hc⟩ := r1 j x hx
    exact ⟨G, rfl, by rw [hk.cell (s1 G 0 rfl)]; exact hc⟩
  rw [hlen] at hreach k1
  have HL : Hid (L.length = len) := hlen
  have HY : Hid _ := hY
  have hbx : W.cell? ⟨b, 0, none⟩ = some (.slice p len c) := k1.cell 0
  clear hlen hY hL k1 r1 s1
  gi_wp2
  gi_loopw [7] (fun i wr => ∃ k : Nat, k ≤ len ∧ i = .int .i64 k ∧ J (L.take k) wr ∧ KpP S W wr) (fun i _ => len - (intOf i).toNat)
  case atStart => exact ⟨0, Nat.zero_le _, rfl, h0, KpP.refl _ _⟩
  case round =>
    obtain ⟨k, hk, rfl, hJs, hK⟩ := hrel
    by_cases hlt : k < len
    · have hkL : k < L.length := by rw [HL.out]; exact hlt
      obtain ⟨x, hx⟩ : ∃ x, L[k]? = some x := ⟨_, List.getElem?_eq_getElem hkL⟩
      have hli : (k : Int) < (len : Int) := by omega
      have hk0 : (0 : Int) ≤ (k : Int) := by omega
      obtain ⟨G, rfl, z0⟩ := HR.out wr hK k x hx
      have HT : Hid (L.take (k + 1) = L.take k ++ [x]) := take_snoc hx
      obtain ⟨fn, tmps, assign, body, hy, hR⟩ := HY.out (L.take k) x wr hJs (by rw [← HT.out]; exact List.take_prefix _ _)
      simp only [encN] at hy
      clear hx
      gi_wp2
      refine hR.mono ?_
      rintro e W4 (⟨rfl, hJ4, hk4⟩ | ⟨rfl, hJx4⟩ | ⟨chain, rfl, hJp4⟩)
      · gi_wp2
        go_roundw
        case rel => exact ⟨k + 1, by omega, by go_num, by rw [HT.out]; exact hJ4, hK.t hk4⟩
        case measure => simp [intOf]; omega
      · gi_wp2
        refine bodyPost_ret (results_none rfl _ _ _) rfl ?_
        exact .inl ⟨⟨_, rfl⟩, .inr ⟨_, by rw [← HT.out]; exact List.take_prefix _ _, hJx4⟩⟩
      · refine ⟨rfl, ?_⟩
        exact .inr ⟨chain, _, rfl, by rw [← HT.out]; exact List.take_prefix _ _, hJp4⟩
    · obtain rfl : k = len := by omega
      gi_wp2
      go_end0
      refine .inl ⟨⟨_, rfl⟩, .inl ⟨_, rfl, ?_⟩⟩
      rw [List.take_of_length_le (by rw [HL.out]; exact Nat.le_refl _)] at hJs
      exact hJs

theorem pend1_stopsP {w : World} {b : Nat} {S : List Nat} {L : List Nat} (hL : Av w b S L) :
    SeqStopsP 8 Try.prog 43 #[.pointer (some ⟨b, 0, none⟩)] encN (KpP S) (fun ys => ys = L) (fun pre => pre <+: L) w := fun l J Jx Jp W hW hY h0 =>
  pend1_inP l b S L J Jx Jp hY W (hL.kp (KpP.of_below hW hL.lt)) h0

/-- Between the rounds. -/
structure Tk (w W : World) (B0 : Nat) (q : Option Addr) (m c : Nat) (L pre : List Nat) : Prop where
  b0 : Boxed W w.heap.size 36 (.slice q m c)
  b1 : Boxed W (w.heap.size + 1) 4 (.bool false)
  b2 : Boxed W (w.heap.size + 1 + 1) 3 (.int .i64 (pre.length : Int))
  below : Below w.heap.size w W
  pf : pre <+: L
  sz : B0 ≤ W.heap.size

theorem Tk.abides {w W W' : World} {B0 : Nat} {q : Option Addr} {m c : Nat} {L pre : List Nat} {row : Option Nat} (h : Tk w W B0 q m c L pre) (hm : w.heap.size ≤ B0) (hg : W.grownBy W' row) (hr : ∀ r, row = some r → B0 ≤ r ∧ ∃ o : Obj, W.heap[r]? = some o ∧ o.isCells = false) : Tk w W' B0 q m c L pre where
  b0 := boxed_from h.b0 hg hr
  b1 := boxed_from h.b1 hg hr
  b2 := boxed_from h.b2 hg hr
  below := h.below.grown hg h.below.size (fun k hk => by have := (hr k hk).1; omega)
  pf := h.pf
  sz := Nat.le_trans h.sz hg.size

theorem pre_last {L pre : List Nat} {x : Nat} (h : pre ++ [x] <+: L) : L[pre.length]? = some x := by
  obtain ⟨t, rfl⟩ := h
  simp

set_option maxHeartbeats 4000000 in
theorem told_any {w : World} {b : Nat} {S : List Nat} {L : List Nat} (hF : Av w b S L) {q : Option Addr} {m c : Nat} (hm : L.length = m) (hx : ∀ (j x : Nat), L[j]? = some x → ∃ G, q = some ⟨G, 0, none⟩ ∧ G < w.heap.size ∧ w.cell? ⟨G, j, none⟩ = some (.int .i64 (x : Int))) :
    Calls Try.prog 25 #[.func (.func 43) #[] #[.pointer (some ⟨b, 0, none⟩)], .slice q m c] w fun r w' => r = .returned (.bool true) ∧ Below w.heap.size w w' := by
  refine calls_of_wpAt Try.func25 rfl ?_
  simp only [Try.ntmps25, List.size_toArray, List.length_cons, List.length_nil, Nat.reduceAdd, Nat.reduceSub, Array.replicate_succ, Array.replicate_zero, List.push_toArray, List.append_toArray, List.nil_append, List.cons_append]
  have HX : Hid (∀ W, Below w.heap.size w W → ∀ (j x : Nat), L[j]? = some x → ∃ G, q = some ⟨G, 0, none⟩ ∧ W.cell? ⟨G, j, none⟩ = some (.int .i64 (x : Int))) := fun W hb j x hj => by
    obtain ⟨G, rfl, hG, hc⟩ := hx j x hj
    exact ⟨G, rfl, by rw [← hc]; exact hb.cell (p := ⟨G, j, none⟩) hG⟩
  have HFM : Hid (Av w b S L ∧ L.length = m) := ⟨hF, hm⟩
  have HSL : Hid (∀ b ∈ S, b < w.heap.size) := hF.lt
  have hreach := hF.reach
  rw [hm] at hreach
  clear hF hx hm
  refine wpAt_seq_k fun K hK => wpAt_of_wp ?_
  go_wp2
  refine wpAt_seq_k fun K hK => wpAt_of_wp ?_
  go_wp2
  refine wpAt_seq_k fun K hK => ?_
  have HK : Hid _ := hK
  clear hK
  refine wpAt_seq_k fun K2 hK2 => wpAt_of_wp ?_
  go_wp2
  obtain ⟨w3, hw3⟩ : ∃ w3, ((w.alloc (.cells #[.slice q m c] 36)).alloc (.cells #[.bool false] 4)).alloc (.cells #[.int .i64 0] 3) = w3 := ⟨_, rfl⟩
  have HT3 : Hid (Tk w w3 w3.heap.size q m c L [] ∧ w3.heap.size = w.heap.size + 1 + 1 + 1) := by
    rw [← hw3]
    have k1 := Bk.new (w.alloc (.cells #[.slice q m c] 36)) 4 #[.bool false]
    have k2 := Bk.new ((w.alloc (.cells #[.slice q m c] 36)).alloc (.cells #[.bool false] 4)) 3 #[.int .i64 0]
    simp only [World.size_alloc] at k1 k2
    exact ⟨⟨((Bk.new w _ _).alloc _).alloc _, k1.alloc _, k2, (((Below.refl _ w).alloc (Nat.le_refl _) _).alloc (by simp) _).alloc (by simp; omega) _, List.nil_prefix, Nat.le_refl _⟩, by simp⟩
  rw [hw3]
  clear hw3
  have hws := HT3.out.2
  have hF3 : Av w3 b S L := HFM.out.1.kp (KpP.of_below HT3.out.1.below HSL.out)
  refine wpAt_blockE ?_
  refine wpAt_boxed ?A Try.func25 (gf := 43) (lb := #[.pointer (some ⟨b, 0, none⟩)]) rfl (enters_of Try.func43 (by kernel_rfl) rfl)
    (pend1_stopsP hF3) KpP.t (fun W l o o' hl _ _ _ k hk => World.putObj_heap_other (fun e => by
      subst e
      have := HSL.out _ hk
      omega)) (Below.refl _ _) (fun _ => rfl)
    (fun pre W => Tk w W w3.heap.size q m c L pre)
    (fun c xs W => False)
    (fun _ _ _ => False)
    (fun s A B' row hs hg hr => hs.abides (by omega) hg hr)
    (fun cc s A B row hs hg hr => hs.elim)
    HT3.out.1
    (fun x bx W => True)
    (fun x bx _ A B' row hs hg hr => trivial)
    ?assign ?body ?done (fun D cc pre W _ _ h _ => h.elim) (fun D chain pre W _ _ h _ => h.elim)
  case assign =>
    rintro l pre x W K hL hK
    obtain ⟨bx, hbx⟩ : ∃ bx : Nat, bx = 0 := ⟨_, rfl⟩
    gi_wp2
    exact hK bx W (KeepsFrom.refl _ _) (KpP.refl _ _) hL trivial
  case body =>
    rintro l pre x bx W hl hT _ hpre
    have c0 := hT.b0.cell
    have c2 := hT.b2.cell
    have f2 := hT.b2.frozen
    obtain ⟨G, rfl, hc⟩ := HX.out W hT.below _ _ (pre_last hpre)
    have hlen : pre.length < m := by
      have := hpre.length_le
      rw [HFM.out.2] at this
      simp at this
      omega
    obtain ⟨N1, hN1⟩ : ∃ N1, pre.length = N1 := ⟨_, rfl⟩
    rw [hN1] at c2 hc hlen
    have HT : Hid (Tk w W w3.heap.size (some ⟨G, 0, none⟩) m c L pre ∧ pre.length = N1) := ⟨hT, hN1⟩
    have hlt : (N1 : Int) < (m : Int) := by omega
    have h0N : (0 : Int) ≤ (N1 : Int) := by omega
    have hmN : ¬ m ≤ N1 := by omega
    have hmNi : ¬ (m : Int) ≤ (N1 : Int) := by omega
    have hw : wrap64 ((N1 : Int) + 1) = (N1 : Int) + 1 := by unfold wrap64; omega
    have HE : Hid (KeepsFrom w3.heap.size W (W.setCell ⟨w.heap.size + 1 + 1, 0, none⟩ (.int .i64 ((N1 : Int) + 1))) ∧ KpP S W (W.setCell ⟨w.heap.size + 1 + 1, 0, none⟩ (.int .i64 ((N1 : Int) + 1))) ∧ Tk w (W.setCell ⟨w.heap.size + 1 + 1, 0, none⟩ (.int .i64 ((N1 : Int) + 1))) w3.heap.size (some ⟨G, 0, none⟩) m c L (pre ++ [x])) := by
      have tp : Tn [w.heap.size + 1 + 1] W (W.setCell ⟨w.heap.size + 1 + 1, 0, none⟩ (.int .i64 ((N1 : Int) + 1))) := (Tn.refl _ W).setCell (.inl (by simp)) _
      refine ⟨(keeps_tn tp (fun y hy => ?_)).from _, KpP.of_tn tp (fun y hy => ?_), ⟨hT.b0.other (by omega) _, hT.b1.other (by omega) _, ?_, hT.below.trans (tp.below hT.below.size (by simp; omega)), hpre, Nat.le_trans hT.sz tp.size⟩⟩
      · simp at hy
        subst hy
        exact ⟨_, hT.b2, rfl⟩
      · have h1 := HSL.out y hy
        have h2 := hT.below.size
        simp
        omega
      · have := hT.b2.set (.int .i64 ((N1 : Int) + 1))
        rw [List.length_append, hN1, show ((N1 + [x].length : Nat) : Int) = (N1 : Int) + 1 by simp]
        exact this
    clear hT hN1 HK HX hpre
    gi_wp2
    have hE := HE.out
    rw [hws] at hE
    exact hE
  case done =>
    rintro D zs W hD rfl hT hK
    refine HK.out _ _ (wpAt_of_wp ?_)
    have HT : Hid (Tk w W w3.heap.size q m c zs zs) := hT
    have c0 := hT.b0.cell
    have c2 := hT.b2.cell
    have f1 := hT.b1.frozen
    have c1 := hT.b1.cell
    have hDn : D ≠ w.heap.size + 1 := by omega
    have hD2 : w.heap.size ≤ D := by omega
    rw [HFM.out.2] at c2
    have HKD : Hid (W.heap[D]? = some (.deferred (some []))) := hK
    clear hT HK HX hK
    go_wp2
    refine ⟨by simp, .inl ⟨_, _, rfl, run_takeDeferred ((Below.heap_setCell _ _ _ _ (by simpa using hDn)).trans HKD.out), ?_⟩⟩
    refine ⟨.bool true, ?_, rfl, ?_⟩
    · have c4 := res_true (W' := W.setCell ⟨w.heap.size + 1, 0, none⟩ (.bool true)) HT.out.b1 rfl hDn
      simp [results, Try.f25, go_sem, c4]
    · exact res_below (b := w.heap.size + 1) HT.out.below (by omega) hD2 rfl rfl rfl rfl

end Go.Proofs.Ytdgphlghmjnjfaa
