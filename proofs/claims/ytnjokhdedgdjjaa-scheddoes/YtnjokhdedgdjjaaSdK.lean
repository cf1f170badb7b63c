/- Schedulers: a round. -/
import Derived.Test.YtnjokhdedgdjjaaSdJ
import Derived.Test.YtnjokhdedgdjjaaRgP
namespace Go.Proofs.Ytnjokhdedgdjjaa
open Go.RowKit Go.Maps Go.Lib Go.Shelf Go.Sort
attribute [local go_sem] Oper.semAt_some
set_option linter.unusedVariables false
set_option maxRecDepth 100000

/-- Code that ends at its end, leaves its block, or panics. -/
def blkEnd (id : Nat) (Q : Exit → Act → World → Prop) : Exit → Act → World → Prop
  | .normal, a, w => Q .normal a w
  | .exit i, a, w => i = id ∧ Q .normal a w
  | .panic ch, a, w => Q (.panic ch) a w
  | _, _, _ => False

theorem wpAt_blockE {P : Program} {f : FuncId} {Q : Exit → Act → World → Prop} {a : Act} {w : World} {id : Nat} {c : Code} (h : wpAt f P c (blkEnd id Q) a w) : wpAt f P (Code.block id c) Q a w := by
  intro b k cs hro hb
  have hr : Fence.wide.room (cs.length + 1 + 0) := room_wide _
  have hF : Fence.wide.fn b.fn := trivial
  have hin : (lone (b.atR a (.code (.block id c) :: k)) cs w).fenced P Fence.wide := fenced_calm hF hr rfl
  obtain ⟨e, a₁, w₁, hq, harr⟩ := h b (.inBlock id :: k) cs hro hb
  cases e with
  | normal =>
    have hs : StepsIn (Machine.fenced P Fence.wide) P _ (lone (b.atR a₁ (.inBlock id :: k)) cs w₁) := harr
    exact ⟨.normal, a₁, w₁, hq, .head hin stepR_block (hs.trans (.one (fenced_calm hF hr rfl) stepR_inBlock))⟩
  | exit i =>
    obtain ⟨rfl, hq⟩ := hq
    exact ⟨.normal, a₁, w₁, hq, .head hin stepR_block (harr.1 k (by simp [exitTo]))⟩
  | panic ch =>
    obtain ⟨todo, hs⟩ := harr
    exact ⟨.panic ch, a₁, w₁, hq, todo, .head hin stepR_block hs⟩
  | goto l => exact hq.elim
  | ret => exact hq.elim
  | outgrown => exact hq.elim

set_option maxHeartbeats 2000000 in
theorem alive1_inP (l b : Nat) (S : List Nat) (L : List Nat) (J Jx : List Nat → World → Prop) (Jp : List PanicEntry → List Nat → World → Prop)
    (hY : ∀ pre x W, J pre W → pre ++ [x] <+: L → YieldAt Fence.wide (8 - 1) Try.prog l (encN x) W fun r W' =>
      (r = .returned (.bool true) ∧ J (pre ++ [x]) W' ∧ KpP S W W') ∨ (r = .returned (.bool false) ∧ Jx (pre ++ [x]) W') ∨ (∃ chain, r = .panicked chain ∧ Jp chain (pre ++ [x]) W'))
    (W : World) (hL : Av W b S L) (h0 : J [] W) :
    CallsIn Fence.wide 8 Try.prog 43 #[.func (.yield l) #[] #[], .pointer (some ⟨b, 0, none⟩)] W fun r W' => ((∃ v, r = .returned v) ∧
      ((∃ ys, ys = L ∧ J ys W') ∨ (∃ pre, pre <+: L ∧ Jx pre W'))) ∨ ∃ chain pre, r = .panicked chain ∧ pre <+: L ∧ Jp chain pre W' := by
  refine callsIn_of_wp Try.func43 rfl trivial ?_ rfl
  simp only [Try.ntmps43, List.size_toArray, List.length_cons, List.length_nil, Nat.reduceAdd, Nat.reduceSub, Array.replicate_succ, Array.replicate_zero, List.push_toArray, List.append_toArray, List.nil_append, List.cons_append]
  obtain ⟨p, c, k1, r1, s1⟩ := hL.ex
  obtain ⟨len, hlen⟩ : ∃ len, L.length = len := ⟨_, rfl⟩
  have hreach := hL.reach
  have HR : Hid (∀ W', KpP S W W' → ∀ (j x : Nat), L[j]? = some x → ∃ G, p = some ⟨G, 0, none⟩ ∧ W'.cell? ⟨G, j, none⟩ = some (.int .i64 (x : Int))) := fun W' hk j x hx => by
    obtain ⟨G, rfl, hc⟩ := r1 j x hx
    exact ⟨G, rfl, by rw [hk.cell (s1 G 0 rfl)]; exact hc⟩
  rw [hlen] at hreach k1
  have HL : Hid (L.length = len) := hlen
  have HY : Hid _ := hY
  have hbx : W.cell? ⟨b, 0, none⟩ = some (.slice p len c) := k1.cell 0
  clear hlen hY hL k1 r1 s1
  gi_wp2
  gi_loopw [7] (fun i wr => ∃ k : Nat, k ≤ len ∧ i = .int .i64 k ∧ J (L.take k) wr ∧ KpP S W wr) (fun i _ => len - (intOf i).toNat)
  case atStart => exact ⟨0, Nat.zero_le _, rfl, h0, KpP.refl _ _⟩
  case round =>
    obtain ⟨k, hk, rfl, hJs, hK⟩ := hrel
    by_cases hlt : k < len
    · have hkL : k < L.length := by rw [HL.out]; exact hlt
      obtain ⟨x, hx⟩ : ∃ x, L[k]? = some x := ⟨_, List.getElem?_eq_getElem hkL⟩
      have hli : (k : Int) < (len : Int) := by omega
      have hk0 : (0 : Int) ≤ (k : Int) := by omega
      obtain ⟨G, rfl, z0⟩ := HR.out wr hK k x hx
      have HT : Hid (L.take (k + 1) = L.take k ++ [x]) := take_snoc hx
      obtain ⟨fn, tmps, assign, body, hy, hR⟩ := HY.out (L.take k) x wr hJs (by rw [← HT.out]; exact List.take_prefix _ _)
      simp only [encN] at hy
      clear hx
      gi_wp2
      refine hR.mono ?_
      rintro e W4 (⟨rfl, hJ4, hk4⟩ | ⟨rfl, hJx4⟩ | ⟨chain, rfl, hJp4⟩)
      · gi_wp2
        go_roundw
        case rel => exact ⟨k + 1, by omega, by go_num, by rw [HT.out]; exact hJ4, hK.t hk4⟩
        case measure => simp [intOf]; omega
      · gi_wp2
        refine bodyPost_ret (results_none rfl _ _ _) rfl ?_
        exact .inl ⟨⟨_, rfl⟩, .inr ⟨_, by rw [← HT.out]; exact List.take_prefix _ _, hJx4⟩⟩
      · refine ⟨rfl, ?_⟩
        exact .inr ⟨chain, _, rfl, by rw [← HT.out]; exact List.take_prefix _ _, hJp4⟩
    · obtain rfl : k = len := by omega
      gi_wp2
      go_end0
      refine .inl ⟨⟨_, rfl⟩, .inl ⟨_, rfl, ?_⟩⟩
      rw [List.take_of_length_le (by rw [HL.out]; exact Nat.le_refl _)] at hJs
      exact hJs

theorem alive1_stopsP {w : World} {b : Nat} {S : List Nat} {L : List Nat} (hL : Av w b S L) :
    SeqStopsP 8 Try.prog 43 #[.pointer (some ⟨b, 0, none⟩)] encN (KpP S) (fun ys => ys = L) (fun pre => pre <+: L) w := fun l J Jx Jp W hW hY h0 =>
  alive1_inP l b S L J Jx Jp hY W (hL.kp (KpP.of_below hW hL.lt)) h0

section
variable {w W W' : World} {N B0 mm : Nat} {g : Ge} {s : Sc} {pre : List Nat}

/-- Between the rounds' steps. -/
structure Rn (w W : World) (B0 N : Nat) (g : Ge) (s : Sc) (mm : Nat) (pre : List Nat) : Prop where
  b0 : Boxed W w.heap.size 23 (.pointer (some ⟨g.S, 0, none⟩))
  b1 : Boxed W (w.heap.size + 1) 3 (.int .i64 (mm : Int))
  b2 : Boxed W (w.heap.size + 1 + 1) 3 (.int .i64 (pre.length : Int))
  sd : ∃ g', Sd W N g' (s.advs pre) ∧ Aft w W g g' s (s.advs pre) ∧ (∀ x ∈ ft g' (s.advs pre), x < w.heap.size ∨ B0 ≤ x) ∧ (∀ b ∈ g'.bs, b < w.heap.size ∨ B0 ≤ b)
  gs : g.M < w.heap.size ∧ g.C < w.heap.size ∧ g.X < w.heap.size
  pf : pre <+: s.al
  le : pre.length ≤ mm
  sz : B0 ≤ W.heap.size

theorem Rn.abides {row : Option Nat} (h : Rn w W B0 N g s mm pre) (hB : w.heap.size ≤ B0) (hg : W.grownBy W' row) (hr : ∀ r, row = some r → B0 ≤ r ∧ ∃ o : Obj, W.heap[r]? = some o ∧ o.isCells = false) : Rn w W' B0 N g s mm pre where
  b0 := boxed_from h.b0 hg hr
  b1 := boxed_from h.b1 hg hr
  b2 := boxed_from h.b2 hg hr
  sd := by
    obtain ⟨g', h1, h2, h3, h4⟩ := h.sd
    refine ⟨g', h1.abides (B := B0) (by have := h.gs.1; rw [h2.same.2.1]; omega) (by have := h.gs.2.1; rw [h2.same.2.2.2.1]; omega) hg hr, ⟨?_, h2.same, fun x hx => h2.sub x hx, h2.bs⟩, h3, h4⟩
    refine h2.tn.grown hg fun k hk => ?_
    have := (hr k hk).1
    exact .inr (by omega)
  gs := h.gs
  pf := h.pf
  le := h.le
  sz := Nat.le_trans h.sz hg.size

theorem Sd.keeps {B : Nat} (h : Sd W N g s) (hM : g.M < B) (hC : g.C < B) (t : Tn (ft g s) W W') : KeepsFrom B W W' := by
  have hcell : ∀ x ∈ ft g s, x < B ∨ ∃ t cs, Bk W x t cs := by
    refine ft_sub (P := fun x => x < B ∨ ∃ t cs, Bk W x t cs) (.inr ⟨_, _, h.blk⟩) (.inl hM) (.inl hC) (fun k hk => ?_) (fun k hk => ?_) (fun f hf => .inr ⟨_, _, h.fb f hf⟩) (fun a ha => ?_)
    · obtain ⟨cs, hc⟩ := row_bk h.al hk
      exact .inr ⟨_, _, hc⟩
    · obtain ⟨cs, hc⟩ := row_bk h.dn hk
      exact .inr ⟨_, _, hc⟩
    · obtain ⟨b, i, cs, rfl, hb, hc⟩ := h.cn a ha
      exact .inr ⟨_, _, hb⟩
  refine ⟨t.size, fun k o hk ho hc => (t.block k (Array.getElem?_eq_some_iff.1 ho).1 (fun hm => ?_)).trans ho⟩
  rcases hcell k hm with h1 | ⟨t, cs, h1⟩
  · omega
  · rw [show W.heap[k]? = _ from h1] at ho
    cases ho
    cases hc
end
end Go.Proofs.Ytnjokhdedgdjjaa
