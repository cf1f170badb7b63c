/- Schedulers: Alive, and what it hands back tells. -/
import Derived.Test.YtnjokhdedgdjjaaItG
import Derived.Test.YtnjokhdedgdjjaaSdF
namespace Go.Proofs.Ytnjokhdedgdjjaa
open Go.RowKit Go.Maps Go.Lib Go.Shelf Go.Sort
attribute [local go_sem] Oper.semAt_some
set_option linter.unusedVariables false
set_option maxRecDepth 100000

section
variable {w w' : World} {N : Nat} {g : Ge} {s : Sc}
theorem Sd.lt (h : Sd w N g s) : ∀ x ∈ ft g s, x < w.heap.size := by
  refine ft_sub h.blk.lt h.mp.lt h.bx.ch.lt (fun k hk => row_block h.al k hk) (fun k hk => row_block h.dn k hk) (fun f hf => (h.fb f hf).lt) (fun a ha => ?_)
  obtain ⟨b, i, cs, rfl, hb, hc⟩ := h.cn a ha
  exact hb.lt

/-- A turn of a block that is no cells and lies beyond leaves it as it is. -/
theorem Sd.abides {B : Nat} {row : Option Nat} (h : Sd w N g s) (hM : g.M < B) (hC : g.C < B) (hg : w.grownBy w' row) (hr : ∀ r, row = some r → B ≤ r ∧ ∃ o : Obj, w.heap[r]? = some o ∧ o.isCells = false) : Sd w' N g s := by
  have hcell : ∀ {b : Nat} {t : TypeId} {cs : Array Value}, Bk w b t cs → b ∉ row.toList := by
    intro b t cs hb hm
    obtain ⟨_, o, ho, hc⟩ := hr b (opt_toList.1 hm)
    rw [show w.heap[b]? = _ from hb] at ho
    cases ho
    cases hc
  refine h.tn (grown_tn hg) ?_ (hcell h.bx.blk) (fun b hb => ?_)
  · refine ft_sub (hcell h.blk) (fun hm => ?_) (fun hm => ?_) (fun k hk => ?_) (fun k hk => ?_) (fun f hf => hcell (h.fb f hf)) (fun a ha => ?_)
    · have := (hr _ (opt_toList.1 hm)).1; omega
    · have := (hr _ (opt_toList.1 hm)).1; omega
    · obtain ⟨cs, hc⟩ := row_bk h.al hk
      exact hcell hc
    · obtain ⟨cs, hc⟩ := row_bk h.dn hk
      exact hcell hc
    · obtain ⟨b, i, cs, rfl, hb, hc⟩ := h.cn a ha
      exact hcell hb
  · obtain ⟨x, hx⟩ := h.bx.mem hb
    exact hcell hx
end

theorem clone_any {w : World} {v : Value} {l : List Nat} (h : w.ownsRow 0 3 1 v l.length (ints l)) (hb : l.length ≤ 10000000000000) :
    Calls Try.prog 42 #[v] w fun e w' => ∃ v', e = .returned v' ∧ w'.ownsRow w.heap.size 3 1 v' l.length (ints l) ∧ Below w.heap.size w w' := by
  rcases h.2 with ⟨hv, hn⟩ | ⟨G, cap, cur, hv, hbase, hbk, h1, h2, h3, h4⟩
  · subst hv
    have hl : l = [] := List.eq_nil_of_length_eq_zero hn
    subst hl
    refine Calls.mono (Any.slices_Clone_int_nil Try.sdClone 0 0 w) ?_
    rintro e w' ⟨rfl, rfl⟩
    exact ⟨_, rfl, World.ownsRow_nil _ _ _ _, Below.refl _ _⟩
  · subst hv
    have hc : ∀ j, j < (l.map fun (n : Nat) => (n : Int)).length → w.cell? ⟨G, 0 + j, none⟩ = some (.int .i64 ((l.map fun (n : Nat) => (n : Int)).getD j 0)) := by
      intro j hj
      rw [Nat.zero_add, h.cellAt j (by simpa using hj), ints_eq, List.getElem?_map, List.getElem?_eq_getElem hj]
      simp [List.getD, List.getElem?_eq_getElem (show j < l.length by simpa using hj)]
    have := Any.slices_Clone_int Try.sdClone G 0 l.length cap (l.map fun (n : Nat) => (n : Int)) w (by simp) (by omega) hc
    rw [List.take_of_length_le (by simp), ← ints_eq] at this
    refine Calls.mono this ?_
    rintro e w' ⟨v', rfl, h1, h2, h3⟩
    exact ⟨v', rfl, h1, h3⟩

/-- A function value that goes through numbers: its box, and the blocks that it reads. -/
structure Av (W : World) (b : Nat) (S : List Nat) (L : List Nat) : Prop where
  ex : ∃ p c, Bk W b 36 #[.slice p L.length c] ∧ (∀ (j x : Nat), L[j]? = some x → ∃ G, p = some ⟨G, 0, none⟩ ∧ W.cell? ⟨G, j, none⟩ = some (.int .i64 (x : Int))) ∧ (∀ G o, p = some ⟨G, o, none⟩ → G ∈ S)
  h1 : b ∈ S
  lt : ∀ b ∈ S, b < W.heap.size
  reach : L.length ≤ 10000000000000

theorem KpP.cell {S : List Nat} {W W' : World} (h : KpP S W W') {b o : Nat} (hb : b ∈ S) : W'.cell? ⟨b, o, none⟩ = W.cell? ⟨b, o, none⟩ := by
  simp only [World.cell?, h b hb]

theorem Av.kp {W W' : World} {b : Nat} {S : List Nat} {L : List Nat} (h : Av W b S L) (hk : KpP S W W') : Av W' b S L := by
  obtain ⟨p, c, k1, r1, s1⟩ := h.ex
  refine ⟨⟨p, c, hk.bk k1 h.h1, fun j x hx => ?_, s1⟩, h.h1, hk.lt h.lt, h.reach⟩
  obtain ⟨G, rfl, hc⟩ := r1 j x hx
  exact ⟨G, rfl, by rw [hk.cell (s1 G 0 rfl)]; exact hc⟩

abbrev encN (x : Nat) : Array Value := #[.int .i64 (x : Int)]

set_option maxHeartbeats 2000000 in
theorem alive1_in (n : Nat) (hn : 1 ≤ n) (l b : Nat) (S : List Nat) (L : List Nat) (J Jx : List Nat → World → Prop)
    (hY : ∀ pre x W, J pre W → pre.length < L.length → YieldAt Fence.wide (n - 1) Try.prog l (encN x) W fun r W' =>
      (r = .returned (.bool true) ∧ J (pre ++ [x]) W' ∧ KpP S W W') ∨ (r = .returned (.bool false) ∧ Jx (pre ++ [x]) W'))
    (W : World) (hL : Av W b S L) (h0 : J [] W) :
    CallsIn Fence.wide n Try.prog 43 #[.func (.yield l) #[] #[], .pointer (some ⟨b, 0, none⟩)] W fun r W' => (∃ v, r = .returned v) ∧
      ((∃ ys, ys = L ∧ J ys W') ∨ (∃ pre, pre <+: L ∧ Jx pre W')) := by
  refine callsIn_of_wp Try.func43 rfl trivial ?_ rfl
  simp only [Try.ntmps43, List.size_toArray, List.length_cons, List.length_nil, Nat.reduceAdd, Nat.reduceSub, Array.replicate_succ, Array.replicate_zero, List.push_toArray, List.append_toArray, List.nil_append, List.cons_append]
  obtain ⟨p, c, k1, r1, s1⟩ := hL.ex
  obtain ⟨len, hlen⟩ : ∃ len, L.length = len := ⟨_, rfl⟩
  have hreach := hL.reach
  have HR : Hid (∀ W', KpP S W W' → ∀ (j x : Nat), L[j]? = some x → ∃ G, p = some ⟨G, 0, none⟩ ∧ W'.cell? ⟨G, j, none⟩ = some (.int .i64 (x : Int))) := fun W' hk j x hx => by
    obtain ⟨G, rfl, hc⟩ := r1 j x hx
    exact ⟨G, rfl, by rw [hk.cell (s1 G 0 rfl)]; exact hc⟩
  rw [hlen] at hY hreach k1
  have HL : Hid (L.length = len) := hlen
  have HY : Hid _ := hY
  have hbx : W.cell? ⟨b, 0, none⟩ = some (.slice p len c) := k1.cell 0
  clear hlen hY hL k1 r1 s1
  gi_wp2
  gi_loopw [7] (fun i wr => ∃ k : Nat, k ≤ len ∧ i = .int .i64 k ∧ J (L.take k) wr ∧ KpP S W wr) (fun i _ => len - (intOf i).toNat)
  case atStart => exact ⟨0, Nat.zero_le _, rfl, h0, KpP.refl _ _⟩
  case round =>
    obtain ⟨k, hk, rfl, hJs, hK⟩ := hrel
    by_cases hlt : k < len
    · have hkL : k < L.length := by rw [HL.out]; exact hlt
      obtain ⟨x, hx⟩ : ∃ x, L[k]? = some x := ⟨_, List.getElem?_eq_getElem hkL⟩
      have hli : (k : Int) < (len : Int) := by omega
      have hk0 : (0 : Int) ≤ (k : Int) := by omega
      obtain ⟨G, rfl, z0⟩ := HR.out wr hK k x hx
      have HT : Hid (L.take (k + 1) = L.take k ++ [x]) := take_snoc hx
      obtain ⟨fn, tmps, assign, body, hy, hR⟩ := HY.out (L.take k) x wr hJs (by rw [List.length_take]; omega)
      simp only [encN] at hy
      clear hx
      gi_wp2
      refine hR.mono ?_
      rintro e W4 (⟨rfl, hJ4, hk4⟩ | ⟨rfl, hJx4⟩)
      · gi_wp2
        go_roundw
        case rel => exact ⟨k + 1, by omega, by go_num, by rw [HT.out]; exact hJ4, hK.t hk4⟩
        case measure => simp [intOf]; omega
      · gi_wp2
        refine bodyPost_ret (results_none rfl _ _ _) rfl ?_
        exact ⟨⟨_, rfl⟩, .inr ⟨_, by rw [← HT.out]; exact List.take_prefix _ _, hJx4⟩⟩
    · obtain rfl : k = len := by omega
      gi_wp2
      go_end0
      refine ⟨⟨_, rfl⟩, .inl ⟨_, rfl, ?_⟩⟩
      rw [List.take_of_length_le (by rw [HL.out]; exact Nat.le_refl _)] at hJs
      exact hJs

theorem alive1_stops (n : Nat) (hn : 1 ≤ n) {w : World} {b : Nat} {S : List Nat} {L : List Nat} (hL : Av w b S L) :
    SeqStopsK Fence.wide n Try.prog 43 #[.pointer (some ⟨b, 0, none⟩)] encN (KpP S) (fun ys => ys = L) (fun pre => pre <+: L) L.length w := fun l J Jx W hW hJ _ hY h0 =>
  alive1_in n hn l b S L J Jx hY W (hL.kp (KpP.of_below hW hL.lt)) h0

theorem alive_any {w : World} {N : Nat} {g : Ge} {s : Sc} (h : Sd w N g s) (hl : s.al.length ≤ 10000000000000) :
    Calls Try.prog 25 #[.pointer (some ⟨g.S, 0, none⟩)] w fun e w' => ∃ b S, e = .returned (.func (.func 43) #[] #[.pointer (some ⟨b, 0, none⟩)]) ∧ Av w' b S s.al ∧ (∀ x ∈ S, w.heap.size ≤ x) ∧ Below w.heap.size w w' := by
  have hmf : ∀ (fn : Fn) (first cap : Array Value) (w : World), (Instr.makeFunc fn first cap).run Try.prog w = .ok (.func fn first cap) w := fun _ _ _ _ => rfl
  obtain ⟨w0, hw0⟩ : ∃ w0, w.alloc (.cells #[.slice none 0 0] 36) = w0 := ⟨_, rfl⟩
  have hb0 : Below w.heap.size w w0 := hw0 ▸ (Below.refl _ w).alloc (Nat.le_refl _) _
  have h0 : Sd w0 N g s := h.below hb0
  have k0 : Bk w0 w.heap.size 36 #[.slice none 0 0] := hw0 ▸ Bk.new w _ _
  have c1 := h0.c1
  have c2 := h0.c2
  have HH : Hid (Sd w0 N g s ∧ Below w.heap.size w w0 ∧ Bk w0 w.heap.size 36 #[.slice none 0 0] ∧ s.al.length ≤ 10000000000000) := ⟨h0, hb0, k0, hl⟩
  clear h h0 hb0 k0 hl
  go_enter Try.func25, Try.ntmps25
  go_wp2_with fail
  refine (made_any c2).mono ?_
  rintro e w1 ⟨rfl, rfl⟩
  go_wp2_with fail
  refine (clone_any HH.out.1.al HH.out.2.2.2).mono ?_
  rintro e w2 ⟨v', rfl, hr, hb⟩
  have k2 : Bk w2 w.heap.size 36 #[.slice none 0 0] := HH.out.2.2.1.below hb HH.out.2.2.1.lt
  have f0 := k2.frozen 0
  have e0 : w2.cell? ⟨w.heap.size, 0, none⟩ = some (.slice none 0 0) := k2.cell 0
  obtain ⟨p, c, hvf, hcap⟩ := row_form hr
  have HE : Hid (∃ S, Av (w2.setCell ⟨w.heap.size, 0, none⟩ v') w.heap.size S s.al ∧ (∀ x ∈ S, w.heap.size ≤ x) ∧ Below w.heap.size w (w2.setCell ⟨w.heap.size, 0, none⟩ v')) := by
    have hlt : w.heap.size < w1.heap.size := HH.out.2.2.1.lt
    have hbb : Below w.heap.size w w2 := HH.out.2.1.trans (hb.mono HH.out.2.1.size)
    have hlt2 : w.heap.size < w2.heap.size := k2.lt
    refine ⟨w.heap.size :: v'.ownBlock.toList, ⟨⟨p, c, ?_, fun j x hx => ?_, ?_⟩, by simp, ?_, HH.out.2.2.2⟩, ?_, hbb.setCell (by simp) _⟩
    · rw [← hvf]
      exact k2.set 0 _
    · have hjl : j < s.al.length := (List.getElem?_eq_some_iff.1 hx).1
      obtain ⟨G, K, hG⟩ := row_some hr (by omega)
      rw [hG] at hr hvf
      cases hvf
      refine ⟨G, rfl, ?_⟩
      have hGl := (World.ownsRow.lt hr G rfl).1
      have hne : w.heap.size ≠ G := by omega
      have hc1 := hr.cellAt j (by omega)
      have : (w2.setCell ⟨w.heap.size, 0, none⟩ v').cell? ⟨G, j, none⟩ = w2.cell? ⟨G, j, none⟩ := by
        simp only [World.cell?, Below.heap_setCell w2 ⟨w.heap.size, 0, none⟩ v' G (fun e => hne e.symm)]
      rw [this, hc1]
      unfold ints
      rw [List.getElem?_map, hx]
      rfl
    · intro G o hp
      rw [hvf, hp]
      simp [Value.ownBlock]
    · intro x hx
      have hsz : (w2.setCell ⟨w.heap.size, 0, none⟩ v').heap.size = w2.heap.size := by simp [World.setCell]
      rw [hsz]
      rcases List.mem_cons.1 hx with rfl | hx
      · exact hlt2
      · exact (World.ownsRow.lt hr x (opt_toList.1 hx)).2
    · intro x hx
      rcases List.mem_cons.1 hx with rfl | hx
      · exact Nat.le_refl _
      · have := (World.ownsRow.lt hr x (opt_toList.1 hx)).1
        omega
  clear hr hb k2 hcap
  subst hvf
  go_wp2
  go_ret
  obtain ⟨S, H⟩ := HE.out
  exact ⟨_, S, rfl, H⟩

end Go.Proofs.Ytnjokhdedgdjjaa
