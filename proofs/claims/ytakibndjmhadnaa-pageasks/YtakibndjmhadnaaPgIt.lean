/- What From hands back tells the entries; slices.Backward. -/
import Derived.Test.YtakibndjmhadnaaItG
import Derived.Test.YtakibndjmhadnaaPgRq
import Derived.Test.YtakibndjmhadnaaPgB
namespace Go.Proofs.Ytakibndjmhadnaa
open Go.RowKit Go.Shelf Go.Sort
attribute [local go_sem] Oper.semAt_some
set_option linter.unusedVariables false
set_option maxRecDepth 100000

theorem KpP.cell {S : List Nat} {W W' : World} (h : KpP S W W') {b o : Nat} (hb : b ∈ S) : W'.cell? ⟨b, o, none⟩ = W.cell? ⟨b, o, none⟩ := by
  simp only [World.cell?, h b hb]

theorem Ens.kp {S : List Nat} {W W' : World} {p : Option Addr} {l : List En} (h : Ens W p l) (hk : KpP S W W') (hp : ∀ b o, p = some ⟨b, o, none⟩ → b ∈ S) : Ens W' p l := by
  intro hl
  obtain ⟨b, o, rfl, hc⟩ := h hl
  refine ⟨b, o, rfl, fun i g hi => ?_⟩
  have hb := hp b o rfl
  rw [hk.cell hb, hk.cell hb, hk.cell hb, hk.cell hb]
  exact hc i g hi

/-- A function value that goes through entries: its box, and the blocks that it reads. -/
structure Fm (W : World) (b : Nat) (S : List Nat) (L : List En) : Prop where
  ex : ∃ p c, Bk W b 22 #[.slice p L.length c] ∧ Ens W p L ∧ (0 < L.length → ∀ g o, p = some ⟨g, o, none⟩ → g ∈ S)
  h1 : b ∈ S
  lt : ∀ b ∈ S, b < W.heap.size
  reach : L.length ≤ 4398046511104

theorem Fm.kp {W W' : World} {b : Nat} {S : List Nat} {L : List En} (h : Fm W b S L) (hk : KpP S W W') : Fm W' b S L := by
  obtain ⟨p, c, k1, r1, s1⟩ := h.ex
  refine ⟨⟨p, c, hk.bk k1 h.h1, ?_, s1⟩, h.h1, hk.lt h.lt, h.reach⟩
  intro hl
  exact r1.kp hk (s1 hl) hl

abbrev encE (x : En) : Array Value := #[x.val]

set_option maxHeartbeats 2000000 in
theorem from2_in (n : Nat) (hn : 1 ≤ n) (l b : Nat) (S : List Nat) (L : List En) (J Jx : List En → World → Prop)
    (hY : ∀ pre x W, J pre W → pre.length < L.length → YieldAt Fence.wide (n - 1) Try.prog l (encE x) W fun r W' =>
      (r = .returned (.bool true) ∧ J (pre ++ [x]) W' ∧ KpP S W W') ∨ (r = .returned (.bool false) ∧ Jx (pre ++ [x]) W'))
    (W : World) (hJ : ∀ pre A o, J pre A → J pre (A.alloc o)) (hL : Fm W b S L) (h0 : J [] W) :
    CallsIn Fence.wide n Try.prog 45 #[.func (.yield l) #[] #[], .pointer (some ⟨b, 0, none⟩)] W fun r W' => (∃ v, r = .returned v) ∧
      ((∃ ys, ys = L ∧ J ys W') ∨ (∃ pre, pre <+: L ∧ Jx pre W')) := by
  refine callsIn_of_wp Try.func45 rfl trivial ?_ rfl
  simp only [Try.ntmps45, List.size_toArray, List.length_cons, List.length_nil, Nat.reduceAdd, Nat.reduceSub, Array.replicate_succ, Array.replicate_zero, List.push_toArray, List.append_toArray, List.nil_append, List.cons_append]
  obtain ⟨p, c, k1, r1, s1⟩ := hL.ex
  obtain ⟨len, hlen⟩ : ∃ len, L.length = len := ⟨_, rfl⟩
  have hreach := hL.reach
  have HR : Hid (∀ W', KpP S W W' → ∀ j x, L[j]? = some x → ∃ g o, p = some ⟨g, o, none⟩ ∧ W'.cell? ⟨g, o + j * 4, none⟩ = some (.string x.key) ∧ W'.cell? ⟨g, o + j * 4 + 1, none⟩ = some (.int .i64 x.s) ∧ W'.cell? ⟨g, o + j * 4 + 2, none⟩ = some (.int .i64 x.g) ∧ W'.cell? ⟨g, o + j * 4 + 3, none⟩ = some (.int .i64 x.c)) := fun W' hk j x hx => by
    have hj : j < L.length := (List.getElem?_eq_some_iff.1 hx).1
    obtain ⟨g, o, e, rfl, he, -, h⟩ := (r1.kp hk (s1 (by omega))).at hj
    rw [hx] at he
    cases he
    exact ⟨g, o, rfl, h⟩
  have HLT : Hid (∀ x ∈ S, x < W.heap.size) := hL.lt
  have HJ : Hid (∀ pre A o, J pre A → J pre (A.alloc o)) := hJ
  rw [hlen] at hY hreach k1
  have HL : Hid (L.length = len) := hlen
  have HY : Hid _ := hY
  have hbx : W.cell? ⟨b, 0, none⟩ = some (.slice p len c) := k1.cell 0
  clear hlen hY hL k1 r1 s1 hJ
  gi_wp2
  gi_loopw [7] (fun i wr => ∃ k : Nat, k ≤ len ∧ i = .int .i64 k ∧ J (L.take k) wr ∧ KpP S W wr) (fun i _ => len - (intOf i).toNat)
  case atStart => exact ⟨0, Nat.zero_le _, rfl, h0, KpP.refl _ _⟩
  case round =>
    obtain ⟨k, hk, rfl, hJs, hK⟩ := hrel
    by_cases hlt : k < len
    · have hkL : k < L.length := by rw [HL.out]; exact hlt
      obtain ⟨x, hx⟩ : ∃ x, L[k]? = some x := ⟨_, List.getElem?_eq_getElem hkL⟩
      have hli : (k : Int) < (len : Int) := by omega
      have hk0 : (0 : Int) ≤ (k : Int) := by omega
      obtain ⟨g, o, rfl, z0, z1, z2, z3⟩ := HR.out wr hK k x hx
      have HT : Hid (L.take (k + 1) = L.take k ++ [x]) := take_snoc hx
      obtain ⟨W3, hW3⟩ : ∃ W3, wr.alloc (.cells #[.string x.key, .int .i64 x.s, .int .i64 x.g, .int .i64 x.c] 28) = W3 := ⟨_, rfl⟩
      have hK3 : KpP S W W3 := by rw [← hW3]; exact hK.alloc (hK.lt HLT.out) _
      obtain ⟨fn, tmps, assign, body, hy, hR⟩ := HY.out (L.take k) x W3 (by rw [← hW3]; exact HJ.out _ _ _ hJs) (by rw [List.length_take]; omega)
      simp only [encE, En.val] at hy
      have kb : Bk W3 wr.heap.size 28 #[.string x.key, .int .i64 x.s, .int .i64 x.g, .int .i64 x.c] := by rw [← hW3]; exact Bk.new _ _ _
      have d0 : W3.cell? ⟨wr.heap.size, 0, none⟩ = some (.string x.key) := kb.cell 0
      have d1 : W3.cell? ⟨wr.heap.size, 1, none⟩ = some (.int .i64 x.s) := kb.cell 1
      have d2 : W3.cell? ⟨wr.heap.size, 2, none⟩ = some (.int .i64 x.g) := kb.cell 2
      have d3 : W3.cell? ⟨wr.heap.size, 3, none⟩ = some (.int .i64 x.c) := kb.cell 3
      clear hx kb
      gi_wp2
      refine hR.mono ?_
      rintro e W4 (⟨rfl, hJ4, hk4⟩ | ⟨rfl, hJx4⟩)
      · gi_wp2
        go_roundw
        case rel => exact ⟨k + 1, by omega, by go_num, by rw [HT.out]; exact hJ4, hK3.t hk4⟩
        case measure => simp [intOf]; omega
      · gi_wp2
        refine bodyPost_ret (results_none rfl _ _ _) rfl ?_
        exact ⟨⟨_, rfl⟩, .inr ⟨_, by rw [← HT.out]; exact List.take_prefix _ _, hJx4⟩⟩
    · obtain rfl : k = len := by omega
      gi_wp2
      go_end0
      refine ⟨⟨_, rfl⟩, .inl ⟨_, rfl, ?_⟩⟩
      rw [List.take_of_length_le (by rw [HL.out]; exact Nat.le_refl _)] at hJs
      exact hJs

theorem from2_stops (n : Nat) (hn : 1 ≤ n) {w : World} {b : Nat} {S : List Nat} {L : List En} (hL : Fm w b S L) :
    SeqStopsK Fence.wide n Try.prog 45 #[.pointer (some ⟨b, 0, none⟩)] encE (KpP S) (fun ys => ys = L) (fun pre => pre <+: L) L.length w := fun l J Jx W hW hJ _ hY h0 =>
  from2_in n hn l b S L J Jx hY W (fun pre A o h => hJ pre A _ none h (World.grownBy_alloc A o none) (fun r e => by cases e)) (hL.kp (KpP.of_below hW hL.lt)) h0

theorem Ens.dropP {w : World} {p : Option Addr} {l : List En} (h : Ens w p l) (v : Nat) : Ens w (p.map fun x => x.add (v * 4)) (l.drop v) := by
  intro hl
  rw [List.length_drop] at hl
  obtain ⟨b, o, rfl, hc⟩ := h (by omega)
  have h2 : Ens w (some ⟨b, o, none⟩) l := fun _ => ⟨b, o, rfl, hc⟩
  rw [Option.map_some, Addr.add_lit]
  exact h2.drop v (by rw [List.length_drop]; omega)

theorem ge1_any (key : ByteArray) (w : World) (B : Nat) (hf : Bk w B 9 #[.string key]) : TstK 43 #[.pointer (some ⟨B, 0, none⟩)] (fun k => !Ky.lt k key) w := by
  intro W k hb
  have hf' := hf.below hb hf.lt
  have f0 : W.cell? ⟨B, 0, none⟩ = some (.string key) := hf'.cell 0
  clear hf hf' hb
  show Calls Try.prog 43 #[.string k, .pointer (some ⟨B, 0, none⟩)] W _
  go_enter Try.func43, Try.ntmps43
  go_wp2
  go_ret
  exact ⟨rfl, Below.refl _ _⟩

set_option maxHeartbeats 2000000 in
theorem from_any (leaf : Bool) (lo hi : ByteArray) (r : Int) (p : Option Addr) (len cap : Nat) (l : List En) (key : ByteArray) (w : World) (hlen : l.length = len) (hx : Ens w p l) (hl : len ≤ 3518437208782) (hc : len ≤ cap) (hp : p = none → len = 0) :
    Calls Try.prog 17 #[pgv leaf lo hi r p len cap, .string key] w fun e w' => ∃ b S, e = .returned (.func (.func 45) #[] #[.pointer (some ⟨b, 0, none⟩)]) ∧ Fm w' b S (l.drop (l.findIdx (Pg.ge key))) ∧ (∀ x ∈ S, w.heap.size ≤ x) ∧ Below w.heap.size w w' := by
  have eg1 : ∀ args w, (callFunc 43 args).run Try.prog w = .ok (.enter 43 args) w := enters_of Try.func43 (by kernel_rfl) rfl
  obtain ⟨w0, hw0⟩ : ∃ w0, w0 = (w.alloc (.cells (pgc leaf lo hi r p len cap) 24)).alloc (.cells #[.string key] 9) := ⟨_, rfl⟩
  have HB0 : Hid (Below w.heap.size w w0) := by rw [hw0]; exact ((Below.refl _ _).alloc (Nat.le_refl _) _).alloc (by simp) _
  have HK0 : Hid (Bk w0 w.heap.size 24 (pgc leaf lo hi r p len cap)) := by rw [hw0]; exact (Bk.new _ _ _).alloc _
  have HR0 : Hid (Bk w0 (w.heap.size + 1) 9 #[.string key]) := by rw [hw0]; exact Bk.new1 _ _ _ _
  have HL : Hid (l.length = len) := hlen
  have HX0 : Hid (Ens w0 p l) := hx.below HB0.out (Nat.le_refl _)
  clear hx hlen
  have a4 : w0.cell? ⟨w.heap.size, 4, none⟩ = some (.slice p len cap) := HK0.out.cell 4
  obtain ⟨v, HV⟩ : ∃ v : Nat, Hid (l.findIdx (Pg.ge key) = v) := ⟨_, rfl⟩
  rw [HV.out]
  have HVL : Hid (v ≤ len) := by rw [Hid, ← HV.out, ← HL.out]; exact List.findIdx_le_length
  go_enter Try.func17, Try.ntmps17
  go_wp2_with fail
  rw [← hw0]
  clear hw0
  go_wp2_with fail
  refine (first_any 43 _ (fun k => !Ky.lt k key) eg1 p len cap l _ HL.out HX0.out (by omega) (ge1_any key w0 (w.heap.size + 1) HR0.out) (fun a b h1 h2 => ?mono)).mono ?_
  case mono =>
    cases e : Ky.lt b key with
    | false => rfl
    | true =>
      have := Ky.lt_of_le h1 e
      rw [this] at h2
      cases h2
  rw [show (l.findIdx fun e => !Ky.lt e.key key) = v from HV.out]
  rintro e w1 ⟨rfl, hb1⟩
  have HB1 : Hid (Below w.heap.size w w1) := HB0.out.trans (hb1.mono HB0.out.size)
  have HK1 : Hid (Bk w1 w.heap.size 24 (pgc leaf lo hi r p len cap)) := HK0.out.below hb1 HK0.out.lt
  have HX1 : Hid (Ens w1 p l) := HX0.out.below hb1 (Nat.le_refl _)
  have hvl := HVL.out
  clear a4 hb1 HB0 HK0 HR0 HX0
  have a4 : w1.cell? ⟨w.heap.size, 4, none⟩ = some (.slice p len cap) := HK1.out.cell 4
  have hv0 : (0 : Int) ≤ (v : Int) := by omega
  have hvi : (v : Int) ≤ (len : Int) := by omega
  have hci : (len : Int) ≤ (cap : Int) := by omega
  have HN : Hid ((l.drop v).length = len - v) := by rw [Hid, List.length_drop, HL.out]
  have HE1 : Hid (Ens w1 (p.map fun x => x.add (v * 4)) (l.drop v)) := HX1.out.dropP v
  have HP1 : Hid ((p.map fun x => x.add (v * 4)) = none → len - v = 0) := fun h => by
    have := hp (by simpa using h)
    omega
  have HE2 : Hid (cap = v → Ens w1 p (l.drop v)) := fun h => by
    have : (l.drop v).length = 0 := by rw [HN.out]; omega
    rw [List.eq_nil_of_length_eq_zero this]
    exact Ens.nil _ _
  have HP2 : Hid (cap = v → p = none → len - v = 0) := fun h _ => by omega
  clear hp HX1
  have HFIN : Hid (∀ (v2 : Value) (w2 : World), OwnE w2 w1.heap.size v2 (l.drop v) → Below w1.heap.size w1 w2 → ∀ w3, w3 = w2.alloc (.cells #[v2] 22) → ∃ S, Fm w3 w2.heap.size S (l.drop v) ∧ (∀ x ∈ S, w.heap.size ≤ x) ∧ Below w.heap.size w w3) := fun v2 w2 ho hb w3 hw3 => by
    have hs1 := HB1.out.size
    have hs2 := hb.size
    have hB3 : Below w2.heap.size w2 w3 := by rw [hw3]; exact (Below.refl _ _).alloc (Nat.le_refl _) _
    have hk : Bk w3 w2.heap.size 22 #[v2] := by rw [hw3]; exact Bk.new _ _ _
    have ho3 := ho.below hB3 (Nat.le_refl _)
    obtain ⟨q, c, hqv, he, hq⟩ := ho3.ens
    have hmem : ∀ b, v2.ownBlock = some b → w1.heap.size ≤ b ∧ b < w3.heap.size := fun b hb => by
      rcases ho3.2 with ⟨hv, hn⟩ | ⟨g, cap, cur, hv, hbb, hg, rest⟩
      · rw [hv] at hb
        cases hb
      · rw [hv] at hb
        cases hb
        exact ⟨hbb, (Array.getElem?_eq_some_iff.1 hg).1⟩
    subst hqv
    refine ⟨w2.heap.size :: (Value.slice q (l.drop v).length c).ownBlock.toList, ⟨⟨q, c, hk, he, fun hl g o hg => ?_⟩, by simp, fun b hb => ?_, by rw [HN.out]; omega⟩, fun x hx => ?_, HB1.out.trans (hb.mono hs1) |>.trans (hB3.mono (by omega))⟩
    · subst hg
      simp [Value.ownBlock]
    · rcases List.mem_cons.1 hb with rfl | hb
      · exact hk.lt
      · exact (hmem b (by simpa [eq_comm] using hb)).2
    · rcases List.mem_cons.1 hx with rfl | hx
      · omega
      · have := (hmem x (by simpa [eq_comm] using hx)).1
        omega
  go_wp2_with fail
  · have hcv : cap = v := by assumption
    refine (eclone_any _ (len - v) _ (l.drop v) w1 HN.out (HE2.out hcv) (by omega) (HP2.out hcv)).mono ?_
    rintro e w2 ⟨v2, rfl, hown, hb2⟩
    have HFI : Hid (∀ w3, w3 = w2.alloc (.cells #[v2] 22) → ∃ S, Fm w3 w2.heap.size S (l.drop v) ∧ (∀ x ∈ S, w.heap.size ≤ x) ∧ Below w.heap.size w w3) := fun w3 h => HFIN.out v2 w2 hown hb2 w3 h
    obtain ⟨q, c, hqv, -, -⟩ := hown.ens
    rw [HN.out] at hqv
    subst hqv
    clear hown hb2
    go_wp2
    go_ret
    obtain ⟨S, h1, h2, h3⟩ := HFI.out _ rfl
    exact ⟨_, S, rfl, h1, h2, h3⟩
  · refine (eclone_any _ (len - v) (cap - v) (l.drop v) w1 HN.out HE1.out (by omega) HP1.out).mono ?_
    rintro e w2 ⟨v2, rfl, hown, hb2⟩
    have HFI : Hid (∀ w3, w3 = w2.alloc (.cells #[v2] 22) → ∃ S, Fm w3 w2.heap.size S (l.drop v) ∧ (∀ x ∈ S, w.heap.size ≤ x) ∧ Below w.heap.size w w3) := fun w3 h => HFIN.out v2 w2 hown hb2 w3 h
    obtain ⟨q, c, hqv, -, -⟩ := hown.ens
    rw [HN.out] at hqv
    subst hqv
    clear hown hb2
    go_wp2
    go_ret
    obtain ⟨S, h1, h2, h3⟩ := HFI.out _ rfl
    exact ⟨_, S, rfl, h1, h2, h3⟩

end Go.Proofs.Ytakibndjmhadnaa
