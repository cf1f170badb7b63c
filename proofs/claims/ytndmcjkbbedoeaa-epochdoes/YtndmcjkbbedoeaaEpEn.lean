/- What is gathered out of what waits. -/
import Derived.Test.YtndmcjkbbedoeaaEpSame
namespace Go.Proofs.Ytndmcjkbbedoeaa
open Go.RowKit Go.Shelf
set_option linter.unusedVariables false
set_option maxRecDepth 100000

theorem appXIn {F : Fence} {nn : Nat} {ops : Array Oper} {rest : List Oper} {o : Oper} {a : Act} {Q : Exit → Act → World → Prop} (w : World) (hg : o.guard = none) (s x : Operand) (t : TypeId)
    (ho : o.op = .call { callee := .builtin .append, args := #[s, x], argTypes := #[t, t] })
    (e : TypeId) (z : Value) (size bytes : Nat) (ht : Try.prog.underlying t = some (.slice e)) (hinfo : (Try.prog.info? e).map (fun i => (i.zero, i.size, i.bytes)) = some (some z, size, bytes)) (hzs : z.cells.size = size) (hsz : 0 < size)
    (v : Value) (n : Nat) (xs : List Value) (hs : a.eval s = v) (hown : w.ownsRow 0 e size v n xs)
    (ad : Addr) (m c : Nat) (news : List Value) (hx : a.eval x = .slice (some ad) m c) (hl : news.length = m * size) (hnews : ∀ j u, news[j]? = some u → w.cell? (ad.add j) = some u) (h1 : ∀ u ∈ news, u.oneCell' = true)
    (h63 : n + m ≤ maxLen) (hbytes : (n + m) * bytes ≤ 140737488355328)
    (h : ∀ v' w', w'.ownsRow 0 e size v' (n + m) (xs ++ news) → w.grownBy w' v.ownBlock → (v'.ownBlock = v.ownBlock ∨ v'.ownBlock = some w.heap.size) → wpListIn F nn Try.prog ops Q rest (a.put o.dst v') w') : wpListIn F nn Try.prog ops Q (o :: rest) a w := by
  obtain ⟨i0, hi, hz0, hz1, hz2⟩ := info_parts hinfo
  refine wpListIn_plain hg fun K hK' => ?_
  obtain ⟨v', w', hrun, h2, h3, _, h5⟩ := run_append_own_at (P := Try.prog) w 0 t o.type e i0 z size bytes ht hi hz0 hz1 hz2 hzs hsz v n xs hown ad m c news hl hnews h1 h63 hbytes (Nat.zero_le _)
  unfold Oper.wpIn
  refine ⟨?_, ?_⟩
  · simp [Oper.about, ho, resolve, Target.leads, Sem.run_pure]
  · rw [Oper.semAt_plain F _ _ (by rw [ho]; intro c hc'; cases hc')]
    simp only [execOp, ho, resolve, invoke, builtin, Sem.run_bind, Sem.run_pure, Result.andThen_ok, List.map_toArray, List.map_cons, List.map_nil, hs, hx, hrun]
    exact hK' _ _ (h v' w' h2 h3 h5)

/-- 'append' of a whole slice, as one step of a region that draws its order. -/
theorem stepXw {ops : Array Oper} {o : Oper} {a : Act} {w : World} {K : Act → World → Prop} {Q : Exit → Act → World → Prop} {E : Prop}
    (hw : Region.wanted o (yielded ops a.tmps) = true) (s x : Operand) (t : TypeId) (ho : o.op = .call { callee := .builtin .append, args := #[s, x], argTypes := #[t, t] })
    (e : TypeId) (z : Value) (size bytes : Nat) (ht : Try.prog.underlying t = some (.slice e)) (hinfo : (Try.prog.info? e).map (fun i => (i.zero, i.size, i.bytes)) = some (some z, size, bytes)) (hzs : z.cells.size = size) (hsz : 0 < size)
    (v : Value) (n : Nat) (xs : List Value) (hs : a.eval s = v) (hown : w.ownsRow 0 e size v n xs)
    (q : Option Addr) (m c : Nat) (news : List Value) (hx : a.eval x = .slice q m c) (hl : news.length = m * size) (hnews : ∀ ad, q = some ad → ∀ j u, news[j]? = some u → w.cell? (ad.add j) = some u) (h1 : ∀ u ∈ news, u.oneCell' = true) (hq : q = none → m = 0 ∧ c = 0)
    (h63 : n + m ≤ maxLen) (hbytes : (n + m) * bytes ≤ 140737488355328)
    (hK : ∀ v' w', w'.ownsRow 0 e size v' (n + m) (xs ++ news) → w.grownBy w' v.ownBlock → (v'.ownBlock = v.ownBlock ∨ v'.ownBlock = some w.heap.size) → K (a.put o.dst v') w') :
    if Region.wanted o (yielded ops a.tmps) = true then Oper.wp Try.prog o a w K Q else E := by
  obtain ⟨i0, hi, hz0, hz1, hz2⟩ := info_parts hinfo
  rw [if_pos hw]
  cases q with
  | some ad =>
    obtain ⟨v', w', hr, h2, h3, h4, h5⟩ := run_append_own_at (P := Try.prog) w 0 t o.type e i0 z size bytes ht hi hz0 hz1 hz2 hzs hsz v n xs hown ad m c news hl (hnews ad rfl) h1 h63 hbytes (Nat.zero_le _)
    unfold Oper.wp execOp
    simp only [ho, resolve, invoke, builtin, Sem.run_bind, Sem.run_pure, Result.andThen_ok, List.map_toArray, List.map_cons, List.map_nil, hs, hx, hr]
    exact hK v' w' h2 h3 h5
  | none =>
    obtain ⟨rfl, rfl⟩ := hq rfl
    obtain rfl : news = [] := List.eq_nil_of_length_eq_zero (by omega)
    have hrun := run_append_owned_none (P := Try.prog) (w := w) 0 t o.type e i0 size ht hi v n xs hown
    unfold Oper.wp
    simp [execOp, ho, resolve, invoke, builtin, hs, hx, hrun, Result.andThen, Oper.upon]
    exact hK v w (by simpa using hown) (World.grownBy.refl _ _) (Or.inl rfl)

/-- What is appended out of a row. -/
theorem Rr.news {w : World} {p : Option Addr} {n c : Nat} {l : List Rt} (h : Rr w (.slice p n c) l) : (∀ ad, p = some ad → ∀ j u, (rts l)[j]? = some u → w.cell? (ad.add j) = some u) ∧ (∀ u ∈ rts l, u.oneCell' = true) ∧ (rts l).length = n * 3 ∧ (p = none → n = 0 ∧ c = 0) := by
  have hl : n = l.length := by
    obtain ⟨q, d, e, -⟩ := h.form
    cases e
    rfl
  subst hl
  refine ⟨fun ad had j u hu => ?_, fun u hu => ?_, rts_length l, fun hp => ?_⟩
  · subst had
    have hj : j < l.length * 3 := by
      have := (List.getElem?_eq_some_iff.1 hu).1
      rwa [rts_length] at this
    rcases h.2 with ⟨hv, _⟩ | ⟨g, cap, cur, hv, _⟩
    · cases hv
    · cases hv
      rw [show (⟨g, 0, none⟩ : Addr).add j = ⟨g, j, none⟩ by unfold Addr.add; split <;> simp_all]
      rw [World.ownsRow.cellAt h j (by omega)]
      exact hu
  · obtain ⟨x, hx, hu⟩ := List.mem_flatten.1 hu
    obtain ⟨y, _, rfl⟩ := List.mem_map.1 hx
    exact rtone y u hu
  · subst hp
    rcases h.2 with ⟨hv, hn⟩ | ⟨g, cap, cur, hv, _⟩
    · simp only [Value.slice.injEq] at hv
      exact ⟨hn, hv.2.2⟩
    · cases hv

/-- What was gathered. -/
structure Wn (w2 : World) (b : Nat) (pre : List (Nat × Rt)) (W : World) (v : Value) : Prop where
  bx : Boxed W b 50 v
  row : Rr W v (pre.map Prod.snd)
  own : ∀ g, v.ownBlock = some g → w2.heap.size ≤ g
  tn : Tn [b] w2 W
  lt : b < w2.heap.size

theorem Wn.abides {w2 W W' : World} {b : Nat} {pre : List (Nat × Rt)} {v : Value} {row : Option Nat} (h : Wn w2 b pre W v) (hg : W.grownBy W' row) (hr : ∀ r, row = some r → w2.heap.size ≤ r ∧ ∃ o : Obj, W.heap[r]? = some o ∧ o.isCells = false) : Wn w2 b pre W' v where
  bx := boxed_from h.bx hg hr
  row := owns_from h.row hg hr
  own := h.own
  tn := h.tn.grown hg (fun k hk => .inr (hr k hk).1)
  lt := h.lt

theorem Wn.still {w2 W W' : World} {b : Nat} {pre : List (Nat × Rt)} {v : Value} (h : Wn w2 b pre W v) (ht : Tn [] W W') : Wn w2 b pre W' v where
  bx := Bk.tn (show Bk W _ _ _ from h.bx) ht (by simp)
  row := h.row.tn ht (by simp)
  own := h.own
  tn := h.tn.trans ht (by simp)
  lt := h.lt

/-- One more. -/
theorem Wn.more {w2 W Wa w3 : World} {b : Nat} {pre : List (Nat × Rt)} {v v3 : Value} {x : Nat × Rt} (h : Wn w2 b pre W v) (ta : Tn [] W Wa)
    (o3 : w3.ownsRow 0 31 3 v3 ((pre.map Prod.snd).length + 1) (rts (pre.map Prod.snd) ++ x.2.cells)) (g3 : Wa.grownBy w3 v.ownBlock) (q3 : v3.ownBlock = v.ownBlock ∨ v3.ownBlock = some Wa.heap.size) :
    Boxed w3 b 50 v ∧ Wn w2 b (pre ++ [x]) (w3.setCell ⟨b, 0, none⟩ v3) v3 ∧ Tn (v.ownBlock.toList ++ [b]) W (w3.setCell ⟨b, 0, none⟩ v3) := by
  have t3 : Tn v.ownBlock.toList W w3 := tnA g3 ta
  have hs := h.tn.size
  have hsa := ta.size
  have m3 : ∀ g, v3.ownBlock = some g → w2.heap.size ≤ g := by
    intro g hg
    rcases q3 with q | q
    · rw [q] at hg
      exact h.own g hg
    · rw [q] at hg
      cases hg
      omega
  have k3 : Bk w3 b 50 #[v] := Bk.tn (show Bk W _ _ _ from h.bx) t3 (fun hm => by
    have := h.own b (opt_toList.1 hm)
    have := h.lt
    omega)
  have tS : Tn [b] w3 (w3.setCell ⟨b, 0, none⟩ v3) := (Tn.refl _ _).setCell (.inl (by simp)) _
  have tF : Tn (v.ownBlock.toList ++ [b]) W (w3.setCell ⟨b, 0, none⟩ v3) := (t3.mono (fun y hy => List.mem_append.2 (.inl hy))).trans tS (fun y hy => .inl (List.mem_append.2 (.inr hy)))
  refine ⟨k3, ?_, tF⟩
  exact {
    bx := k3.set 0 v3
    row := by
      unfold Rr
      rw [List.map_append, rts_append, List.length_append]
      refine owns_tn o3 tS (fun g hg hm => ?_)
      have := m3 g hg
      have := h.lt
      simp at hm
      omega
    own := m3
    tn := h.tn.trans tF (fun y hy => by
      rcases List.mem_append.1 hy with hy | hy
      · exact .inr (h.own y (opt_toList.1 hy))
      · exact .inl hy)
    lt := h.lt }

theorem Wn.keeps {w2 W W' : World} {b : Nat} {pre : List (Nat × Rt)} {v : Value} (h : Wn w2 b pre W v) (ht : Tn (v.ownBlock.toList ++ [b]) W W') : KeepsOthers W W' :=
  keeps_tn ht (fun y hy => by
    rcases List.mem_append.1 hy with hy | hy
    · exact owns_cells h.row (opt_toList.1 hy)
    · simp at hy
      subst hy
      exact ⟨_, h.bx, rfl⟩)

theorem Wn.kp {w2 W W' : World} {b : Nat} {pre : List (Nat × Rt)} {v : Value} {S : List Nat} (h : Wn w2 b pre W v) (ht : Tn (v.ownBlock.toList ++ [b]) W W') (hS : ∀ y ∈ S, y < w2.heap.size ∧ y ≠ b) : KpP S W W' :=
  KpP.of_tn ht (fun y hy => by
    have h1 := hS y hy
    have hs := h.tn.size
    refine ⟨by omega, fun hm => ?_⟩
    rcases List.mem_append.1 hm with hm | hm
    · have := h.own y (opt_toList.1 hm)
      omega
    · simp at hm
      exact h1.2 hm)

theorem Sc.adv {w W w5 : World} {B j : Nat} {bs : List Nat} {e : Ep} {v : Value} (h : Sc w W B j bs e) (hA : Adv W w5 B bs e v) : ∃ bs', Sc w w5 B (j + 1) bs' e.next ∧ (∀ b ∈ bs', b ∈ bs) ∧ (∀ b, v.ownBlock = some b → b ∈ bs ∧ b ∉ bs') ∧ Tn [B] W w5 ∧ Rr w5 v e.old := by
  obtain ⟨bs', h1, h2, h3, h4⟩ := hA.ep
  have hB := h.low B h.ep.hB
  have h5 := h.le.now
  have h6 := h.le.len
  refine ⟨bs', ⟨h1, fun b hb => h.low b (h3 b hb), h.below.trans (h2.below h.below.size (by simpa using hB)), ⟨?_, ?_⟩⟩, h3, h4, h2, hA.row⟩
  · show e.now + 1 ≤ j + 1 + 1
    omega
  · simp [Ep.next]
    omega

theorem Ep.held_none {e : Ep} (h17 : e.pins.length = 17) (h : ∀ s, s < 17 → e.pin s = 0) : e.held = false := by
  cases hh : e.held with
  | false => rfl
  | true =>
    obtain ⟨s, hs, h1, _⟩ := (Ep.held_iff h17).1 hh
    exact absurd (h s hs) h1

theorem Ep.pin_set (e : Ep) (k x s : Nat) (hk : k < e.pins.length) : (e.setPin k x).pin s = if s = k then x else e.pin s := by
  unfold Ep.pin Ep.setPin
  exact getD_set _ _ _ _ _ hk

/-- One session alone is pinned. -/
theorem Ep.one_pinned {e : Ep} (h17 : e.pins.length = 17) (h : ∀ s, s < 17 → e.pin s = 0) (hn : 1 ≤ e.now) (k : Nat) (hk : k < 17) :
    (e.setPin k e.now).held = false ∧ (e.setPin k e.now).next.held = true ∧ (e.setPin k e.now).next.pin k ≠ 0 := by
  have hp := fun s => Ep.pin_set e k e.now s (by omega)
  have h17' : (e.setPin k e.now).pins.length = 17 := by simp [Ep.setPin, h17]
  have hkk : (e.setPin k e.now).pin k = e.now := by rw [hp k, if_pos rfl]
  refine ⟨?_, ?_, ?_⟩
  · cases hh : (e.setPin k e.now).held with
    | false => rfl
    | true =>
      obtain ⟨s, hs, h1, h2⟩ := (Ep.held_iff h17').1 hh
      rw [hp s] at h1 h2
      by_cases hsk : s = k
      · rw [if_pos hsk] at h2
        exact absurd h2 (Nat.lt_irrefl _)
      · rw [if_neg hsk] at h1
        exact absurd (h s hs) h1
  · refine (Ep.held_iff (e := (e.setPin k e.now).next) h17').2 ⟨k, hk, ?_, ?_⟩
    · show (e.setPin k e.now).pin k ≠ 0
      omega
    · show (e.setPin k e.now).pin k < e.now + 1
      omega
  · show (e.setPin k e.now).pin k ≠ 0
    omega

/-- Both lists, one behind the other. -/
theorem Ep.limbo_snd (e : Ep) : e.limbo.map Prod.snd = e.old ++ e.cur := by
  unfold Ep.limbo
  simp [Function.comp_def]

/-- .. with a block for deferred calls beside it. -/
structure Sd (w W : World) (B j : Nat) (bs : List Nat) (e : Ep) (D : Nat) : Prop where
  sc : Sc w W B j bs e
  df : W.heap[D]? = some (.deferred (some []))
  nd : D ∉ bs

theorem Sd.lt {w W : World} {B j : Nat} {bs : List Nat} {e : Ep} {D : Nat} (h : Sd w W B j bs e D) : D < W.heap.size := (Array.getElem?_eq_some_iff.1 h.df).1

theorem Sd.step {w W w' : World} {B j k D : Nat} {bs : List Nat} {e e' : Ep} (h : Sd w W B j bs e D) (hT : EpT W w' B bs e') (hl : e'.Le k k) : ∃ bs', Sd w w' B k bs' e' D := by
  obtain ⟨bs', h1, h2, h3⟩ := hT
  have hs := h.sc.below.size
  have hD := h.lt
  refine ⟨bs', ⟨h1, fun b hb => ?_, ?_, hl⟩, (h2.block D hD h.nd).trans h.df, fun hm => ?_⟩
  · rcases h3 b hb with h4 | h4
    · exact h.sc.low b h4
    · omega
  · exact h.sc.below.trans (h2.below (by omega) h.sc.low)
  · rcases h3 D hm with h4 | h4
    · exact h.nd h4
    · omega

theorem Sd.still {w W w' : World} {B j D : Nat} {bs : List Nat} {e : Ep} (h : Sd w W B j bs e D) (ht : Tn [] W w') : Sd w w' B j bs e D :=
  ⟨h.sc.still ht (Nat.le_refl _), (ht.block D h.lt (by simp)).trans h.df, h.nd⟩

theorem Sd.adv {w W w5 : World} {B j D : Nat} {bs : List Nat} {e : Ep} {v : Value} (h : Sd w W B j bs e D) (hA : Adv W w5 B bs e v) : ∃ bs', Sd w w5 B (j + 1) bs' e.next D ∧ (∀ b ∈ bs', b ∈ bs) ∧ (∀ b, v.ownBlock = some b → b ≠ B ∧ b ∈ bs ∧ b ∉ bs') ∧ Tn [B] W w5 ∧ Rr w5 v e.old := by
  obtain ⟨bs', h1, h2, h3, h4, h5⟩ := h.sc.adv hA
  have hDB : D ≠ B := fun e => h.nd (by rw [e]; exact h.sc.ep.hB)
  exact ⟨bs', ⟨h1, (h4.block D h.lt (by simpa using hDB)).trans h.df, fun hm => h.nd (h2 D hm)⟩, h2, fun b hb => ⟨fun e => (h3 b hb).2 (by rw [e]; exact h1.ep.hB), h3 b hb⟩, h4, h5⟩

/-- Two advances, and a row beside them. -/
theorem ends_adv {W w5 w6 : World} {B b : Nat} {e : Ep} {va vb v : Value} {l : List Rt} (hv : Rr W v l) (hvB : ∀ g, v.ownBlock = some g → g ≠ B) (hbx : Boxed W b 50 v) (hb : b ≠ B)
    (t5 : Tn [B] W w5) (r5 : Rr w5 va e.old) (n5 : ∀ g, va.ownBlock = some g → g ≠ B) (t6 : Tn [B] w5 w6) (r6 : Rr w6 vb e.next.old) : Rr w6 va e.old ∧ Rr w6 vb e.cur ∧ Rr w6 v l ∧ Boxed w6 b 50 v :=
  ⟨r5.tn t6 (fun g hg => by simpa using n5 g hg), r6, (hv.tn t5 (fun g hg => by simpa using hvB g hg)).tn t6 (fun g hg => by simpa using hvB g hg), Bk.tn (Bk.tn (show Bk W _ _ _ from hbx) t5 (by simpa using hb)) t6 (by simpa using hb)⟩

theorem newB {v : Value} {n : Nat} (q : v.ownBlock = (Value.slice none 0 0).ownBlock ∨ v.ownBlock = some n) : ∀ g, v.ownBlock = some g → n ≤ g := by
  intro g hg
  rcases q with q | q
  · rw [q] at hg
    cases hg
  · rw [q] at hg
    cases hg
    exact Nat.le_refl _

theorem tnNew {W w8 w9 : World} {v : Value} (t8 : Tn [] W w8) (g9 : w8.grownBy w9 v.ownBlock) (n8 : ∀ g, v.ownBlock = some g → W.heap.size ≤ g) : Tn [] W w9 := t8.grown g9 (fun k hk => .inr (n8 k hk))

theorem two_rows {w : World} {v : Value} {a b : List Rt} (h : w.ownsRow 0 31 3 v (0 + a.length + b.length) ([] ++ rts a ++ rts b)) : Rs w v (a ++ b) := by
  refine Rr.rs ?_
  unfold Rr
  rw [List.length_append, rts_append]
  simpa using h

theorem waitS {w W : World} {B j D : Nat} {bs : List Nat} {e : Ep} (h : Sd w W B j bs e.next.next D) (hj : j ≤ 3600000000000) : Calls Try.prog 13 #[.pointer (some ⟨B, 0, none⟩)] W fun r w' => r = .returned (.int .i64 0) ∧ Tn [] W w' := by
  obtain ⟨vs, -, hI⟩ := h.sc.ep
  refine (waiting_any hI (by have := h.sc.le.now; omega) (by have := h.sc.le.len; omega)).mono ?_
  rintro r w' ⟨rfl, k, rfl⟩
  exact ⟨rfl, tn_drewN _ _⟩

/-- A range over a function whose variable is boxed in each round: A is the activation, told by the box. -/
theorem range_boxed {F : Fence} {n : Nat} {P : Program} {α : Type} {g : Operand} {ps : Array Tmp} {assign body : Code} {Q : Exit → Act → World → Prop} {a : Act} {w : World} (A : Nat → α → Act)
    (hro : F.round = none) (h1 : 1 ≤ n) {gf : Nat} {lb : Array Value} (hg : a.eval g = .func (.func gf) #[] lb) (hFg : F.fn gf) (eg : ∀ args w, (callFunc gf args).run P w = .ok (.enter gf args) w)
    {encs : α → Array Value} {Kp : World → World → Prop} {S Sp : List α → Prop} {N : Nat} {w0 : World} (hseq : SeqStopsK F (n - 1) P gf lb encs Kp S Sp N w0)
    (hKt : ∀ {A B C : World}, Kp A B → Kp B C → Kp A C) (hKb : ∀ (W : World) (l : Nat) (o o' : Obj), w.heap.size ≤ l → W.heap[l]? = some o → o.isCells = false → o.isWalk = false → Kp W (W.putObj l o')) (hb0 : Below w0.heap.size w0 w) (hps : ∀ x, (encs x).size = ps.size)
    (I : List α → World → Prop) (Ix : Code → List α → World → Prop) (hI : OwnFrom w.heap.size I) (hIx : ∀ c, OwnFrom w.heap.size (Ix c)) (h0 : I [] w) (Bx : α → Nat → World → Prop) (hBx : ∀ x bx, OwnFrom w.heap.size (fun (_ : Unit) W => Bx x bx W))
    (hassign : ∀ (l : Nat) (pre : List α) (x : α) (W : World) (K : Act → World → Prop), I pre W → (∀ bx W', KeepsFrom w.heap.size W W' → Kp W W' → I pre W' → Bx x bx W' → K (A bx x) W') →
      assign.wpIn (F.inRound l) (n - 1 - 1) P (Exit.then K (fun _ _ _ => False)) { tmps := (ps.zip (encs x)).foldl (fun t (p, v) => t.setIfInBounds p v) a.tmps, defers := [] } W)
    (hbody : ∀ (l : Nat) (pre : List α) (x : α) (bx : Nat) (W : World), w.heap.size ≤ l → I pre W → Bx x bx W → pre.length < N → body.wpIn (F.inRound l) (n - 1 - 1) P (ownPostG w.heap.size Kp I Ix (pre ++ [x]) W) (A bx x) W)
    (hdone : ∀ (D : Nat) (xs : List α) (W : World), w.heap.size ≤ D → S xs → I xs W → W.heap[D]? = some (.deferred (some [])) → Q .normal { a with defers := { target := .collected D, args := #[] } :: a.defers } W)
    (hstop : ∀ (D : Nat) (c : Code) (pre : List α) (W : World), w.heap.size ≤ D → Sp pre → Ix c pre W → W.heap[D]? = some (.deferred (some [])) → c.wpIn F n P Q { a with defers := { target := .collected D, args := #[] } :: a.defers } W) :
    (Code.rangeFunc g ps assign body).wpIn F n P Q a w :=
  wpIn_rangeFunc_ownH hro h1 hg hFg eg hseq (fun h k => hKt h k) hKb hb0 hps I Ix hI hIx h0 (fun x a' W => ∃ bx, Bx x bx W ∧ a' = A bx x)
    (fun x a' s W W' row hs hg hr => by
      obtain ⟨bx, h, e⟩ := hs
      exact ⟨bx, hBx x bx s W W' row h hg hr, e⟩)
    (fun l pre x W K hi hK => hassign l pre x W K hi (fun bx W' k1 k2 k3 k4 => hK _ W' k1 k2 k3 ⟨bx, k4, rfl⟩))
    (fun l pre x a' W hl _ hi hx hp => by
      obtain ⟨bx, h, rfl⟩ := hx
      exact hbody l pre x bx W hl hi h hp)
    hdone hstop

end Go.Proofs.Ytndmcjkbbedoeaa
