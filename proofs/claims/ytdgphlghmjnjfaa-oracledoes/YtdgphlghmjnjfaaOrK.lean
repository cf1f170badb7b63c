/- An oracle: Pending. -/
import Derived.Test.YtdgphlghmjnjfaaOrJ
import Derived.Maps.OwnIn
namespace Go.Proofs.Ytdgphlghmjnjfaa
open Go.RowKit Go.Maps Go.Shelf
attribute [local go_sem] Oper.semAt_some
set_option linter.unusedVariables false
set_option maxRecDepth 100000

/-- Those that are not published. -/
def pends (l : List (Nat × Bool)) : List Nat := (l.filter fun x => !x.2).map Prod.fst
theorem pends_yes (l : List (Nat × Bool)) (n : Nat) : pends (l ++ [(n, true)]) = pends l := by simp [pends]
theorem pends_no (l : List (Nat × Bool)) (n : Nat) : pends (l ++ [(n, false)]) = pends l ++ [n] := by simp [pends]
theorem pends_le (l : List (Nat × Bool)) : (pends l).length ≤ l.length := by
  unfold pends
  rw [List.length_map]
  exact List.length_filter_le _ _

def ints (l : List Nat) : List Value := l.map fun (n : Nat) => Value.int .i64 (n : Int)

theorem i64info : (Try.prog.info? 2).map (fun i => (i.zero, i.size, i.bytes)) = some (some (.int .i64 0), 1, 8) := by kernel_rfl

/-- Between the rounds. -/
structure Pe (w W : World) (pre : List (Nat × Bool)) (v : Value) : Prop where
  b0 : Boxed W w.heap.size 36 v
  r0 : W.ownsRow 0 2 1 v (pends pre).length (ints (pends pre))
  n0 : ∀ b, v.ownBlock = some b → w.heap.size + 2 ≤ b
  below : Below w.heap.size w W
  sz : w.heap.size + 2 ≤ W.heap.size

theorem owns_from {W W' : World} {row : Option Nat} {m base size n : Nat} {e : TypeId} {v : Value} {xs : List Value} (h : W.ownsRow base e size v n xs) (hg : W.grownBy W' row) (hr : ∀ r, row = some r → m ≤ r ∧ ∃ o : Obj, W.heap[r]? = some o ∧ o.isCells = false) : W'.ownsRow base e size v n xs := by
  refine ⟨h.1, ?_⟩
  rcases h.2 with hv | ⟨g, cap, cur, rfl, hb, hgg, rest⟩
  · exact .inl hv
  · refine .inr ⟨g, cap, cur, rfl, hb, (hg.block g (Array.getElem?_eq_some_iff.1 hgg).1 (fun e => ?_)).trans hgg, rest⟩
    obtain ⟨_, o, ho, hc⟩ := hr g e.symm
    rw [hgg] at ho
    cases ho
    cases hc
theorem owns_cells {W : World} {base size n : Nat} {e : TypeId} {v : Value} {xs : List Value} (h : W.ownsRow base e size v n xs) {b : Nat} (hb : v.ownBlock = some b) : ∃ o : Obj, W.heap[b]? = some o ∧ o.isCells = true := by
  rcases h.2 with ⟨hv, _⟩ | ⟨g, cap, cur, rfl, _, hgg, rest⟩
  · rw [hv] at hb
    cases hb
  · cases hb
    exact ⟨_, hgg, rfl⟩

theorem Pe.abides {w W W' : World} {pre : List (Nat × Bool)} {v : Value} {row : Option Nat} {m : Nat} (h : Pe w W pre v) (hm : w.heap.size ≤ m) (hg : W.grownBy W' row) (hr : ∀ r, row = some r → m ≤ r ∧ ∃ o : Obj, W.heap[r]? = some o ∧ o.isCells = false) : Pe w W' pre v where
  b0 := boxed_from h.b0 hg hr
  r0 := owns_from h.r0 hg hr
  n0 := h.n0
  below := h.below.grown hg h.below.size (fun k hk => by have := (hr k hk).1; omega)
  sz := Nat.le_trans h.sz hg.size

/-- One is appended. -/
theorem Pe.app {w W w1 w2 : World} {pre : List (Nat × Bool)} {v v2 : Value} {j : Nat} (h : Pe w W pre v) (hb : Below W.heap.size W w1)
    (o2 : w2.ownsRow 0 2 1 v2 ((pends pre).length + 1) (ints (pends pre) ++ [.int .i64 (j : Int)])) (g2 : w1.grownBy w2 v.ownBlock) (q2 : v2.ownBlock = v.ownBlock ∨ v2.ownBlock = some w1.heap.size) :
    Bk w2 w.heap.size 36 #[v] ∧ Pe w (w2.setCell ⟨w.heap.size, 0, none⟩ v2) (pre ++ [(j, false)]) v2 ∧ Tn (w.heap.size :: v.ownBlock.toList) W (w2.setCell ⟨w.heap.size, 0, none⟩ v2) := by
  have t2 : Tn v.ownBlock.toList W w2 := (Tn.of_below hb _).grown g2 (fun k hk => .inl (opt_toList.2 hk))
  have k2 : Bk w2 w.heap.size 36 #[v] := Bk.tn (show Bk W _ _ _ from h.b0) t2 (fun hm => by have := h.n0 _ (opt_toList.1 hm); omega)
  have n2 : ∀ b, v2.ownBlock = some b → w.heap.size + 2 ≤ b := by
    intro b hb2
    rcases q2 with q | q
    · exact h.n0 b (by rw [← q]; exact hb2)
    · rw [q] at hb2
      cases hb2
      have := h.sz
      have := hb.size
      omega
  have ts : Tn [w.heap.size] w2 (w2.setCell ⟨w.heap.size, 0, none⟩ v2) := (Tn.refl _ _).setCell (.inl (by simp)) _
  have tF : Tn (w.heap.size :: v.ownBlock.toList) W (w2.setCell ⟨w.heap.size, 0, none⟩ v2) := (t2.mono (fun b hb => List.mem_cons_of_mem _ hb)).trans ts (fun x hx => .inl (by simp at hx; simp [hx]))
  refine ⟨k2, ?_, tF⟩
  exact {
    b0 := k2.set 0 v2
    r0 := by
      rw [pends_no, List.length_append, show ints (pends pre ++ [j]) = ints (pends pre) ++ [.int .i64 (j : Int)] by simp [ints]]
      refine owns_tn o2 ts (fun b hb2 hm => ?_)
      have := n2 b hb2
      simp at hm
      omega
    n0 := n2
    below := h.below.trans (tF.below h.below.size (fun b hb2 => by
      rcases List.mem_cons.1 hb2 with rfl | hb2
      · exact Nat.le_refl _
      · have := h.n0 b (opt_toList.1 hb2)
        omega))
    sz := Nat.le_trans h.sz tF.size }

theorem above_any (w : World) (a : Option Addr) : Calls Try.prog 41 #[.pointer a] w fun e w' => e = .returned (.func (.func 49) #[] #[.pointer (some ⟨w.heap.size, 0, none⟩)]) ∧ w' = w.alloc (.cells #[.pointer a] 23) := by
  have hmf : ∀ (fn : Fn) (first cap : Array Value) (w : World), (Instr.makeFunc fn first cap).run Try.prog w = .ok (.func fn first cap) w := fun _ _ _ _ => rfl
  go_enter Try.func41, Try.ntmps41
  go_wp2
  go_ret
  exact ⟨rfl, rfl⟩

/-- What above() hands back goes through L. -/
def Goes (w : World) (v : Value) (S : List Nat) (L : List (Nat × Bool)) : Prop :=
  (∀ x ∈ S, x < w.heap.size) ∧ ∀ (w1 : World) (Bw : Nat), Below w.heap.size w w1 → Bk w1 Bw 23 #[v] → SeqStopsQ 8 Try.prog 49 #[.pointer (some ⟨Bw, 0, none⟩)] encA (KpP (Bw :: S)) (fun ys => ys = L) (fun pre => pre <+: L) w1

theorem goes_any {w : World} {B M : Nat} {o : Or} (h : IsOr w B M o) (hk : o.Ok) : Goes w (.pointer (some ⟨B, 0, none⟩)) [B, M] o.abv :=
  ⟨by intro x hx; simp at hx; rcases hx with rfl | rfl; exact h.ltB; exact h.ltM, fun w1 Bw hb hbx => above1_stops hk (by simp) (by simp) (by simp) (fun x hx => by
    have := hb.size
    simp at hx
    rcases hx with rfl | rfl | rfl
    · exact hbx.lt
    · have := h.ltB; omega
    · have := h.ltM; omega) hbx (h.below hb)⟩
theorem goes_no {w : World} {v : Value} (h : Nm w v) : Goes w v [] [] := ⟨by simp, fun w1 Bw hb hbx => above1_no _ hbx (h.below hb)⟩

set_option maxHeartbeats 8000000 in
theorem pending_any {w : World} {v : Option Addr} {S0 : List Nat} {L : List (Nat × Bool)} (hG : Goes w (.pointer v) S0 L) (hL : L.length ≤ 1099511627776) :
    Calls Try.prog 26 #[.pointer v] w fun e w' => ∃ b S, e = .returned (.func (.func 43) #[] #[.pointer (some ⟨b, 0, none⟩)]) ∧ Av w' b S (pends L) ∧ (∀ x ∈ S, w.heap.size ≤ x) ∧ Below w.heap.size w w' := by
  have hmf : ∀ (fn : Fn) (first cap : Array Value) (w : World), (Instr.makeFunc fn first cap).run Try.prog w = .ok (.func fn first cap) w := fun _ _ _ _ => rfl
  refine calls_of_wpAt Try.func26 rfl ?_
  simp only [Try.ntmps26, List.size_toArray, List.length_cons, List.length_nil, Nat.reduceAdd, Nat.reduceSub, Array.replicate_succ, Array.replicate_zero, List.push_toArray, List.append_toArray, List.nil_append, List.cons_append]
  have HG : Hid (Goes w (.pointer v) S0 L) := hG
  have HL : Hid (L.length ≤ 1099511627776) := hL
  clear hG hL
  refine wpAt_seq_k fun K hK => wpAt_of_wp ?_
  go_wp2
  refine wpAt_seq_k fun K hK => wpAt_of_wp ?_
  go_wp2
  refine wpAt_seq_k fun K hK => ?_
  have HK : Hid _ := hK
  clear hK
  refine wpAt_seq_k fun K2 hK2 => wpAt_of_wp ?_
  go_wp2_with fail
  refine (above_any _ _).mono ?_
  rintro e w2 ⟨rfl, hw2⟩
  go_wp2
  rw [← hw2]
  have HP2 : Hid (Pe w w2 [] (.slice none 0 0) ∧ w2.heap.size = w.heap.size + 2 ∧ Bk w2 (w.heap.size + 1) 23 #[.pointer v]) := by
    have k1 := Bk.new (w.alloc (.cells #[.slice none 0 0] 36)) 23 #[.pointer v]
    rw [World.size_alloc] at k1
    rw [hw2]
    exact ⟨⟨(Bk.new w 36 #[.slice none 0 0]).alloc _, World.ownsRow_nil _ _ _ _, (fun b hb => by cases hb), ((Below.refl _ w).alloc (Nat.le_refl _) _).alloc (by simp) _, by simp⟩, by simp, k1⟩
  clear hw2
  have hws := HP2.out.2.1
  have hSL : ∀ x ∈ (w.heap.size + 1) :: S0, x < w2.heap.size ∧ x ≠ w.heap.size ∧ x < w.heap.size + 2 := fun x hx => by
    rcases List.mem_cons.1 hx with rfl | hx
    · omega
    · have := HG.out.1 x hx
      omega
  have HSL : Hid _ := hSL
  clear hSL
  refine wpAt_blockE ?_
  refine wpAt_boxedQ ?A Try.func26 (gf := 49) (lb := #[.pointer (some ⟨w.heap.size + 1, 0, none⟩)]) rfl (enters_of Try.func49 (by kernel_rfl) rfl)
    (HG.out.2 w2 (w.heap.size + 1) HP2.out.1.below HP2.out.2.2) KpP.t (fun W l o o' hl _ _ _ k hk => World.putObj_heap_other (fun e => by
      subst e
      have := (HSL.out _ hk).1
      omega)) (Below.refl _ _) (fun _ => rfl)
    (fun pre W => ∃ u, Pe w W pre u)
    (fun c xs W => False)
    (fun _ _ _ => False)
    (fun s A B' row hs hg hr => by
      obtain ⟨u, hs⟩ := hs
      exact ⟨u, hs.abides (by omega) hg hr⟩)
    (fun cc s A B row hs hg hr => hs.elim)
    ⟨_, HP2.out.1⟩
    (fun x bx W => True)
    (fun x bx _ A B' row hs hg hr => trivial)
    ?assign ?body ?done (fun D cc pre W _ _ h _ => h.elim) (fun D chain pre W _ _ h _ => h.elim)
  case assign =>
    rintro l pre x W K hL hK
    obtain ⟨bx, hbx⟩ : ∃ bx : Nat, bx = 0 := ⟨_, rfl⟩
    gi_wp2
    exact hK bx W (KeepsFrom.refl _ _) (KpP.refl _ _) hL trivial
  case body =>
    rintro l pre ⟨j, y⟩ bx W hl ⟨u, hT⟩ _ hpre
    have c0 := hT.b0.cell
    have f0 := hT.b0.frozen
    have hlen : (pends pre).length < 1099511627776 := by
      have h1 := hpre.length_le
      have h2 := HL.out
      have h3 := pends_le pre
      simp at h1
      omega
    cases y with
    | true =>
      have HE : Hid (∃ u, Pe w W (pre ++ [(j, true)]) u) := ⟨u, ⟨hT.b0, by rw [pends_yes]; exact hT.r0, hT.n0, hT.below, hT.sz⟩⟩
      clear hT HK hpre hlen
      gi_wp2
      exact ⟨KeepsFrom.refl _ _, KpP.refl _ _, HE.out⟩
    | false =>
      obtain ⟨q, c, hu, -⟩ := row_form hT.r0
      have HT : Hid (Pe w W pre u) := hT
      have HU : Hid (u = .slice q (pends pre).length c) := hu
      obtain ⟨i0, hi, hz0, hz1, hz2⟩ := info_parts i64info
      obtain ⟨w1, hw1⟩ : ∃ w1, W.alloc (.cells #[.int .i64 (j : Int)] 2) = w1 := ⟨_, rfl⟩
      have HB1 : Hid (Below W.heap.size W w1) := hw1 ▸ (Below.refl _ W).alloc (Nat.le_refl _) _
      have k1 : Bk w1 W.heap.size 2 #[.int .i64 (j : Int)] := hw1 ▸ Bk.new W _ _
      have HC1 : Hid (∀ (i : Nat) (x : Value), [Value.int .i64 (j : Int)][i]? = some x → w1.cell? ((⟨W.heap.size, 0, none⟩ : Addr).add i) = some x) := fun i x hx => by
        match i, hx with
        | 0, hx =>
          simp at hx
          subst hx
          exact k1.cell 0
      have HR1 : Hid (w1.ownsRow 0 2 1 u (pends pre).length (ints (pends pre))) := owns_tn hT.r0 (Tn.of_below HB1.out []) (by simp)
      have c01 : w1.cell? ⟨w.heap.size, 0, none⟩ = some u := (Bk.below (show Bk W _ _ _ from hT.b0) HB1.out (Bk.lt (show Bk W _ _ _ from hT.b0))).cell 0
      clear hT HK hpre k1 hu
      gi_wp2_with (gi_at_builtin; (refine wpListIn_append_own_at _ rfl _ _ 36 rfl 0 2 i0 (.int .i64 0) 1 8 Try.underlying36 hi hz0 hz1 hz2 rfl (by decide) _ _ _ rfl HR1.out ⟨W.heap.size, 0, none⟩ 1 1 [.int .i64 (j : Int)] rfl rfl HC1.out ?c2 ?c3 ?c4 (Nat.zero_le _) ?_))
      case c2 => intro x hx; simp at hx; subst hx; rfl
      case c3 => unfold maxLen; omega
      case c4 => omega
      intro v2 w5 h2 h3 _ h5
      obtain ⟨k5, hP5, t5⟩ := HT.out.app HB1.out h2 h3 h5
      have c5 : w5.cell? ⟨w.heap.size, 0, none⟩ = some u := k5.cell 0
      have f5 : w5.frozen? ⟨w.heap.size, 0, none⟩ = false := k5.frozen 0
      obtain ⟨q5, c6, hv5, -⟩ := row_form h2
      have HE : Hid (KeepsFrom w2.heap.size W (w5.setCell ⟨w.heap.size, 0, none⟩ v2) ∧ KpP ((w.heap.size + 1) :: S0) W (w5.setCell ⟨w.heap.size, 0, none⟩ v2) ∧ ∃ u, Pe w (w5.setCell ⟨w.heap.size, 0, none⟩ v2) (pre ++ [(j, false)]) u) := by
        refine ⟨(keeps_tn t5 (fun x hx => ?_)).from _, KpP.of_tn t5 (fun x hx => ?_), v2, hP5⟩
        · rcases List.mem_cons.1 hx with rfl | hx
          · exact ⟨_, HT.out.b0, rfl⟩
          · exact owns_cells HT.out.r0 (opt_toList.1 hx)
        · have h1 := HSL.out x hx
          have h4 := HT.out.sz
          refine ⟨by omega, fun hm => ?_⟩
          rcases List.mem_cons.1 hm with hm | hm
          · exact h1.2.1 hm
          · have := HT.out.n0 x (opt_toList.1 hm)
            omega
      clear h2 h3 h5 k5 hP5 t5 HR1 HC1 HB1 hi hz0 hz1 hz2 hw1
      subst hv5
      gi_wp2
      exact HE.out
  case done =>
    rintro D zs W hD rfl ⟨u, hT⟩ hK
    refine HK.out _ _ (wpAt_of_wp ?_)
    have HE : Hid (∃ S, Av (W.putObj D (.deferred none)) w.heap.size S (pends zs) ∧ (∀ x ∈ S, w.heap.size ≤ x) ∧ Below w.heap.size w (W.putObj D (.deferred none))) := by
      obtain ⟨q, c, hu, -⟩ := row_form hT.r0
      have tp : Tn [D] W (W.putObj D (.deferred none)) := ⟨rfl, rfl, rfl, by simp, fun j hj hn => World.putObj_heap_other (by simpa using hn)⟩
      have hDn : ∀ x, (∃ o : Obj, W.heap[x]? = some o ∧ o.isCells = true) → x ∉ [D] := fun x ⟨o, h1, h2⟩ hm => by
        simp at hm
        subst hm
        rw [hK] at h1
        cases h1
        cases h2
      have hD0 : w.heap.size ∉ [D] := hDn _ ⟨_, hT.b0, rfl⟩
      have hDv : ∀ b, u.ownBlock = some b → b ∉ [D] := fun b hb => hDn b (owns_cells hT.r0 hb)
      have r1 := owns_tn hT.r0 tp hDv
      have k1 : Bk (W.putObj D (.deferred none)) w.heap.size 36 #[u] := Bk.tn (show Bk W _ _ _ from hT.b0) tp hD0
      refine ⟨w.heap.size :: u.ownBlock.toList, ⟨⟨q, c, by rw [← hu]; exact k1, fun j x hx => ?_, ?_⟩, by simp, ?_, Nat.le_trans (pends_le zs) HL.out⟩, ?_, hT.below.trans (tp.below hT.below.size (by simp; omega))⟩
      · have hjl : j < (pends zs).length := (List.getElem?_eq_some_iff.1 hx).1
        obtain ⟨G, K, hG⟩ := row_some r1 (by omega)
        rw [hG] at r1 hu
        cases hu
        refine ⟨G, rfl, ?_⟩
        rw [r1.cellAt j (by omega)]
        unfold ints
        rw [List.getElem?_map, hx]
        rfl
      · intro G o hq
        rw [hu, hq]
        simp [Value.ownBlock]
      · intro x hx
        rcases List.mem_cons.1 hx with rfl | hx
        · exact k1.lt
        · exact row_block r1 x (opt_toList.1 hx)
      · intro x hx
        rcases List.mem_cons.1 hx with rfl | hx
        · exact Nat.le_refl _
        · have := hT.n0 x (opt_toList.1 hx)
          omega
    have HKD : Hid (W.heap[D]? = some (.deferred (some []))) := hK
    clear hT hK HK
    go_wp2
    refine ⟨by simp, .inl ⟨_, _, rfl, run_takeDeferred HKD.out, ?_⟩⟩
    obtain ⟨S, H⟩ := HE.out
    refine ⟨.func (.func 43) #[] #[.pointer (some ⟨w.heap.size, 0, none⟩)], ?_, w.heap.size, S, rfl, H⟩
    simp [results, Try.f26, go_sem]
end Go.Proofs.Ytdgphlghmjnjfaa
