/- Schedulers: a round is walked. -/
import Derived.Test.YtnjokhdedgdjjaaSdK
namespace Go.Proofs.Ytnjokhdedgdjjaa
open Go.RowKit Go.Maps Go.Lib Go.Shelf Go.Sort
attribute [local go_sem] Oper.semAt_some
set_option linter.unusedVariables false
set_option maxRecDepth 100000

set_option maxHeartbeats 4000000 in
theorem round_any {w : World} {N : Nat} {g : Ge} {s : Sc} (h : Sd w N g s) (hr : s.rest) (hsm : s.small) (hdl : s.done.length ≤ 4611686018427387904) {mm : Nat} (hmm : mm ≤ 4611686018427387904) {k : Nat} (hk : k = min s.al.length mm) :
    Calls Try.prog 36 #[.pointer (some ⟨g.S, 0, none⟩), .int .i64 (mm : Int)] w fun e w' => e = .returned (.int .i64 (k : Int)) ∧ ∃ g', Sd w' N g' (s.advs (s.al.take k)).struck ∧ Aft w w' g g' s (s.advs (s.al.take k)).struck := by
  refine calls_of_wpAt Try.func36 rfl ?_
  simp only [Try.ntmps36, List.size_toArray, List.length_cons, List.length_nil, Nat.reduceAdd, Nat.reduceSub, Array.replicate_succ, Array.replicate_zero, List.push_toArray, List.append_toArray, List.nil_append, List.cons_append]
  have HH : Hid (Sd w N g s ∧ s.rest ∧ s.small ∧ s.done.length ≤ 4611686018427387904 ∧ k = min s.al.length mm) := ⟨h, hr, hsm, hdl, hk⟩
  clear h hr hsm hdl hk
  refine wpAt_seq_k fun K hK => wpAt_of_wp ?_
  go_wp2
  refine wpAt_seq_k fun K hK => wpAt_of_wp ?_
  go_wp2
  refine wpAt_seq_k fun K hK => ?_
  have HK : Hid _ := hK
  clear hK
  refine wpAt_seq_k fun K2 hK2 => wpAt_of_wp ?_
  obtain ⟨w3, hw3⟩ : ∃ w3, ((w.alloc (.cells #[.pointer (some ⟨g.S, 0, none⟩)] 23)).alloc (.cells #[.int .i64 (mm : Int)] 3)).alloc (.cells #[.int .i64 0] 3) = w3 := ⟨_, rfl⟩
  have HB3 : Hid (Below w.heap.size w w3 ∧ w3.heap.size = w.heap.size + 1 + 1 + 1 ∧ Bk w3 w.heap.size 23 #[.pointer (some ⟨g.S, 0, none⟩)] ∧ Bk w3 (w.heap.size + 1) 3 #[.int .i64 (mm : Int)] ∧ Bk w3 (w.heap.size + 1 + 1) 3 #[.int .i64 0]) := by
    rw [← hw3]
    have k1 := Bk.new (w.alloc (.cells #[.pointer (some ⟨g.S, 0, none⟩)] 23)) 3 #[.int .i64 (mm : Int)]
    have k2 := Bk.new ((w.alloc (.cells #[.pointer (some ⟨g.S, 0, none⟩)] 23)).alloc (.cells #[.int .i64 (mm : Int)] 3)) 3 #[.int .i64 0]
    simp only [World.size_alloc] at k1 k2
    exact ⟨(((Below.refl _ w).alloc (Nat.le_refl _) _).alloc (by simp) _).alloc (by simp; omega) _, by simp, ((Bk.new w _ _).alloc _).alloc _, k1.alloc _, k2⟩
  rw [hw3]
  have h3 : Sd w3 N g s := HH.out.1.below HB3.out.1
  have a0 : w3.cell? ⟨w.heap.size, 0, none⟩ = some (.pointer (some ⟨g.S, 0, none⟩)) := HB3.out.2.2.1.cell 0
  have H3 : Hid (Sd w3 N g s) := h3
  clear hw3 h3
  go_wp2_with fail
  refine (alive_any H3.out (by have := H3.out.len HH.out.2.1; omega)).mono ?_
  rintro e w4 ⟨b, S, rfl, hAv, hSge, hb4⟩
  have HR4 : Hid (Rn w w4 w4.heap.size N g s mm []) := by
    have hbb : Below w.heap.size w w4 := HB3.out.1.trans (hb4.mono HB3.out.1.size)
    have hlt := HB3.out.2.1
    refine ⟨HB3.out.2.2.1.below hb4 (by omega), HB3.out.2.2.2.1.below hb4 (by omega), HB3.out.2.2.2.2.below hb4 (by omega), ⟨g, H3.out.below hb4, ⟨Tn.of_below hbb _, ⟨rfl, rfl, rfl, rfl, rfl⟩, fun x hx => .inl hx, fun x hx => .inl hx⟩, fun x hx => .inl (HH.out.1.lt x hx), fun b hb => .inl ?_⟩, ⟨HH.out.1.mp.lt, HH.out.1.bx.ch.lt, HH.out.1.bx.blk.lt⟩, List.nil_prefix, Nat.zero_le _, Nat.le_refl _⟩
    obtain ⟨x, hx⟩ := HH.out.1.bx.mem hb
    exact hx.lt
  have hw4 : w.heap.size + 1 + 1 + 1 ≤ w4.heap.size := by have := hb4.size; have := HB3.out.2.1; omega
  have HS : Hid ((∀ x ∈ S, w.heap.size + 1 + 1 + 1 ≤ x) ∧ ∀ x ∈ S, x < w4.heap.size) := ⟨fun x hx => by have := hSge x hx; have := HB3.out.2.1; omega, hAv.lt⟩
  clear hb4 hSge a0
  go_wp2
  refine wpAt_blockE ?_
  have FIN : Hid (∀ (D : Nat) (pre : List Nat) (W : World), w4.heap.size ≤ D → pre.length = k → pre = s.al.take k → Rn w W w4.heap.size N g s mm pre → W.heap[D]? = some (.deferred (some [])) → K { tmps := #[Value.pointer (some ⟨g.S, 0, none⟩), Value.int IntKind.i64 (mm : Int), Value.pointer (some ⟨w.heap.size, 0, none⟩), Value.pointer (some ⟨w.heap.size + 1, 0, none⟩), Value.int IntKind.i64 0, Value.pointer (some ⟨w.heap.size + 1 + 1, 0, none⟩), undef, Value.pointer (some ⟨g.S, 0, none⟩), .func (.func 43) #[] #[.pointer (some ⟨b, 0, none⟩)], undef, undef, undef, undef, undef, undef, undef, undef, undef, undef, undef, undef], defers := [{ target := .collected D, args := #[] }] } W) := by
    intro D pre W hD hlen hpre hT hK
    obtain ⟨g', h1, h2, h3, h4⟩ := hT.sd
    refine HK.out _ _ (wpAt_of_wp ?_)
    have z0 := hT.b0.cell
    have z2 := hT.b2.cell
    have hnums : ((s.advs pre).fl.map Fb.num).Sublist s.al := by rw [HH.out.2.1]; exact advs_nums pre s
    have hnd : (s.advs pre).al.Nodup := by
      rw [advs_al, HH.out.2.1]
      exact HH.out.1.rs.imp (fun h => by omega)
    have hst := strikeAll_any h1 (struck_cut hnd (by rw [advs_al]; exact hnums)) (fun x hx => by
      rw [advs_al, HH.out.2.1] at hx
      obtain ⟨f, hf, rfl⟩ := List.mem_map.1 hx
      have := (HH.out.1.up f hf).2.2
      have := HH.out.1.hN
      omega) (by rw [advs_al]; have := HH.out.1.len HH.out.2.1; omega)
    rw [h2.same.1] at hst
    have HST : Hid _ := hst
    have HT : Hid (Rn w W w4.heap.size N g s mm pre ∧ Sd W N g' (s.advs pre) ∧ Aft w W g g' s (s.advs pre) ∧ (∀ x ∈ ft g' (s.advs pre), x < w.heap.size ∨ w4.heap.size ≤ x) ∧ (∀ b ∈ g'.bs, b < w.heap.size ∨ w4.heap.size ≤ b)) := ⟨hT, h1, h2, h3, h4⟩
    rw [hlen] at z2
    clear hT h1 h2 h3 h4 hst hnd hnums
    go_wp2_with fail
    refine Calls.mono HST.out ?_
    rintro e W5 ⟨rfl, g5, h5, t5⟩
    have hnot : ∀ y, w.heap.size ≤ y → y < w4.heap.size → y ∉ ft g' (s.advs pre) := fun y h1 h2 hm => by
      have := HT.out.2.2.2.1 y hm
      omega
    have k2 : Bk W5 (w.heap.size + 1 + 1) 3 #[.int .i64 (k : Int)] := Bk.tn (show Bk W _ _ _ from hlen ▸ HT.out.1.b2) t5.tn (hnot _ (by omega) (by omega))
    have y2 : W5.cell? ⟨w.heap.size + 1 + 1, 0, none⟩ = some (.int .i64 (k : Int)) := k2.cell 0
    have hDM : ∀ {t : TypeId} {cs : Array Value}, ¬ Bk W D t cs := fun hb => by
      rw [show W.heap[D]? = _ from hb] at hK
      cases hK
    have hDf : D ∉ ft g' (s.advs pre) := by
      have hgs := HT.out.1.gs
      have hsame := HT.out.2.2.1.same
      refine fun hm => (ft_sub (P := fun x => x ≠ D) (fun e => hDM (e ▸ HT.out.2.1.blk)) (fun e => by rw [hsame.2.1] at e; omega) (fun e => by rw [hsame.2.2.2.1] at e; omega) (fun j hj e => ?_) (fun j hj e => ?_) (fun f hf e => hDM (e ▸ HT.out.2.1.fb f hf)) (fun a ha e => ?_)) D hm rfl
      · obtain ⟨cs, hc⟩ := row_bk HT.out.2.1.al hj
        exact hDM (e ▸ hc)
      · obtain ⟨cs, hc⟩ := row_bk HT.out.2.1.dn hj
        exact hDM (e ▸ hc)
      · obtain ⟨b', i', cs, rfl, hb, hc⟩ := HT.out.2.1.cn a ha
        have e' : b' = D := e
        exact hDM (e' ▸ hb)
    have hK5 : W5.heap[D]? = some (.deferred (some [])) := (t5.tn.block D (Array.getElem?_eq_some_iff.1 hK).1 hDf).trans hK
    have hD5 : D < W5.heap.size := (Array.getElem?_eq_some_iff.1 hK5).1
    have hE : ∃ g'', Sd (W5.putObj D (.deferred none)) N g'' (s.advs pre).struck ∧ Aft w (W5.putObj D (.deferred none)) g g'' s (s.advs pre).struck := by
      have hA := HT.out.2.2.1.trans t5
      have hgs := HT.out.1.gs
      have tp : Tn [D] W5 (W5.putObj D (.deferred none)) := ⟨rfl, rfl, rfl, by simp, fun j hj hn => World.putObj_heap_other (by simpa using hn)⟩
      have hDM5 : ∀ {t : TypeId} {cs : Array Value} {x : Nat}, Bk W5 x t cs → x ∉ [D] := fun hb hm => by
        simp at hm
        subst hm
        rw [show W5.heap[_]? = _ from hb] at hK5
        cases hK5
      refine ⟨g5, h5.tn tp ?_ (hDM5 h5.bx.blk) (fun b hb => ?_), ⟨hA.tn.trans tp (fun x hx => by simp at hx; subst hx; exact .inr (by omega)), hA.same, hA.sub, hA.bs⟩⟩
      · refine ft_sub (hDM5 h5.blk) ?_ ?_ (fun j hj => ?_) (fun j hj => ?_) (fun f hf => hDM5 (h5.fb f hf)) (fun a ha => ?_)
        · rw [hA.same.2.1]; simp; omega
        · rw [hA.same.2.2.2.1]; simp; omega
        · obtain ⟨cs, hc⟩ := row_bk h5.al hj
          exact hDM5 hc
        · obtain ⟨cs, hc⟩ := row_bk h5.dn hj
          exact hDM5 hc
        · obtain ⟨b', i', cs, rfl, hb, hc⟩ := h5.cn a ha
          exact hDM5 hb
      · obtain ⟨x, hx⟩ := h5.bx.mem hb
        exact hDM5 hx
    have HE : Hid _ := hE
    have HK5 : Hid (W5.heap[D]? = some (.deferred (some []))) := hK5
    clear h5 t5 hE hK5 hDf k2 hnot HST
    go_wp2
    refine ⟨by simp, .inl ⟨_, _, rfl, run_takeDeferred HK5.out, ?_⟩⟩
    refine ⟨.int .i64 (k : Int), ?_, rfl, ?_⟩
    · simp [results, Try.f36, go_sem]
    · rw [← hpre]
      exact HE.out
  refine wpAt_boxed ?A Try.func36 (gf := 43) (lb := #[.pointer (some ⟨b, 0, none⟩)]) rfl (enters_of Try.func43 (by kernel_rfl) rfl)
    (alive1_stopsP hAv) KpP.t (fun W l o o' hl _ _ _ k hk => World.putObj_heap_other (fun e => by
      subst e
      have := HS.out.2 _ hk
      omega)) (Below.refl _ _) (fun _ => rfl)
    (fun pre W => Rn w W w4.heap.size N g s mm pre)
    (fun c xs W => c = .exit 0 ∧ ∃ pre, (∃ x, xs = pre ++ [x]) ∧ pre.length = mm ∧ Rn w W w4.heap.size N g s mm pre)
    (fun _ _ _ => False)
    (fun s A B' row hs hg hr => hs.abides (by omega) hg hr)
    (fun cc s A B row hs hg hr => by
      obtain ⟨h1, pre, h2, h3, h4⟩ := hs
      exact ⟨h1, pre, h2, h3, h4.abides (by omega) hg hr⟩)
    HR4.out
    (fun x bx W => True)
    (fun x bx _ A B' row hs hg hr => trivial)
    ?assign ?body ?done ?stop (fun D chain pre W _ _ h _ => h.elim)
  case assign =>
    rintro l pre x W K hL hK
    obtain ⟨bx, hbx⟩ : ∃ bx : Nat, bx = 0 := ⟨_, rfl⟩
    gi_wp2
    exact hK bx W (KeepsFrom.refl _ _) (KpP.refl _ _) hL trivial
  case done =>
    rintro D xs W hD rfl hT hK
    refine FIN.out D s.al W hD ?_ ?_ hT hK
    · have := hT.le
      have := HH.out.2.2.2.2
      omega
    · have := hT.le
      have hk := HH.out.2.2.2.2
      rw [List.take_of_length_le (by omega)]
  case stop =>
    rintro D cc xs W hD hpre ⟨rfl, pre, ⟨x, rfl⟩, hlen, hT⟩ hK
    have hpl : pre.length < s.al.length := by
      have := hpre.length_le
      simp at this
      omega
    have hk := HH.out.2.2.2.2
    refine wpIn_exit ⟨rfl, ?_⟩
    refine FIN.out D pre W hD (by omega) ?_ hT hK
    have hpp : pre <+: s.al := (List.prefix_append pre [x]).trans hpre
    rw [show k = pre.length by omega]
    exact (List.prefix_iff_eq_take.1 hpp)
  case body =>
    rintro l pre x bx W hl hT _ hpre
    have c0 := hT.b0.cell
    have c1 := hT.b1.cell
    have c2 := hT.b2.cell
    obtain ⟨N1, hN1⟩ : ∃ N1, pre.length = N1 := ⟨_, rfl⟩
    have hle := hT.le
    rw [hN1] at c2 hle
    have HT : Hid (Rn w W w4.heap.size N g s mm pre ∧ pre.length = N1) := ⟨hT, hN1⟩
    clear hT hN1
    by_cases hst : N1 = mm
    · subst hst
      clear HK FIN
      gi_wp2
      exact ⟨KeepsFrom.refl _ _, rfl, pre, ⟨x, rfl⟩, HT.out.2, HT.out.1⟩
    · have hst' : ¬ (N1 : Int) = (mm : Int) := by omega
      obtain ⟨g', h1, h2, h3, h4⟩ := HT.out.1.sd
      have hxal : x ∈ s.al := hpre.subset (by simp)
      have hnd : s.al.Nodup := by
        rw [HH.out.2.1]
        exact HH.out.1.rs.imp (fun h => by omega)
      have hxn : x ∉ pre := by
        have := hpre.sublist.nodup hnd
        rw [List.nodup_append] at this
        exact fun hm => this.2.2 x hm x (by simp) rfl
      obtain ⟨f, hf⟩ : ∃ f, fat s.fl (x : Int) = some f := by
        have : (fat s.fl (x : Int)).isSome = true := by rw [fat_isSome, ← HH.out.2.1]; simpa using hxal
        exact Option.isSome_iff_exists.1 this
      have hxne : ∀ y ∈ pre, (x : Int) ≠ ((y : Nat) : Int) := fun y hy e => by
        have e' : x = y := by omega
        exact hxn (e' ▸ hy)
      have hf' : fat (s.advs pre).fl (x : Int) = some f := (fat_advs_ne pre hxne s).trans hf
      have hadv := advance_any h1 (fat_mem hf').1 (advs_small pre HH.out.2.2.1 f (fat_mem hf').1) (by rw [advs_len]; exact HH.out.2.2.2.1) (ov := decide (f.left ≤ 1)) rfl (n := x) (by have := (fat_mem hf').2; omega)
      rw [h2.same.1] at hadv
      have HA : Hid _ := hadv
      have HT2 : Hid (Sd W N g' (s.advs pre) ∧ Aft w W g g' s (s.advs pre) ∧ (∀ x ∈ ft g' (s.advs pre), x < w.heap.size ∨ w4.heap.size ≤ x) ∧ (∀ b ∈ g'.bs, b < w.heap.size ∨ w4.heap.size ≤ b) ∧ (s.advs pre).adv f = s.advs (pre ++ [x])) := ⟨h1, h2, h3, h4, by rw [Sc.advs_snoc, Sc.advN_some hf']⟩
      clear hadv h1 h2 h3 h4 hf hf' hxn hnd hxal hxne HK FIN
      generalize decide (f.left ≤ 1) = ov at HA
      gi_wp2_with fail
      refine ⟨trivial, ?_⟩
      refine (CallsIn.inRound l (callsIn_wide.2 HA.out)).mono ?_
      rintro e W3 ⟨rfl, g5, h5, t5⟩
      rw [HT2.out.2.2.2.2] at h5 t5
      have hnot : ∀ y, w.heap.size ≤ y → y < w4.heap.size → y ∉ ft g' (s.advs pre) := fun y h1 h2 hm => by
        have := HT2.out.2.2.1 y hm
        omega
      have k0 : Bk W3 w.heap.size 23 #[.pointer (some ⟨g.S, 0, none⟩)] := Bk.tn (show Bk W _ _ _ from HT.out.1.b0) t5.tn (hnot _ (by omega) (by omega))
      have k1 : Bk W3 (w.heap.size + 1) 3 #[.int .i64 (mm : Int)] := Bk.tn (show Bk W _ _ _ from HT.out.1.b1) t5.tn (hnot _ (by omega) (by omega))
      have k2 : Bk W3 (w.heap.size + 1 + 1) 3 #[.int .i64 (N1 : Int)] := Bk.tn (show Bk W _ _ _ from HT.out.2 ▸ HT.out.1.b2) t5.tn (hnot _ (by omega) (by omega))
      have d2 : W3.cell? ⟨w.heap.size + 1 + 1, 0, none⟩ = some (.int .i64 (N1 : Int)) := k2.cell 0
      have e2 := k2.frozen 0
      have hw : wrap64 ((N1 : Int) + 1) = (N1 : Int) + 1 := by unfold wrap64; omega
      have HE : Hid (KeepsFrom w4.heap.size W (W3.setCell ⟨w.heap.size + 1 + 1, 0, none⟩ (.int .i64 ((N1 : Int) + 1))) ∧ KpP S W (W3.setCell ⟨w.heap.size + 1 + 1, 0, none⟩ (.int .i64 ((N1 : Int) + 1))) ∧ Rn w (W3.setCell ⟨w.heap.size + 1 + 1, 0, none⟩ (.int .i64 ((N1 : Int) + 1))) w4.heap.size N g s mm (pre ++ [x])) := by
        have hgs := HT.out.1.gs
        have tp : Tn [w.heap.size + 1 + 1] W3 (W3.setCell ⟨w.heap.size + 1 + 1, 0, none⟩ (.int .i64 ((N1 : Int) + 1))) := (Tn.refl _ W3).setCell (.inl (by simp)) _
        have hkf : KeepsFrom w4.heap.size W W3 := HT2.out.1.keeps (by rw [HT2.out.2.1.same.2.1]; omega) (by rw [HT2.out.2.1.same.2.2.2.1]; omega) t5.tn
        have hft : ∀ y ∈ ft g5 (s.advs (pre ++ [x])), y < w.heap.size ∨ w4.heap.size ≤ y := fun y hy => by
          rcases t5.sub y hy with h | h
          · exact HT2.out.2.2.1 y h
          · have := HT.out.1.sz
            exact .inr (by omega)
        have hbs : ∀ y ∈ g5.bs, y < w.heap.size ∨ w4.heap.size ≤ y := fun y hy => by
          rcases t5.bs y hy with h | h
          · exact HT2.out.2.2.2.1 y h
          · have := HT.out.1.sz
            exact .inr (by omega)
        have hA := HT2.out.2.1.trans t5
        refine ⟨hkf.trans (keeps_tn tp (fun y hy => ?_) |>.from _), fun y hy => ?_, ?_⟩
        · simp at hy
          subst hy
          exact ⟨_, k2, rfl⟩
        · have h1 := HS.out.1 y hy
          have h2 := HS.out.2 y hy
          have h3 := HT.out.1.sz
          refine (tp.block y (by have := t5.tn.size; omega) (by simp; omega)).trans (t5.tn.block y (by omega) (hnot y (by omega) h2))
        · refine ⟨k0.tn tp (by simp; omega), k1.tn tp (by simp), ?_, ⟨g5, h5.tn tp (fun y hy hm => ?_) (fun hm => ?_) (fun y hy hm => ?_), ⟨hA.tn.trans tp (fun y hy => by simp at hy; subst hy; exact .inr (by omega)), hA.same, hA.sub, hA.bs⟩, hft, hbs⟩, hgs, hpre, ?_, ?_⟩
          · have := k2.set 0 (.int .i64 ((N1 : Int) + 1))
            rw [List.length_append, HT.out.2, show ((N1 + [x].length : Nat) : Int) = (N1 : Int) + 1 by simp]
            exact this
          · simp at hm
            have := hft y hy
            omega
          · simp at hm
            have := hA.same.2.2.1
            omega
          · simp at hm
            have := hbs y hy
            omega
          · rw [List.length_append, HT.out.2]
            simp
            omega
          · exact Nat.le_trans (Nat.le_trans HT.out.1.sz t5.tn.size) tp.size
      clear h5 t5 hnot k0 k1 k2 HA HT2
      gi_wp2
      exact HE.out
end Go.Proofs.Ytnjokhdedgdjjaa
