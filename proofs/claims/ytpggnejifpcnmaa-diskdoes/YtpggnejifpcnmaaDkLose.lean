/- Disks: a crash, in the program's own words. -/
import Derived.Test.YtpggnejifpcnmaaDkLoseM
namespace Go.Proofs.Ytpggnejifpcnmaa
open Go.RowKit Go.Shelf Go.Maps
attribute [local go_sem] Oper.semAt_some
set_option linter.unusedVariables false

/-- A dirty sector's number. -/
abbrev Dn (d : Dk) := { i : Nat // i < d.n ∧ (d.dirty i).isSome = true }

theorem dns (d : Dk) : ∃ L : List (Dn d), L.map (fun x => x.1) = dirts d.dirty d.n := by
  have h : ∀ i ∈ dirts d.dirty d.n, i < d.n ∧ (d.dirty i).isSome = true := by
    intro i hi
    simpa [dirts] using hi
  refine ⟨(dirts d.dirty d.n).attach.map (fun x => ⟨x.1, h x.1 x.2⟩), ?_⟩
  simp [List.map_map, Function.comp_def]

theorem Goes.sub {d : Dk} {m0 Bs : Nat} {W : World} {L : List (Dn d)} {l : List Nat} (hL : L.map (fun x => x.1) = l) (h : Goes (fun i : Nat => (i : Int)) m0 W Bs l) : Goes (fun x : Dn d => (x.1 : Int)) m0 W Bs L := by
  subst hL
  obtain ⟨p, cap, hb, hp⟩ := h.box
  rw [List.length_map] at hb hp
  refine ⟨⟨p, cap, hb, fun hl => ?_⟩, h.base, by have := h.reach; simpa using this⟩
  obtain ⟨b, off, rfl, h0, h1, hc⟩ := hp hl
  exact ⟨b, off, rfl, h0, h1, fun j x hx => hc j x.1 (by simp [hx])⟩

/-- Between two rounds. -/
structure Ls (w : World) (B S M : Nat) (pd : Option Addr) (cd : Nat) (kb : List Nat) (d : Dk) (p : Option Addr) (c : Nat) (ks : List Bool) (pre : List (Dn d)) (W : World) : Prop where
  bd : Boxed W w.heap.size 23 (.pointer (some ⟨B, 0, none⟩))
  bk : Boxed W (w.heap.size + 1) 31 (.slice p ks.length c)
  bp : Boxed W (w.heap.size + 1 + 1) 3 (.int .i64 (pre.length : Int))
  dk : IsDk W B S M pd cd kb { d with sure := (lay d.dirty ks d.sure (pre.map (fun x => x.1))).2 }
  ks : Bls W p ks
  tn : Tn [S] w W

theorem boxed_from {W W' : World} {row : Option Nat} {B m : Nat} {t : TypeId} {v : Value} (h : Boxed W B t v) (hg : W.grownBy W' row) (hr : ∀ r, row = some r → m ≤ r ∧ ∃ o : Obj, W.heap[r]? = some o ∧ o.isCells = false) : Boxed W' B t v :=
  h.kept hg fun e' => by
    obtain ⟨_, o, ho, hc⟩ := hr B e'.symm
    rw [show W.heap[B]? = _ from h] at ho
    cases ho
    cases hc

theorem grown_tn {W W' : World} {row : Option Nat} (hg : W.grownBy W' row) : Tn row.toList W W' :=
  ⟨hg.os, hg.tape, hg.output, hg.size, fun k hk hn => hg.block k hk (fun e => hn (by rw [← e]; simp))⟩

theorem row_ge {W : World} {row : Option Nat} {m : Nat} (hr : ∀ r, row = some r → m ≤ r ∧ ∃ o : Obj, W.heap[r]? = some o ∧ o.isCells = false) {x : Nat} (hx : x < m) : x ∉ row.toList := by
  intro h
  have : row = some x := by simpa using h
  have := (hr x this).1
  omega

theorem Ls.abides {w : World} {B S M : Nat} {pd : Option Addr} {cd : Nat} {kb : List Nat} {d : Dk} {p : Option Addr} {c : Nat} {ks : List Bool} {pre : List (Dn d)} {W W' : World} {row : Option Nat} {m : Nat} (h : Ls w B S M pd cd kb d p c ks pre W)
    (hm : w.heap.size ≤ m) (hlt : ∀ b ∈ B :: S :: M :: kb, b < w.heap.size) (hkl : ∀ ad, p = some ad → 0 < ks.length → ad.block < w.heap.size) (hg : W.grownBy W' row) (hr : ∀ r, row = some r → m ≤ r ∧ ∃ o : Obj, W.heap[r]? = some o ∧ o.isCells = false) : Ls w B S M pd cd kb d p c ks pre W' where
  bd := boxed_from h.bd hg hr
  bk := boxed_from h.bk hg hr
  bp := boxed_from h.bp hg hr
  dk := h.dk.tn (grown_tn hg) (fun b hb => row_ge hr (by have := hlt b hb; omega))
  ks := h.ks.tn (grown_tn hg) (fun ad ha hl => row_ge hr (by have := hkl ad ha hl; omega))
  tn := h.tn.grown hg (fun k hk => .inr (by have := (hr k hk).1; omega))

theorem ls_start {w : World} {B S M : Nat} {pd : Option Addr} {cd : Nat} {kb : List Nat} {d : Dk} (h : IsDk w B S M pd cd kb d) {p : Option Addr} {c : Nat} {ks : List Bool} (hks : Bls w p ks) :
    ∃ W, W = ((w.alloc (Obj.cells #[Value.pointer (some ⟨B, 0, none⟩)] 23)).alloc (Obj.cells #[Value.slice p ks.length c] 31)).alloc (Obj.cells #[Value.int IntKind.i64 0] 3) ∧ W.heap.size = w.heap.size + 3 ∧ Below w.heap.size w W ∧ Ls w B S M pd cd kb d p c ks [] W := by
  have b1 : Below w.heap.size w (((w.alloc (Obj.cells #[Value.pointer (some ⟨B, 0, none⟩)] 23)).alloc (Obj.cells #[Value.slice p ks.length c] 31)).alloc (Obj.cells #[Value.int IntKind.i64 0] 3)) := (((Below.refl _ w).alloc (Nat.le_refl _) _).alloc (by simp) _).alloc (by simp; omega) _
  refine ⟨_, rfl, by simp, b1, ?_⟩
  have c0 := Bk.new w 23 #[Value.pointer (some ⟨B, 0, none⟩)]
  have c1 := Bk.new (w.alloc (Obj.cells #[Value.pointer (some ⟨B, 0, none⟩)] 23)) 31 #[Value.slice p ks.length c]
  have c2 := Bk.new ((w.alloc (Obj.cells #[Value.pointer (some ⟨B, 0, none⟩)] 23)).alloc (Obj.cells #[Value.slice p ks.length c] 31)) 3 #[Value.int IntKind.i64 0]
  simp only [World.size_alloc] at c1 c2
  exact {
    bd := (c0.alloc _).alloc _
    bk := c1.alloc _
    bp := c2
    dk := by
      have := h.tn (Tn.of_below b1 []) (fun _ _ => by simp)
      simpa [lay] using this
    ks := hks.below b1 (Nat.le_refl _)
    tn := Tn.of_below b1 _ }

/-- The end of a crash. -/
theorem lose_end {w W W1 Wf : World} {B S M : Nat} {pd : Option Addr} {cd : Nat} {kb : List Nat} {d : Dk} {ks : List Bool} {D : Nat} (h0 : Tn [S] w W) (h1 : Tn [B] W W1) (hd : IsDk W1 B S W.heap.size pd cd kb { d with sure := loseS d.dirty ks d.sure, dirty := fun _ => none })
    (hf : Tn [B, D] W1 Wf) (hDw : w.heap.size ≤ D) (hDn : D ≠ B ∧ D ≠ S ∧ D ≠ W.heap.size)
    (hb : Bk Wf B 62 #[.slice (some ⟨S, 0, none⟩) d.n d.cs, .map (some W.heap.size), .int .i64 d.calls, .bool true, .int .i64 0, .slice none 0 0]) : Turns w Wf B (B :: S :: M :: kb) (d.lose ks) := by
  obtain ⟨n1, n2, n3⟩ := hd.ne_bs
  obtain ⟨cur, hc, hz⟩ := hd.sure
  have hsz := h0.size
  refine ⟨[B, S, W.heap.size], ⟨S, W.heap.size, none, 0, [], rfl, ?_⟩, ?_, ?_⟩
  · exact {
      blk := hb
      sure := ⟨cur, hc.tn hf (by simp; omega), hz⟩
      map := owns_tn hd.map hf (by simp; omega)
      keep := Bls.nil _ _
      kbs := fun ad h => by cases h
      kne := by simp
      klt := by simp
      n1 := hd.n1
      n2 := hd.n2
      secS := hd.secS
      secD := hd.secD
      lowD := fun i _ => rfl
      left := by simp [Dk.lose]
      knil := fun _ => ⟨rfl, rfl⟩
      kcap := Nat.le_refl _ }
  · refine ((h0.mono (by simp)).trans h1 (fun x hx => .inl (by simp at hx; simp [hx]))).trans hf (fun x hx => ?_)
    simp at hx
    rcases hx with rfl | rfl
    · exact .inl (by simp)
    · exact .inr hDw
  · intro b hb
    simp at hb
    rcases hb with rfl | rfl | rfl
    · exact .inl (by simp)
    · exact .inl (by simp)
    · exact .inr hsz

/-- A round that leaves the sectors as they are. -/
theorem Ls.next {w : World} {B S M : Nat} {pd : Option Addr} {cd : Nat} {kb : List Nat} {d : Dk} {p : Option Addr} {c : Nat} {ks : List Bool} {pre : List (Dn d)} {W : World} (h : Ls w B S M pd cd kb d p c ks pre W) (hlt : ∀ b ∈ B :: S :: M :: kb, b < w.heap.size)
    (hkl : ∀ ad, p = some ad → 0 < ks.length → ad.block < w.heap.size) (x : Dn d) (s : Nat → List Int) (hs : (lay d.dirty ks d.sure ((pre ++ [x]).map (fun x => x.1))).2 = s) (W' : World) (hdk : IsDk W' B S M pd cd kb { d with sure := s }) (hsz : W'.heap.size = W.heap.size)
    (ht : Tn [S, w.heap.size + 1 + 1] W W') (hbp : Boxed W' (w.heap.size + 1 + 1) 3 (.int .i64 ((pre.length : Int) + 1))) (hkS : ∀ ad, p = some ad → 0 < ks.length → ad.block ≠ S) : Ls w B S M pd cd kb d p c ks (pre ++ [x]) W' := by
  have hS : S < w.heap.size := hlt S (by simp)
  have hw := h.tn.size
  exact {
    bd := (ht.block _ h.bd.lt (by simp; omega)).trans h.bd
    bk := (ht.block _ h.bk.lt (by simp; omega)).trans h.bk
    bp := by rw [List.length_append, show ((pre.length + [x].length : Nat) : Int) = (pre.length : Int) + 1 by simp]; exact hbp
    dk := by rw [hs]; exact hdk
    ks := h.ks.tn ht (fun ad ha hl => by have h1 := hkl ad ha hl; have h2 := hkS ad ha hl; simp; omega)
    tn := h.tn.trans ht (fun b hb => by simp at hb; rcases hb with rfl | rfl; exact .inl (by simp); exact .inr (by omega)) }

theorem keeps_setRow {W : World} {g : Nat} {t : TypeId} {cs : Array Value} (h : Bk W g t cs) (ds : Array Value) : KeepsOthers W (W.setRow g ds) :=
  ⟨by simp [World.setRow], fun k o hk ho => (setRow_other W g k ds (fun e => by subst e; unfold Bk at h; rw [h] at hk; cases hk; cases ho)).trans hk⟩

set_option maxRecDepth 100000 in
set_option maxHeartbeats 4000000 in
theorem lose_any {w : World} {B S M : Nat} {pd : Option Addr} {cd : Nat} {kb : List Nat} {d : Dk} (h : IsDk w B S M pd cd kb d) (p : Option Addr) (c : Nat) (ks : List Bool) (len : Nat) (hlen : ks.length = len) (hks : Bls w p ks) (hkS : ∀ ad, p = some ad → 0 < ks.length → ad.block ≠ S) :
    Calls Try.prog 49 #[.pointer (some ⟨B, 0, none⟩), .slice p len c] w fun e w' => e = .returned (.tuple #[]) ∧ Turns w w' B (B :: S :: M :: kb) (d.lose ks) := by
  subst hlen
  have hlt := h.lt
  have hkl : ∀ ad, p = some ad → 0 < ks.length → ad.block < w.heap.size := by
    intro ad ha hl
    obtain ⟨b, o, rfl, hc⟩ := hks hl
    cases ha
    exact World.block_lt_of_cell? w _ (hc 0 hl)
  refine (callsIn_wide (n := 9)).1 ?_
  refine callsIn_of_wp_marks Try.func49 rfl trivial ?_ rfl
  simp only [Try.ntmps49, List.size_toArray, List.length_cons, List.length_nil, Nat.reduceAdd, Nat.reduceSub, Array.replicate_succ, Array.replicate_zero, List.push_toArray, List.append_toArray, List.nil_append, List.cons_append]
  have HD : Hid (IsDk w B S M pd cd kb d) := h
  have HKS : Hid (Bls w p ks) := hks
  clear h hks
  gi_wp2_with fail
  obtain ⟨W3, hW3, hs3, hB3, hk3⟩ := ls_start (c := c) HD.out HKS.out
  rw [← hW3]
  clear hW3
  refine ⟨trivial, ?_⟩
  refine (callsIn_wide.2 (dirty_any (bs := B :: S :: M :: kb) ⟨S, M, pd, cd, kb, rfl, hk3.dk⟩)).mono ?_
  rintro e w1 ⟨Bs, rfl, hgo, hb1⟩
  obtain ⟨L, hL⟩ := dns d
  have hk1 : Ls w B S M pd cd kb d p c ks [] w1 := by
    have hg1 : W3.grownBy w1 none := ⟨hb1.os, hb1.tape, hb1.output, hb1.size, fun k hk _ => hb1.block k hk⟩
    exact hk3.abides (m := w.heap.size) (Nat.le_refl _) hlt hkl hg1 (fun r e => by cases e)
  have hgoL : Goes (fun x : Dn d => (x.1 : Int)) W3.heap.size w1 Bs L := Goes.sub hL (by simpa [lay] using hgo)
  have hz1 : W3.heap.size ≤ w1.heap.size := hb1.size
  have hLn : L.length ≤ 16384 := by
    have h1 := congrArg List.length hL
    have h2 := dirts_le d.dirty d.n
    have h3 := HD.out.n2
    simp at h1
    omega
  clear hgo
  gi_wp2
  refine wpIn_rangeFunc_ownF rfl (by omega) (gf := 65) (lb := #[.pointer (some ⟨Bs, 0, none⟩)]) rfl trivial (enters_of Try.func65 (by kernel_rfl) rfl)
    (vals_stops 8 (by omega) hgoL rfl) KpI.t (fun W l o o' hl _ _ _ k _ h2 => World.putObj_heap_other (by omega)) (Below.refl _ _) (fun _ => rfl)
    (fun pre W => Ls w B S M pd cd kb d p c ks pre W)
    (fun c pre W => False)
    (fun s A B' row hs hg hr => hs.abides (m := w1.heap.size) (by omega) hlt hkl hg hr)
    (fun c s A B row hs hg hr => hs.elim)
    hk1
    (fun x => { tmps := #[.pointer (some ⟨B, 0, none⟩), .slice p ks.length c, .pointer (some ⟨w.heap.size, 0, none⟩), .pointer (some ⟨w.heap.size + 1, 0, none⟩), .pointer (some ⟨w.heap.size + 1 + 1, 0, none⟩), .int .i64 (x.1 : Int), .pointer (some ⟨B, 0, none⟩), .func (.func 65) #[] #[.pointer (some ⟨Bs, 0, none⟩)], .int .i64 (x.1 : Int), undef, undef, undef, undef, undef, undef, undef, undef, undef, undef, undef, undef, undef, undef, undef, undef, undef, undef, undef, undef, undef, undef, undef, undef, undef, undef, undef, undef, undef, undef, undef, undef, undef], defers := [] }) ?assign ?body ?done ?stop
  case assign =>
    intro l x W K hK
    gi_wp2
    exact hK
  case stop =>
    rintro D c pre W hD _ hF _
    exact hF.elim
  case body =>
    rintro l pre x W hls hpre
    have HLS : Hid (Ls w B S M pd cd kb d p c ks pre W) := hls
    have c0 := hls.bd.cell
    have c1 := hls.bk.cell
    have c2 := hls.bp.cell
    have f2 := hls.bp.frozen
    have hwW : w.heap.size ≤ W.heap.size := hls.tn.size
    obtain ⟨cB0, cB1, -⟩ := hls.dk.cells
    simp only [] at cB0 cB1
    have HK0 : Hid (hls.ks = hls.ks) := rfl
    have HKSW : Hid (Bls W p ks) := hls.ks
    clear hls HK0
    obtain ⟨N, hN⟩ : ∃ N, N = pre.length := ⟨_, rfl⟩
    have HN : Hid (N = pre.length) := hN
    rw [← hN] at c2 hpre
    clear hN
    obtain ⟨kn, hkn⟩ : ∃ kn, kn = ks.length := ⟨_, rfl⟩
    have HKN : Hid (kn = ks.length) := hkn
    rw [← hkn] at c1 ⊢
    clear hkn
    have hstep : (lay d.dirty ks d.sure ((pre ++ [x]).map (fun x => x.1))).2 = if ks.getD N false = true then upds (lay d.dirty ks d.sure (pre.map (fun x => x.1))).2 x.1 ((d.dirty x.1).getD []) else (lay d.dirty ks d.sure (pre.map (fun x => x.1))).2 := by
      rw [List.map_append, List.map_cons, List.map_nil, lay_snoc]
      unfold layAt
      simp only [lay_fst, List.length_map, HN.out]
    have HST : Hid _ := hstep
    clear hstep
    have SAME : Hid (¬ ks.getD N false = true → KeepsOthers W (W.setCell ⟨w.heap.size + 1 + 1, 0, none⟩ (.int .i64 ((N : Int) + 1))) ∧ KpI W3.heap.size w1.heap.size W (W.setCell ⟨w.heap.size + 1 + 1, 0, none⟩ (.int .i64 ((N : Int) + 1))) ∧ Ls w B S M pd cd kb d p c ks (pre ++ [x]) (W.setCell ⟨w.heap.size + 1 + 1, 0, none⟩ (.int .i64 ((N : Int) + 1)))) := by
      intro hne
      refine ⟨KeepsOthers.setCell _ _ _, fun k h0 h1 => Below.heap_setCell _ _ _ _ (by simp; omega), ?_⟩
      have ht : Tn [S, w.heap.size + 1 + 1] W (W.setCell ⟨w.heap.size + 1 + 1, 0, none⟩ (.int .i64 ((N : Int) + 1))) := (Tn.refl _ _).setCell (by simp) _
      refine HLS.out.next hlt hkl x _ HST.out _ ?_ (by simp [World.setCell]) ht ?_ hkS
      · rw [if_neg hne]
        exact HLS.out.dk.tn (T := [w.heap.size + 1 + 1]) ((Tn.refl _ _).setCell (by simp) _) (fun b hb => by have := hlt b hb; simp; omega)
      · rw [HN.out]
        exact HLS.out.bp.set _
    have hNb : N < 16384 := by omega
    have hSB : S < w.heap.size := hlt S (by simp)
    by_cases hq : N < kn
    · obtain ⟨kb0, ko, rfl, hcs⟩ := HKSW.out (by rw [← HKN.out]; omega)
      have ck := hcs N (by rw [← HKN.out]; exact hq)
      have hqi : (N : Int) < (kn : Int) := by omega
      clear hcs
      cases hb : ks.getD N false with
      | false =>
        rw [hb] at ck
        have HB : Hid (ks.getD N false = false) := hb
        clear hb
        gi_wp2
        exact SAME.out (by rw [HB.out]; decide)
      | true =>
        rw [hb] at ck
        have HB : Hid (ks.getD N false = true) := hb
        clear hb
        obtain ⟨xs, hxs⟩ := Option.isSome_iff_exists.1 x.2.2
        have HXS : Hid (d.dirty x.1 = some xs) := hxs
        have HSEC : Hid (Sec xs) := HD.out.secD _ _ hxs
        clear hxs
        have hx1 := x.2.1
        have HOW : Hid (W.ownsMap Try.prog 3 secElem M d.n (datum d.dirty d.n)) := HLS.out.dk.map
        obtain ⟨cur, hcur, hsure⟩ := HLS.out.dk.sure
        have HCUR : Hid (Bk W S 79 cur) := hcur
        have HSU : Hid (SureAt cur d.n (lay d.dirty ks d.sure (pre.map (fun x => x.1))).2) := hsure
        clear hcur hsure
        have hn2 := HD.out.n2
        have hxi : (x.1 : Int) < (d.n : Int) := by omega
        gi_wp2
        refine wpIn_region_still_tail 12 (by kernel_rfl) (by kernel_rfl) (by rfl) ?_
        simp only [List.take_succ_cons, List.take_zero, List.drop_succ_cons, List.drop_zero]
        iterate 10 still_step
        refine still_lookup_sec rfl _ _ rfl M d.n d.dirty rfl HOW.out.drew x.1 hx1 hn2 rfl xs HXS.out ?_
        still_step
        refine wpStill_nil ?_
        refine wpIn_store_sec rfl _ _ rfl S (x.1 * 512) rfl xs rfl HSEC.out.1 _ cur HCUR.out.drew (HSU.out.fit hx1) ?_
        refine wpListIn_nil ?_
        have HB2 : Hid (Boxed (W.drew.setRow S (laid cur (x.1 * 512) xs)) (w.heap.size + 1 + 1) 3 (.int .i64 (N : Int))) := by
          have h1 : Bk W (w.heap.size + 1 + 1) 3 #[.int .i64 (N : Int)] := by rw [HN.out]; exact HLS.out.bp
          exact h1.drew.rowOther (by omega) _
        have HT2 : Hid (Tn [S, w.heap.size + 1 + 1] W (W.drew.setRow S (laid cur (x.1 * 512) xs))) := ((Tn.refl _ _).drew).setRow (by simp) _
        have HDK2 : Hid (IsDk (W.drew.setRow S (laid cur (x.1 * 512) xs)) B S M pd cd kb { d with sure := upds (lay d.dirty ks d.sure (pre.map (fun x => x.1))).2 x.1 xs }) :=
          IsDk.setSure (HLS.out.dk.tn (w' := W.drew) (T := []) ((Tn.refl _ _).drew) (fun _ _ => by simp)) HCUR.out.drew HSU.out hx1 HSEC.out
        have HKO : Hid (KeepsOthers W (W.drew.setRow S (laid cur (x.1 * 512) xs))) := (KeepsOthers.drew W).trans (keeps_setRow HCUR.out.drew _)
        have HSZ : Hid ((W.drew.setRow S (laid cur (x.1 * 512) xs)).heap.size = W.heap.size) := by
          have h1 : (W.drew.setRow S (laid cur (x.1 * 512) xs)).heap.size = W.drew.heap.size := by simp [World.setRow]
          exact h1
        have HKP : Hid (KpI W3.heap.size w1.heap.size W (W.drew.setRow S (laid cur (x.1 * 512) xs))) := fun k h0 h1 => setRow_other W.drew S k _ (by omega)
        generalize W.drew.setRow S (laid cur (x.1 * 512) xs) = W2 at *
        clear c0 c1 c2 f2 cB0 cB1 ck
        have c2 := HB2.out.cell
        have f2 := HB2.out.frozen
        gi_wp2
        refine ⟨HKO.out.trans (KeepsOthers.setCell _ _ _), HKP.out.t (fun k h0 h1 => Below.heap_setCell _ _ _ _ (by simp; omega)), ?_⟩
        refine HLS.out.next hlt hkl x _ HST.out _ ?_ ?_ (HT2.out.setCell (by simp) _) ?_ hkS
        · rw [if_pos HB.out, HXS.out, Option.getD_some]
          exact HDK2.out.tn (T := [w.heap.size + 1 + 1]) ((Tn.refl _ _).setCell (by simp) _) (fun b hb => by have := hlt b hb; simp; omega)
        · have := HSZ.out
          simpa [World.setCell] using this
        · rw [← HN.out]
          exact HB2.out.set _
    · have hqi : ¬ (N : Int) < (kn : Int) := by omega
      have HB : Hid (¬ ks.getD N false = true) := by
        rw [Hid, List.getD, List.getElem?_eq_none (by rw [← HKN.out]; omega)]
        decide
      clear hs3
      gi_wp2
      exact SAME.out HB.out
  case done =>
    rintro D ys W hD rfl hls hK
    have HLS : Hid (Ls w B S M pd cd kb d p c ks ys W) := hls
    have hwW : w.heap.size ≤ W.heap.size := hls.tn.size
    have c0 := hls.bd.cell
    have HDK : Hid (IsDk W B S M pd cd kb { d with sure := loseS d.dirty ks d.sure }) := by
      have := hls.dk
      rw [hL, lay_all HD.out.lowD] at this
      exact this
    have HK : Hid (W.heap[D]? = some (.deferred (some []))) := hK
    clear hls hK
    gi_wp2_with fail
    refine ⟨trivial, ?_⟩
    refine (callsIn_wide.2 (forget_any HDK.out)).mono ?_
    rintro e W1 ⟨rfl, ht1, hsz1, hdk1⟩
    have hBw : B < w.heap.size := hlt B (by simp)
    have HBD : Hid (Boxed W1 w.heap.size 23 (.pointer (some ⟨B, 0, none⟩))) := (ht1.block _ HLS.out.bd.lt (by simp; omega)).trans HLS.out.bd
    have hDB : D ≠ B := by
      rintro rfl
      have h1 : Bk W D _ _ := HDK.out.blk
      unfold Bk at h1
      rw [HK.out] at h1
      cases h1
    have HK1 : Hid (W1.heap[D]? = some (.deferred (some []))) := (ht1.block D (Array.getElem?_eq_some_iff.1 HK.out).1 (by simp; exact hDB)).trans HK.out
    have HD1 : Hid _ := hdk1
    have HT1 : Hid (Tn [B] W W1) := ht1
    have c0 := HBD.out.cell
    obtain ⟨-, -, -, c3, c4, c5⟩ := hdk1.cells
    have f3 := hdk1.blk.frozen 3
    have f4 := hdk1.blk.frozen 4
    have f5 := hdk1.blk.frozen 5
    simp only [] at c3 c4 c5
    clear hdk1 ht1 hsz1
    gi_wp2
    have hb2 := ((HD1.out.blk.set 4 (.int .i64 0)).set 5 (.slice none 0 0)).set 3 (.bool true)
    have ht2 : Tn [B, D] W1 (((W1.setCell ⟨B, 4, none⟩ (.int .i64 0)).setCell ⟨B, 5, none⟩ (.slice none 0 0)).setCell ⟨B, 3, none⟩ (.bool true)) := (((Tn.refl _ _).setCell (by simp) _).setCell (by simp) _).setCell (by simp) _
    have ht2' : Tn [B] W1 (((W1.setCell ⟨B, 4, none⟩ (.int .i64 0)).setCell ⟨B, 5, none⟩ (.slice none 0 0)).setCell ⟨B, 3, none⟩ (.bool true)) := (((Tn.refl _ _).setCell (by simp) _).setCell (by simp) _).setCell (by simp) _
    generalize ((W1.setCell ⟨B, 4, none⟩ (.int .i64 0)).setCell ⟨B, 5, none⟩ (.slice none 0 0)).setCell ⟨B, 3, none⟩ (.bool true) = W2 at *
    have hK2 : W2.heap[D]? = some (.deferred (some [])) := (ht2'.block D (Array.getElem?_eq_some_iff.1 HK1.out).1 (by simp; exact hDB)).trans HK1.out
    refine ⟨by simp, .inl ⟨_, _, rfl, run_takeDeferred hK2, ?_⟩⟩
    refine ⟨_, results_none rfl _ _ _, rfl, ?_⟩
    have ht3 : Tn [B, D] W1 (W2.putObj D (.deferred none)) := ht2.grown (grownBy_putObj' _ D _) (fun k hk => by cases hk; simp)
    refine lose_end HLS.out.tn HT1.out HD1.out ht3 (by omega) ⟨hDB, ?_, ?_⟩ ?_
    · rintro rfl
      obtain ⟨cur, hc, _⟩ := HLS.out.dk.sure
      unfold Bk at hc
      rw [HK.out] at hc
      cases hc
    · have := (Array.getElem?_eq_some_iff.1 HK.out).1
      omega
    · exact (World.putObj_heap_other (fun e => hDB e.symm)).trans hb2

end Go.Proofs.Ytpggnejifpcnmaa
