/- Tables: a page is given. -/
import Derived.Test.YtnjafmjkaajbkaaDoorTbB
namespace Go.Proofs.YtnjafmjkaajbkaaDoor
open Go.RowKit
set_option linter.unusedVariables false
set_option maxRecDepth 100000

theorem tinfo : (Tryd.prog.info? 80).map (fun i => (i.zero, i.size, i.bytes)) = some (some (.agg #[.int .i64 0, .pointer none]), 2, 16) := by kernel_rfl

/-- The blocks that are not cells. -/
def bs3 (B : Nat) (uv wv : Value) : List Nat := B :: (uv.ownBlock.toList ++ wv.ownBlock.toList)
theorem mem_bs3 {B : Nat} {uv wv : Value} {k : Nat} : k ∈ bs3 B uv wv ↔ k = B ∨ uv.ownBlock = some k ∨ wv.ownBlock = some k := by simp only [bs3, List.mem_cons, List.mem_append, opt_toList]
theorem bs3_sub {B : Nat} {uv wv : Value} {us : List Pa} : ∀ k ∈ bs3 B uv wv, k ∈ bsT B uv wv us := by
  intro k hk
  rcases mem_bs3.1 hk with h | h | h
  · exact mem_bsT.2 (.inl h)
  · exact mem_bsT.2 (.inr (.inl h))
  · exact mem_bsT.2 (.inr (.inr (.inl h)))

section
variable {w : World} {B : Nat} {uv wv : Value} {size : Int} {us : List Pa} {ws : List Nat} {many gone missed : Int}

/-- A place more. -/
theorem Rw.more (h : Rw w B uv wv size us ws many gone missed) {v' : Value} {w' : World} {n : Nat} (hn : us.length = n) (hr : w'.ownsRow 0 80 2 v' (n + 1) (paCells us ++ [.int .i64 0, .pointer none])) (hg : (w.alloc (.cells #[.int .i64 0, .pointer none] 80)).grownBy w' uv.ownBlock) (hb : v'.ownBlock = uv.ownBlock ∨ v'.ownBlock = some (w.heap.size + 1)) :
    w'.cell? ⟨B, 1, none⟩ = some uv ∧ w'.frozen? ⟨B, 1, none⟩ = false ∧ Rw (w'.setCell ⟨B, 1, none⟩ v') B v' wv size (us ++ [.free]) ws many gone missed ∧ Tn (bs3 B uv wv) w (w'.setCell ⟨B, 1, none⟩ v') ∧ Nw w uv v' := by
  subst hn
  have t1 : Tn uv.ownBlock.toList w w' := ((Tn.refl uv.ownBlock.toList w).alloc _).trans (grown_tn hg) (fun x hx => .inl hx)
  have hneB : B ∉ uv.ownBlock.toList := fun hm => (h.neU B (opt_toList.1 hm)).1 rfl
  have hB := h.blk.tn t1 hneB
  have hw' := owns_tn h.wrd t1 (fun k hk hm => (h.neW k hk).2.1 (opt_toList.1 hm))
  have hc' : ∀ (i c : Nat) (x : Int × Int) (n : Int), us[i]? = some (Pa.live c x n) → Ce w' c x n := fun i c x n hi => (h.cel i c x n hi).tn t1 (fun hm => (h.neC hi).2.1 (opt_toList.1 hm))
  have t2 : Tn [B] w' (w'.setCell ⟨B, 1, none⟩ v') := (Tn.refl [B] w').setCell (.inl (by simp)) _
  have hrow : (w'.setCell ⟨B, 1, none⟩ v').ownsRow 0 80 2 v' (us ++ [Pa.free]).length (paCells (us ++ [Pa.free])) := by
    rw [paCells_append]
    have : (us ++ [Pa.free]).length = us.length + 1 := by simp
    rw [this]
    refine owns_tn hr t2 (fun k hk => ?_)
    obtain ⟨cs, hcs⟩ := row_type hr k hk
    simpa using ne_type hcs hB (by decide)
  have key : ∀ (i c : Nat) (x : Int × Int) (n : Int), (us ++ [Pa.free])[i]? = some (Pa.live c x n) → us[i]? = some (Pa.live c x n) := by
    intro i c x n hi
    by_cases hl : i < us.length
    · rwa [List.getElem?_append_left hl] at hi
    · rw [List.getElem?_append_right (by omega)] at hi
      cases hj : i - us.length with
      | zero => rw [hj] at hi; cases hi
      | succ j => rw [hj] at hi; simp at hi
  refine ⟨hB.cell 1, hB.frozen 1, ⟨hB.set 1 v', hrow, owns_tn hw' t2 (fun k hk hm => (h.neW k hk).1 (by simpa using hm)), fun i c x n hi => (hc' i c x n (key i c x n hi)).tn t2 (by simpa using (h.neC (key i c x n hi)).1), fun i j c x n x' n' hi hj => h.dis i j c x n x' n' (key _ _ _ _ hi) (key _ _ _ _ hj)⟩, ?_, ?_⟩
  · refine (t1.mono (fun k hk => mem_bs3.2 (.inr (.inl (opt_toList.1 hk))))).trans t2 (fun k hk => .inl ?_)
    simp at hk
    subst hk
    exact mem_bs3.2 (.inl rfl)
  · intro k hk
    rcases hb with hb | hb
    · left; rw [← hb]; exact hk
    · right; rw [hb] at hk; cases hk; omega

set_option maxHeartbeats 1000000 in
theorem lowest_new (h : Rw w B uv wv size us ws 0 gone missed) (hn : us.length < 65536) : Calls Tryd.prog 37 #[.pointer (some ⟨B, 0, none⟩)] w fun e w' => e = .returned (.int .i64 (us.length : Int)) ∧ ∃ uv', Rw w' B uv' wv size (us ++ [.free]) ws 0 gone missed ∧ Tn (bs3 B uv wv) w w' ∧ Nw w uv uv' := by
  obtain ⟨c0, c1, c2, c3, -⟩ := h.cells
  obtain ⟨q, c, rfl, -⟩ := row_form h.row
  have HH : Hid _ := h
  obtain ⟨n, hul⟩ : ∃ n, us.length = n := ⟨_, rfl⟩
  have HU : Hid (us.length = n) := hul
  have hrow := h.row
  rw [hul] at c1 hn HH hrow ⊢
  have k1 : (w.alloc (.cells #[.int .i64 0, .pointer none] 80)).cell? ⟨B, 1, none⟩ = some (.slice q n c) := by rw [hul] at h; exact (h.blk.alloc _).cell 1
  have HR : Hid ((w.alloc (.cells #[.int .i64 0, .pointer none] 80)).ownsRow 0 80 2 (.slice q n c) n (paCells us)) := World.ownsRow.alloc hrow _
  clear h hul hrow
  go_enter Tryd.func37, Tryd.ntmps37
  go_wp2_with (at_builtin; refine appX _ rfl _ _ _ rfl 80 (.agg #[.int .i64 0, .pointer none]) 2 16 Tryd.underlying54 tinfo rfl (by decide) (.slice q n c) n (paCells us) rfl HR.out (some ⟨w.heap.size, 0, none⟩) 1 1 [.int .i64 0, .pointer none] rfl rfl (news_alloc w [.int .i64 0, .pointer none] 80) (by simp [Value.oneCell']) (fun h => by cases h) (by unfold maxLen; omega) (by omega) ?_)
  intro v1 w1 r1 g1 b1
  obtain ⟨d1, f1, hR, hT, hN⟩ := HH.out.more HU.out r1 g1 (by simpa using b1)
  obtain ⟨g', c', rfl⟩ := row_some r1 (by omega)
  have d2 : (w1.setCell ⟨B, 1, none⟩ (.slice (some ⟨g', 0, none⟩) (n + 1) c')).cell? ⟨B, 1, none⟩ = some (.slice (some ⟨g', 0, none⟩) (n + 1) c') := hR.cells.2.1
  have HE : Hid _ := And.intro hR (And.intro hT hN)
  clear hR hT hN r1 g1 b1
  go_wp2
  go_ret
  refine ⟨?_, _, HE.out⟩
  refine ret_int ?_
  simp

theorem alloc_arg (h : Rw w B uv wv size us ws many gone missed) (hs : 0 < size) : Calls Tryd.prog 14 #[.pointer (some ⟨B, 0, none⟩), hv (0, 0)] w fun e w' => e = .returned (.tuple #[.int .i64 0, .int .i64 1]) ∧ Below w.heap.size w w' := by
  have c0 : (w.alloc (.cells #[.int .i64 0, .int .i64 0] 32)).cell? ⟨B, 0, none⟩ = some (.int .i64 size) := (h.blk.alloc _).cell 0
  clear h
  go_enter Tryd.func14, Tryd.ntmps14
  go_wp2_with fail
  refine (tmade_any c0 hs).mono ?_
  rintro e w1 ⟨rfl, rfl⟩
  go_wp2
  go_ret2
  exact ⟨rfl, (Below.refl _ w).alloc (Nat.le_refl _) _⟩

/-- A handle's box beside a table. -/
theorem Rw.box (h : Rw w B uv wv size us ws many gone missed) (a b : Int) :
    ∃ w0, w.alloc (.cells #[.int .i64 a, .int .i64 b] 32) = w0 ∧ Rw w0 B uv wv size us ws many gone missed ∧ Below w.heap.size w w0 ∧ w0.heap.size = w.heap.size + 1 ∧ Bk w0 w.heap.size 32 #[.int .i64 a, .int .i64 b] := by
  have hb : Below w.heap.size w (w.alloc (.cells #[.int .i64 a, .int .i64 b] 32)) := (Below.refl _ w).alloc (Nat.le_refl _) _
  exact ⟨_, rfl, h.below hb, hb, by simp, Bk.new w _ _⟩

set_option maxHeartbeats 1000000 in
theorem alloc_full (h : Rw w B uv wv size us ws many gone missed) (hs : 0 < size) (hn : us.length ≤ 65536) (hm0 : 0 ≤ many) (hm1 : many ≤ 65536) (hg0 : 0 ≤ gone) (hg1 : gone ≤ 65536) (b : Int × Int) (hb : b ≠ (0, 0)) (hf : (us.length : Int) - many = size) : Calls Tryd.prog 14 #[.pointer (some ⟨B, 0, none⟩), hv b] w fun e w' => e = .returned (.tuple #[.int .i64 0, .int .i64 5]) ∧ Below w.heap.size w w' := by
  have hz := nonzero hb
  obtain ⟨b1, b2⟩ := b
  have hz' : ¬ b1 = 0 ∨ (b1 = 0 ∧ ¬ b2 = 0) := hz
  clear hb hz
  rcases hz' with z1 | ⟨rfl, z2⟩
  · obtain ⟨w0, hw0, h0, hb0, hs0, hkb⟩ := h.box b1 b2
    have HH : Hid _ := h0
    have HB : Hid (∀ k, Below w.heap.size w (w0.drewN k)) := fun k => below_drewN hb0 k
    obtain ⟨c0, c1, c2, c3, c4, -⟩ := h0.cells
    have k0 : w0.cell? ⟨w.heap.size, 0, none⟩ = some (.int .i64 b1) := hkb.cell 0
    have k1 : w0.cell? ⟨w.heap.size, 1, none⟩ = some (.int .i64 b2) := hkb.cell 1
    have HL : Hid (∀ k, Calls Tryd.prog 19 #[.pointer (some ⟨B, 0, none⟩)] (w0.drewN k) fun e w' => e = .returned (.int .i64 (size - gone)) ∧ ∃ m, w' = (w0.drewN k).drewN m) := fun k => by
      have := live_any (h0.below (below_drewN (Below.refl _ _) k)) hs hn ⟨hm0, hm1⟩ ⟨hg0, hg1⟩
      rwa [hf] at this
    have hsz : size ≤ 65536 := by omega
    clear h h0 hb0 hkb hf hn hm0 hm1
    go_enter Tryd.func14, Tryd.ntmps14
    go_wp2_with fail
    refine (tmade_any c0 hs).mono ?_
    rintro e w1 ⟨rfl, rfl⟩
    go_wp2_with fail
    go_quiet (first | (go_at_call 19; refine Calls.quiet_of (HL.out _)))
    have hq : size - gone + gone = size := by omega
    go_wp2
    go_ret2
    exact ⟨rfl, HB.out _⟩
  · obtain ⟨w0, hw0, h0, hb0, hs0, hkb⟩ := h.box 0 b2
    have HH : Hid _ := h0
    have HB : Hid (∀ k, Below w.heap.size w (w0.drewN k)) := fun k => below_drewN hb0 k
    obtain ⟨c0, c1, c2, c3, c4, -⟩ := h0.cells
    have k0 : w0.cell? ⟨w.heap.size, 0, none⟩ = some (.int .i64 0) := hkb.cell 0
    have k1 : w0.cell? ⟨w.heap.size, 1, none⟩ = some (.int .i64 b2) := hkb.cell 1
    have HL : Hid (∀ k, Calls Tryd.prog 19 #[.pointer (some ⟨B, 0, none⟩)] (w0.drewN k) fun e w' => e = .returned (.int .i64 (size - gone)) ∧ ∃ m, w' = (w0.drewN k).drewN m) := fun k => by
      have := live_any (h0.below (below_drewN (Below.refl _ _) k)) hs hn ⟨hm0, hm1⟩ ⟨hg0, hg1⟩
      rwa [hf] at this
    have hsz : size ≤ 65536 := by omega
    clear h h0 hb0 hkb hf hn hm0 hm1
    go_enter Tryd.func14, Tryd.ntmps14
    go_wp2_with fail
    refine (tmade_any c0 hs).mono ?_
    rintro e w1 ⟨rfl, rfl⟩
    go_wp2_with fail
    go_quiet (first | (go_at_call 19; refine Calls.quiet_of (HL.out _)))
    have hq : size - gone + gone = size := by omega
    go_wp2
    go_ret2
    exact ⟨rfl, HB.out _⟩

set_option maxHeartbeats 4000000 in
theorem alloc_of {p : Nat} {us' : List Pa} {ws' : List Nat} {many' : Int} (h : Rw w B uv wv size us ws many gone missed) (hs : 0 < size) (hn : us.length ≤ 65536) (hm0 : 0 ≤ many) (hm1 : many ≤ 65536) (hg0 : 0 ≤ gone) (hg1 : gone ≤ 65536) (b : Int × Int) (hb : b ≠ (0, 0)) (hf : (us.length : Int) - many ≠ size) (hsz : size ≤ 65536)
    (hp : us'[p]? = some Pa.free) (hlow : ∀ v, Below w.heap.size w v → Calls Tryd.prog 37 #[.pointer (some ⟨B, 0, none⟩)] v fun e w' => e = .returned (.int .i64 (p : Int)) ∧ ∃ uv', Rw w' B uv' wv size us' ws' many' gone missed ∧ Tn (bs3 B uv wv) v w' ∧ Nw v uv uv') :
    Calls Tryd.prog 14 #[.pointer (some ⟨B, 0, none⟩), hv b] w fun e w' => e = .returned (.tuple #[.int .i64 (p : Int), .int .i64 0]) ∧ ∃ uv' c, Rw w' B uv' wv size (us'.set p (.live c b 0)) ws' many' gone missed ∧ Tn (bs3 B uv wv) w w' ∧ Nw w uv uv' ∧ w.heap.size ≤ c := by
  have hz := nonzero hb
  obtain ⟨b1, b2⟩ := b
  have hz' : ¬ b1 = 0 ∨ (b1 = 0 ∧ ¬ b2 = 0) := hz
  clear hb hz
  rcases hz' with z1 | ⟨rfl, z2⟩
  · obtain ⟨w0, hw0, h0, hb0, hs0, hkb⟩ := h.box b1 b2
    have HB : Hid (∀ k, Below w.heap.size w (w0.drewN k)) := fun k => below_drewN hb0 k
    have HW : Hid (∀ k, Bk (w0.drewN k) w.heap.size 32 #[.int .i64 b1, .int .i64 b2] ∧ w.heap.size < (w0.drewN k).heap.size) := fun k => ⟨hkb, by show _ < w0.heap.size; omega⟩
    have HR0 : Hid (∀ k ∈ bs3 B uv wv, k < w.heap.size) := fun k hk => h.lt k (bs3_sub k hk)
    obtain ⟨c0, c1, c2, c3, c4, -⟩ := h0.cells
    have k0 : w0.cell? ⟨w.heap.size, 0, none⟩ = some (.int .i64 b1) := hkb.cell 0
    have k1 : w0.cell? ⟨w.heap.size, 1, none⟩ = some (.int .i64 b2) := hkb.cell 1
    obtain ⟨L, hL⟩ : ∃ L, (us.length : Int) - many - gone = L := ⟨_, rfl⟩
    have HL : Hid (∀ k, Calls Tryd.prog 19 #[.pointer (some ⟨B, 0, none⟩)] (w0.drewN k) fun e w' => e = .returned (.int .i64 L) ∧ ∃ m, w' = (w0.drewN k).drewN m) := fun k => by
      have := live_any (h0.below (below_drewN (Below.refl _ _) k)) hs hn ⟨hm0, hm1⟩ ⟨hg0, hg1⟩
      rwa [hL] at this
    have HLow : Hid _ := hlow
    have l1 : -200000 ≤ L := by omega
    have l2 : L ≤ 200000 := by omega
    have l3 : ¬ L + gone = size := by omega
    have HP : Hid (us'[p]? = some Pa.free) := hp
    clear h h0 hb0 hkb hf hn hm0 hm1 hlow hL hp
    go_enter Tryd.func14, Tryd.ntmps14
    go_wp2_with fail
    refine (tmade_any c0 hs).mono ?_
    rintro e w1 ⟨rfl, rfl⟩
    go_wp2_with fail
    go_quiet (first | (go_at_call 19; refine Calls.quiet_of (HL.out _)))
    go_wp2_with fail
    refine (HLow.out _ (HB.out _)).mono ?_
    rintro e w2 ⟨rfl, uv', h2, t2, n2⟩
    have hpl : p < us'.length := (List.getElem?_eq_some_iff.1 HP.out).1
    obtain ⟨g, cap, huv, -, e0, e1, fg⟩ := h2.entry HP.out
    subst huv
    obtain ⟨d0, d1, -⟩ := h2.cells
    have hbx : Bk w2 w.heap.size 32 #[.int .i64 b1, .int .i64 b2] := (HW.out _).1.tn t2 (fun hm => by have := HR0.out _ hm; omega)
    have q0 : w2.cell? ⟨w.heap.size, 0, none⟩ = some (.int .i64 b1) := hbx.cell 0
    have q1 : w2.cell? ⟨w.heap.size, 1, none⟩ = some (.int .i64 b2) := hbx.cell 1
    have hsz2 : w.heap.size ≤ w2.heap.size := Nat.le_trans (HB.out 0).size (Nat.le_trans (by exact Nat.le_refl _) t2.size)
    have T2 : Tn (bs3 B uv wv) w w2 := (Tn.of_below (HB.out _) _).trans t2 (fun x hx => .inl hx)
    have N2 : Nw w uv (.slice (some ⟨g, 0, none⟩) us'.length cap) := fun k hk => (n2 k hk).imp id (fun hh => Nat.le_trans (HB.out 0).size hh)
    have HN : Hid (∀ v, v = w2.drew → ∀ w4, w4 = (v.alloc (.cells #[.int .i64 b1, .int .i64 b2] 32)).alloc (.cells #[.bool true, .int .i64 b1, .int .i64 b2, .int .i64 0] 96) →
        (w4.cell? ⟨B, 1, none⟩ = some (.slice (some ⟨g, 0, none⟩) us'.length cap) ∧ w4.cell? ⟨w.heap.size, 0, none⟩ = some (.int .i64 b1) ∧ w4.cell? ⟨w.heap.size, 1, none⟩ = some (.int .i64 b2)) ∧
        (((w4.setCell ⟨g, p * 2, none⟩ (.int .i64 1)).setCell ⟨g, p * 2 + 1, none⟩ (.pointer (some ⟨w2.heap.size + 1, 0, none⟩))).cell? ⟨B, 1, none⟩ = some (.slice (some ⟨g, 0, none⟩) us'.length cap) ∧ ((w4.setCell ⟨g, p * 2, none⟩ (.int .i64 1)).setCell ⟨g, p * 2 + 1, none⟩ (.pointer (some ⟨w2.heap.size + 1, 0, none⟩))).cell? ⟨w.heap.size, 0, none⟩ = some (.int .i64 b1) ∧ ((w4.setCell ⟨g, p * 2, none⟩ (.int .i64 1)).setCell ⟨g, p * 2 + 1, none⟩ (.pointer (some ⟨w2.heap.size + 1, 0, none⟩))).cell? ⟨w.heap.size, 1, none⟩ = some (.int .i64 b2)) ∧
        w4.cell? ⟨g, p * 2, none⟩ = some (.int .i64 0) ∧ w4.cell? ⟨g, p * 2 + 1, none⟩ = some (.pointer none) ∧ w4.frozen? ⟨g, p * 2, none⟩ = false ∧ w4.frozen? ⟨g, p * 2 + 1, none⟩ = false ∧
        Rw ((w4.setCell ⟨g, p * 2, none⟩ (.int .i64 1)).setCell ⟨g, p * 2 + 1, none⟩ (.pointer (some ⟨w2.heap.size + 1, 0, none⟩))) B (.slice (some ⟨g, 0, none⟩) us'.length cap) wv size (us'.set p (.live (w2.heap.size + 1) (b1, b2) 0)) ws' many' gone missed ∧
        Tn (bs3 B uv wv) w ((w4.setCell ⟨g, p * 2, none⟩ (.int .i64 1)).setCell ⟨g, p * 2 + 1, none⟩ (.pointer (some ⟨w2.heap.size + 1, 0, none⟩))) ∧ Nw w uv (.slice (some ⟨g, 0, none⟩) us'.length cap) ∧ w.heap.size ≤ w2.heap.size + 1) := by
      intro v hv0 w4 hw4
      have hbv : Below w2.heap.size w2 w4 := by
        rw [hw4, hv0]
        exact ((Below.refl _ w2).drew.alloc (by exact Nat.le_refl _) _).alloc (by rw [World.size_alloc]; exact Nat.le_succ _) _
      have h4 := h2.below hbv
      have hbx4 := hbx.below hbv hbx.lt
      obtain ⟨g', cap', he, -, e0', e1', fg'⟩ := h4.entry HP.out
      cases he
      have hc4 : Ce w4 (w2.heap.size + 1) (b1, b2) 0 := by
        rw [hw4, hv0]
        have := Bk.new (w2.drew.alloc (.cells #[.int .i64 b1, .int .i64 b2] 32)) 96 #[.bool true, .int .i64 b1, .int .i64 b2, .int .i64 0]
        rw [World.size_alloc] at this
        exact this
      obtain ⟨h5, t5⟩ := h4.setEntry rfl hpl (.live (w2.heap.size + 1) (b1, b2) 0) (fun k x m hk => by
        cases hk
        refine ⟨hc4, fun j x' m' hj => ?_⟩
        have := (h2.cel j _ x' m' hj).lt
        omega)
      have hgn : w.heap.size ≠ g := by
        obtain ⟨cs, hcs⟩ := row_type h2.row g rfl
        exact ne_type hbx hcs (by decide)
      have hbx5 := hbx4.tn t5 (by simpa using hgn)
      refine ⟨⟨h4.cells.2.1, hbx4.cell 0, hbx4.cell 1⟩, ⟨h5.cells.2.1, hbx5.cell 0, hbx5.cell 1⟩, e0', e1', fg' _, fg' _, h5, ?_, N2, by omega⟩
      refine (T2.trans (Tn.of_below hbv []) (by simp)).trans t5 (fun x hx => ?_)
      simp at hx
      subst hx
      exact (N2 x rfl).imp (fun hh => mem_bs3.2 (.inr (.inl hh))) id
    have i2 : (p : Int) < (us'.length : Int) := by omega
    have i3 : (0 : Int) ≤ (p : Int) := by omega
    clear h2 t2 n2 hbx T2 N2 e0 e1 fg HP HLow hpl
    generalize us'.length = ul at *
    go_wp2_with fail
    go_region_held3 (fun w' => w'.cell? ⟨B, 1, none⟩ = some (.slice (some ⟨g, 0, none⟩) ul cap) ∧ w'.cell? ⟨w.heap.size, 0, none⟩ = some (.int .i64 b1) ∧ w'.cell? ⟨w.heap.size, 1, none⟩ = some (.int .i64 b2)) (go_keep) (first
      | (go_at_call 38; refine (newCell_any (b1, b2) _).mono ?_; rintro e w4 ⟨rfl, hw4⟩; have hq := HN.out _ rfl w4 hw4; have d1 := hq.1.1; have q0 := hq.1.2.1; have q1 := hq.1.2.2; have x1 := hq.2.1.1; have x2 := hq.2.1.2.1; have x3 := hq.2.1.2.2; have u0 := hq.2.2.1; have u1 := hq.2.2.2.1; have v0 := hq.2.2.2.2.1; have v1 := hq.2.2.2.2.2.1; have HF : Hid _ := hq.2.2.2.2.2.2; clear hq hw4))
    go_wp2
    go_ret2
    exact ⟨rfl, _, _, HF.out⟩
  · obtain ⟨w0, hw0, h0, hb0, hs0, hkb⟩ := h.box 0 b2
    have HB : Hid (∀ k, Below w.heap.size w (w0.drewN k)) := fun k => below_drewN hb0 k
    have HW : Hid (∀ k, Bk (w0.drewN k) w.heap.size 32 #[.int .i64 0, .int .i64 b2] ∧ w.heap.size < (w0.drewN k).heap.size) := fun k => ⟨hkb, by show _ < w0.heap.size; omega⟩
    have HR0 : Hid (∀ k ∈ bs3 B uv wv, k < w.heap.size) := fun k hk => h.lt k (bs3_sub k hk)
    obtain ⟨c0, c1, c2, c3, c4, -⟩ := h0.cells
    have k0 : w0.cell? ⟨w.heap.size, 0, none⟩ = some (.int .i64 0) := hkb.cell 0
    have k1 : w0.cell? ⟨w.heap.size, 1, none⟩ = some (.int .i64 b2) := hkb.cell 1
    obtain ⟨L, hL⟩ : ∃ L, (us.length : Int) - many - gone = L := ⟨_, rfl⟩
    have HL : Hid (∀ k, Calls Tryd.prog 19 #[.pointer (some ⟨B, 0, none⟩)] (w0.drewN k) fun e w' => e = .returned (.int .i64 L) ∧ ∃ m, w' = (w0.drewN k).drewN m) := fun k => by
      have := live_any (h0.below (below_drewN (Below.refl _ _) k)) hs hn ⟨hm0, hm1⟩ ⟨hg0, hg1⟩
      rwa [hL] at this
    have HLow : Hid _ := hlow
    have l1 : -200000 ≤ L := by omega
    have l2 : L ≤ 200000 := by omega
    have l3 : ¬ L + gone = size := by omega
    have HP : Hid (us'[p]? = some Pa.free) := hp
    clear h h0 hb0 hkb hf hn hm0 hm1 hlow hL hp
    go_enter Tryd.func14, Tryd.ntmps14
    go_wp2_with fail
    refine (tmade_any c0 hs).mono ?_
    rintro e w1 ⟨rfl, rfl⟩
    go_wp2_with fail
    go_quiet (first | (go_at_call 19; refine Calls.quiet_of (HL.out _)))
    go_wp2_with fail
    refine (HLow.out _ (HB.out _)).mono ?_
    rintro e w2 ⟨rfl, uv', h2, t2, n2⟩
    have hpl : p < us'.length := (List.getElem?_eq_some_iff.1 HP.out).1
    obtain ⟨g, cap, huv, -, e0, e1, fg⟩ := h2.entry HP.out
    subst huv
    obtain ⟨d0, d1, -⟩ := h2.cells
    have hbx : Bk w2 w.heap.size 32 #[.int .i64 0, .int .i64 b2] := (HW.out _).1.tn t2 (fun hm => by have := HR0.out _ hm; omega)
    have q0 : w2.cell? ⟨w.heap.size, 0, none⟩ = some (.int .i64 0) := hbx.cell 0
    have q1 : w2.cell? ⟨w.heap.size, 1, none⟩ = some (.int .i64 b2) := hbx.cell 1
    have hsz2 : w.heap.size ≤ w2.heap.size := Nat.le_trans (HB.out 0).size (Nat.le_trans (by exact Nat.le_refl _) t2.size)
    have T2 : Tn (bs3 B uv wv) w w2 := (Tn.of_below (HB.out _) _).trans t2 (fun x hx => .inl hx)
    have N2 : Nw w uv (.slice (some ⟨g, 0, none⟩) us'.length cap) := fun k hk => (n2 k hk).imp id (fun hh => Nat.le_trans (HB.out 0).size hh)
    have HN : Hid (∀ v, v = w2.drew → ∀ w4, w4 = (v.alloc (.cells #[.int .i64 0, .int .i64 b2] 32)).alloc (.cells #[.bool true, .int .i64 0, .int .i64 b2, .int .i64 0] 96) →
        (w4.cell? ⟨B, 1, none⟩ = some (.slice (some ⟨g, 0, none⟩) us'.length cap) ∧ w4.cell? ⟨w.heap.size, 0, none⟩ = some (.int .i64 0) ∧ w4.cell? ⟨w.heap.size, 1, none⟩ = some (.int .i64 b2)) ∧
        (((w4.setCell ⟨g, p * 2, none⟩ (.int .i64 1)).setCell ⟨g, p * 2 + 1, none⟩ (.pointer (some ⟨w2.heap.size + 1, 0, none⟩))).cell? ⟨B, 1, none⟩ = some (.slice (some ⟨g, 0, none⟩) us'.length cap) ∧ ((w4.setCell ⟨g, p * 2, none⟩ (.int .i64 1)).setCell ⟨g, p * 2 + 1, none⟩ (.pointer (some ⟨w2.heap.size + 1, 0, none⟩))).cell? ⟨w.heap.size, 0, none⟩ = some (.int .i64 0) ∧ ((w4.setCell ⟨g, p * 2, none⟩ (.int .i64 1)).setCell ⟨g, p * 2 + 1, none⟩ (.pointer (some ⟨w2.heap.size + 1, 0, none⟩))).cell? ⟨w.heap.size, 1, none⟩ = some (.int .i64 b2)) ∧
        w4.cell? ⟨g, p * 2, none⟩ = some (.int .i64 0) ∧ w4.cell? ⟨g, p * 2 + 1, none⟩ = some (.pointer none) ∧ w4.frozen? ⟨g, p * 2, none⟩ = false ∧ w4.frozen? ⟨g, p * 2 + 1, none⟩ = false ∧
        Rw ((w4.setCell ⟨g, p * 2, none⟩ (.int .i64 1)).setCell ⟨g, p * 2 + 1, none⟩ (.pointer (some ⟨w2.heap.size + 1, 0, none⟩))) B (.slice (some ⟨g, 0, none⟩) us'.length cap) wv size (us'.set p (.live (w2.heap.size + 1) (0, b2) 0)) ws' many' gone missed ∧
        Tn (bs3 B uv wv) w ((w4.setCell ⟨g, p * 2, none⟩ (.int .i64 1)).setCell ⟨g, p * 2 + 1, none⟩ (.pointer (some ⟨w2.heap.size + 1, 0, none⟩))) ∧ Nw w uv (.slice (some ⟨g, 0, none⟩) us'.length cap) ∧ w.heap.size ≤ w2.heap.size + 1) := by
      intro v hv0 w4 hw4
      have hbv : Below w2.heap.size w2 w4 := by
        rw [hw4, hv0]
        exact ((Below.refl _ w2).drew.alloc (by exact Nat.le_refl _) _).alloc (by rw [World.size_alloc]; exact Nat.le_succ _) _
      have h4 := h2.below hbv
      have hbx4 := hbx.below hbv hbx.lt
      obtain ⟨g', cap', he, -, e0', e1', fg'⟩ := h4.entry HP.out
      cases he
      have hc4 : Ce w4 (w2.heap.size + 1) (0, b2) 0 := by
        rw [hw4, hv0]
        have := Bk.new (w2.drew.alloc (.cells #[.int .i64 0, .int .i64 b2] 32)) 96 #[.bool true, .int .i64 0, .int .i64 b2, .int .i64 0]
        rw [World.size_alloc] at this
        exact this
      obtain ⟨h5, t5⟩ := h4.setEntry rfl hpl (.live (w2.heap.size + 1) (0, b2) 0) (fun k x m hk => by
        cases hk
        refine ⟨hc4, fun j x' m' hj => ?_⟩
        have := (h2.cel j _ x' m' hj).lt
        omega)
      have hgn : w.heap.size ≠ g := by
        obtain ⟨cs, hcs⟩ := row_type h2.row g rfl
        exact ne_type hbx hcs (by decide)
      have hbx5 := hbx4.tn t5 (by simpa using hgn)
      refine ⟨⟨h4.cells.2.1, hbx4.cell 0, hbx4.cell 1⟩, ⟨h5.cells.2.1, hbx5.cell 0, hbx5.cell 1⟩, e0', e1', fg' _, fg' _, h5, ?_, N2, by omega⟩
      refine (T2.trans (Tn.of_below hbv []) (by simp)).trans t5 (fun x hx => ?_)
      simp at hx
      subst hx
      exact (N2 x rfl).imp (fun hh => mem_bs3.2 (.inr (.inl hh))) id
    have i2 : (p : Int) < (us'.length : Int) := by omega
    have i3 : (0 : Int) ≤ (p : Int) := by omega
    clear h2 t2 n2 hbx T2 N2 e0 e1 fg HP HLow hpl
    generalize us'.length = ul at *
    go_wp2_with fail
    go_region_held3 (fun w' => w'.cell? ⟨B, 1, none⟩ = some (.slice (some ⟨g, 0, none⟩) ul cap) ∧ w'.cell? ⟨w.heap.size, 0, none⟩ = some (.int .i64 0) ∧ w'.cell? ⟨w.heap.size, 1, none⟩ = some (.int .i64 b2)) (go_keep) (first
      | (go_at_call 38; refine (newCell_any (0, b2) _).mono ?_; rintro e w4 ⟨rfl, hw4⟩; have hq := HN.out _ rfl w4 hw4; have d1 := hq.1.1; have q0 := hq.1.2.1; have q1 := hq.1.2.2; have x1 := hq.2.1.1; have x2 := hq.2.1.2.1; have x3 := hq.2.1.2.2; have u0 := hq.2.2.1; have u1 := hq.2.2.2.1; have v0 := hq.2.2.2.2.1; have v1 := hq.2.2.2.2.2.1; have HF : Hid _ := hq.2.2.2.2.2.2; clear hq hw4))
    go_wp2
    go_ret2
    exact ⟨rfl, _, _, HF.out⟩
end
end Go.Proofs.YtnjafmjkaajbkaaDoor
