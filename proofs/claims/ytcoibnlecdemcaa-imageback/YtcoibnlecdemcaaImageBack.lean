/- The chunks of an image, put together, are its pairs, for any keys and versions. -/
import Derived.Test.YtcoibnlecdemcaaImBk
import Derived.Test.YtcoibnlecdemcaaImBu
import Derived.Test.YtcoibnlecdemcaaImBg
import Derived.Test.YtcoibnlecdemcaaImEq
namespace Go.Proofs.Ytcoibnlecdemcaa
open Go.ChangeShapes Go.WideShapes Go.ChangeAt Go.RowKit Go.Shelf Go.Maps
open Go.ChangeMaps (open_string shut_string)
attribute [local go_sem] Oper.semAt_some
set_option linter.unusedVariables false
set_option maxRecDepth 100000

set_option maxHeartbeats 4000000 in
theorem back_bad (ts : Int) (p : Option Addr) (n c : Nat) (w : World) (h : ts < 0 ∨ 1099511627776 < ts) :
    Calls Try.prog 6 #[.int .i64 ts, .slice p n c] w fun e w' => e = .returned (.bool true) ∧ Below w.heap.size w w' := by
  have HB : Hid (ts < 0 ∨ 1099511627776 < ts) := h
  clear h
  go_enter Try.func6, Try.ntmps6
  go_wp2_with fail
  refine (new_bad ts w HB.out).mono ?_
  rintro e w1 ⟨rfl, rfl⟩
  go_wp2_with fail
  refine (begun_any _).mono ?_
  rintro e w2 ⟨rfl, b2⟩
  have HB2 : Hid (Below w1.heap.size w1 w2) := b2
  clear b2
  by_cases h1 : ts < 0
  · have h1' : decide (ts < 0) = true := by simpa using h1
    go_wp2
    go_ret
    exact ⟨rfl, HB2.out⟩
  · have h1' : decide (ts < 0) = false := by simpa using h1
    have h2' : decide (1099511627776 < ts) = true := by have := HB.out; simp; omega
    go_wp2
    go_ret
    exact ⟨rfl, HB2.out⟩

/-- Between the adds. -/
structure Ad (w : World) (B : Nat) (wr : World) (v : Value) (m : Im) : Prop where
  is : IsIm wr B B v m
  good : Good m
  below : Below B w wr
  size : B ≤ wr.heap.size

theorem Ad.add {w : World} {B : Nat} {wr w' : World} {v v' : Value} {m : Im} {k : ByteArray} {l : List Vs} (h : Ad w B wr v m) (ha : Added wr w' B B v v' (m.added k l)) : Ad w B w' v' (m.added k l) :=
  have hb : Below B wr w' := ha.tn.below h.size (fun x hx => by
    rcases List.mem_cons.1 hx with rfl | hx
    · exact Nat.le_refl _
    · exact (h.is.row.blk (opt_toList.1 hx)).1)
  ⟨ha.is, h.good.added k l, h.below.trans hb, Nat.le_trans h.size hb.size⟩

theorem Ad.keep {w : World} {B N : Nat} {A A' : World} {v : Value} {m : Im} (h : Ad w B A v m) (hB : B < N) (hv : ∀ g, v.ownBlock = some g → g < N) (hb : Below N A A') : Ad w B A' v m :=
  ⟨h.is.keep hB hv hb.block, h.good, h.below.trans (hb.mono (by omega)), Nat.le_trans h.size hb.size⟩

/-- Between the rounds of the first range. -/
structure W1 (w : World) (B N wB : Nat) (v : Value) (m : Im) (pre : List St) (T : List Nat) (A : World) (vw : Value) : Prop where
  tq : T = vw.ownBlock.toList
  box : Bk A wB 38 #[vw]
  row : OwnS A (N + 2) vw pre
  ad : Ad w B A v m
  pf : pre <+: m.list

theorem W1.keep {w : World} {B N wB : Nat} {v : Value} {m : Im} {pre : List St} {T : List Nat} {A A' : World} {vw : Value} (h : W1 w B N wB v m pre T A vw) (h1 : wB < N) (hB : B < N) (hv : ∀ g, v.ownBlock = some g → g < N) (hb : Below N A A') (hk : KpP T A A') : W1 w B N wB v m pre T A' vw :=
  ⟨h.tq, (hb.block _ h1).trans h.box, Own.kp h.row (by rw [← h.tq]; exact hk), h.ad.keep hB hv hb, h.pf⟩

/-- The blocks of a chunk that has pairs. -/
def Cd.bl2 (c : Cd) : List Nat := if c.x.n = 0 then [] else c.blk
theorem Cd.bl2_sub {c : Cd} {b : Nat} (h : b ∈ c.bl2) : b ∈ c.blk := by
  unfold Cd.bl2 at h
  split at h
  · cases h
  · exact h
theorem Cd.Dt.kp2 {c : Cd} {W W' : World} (h : c.Dt W) (hk : KpP c.bl2 W W') : c.Dt W' := by
  refine ⟨h.lenq, fun hl => ?_, h.le, h.room, h.nil⟩
  obtain ⟨b, o, hp, hc⟩ := h.cel hl
  refine ⟨b, o, hp, fun i g hi j v hv => ?_⟩
  have h0 := hc i g hi j v hv
  have hb := hk b (by unfold Cd.bl2 Cd.blk; rw [if_neg (by omega), hp]; simp [Value.ownBlock])
  simp only [World.cell?, hb] at h0 ⊢
  exact h0
theorem Cd.Dt.cells {c : Cd} {W : World} (h : c.Dt W) {b : Nat} (hb : b ∈ c.bl2) : ∃ o : Obj, W.heap[b]? = some o ∧ o.isCells = true := by
  unfold Cd.bl2 at hb
  split at hb
  · cases hb
  · rename_i hn
    obtain ⟨b0, o, hp, hc⟩ := h.cel (by omega)
    unfold Cd.blk at hb
    rw [hp] at hb
    simp [Value.ownBlock] at hb
    subst hb
    have hg : c.s[0]? = some (c.s[0]'(by have := h.lenq; omega)) := List.getElem?_eq_getElem _
    have h0 := hc 0 _ hg 0 _ rfl
    unfold World.cell? at h0
    cases ho : W.heap[b]? with
    | none => simp [ho] at h0
    | some ob => exact ⟨ob, rfl, by cases ob <;> simp_all [Obj.isCells]⟩

/-- Between the rounds of the second range. -/
structure W2 (w : World) (B N wB N2 cB D1 : Nat) (v vw : Value) (m : Im) (xs : List Cd) (T : List Nat) (A : World) (vc : Value) : Prop where
  tq : T = vc.ownBlock.toList ++ xs.flatMap Cd.bl2
  box : Bk A cB 43 #[vc]
  row : Own Ck.cells 3 71 A (N2 + 2) vc (xs.map Cd.x)
  dts : ∀ c ∈ xs, c.Dt A ∧ ∀ b ∈ c.bl2, N2 + 2 ≤ b ∧ vc.ownBlock ≠ some b ∧ b < A.heap.size
  first : Cc.First m.list xs
  ad : Ad w B A v m
  wbox : Bk A wB 38 #[vw]
  wrow : OwnS A (N + 2) vw m.list
  d1 : A.heap[D1]? = some (.deferred (some []))

theorem W2.keep {w : World} {B N wB N2 cB D1 : Nat} {v vw vc : Value} {m : Im} {xs : List Cd} {T : List Nat} {A A' : World} (h : W2 w B N wB N2 cB D1 v vw m xs T A vc) (h1 : cB < N2) (h2 : wB < N2) (h3 : D1 < N2) (hB : B < N2) (hv : ∀ g, v.ownBlock = some g → g < N2) (hw : ∀ g, vw.ownBlock = some g → g < N2) (hb : Below N2 A A') (hk : KpP T A A') : W2 w B N wB N2 cB D1 v vw m xs T A' vc := by
  have hk1 : KpP vc.ownBlock.toList A A' := fun b hm => hk b (by rw [h.tq]; exact List.mem_append_left _ hm)
  have hk2 : ∀ c ∈ xs, KpP c.bl2 A A' := fun c hc b hm => hk b (by rw [h.tq]; exact List.mem_append_right _ (List.mem_flatMap.2 ⟨c, hc, hm⟩))
  exact ⟨h.tq, (hb.block _ h1).trans h.box, Own.kp h.row hk1, fun c hc => ⟨(h.dts c hc).1.kp2 (hk2 c hc), fun b hm => ⟨((h.dts c hc).2 b hm).1, ((h.dts c hc).2 b hm).2.1, Nat.lt_of_lt_of_le ((h.dts c hc).2 b hm).2.2 hb.size⟩⟩, h.first, h.ad.keep hB hv hb,
    (hb.block _ h2).trans h.wbox, Own.kp h.wrow (fun b hm => hb.block b (hw b (opt_toList.1 hm))), (hb.block _ h3).trans h.d1⟩

theorem W2.cells {w : World} {B N wB N2 cB D1 : Nat} {v vw vc : Value} {m : Im} {xs : List Cd} {T : List Nat} {A : World} (h : W2 w B N wB N2 cB D1 v vw m xs T A vc) : ∀ b ∈ T, N2 + 2 ≤ b ∧ ∃ o : Obj, A.heap[b]? = some o ∧ o.isCells = true := by
  intro b hb
  rw [h.tq] at hb
  rcases List.mem_append.1 hb with hb | hb
  · exact Own.cel h.row b hb
  · obtain ⟨c, hc, hm⟩ := List.mem_flatMap.1 hb
    exact ⟨((h.dts c hc).2 b hm).1, (h.dts c hc).1.cells hm⟩

set_option maxHeartbeats 16000000 in
theorem back_good (ts : Int) (p : Option Addr) (n c : Nat) (l : List Pt) (w : World) (h1 : 0 ≤ ts) (h2 : ts ≤ 1099511627776) (hin : InL Pt.cells (Pt.ok w) 2 3518437208781 w p n c l) :
    Calls Try.prog 6 #[.int .i64 ts, .slice p n c] w fun e w' => e = .returned (.bool true) ∧ Below w.heap.size w w' := by
  refine (callsIn_wide (n := 9)).1 ?_
  refine callsIn_of_wp_marks Try.func6 rfl trivial ?_ rfl
  simp only [Try.ntmps6, List.size_toArray, List.length_cons, List.length_nil, Nat.reduceAdd, Nat.reduceSub, Array.replicate_succ, Array.replicate_zero, List.push_toArray, List.append_toArray, List.nil_append, List.cons_append]
  have HIN : Hid (InL Pt.cells (Pt.ok w) 2 3518437208781 w p n c l) := hin
  have hnn : n ≤ 3518437208781 := Nat.le_trans hin.le hin.room
  obtain ⟨i0, hi, hz0, hz1, hz2⟩ := info_parts stinfo
  obtain ⟨j0, hj, hy0, hy1, hy2⟩ := info_parts ckinfo
  obtain ⟨B, hB⟩ : ∃ B, w.heap.size = B := ⟨_, rfl⟩
  have hnew := new_any ts w h1 h2
  rw [hB] at hnew ⊢
  clear hin h1 h2
  gi_wp2_with fail
  refine ⟨trivial, (callsIn_wide.2 hnew).mono ?_⟩
  rintro e w1 ⟨rfl, hi1, b1⟩
  have HI1 : Hid (IsIm w1 B B (.slice none 0 0) ⟨ts, ⟨#[]⟩, []⟩ ∧ Below B w w1 ∧ B ≤ w1.heap.size) := ⟨hi1, b1, by have := b1.size; omega⟩
  simp only []
  clear hnew hi1 b1
  gi_wp2_with fail
  refine ⟨trivial, (callsIn_wide.2 (begun_any _)).mono ?_⟩
  rintro e w2 ⟨rfl, b2⟩
  have HA : Hid (Ad w B w2 (.slice none 0 0) ⟨ts, ⟨#[]⟩, []⟩) := ⟨HI1.out.1.below b2, Good.new ts, HI1.out.2.1.trans (b2.mono HI1.out.2.2), Nat.le_trans HI1.out.2.2 b2.size⟩
  simp only []
  clear b2
  gi_wp2_with fail
  gi_loopw [38] (fun i wr => ∃ (k : Nat) (m : Im) (v : Value), k ≤ n ∧ i = .int .i64 k ∧ Hid (Ad w B wr v m)) (fun i _ => n - (intOf i).toNat)
  case atStart => exact ⟨0, _, _, Nat.zero_le _, rfl, HA⟩
  case round =>
    obtain ⟨k, m, v, hk, rfl, HM⟩ := hrel
    by_cases hlt : k < n
    · have hli : (k : Int) < (n : Int) := by omega
      obtain ⟨b, o, g, rfl, hg, hok, hc⟩ := (HIN.out.up (by rw [hB]; exact HM.out.below)).at hlt
      obtain ⟨lv, hlv⟩ := hok
      have c0 := hc 0 _ rfl
      have c1 := hc 1 _ rfl
      rw [Nat.add_zero] at c0
      obtain ⟨gk, gp, gn, gc⟩ := g
      simp only at c0 c1 hlv
      obtain ⟨w3, hw3⟩ : ∃ w3, wr.alloc (.cells #[.string gk, .slice gp gn gc] 33) = w3 := ⟨_, rfl⟩
      have hb3 : Below wr.heap.size wr w3 := by rw [← hw3]; exact (Below.refl _ _).alloc (Nat.le_refl _) _
      have kb : Bk w3 wr.heap.size 33 #[.string gk, .slice gp gn gc] := by rw [← hw3]; exact Bk.new _ _ _
      have d0 : w3.cell? ⟨wr.heap.size, 0, none⟩ = some (.string gk) := kb.cell 0
      have d1 : w3.cell? ⟨wr.heap.size, 1, none⟩ = some (.slice gp gn gc) := kb.cell 1
      have HM3 : Hid (Ad w B w3 v m) := ⟨HM.out.is.below hb3, HM.out.good, HM.out.below.trans (hb3.mono HM.out.size), Nat.le_trans HM.out.size hb3.size⟩
      obtain ⟨q1, q2, q3, q4, q5⟩ := InV.vrs (hlv.up (by rw [hB]; exact HM3.out.below))
      have hadd := add_any HM3.out.is HM3.out.size HM3.out.good.len gk gp gn gc lv q2 q1 (fun i x hx => by have := q3 i x hx; exact this) (by omega)
      clear hg hlv hc q1 q2 q3 q4 q5 kb hb3
      gi_wp2_with fail
      refine ⟨trivial, (callsIn_wide.2 hadd).mono ?_⟩
      rintro e w4 ⟨rfl, v4, h4⟩
      have HM4 : Hid (Ad w B w4 v4 (m.added gk lv)) := HM3.out.add h4
      simp only []
      clear hadd h4 c0 c1 d0 d1 hw3
      gi_wp2
      go_roundw
      case rel => exact ⟨k + 1, _, _, by omega, by go_num, HM4⟩
      case measure => simp [intOf]; omega
    · obtain rfl : k = n := by omega
      have hli : ¬ ((k : Int) < (k : Int)) := by omega
      clear HI1 HA
      obtain ⟨wB, hwB⟩ : ∃ wB, wr.heap.size = wB := ⟨_, rfl⟩
      obtain ⟨w5, hw5⟩ : ∃ w5, wr.alloc (.cells #[.slice none 0 0] 38) = w5 := ⟨_, rfl⟩
      have hb5 : Below wr.heap.size wr w5 := by rw [← hw5]; exact (Below.refl _ _).alloc (Nat.le_refl _) _
      have kb5 : Bk w5 wB 38 #[.slice none 0 0] := by rw [← hw5, ← hwB]; exact Bk.new _ _ _
      have ha5 : Ad w B w5 v m := ⟨HM.out.is.below hb5, HM.out.good, HM.out.below.trans (hb5.mono HM.out.size), Nat.le_trans HM.out.size hb5.size⟩
      have hvB : ∀ g, v.ownBlock = some g → g < wB := fun g hg => by rw [← hwB]; exact (HM.out.is.row.blk hg).2
      have hBB : B < wB := by rw [← hwB]; exact HM.out.is.blk.lt
      have HV : Hid (∀ g, v.ownBlock = some g → g < wB) := hvB
      have hp := pairs_any ha5.is (by have := HM.out.good.len; omega)
      have H5 : Hid (Ad w B w5 v m ∧ Bk w5 wB 38 #[.slice none 0 0]) := ⟨ha5, kb5⟩
      have hz5 : w5.heap.size = wB + 1 := by rw [← hw5, ← hwB]; simp
      clear hb5 kb5 ha5 hvB
      gi_wp2_with fail
      refine ⟨trivial, (callsIn_wide.2 hp).mono ?_⟩
      rintro e w6 ⟨b1, S1, rfl, hF1, hS1, hb6⟩
      obtain ⟨N, hN⟩ : ∃ N, w6.heap.size = N := ⟨_, rfl⟩
      have hN6 : wB + 1 ≤ N := by have := hb6.size; omega
      have HF1 : Hid (Fi w6 b1 S1 m.list ∧ (∀ x ∈ S1, x < N ∧ x ≠ wB)) := ⟨hF1, fun x hx => ⟨by rw [← hN]; exact hF1.lt x hx, fun e => by
        rcases hS1 x hx with h | h
        · omega
        · have := HV.out x h
          omega⟩⟩
      have H6 : Hid (W1 w B N wB v m [] [] w6 (.slice none 0 0)) := ⟨rfl, H5.out.2.below hb6 H5.out.2.lt, Own.nil _ _ _, H5.out.1.keep (N := w5.heap.size) (by omega) (fun g hg => by have := HV.out g hg; omega) hb6, List.nil_prefix⟩
      simp only []
      clear hp hF1 hS1 hb6
      gi_wp2_with fail
      refine wpIn_rangeTb ?A (gf := 50) (lb := #[.pointer (some ⟨b1, 0, none⟩)]) rfl (enters_of Try.func50 (by kernel_rfl) rfl) (pairs2_T HF1.out.1) (Below.refl _ _) (fun _ => rfl) (by rw [hN]; exact fun x hx => (HF1.out.2 x hx).1) (fun _ _ _ _ _ => trivial)
        (fun pre T A => ∃ vw, W1 w B N wB v m pre T A vw) ?hI ?hT ⟨_, H6.out⟩
        (fun x T bx A => N + 2 ≤ bx ∧ bx ∉ T ∧ Bk A bx 52 #[.string x.key, .string x.val, .int .i64 x.ts])
        ?hBx ?assign ?body ?done
      case hI =>
        rintro pre T A A' ⟨vw, h⟩ hb hk
        rw [hN] at hb
        exact ⟨vw, h.keep (by omega) (by omega) (fun g hg => by have := HV.out g hg; omega) hb hk⟩
      case hT =>
        rintro pre T A ⟨vw, h⟩ b hb
        rw [hN]
        rw [h.tq] at hb
        exact Own.cel h.row b hb
      case hBx =>
        rintro x T bx A A' ⟨h1, h2, h3⟩ hk
        exact ⟨h1, h2, (hk bx (by omega)).trans h3⟩
      case assign =>
        rintro l2 pre x T A K ⟨vw, h⟩ hsz hK
        have hcl : ∀ b ∈ T, b < A.heap.size := fun b hb => by rw [h.tq] at hb; obtain ⟨-, o, ho, -⟩ := Own.cel h.row b hb; exact (Array.getElem?_eq_some_iff.1 ho).1
        gi_wp2
        obtain ⟨bx, hbx⟩ : ∃ bx, A.heap.size = bx := ⟨_, rfl⟩
        have kx : Bk (A.alloc (.cells #[.string x.key, .string x.val, .int .i64 x.ts] 52)) bx 52 #[.string x.key, .string x.val, .int .i64 x.ts] := by rw [← hbx]; exact Bk.new _ _ _
        have hb1 : Below A.heap.size A (A.alloc (.cells #[.string x.key, .string x.val, .int .i64 x.ts] 52)) := (Below.refl _ _).alloc (Nat.le_refl _) _
        have hsl := HF1.out.2
        rw [hN] at hsz
        rw [hbx]
        refine hK bx _ ⟨hb1.size, fun b hb => hb1.block b (by have := (hsl b hb).1; omega), fun b _ hb _ => hb1.block b hb⟩ ⟨vw, h.keep (by omega) (by omega) (fun g hg => by have := HV.out g hg; omega) (hb1.mono (by omega)) (fun b hb => hb1.block b (hcl b hb))⟩ ⟨by omega, fun hm => by have := hcl bx hm; omega, kx⟩
      case body =>
        rintro l2 pre x T bx A ⟨vw, h⟩ hsz ⟨hbx, hbT, kx⟩ hsp - -
        rw [hN] at hsz
        obtain ⟨q, c0, rfl, -, -, -⟩ := Own.els stknd h.row
        have HH : Hid (W1 w B N wB v m pre T A (.slice q pre.length c0)) := h
        have HROW : Hid (OwnS A (N + 2) (.slice q pre.length c0) pre) := h.row
        have HSP : Hid (pre ++ [x] <+: m.list) := hsp
        have hpl : pre.length ≤ 65536 := by have := h.pf.length_le; have := h.ad.good.len; omega
        have HSZ : Hid (N + 2 ≤ A.heap.size) := hsz
        have e0 : A.cell? ⟨wB, 0, none⟩ = some (.slice q pre.length c0) := h.box.cell 0
        have d0 : A.cell? ⟨bx, 0, none⟩ = some (.string x.key) := kx.cell 0
        have d1 : A.cell? ⟨bx, 1, none⟩ = some (.string x.val) := kx.cell 1
        have d2 : A.cell? ⟨bx, 2, none⟩ = some (.int .i64 x.ts) := kx.cell 2
        clear h kx hsp
        gi_wp2_with (gi_at_builtin; refine wpListIn_append_own_at _ rfl _ _ 38 rfl (N + 2) 52 i0 _ 3 40 Try.underlying38 hi hz0 hz1 hz2 rfl (by decide) _ _ _ rfl (World.ownsRow.alloc HROW.out _) ⟨A.heap.size, 0, none⟩ 1 1 (Rk.St.cells x) rfl rfl ((els_one stknd A 52 x).news stknd _ rfl) (stknd.one x) (by unfold maxLen; omega) (by omega) (by have := HSZ.out; simp; omega) ?_; intro v' w8 hown' hgrow hnil hq; obtain ⟨g', cap', rfl⟩ := ownsRow_succ hown'; obtain ⟨m1, m2, m3, m4, m5, m6⟩ := box_app HH.out.box HROW.out (by omega) HSZ.out hgrow (by unfold Own; rw [flat_append, flat_single, List.length_append]; exact hown'); have e1 := m1.cell 0; have f1 := m1.frozen 0)
        rw [hN]
        have hsl := HF1.out.2
        refine ⟨⟨m5, fun b hb => m4 b (by have := (hsl b hb).1; omega) (hsl b hb).2 (fun e => by have := (HROW.out.blk e).1; have := (hsl b hb).1; omega), fun b h1 h2 h3 => m4 b h2 (by omega) (fun e => h3 (by rw [HH.out.tq]; simp [e]))⟩, _, ⟨_, rfl, m2, m3, HH.out.ad.keep hBB HV.out m6, HSP.out⟩, fun b hb => ?_⟩
        have hb' := opt_toList.1 hb
        rcases hq with hq | hq
        · exact .inl (by rw [HH.out.tq]; exact opt_toList.2 (hq.symm.trans hb'))
        · rw [hq] at hb'
          simp at hb'
          exact .inr (.inr (by omega))
      case done =>
        rintro D1 xs T1 A hD hxs ⟨vw, h⟩ hsz hK
        subst hxs
        rw [hN] at hD hsz
        have HH : Hid (W1 w B N wB v m m.list T1 A vw) := h
        obtain ⟨cB, hcB⟩ : ∃ cB, A.heap.size = cB := ⟨_, rfl⟩
        have hD1 : D1 < cB := by omega
        have hwB1 : wB < cB := by omega
        have hBD1 : B ≤ D1 := by omega
        clear hD
        obtain ⟨w9, hw9⟩ : ∃ w9, A.alloc (.cells #[.slice none 0 0] 43) = w9 := ⟨_, rfl⟩
        have hb9 : Below A.heap.size A w9 := by rw [← hw9]; exact (Below.refl _ _).alloc (Nat.le_refl _) _
        have kb9 : Bk w9 cB 43 #[.slice none 0 0] := by rw [← hw9, ← hcB]; exact Bk.new _ _ _
        have hz9 : w9.heap.size = cB + 1 := by rw [← hw9, ← hcB]; simp
        have hvA : ∀ g, v.ownBlock = some g → g < cB := fun g hg => by have := HV.out g hg; omega
        have ha9 : Ad w B w9 v m := h.ad.keep (N := cB) (by omega) hvA (by rw [← hcB]; exact hb9)
        have hp2 := chunks_any ha9.is (by have := h.ad.good.len; omega)
        have hrl : ∀ g, vw.ownBlock = some g → g < cB := fun g hg => by rw [← hcB]; exact (h.row.blk hg).2
        have H9 : Hid (Ad w B w9 v m ∧ Bk w9 cB 43 #[.slice none 0 0] ∧ Bk w9 wB 38 #[vw] ∧ OwnS w9 (N + 2) vw m.list ∧ w9.heap[D1]? = some (.deferred (some [])) ∧ (∀ g, vw.ownBlock = some g → g < cB)) :=
          ⟨ha9, kb9, h.box.below hb9 h.box.lt, h.row.below hb9 (Nat.le_refl _), (hb9.block D1 (Array.getElem?_eq_some_iff.1 hK).1).trans hK, hrl⟩
        clear h hb9 kb9 ha9 hvA hrl hK
        gi_wp2_with fail
        refine ⟨trivial, (callsIn_wide.2 hp2).mono ?_⟩
        rintro e w10 ⟨pB, S2, rfl, hF2, hS2, hb10⟩
        simp only []
        obtain ⟨N2, hN2⟩ : ∃ N2, w10.heap.size = N2 := ⟨_, rfl⟩
        have hN9 : cB + 1 ≤ N2 := by have := hb10.size; omega
        have HF2 : Hid (Fc w10 pB S2 m.list ∧ ∀ x ∈ S2, x < N2 ∧ x ≠ cB) := ⟨hF2, fun x hx => ⟨by rw [← hN2]; obtain ⟨b, -, f⟩ := hF2.ex; exact f.lt x hx, fun e => by
          rcases hS2 x hx with h | h
          · omega
          · have := HV.out x h
            omega⟩⟩
        have HRL : Hid (∀ g, vw.ownBlock = some g → g < cB) := H9.out.2.2.2.2.2
        have H10 : Hid (W2 w B N wB N2 cB D1 v vw m [] [] w10 (.slice none 0 0)) := by
          obtain ⟨q1, q2, q3, q4, q5, -⟩ := H9.out
          exact ⟨rfl, q2.below hb10 q2.lt, Own.nil _ _ _, (fun c h => by cases h), Cc.First.nil _, q1.keep (N := w9.heap.size) (by omega) (fun g hg => by have := HV.out g hg; omega) hb10, q3.below hb10 q3.lt, q4.below hb10 (Nat.le_refl _), (hb10.block D1 (Array.getElem?_eq_some_iff.1 q5).1).trans q5⟩
        clear hp2 hF2 hS2 hb10
        gi_wp2_with fail
        refine wpIn_rangeTb ?A2 (gf := 72) (lb := #[.pointer (some ⟨pB, 0, none⟩)]) rfl (enters_of Try.func72 (by kernel_rfl) rfl) (cut1_T HF2.out.1) (Below.refl _ _) (fun _ => rfl) (by rw [hN2]; exact fun x hx => (HF2.out.2 x hx).1) (fun _ _ _ h1 h2 => Cd.Dt.kp h1 h2)
          (fun xs T A => ∃ vc, W2 w B N wB N2 cB D1 v vw m xs T A vc) ?hI2 ?hT2 ⟨_, H10.out⟩
          (fun x T bx A => N2 + 2 ≤ bx ∧ bx ∉ T ∧ Bk A bx 71 #[.int .i64 x.x.num, .slice x.x.p x.x.n x.x.c, .bool x.x.last])
          ?hBx2 ?assign2 ?body2 ?done2
        case hI2 =>
          rintro xs T A A' ⟨vc, h⟩ hb hk
          rw [hN2] at hb
          exact ⟨vc, h.keep (by omega) (by omega) (by omega) (by omega) (fun g hg => by have := HV.out g hg; omega) (fun g hg => by have := HRL.out g hg; omega) hb hk⟩
        case hT2 =>
          rintro xs T A ⟨vc, h⟩ b hb
          rw [hN2]
          exact h.cells b hb
        case hBx2 =>
          rintro x T bx A A' ⟨h1, h2, h3⟩ hk
          exact ⟨h1, h2, (hk bx (by omega)).trans h3⟩
        case assign2 =>
          rintro l2 xs x T A K ⟨vc, h⟩ hsz2 hK
          have hcl : ∀ b ∈ T, b < A.heap.size := fun b hb => by obtain ⟨-, o, ho, -⟩ := h.cells b hb; exact (Array.getElem?_eq_some_iff.1 ho).1
          gi_wp2
          obtain ⟨bx, hbx⟩ : ∃ bx, A.heap.size = bx := ⟨_, rfl⟩
          have kx : Bk (A.alloc (.cells #[.int .i64 x.x.num, .slice x.x.p x.x.n x.x.c, .bool x.x.last] 71)) bx 71 #[.int .i64 x.x.num, .slice x.x.p x.x.n x.x.c, .bool x.x.last] := by rw [← hbx]; exact Bk.new _ _ _
          have hb1 : Below A.heap.size A (A.alloc (.cells #[.int .i64 x.x.num, .slice x.x.p x.x.n x.x.c, .bool x.x.last] 71)) := (Below.refl _ _).alloc (Nat.le_refl _) _
          have hsl := HF2.out.2
          rw [hN2] at hsz2
          rw [hbx]
          refine hK bx _ ⟨hb1.size, fun b hb => hb1.block b (by have := (hsl b hb).1; omega), fun b _ hb _ => hb1.block b hb⟩ ⟨vc, h.keep (by omega) (by omega) (by omega) (by omega) (fun g hg => by have := HV.out g hg; omega) (fun g hg => by have := HRL.out g hg; omega) (hb1.mono (by omega)) (fun b hb => hb1.block b (hcl b hb))⟩ ⟨by omega, fun hm => by have := hcl bx hm; omega, kx⟩
        case body2 =>
          rintro l2 xs x T bx A ⟨vc, h⟩ hsz2 ⟨hbx, hbT, kx⟩ hsp hdt hblk
          rw [hN2] at hsz2 hblk
          obtain ⟨q, c0, rfl, -, -, -⟩ := Own.els ckknd h.row
          have HH : Hid (W2 w B N wB N2 cB D1 v vw m xs T A (.slice q (xs.map Cd.x).length c0)) := h
          have HSP : Hid (Cc.First m.list (xs ++ [x]) ∧ x.Dt A ∧ ∀ b ∈ x.blk, N2 + 2 ≤ b ∧ b < A.heap.size ∧ b ∉ T) := ⟨hsp, hdt, hblk⟩
          have hpl : (xs.map Cd.x).length ≤ 4096 := by have := h.first.2; have := h.ad.good.len; unfold Cc.nch at *; simp; omega
          generalize hlx : (xs.map Cd.x).length = nx at *
          have HROW : Hid (Own Ck.cells 3 71 A (N2 + 2) (.slice q nx c0) (xs.map Cd.x)) := h.row
          have HSZ : Hid (N2 + 2 ≤ A.heap.size) := hsz2
          have e0 : A.cell? ⟨cB, 0, none⟩ = some (.slice q nx c0) := h.box.cell 0
          obtain ⟨⟨xn, xp, xl, xc, xd⟩, xs0⟩ := x
          have d0 : A.cell? ⟨bx, 0, none⟩ = some (.int .i64 xn) := kx.cell 0
          have d1 : A.cell? ⟨bx, 1, none⟩ = some (.slice xp xl xc) := kx.cell 1
          have d2 : A.cell? ⟨bx, 2, none⟩ = some (.bool xd) := kx.cell 2
          clear h kx hsp hdt hblk
          gi_wp2_with (gi_at_builtin; refine wpListIn_append_own_at _ rfl _ _ 43 rfl (N2 + 2) 71 j0 _ 3 40 Try.underlying43 hj hy0 hy1 hy2 rfl (by decide) _ _ _ rfl (World.ownsRow.alloc HROW.out _) ⟨A.heap.size, 0, none⟩ 1 1 (Ck.cells ⟨xn, xp, xl, xc, xd⟩) rfl rfl ((els_one ckknd A 71 ⟨xn, xp, xl, xc, xd⟩).news ckknd _ rfl) (ckknd.one ⟨xn, xp, xl, xc, xd⟩) (by unfold maxLen; rw [hlx]; omega) (by rw [hlx]; omega) (by have := HSZ.out; simp; omega) ?_; intro v' w8 hown' hgrow hnil hq; rw [hlx] at hown'; obtain ⟨g', cap', rfl⟩ := ownsRow_succ hown'; obtain ⟨m1, m2, m3, m4, m5, m6⟩ := box_app (x := (⟨xn, xp, xl, xc, xd⟩ : Ck)) HH.out.box HROW.out (by omega) HSZ.out hgrow (by unfold Own; rw [flat_append, flat_single, List.length_append, hlx]; exact hown'); have e1 := m1.cell 0; have f1 := m1.frozen 0)
          try rw [hN2]
          have hsl := HF2.out.2
          obtain ⟨hfs, hdt, hblk⟩ := HSP.out
          have hm4 : ∀ b, N2 ≤ b → b < A.heap.size → (Value.slice q nx c0).ownBlock ≠ some b → (World.setCell w8 ⟨cB, 0, none⟩ _).heap[b]? = A.heap[b]? := fun b h1 h2 h3 => m4 b h2 (by omega) h3
          have hq' : ∀ b, b < A.heap.size → (Value.slice q nx c0).ownBlock ≠ some b → (Value.slice (some ⟨g', 0, none⟩) (nx + 1) cap').ownBlock ≠ some b := fun b h1 h2 e => by
            rcases hq with hq | hq
            · exact h2 (hq.symm.trans e)
            · have := hq.symm.trans e
              simp at this
              omega
          refine ⟨⟨m5, fun b hb => m4 b (by have := (hsl b hb).1; omega) (hsl b hb).2 (fun e => by have := (HROW.out.blk e).1; have := (hsl b hb).1; omega), fun b h1 h2 h3 => m4 b h2 (by omega) (fun e => h3 (by rw [HH.out.tq]; exact List.mem_append_left _ (opt_toList.2 e)))⟩, _, ⟨_, rfl, m2, by rw [List.map_append]; exact m3, ?_, hfs, HH.out.ad.keep (N := cB) (by omega) (fun g hg => by have := HV.out g hg; omega) m6, (m6.block _ (by omega)).trans HH.out.wbox, Own.kp HH.out.wrow (fun b hm => m6.block b (HRL.out b (opt_toList.1 hm))), (m6.block _ (by omega)).trans HH.out.d1⟩, fun b hb => ?_⟩
          · intro cd hcd
            rcases List.mem_append.1 hcd with hcd | hcd
            · have h1 := HH.out.dts cd hcd
              exact ⟨h1.1.kp2 (fun b hb => hm4 b (by have := (h1.2 b hb).1; omega) (h1.2 b hb).2.2 (h1.2 b hb).2.1), fun b hb => ⟨(h1.2 b hb).1, hq' b (h1.2 b hb).2.2 (h1.2 b hb).2.1, Nat.lt_of_lt_of_le (h1.2 b hb).2.2 m5⟩⟩
            · simp at hcd
              subst hcd
              have nt : ∀ b ∈ Cd.bl2 ⟨⟨xn, xp, xl, xc, xd⟩, xs0⟩, (Value.slice q nx c0).ownBlock ≠ some b := fun b hb e => (hblk b (Cd.bl2_sub hb)).2.2 (by rw [HH.out.tq]; exact List.mem_append_left _ (opt_toList.2 e))
              exact ⟨hdt.kp2 (fun b hb => hm4 b (by have := (hblk b (Cd.bl2_sub hb)).1; omega) (hblk b (Cd.bl2_sub hb)).2.1 (nt b hb)), fun b hb => ⟨(hblk b (Cd.bl2_sub hb)).1, hq' b (hblk b (Cd.bl2_sub hb)).2.1 (nt b hb), Nat.lt_of_lt_of_le (hblk b (Cd.bl2_sub hb)).2.1 m5⟩⟩
          · rcases List.mem_append.1 hb with hb | hb
            · have hb' := opt_toList.1 hb
              rcases hq with hq | hq
              · exact .inl (by rw [HH.out.tq]; exact List.mem_append_left _ (opt_toList.2 (hq.symm.trans hb')))
              · have := hq.symm.trans hb'
                simp at this
                exact .inr (.inr (by omega))
            · rw [List.flatMap_append] at hb
              rcases List.mem_append.1 hb with hb | hb
              · exact .inl (by rw [HH.out.tq]; exact List.mem_append_right _ hb)
              · simp at hb
                exact .inr (.inl (Cd.bl2_sub hb))
        case done2 =>
          rintro D2 xs T2 A2 hD2 hxs ⟨vc, h⟩ hsz2 hK2
          rw [hN2] at hD2 hsz2
          have HH2 : Hid (W2 w B N wB N2 cB D1 v vw m xs T2 A2 vc) := h
          have hall : Cc.Whole m.list xs := hxs
          have hlen : (xs.map Cd.x).length = Cc.nch m.list := by
            have := congrArg List.length hall
            rw [List.length_map, Cc.all_len] at this
            rw [List.length_map, this]
          have hat : ∀ (i : Nat) cd, xs[i]? = some cd → cd.dat = Cc.ck m.list i := fun i cd hi => by
            have h1 : (xs.map Cd.dat)[i]? = some cd.dat := by rw [List.getElem?_map, hi]; rfl
            rw [show xs.map Cd.dat = Cc.all m.list from hall] at h1
            have h2 := (List.getElem?_eq_some_iff.1 h1).1
            rw [Cc.all_len] at h2
            rw [Cc.all_at h2] at h1
            exact (Option.some.inj h1).symm
          have hres : Bl.res (fun x => Gd.part m.list x.num.toNat) (xs.map Cd.x) = (0, m.list) := h.ad.good.back hlen (fun i x hx => by
            rw [List.getElem?_map] at hx
            cases hxi : xs[i]? with
            | none => rw [hxi] at hx; cases hx
            | some cd =>
              rw [hxi] at hx
              obtain rfl := Option.some.inj hx
              have h1 := hat i cd hxi
              unfold Cd.dat Cc.ck at h1
              simp only [Prod.mk.injEq] at h1
              exact ⟨h1.1, h1.2.2⟩)
          obtain ⟨p2, c2, rfl, he2, -, -⟩ := Own.els ckknd h.row
          have hck : CkW (fun x => Gd.part m.list x.num.toNat) A2 p2 (xs.map Cd.x) := CkW.of he2 (fun g hg => by
            obtain ⟨cd, hcd, rfl⟩ := List.mem_map.1 hg
            obtain ⟨i, hi⟩ := List.getElem?_of_mem hcd
            have h1 := hat i cd hi
            unfold Cd.dat Cc.ck at h1
            simp only [Prod.mk.injEq] at h1
            have h2 := (h.dts cd hcd).1
            unfold Cd.Dt at h2
            rw [show Gd.part m.list cd.x.num.toNat = cd.s by rw [h1.1, h1.2.1]; rfl]
            exact h2)
          have hbd := build_any p2 (xs.map Cd.x).length c2 (xs.map Cd.x) _ A2 rfl hck (by rw [hlen]; have := h.ad.good.len; unfold Cc.nch; omega)
          rw [hres] at hbd
          obtain ⟨nx, hnx⟩ : ∃ nx, (xs.map Cd.x).length = nx := ⟨_, rfl⟩
          rw [hnx] at hbd
          have e0 : A2.cell? ⟨cB, 0, none⟩ = some (.slice p2 nx c2) := by rw [← hnx]; exact h.box.cell 0
          have HK2 : Hid (A2.heap[D2]? = some (.deferred (some [])) ∧ D2 = N2) := ⟨hK2, hD2⟩
          clear h hall hlen hat hres he2 hck hK2
          gi_wp2_with fail
          refine ⟨trivial, (callsIn_wide.2 hbd).mono ?_⟩
          rintro e A3 ⟨v3, rfl, ho3, hb3⟩
          have H3 : Hid (OwnS A3 A2.heap.size v3 m.list ∧ Below A2.heap.size A2 A3) := ⟨ho3, hb3⟩
          simp only []
          clear hbd ho3 hb3
          obtain ⟨p3, c3, rfl, hin3⟩ := OwnS.ins H3.out.1
          obtain ⟨pw, cw, hvw, hinw⟩ := OwnS.ins (HH2.out.wrow.below H3.out.2 (Nat.le_refl _))
          subst hvw
          have heq := fun W (hW : Below A3.heap.size A3 W) => equalS_any p3 pw _ _ c3 cw m.list m.list W (hin3.up hW) (hinw.up hW)
          have HEQ : Hid (∀ W, Below A3.heap.size A3 W → Calls Try.prog 23 #[.slice p3 m.list.length c3, .slice pw m.list.length cw] W fun e w' => Told W w' e (m.list = m.list)) := heq
          have HIM : Hid (∀ W, Below A3.heap.size A3 W → IsIm W B B v m ∧ W.cell? ⟨wB, 0, none⟩ = some (.slice pw m.list.length cw)) := fun W hW => by
            have h1 := H3.out.2.trans (hW.mono H3.out.2.size)
            exact ⟨HH2.out.ad.is.below h1, (HH2.out.wbox.below h1 HH2.out.wbox.lt).cell 0⟩
          have HBW : Hid (∀ W, Below A3.heap.size A3 W → Below B w W) := fun W hW => by
            have h1 := H3.out.2.trans (hW.mono H3.out.2.size)
            exact HH2.out.ad.below.trans (h1.mono HH2.out.ad.size)
          have HDD : Hid (∀ W, Below A3.heap.size A3 W → W.heap[D2]? = some (.deferred (some [])) ∧ W.heap[D1]? = some (.deferred (some []))) := fun W hW => by
            have h1 := H3.out.2.trans (hW.mono H3.out.2.size)
            exact ⟨(h1.block _ (Array.getElem?_eq_some_iff.1 HK2.out.1).1).trans HK2.out.1, (h1.block _ (Array.getElem?_eq_some_iff.1 HH2.out.d1).1).trans HH2.out.d1⟩
          have e5 : A3.cell? ⟨wB, 0, none⟩ = some (.slice pw m.list.length cw) := (HIM.out A3 (Below.refl _ _)).2
          have hml : m.list.length ≤ 65536 := HH2.out.ad.good.len
          generalize hnl : m.list.length = nl at *
          clear heq hin3 hinw
          gi_wp2_with fail
          refine wpIn_wide.2 ?_
          go_region_held3 (fun w' => w'.cell? ⟨wB, 0, none⟩ = some (.slice pw nl cw)) (go_keep) (first | (go_at_call 23; refine (HEQ.out _ (by first | exact Below.refl _ _ | exact below_drewN (Below.refl _ _) _)).mono ?_; rintro e w14 ⟨bb, rfl, hbb, hb14⟩; have hbt : bb = true := (by simpa using hbb); subst hbt; have hq14 : Below A3.heap.size A3 w14 := Below.trans (show Below A3.heap.size A3 (A3.drewN 1) from below_drewN (Below.refl _ _) 1) hb14; have k5 : w14.cell? ⟨wB, 0, none⟩ = some (.slice pw nl cw) := (HIM.out _ hq14).2) | (go_at_call 16; refine (imlen_any (HIM.out _ hq14).1).mono ?_; rintro e w15 ⟨rfl, hw15⟩; subst hw15; rw [hnl]))
          obtain ⟨t2, t1⟩ := HDD.out _ hq14
          have hbw := HBW.out _ hq14
          have hd2 := HK2.out.2
          rw [hd2] at t2
          gi_wp2
          refine ⟨by simp, .inl ⟨_, _, rfl, run_takeDeferred t2, ?_⟩⟩
          have t3 : (w15.putObj N2 (.deferred none)).heap[D1]? = some (.deferred (some [])) := (World.putObj_heap_other (by omega)).trans t1
          refine ⟨by simp, .inl ⟨_, _, rfl, run_takeDeferred t3, ?_⟩⟩
          have hz15 : B ≤ N2 ∧ B ≤ D1 := ⟨by omega, by omega⟩
          have p1 : Below B w15 (w15.putObj N2 (.deferred none)) := ⟨rfl, rfl, rfl, by simp, fun k hk => World.putObj_heap_other (by omega)⟩
          have p2 : Below B (w15.putObj N2 (.deferred none)) ((w15.putObj N2 (.deferred none)).putObj D1 (.deferred none)) := ⟨rfl, rfl, rfl, by simp, fun k hk => World.putObj_heap_other (by omega)⟩
          exact ⟨_, results_tmp rfl _ _ _, rfl, (hbw.trans p1).trans p2⟩

theorem walk_imageBack (ts : Int) (p : Option Addr) (n c : Nat) (l : List Pt) (w : World) (hts : (Lit.int .i64 ts).wf = true) (hin : InL Pt.cells (Pt.ok w) 2 3518437208781 w p n c l) :
    Calls Try.prog 6 #[.int .i64 ts, .slice p n c] w fun e w' => e = .returned (.bool true) ∧ Below w.heap.size w w' := by
  by_cases h : ts < 0 ∨ 1099511627776 < ts
  · exact back_bad ts p n c w h
  · exact back_good ts p n c l w (by omega) (by omega) hin

set_option maxRecDepth 100000 in
set_option maxHeartbeats 2000000 in
theorem lifted_imageBack (os : Os) (started : os.Started) (H : Type) (enc : TypeId × Value → H) :
    ReturnsInHanded {} Try.checked os 6 .any (Rows.imageBackSpec.pre6 enc Try.prog Try.f6 Rows.imageBackRow.domain false) (Rows.imageBackSpec.post enc Try.prog Try.f6 false true false false) := by
  refine returnsInHanded_of_change_sized (C := Try.checked) own started (by kernel_rfl) Try.func6
    (ChangeSpec.witness6 (enc := enc) (C := Try.checked) false ⟨#[], #[.int .i64 0, .slice none 0 0], []⟩ 8 (by kernel_rfl) (by kernel_rfl) (by kernel_rfl) (by kernel_rfl)) ?_
  intro W base args ds gs before hval0 hW _ hsz0 _
  have hsz : (DataW.weightsEach Try.prog (Try.f6.params.toList ++ Rows.imageBackSpec.plain.varTypes Try.prog) (ds ++ gs)).all (· ≤ reachBytes) = true := hsz0
  clear hsz0
  have hval : ∀ (j : Nat) t v, Try.f6.params[j]? = some t → args[j]? = some v → Value.okWide Try.prog W .any base t v := hval0
  have hW' := hW
  obtain ⟨p, q, hA0, hV, rfl, hfz, hnd⟩ := hW
  have hA : DataW.TrodAll enc Try.prog W 0 (fun _ => true) true Try.f6.params.toList args.toList ds p := hA0
  rw [Try.params6] at hA hval hsz
  obtain ⟨v0, vs0, d0, ds0, p0, q0, hargs, rfl, rfl, h0, r0⟩ := trodAll_cons hA
  obtain ⟨v1, vs1, d1, ds1, p1, q1, rfl, rfl, rfl, h1, r1⟩ := trodAll_cons r0
  obtain ⟨rfl, rfl, rfl⟩ := trodAll_nil r1
  obtain rfl : args = #[v0, v1] := by cases args; simp_all
  obtain ⟨rfl, rfl⟩ := trodVars_none hV
  obtain ⟨a0, rfl, rfl, rfl, w0⟩ := open_int Try.underlying2 (hval 0 2 v0 rfl rfl) h0
  obtain ⟨a1, len1, cap1, rfl⟩ := okWide_slice Try.underlying22 (hval 1 22 v1 rfl rfl)
  have k1 := h1
  have lt1 : ∀ x ∈ p1, x.block < W.heap.size := by obtain ⟨m, hm⟩ := k1; exact DataW.trod_lt m _ _ _ hm
  obtain ⟨z1, w1⟩ : ∃ l, InL Pt.cells (Pt.ok W) 2 3518437208781 W a1 len1 cap1 l := by
    refine in_pts h1 fun n hn => ?_
    have := of_decide_eq_true (List.all_eq_true.1 hsz _ (DataW.weights_mem_each (j := 1) (t := 22) rfl rfl n hn))
    simp only [reachBytes] at this
    omega
  clear hA0 hval0
  refine (walk_imageBack a0 a1 len1 cap1 z1 W w0 w1).mono fun e W' ⟨he, bel⟩ => ?_
  subst he
  exact ⟨_, rfl, _, _, _, [], _, [], hW', trodAll_mk1 (shut_bool Try.underlying4 _), (trodAll_cons_mk (shut_int Try.underlying2 w0) (trodAll_cons_mk (Below.trod laidOut (by kernel_rfl) (of_decide_eq_true (by kernel_rfl)) k1 bel lt1) trodAll_mk0)), rfl, bel.frame _, fun h => by cases h⟩

/-- The statement. -/
theorem imageBack_holds : Rows.ImageBackSaid :=
  OpenClaim.holds_of_wide 6 Try.f6 rfl rfl rfl rfl rfl rfl rfl ⟨rfl, rfl, rfl, rfl, rfl⟩ rfl rfl rfl rfl rfl (by kernel_rfl) Try.func6 (by kernel_rfl)
    (of_decide_eq_true (by kernel_rfl)) (by unfold Func.isWrapper; first | (rw [if_pos (by decide +kernel)]; kernel_rfl) | (rw [if_neg (by decide +kernel)]; exact ⟨rfl, rfl⟩))
    (fun os started H enc _ => lifted_imageBack os started H enc)
#print axioms imageBack_holds
end Go.Proofs.Ytcoibnlecdemcaa
