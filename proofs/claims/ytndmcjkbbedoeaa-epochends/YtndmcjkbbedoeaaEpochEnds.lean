/- With nobody pinned two advances answer all that waits, in order; with a session pinned one advance is done, and no more; whatever a script did. -/
import Derived.Test.YtndmcjkbbedoeaaEpEn
namespace Go.Proofs.Ytndmcjkbbedoeaa
open Go.ChangeShapes Go.WideShapes Go.ChangeAt Go.RowKit Go.Shelf
attribute [local go_sem] Oper.semAt_some
set_option linter.unusedVariables false
set_option maxRecDepth 100000

set_option maxHeartbeats 16000000 in
theorem walk_epochEnds (p : Option Addr) (len cap : Nat) (l : List Eop) (s : Int) (w : World) (hin : InE w p len cap l) (hsl : (Lit.int .u8 s).wf = true) :
    Calls Try.prog 6 #[.slice p len cap, .int .u8 s] w fun e w' => e = .returned (.bool true) ∧ Below w.heap.size w w' := by
  obtain ⟨u0, u1⟩ := bounds_u8 hsl
  clear hsl
  have HI : Hid (InE w p len cap l) := hin
  have hlen : len ≤ 3518437208780 := Nat.le_trans hin.le hin.room
  clear hin
  refine (callsIn_wide (n := 9)).1 ?_
  refine callsIn_of_wp_marks Try.func6 rfl trivial ?_ rfl
  simp only [Try.ntmps6, List.size_toArray, List.length_cons, List.length_nil, Nat.reduceAdd, Nat.reduceSub, Array.replicate_succ, Array.replicate_zero, List.push_toArray, List.append_toArray, List.nil_append, List.cons_append]
  refine wpIn_wide.2 ?_
  go_wp2_with fail
  refine (new_any w).mono ?_
  rintro r w1 ⟨rfl, hE1, hb1, hs1⟩
  have HE1 : Hid (Epn w1 w.heap.size [w.heap.size] Ep.fresh) := hE1
  have HB1 : Hid (Below w.heap.size w w1) := hb1
  clear hE1 hb1 hs1
  go_wp2_with fail
  refine (begun_any _).mono ?_
  rintro r w2 ⟨rfl, hb2⟩
  have HS2 : Hid (Sc w w2 w.heap.size 0 [w.heap.size] Ep.fresh) := ⟨HE1.out.below hb2, by simp, HB1.out.trans (hb2.mono HB1.out.size), ⟨Nat.le_refl _, Nat.le_refl _⟩⟩
  clear hb2 HE1 HB1
  go_wp2_with fail
  go_loopw [31] (fun iv wr => ∃ (j : Nat) (bs : List Nat) (e : Ep), j ≤ len ∧ iv = .int .i64 j ∧ Hid (Sc w wr w.heap.size j bs e)) (fun iv _ => len - (intOf iv).toNat)
  case atStart => exact ⟨0, _, _, Nat.zero_le _, rfl, HS2.out⟩
  case round =>
    obtain ⟨j, bs, e, hj, rfl, HS⟩ := hrel
    by_cases hlt : j < len
    · have hli : (j : Int) < (len : Int) := by omega
      obtain ⟨b, o, g, rfl, hg, hok, hb, c0, c1, c2, c3, c4⟩ := (HI.out.up HS.out.below).at hlt
      obtain ⟨wo, hwo, hto, hso, d0, d1, d2, d3, d4⟩ := op_box wr g
      have HTO : Hid (Tn [] wr wo) := hto
      have HEO : Hid (Epn wo w.heap.size bs e) := HS.out.ep.tn hto (by simp)
      have HN : Hid (e.now ≤ 4611686018427387904 ∧ e.cur.length ≤ 3600000000000) := by
        have h1 := HS.out.le.now
        have h2 := HS.out.le.len
        exact ⟨by omega, by omega⟩
      clear hg hok hb hto hso
      by_cases h0 : g.dd = 0
      · rw [h0] at hwo d0 c0
        clear h0
        go_wp2_with fail
        refine (pin_int HEO.out g.s).mono ?_
        rintro r w3 ⟨rfl, hT⟩
        obtain ⟨bs', HS4⟩ := HS.out.step (k := j + 1) HTO.out hT ((HS.out.le.pinI g.s).up (by omega) (by omega))
        have HS4 : Hid _ := HS4
        clear hT
        go_wp2
        go_roundw
        case rel => exact ⟨j + 1, bs', _, by omega, by go_num, HS4⟩
        case measure => simp [intOf]; omega
      · by_cases h1 : g.dd = 1
        · rw [h1] at hwo d0 c0
          clear h1 h0
          go_wp2_with fail
          refine (unpin_int HEO.out g.s).mono ?_
          rintro r w3 ⟨rfl, hT⟩
          obtain ⟨bs', HS4⟩ := HS.out.step (k := j + 1) HTO.out hT ((HS.out.le.unpinI g.s).up (by omega) (by omega))
          have HS4 : Hid _ := HS4
          clear hT
          go_wp2
          go_roundw
          case rel => exact ⟨j + 1, bs', _, by omega, by go_num, HS4⟩
          case measure => simp [intOf]; omega
        · by_cases h2 : g.dd = 2
          · rw [h2] at hwo d0 c0
            clear h2 h0 h1
            go_wp2_with fail
            refine (retire_any HEO.out g.x HN.out.2).mono ?_
            rintro r w3 ⟨rfl, hT⟩
            obtain ⟨bs', HS4⟩ := HS.out.step (k := j + 1) HTO.out hT ((HS.out.le.retire g.x).up (by omega) (by omega))
            have HS4 : Hid _ := HS4
            clear hT
            go_wp2
            go_roundw
            case rel => exact ⟨j + 1, bs', _, by omega, by go_num, HS4⟩
            case measure => simp [intOf]; omega
          · by_cases h3 : g.dd = 3
            · rw [h3] at hwo d0 c0
              clear h3 h0 h1 h2
              go_wp2_with fail
              refine (adv_int HEO.out HN.out.1).mono ?_
              rintro r w3 ⟨v, er, rfl, hT⟩
              obtain ⟨bs', HS4⟩ := HS.out.step (k := j + 1) HTO.out hT ((HS.out.le.adv).up (by omega) (by omega))
              have HS4 : Hid _ := HS4
              clear hT
              go_wp2
              go_roundw
              case rel => exact ⟨j + 1, bs', _, by omega, by go_num, HS4⟩
              case measure => simp [intOf]; omega
            · have q0 : (g.dd == 0) = false := by simp [h0]
              have q1 : (g.dd == 1) = false := by simp [h1]
              have q2 : (g.dd == 2) = false := by simp [h2]
              have q3 : (g.dd == 3) = false := by simp [h3]
              generalize g.dd = dd at *
              have HS4 : Hid (Sc w wo w.heap.size (j + 1) bs e) := HS.out.still HTO.out (Nat.le_succ _)
              go_wp2
              go_roundw
              case rel => exact ⟨j + 1, bs, _, by omega, by go_num, HS4⟩
              case measure => simp [intOf]; omega
    · have hli : ¬ (j : Int) < (len : Int) := by omega
      have hjl : j = len := by omega
      subst hjl
      go_wp2_with fail
      go_loopw [60] (fun iv wr => ∃ (k : Nat) (bs : List Nat) (e : Ep), k ≤ 17 ∧ iv = .int .i64 k ∧ Hid (Sc w wr w.heap.size j bs e) ∧ Hid (∀ s, s < k → e.pin s = 0)) (fun iv _ => 17 - (intOf iv).toNat)
      case atStart => exact ⟨0, _, _, Nat.zero_le _, rfl, HS.out, fun s hs => absurd hs (Nat.not_lt_zero _)⟩
      case round =>
        clear HS
        obtain ⟨k, bs, e, hk, rfl, HS, HP⟩ := hrel
        by_cases hlt2 : k < 17
        · have hli2 : (k : Int) < 17 := by omega
          go_wp2_with fail
          refine (pinned_any HS.out.ep k hlt2).mono ?_
          rintro r w3 ⟨rfl, rfl⟩
          by_cases hp : e.pin k = 0
          · have HP2 : Hid (∀ s, s < k + 1 → e.pin s = 0) := fun s hs => by
              rcases Nat.lt_or_ge s k with h | h
              · exact HP.out s h
              · obtain rfl : s = k := by omega
                exact hp
            rw [hp]
            simp only [ne_eq, not_true_eq_false, decide_false]
            clear hp HP
            go_wp2
            go_roundw
            case rel => exact ⟨k + 1, bs, e, by omega, by go_num, HS, HP2⟩
            case measure => simp [intOf]; omega
          · have hd : decide (e.pin k ≠ 0) = true := decide_eq_true hp
            rw [hd]
            clear hd
            go_wp2_with fail
            refine (unpin_any HS.out.ep k hlt2).mono ?_
            rintro r w4 ⟨rfl, hT⟩
            rw [if_neg hp]
            obtain ⟨bs', HS4⟩ := HS.out.step (k := j) (Tn.refl [] _) hT ⟨HS.out.le.now, HS.out.le.len⟩
            have HS4 : Hid _ := HS4
            have HP2 : Hid (∀ s, s < k + 1 → (e.setPin k 0).pin s = 0) := fun s hs => by
              have h17 := HS.out.ep.p17
              unfold Ep.pin Ep.setPin
              rw [getD_set _ _ _ _ _ (by omega)]
              by_cases h : s = k
              · rw [if_pos h]
              · rw [if_neg h]
                exact HP.out s (by omega)
            clear hp HP hT HS
            go_wp2
            go_roundw
            case rel => exact ⟨k + 1, bs', _, by omega, by go_num, HS4, HP2⟩
            case measure => simp [intOf]; omega
        · have hli2 : ¬ (k : Int) < 17 := by omega
          have hk17 : k = 17 := by omega
          subst hk17
          obtain ⟨wn, hwn⟩ : ∃ wn, wr.alloc (.cells #[.slice none 0 0] 50) = wn := ⟨_, rfl⟩
          have htn : Tn [] wr wn := by rw [← hwn]; exact (Tn.refl _ _).alloc _
          have hsn : wn.heap.size = wr.heap.size + 1 := by rw [← hwn]; simp
          have hbn : Bk wn wr.heap.size 50 #[.slice none 0 0] := by rw [← hwn]; exact Bk.new _ _ _
          obtain ⟨vs, hbs, hI⟩ := HS.out.ep
          have HB : Hid (e.now ≤ 4611686018427387904 ∧ e.old.length + e.cur.length ≤ 3600000000000) := by
            have h1 := HS.out.le.now
            have h2 := HS.out.le.len
            exact ⟨by omega, by omega⟩
          go_wp2_with fail
          try rw [hwn]
          refine (limbo_any (hI.tn htn (by simp)) HB.out.1 HB.out.2).mono ?_
          rintro r w3 ⟨rfl, v1, v2, hL⟩
          have hlim := hL.lim (by rw [Ep.limbo_length]; exact HB.out.2)
          have hlow := hL.low
          have hW0 : Wn w3 wr.heap.size [] w3 (.slice none 0 0) := ⟨hbn.below hL.below (by omega), Rr.nil _, fun g hg => (by cases hg), Tn.refl _ _, by have := hL.size; omega⟩
          have HS3 : Hid (∀ W v, Wn w3 wr.heap.size e.limbo W v → Sc w W w.heap.size j bs e) := fun W v hW => by
            have hlt := HS.out.ep.lt
            have t3 : Tn [wr.heap.size] wr W := (htn.mono (by simp)).trans ((Tn.of_below hL.below [wr.heap.size]).trans hW.tn (fun x hx => .inl hx)) (fun x hx => .inl hx)
            exact ⟨HS.out.ep.tn t3 (fun b hb => by have := hlt b hb; simp; omega), HS.out.low, HS.out.below.trans (t3.below HS.out.below.size (by simpa using HS.out.below.size)), HS.out.le⟩
          have HSB : Hid (∀ y ∈ Lm.bs wn v1 v2, y < w3.heap.size ∧ y ≠ wr.heap.size) := fun y hy => ⟨hlim.lt y hy, by have := hlow y hy; omega⟩
          generalize wn.heap.size + 1 = y1 at *
          generalize wn.heap.size + 3 = y3 at *
          generalize Lm.bs wn v1 v2 = S at *
          clear hwn htn hsn hbn hI hL hlow hbs
          go_wp2_with fail
          refine (wpIn_wide (n := 9)).1 ?_
          refine range_boxed ?A rfl (by omega) (gf := 38) (lb := #[.pointer (some ⟨y1, 0, none⟩), .pointer (some ⟨y3, 0, none⟩)]) rfl trivial (enters_of Try.func38 (by kernel_rfl) rfl)
            (lim_stops 8 (by omega) hlim) KpP.t (fun W l o o' hl _ _ _ k hk => World.putObj_heap_other (fun e => by
              subst e
              have := (HSB.out _ hk).1
              omega)) (Below.refl _ _) (fun _ => rfl)
            (fun pre W => ∃ v, Wn w3 wr.heap.size pre W v)
            (fun cc pre W => False)
            (fun s A B' row hs hg hr => by
              obtain ⟨v, hs⟩ := hs
              exact ⟨v, hs.abides hg hr⟩)
            (fun cc s A B row hs hg hr => hs)
            ⟨_, hW0⟩
            (fun x bx W => w3.heap.size ≤ bx ∧ Bk W bx 31 #[.int .i64 x.2.k, .int .i64 x.2.s, .int .i64 x.2.g] ∧ ∃ u, Boxed W wr.heap.size 50 u ∧ u.ownBlock ≠ some bx)
            (fun x bx _ A B' row hs hg hr => by
              obtain ⟨h1, h2, u, h3, h4⟩ := hs
              exact ⟨h1, bk_from h2 hg hr, u, boxed_from h3 hg hr, h4⟩)
            ?assign ?body ?done ?stop
          case assign =>
            rintro l pre x W K ⟨v, hL⟩ hK
            gi_wp2
            have ht : Tn [] W (W.alloc (.cells #[.int .i64 x.2.k, .int .i64 x.2.s, .int .i64 x.2.g] 31)) := (Tn.refl _ _).alloc _
            obtain ⟨bx, hbx⟩ : ∃ bx, W.heap.size = bx := ⟨_, rfl⟩
            have kx : Bk (W.alloc (.cells #[.int .i64 x.2.k, .int .i64 x.2.s, .int .i64 x.2.g] 31)) bx 31 #[.int .i64 x.2.k, .int .i64 x.2.s, .int .i64 x.2.g] := by rw [← hbx]; exact Bk.new _ _ _
            have hs := hL.tn.size
            have hnn : v.ownBlock ≠ some bx := fun he => by have := row_block hL.row _ he; omega
            have hle : w3.heap.size ≤ bx := by omega
            rw [hbx]
            refine hK bx _ ((keeps_tn ht (by simp)).from _) (KpP.of_tn ht (fun y hy => ⟨by have := (HSB.out y hy).1; omega, by simp⟩)) ⟨v, hL.still ht⟩ ⟨hle, kx, v, (hL.still ht).bx, hnn⟩
          case stop =>
            rintro D cc pre W hD hpre hF hK
            exact hF.elim
          case body =>
            rintro l pre x bx W - ⟨v, hL⟩ ⟨hbx, kx, u, hu, hn⟩ hpre
            have hu2 : u = v := by have := (show W.heap[_]? = _ from hu).symm.trans hL.bx; simpa using this
            subst hu2
            obtain ⟨N, hN⟩ : ∃ N, pre.length = N := ⟨_, rfl⟩
            have HN : Hid (pre.length = N ∧ N ≤ 3600000000000) := ⟨hN, by have := HB.out.2; rw [Ep.limbo_length] at hpre; omega⟩
            obtain ⟨p3, c3, hv, -⟩ := row_form hL.row
            rw [List.length_map, hN] at hv
            subst hv
            have HL : Hid (Wn w3 wr.heap.size pre W (.slice p3 N c3)) := hL
            have HR : Hid ((W.alloc (.cells x.2.cells.toArray 31)).ownsRow 0 31 3 (.slice p3 N c3) N (rts (pre.map Prod.snd))) := by
              have := owns_tn hL.row ((Tn.refl [] _).alloc (.cells x.2.cells.toArray 31)) (by simp)
              rwa [List.length_map, hN] at this
            have c0 := hL.bx.cell
            have d0 := kx.cell 0
            have d1 := kx.cell 1
            have d2 := kx.cell 2
            simp at d0 d1 d2
            clear hL hu hn kx hN hpre
            gi_wp2_with (gi_at_builtin; refine appXIn _ rfl _ _ _ rfl 31 (.agg #[.int .i64 0, .int .i64 0, .int .i64 0]) 3 24 Try.underlying50 rtinfo rfl (by decide) (.slice p3 N c3) N (rts (pre.map Prod.snd)) rfl HR.out ⟨W.heap.size, 0, none⟩ 1 1 x.2.cells rfl rfl (news_bk (Bk.new _ _ _)) (rtone x.2) (by have := HN.out.2; unfold maxLen; omega) (by have := HN.out.2; omega) ?_)
            intro v3 w4 o3 g3 q3
            obtain ⟨e3, f3, rfl⟩ := row_some o3 (by omega)
            obtain ⟨z1, z2, z3⟩ := HL.out.more (x := x) ((Tn.refl [] _).alloc _) (by rw [List.length_map, HN.out.1]; exact o3) g3 (by rw [World.size_alloc]; exact q3)
            have y1 := z1.cell
            have y2 := z1.frozen
            have HF : Hid (KeepsFrom w3.heap.size W (w4.setCell ⟨wr.heap.size, 0, none⟩ (.slice (some ⟨e3, 0, none⟩) (N + 1) f3)) ∧ KpP S W (w4.setCell ⟨wr.heap.size, 0, none⟩ (.slice (some ⟨e3, 0, none⟩) (N + 1) f3)) ∧ ∃ v, Wn w3 wr.heap.size (pre ++ [x]) (w4.setCell ⟨wr.heap.size, 0, none⟩ (.slice (some ⟨e3, 0, none⟩) (N + 1) f3)) v) := ⟨(HL.out.keeps z3).from _, HL.out.kp z3 HSB.out, _, z2⟩
            clear z1 z2 z3 o3 g3 q3
            gi_wp2
            exact HF.out
          case done =>
            rintro D zs W hD rfl ⟨v, hL⟩ hK
            have hnd : D ∉ bs := fun hm => by
              have h1 := HS.out.ep.lt D hm
              have h2 := hL.lt
              omega
            have HSW : Hid (Sd w W w.heap.size j bs e D) := ⟨HS3.out W v hL, hK, hnd⟩
            have HV : Hid (Rr W v (e.old ++ e.cur)) := by have := hL.row; rwa [Ep.limbo_snd] at this
            have HVB : Hid (∀ g, v.ownBlock = some g → g ≠ w.heap.size) := fun g hg => by
              have h1 := hL.own g hg
              have h2 := hL.lt
              have h3 := HS.out.below.size
              omega
            have HBX : Hid (Boxed W wr.heap.size 50 v) := hL.bx
            have HBB : Hid (wr.heap.size ≠ w.heap.size) := by
              have h2 := HS.out.ep.lt _ HS.out.ep.hB
              exact Nat.ne_of_gt h2
            have HDW : Hid (w.heap.size ≤ D) := by
              have h1 := HS.out.below.size
              have h2 := hL.lt
              exact Nat.le_trans h1 (by omega)
            have HHF : Hid (e.held = false) := Ep.held_none HS.out.ep.p17 HP.out
            have HHN : Hid (e.next.held = false) := Ep.held_none (e := e.next) HS.out.ep.p17 HP.out
            have HPN : Hid (∀ s, s < 17 → e.next.next.pin s = 0) := HP.out
            have H17 : Hid (e.next.next.pins.length = 17) := HS.out.ep.p17
            clear hL hK HS3 HSB hlim hW0 HI HS2 hnd HS HP
            generalize wr.heap.size = bb at *
            go_wp2_with fail
            refine (advance_any HSW.out.sc.ep HB.out.1 HHF.out).mono ?_
            rintro r w5 ⟨va, rfl, hA⟩
            obtain ⟨bs5, hS5, hm5, hv5, ht5, hr5⟩ := HSW.out.adv hA
            have HS5 : Hid (Sd w w5 w.heap.size (j + 1) bs5 e.next D) := hS5
            have HR5 : Hid (Tn [w.heap.size] W w5 ∧ Rr w5 va e.old ∧ ∀ g, va.ownBlock = some g → g ≠ w.heap.size) := ⟨ht5, hr5, fun g hg => (hv5 g hg).1⟩
            clear hA hS5 hm5 hv5 ht5 hr5
            go_wp2_with fail
            refine (advance_any HS5.out.sc.ep (by have := HS5.out.sc.le.now; omega) HHN.out).mono ?_
            rintro r w6 ⟨vb, rfl, hA⟩
            obtain ⟨bs6, hS6, hm6, hv6, ht6, hr6⟩ := HS5.out.adv hA
            obtain ⟨ra, rb, rv, kb⟩ := ends_adv HV.out HVB.out HBX.out HBB.out HR5.out.1 HR5.out.2.1 HR5.out.2.2 ht6 hr6
            have HS6 : Hid (Sd w w6 w.heap.size (j + 1 + 1) bs6 e.next.next D) := hS6
            obtain ⟨pa, ca, ea, -⟩ := ra.form
            obtain ⟨pb, cb, eb, -⟩ := rb.form
            obtain ⟨pv, cv, ev, -⟩ := rv.form
            rw [List.length_append] at ev
            have HLA : Hid (e.old.length + e.cur.length ≤ 3600000000000) := HB.out.2
            subst ea eb ev
            have HRA : Hid (∀ W', Tn [] w6 W' → Rr W' (.slice pa e.old.length ca) e.old ∧ Rr W' (.slice pb e.cur.length cb) e.cur ∧ Rr W' (.slice pv (e.old.length + e.cur.length) cv) (e.old ++ e.cur)) := fun W' ht => ⟨ra.tn ht (by simp), rb.tn ht (by simp), rv.tn ht (by simp)⟩
            have HKB : Hid (∀ W', Tn [] w6 W' → W'.cell? ⟨bb, 0, none⟩ = some (.slice pv (e.old.length + e.cur.length) cv)) := fun W' ht => (Bk.tn (show Bk w6 _ _ _ from kb) ht (by simp)).cell 0
            have y1 := kb.cell
            clear hA hS6 hm6 hv6 ht6 hr6 ra rb rv kb HR5 HS5 HSW HV HVB HBX
            go_wp2_with fail
            refine wp_mono (Q := NoPanic _) ?_ NoPanic.imp
            go_region_held_law (fun w' => w'.cell? ⟨bb, 0, none⟩ = some (.slice pv (e.old.length + e.cur.length) cv)) (go_keep) (first
              | (refine stepXw (by rfl) _ _ 50 rfl 31 (.agg #[.int .i64 0, .int .i64 0, .int .i64 0]) 3 24 Try.underlying50 rtinfo rfl (by decide) (.slice none 0 0) 0 [] (by go_simp) (World.ownsRow_nil _ _ _ _) pa e.old.length ca (rts e.old) (by go_simp) (HRA.out _ ((Tn.refl _ _).drew)).1.news.2.2.1 (HRA.out _ ((Tn.refl _ _).drew)).1.news.1 (HRA.out _ ((Tn.refl _ _).drew)).1.news.2.1 (HRA.out _ ((Tn.refl _ _).drew)).1.news.2.2.2 (by have := HLA.out; unfold maxLen; omega) (by have := HLA.out; omega) ?_; intro v8 w8 o8 g8 q8; have t8 : Tn [] w6 w8 := tnA g8 ((Tn.refl _ _).drew); have n8 : ∀ g, v8.ownBlock = some g → w6.heap.size ≤ g := newB q8; have s8 := HKB.out w8 t8)
              | (refine stepXw (by rfl) _ _ 50 rfl 31 (.agg #[.int .i64 0, .int .i64 0, .int .i64 0]) 3 24 Try.underlying50 rtinfo rfl (by decide) v8 (0 + e.old.length) ([] ++ rts e.old) (by go_simp) o8 pb e.cur.length cb (rts e.cur) (by go_simp) (HRA.out _ t8).2.1.news.2.2.1 (HRA.out _ t8).2.1.news.1 (HRA.out _ t8).2.1.news.2.1 (HRA.out _ t8).2.1.news.2.2.2 (by have := HLA.out; unfold maxLen; omega) (by have := HLA.out; omega) ?_; intro v9 w9 o9 g9 q9; have t9 : Tn [] w6 w9 := tnNew t8 g9 n8; have s9 := HKB.out w9 t9)
              | (go_at_call 22; refine (same_any (two_rows o9) (HRA.out _ t9).2.2.rs (by have := HLA.out; rw [List.length_append]; exact this) true (by simp)).mono ?_; rintro r w10 ⟨rfl, h10⟩; have t10 : Tn [] w6 w10 := t9.trans h10 (by simp); have s10 := HKB.out w10 t10)
              | (go_at_call 13; refine (waitS (HS6.out.still t10) (by omega)).mono ?_; rintro r w11 ⟨rfl, h11⟩; have t11 : Tn [] w6 w11 := t10.trans h11 (by simp); have s11 := HKB.out w11 t11))
            refine NoPanic.normal ?_
            have HS7 : Hid (Sd w w11 w.heap.size (j + 1 + 1) bs6 e.next.next D) := HS6.out.still t11
            clear t8 t9 t10 t11 s8 s9 s10 s11 o8 g8 q8 n8 o9 g9 q9 h10 h11 y1 HRA HKB HS6 HLA HHF HHN HB
            obtain ⟨sn, rfl⟩ := Int.eq_ofNat_of_zero_le u0
            obtain ⟨kk, hkk⟩ : ∃ kk, sn % 17 = kk := ⟨_, rfl⟩
            have hk17 : kk < 17 := by omega
            have hki : (wrap64 (sn : Int)).tmod 17 = (kk : Int) := by
              have h1 : wrap64 (sn : Int) = (sn : Int) := by unfold wrap64; omega
              rw [h1, Int.tmod_eq_emod_of_nonneg (by omega)]
              omega
            have hj3 : j + 1 + 1 ≤ 3600000000000 := by omega
            generalize e.next.next = e2 at *
            generalize j + 1 + 1 = j2 at *
            clear hkk u1
            have c0 := HS7.out.sc.ep.cNow
            have n1 := HS7.out.sc.ep.n1
            obtain ⟨o1, o2, o3⟩ := Ep.one_pinned H17.out HPN.out n1 kk hk17
            have HO : Hid ((e2.setPin kk e2.now).held = false ∧ (e2.setPin kk e2.now).next.held = true ∧ (e2.setPin kk e2.now).next.pin kk ≠ 0) := ⟨o1, o2, o3⟩
            have hpk := HPN.out kk hk17
            have HPK : Hid (e2.pin kk = 0) := hpk
            clear o1 o2 o3 hpk
            go_wp2_with fail
            refine (now_any c0 n1).mono ?_
            rintro r w12 ⟨rfl, rfl⟩
            go_wp2_with fail
            try rw [hki]
            clear hki
            refine (pin_any HS7.out.sc.ep kk hk17).mono ?_
            rintro r w13 ⟨rfl, hT⟩
            rw [if_pos HPK.out] at hT ⊢
            obtain ⟨bs7, hS8⟩ := HS7.out.step (k := j2) hT ⟨HS7.out.sc.le.now, HS7.out.sc.le.len⟩
            have HS8 : Hid (Sd w w13 w.heap.size j2 bs7 (e2.setPin kk e2.now) D) := hS8
            clear hT hS8
            go_wp2_with fail
            refine (advance_any HS8.out.sc.ep (by have := HS8.out.sc.le.now; omega) HO.out.1).mono ?_
            rintro r w14 ⟨v14, rfl, hA⟩
            obtain ⟨bs8, hS9, -, -, -, -⟩ := HS8.out.adv hA
            have HS9 : Hid (Sd w w14 w.heap.size (j2 + 1) bs8 (e2.setPin kk e2.now).next D) := hS9
            clear hA hS9 HS8
            go_wp2_with fail
            refine (advance_held HS9.out.sc.ep HO.out.2.1).mono ?_
            rintro r w15 ⟨rfl, rfl⟩
            go_wp2_with fail
            refine (advance_held HS9.out.sc.ep HO.out.2.1).mono ?_
            rintro r w16 ⟨rfl, rfl⟩
            have c9 : w16.cell? ⟨w.heap.size, 0, none⟩ = some (.int .i64 ((e2.now + 1 : Nat) : Int)) := HS9.out.sc.ep.cNow
            have hnb : e2.now ≤ 4611686018427387904 := by have := HS9.out.sc.le.now; have : (e2.setPin kk e2.now).next.now = e2.now + 1 := rfl; omega
            go_wp2_with fail
            refine (now_any c9 (by omega)).mono ?_
            rintro r w17 ⟨rfl, rfl⟩
            have hcast : ((e2.now + 1 : Nat) : Int) = (e2.now : Int) + 1 := by omega
            rw [hcast]
            go_wp2_with fail
            refine (unpin_any HS9.out.sc.ep kk hk17).mono ?_
            rintro r w18 ⟨rfl, hT⟩
            rw [if_neg HO.out.2.2]
            obtain ⟨bs9, hS10⟩ := HS9.out.step (k := j2 + 1) hT ⟨HS9.out.sc.le.now, HS9.out.sc.le.len⟩
            have HSF : Hid (Sd w w18 w.heap.size (j2 + 1) bs9 ((e2.setPin kk e2.now).next.setPin kk 0) D) := hS10
            clear hT hS10 HS9
            go_wp2
            refine ⟨by simp, .inl ⟨_, _, rfl, run_takeDeferred HSF.out.df, ?_⟩⟩
            refine ⟨_, results_tmp rfl _ _ _, rfl, ?_⟩
            have hDw : w.heap.size ≤ D := HDW.out
            exact HSF.out.sc.below.trans ⟨rfl, rfl, rfl, by simp, fun k hk => World.putObj_heap_other (by omega)⟩


set_option maxRecDepth 100000 in
set_option maxHeartbeats 2000000 in
theorem lifted_epochEnds (os : Os) (started : os.Started) (H : Type) (enc : TypeId × Value → H) :
    ReturnsInHanded {} Try.checked os 6 .any (Rows.epochEndsSpec.pre6 enc Try.prog Try.f6 Rows.epochEndsRow.domain false) (Rows.epochEndsSpec.post enc Try.prog Try.f6 false true false false) := by
  refine returnsInHanded_of_change_sized (C := Try.checked) own started (by kernel_rfl) Try.func6
    (ChangeSpec.witness6 (enc := enc) (C := Try.checked) false ⟨#[], #[.slice none 0 0, .int .u8 0], []⟩ 8 (by kernel_rfl) (by kernel_rfl) (by kernel_rfl) (by kernel_rfl)) ?_
  intro W base args ds gs before hval0 hW _ hsz0 _
  have hsz : (DataW.weightsEach Try.prog (Try.f6.params.toList ++ Rows.epochEndsSpec.plain.varTypes Try.prog) (ds ++ gs)).all (· ≤ reachBytes) = true := hsz0
  clear hsz0
  have hval : ∀ (j : Nat) t v, Try.f6.params[j]? = some t → args[j]? = some v → Value.okWide Try.prog W .any base t v := hval0
  have hW' := hW
  obtain ⟨p, q, hA0, hV, rfl, hfz, hnd⟩ := hW
  have hA : DataW.TrodAll enc Try.prog W 0 (fun _ => true) true Try.f6.params.toList args.toList ds p := hA0
  rw [Try.params6] at hA hval hsz
  obtain ⟨v0, vs0, d0, ds0, p0, q0, hargs, rfl, rfl, h0, r0⟩ := trodAll_cons hA
  obtain ⟨v1, vs1, d1, ds1, p1, q1, rfl, rfl, rfl, h1, r1⟩ := trodAll_cons r0
  obtain ⟨rfl, rfl, rfl⟩ := trodAll_nil r1
  obtain rfl : args = #[v0, v1] := by cases args; simp_all
  obtain ⟨rfl, rfl⟩ := trodVars_none hV
  obtain ⟨a0, len0, cap0, rfl⟩ := okWide_slice Try.underlying22 (hval 0 22 v0 rfl rfl)
  have k0 := h0
  have lt0 : ∀ x ∈ p0, x.block < W.heap.size := by obtain ⟨m, hm⟩ := k0; exact DataW.trod_lt m _ _ _ hm
  obtain ⟨z0, w0⟩ : ∃ l, InE W a0 len0 cap0 l := by
    refine in_eops h0 fun n hn => ?_
    have := of_decide_eq_true (List.all_eq_true.1 hsz _ (DataW.weights_mem_each (j := 0) (t := 22) rfl rfl n hn))
    simp only [reachBytes] at this
    omega
  obtain ⟨a1, rfl, rfl, rfl, w1⟩ := open_int Try.underlying5 (hval 1 5 v1 rfl rfl) h1
  clear hA0 hval0
  refine (walk_epochEnds a0 len0 cap0 z0 a1 W w0 w1).mono fun e W' ⟨he, bel⟩ => ?_
  subst he
  exact ⟨_, rfl, _, _, _, [], _, [], hW', trodAll_mk1 (shut_bool Try.underlying4 _), (trodAll_cons_mk (Below.trod laidOut (by kernel_rfl) (of_decide_eq_true (by kernel_rfl)) k0 bel lt0) (trodAll_cons_mk (shut_int Try.underlying5 w1) trodAll_mk0)), rfl, bel.frame _, fun h => by cases h⟩

/-- The statement. -/
theorem epochEnds_holds : Rows.EpochEndsSaid :=
  OpenClaim.holds_of_wide 6 Try.f6 rfl rfl rfl rfl rfl rfl rfl ⟨rfl, rfl, rfl, rfl, rfl⟩ rfl rfl rfl rfl rfl (by kernel_rfl) Try.func6 (by kernel_rfl)
    (of_decide_eq_true (by kernel_rfl)) (by unfold Func.isWrapper; first | (rw [if_pos (by decide +kernel)]; kernel_rfl) | (rw [if_neg (by decide +kernel)]; exact ⟨rfl, rfl⟩))
    (fun os started H enc _ => lifted_epochEnds os started H enc)
#print axioms epochEnds_holds
end Go.Proofs.Ytndmcjkbbedoeaa
