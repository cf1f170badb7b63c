/- An oracle: its clone. -/
import Derived.Test.YtdgphlghmjnjfaaOrR3
import Derived.Deep.RegionHeld3
namespace Go.Proofs.Ytdgphlghmjnjfaa
open Go.RowKit Go.Maps Go.Shelf
attribute [local go_sem] Oper.semAt_some
set_option linter.unusedVariables false
set_option maxRecDepth 100000

/-- What waits in the clone's map, when so many were told. -/
def ahOf (pre : List (Nat × Bool)) (i : Nat) : Option Unit := if (i, true) ∈ pre then some () else none
theorem ahOf_nil : ahOf [] = fun _ => none := by funext i; simp [ahOf]
theorem ahOf_no (pre : List (Nat × Bool)) (j : Nat) : ahOf (pre ++ [(j, false)]) = ahOf pre := by funext i; simp [ahOf]
theorem ahOf_yes (pre : List (Nat × Bool)) (j : Nat) : ahOf (pre ++ [(j, true)]) = upd (ahOf pre) j () := by
  funext i
  unfold ahOf upd
  by_cases h : i = j
  · subst h
    simp
  · simp [h]
theorem ahOf_abv {o : Or} (h : o.Ok0) : ahOf o.abv = o.ah := by
  funext i
  unfold ahOf
  have hm : (i, true) ∈ o.abv ↔ (o.ah i).isSome = true := by
    unfold Or.abv
    rw [List.mem_map]
    constructor
    · rintro ⟨k, hk, he⟩
      rw [List.mem_range] at hk
      have e1 : o.pub + 1 + k = i := congrArg Prod.fst he
      have e2 : o.isP (o.pub + 1 + k) = true := congrArg Prod.snd he
      rw [e1] at e2
      simp only [Or.isP, Bool.or_eq_true, decide_eq_true_eq] at e2
      rcases e2 with e2 | e2
      · omega
      · exact e2
    · intro hs
      have := h.ah i hs
      refine ⟨i - (o.pub + 1), by rw [List.mem_range]; omega, ?_⟩
      rw [show o.pub + 1 + (i - (o.pub + 1)) = i by omega]
      simp [Or.isP, hs]
  cases ha : o.ah i with
  | none => rw [if_neg (by rw [hm, ha]; simp)]
  | some u => rw [if_pos (by rw [hm, ha]; rfl)]

/-- Between the rounds: the box X of the clone, its block and map. -/
structure Cn (w W : World) (X B M : Nat) (o : Or) : Prop where
  bx : Bk W X 23 #[.pointer (some ⟨B, 0, none⟩)]
  is : IsOr W B M o
  hX : w.heap.size ≤ X
  hB : w.heap.size ≤ B
  hM : w.heap.size ≤ M
  below : Below w.heap.size w W

theorem Cn.abides {w W W' : World} {X B M : Nat} {o : Or} {row : Option Nat} {m : Nat} (h : Cn w W X B M o) (hm : M < m) (hm2 : w.heap.size ≤ m) (hg : W.grownBy W' row) (hr : ∀ r, row = some r → m ≤ r ∧ ∃ o : Obj, W.heap[r]? = some o ∧ o.isCells = false) : Cn w W' X B M o where
  bx := bk_from h.bx hg hr
  is := ⟨bk_from h.is.blk hg hr, h.is.mp.tn (grown_tn hg) (fun hx => by have := (hr _ (opt_toList.1 hx)).1; omega)⟩
  hX := h.hX
  hB := h.hB
  hM := h.hM
  below := h.below.grown hg h.below.size (fun k hk => by have := (hr k hk).1; omega)

/-- The views, so many of them set. -/
theorem set_take (vs : List Nat) (k : Nat) (hk : k < vs.length) (n : Nat) (hn : vs.length = n) : (vs.take k ++ List.replicate (n - k) 0).set k (vs.getD k 0) = vs.take (k + 1) ++ List.replicate (n - (k + 1)) 0 := by
  rw [List.set_append_right _ _ (by simp; omega)]
  have e : k - (vs.take k).length = 0 := by simp; omega
  rw [e]
  obtain ⟨m, hm⟩ : ∃ m, n - k = m + 1 := ⟨n - k - 1, by omega⟩
  rw [hm, List.replicate_succ, List.set_cons_zero, show n - (k + 1) = m by omega]
  rw [List.take_succ_eq_append_getElem hk, List.append_assoc]
  simp [List.getD, hk]

set_option maxHeartbeats 8000000 in
theorem clone_any {w : World} {B M : Nat} {o : Or} (h : IsOr w B M o) (hk : o.Ok) : Calls Try.prog 24 #[.pointer (some ⟨B, 0, none⟩)] w fun e w' => ∃ B' M', e = .returned (.pointer (some ⟨B', 0, none⟩)) ∧ IsOr w' B' M' o ∧ w.heap.size ≤ B' ∧ w.heap.size ≤ M' ∧ Below w.heap.size w w' := by
  have hmf : ∀ (fn : Fn) (first cap : Array Value) (w : World), (Instr.makeFunc fn first cap).run Try.prog w = .ok (.func fn first cap) w := fun _ _ _ _ => rfl
  refine calls_of_wpAt Try.func24 rfl ?_
  simp only [Try.ntmps24, List.size_toArray, List.length_cons, List.length_nil, Nat.reduceAdd, Nat.reduceSub, Array.replicate_succ, Array.replicate_zero, List.push_toArray, List.append_toArray, List.nil_append, List.cons_append]
  have HH : Hid (IsOr w B M o ∧ o.Ok) := ⟨h, hk⟩
  have c0 := h.c0
  have c1 := h.c1
  have c2 := h.c2
  clear h hk
  refine wpAt_seq_k fun K hK => wpAt_of_wp ?_
  go_wp2
  refine wpAt_seq_k fun K hK => wpAt_of_wp ?_
  go_wp2_with fail
  refine (made_any c2).mono ?_
  rintro e w1 ⟨rfl, rfl⟩
  go_wp2
  refine wpAt_seq_k fun K hK => wpAt_of_wp ?_
  have HK : Hid _ := hK
  clear hK
  have HREST : Hid (∀ X B' M' W, Cn w1 W X B' M' (Or.begin o.last o.pub) → K { tmps := #[.pointer (some ⟨B, 0, none⟩), undef, .pointer none, .pointer (some ⟨X, 0, none⟩), undef, undef, undef, .pointer (some ⟨B, 0, none⟩), .bool true, .bool false, .pointer (some ⟨B, 0, none⟩), .pointer (some ⟨B, 0, none⟩), .pointer (some ⟨B, 0, none⟩), .int .i64 (o.last : Int), .pointer (some ⟨B, 0, none⟩), .pointer (some ⟨B, 0, none⟩), .pointer (some ⟨B, 1, none⟩), .int .i64 (o.pub : Int), .pointer (some ⟨B', 0, none⟩), undef, undef, undef, undef, undef, undef, undef, undef, undef, undef, undef, undef, undef, undef, undef, undef, undef, undef, undef, undef, undef, undef, undef, undef, undef, undef, undef, undef], defers := [] } W) := by
    intro X B' M' W hCn
    refine HK.out _ _ ?_
    clear HK
    have HC0 : Hid (Cn w1 W X B' M' (Or.begin o.last o.pub)) := hCn
    have HG : Hid (Goes W (.pointer (some ⟨B, 0, none⟩)) [B, M] o.abv) := goes_any (HH.out.1.below hCn.below) HH.out.2
    clear hCn c0 c1 c2
    refine wpAt_seq_k fun K2 hK2 => ?_
    have HK2 : Hid _ := hK2
    clear hK2
    refine wpAt_seq_k fun K3 hK3 => wpAt_of_wp ?_
    go_wp2_with fail
    refine (above_any _ _).mono ?_
    rintro e w2 ⟨rfl, hw2⟩
    go_wp2
    rw [← hw2]
    have HB2 : Hid (Below W.heap.size W w2 ∧ w2.heap.size = W.heap.size + 1 ∧ Bk w2 W.heap.size 23 #[.pointer (some ⟨B, 0, none⟩)]) := by
      rw [hw2]
      exact ⟨(Below.refl _ _).alloc (Nat.le_refl _) _, by simp, Bk.new _ _ _⟩
    have HP2 : Hid (Cn w1 w2 X B' M' ⟨o.last, o.pub, ahOf [], List.replicate 17 0⟩) := by
      rw [ahOf_nil]
      have hb := HB2.out.1
      have h0 := HC0.out
      exact ⟨h0.bx.below hb h0.bx.lt, h0.is.below hb, h0.hX, h0.hB, h0.hM, h0.below.trans (hb.mono h0.below.size)⟩
    clear hw2
    have HLT : Hid (M' < w2.heap.size ∧ B' < w2.heap.size ∧ X < w2.heap.size ∧ w1.heap.size ≤ w2.heap.size) := ⟨HP2.out.is.ltM, HP2.out.is.ltB, HP2.out.bx.lt, HP2.out.below.size⟩
    have HSL : Hid (∀ x ∈ W.heap.size :: [B, M], x < w2.heap.size ∧ x ≠ M' ∧ x ≠ B' ∧ x ≠ X) := fun x hx => by
      have h1 := HB2.out.2.1
      have h2 := HC0.out.is.ltM
      have h3 := HC0.out.is.ltB
      have h4 := HC0.out.bx.lt
      have h5 := HC0.out.hM
      have h6 := HC0.out.hB
      have h7 := HC0.out.hX
      rcases List.mem_cons.1 hx with rfl | hx
      · omega
      · have h8 := HG.out.1 x hx
        have h9 : x < w1.heap.size := by
          simp at hx
          rcases hx with rfl | rfl
          · exact HH.out.1.ltB
          · exact HH.out.1.ltM
        omega
    clear HC0
    refine wpAt_blockE ?_
    refine wpAt_boxedQ ?A Try.func24 (gf := 49) (lb := #[.pointer (some ⟨W.heap.size, 0, none⟩)]) rfl (enters_of Try.func49 (by kernel_rfl) rfl)
      (HG.out.2 w2 W.heap.size HB2.out.1 HB2.out.2.2) KpP.t (fun W l o o' hl _ _ _ k hk => World.putObj_heap_other (fun e => by
        subst e
        have := (HSL.out _ hk).1
        omega)) (Below.refl _ _) (fun _ => rfl)
      (fun pre W => Cn w1 W X B' M' ⟨o.last, o.pub, ahOf pre, List.replicate 17 0⟩ ∧ w2.heap.size ≤ W.heap.size)
      (fun c xs W => False)
      (fun _ _ _ => False)
      (fun s A B' row hs hg hr => ⟨hs.1.abides HLT.out.1 HLT.out.2.2.2 hg hr, Nat.le_trans hs.2 hg.size⟩)
      (fun cc s A B row hs hg hr => hs.elim)
      ⟨HP2.out, Nat.le_refl _⟩
      (fun x bx W => True)
      (fun x bx _ A B' row hs hg hr => trivial)
      ?assign ?body ?done (fun D cc pre W _ _ h _ => h.elim) (fun D chain pre W _ _ h _ => h.elim)
    case assign =>
      rintro l pre x W K hL hK
      obtain ⟨bx, hbx⟩ : ∃ bx : Nat, bx = 0 := ⟨_, rfl⟩
      gi_wp2
      exact hK bx W (KeepsFrom.refl _ _) (KpP.refl _ _) hL trivial
    case body =>
      rintro l pre ⟨j, y⟩ bx W3 hl ⟨hT, hl3⟩ _ hpre
      cases y with
      | false =>
        have HE : Hid (Cn w1 W3 X B' M' ⟨o.last, o.pub, ahOf (pre ++ [(j, false)]), List.replicate 17 0⟩ ∧ w2.heap.size ≤ W3.heap.size) := by
          refine ⟨?_, hl3⟩
          rw [ahOf_no]
          exact hT
        clear hT hpre hl3
        gi_wp2
        exact ⟨KeepsFrom.refl _ _, KpP.refl _ _, HE.out⟩
      | true =>
        have d0 : W3.cell? ⟨X, 0, none⟩ = some (.pointer (some ⟨B', 0, none⟩)) := hT.bx.cell 0
        have d2 := hT.is.c2
        have hjN : j < NN := by
          have hm : (j, true) ∈ o.abv := hpre.subset (by simp)
          unfold Or.abv at hm
          rw [List.mem_map] at hm
          obtain ⟨k, hk, he⟩ := hm
          rw [List.mem_range] at hk
          have e1 : o.pub + 1 + k = j := congrArg Prod.fst he
          have := HH.out.2.max
          simp only [NN]
          omega
        obtain ⟨w5, hu, hm5, ht5⟩ := hT.is.mp.put uReads (t := 58) Try.underlying58 j hjN (by simp only [NN]; omega) ()
        simp only [uv] at hu
        have HE : Hid (KeepsFrom w2.heap.size W3 w5 ∧ KpP (W.heap.size :: [B, M]) W3 w5 ∧ Cn w1 w5 X B' M' ⟨o.last, o.pub, ahOf (pre ++ [(j, true)]), List.replicate 17 0⟩ ∧ w2.heap.size ≤ w5.heap.size) := by
          have hXM : X ≠ M' := fun e => hT.is.mp.neBk hT.bx e.symm
          refine ⟨KeepsFrom.of_grownBy (row := some M') (ht5.grown' (by simp)) (fun j hj => by cases hj; exact HLT.out.1), KpP.of_tn ht5 (fun x hx => ?_), ?_, Nat.le_trans hl3 ht5.size⟩
          · have h1 := HSL.out x hx
            have h2 := hT.is.ltM
            exact ⟨Nat.lt_of_lt_of_le h1.1 hl3, by simpa using h1.2.1⟩
          · rw [ahOf_yes]
            exact ⟨hT.bx.tn ht5 (by simpa using hXM), hT.is.setMap hm5 ht5, hT.hX, hT.hB, hT.hM, hT.below.trans (ht5.below hT.below.size (by simpa using hT.hM))⟩
        clear hT hpre hm5 ht5 hjN hl3
        gi_wp2
        exact HE.out
    case done =>
      rintro D zs W4 hD rfl ⟨hT, -⟩ hK
      refine HK2.out _ _ (wpAt_of_wp ?_)
      have HS0 : Hid (Cn w1 W4 X B' M' ⟨o.last, o.pub, o.ah, o.views.take 0 ++ List.replicate (17 - 0) 0⟩) := by
        rw [ahOf_abv HH.out.2.toOk0] at hT
        show Cn _ _ _ _ _ _
        exact hT
      have HKD : Hid (W4.heap[D]? = some (.deferred (some []))) := hK
      have HDW : Hid (w2.heap.size ≤ D) := hD
      have HL17 : Hid (o.views.length = 17) := HH.out.2.v17
      clear hT hK hD HK2 HG HP2
      go_wp2_with fail
      go_loopw [30] (fun i wr => ∃ k : Nat, k ≤ 17 ∧ i = .int .i64 (k : Int) ∧ Hid (Cn w1 wr X B' M' ⟨o.last, o.pub, o.ah, o.views.take k ++ List.replicate (17 - k) 0⟩) ∧ Hid (wr.heap[D]? = some (.deferred (some [])))) (fun i _ => 17 - (intOf i).toNat)
      case atStart => exact ⟨0, by omega, rfl, HS0, HKD⟩
      case round =>
        obtain ⟨k, hk, rfl, HS, HD⟩ := hrel
        by_cases hlt : k < 17
        · have hli : (k : Int) < 17 := by omega
          have hk0 : (0 : Int) ≤ (k : Int) := by omega
          have hN := HS.out
          have x0 : wr.cell? ⟨X, 0, none⟩ = some (.pointer (some ⟨B', 0, none⟩)) := hN.bx.cell 0
          have x0d : wr.drew.cell? ⟨X, 0, none⟩ = some (.pointer (some ⟨B', 0, none⟩)) := hN.bx.drew.cell 0
          have hO := HH.out.1.below hN.below
          have e1 : wr.cell? ⟨B, 3 + k, none⟩ = some (.int .i64 ((o.views.getD k 0 : Nat) : Int)) := hO.cv k (by rw [HL17.out]; exact hlt)
          have e2 : ∃ y : Int, wr.cell? ⟨B', 3 + k, none⟩ = some (.int .i64 y) := ⟨_, hN.is.cv k (by simp [HL17.out]; omega)⟩
          obtain ⟨y, e2⟩ := e2
          have f2 : wr.frozen? ⟨B', 3 + k, none⟩ = false := hN.is.blk.frozen _
          have hXB : X ≠ B' := hN.bx.ne hN.is.blk (by decide)
          have HW : Hid (∀ W', W' = wr.drew.setCell ⟨B', 3 + k, none⟩ (.int .i64 ((o.views.getD k 0 : Nat) : Int)) → W'.cell? ⟨X, 0, none⟩ = some (.pointer (some ⟨B', 0, none⟩)) ∧ Hid (Cn w1 W' X B' M' ⟨o.last, o.pub, o.ah, o.views.take (k + 1) ++ List.replicate (17 - (k + 1)) 0⟩) ∧ Hid (W'.heap[D]? = some (.deferred (some [])))) := by
            rintro W' rfl
            have hn : Cn w1 wr.drew X B' M' ⟨o.last, o.pub, o.ah, o.views.take k ++ List.replicate (17 - k) 0⟩ := ⟨hN.bx, ⟨hN.is.blk, hN.is.mp.tn (Tn.refl [] wr).drew (by simp)⟩, hN.hX, hN.hB, hN.hM, hN.below.drew⟩
            have ht : Tn [B'] wr.drew (wr.drew.setCell ⟨B', 3 + k, none⟩ (.int .i64 ((o.views.getD k 0 : Nat) : Int))) := (Tn.refl _ _).setCell (.inl (by simp)) _
            have hb := hn.bx.tn ht (by simpa using hXB)
            have hs := hn.is.setView k (o.views.getD k 0)
            simp only at hs
            rw [set_take o.views k (by rw [HL17.out]; exact hlt) 17 HL17.out] at hs
            refine ⟨hb.cell 0, ⟨hb, hs, hn.hX, hn.hB, hn.hM, hn.below.trans (ht.below hn.below.size (by simpa using hn.hB))⟩, ?_⟩
            have hDl := (Array.getElem?_eq_some_iff.1 HD.out).1
            refine (ht.block D hDl ?_).trans HD.out
            simp
            intro e
            have h1 := HD.out
            rw [e] at h1
            have h2 := hN.is.blk
            rw [Bk, h1] at h2
            cases h2
          clear hN hO
          go_wp2_with fail
          refine wp_mono (Q := NoPanic _) ?_ NoPanic.imp
          go_region_held3 (fun w' => w'.cell? ⟨X, 0, none⟩ = some (.pointer (some ⟨B', 0, none⟩))) (go_keep) (first
            | (go_at_call 33; refine (aload_any (show wr.drew.cell? ⟨B, 3 + k, none⟩ = some (.int .i64 ((o.views.getD k 0 : Nat) : Int)) from e1)).mono ?_; rintro r w3 ⟨rfl, rfl⟩)
            | (go_at_call 42; refine (astore_any (show wr.drew.cell? ⟨B', 3 + k, none⟩ = some (.int .i64 y) from e2) (show wr.drew.frozen? ⟨B', 3 + k, none⟩ = false from f2)).mono ?_; rintro r w4 ⟨rfl, hw4⟩; obtain ⟨z0, HS4, HD4⟩ := HW.out w4 hw4; clear hw4))
          refine NoPanic.normal ?_
          go_wp2
          go_roundw
          case rel => exact ⟨k + 1, by omega, by go_num, HS4, HD4⟩
          case measure => simp [intOf]; omega
        · obtain rfl : k = 17 := by omega
          have x0 : wr.cell? ⟨X, 0, none⟩ = some (.pointer (some ⟨B', 0, none⟩)) := HS.out.bx.cell 0
          have HE : Hid (IsOr (wr.putObj D (.deferred none)) B' M' o ∧ w1.heap.size ≤ B' ∧ w1.heap.size ≤ M' ∧ Below w1.heap.size w1 (wr.putObj D (.deferred none))) := by
            have hN := HS.out
            have tp : Tn [D] wr (wr.putObj D (.deferred none)) := ⟨rfl, rfl, rfl, by simp, fun j hj hn => World.putObj_heap_other (by simpa using hn)⟩
            have e : o.views.take 17 ++ List.replicate (17 - 17) 0 = o.views := by simp [HL17.out, List.take_of_length_le]
            have hi : IsOr wr B' M' o := by
              have := hN.is
              rw [e] at this
              exact this
            refine ⟨hi.tn tp ?_ ?_, hN.hB, hN.hM, hN.below.trans (tp.below hN.below.size (by have := HLT.out.2.2.2; have := HDW.out; simp; omega))⟩
            · simp
              intro e
              have h1 := HD.out
              rw [← e] at h1
              have h2 := hi.blk
              rw [Bk, h1] at h2
              cases h2
            · have := HLT.out.1
              have := HDW.out
              simp
              omega
          clear HS
          go_wp2
          refine ⟨by simp, .inl ⟨_, _, rfl, run_takeDeferred HD.out, ?_⟩⟩
          refine ⟨.pointer (some ⟨B', 0, none⟩), ?_, B', M', rfl, HE.out⟩
          simp [results, Try.f24, go_sem]
  clear HK
  have HB : Hid (∀ W', IsOr W' (w1.drew.heap.size + 1) w1.drew.heap.size (Or.begin o.last o.pub) → Below w1.drew.heap.size w1.drew W' → Hid (IsOr W' (w1.heap.size + 1) w1.heap.size (Or.begin o.last o.pub) ∧ Below w1.heap.size w1 W') ∧ W'.cell? ⟨B, 0, none⟩ = some (.int .i64 (o.last : Int)) ∧ W'.cell? ⟨B, 1, none⟩ = some (.int .i64 (o.pub : Int)) ∧ W'.cell? ⟨B, 2, none⟩ = some (.map (some M))) := fun W' h2 h3 => by
    have h4 : Below w1.heap.size w1 W' := ((Below.refl _ _).drew).trans h3
    have h5 := HH.out.1.below h4
    exact ⟨⟨h2, h4⟩, h5.c0, h5.c1, h5.c2⟩
  obtain ⟨wx, hwx⟩ : ∃ wx, (w1.alloc (.cells #[.pointer none] 23)).drew = wx := ⟨_, rfl⟩
  have HX : Hid (∀ W', IsOr W' (wx.heap.size + 1) wx.heap.size (Or.begin o.last o.pub) → Below wx.heap.size wx W' → Hid (IsOr W' (w1.heap.size + 2) (w1.heap.size + 1) (Or.begin o.last o.pub) ∧ Below w1.heap.size w1 W' ∧ Bk W' w1.heap.size 23 #[.pointer none]) ∧ W'.cell? ⟨w1.heap.size, 0, none⟩ = some (.pointer none) ∧ W'.frozen? ⟨w1.heap.size, 0, none⟩ = false ∧ W'.cell? ⟨B, 0, none⟩ = some (.int .i64 (o.last : Int)) ∧ W'.cell? ⟨B, 1, none⟩ = some (.int .i64 (o.pub : Int)) ∧ W'.cell? ⟨B, 2, none⟩ = some (.map (some M))) := fun W' h2 h3 => by
    have hbx : Below w1.heap.size w1 wx := by rw [← hwx]; exact ((Below.refl _ _).alloc (Nat.le_refl _) _).drew
    have h4 : Below w1.heap.size w1 W' := hbx.trans (h3.mono hbx.size)
    have h5 := HH.out.1.below h4
    have hs : wx.heap.size = w1.heap.size + 1 := by rw [← hwx]; simp
    have k1 : Bk wx w1.heap.size 23 #[.pointer none] := by rw [← hwx]; exact (Bk.new _ _ _).drew
    have k2 := k1.below h3 k1.lt
    rw [hs] at h2
    exact ⟨⟨h2, h4, k2⟩, k2.cell 0, k2.frozen 0, h5.c0, h5.c1, h5.c2⟩
  have HWX : Hid (_ = wx) := hwx
  clear hwx
  have m0 : w1.heap.size ≠ B := World.new_ne w1 _ c0
  have HC : Hid (∀ W, Below w1.heap.size w1 W → ∀ k v, w1.cell? ⟨B, k, none⟩ = some v → W.cell? ⟨B, k, none⟩ = some v) := fun W hW k v hv => (World.cell?_of_block (a := ⟨B, k, none⟩) (hW.block B (cell_lt hv))).trans hv
  go_region_held3 (fun w' => w'.cell? ⟨B, 0, none⟩ = some (.int .i64 (o.last : Int)) ∧ w'.cell? ⟨B, 1, none⟩ = some (.int .i64 (o.pub : Int)) ∧ w'.cell? ⟨B, 2, none⟩ = some (.map (some M))) (go_keep) (first
    | (go_at_call 33; refine (aload_any (HC.out _ (by first | exact Below.refl _ _ | exact (Below.refl _ _).drew | exact ((Below.refl _ _).alloc (Nat.le_refl _) _).drew | exact (Below.refl _ _).drew.alloc (Nat.le_refl _) _) _ _ (by assumption))).mono ?_; rintro r w3 ⟨rfl, rfl⟩)
    | (go_at_call 27; refine (begin_any _ o.last o.pub).mono ?_; rintro r w4 ⟨rfl, hO4, hb4⟩; first
        | (obtain ⟨HO4, s0, s1, s2⟩ := HB.out _ hO4 hb4; clear hO4 hb4)
        | (rw [HWX.out] at hO4 hb4; obtain ⟨HO4, x0, y0, s0, s1, s2⟩ := HX.out _ hO4 hb4; clear hO4 hb4)))
  · refine HREST.out _ _ w1.heap.size _ ?_
    obtain ⟨h1, h2⟩ := HO4.out
    exact ⟨Bk.new _ _ _, h1.below ((Below.refl _ _).alloc (Nat.le_refl _) _), h2.size, by omega, by omega, h2.alloc h2.size _⟩
  all_goals
    refine HREST.out _ _ (w1.heap.size + 1) _ ?_
    obtain ⟨h1, h2, h3⟩ := HO4.out
    refine ⟨h3.set 0 _, h1.tn ((Tn.refl [w1.heap.size] w4).setCell (.inl (by simp)) _) (by simp) (by simp), by omega, by omega, by omega, ?_⟩
    exact h2.trans (((Tn.refl [w1.heap.size] w4).setCell (.inl (by simp)) _).below h2.size (by simp))
end Go.Proofs.Ytdgphlghmjnjfaa
