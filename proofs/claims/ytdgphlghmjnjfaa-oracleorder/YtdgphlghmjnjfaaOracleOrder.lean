/- In whatever order up to thirty timestamps are published, the prefix ends ahead of the least one that is pending, and at the last one, when none is. -/
import Derived.Test.YtdgphlghmjnjfaaOrO
namespace Go.Proofs.Ytdgphlghmjnjfaa
open Go.ChangeShapes Go.WideShapes Go.ChangeAt Go.RowKit Go.Maps
open Go.ChangeMaps (open_string shut_string)
set_option linter.unusedVariables false
set_option maxRecDepth 100000

set_option maxHeartbeats 16000000 in
theorem walk_oracleOrder (q u : Int) (p : Option Addr) (len cap : Nat) (l : List Int) (w : World) (hq : (Lit.int .u32 q).wf = true) (hu : (Lit.int .u8 u).wf = true) (hin : InU w p len cap l) :
    Calls Try.prog 5 #[.int .u32 q, .int .u8 u, .slice p len cap] w fun e w' => e = .returned (.bool true) ∧ Below w.heap.size w w' := by
  have HI : Hid (InU w p len cap l) := hin
  have hlen : len ≤ 140737488351232 := Nat.le_trans hin.le hin.room
  have hq2 := bounds_u32 hq
  have hu2 := bounds_u8 hu
  obtain ⟨L, rfl⟩ : ∃ L : Nat, q = (L : Int) := ⟨q.toNat, by omega⟩
  obtain ⟨U, rfl⟩ : ∃ U : Nat, u = (U : Int) := ⟨u.toNat, by omega⟩
  have hL : L < 4294967296 := by omega
  have hU : U < 256 := by omega
  obtain ⟨n, hn⟩ : ∃ n, U % 30 + 1 = n := ⟨_, rfl⟩
  have hn1 : 1 ≤ n := by omega
  have hn2 : n ≤ 30 := by omega
  clear hin hq hu hq2 hu2
  go_enter Try.func5, Try.ntmps5
  go_wp2_with fail
  refine (new_any _ L (by omega)).mono ?_
  rintro r w1 ⟨rfl, hO1, hb1⟩
  obtain ⟨w0, hw0⟩ : ∃ w0, w.alloc (.cells #[.int .u32 (L : Int)] 49) = w0 := ⟨_, rfl⟩
  rw [hw0] at hO1 hb1 ⊢
  have hs0 : w0.heap.size = w.heap.size + 1 := by rw [← hw0]; simp
  have hb0 : Below w.heap.size w w0 := hw0 ▸ (Below.refl _ w).alloc (Nat.le_refl _) _
  have k3 : Bk w0 w.heap.size 49 #[.int .u32 (L : Int)] := hw0 ▸ Bk.new w _ _
  obtain ⟨w2, hw2⟩ : ∃ w2, w1.alloc (.cells #[.pointer (some ⟨w0.heap.size + 1, 0, none⟩)] 23) = w2 := ⟨_, rfl⟩
  have hs2 : w2.heap.size = w1.heap.size + 1 := by rw [← hw2]; simp
  have hb2 : Below w1.heap.size w1 w2 := hw2 ▸ (Below.refl _ w1).alloc (Nat.le_refl _) _
  have k7 : Bk w2 w1.heap.size 23 #[.pointer (some ⟨w0.heap.size + 1, 0, none⟩)] := hw2 ▸ Bk.new w1 _ _
  have HH2 : Hid (IsOr w2 (w0.heap.size + 1) w0.heap.size (Or.begin L L) ∧ Below w.heap.size w w2 ∧ Bk w2 w.heap.size 49 #[.int .u32 (L : Int)] ∧ Bk w2 w1.heap.size 23 #[.pointer (some ⟨w0.heap.size + 1, 0, none⟩)] ∧ w0.heap.size = w.heap.size + 1) := by
    have h02 : Below w0.heap.size w0 w2 := hb1.trans (hb2.mono hb1.size)
    exact ⟨hO1.below hb2, hb0.trans (h02.mono (by omega)), k3.below h02 k3.lt, k7, hs0⟩
  obtain ⟨B, hB⟩ : ∃ B, w0.heap.size + 1 = B := ⟨_, rfl⟩
  obtain ⟨M, hM⟩ : ∃ M, w0.heap.size = M := ⟨_, rfl⟩
  obtain ⟨X7, hX7⟩ : ∃ X7, w1.heap.size = X7 := ⟨_, rfl⟩
  have HB0 : Hid (w.heap.size ≤ B) := by
    have := HH2.out.2.2.2.2
    show w.heap.size ≤ B
    omega
  rw [hB, hM, hX7] at HH2
  rw [hB] at hw2
  clear hO1 hb1 hb0 k3 hb2 k7 hs0
  simp only [hB]
  clear hB
  have HM : Hid (w0.heap.size = M ∧ w1.heap.size = X7 ∧ w2.heap.size = w1.heap.size + 1) := ⟨hM, hX7, hs2⟩
  clear hM hs2
  go_wp2_with fail
  refine (begun_any _).mono ?_
  rintro r w3 ⟨rfl, hb3⟩
  have hb23 : Below w2.heap.size w2 w3 := hb3
  have HH3 : Hid (IsOr w3 B M (Or.begin L L) ∧ Below w.heap.size w w3 ∧ Bk w3 w.heap.size 49 #[.int .u32 (L : Int)] ∧ Bk w3 X7 23 #[.pointer (some ⟨B, 0, none⟩)] ∧ M = w.heap.size + 1) := by
    obtain ⟨h1, h2, h3, h4, h5⟩ := HH2.out
    exact ⟨h1.below hb23, h2.trans (hb23.mono h2.size), h3.below hb23 h3.lt, h4.below hb23 h4.lt, h5⟩
  have c7 : w3.cell? ⟨X7, 0, none⟩ = some (.pointer (some ⟨B, 0, none⟩)) := HH3.out.2.2.2.1.cell 0
  clear hb3 hb23 HH2 hw2 hw0
  obtain ⟨w4, hw4⟩ : ∃ w4, w3.alloc (.cells #[.int .i64 (n : Int)] 2) = w4 := ⟨_, rfl⟩
  obtain ⟨w5, hw5⟩ : ∃ w5, w4.alloc (.map #[] 0) = w5 := ⟨_, rfl⟩
  obtain ⟨w6, hw6⟩ : ∃ w6, w5.alloc (.cells #[.map (some (w3.heap.size + 1))] 51) = w6 := ⟨_, rfl⟩
  have hs4 : w4.heap.size = w3.heap.size + 1 := by rw [← hw4]; simp
  have hs5 : w5.heap.size = w3.heap.size + 1 + 1 := by rw [← hw5]; simp [hs4]
  have HD : Hid (Od w w6 ⟨w.heap.size, X7, w3.heap.size, w3.heap.size + 1 + 1, w3.heap.size + 1, B, M⟩ L n (Or.begin L L) (Or.begin L L).pendF) := by
    obtain ⟨h1, h2, h3, h4, h5⟩ := HH3.out
    have hb34 : Below w3.heap.size w3 w4 := hw4 ▸ (Below.refl _ w3).alloc (Nat.le_refl _) _
    have hb45 : Below w4.heap.size w4 w5 := hw5 ▸ (Below.refl _ w4).alloc (Nat.le_refl _) _
    have hb56 : Below w5.heap.size w5 w6 := hw6 ▸ (Below.refl _ w5).alloc (Nat.le_refl _) _
    have hb46 : Below w4.heap.size w4 w6 := hb45.trans (hb56.mono hb45.size)
    have hb36 : Below w3.heap.size w3 w6 := hb34.trans (hb46.mono hb34.size)
    have k9 : Bk w4 w3.heap.size 2 #[.int .i64 (n : Int)] := hw4 ▸ Bk.new w3 _ _
    have kp : Mp bElem w5 (w3.heap.size + 1) NN (fun _ => none) := by rw [← hs4]; exact hw5 ▸ Mp.new bElem w4 NN
    have k10 : Bk w6 (w3.heap.size + 1 + 1) 51 #[.map (some (w3.heap.size + 1))] := by rw [← hs5]; exact hw6 ▸ Bk.new w5 _ _
    have hsz := h2.size
    have hlt := h1.ltM
    have hltB := h1.ltB
    have hP : (Or.begin L L).pendF = fun _ => none := by
      funext i
      unfold Or.pendF
      by_cases hi : i ≤ L
      · have : (Or.begin L L).isP i = true := Or.isP_le hi
        simp [this]
      · simp [Or.begin, hi]
    rw [hP]
    exact {
      k3 := h3.below hb36 h3.lt
      k7 := h4.below hb36 h4.lt
      k9 := k9.below hb46 k9.lt
      k10 := k10
      mp := kp.below hb56
      is := h1.below hb36
      ok := Or.begin_ok L (by omega)
      low := fun i hi => Or.isP_le hi
      nPM := by simp only; omega
      below := h2.trans (hb36.mono h2.size)
      gP := by simp only; omega
      gB := by
        simp only
        have := h1.ne
        have hM := HM.out
        have := h1.blk.lt
        apply Classical.byContradiction
        intro hc
        have := HB0.out
        omega
      gM := by simp only; omega
      hL := hL
      hn := ⟨hn1, hn2⟩ }
  have hmk : (Instr.makeMap 51 none).run Try.prog w4 = .ok (.map (some (w3.heap.size + 1))) w5 := by rw [← hs4, ← hw5]; kernel_rfl
  have c9 : w6.cell? ⟨w3.heap.size, 0, none⟩ = some (.int .i64 (n : Int)) := HD.out.k9.cell 0
  have hni : ((U : Int) % 30) + 1 = (n : Int) := by omega
  clear hw5 HH3
  go_wp2_with fail
  obtain ⟨X10, hX10⟩ : ∃ X, w3.heap.size + 1 + 1 = X := ⟨_, rfl⟩
  obtain ⟨P, hP⟩ : ∃ X, w3.heap.size + 1 = X := ⟨_, rfl⟩
  obtain ⟨X9, hX9⟩ : ∃ X, w3.heap.size = X := ⟨_, rfl⟩
  rw [hX10] at HD ⊢
  rw [hP] at HD ⊢
  rw [hX9] at HD ⊢
  have HD1 : Hid (Od w w6 ⟨w.heap.size, X7, X9, X10, P, B, M⟩ L n (Or.begin L L) (Or.begin L L).pendF ∧ (Or.begin L L).last = L + 0) := ⟨HD.out, rfl⟩
  generalize Or.begin L L = o1 at HD1
  clear HD c7 c9 hw4 hw6 hs4 hs5 hmk hX10 hP hX9 HM HB0 hX7 hni hU
  go_loopw [41] (fun iv wr => ∃ (j : Nat) (o : Or), j ≤ n ∧ iv = .int .i64 (j : Int) ∧ Hid (Od w wr ⟨w.heap.size, X7, X9, X10, P, B, M⟩ L n o o.pendF ∧ o.last = L + j)) (fun iv _ => n - (intOf iv).toNat)
  case atStart => exact ⟨0, o1, Nat.zero_le _, rfl, HD1⟩
  case round =>
    obtain ⟨j, o, hj, rfl, HO⟩ := hrel
    by_cases hlt : j < n
    · have hli : (j : Int) < (n : Int) := by omega
      have c3 : wr.cell? ⟨w.heap.size, 0, none⟩ = some (.int .u32 (L : Int)) := HO.out.1.k3.cell 0
      have c7 : wr.cell? ⟨X7, 0, none⟩ = some (.pointer (some ⟨B, 0, none⟩)) := HO.out.1.k7.cell 0
      have c9 : wr.cell? ⟨X9, 0, none⟩ = some (.int .i64 (n : Int)) := HO.out.1.k9.cell 0
      have c10 : wr.cell? ⟨X10, 0, none⟩ = some (.map (some P)) := HO.out.1.k10.cell 0
      obtain ⟨T, hT⟩ : ∃ T, o.last + 1 = T := ⟨_, rfl⟩
      have hlast := HO.out.2
      have hTi : (L : Int) + 1 + (j : Int) = (T : Int) := by omega
      have HN := next_any HO.out.1.is (by have := HO.out.2; omega)
      rw [hT] at HN
      have HN2 : Hid _ := HN
      have HT : Hid (o.last + 1 = T) := hT
      have hTb : T ≤ 5000000000 := by omega
      clear HN hT hlast
      go_wp2_with fail
      refine Calls.mono HN2.out ?_
      rintro r w7 ⟨rfl, ht⟩
      have hok : Or.Ok { o with last := T } := by
        have := Or.next_ok HO.out.1.ok (by have := HO.out.2; omega)
        rw [HT.out] at this
        exact this
      have hD7 : Od w w7 ⟨w.heap.size, X7, X9, X10, P, B, M⟩ L n { o with last := T } o.pendF := HO.out.1.ort ht hok HO.out.1.low
      have c3 : w7.cell? ⟨w.heap.size, 0, none⟩ = some (.int .u32 (L : Int)) := hD7.k3.cell 0
      have c7 : w7.cell? ⟨X7, 0, none⟩ = some (.pointer (some ⟨B, 0, none⟩)) := hD7.k7.cell 0
      have c9 : w7.cell? ⟨X9, 0, none⟩ = some (.int .i64 (n : Int)) := hD7.k9.cell 0
      have c10 : w7.cell? ⟨X10, 0, none⟩ = some (.map (some P)) := hD7.k10.cell 0
      obtain ⟨w8, hu, hm8, ht8⟩ := hD7.mp.put bReads (t := 51) Try.underlying51 T (by simp only [NN]; omega) (by simp only [NN]; omega) true
      have HE : Hid (Od w w8 ⟨w.heap.size, X7, X9, X10, P, B, M⟩ L n { o with last := T } (Or.pendF { o with last := T }) ∧ T = L + (j + 1)) := by
        have h1 := Or.pendF_next HO.out.1.ok
        rw [HT.out] at h1
        rw [h1] at hm8
        have h2 := HO.out.2
        have h3 := HT.out
        exact ⟨hD7.map hm8 ht8, by omega⟩
      clear ht hok hD7 hm8 ht8 HN2
      go_wp2
      go_roundw
      case rel => exact ⟨j + 1, _, by omega, by go_num, HE⟩
      case measure => simp [intOf]; omega
    · have hjn : n = j := by omega
      subst hjn
      clear hlt hj HD1 hn
      have hmf : ∀ (fn : Fn) (first cap : Array Value) (w : World), (Instr.makeFunc fn first cap).run Try.prog w = .ok (.func fn first cap) w := fun _ _ _ _ => rfl
      go_wp2_with fail
      go_loopw [66] (fun iv wr => ∃ (j : Nat) (o : Or), j ≤ len ∧ iv = .int .i64 (j : Int) ∧ Hid (Od w wr ⟨w.heap.size, X7, X9, X10, P, B, M⟩ L n o o.pendF ∧ o.last = L + n)) (fun iv _ => len - (intOf iv).toNat)
      case atStart => exact ⟨0, o, Nat.zero_le _, rfl, HO⟩
      case round =>
        clear HO
        obtain ⟨j, o, hj, rfl, HO⟩ := hrel
        by_cases hlt : j < len
        · have hli : (j : Int) < (len : Int) := by omega
          obtain ⟨b, off, x, rfl, hx, hxb, hcx⟩ := (HI.out.up HO.out.1.below).at hlt
          have e0 : wr.cell? ⟨b, off + j, none⟩ = some (.int .u8 x) := by
            have := hcx 0 _ rfl
            simpa using this
          obtain ⟨X, rfl⟩ : ∃ X : Nat, x = (X : Int) := ⟨x.toNat, by omega⟩
          have hXb : X < 256 := by omega
          have c3 : wr.cell? ⟨w.heap.size, 0, none⟩ = some (.int .u32 (L : Int)) := HO.out.1.k3.cell 0
          have c7 : wr.cell? ⟨X7, 0, none⟩ = some (.pointer (some ⟨B, 0, none⟩)) := HO.out.1.k7.cell 0
          have c9 : wr.cell? ⟨X9, 0, none⟩ = some (.int .i64 (n : Int)) := HO.out.1.k9.cell 0
          have c10 : wr.cell? ⟨X10, 0, none⟩ = some (.map (some P)) := HO.out.1.k10.cell 0
          obtain ⟨R, hR⟩ : ∃ R, X % n = R := ⟨_, rfl⟩
          have hmod : R < n := by rw [← hR]; exact Nat.mod_lt _ (by omega)
          obtain ⟨T, hT⟩ : ∃ T, L + 1 + R = T := ⟨_, rfl⟩
          have hTl : T ≤ L + n := by omega
          have hTL : L < T := by omega
          have q1 : IntKind.i64.wrap (L : Int) = (L : Int) := wrap_id9 (by omega)
          have q2 : IntKind.i64.wrap ((L : Int) + 1) = (L : Int) + 1 := wrap_id9 (by omega)
          have q3 : IntKind.i64.wrap (X : Int) = (X : Int) := wrap_id9 (by omega)
          have hn0 : ¬ (n : Int) = 0 := by omega
          have hnm : ¬ (n : Int) = -1 := by omega
          have q4 : (X : Int).tmod (n : Int) = (R : Int) := by rw [← hR, Int.ofNat_tmod]
          have q6 : (X : Int) % (n : Int) = (R : Int) := by rw [← hR]; omega
          have q5 : IntKind.i64.wrap ((L : Int) + 1 + (R : Int)) = (T : Int) := by rw [wrap_id9 (by omega)]; omega
          clear hx hxb hcx hT hmod hR
          go_wp2_with fail
          go_quiet (fail)
          have HD : Hid (Od w (wr.drewN nq) ⟨w.heap.size, X7, X9, X10, P, B, M⟩ L n o o.pendF) := HO.out.1.blw ⟨rfl, rfl, rfl, Nat.le_refl _, fun _ _ => rfl⟩
          obtain ⟨wd, hwd⟩ : ∃ wd, wr.drewN nq = wd := ⟨_, rfl⟩
          rw [hwd] at HD ⊢
          clear c3 c7 c9 c10 e0 hwd q1 q2 q3 q4 q5 q6 hn0 hnm
          have HD1 : Hid (Od w (wd.drewN 1) ⟨w.heap.size, X7, X9, X10, P, B, M⟩ L n o o.pendF) := HD.out.blw ⟨rfl, rfl, rfl, Nat.le_refl _, fun _ _ => rfl⟩
          have HWF : Hid ((Lit.int .i64 (T : Int)).wf = true) := WalkArith.wf_i64 (by omega)
          have HT : Hid (T ≤ o.last) := by have := HO.out.2; show T ≤ o.last; omega
          have c3 : wd.cell? ⟨w.heap.size, 0, none⟩ = some (.int .u32 (L : Int)) := HD.out.k3.cell 0
          have c7 : wd.cell? ⟨X7, 0, none⟩ = some (.pointer (some ⟨B, 0, none⟩)) := HD.out.k7.cell 0
          have c9 : wd.cell? ⟨X9, 0, none⟩ = some (.int .i64 (n : Int)) := HD.out.k9.cell 0
          have c10 : wd.cell? ⟨X10, 0, none⟩ = some (.map (some P)) := HD.out.k10.cell 0
          cases hb : o.isP T with
          | true =>
            have HPA : Hid (∀ x o', o.PubR (T : Int) x o' → x = 1 ∧ rid o.pendF (T : Int) = o'.pendF ∧ o'.last = o.last ∧ (∀ i, o.isP i = true → o'.isP i = true) ∧ o'.isP T = true ∧ o'.Ok) := fun x o' h => by
              obtain ⟨h1, h2⟩ := h.ans HO.out.1.ok HT.out
              rw [if_pos hb] at h1
              exact ⟨h1, h2⟩
            have HLK : Hid (∀ W (f : Nat → Option Bool), Mp bElem W P NN f → f = o.pendF → (Instr.lookup 51 (.map (some P)) (.int .i64 (T : Int)) false).run Try.prog W = .ok (.bool false) W) := fun W f hm hf => by
              have := hm.look1 bReads (t := 51) Try.underlying51 (bZero W) (T : Int) HWF.out
              rw [getI_nat _ _ _ (by simp only [NN]; omega), hf] at this
              rw [this]
              have e : (o.pendF T).getD false = false := by
                unfold Or.pendF
                have h2 := HO.out.2
                have : T ≤ o.last := by omega
                simp [hb, this]
              rw [e]
            have HBT : Hid (o.isP T = true) := hb
            clear hb
            have z1 : wd.cell? ⟨X7, 0, none⟩ = some (.pointer (some ⟨B, 0, none⟩)) := c7
            have z2 : wd.cell? ⟨X10, 0, none⟩ = some (.map (some P)) := c10
            have z3 := HLK.out wd.drew _ HD1.out.mp rfl
            have HC : Hid (∀ W, Od w W ⟨w.heap.size, X7, X9, X10, P, B, M⟩ L n o o.pendF ∨ (∃ o', Od w W ⟨w.heap.size, X7, X9, X10, P, B, M⟩ L n o' o.pendF) → W.cell? ⟨X7, 0, none⟩ = some (.pointer (some ⟨B, 0, none⟩)) ∧ W.cell? ⟨X10, 0, none⟩ = some (.map (some P)) ∧ (Instr.lookup 51 (.map (some P)) (.int .i64 (T : Int)) false).run Try.prog W = .ok (.bool false) W) := fun W hW => by
              rcases hW with hW | ⟨o', hW⟩
              · exact ⟨hW.k7.cell 0, hW.k10.cell 0, HLK.out W _ hW.mp rfl⟩
              · exact ⟨hW.k7.cell 0, hW.k10.cell 0, HLK.out W _ hW.mp rfl⟩
            clear c3 c7 c9 c10
            go_wp2_with fail
            go_region_held3 (fun w' => w'.cell? ⟨X7, 0, none⟩ = some (.pointer (some ⟨B, 0, none⟩)) ∧ w'.cell? ⟨X10, 0, none⟩ = some (.map (some P)) ∧ (Instr.lookup 51 (.map (some P)) (.int .i64 (T : Int)) false).run Try.prog w' = .ok (.bool false) w') (go_keep) (first
              | (go_at_call 18; refine (publish_all HD1.out.is HD1.out.ok _ HWF.out).mono ?_; rintro r w8 ⟨x, o', rfl, ht, hp⟩; obtain ⟨rfl, ha2, ha3, ha4, ha5, ha6⟩ : x = 1 ∧ _ := HPA.out x o' hp; have hD8 := HD1.out.ort ht ha6 (fun i hi => ha4 i (HD1.out.low i hi)); obtain ⟨s1, s2, s3⟩ := HC.out w8 (.inr ⟨o', hD8⟩)))
            all_goals
              have hD8m : Mp bElem w8 P NN o.pendF := hD8.mp
              obtain ⟨w9, hdl, hm9, ht9⟩ := hD8m.del (t := 51) Try.underlying51 (T : Int) HWF.out 0
              have HE9 : Hid (Od w w9 ⟨w.heap.size, X7, X9, X10, P, B, M⟩ L n o' o'.pendF ∧ o'.last = L + n) := by
                rw [ha2] at hm9
                exact ⟨hD8.map hm9 ht9, ha3.trans HO.out.2⟩
              have c10 : w8.cell? ⟨X10, 0, none⟩ = some (.map (some P)) := s2
              clear hp ht ha2 ha3 ha4 ha5 ha6 hD8 hD8m hm9 ht9 s1 s3 z1 z2 z3 HC HLK
              go_wp2_with fail
              refine (check_any HE9.out.1 HE9.out.2).mono ?_
              rintro r w10 ⟨rfl, hb10⟩
              have HE10 : Hid (Od w w10 ⟨w.heap.size, X7, X9, X10, P, B, M⟩ L n o' o'.pendF ∧ o'.last = L + n) := ⟨HE9.out.1.blw hb10, HE9.out.2⟩
              clear hb10
              go_wp2
              go_roundw
              case rel => exact ⟨j + 1, o', by omega, by go_num, HE10⟩
              case measure => simp [intOf]; omega
          | false =>
            have HPA : Hid (∀ x o', o.PubR (T : Int) x o' → x = 0 ∧ rid o.pendF (T : Int) = o'.pendF ∧ o'.last = o.last ∧ (∀ i, o.isP i = true → o'.isP i = true) ∧ o'.isP T = true ∧ o'.Ok) := fun x o' h => by
              obtain ⟨h1, h2⟩ := h.ans HO.out.1.ok HT.out
              rw [if_neg (by simp [hb])] at h1
              exact ⟨h1, h2⟩
            have HLK : Hid (∀ W (f : Nat → Option Bool), Mp bElem W P NN f → f = o.pendF → (Instr.lookup 51 (.map (some P)) (.int .i64 (T : Int)) false).run Try.prog W = .ok (.bool true) W) := fun W f hm hf => by
              have := hm.look1 bReads (t := 51) Try.underlying51 (bZero W) (T : Int) HWF.out
              rw [getI_nat _ _ _ (by simp only [NN]; omega), hf] at this
              rw [this]
              have e : (o.pendF T).getD false = true := by
                unfold Or.pendF
                have h2 := HO.out.2
                have : T ≤ o.last := by omega
                simp [hb, this]
              rw [e]
            have HBT : Hid (o.isP T = false) := hb
            clear hb
            have z1 : wd.cell? ⟨X7, 0, none⟩ = some (.pointer (some ⟨B, 0, none⟩)) := c7
            have z2 : wd.cell? ⟨X10, 0, none⟩ = some (.map (some P)) := c10
            have z3 := HLK.out wd.drew _ HD1.out.mp rfl
            have HC : Hid (∀ W, Od w W ⟨w.heap.size, X7, X9, X10, P, B, M⟩ L n o o.pendF ∨ (∃ o', Od w W ⟨w.heap.size, X7, X9, X10, P, B, M⟩ L n o' o.pendF) → W.cell? ⟨X7, 0, none⟩ = some (.pointer (some ⟨B, 0, none⟩)) ∧ W.cell? ⟨X10, 0, none⟩ = some (.map (some P)) ∧ (Instr.lookup 51 (.map (some P)) (.int .i64 (T : Int)) false).run Try.prog W = .ok (.bool true) W) := fun W hW => by
              rcases hW with hW | ⟨o', hW⟩
              · exact ⟨hW.k7.cell 0, hW.k10.cell 0, HLK.out W _ hW.mp rfl⟩
              · exact ⟨hW.k7.cell 0, hW.k10.cell 0, HLK.out W _ hW.mp rfl⟩
            clear c3 c7 c9 c10
            go_wp2_with fail
            go_region_held3 (fun w' => w'.cell? ⟨X7, 0, none⟩ = some (.pointer (some ⟨B, 0, none⟩)) ∧ w'.cell? ⟨X10, 0, none⟩ = some (.map (some P)) ∧ (Instr.lookup 51 (.map (some P)) (.int .i64 (T : Int)) false).run Try.prog w' = .ok (.bool true) w') (go_keep) (first
              | (go_at_call 18; refine (publish_all HD1.out.is HD1.out.ok _ HWF.out).mono ?_; rintro r w8 ⟨x, o', rfl, ht, hp⟩; obtain ⟨rfl, ha2, ha3, ha4, ha5, ha6⟩ : x = 0 ∧ _ := HPA.out x o' hp; have hD8 := HD1.out.ort ht ha6 (fun i hi => ha4 i (HD1.out.low i hi)); obtain ⟨s1, s2, s3⟩ := HC.out w8 (.inr ⟨o', hD8⟩)))
            all_goals
              have hD8m : Mp bElem w8 P NN o.pendF := hD8.mp
              obtain ⟨w9, hdl, hm9, ht9⟩ := hD8m.del (t := 51) Try.underlying51 (T : Int) HWF.out 0
              have HE9 : Hid (Od w w9 ⟨w.heap.size, X7, X9, X10, P, B, M⟩ L n o' o'.pendF ∧ o'.last = L + n) := by
                rw [ha2] at hm9
                exact ⟨hD8.map hm9 ht9, ha3.trans HO.out.2⟩
              have c10 : w8.cell? ⟨X10, 0, none⟩ = some (.map (some P)) := s2
              clear hp ht ha2 ha3 ha4 ha5 ha6 hD8 hD8m hm9 ht9 s1 s3 z1 z2 z3 HC HLK
              go_wp2_with fail
              refine (check_any HE9.out.1 HE9.out.2).mono ?_
              rintro r w10 ⟨rfl, hb10⟩
              have HE10 : Hid (Od w w10 ⟨w.heap.size, X7, X9, X10, P, B, M⟩ L n o' o'.pendF ∧ o'.last = L + n) := ⟨HE9.out.1.blw hb10, HE9.out.2⟩
              clear hb10
              go_wp2
              go_roundw
              case rel => exact ⟨j + 1, o', by omega, by go_num, HE10⟩
              case measure => simp [intOf]; omega
        · have hjn : len = j := by omega
          subst hjn
          clear hlt hj HI
          have c9 : wr.cell? ⟨X9, 0, none⟩ = some (.int .i64 (n : Int)) := HO.out.1.k9.cell 0
          have HO3 : Hid (Od w wr ⟨w.heap.size, X7, X9, X10, P, B, M⟩ L n o o.pendF ∧ o.last = L + n ∧ ∀ i, L + n < i + 0 → i ≤ L + n → o.isP i = true) := ⟨HO.out.1, HO.out.2, fun i h1 h2 => by omega⟩
          go_wp2_with fail
          go_loopw [93] (fun iv wr => ∃ (k : Nat) (o : Or), k ≤ n ∧ iv = .int .i64 (k : Int) ∧ Hid (Od w wr ⟨w.heap.size, X7, X9, X10, P, B, M⟩ L n o o.pendF ∧ o.last = L + n ∧ ∀ i, L + n < i + k → i ≤ L + n → o.isP i = true)) (fun iv _ => n - (intOf iv).toNat)
          case atStart => exact ⟨0, o, Nat.zero_le _, rfl, HO3⟩
          case round =>
            clear HO HO3 c9
            obtain ⟨k, o, hk, rfl, HO⟩ := hrel
            by_cases hlt : k < n
            · have hli : (k : Int) < (n : Int) := by omega
              have c3 : wr.cell? ⟨w.heap.size, 0, none⟩ = some (.int .u32 (L : Int)) := HO.out.1.k3.cell 0
              have c7 : wr.cell? ⟨X7, 0, none⟩ = some (.pointer (some ⟨B, 0, none⟩)) := HO.out.1.k7.cell 0
              have c9 : wr.cell? ⟨X9, 0, none⟩ = some (.int .i64 (n : Int)) := HO.out.1.k9.cell 0
              have c10 : wr.cell? ⟨X10, 0, none⟩ = some (.map (some P)) := HO.out.1.k10.cell 0
              obtain ⟨T, hT⟩ : ∃ T, L + n - k = T := ⟨_, rfl⟩
              have hTi : (L : Int) + (n : Int) - (k : Int) = (T : Int) := by omega
              have hTl : T ≤ L + n := by omega
              have HWF : Hid ((Lit.int .i64 (T : Int)).wf = true) := WalkArith.wf_i64 (by omega)
              have HT : Hid (L + n - k = T) := hT
              clear hT
              go_wp2_with fail
              refine (publish_all HO.out.1.is HO.out.1.ok _ HWF.out).mono ?_
              rintro r w8 ⟨x, o', rfl, ht, hp⟩
              obtain ⟨-, ha2, ha3, ha4, ha5, ha6⟩ := hp.ans HO.out.1.ok (by have := HO.out.2.1; omega)
              have hD8 := HO.out.1.ort ht ha6 (fun i hi => ha4 i (HO.out.1.low i hi))
              have c3 : w8.cell? ⟨w.heap.size, 0, none⟩ = some (.int .u32 (L : Int)) := hD8.k3.cell 0
              have c7 : w8.cell? ⟨X7, 0, none⟩ = some (.pointer (some ⟨B, 0, none⟩)) := hD8.k7.cell 0
              have c9 : w8.cell? ⟨X9, 0, none⟩ = some (.int .i64 (n : Int)) := hD8.k9.cell 0
              have c10 : w8.cell? ⟨X10, 0, none⟩ = some (.map (some P)) := hD8.k10.cell 0
              obtain ⟨w9, hdl, hm9, ht9⟩ := hD8.mp.del (t := 51) Try.underlying51 (T : Int) HWF.out 0
              have HE9 : Hid (Od w w9 ⟨w.heap.size, X7, X9, X10, P, B, M⟩ L n o' o'.pendF ∧ o'.last = L + n ∧ ∀ i, L + n < i + (k + 1) → i ≤ L + n → o'.isP i = true) := by
                rw [ha2] at hm9
                refine ⟨hD8.map hm9 ht9, ha3.trans HO.out.2.1, fun i h1 h2 => ?_⟩
                have hT := HT.out
                by_cases hi : i = T
                · rw [hi]; exact ha5
                · exact ha4 i (HO.out.2.2 i (by omega) h2)
              clear hp ht ha2 ha3 ha4 ha5 ha6 hD8 hm9 ht9
              go_wp2_with fail
              refine (check_any HE9.out.1 HE9.out.2.1).mono ?_
              rintro r w10 ⟨rfl, hb10⟩
              have HE10 : Hid (Od w w10 ⟨w.heap.size, X7, X9, X10, P, B, M⟩ L n o' o'.pendF ∧ o'.last = L + n ∧ ∀ i, L + n < i + (k + 1) → i ≤ L + n → o'.isP i = true) := ⟨HE9.out.1.blw hb10, HE9.out.2⟩
              clear hb10
              go_wp2
              go_roundw
              case rel => exact ⟨k + 1, o', by omega, by go_num, HE10⟩
              case measure => simp [intOf]; omega
            · have hkn : n = k := by omega
              subst hkn
              have hpub : o.pub = o.last := Or.pub_eq HO.out.1.ok (fun i hi => by
                by_cases h1 : i ≤ L
                · exact HO.out.1.low i h1
                · exact HO.out.2.2 i (by omega) (by have := HO.out.2.1; omega)) (Or.isP_above HO.out.1.ok.toOk0 (by omega))
              have c7 : wr.cell? ⟨X7, 0, none⟩ = some (.pointer (some ⟨B, 0, none⟩)) := HO.out.1.k7.cell 0
              have b0 : wr.cell? ⟨B, 0, none⟩ = some (.int .i64 (o.last : Int)) := HO.out.1.is.c0
              have b1 : wr.cell? ⟨B, 1, none⟩ = some (.int .i64 (o.pub : Int)) := HO.out.1.is.c1
              have b2 : wr.cell? ⟨B, 2, none⟩ = some (.map (some M)) := HO.out.1.is.c2
              rw [hpub] at b1
              have HB : Hid (∀ k, Below w.heap.size w (wr.drewN k)) := fun k => (HO.out.1.below).trans ⟨rfl, rfl, rfl, Nat.le_refl _, fun _ _ => rfl⟩
              clear hpub HO
              generalize (o.last : Int) = z at *
              have hz2 : (z == z) = true := by simp
              go_wp2_with fail
              go_quiet (first
                | (go_at_call 12; refine Calls.quiet_of_same (published_any (M := M) (n := z) (by exact b1) (by exact b2)))
                | (go_at_call 11; refine Calls.quiet_of_same (last_any (M := M) (n := z) (by exact b0) (by exact b2))))
              go_wp2
              go_ret
              exact ⟨by simp, HB.out _⟩

set_option maxRecDepth 100000 in
set_option maxHeartbeats 2000000 in
theorem lifted_oracleOrder (os : Os) (started : os.Started) (H : Type) (enc : TypeId × Value → H) :
    ReturnsInHanded {} Try.checked os 5 .any (Rows.oracleOrderSpec.pre6 enc Try.prog Try.f5 Rows.oracleOrderRow.domain false) (Rows.oracleOrderSpec.post enc Try.prog Try.f5 false true false false) := by
  refine returnsInHanded_of_change_sized (C := Try.checked) own started (by kernel_rfl) Try.func5
    (ChangeSpec.witness6 (enc := enc) (C := Try.checked) false ⟨#[], #[.int .u32 0, .int .u8 0, .slice none 0 0], []⟩ 8 (by kernel_rfl) (by kernel_rfl) (by kernel_rfl) (by kernel_rfl)) ?_
  intro W base args ds gs before hval0 hW _ hsz0 _
  have hsz : (DataW.weightsEach Try.prog (Try.f5.params.toList ++ Rows.oracleOrderSpec.plain.varTypes Try.prog) (ds ++ gs)).all (· ≤ reachBytes) = true := hsz0
  clear hsz0
  have hval : ∀ (j : Nat) t v, Try.f5.params[j]? = some t → args[j]? = some v → Value.okWide Try.prog W .any base t v := hval0
  have hW' := hW
  obtain ⟨p, q, hA0, hV, rfl, hfz, hnd⟩ := hW
  have hA : DataW.TrodAll enc Try.prog W 0 (fun _ => true) true Try.f5.params.toList args.toList ds p := hA0
  rw [Try.params5] at hA hval hsz
  obtain ⟨v0, vs0, d0, ds0, p0, q0, hargs, rfl, rfl, h0, r0⟩ := trodAll_cons hA
  obtain ⟨v1, vs1, d1, ds1, p1, q1, rfl, rfl, rfl, h1, r1⟩ := trodAll_cons r0
  obtain ⟨v2, vs2, d2, ds2, p2, q2, rfl, rfl, rfl, h2, r2⟩ := trodAll_cons r1
  obtain ⟨rfl, rfl, rfl⟩ := trodAll_nil r2
  obtain rfl : args = #[v0, v1, v2] := by cases args; simp_all
  obtain ⟨rfl, rfl⟩ := trodVars_none hV
  obtain ⟨a0, rfl, rfl, rfl, w0⟩ := open_int Try.underlying49 (hval 0 49 v0 rfl rfl) h0
  obtain ⟨a1, rfl, rfl, rfl, w1⟩ := open_int Try.underlying5 (hval 1 5 v1 rfl rfl) h1
  obtain ⟨a2, len2, cap2, rfl⟩ := okWide_slice Try.underlying50 (hval 2 50 v2 rfl rfl)
  have k2 := h2
  have lt2 : ∀ x ∈ p2, x.block < W.heap.size := by obtain ⟨m, hm⟩ := k2; exact DataW.trod_lt m _ _ _ hm
  obtain ⟨z2, w2⟩ : ∃ l, InU W a2 len2 cap2 l := by
    refine in_u8s h2 fun n hn => ?_
    have := of_decide_eq_true (List.all_eq_true.1 hsz _ (DataW.weights_mem_each (j := 2) (t := 50) rfl rfl n hn))
    simp only [reachBytes] at this
    omega
  clear hA0 hval0
  refine (walk_oracleOrder a0 a1 a2 len2 cap2 z2 W w0 w1 w2).mono fun e W' ⟨he, bel⟩ => ?_
  subst he
  exact ⟨_, rfl, _, _, _, [], _, [], hW', trodAll_mk1 (shut_bool Try.underlying4 _), (trodAll_cons_mk (shut_int Try.underlying49 w0) (trodAll_cons_mk (shut_int Try.underlying5 w1) (trodAll_cons_mk (Below.trod laidOut (by kernel_rfl) (of_decide_eq_true (by kernel_rfl)) k2 bel lt2) trodAll_mk0))), rfl, bel.frame _, fun h => by cases h⟩

/-- The statement. -/
theorem oracleOrder_holds : Rows.OracleOrderSaid :=
  OpenClaim.holds_of_wide 5 Try.f5 rfl rfl rfl rfl rfl rfl rfl ⟨rfl, rfl, rfl, rfl, rfl⟩ rfl rfl rfl rfl rfl (by kernel_rfl) Try.func5 (by kernel_rfl)
    (of_decide_eq_true (by kernel_rfl)) (by unfold Func.isWrapper; first | (rw [if_pos (by decide +kernel)]; kernel_rfl) | (rw [if_neg (by decide +kernel)]; exact ⟨rfl, rfl⟩))
    (fun os started H enc _ => lifted_oracleOrder os started H enc)
#print axioms oracleOrder_holds
end Go.Proofs.Ytdgphlghmjnjfaa
