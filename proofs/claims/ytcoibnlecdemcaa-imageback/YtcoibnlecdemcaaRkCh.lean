/- What is wrong with a chunk: the code's and the document's. -/
import Derived.Test.YtcoibnlecdemcaaRkCom2
namespace Go.Proofs.Ytcoibnlecdemcaa.Rk
open Go.RowKit
set_option linter.unusedVariables false
set_option maxRecDepth 100000

theorem Rc.chE_bad {n : Int} {l : List St} (h : n < 0 ∨ 4095 < n ∨ 16 < l.length) : Rc.chE n l = 32 := by unfold Rc.chE; rw [if_pos h]
theorem Rc.chE_good {n : Int} {l : List St} (h : ¬ (n < 0 ∨ 4095 < n ∨ 16 < l.length)) : Rc.chE n l = Rc.stsE .empty l := by unfold Rc.chE; rw [if_neg h]

theorem box_chunk (w : World) (n : Int) (s : Value) (d : Bool) : Below w.heap.size w (w.alloc (.cells #[.int .i64 n, s, .bool d] 71)) := (Below.refl _ _).alloc (Nat.le_refl _) _

set_option maxHeartbeats 1000000 in
theorem checkChunk_any (n : Int) (p : Option Addr) (len cap : Nat) (l : List St) (d : Bool) (w : World) (hin : InS w p len cap l) :
    Calls Try.prog 59 #[.agg #[.int .i64 n, .slice p len cap, .bool d]] w fun e w' => e = .returned (.int .i64 (Rc.chE n l)) ∧ Below w.heap.size w w' := by
  have HI : Hid (InS w p len cap l) := hin
  have HL : Hid (l.length = len) := hin.lenq
  clear hin
  have HB : Hid (Below w.heap.size w (w.alloc (.cells #[.int .i64 n, .slice p len cap, .bool d] 71))) := box_chunk w n _ _
  go_enter Try.func59, Try.ntmps59
  go_wp2_with fail
  refine (within_any n 0 4095 _).mono ?_
  rintro e w1 ⟨rfl, rfl⟩
  by_cases h1 : n < 0 ∨ 4095 < n
  · have hi : Rc.inn 0 n 4095 = false := by unfold Rc.inn; simp; omega
    have HE : Hid (Rc.chE n l = 32) := Rc.chE_bad (by omega)
    clear h1
    rw [hi]
    go_wp2
    go_ret
    exact ⟨by rw [HE.out]; rfl, HB.out⟩
  · have hi : Rc.inn 0 n 4095 = true := by unfold Rc.inn; simp; omega
    rw [hi]
    by_cases h3 : 16 < len
    · have HE : Hid (Rc.chE n l = 32) := Rc.chE_bad (by have := HL.out; omega)
      have hl1 : decide ((16 : Int) < (len : Int)) = true := by simp; omega
      clear h1
      go_wp2
      go_ret
      exact ⟨by rw [HE.out]; rfl, HB.out⟩
    · have HE : Hid (Rc.chE n l = Rc.stsE .empty l) := Rc.chE_good (by have := HL.out; omega)
      have hl1 : decide ((16 : Int) < (len : Int)) = false := by simp; omega
      clear h1
      go_wp2_with fail
      go_loopw [3, 20] (fun ah i wr => ∃ (k : Nat) (a : ByteArray), k ≤ len ∧ i = .int .i64 k ∧ ah = .string a ∧ Hid (Below w.heap.size w wr) ∧ Hid (Rc.stsE .empty l = Rc.stsE a (l.drop k))) (fun _ i _ => len - (intOf i).toNat)
      case atStart => exact ⟨0, .empty, Nat.zero_le _, rfl, rfl, HB, by simp [Hid]⟩
      case round =>
        obtain ⟨k, a, hk, rfl, rfl, HW, HQ⟩ := hrel
        by_cases hlt : k < len
        · have hli : (k : Int) < (len : Int) := by omega
          have HI1 : Hid (InS wr p len cap l) := HI.out.up HW.out
          obtain ⟨b, o, g, rfl, hg, hblt, c0, c1, c2⟩ := HI1.out.at hlt
          have HG : Hid (l.drop k = g :: l.drop (k + 1)) := Rc.drop_at hg
          have HB5 : Hid (Below w.heap.size w (wr.alloc (.cells g.cells.toArray 52))) := HW.out.alloc HW.out.size _
          clear hg
          go_wp2_with fail
          refine (pair_any g.key g.val _).mono ?_
          rintro e w6 ⟨rfl, hw6⟩
          by_cases he : Rc.pairE g.key g.val = 0
          · have hw60 : w6.cell? ⟨wr.heap.size, 0, none⟩ = some (.string g.key) := by
              rw [hw6]
              exact (Bk.new wr 52 g.cells.toArray).cell 0
            have hw62 : w6.cell? ⟨wr.heap.size, 2, none⟩ = some (.int .i64 g.ts) := by
              rw [hw6]
              exact (Bk.new wr 52 g.cells.toArray).cell 2
            have HB6 : Hid (Below w.heap.size w w6) := by rw [hw6]; exact HB5.out
            have hne : (Rc.pairE g.key g.val != 0) = false := by simpa using he
            have HE0 : Hid (Rc.pairE g.key g.val = 0) := he
            clear he hw6 c0 c1 c2
            go_wp2_with fail
            refine (within_any g.ts 1 1099511627776 _).mono ?_
            rintro e w7 ⟨rfl, hw7⟩
            subst hw7
            by_cases ht : g.ts < 1 ∨ 1099511627776 < g.ts
            · have hi2 : Rc.inn 1 g.ts 1099511627776 = false := by unfold Rc.inn; simp; omega
              have HF : Hid (Rc.chE n l = 32) := by unfold Hid; rw [HE.out, HQ.out, HG.out, Rc.stsE, if_pos HE0.out, if_pos (by omega)]
              clear ht
              rw [hi2]
              go_wp2
              go_ret
              exact ⟨by rw [HF.out]; rfl, HB6.out⟩
            · have hi2 : Rc.inn 1 g.ts 1099511627776 = true := by unfold Rc.inn; simp; omega
              rw [hi2]
              by_cases hle : Rc.le g.key a = true
              · have hle2 : (Op.bytesLess g.key.toList a.toList || g.key.toList == a.toList) = true := hle
                have HF : Hid (Rc.chE n l = 32) := by unfold Hid; rw [HE.out, HQ.out, HG.out, Rc.stsE, if_pos HE0.out, if_pos (.inr (.inr hle))]
                clear hle ht
                go_wp2
                go_ret
                exact ⟨by rw [HF.out]; rfl, HB6.out⟩
              · have hle2 : (Op.bytesLess g.key.toList a.toList || g.key.toList == a.toList) = false := (Bool.not_eq_true _).mp hle
                have HF : Hid (Rc.stsE .empty l = Rc.stsE g.key (l.drop (k + 1))) := by
                  unfold Hid
                  rw [HQ.out, HG.out, Rc.stsE, if_pos HE0.out, if_neg]
                  rintro (h | h | h)
                  · exact ht (.inl h)
                  · exact ht (.inr h)
                  · exact hle h
                clear hle ht
                go_wp2
                go_roundw
                case rel => exact ⟨k + 1, g.key, by omega, by go_num, rfl, HB6, HF⟩
                case measure => simp [intOf]; omega
          · have HB6 : Hid (Below w.heap.size w w6) := by rw [hw6]; exact HB5.out
            have hne : (Rc.pairE g.key g.val != 0) = true := by simpa using he
            have HF : Hid (Rc.chE n l = Rc.pairE g.key g.val) := by unfold Hid; rw [HE.out, HQ.out, HG.out, Rc.stsE, if_neg he]
            clear he hw6 c0 c1 c2
            go_wp2
            go_ret
            exact ⟨by rw [HF.out]; rfl, HB6.out⟩
        · have hkk : k = len := by omega
          have hli : ¬ ((k : Int) < (len : Int)) := by omega
          have HF : Hid (Rc.chE n l = 0) := by unfold Hid; rw [HE.out, HQ.out, List.drop_eq_nil_of_le (by have := HL.out; omega), Rc.stsE]
          clear hkk
          go_wp2
          go_ret
          exact ⟨by rw [HF.out]; rfl, HW.out⟩

set_option maxHeartbeats 2000000 in
theorem rcheckChunk_any (n : Int) (p : Option Addr) (len cap : Nat) (l : List St) (d : Bool) (w : World) (hin : InS w p len cap l) :
    Calls Try.prog 43 #[.agg #[.int .i64 n, .slice p len cap, .bool d]] w fun e w' => e = .returned (.int .i64 (Rc.chE n l)) ∧ Below w.heap.size w w' := by
  have HI : Hid (InS w p len cap l) := hin
  have HL : Hid (l.length = len) := hin.lenq
  clear hin
  have HB : Hid (Below w.heap.size w (w.alloc (.cells #[.int .i64 n, .slice p len cap, .bool d] 71))) := box_chunk w n _ _
  have HK : Hid (Bk (w.alloc (.cells #[.int .i64 n, .slice p len cap, .bool d] 71)) w.heap.size 71 #[.int .i64 n, .slice p len cap, .bool d]) := Bk.new _ _ _
  by_cases h1 : n < 0
  · have HE : Hid (Rc.chE n l = 32) := Rc.chE_bad (by omega)
    have hi : decide (n < 0) = true := by simpa using h1
    clear h1
    go_enter Try.func43, Try.ntmps43
    go_wp2
    go_ret
    exact ⟨by rw [HE.out]; rfl, HB.out⟩
  by_cases h2 : 4095 < n
  · have HE : Hid (Rc.chE n l = 32) := Rc.chE_bad (by omega)
    have hi : decide (n < 0) = false := by simpa using h1
    have hi2 : decide (4096 ≤ n) = true := by simp; omega
    clear h1 h2
    go_enter Try.func43, Try.ntmps43
    go_wp2
    go_ret
    exact ⟨by rw [HE.out]; rfl, HB.out⟩
  have hi : decide (n < 0) = false := by simpa using h1
  have hi2 : decide (4096 ≤ n) = false := by simp; omega
  by_cases h3 : 16 < len
  · have HE : Hid (Rc.chE n l = 32) := Rc.chE_bad (by have := HL.out; omega)
    have hl1 : decide ((16 : Int) < (len : Int)) = true := by simp; omega
    clear h1 h2
    go_enter Try.func43, Try.ntmps43
    go_wp2
    go_ret
    exact ⟨by rw [HE.out]; rfl, HB.out⟩
  have HE : Hid (Rc.chE n l = Rc.stsE .empty l) := Rc.chE_good (by have := HL.out; omega)
  have hl1 : decide ((16 : Int) < (len : Int)) = false := by simp; omega
  clear h1 h2
  go_enter Try.func43, Try.ntmps43
  go_wp2_with fail
  go_loopw [3] (fun i wr => ∃ (k : Nat) (a : ByteArray), k ≤ len ∧ i = .int .i64 k ∧ Hid (Below w.heap.size w wr) ∧ Hid (Bk wr w.heap.size 71 #[.int .i64 n, .slice p len cap, .bool d]) ∧ Hid (Ahead (l.map St.key) k a) ∧ Hid (Rc.stsE .empty l = Rc.stsE a (l.drop k))) (fun i _ => len - (intOf i).toNat)
  case atStart => exact ⟨0, .empty, Nat.zero_le _, rfl, HB, HK, ⟨fun _ => rfl, fun j hj => by omega⟩, by simp [Hid]⟩
  case round =>
    obtain ⟨k, a, hk, rfl, HW, HK1, HA, HQ⟩ := hrel
    have ck : wr.cell? ⟨w.heap.size, 1, none⟩ = some (.slice p len cap) := HK1.out.cell 1
    by_cases hlt : k < len
    · have hli : (k : Int) < (len : Int) := by omega
      have HI1 : Hid (InS wr p len cap l) := HI.out.up HW.out
      obtain ⟨b, o, g, rfl, hg, hblt, c0, c1, c2⟩ := HI1.out.at hlt
      have HG : Hid (l.drop k = g :: l.drop (k + 1)) := Rc.drop_at hg
      have HG2 : Hid (l[k]? = some g) := hg
      clear hg
      have hb6 : Below wr.heap.size wr (wr.alloc (.cells g.cells.toArray 52)) := (Below.refl _ _).alloc (Nat.le_refl _) _
      have HB6 : Hid (Below w.heap.size w (wr.alloc (.cells g.cells.toArray 52))) := HW.out.trans (hb6.mono HW.out.size)
      have HK6 : Hid (Bk (wr.alloc (.cells g.cells.toArray 52)) w.heap.size 71 #[.int .i64 n, .slice (some ⟨b, o, none⟩) len cap, .bool d]) := HK1.out.below hb6 HK1.out.lt
      have HS6 : Hid (Bk (wr.alloc (.cells g.cells.toArray 52)) wr.heap.size 52 g.cells.toArray) := Bk.new _ _ _
      clear hb6
      go_wp2_with fail
      refine (rkey_any g.key _).mono ?_
      rintro e w6 ⟨rfl, hw6⟩
      have HB6 : Hid (Below w.heap.size w w6) := by rw [hw6]; exact HB6.out
      have HK6 : Hid (Bk w6 w.heap.size 71 #[.int .i64 n, .slice (some ⟨b, o, none⟩) len cap, .bool d]) := by rw [hw6]; exact HK6.out
      have HS6 : Hid (Bk w6 wr.heap.size 52 g.cells.toArray) := by rw [hw6]; exact HS6.out
      have ck6 : w6.cell? ⟨w.heap.size, 1, none⟩ = some (.slice (some ⟨b, o, none⟩) len cap) := HK6.out.cell 1
      have s0 : w6.cell? ⟨wr.heap.size, 0, none⟩ = some (.string g.key) := HS6.out.cell 0
      have s1 : w6.cell? ⟨wr.heap.size, 1, none⟩ = some (.string g.val) := HS6.out.cell 1
      have s2 : w6.cell? ⟨wr.heap.size, 2, none⟩ = some (.int .i64 g.ts) := HS6.out.cell 2
      clear ck c0 c1 c2 hw6 hblt
      by_cases he : Rc.keyE g.key = 0
      · have hne : (Rc.keyE g.key != 0) = false := by simpa using he
        have HE0 : Hid (Rc.keyE g.key = 0) := he
        clear he
        go_wp2_with fail
        refine (rval_any g.val _).mono ?_
        rintro e w8 ⟨rfl, hw8⟩
        subst hw8
        by_cases he2 : Rc.valE g.val = 0
        · have hne2 : (Rc.valE g.val != 0) = false := by simpa using he2
          have HE1 : Hid (Rc.pairE g.key g.val = 0) := by unfold Hid Rc.pairE; rw [if_pos HE0.out]; exact he2
          clear he2
          by_cases ht : g.ts < 1 ∨ 1099511627776 < g.ts
          · have hi3 : Rc.inn 1 g.ts 1099511627776 = false := by unfold Rc.inn; simp; omega
            have HF : Hid (Rc.chE n l = 32) := by unfold Hid; rw [HE.out, HQ.out, HG.out, Rc.stsE, if_pos HE1.out, if_pos (by omega)]
            clear ht
            go_wp2_with fail
            go_quiet (first | (go_at_call 62; refine Calls.quiet_of_same (rts_any g.ts _); try rw [hi3]))
            have HB7 : Hid (Below w.heap.size w (w8.drewN nq)) := below_drewN HB6.out nq
            clear HB6 HK6 HS6 ck6 s0 s1 s2
            generalize w8.drewN nq = w7 at *
            go_wp2
            go_ret
            exact ⟨by rw [HF.out]; rfl, HB7.out⟩
          · have hi3 : Rc.inn 1 g.ts 1099511627776 = true := by unfold Rc.inn; simp; omega
            cases k with
            | zero =>
              have HF : Hid (Rc.stsE .empty l = Rc.stsE g.key (l.drop (0 + 1))) := by
                unfold Hid
                rw [HQ.out, HG.out, Rc.stsE, if_pos HE1.out, HA.out.1 rfl, Rc.le_empty (Rc.keyE_ne HE0.out), if_neg]
                rintro (h | h | h)
                · exact ht (.inl h)
                · exact ht (.inr h)
                · cases h
              clear ht
              go_wp2_with fail
              go_quiet (first | (go_at_call 62; refine Calls.quiet_of_same (rts_any g.ts _); try rw [hi3]))
              have HB7 : Hid (Below w.heap.size w (w8.drewN nq)) := below_drewN HB6.out nq
              have HK7 : Hid (Bk (w8.drewN nq) w.heap.size 71 #[.int .i64 n, .slice (some ⟨b, o, none⟩) len cap, .bool d]) := HK6.out.below (below_drewN (Below.refl _ _) nq) HK6.out.lt
              clear HB6 HK6 HS6 ck6 s0 s1 s2
              generalize w8.drewN nq = w7 at *
              go_wp2
              go_roundw
              case rel => exact ⟨1, g.key, by omega, by go_num, HB7, HK7, Ahead.next HG2.out, HF⟩
              case measure => simp [intOf]; omega
            | succ j =>
              have hli2 : (j : Int) < (len : Int) := by omega
              obtain ⟨b', o', g', hp', hg', -, d1, -, -⟩ := (HI.out.up HB6.out).at (show j < len by omega)
              cases hp'
              have ha : a = g'.key := by
                have := HA.out.2 j rfl
                rw [List.getElem?_map, hg'] at this
                simpa using this.symm
              subst ha
              clear hg'
              by_cases hle : Rc.le g.key g'.key = true
              · have hle2 : (Op.bytesLess g.key.toList g'.key.toList || g.key.toList == g'.key.toList) = true := hle
                have HF : Hid (Rc.chE n l = 32) := by unfold Hid; rw [HE.out, HQ.out, HG.out, Rc.stsE, if_pos HE1.out, if_pos (.inr (.inr hle))]
                clear hle ht
                go_wp2_with fail
                go_quiet (first | (go_at_call 62; refine Calls.quiet_of_same (rts_any g.ts _); try rw [hi3]))
                have HB7 : Hid (Below w.heap.size w (w8.drewN nq)) := below_drewN HB6.out nq
                clear HB6 HK6 HS6 ck6 s0 s1 s2 d1
                generalize w8.drewN nq = w7 at *
                go_wp2
                go_ret
                exact ⟨by rw [HF.out]; rfl, HB7.out⟩
              · have hle2 : (Op.bytesLess g.key.toList g'.key.toList || g.key.toList == g'.key.toList) = false := (Bool.not_eq_true _).mp hle
                have HF : Hid (Rc.stsE .empty l = Rc.stsE g.key (l.drop (j + 1 + 1))) := by
                  unfold Hid
                  rw [HQ.out, HG.out, Rc.stsE, if_pos HE1.out, if_neg]
                  rintro (h | h | h)
                  · exact ht (.inl h)
                  · exact ht (.inr h)
                  · exact hle h
                clear hle ht
                go_wp2_with fail
                go_quiet (first | (go_at_call 62; refine Calls.quiet_of_same (rts_any g.ts _); try rw [hi3]))
                have HB7 : Hid (Below w.heap.size w (w8.drewN nq)) := below_drewN HB6.out nq
                have HK7 : Hid (Bk (w8.drewN nq) w.heap.size 71 #[.int .i64 n, .slice (some ⟨b, o, none⟩) len cap, .bool d]) := HK6.out.below (below_drewN (Below.refl _ _) nq) HK6.out.lt
                clear HB6 HK6 HS6 ck6 s0 s1 s2 d1
                generalize w8.drewN nq = w7 at *
                go_wp2
                go_roundw
                case rel => exact ⟨j + 2, g.key, by omega, by go_num, HB7, HK7, Ahead.next HG2.out, HF⟩
                case measure => simp [intOf]; omega
        · have hne2 : (Rc.valE g.val != 0) = true := by simpa using he2
          have HF : Hid (Rc.chE n l = Rc.valE g.val) := by unfold Hid; rw [HE.out, HQ.out, HG.out, Rc.stsE, Rc.pairE, if_pos HE0.out, if_neg he2]
          clear he2 ck6 s0 s1 s2
          go_wp2
          go_ret
          exact ⟨by rw [HF.out]; rfl, HB6.out⟩
      · have hne : (Rc.keyE g.key != 0) = true := by simpa using he
        have HF : Hid (Rc.chE n l = Rc.keyE g.key) := by unfold Hid; rw [HE.out, HQ.out, HG.out, Rc.stsE, Rc.pairE, if_neg he, if_neg he]
        clear he ck6 s0 s1 s2
        go_wp2
        go_ret
        exact ⟨by rw [HF.out]; rfl, HB6.out⟩
    · have hkk : k = len := by omega
      have hli : ¬ ((k : Int) < (len : Int)) := by omega
      have HF : Hid (Rc.chE n l = 0) := by unfold Hid; rw [HE.out, HQ.out, List.drop_eq_nil_of_le (by have := HL.out; omega), Rc.stsE]
      clear hkk
      go_wp2
      go_ret
      exact ⟨by rw [HF.out]; rfl, HW.out⟩

end Go.Proofs.Ytcoibnlecdemcaa.Rk
