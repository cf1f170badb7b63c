/- What is wrong with a commit: the document's. -/
import Derived.Test.YtcoibnlecdemcaaRkCom
import Derived.Deep.QuietTactic
import Derived.BigQuiet
namespace Go.Proofs.Ytcoibnlecdemcaa.Rk
open Go.RowKit
set_option linter.unusedVariables false
set_option maxRecDepth 100000

/-- What a loop over rising keys knows of the key ahead. -/
def Ahead (l : List ByteArray) (k : Nat) (a : ByteArray) : Prop := (k = 0 → a = .empty) ∧ ∀ j, k = j + 1 → l[j]? = some a

theorem Ahead.next {α : Type} {l : List α} {f : α → ByteArray} {k : Nat} {g : α} (h : l[k]? = some g) : Ahead (l.map f) (k + 1) (f g) := by
  refine ⟨fun h => by omega, fun j hj => ?_⟩
  obtain rfl : k = j := by omega
  rw [List.getElem?_map, h]
  rfl

set_option maxHeartbeats 1000000 in
theorem rcheckCommit_any (ts : Int) (p : Option Addr) (len cap : Nat) (l : List Wr) (w : World) (hin : InW w p len cap l) :
    Calls Try.prog 47 #[.agg #[.int .i64 ts, .slice p len cap]] w fun e w' => e = .returned (.int .i64 (Rc.comE ts l)) ∧ Below w.heap.size w w' := by
  have HI : Hid (InW w p len cap l) := hin
  have HL : Hid (l.length = len) := hin.lenq
  clear hin
  have HB : Hid (Below w.heap.size w (w.alloc (.cells #[.int .i64 ts, .slice p len cap] 81))) := box_commit w ts _
  have HK : Hid (Bk (w.alloc (.cells #[.int .i64 ts, .slice p len cap] 81)) w.heap.size 81 #[.int .i64 ts, .slice p len cap]) := Bk.new _ _ _
  go_enter Try.func47, Try.ntmps47
  go_wp2_with fail
  refine (rts_any ts _).mono ?_
  rintro e w1 ⟨rfl, rfl⟩
  by_cases h1 : ts < 1 ∨ 1099511627776 < ts
  · have hi : Rc.inn 1 ts 1099511627776 = false := by unfold Rc.inn; simp; omega
    have HE : Hid (Rc.comE ts l = 32) := Rc.comE_bad (by omega)
    clear h1
    rw [hi]
    go_wp2
    go_ret
    exact ⟨by rw [HE.out]; rfl, HB.out⟩
  · have hi : Rc.inn 1 ts 1099511627776 = true := by unfold Rc.inn; simp; omega
    rw [hi]
    by_cases h2 : len = 0
    · have HE : Hid (Rc.comE ts l = 32) := Rc.comE_bad (by have := HL.out; omega)
      clear h1
      subst h2
      go_wp2
      go_ret
      exact ⟨by rw [HE.out]; rfl, HB.out⟩
    · have hl0 : decide ((len : Int) < 1) = false := by simp; omega
      by_cases h3 : 64 < len
      · have HE : Hid (Rc.comE ts l = 32) := Rc.comE_bad (by have := HL.out; omega)
        have hl1 : decide ((64 : Int) < (len : Int)) = true := by simp; omega
        clear h1
        go_wp2
        go_ret
        exact ⟨by rw [HE.out]; rfl, HB.out⟩
      · have HE : Hid (Rc.comE ts l = Rc.wsE .empty l) := Rc.comE_good (by have := HL.out; omega)
        have hl1 : decide ((64 : Int) < (len : Int)) = false := by simp; omega
        clear h1
        go_wp2_with fail
        go_loopw [3] (fun i wr => ∃ (k : Nat) (a : ByteArray), k ≤ len ∧ i = .int .i64 k ∧ Hid (Below w.heap.size w wr) ∧ Hid (Bk wr w.heap.size 81 #[.int .i64 ts, .slice p len cap]) ∧ Hid (Ahead (l.map Wr.key) k a) ∧ Hid (Rc.wsE .empty l = Rc.wsE a (l.drop k))) (fun i _ => len - (intOf i).toNat)
        case atStart => exact ⟨0, .empty, Nat.zero_le _, rfl, HB, HK, ⟨fun _ => rfl, fun j hj => by omega⟩, by simp [Hid]⟩
        case round =>
          obtain ⟨k, a, hk, rfl, HW, HK1, HA, HQ⟩ := hrel
          have ck : wr.cell? ⟨w.heap.size, 1, none⟩ = some (.slice p len cap) := HK1.out.cell 1
          by_cases hlt : k < len
          · have hli : (k : Int) < (len : Int) := by omega
            have HI1 : Hid (InW wr p len cap l) := HI.out.up HW.out
            obtain ⟨b, o, g, rfl, hg, hblt, c0, c1, c2⟩ := HI1.out.at hlt
            have HG : Hid (l.drop k = g :: l.drop (k + 1)) := Rc.drop_at hg
            have HG2 : Hid (l[k]? = some g) := hg
            clear hg
            go_wp2_with fail
            refine (rcheckWrite_any g _).mono ?_
            rintro e w6 ⟨rfl, hb6⟩
            have HB6 : Hid (Below w.heap.size w w6) := HW.out.trans (hb6.mono HW.out.size)
            have HK6 : Hid (Bk w6 w.heap.size 81 #[.int .i64 ts, .slice (some ⟨b, o, none⟩) len cap]) := HK1.out.below hb6 HK1.out.lt
            have ck6 : w6.cell? ⟨w.heap.size, 1, none⟩ = some (.slice (some ⟨b, o, none⟩) len cap) := HK6.out.cell 1
            have d0 : w6.cell? ⟨b, o + k * 3, none⟩ = some (.string g.key) := by rw [hb6.cell (p := ⟨b, o + k * 3, none⟩) hblt]; exact c0
            clear ck c0 c1 c2 hb6 hblt
            by_cases he : Rc.wrE g = 0
            · have hne : (Rc.wrE g != 0) = false := by simpa using he
              have HE0 : Hid (Rc.wrE g = 0) := he
              clear he
              cases k with
              | zero =>
                have HF : Hid (Rc.wsE .empty l = Rc.wsE g.key (l.drop (0 + 1))) := by
                  unfold Hid
                  rw [HQ.out, HG.out, Rc.wsE, if_pos HE0.out, HA.out.1 rfl, Rc.le_empty (Rc.keyE_ne (Rc.pairE_key (Rc.wrE_pair HE0.out)).1)]
                  simp
                go_wp2_with fail
                go_quiet (fail)
                have HB7 : Hid (Below w.heap.size w (w6.drewN nq)) := below_drewN HB6.out nq
                have HK7 : Hid (Bk (w6.drewN nq) w.heap.size 81 #[.int .i64 ts, .slice (some ⟨b, o, none⟩) len cap]) := HK6.out.below (below_drewN (Below.refl _ _) nq) HK6.out.lt
                clear HB6 HK6 ck6 d0
                generalize w6.drewN nq = w7 at *
                go_wp2
                go_roundw
                case rel => exact ⟨1, g.key, by omega, by go_num, HB7, HK7, Ahead.next HG2.out, HF⟩
                case measure => simp [intOf]; omega
              | succ j =>
                have hli2 : (j : Int) < (len : Int) := by omega
                have hj0 : (0 : Int) ≤ (j : Int) + 1 - 1 := by omega
                obtain ⟨b', o', g', hp', hg', -, d1, -, -⟩ := (HI.out.up HB6.out).at (show j < len by omega)
                cases hp'
                have ha : a = g'.key := by
                  have := HA.out.2 j rfl
                  rw [List.getElem?_map, hg'] at this
                  simpa using this.symm
                subst ha
                clear hg'
                by_cases hle : Rc.le g.key g'.key = true
                · have hle2 : (Op.bytesLess g.key.toList g'.key.toList || g.key.toList == g'.key.toList) = true := hle
                  have HF : Hid (Rc.comE ts l = 32) := by unfold Hid; rw [HE.out, HQ.out, HG.out, Rc.wsE, if_pos HE0.out, if_pos hle]
                  clear hle
                  go_wp2_with fail
                  go_quiet (fail)
                  have HB7 : Hid (Below w.heap.size w (w6.drewN nq)) := below_drewN HB6.out nq
                  clear HB6 HK6 ck6 d0 d1
                  generalize w6.drewN nq = w7 at *
                  go_wp2
                  go_ret
                  exact ⟨by rw [HF.out]; rfl, HB7.out⟩
                · have hle2 : (Op.bytesLess g.key.toList g'.key.toList || g.key.toList == g'.key.toList) = false := (Bool.not_eq_true _).mp hle
                  have HF : Hid (Rc.wsE .empty l = Rc.wsE g.key (l.drop (j + 1 + 1))) := by unfold Hid; rw [HQ.out, HG.out, Rc.wsE, if_pos HE0.out, if_neg hle]
                  clear hle
                  go_wp2_with fail
                  go_quiet (fail)
                  have HB7 : Hid (Below w.heap.size w (w6.drewN nq)) := below_drewN HB6.out nq
                  have HK7 : Hid (Bk (w6.drewN nq) w.heap.size 81 #[.int .i64 ts, .slice (some ⟨b, o, none⟩) len cap]) := HK6.out.below (below_drewN (Below.refl _ _) nq) HK6.out.lt
                  clear HB6 HK6 ck6 d0 d1
                  generalize w6.drewN nq = w7 at *
                  go_wp2
                  go_roundw
                  case rel => exact ⟨j + 2, g.key, by omega, by go_num, HB7, HK7, Ahead.next HG2.out, HF⟩
                  case measure => simp [intOf]; omega
            · have hne : (Rc.wrE g != 0) = true := by simpa using he
              have HF : Hid (Rc.comE ts l = Rc.wrE g) := by unfold Hid; rw [HE.out, HQ.out, HG.out, Rc.wsE, if_neg he]
              clear he d0 ck6
              go_wp2
              go_ret
              exact ⟨by rw [HF.out]; rfl, HB6.out⟩
          · have hkk : k = len := by omega
            have hli : ¬ ((k : Int) < (len : Int)) := by omega
            have HF : Hid (Rc.comE ts l = 0) := by unfold Hid; rw [HE.out, HQ.out, List.drop_eq_nil_of_le (by have := HL.out; omega), Rc.wsE]
            clear hkk
            go_wp2
            go_ret
            exact ⟨by rw [HF.out]; rfl, HW.out⟩

end Go.Proofs.Ytcoibnlecdemcaa.Rk
