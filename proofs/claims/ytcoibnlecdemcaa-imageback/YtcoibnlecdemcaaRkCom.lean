/- What is wrong with a commit: the code's and the document's. -/
import Derived.Test.YtcoibnlecdemcaaRkChk
namespace Go.Proofs.Ytcoibnlecdemcaa.Rk
open Go.RowKit
set_option linter.unusedVariables false
set_option maxRecDepth 100000

set_option maxHeartbeats 400000 in
theorem rcheckWrite_any (x : Wr) (w : World) : Calls Try.prog 71 #[.agg x.cells.toArray] w fun e w' => e = .returned (.int .i64 (Rc.wrE x)) ∧ Below w.heap.size w w' := by
  obtain ⟨k, v, d⟩ := x
  unfold Wr.cells
  have hn := Rc.nil_iff v
  have hb : Below w.heap.size w (w.alloc (.cells #[.string k, .string v, .bool d] 78)) := (Below.refl _ _).alloc (Nat.le_refl _) _
  go_enter Try.func71, Try.ntmps71
  go_wp2_with fail
  refine (rkey_any k _).mono ?_
  rintro e w1 ⟨rfl, rfl⟩
  by_cases h : Rc.keyE k = 0
  · have hp : (Rc.keyE k != 0) = false := by simpa using h
    have HK : Hid (Rc.keyE k = 0) := h
    clear h
    go_wp2_with fail
    refine (rval_any v _).mono ?_
    rintro e w2 ⟨rfl, rfl⟩
    by_cases h2 : Rc.valE v = 0
    · have hp2 : (Rc.valE v != 0) = false := by simpa using h2
      have HW : Hid (Rc.wrE ⟨k, v, d⟩ = if d = true ∧ v.size ≠ 0 then 32 else 0) := by unfold Hid Rc.wrE Rc.pairE; rw [if_pos HK.out, if_pos h2]
      clear h2
      cases d
      all_goals go_wp2
      all_goals go_ret
      all_goals (rw [HW.out]; refine ⟨?_, hb⟩; simp_all)
    · have hp2 : (Rc.valE v != 0) = true := by simpa using h2
      have HW : Hid (Rc.wrE ⟨k, v, d⟩ = Rc.valE v) := by unfold Hid Rc.wrE Rc.pairE; rw [if_pos HK.out, if_neg h2]
      clear h2
      go_wp2
      go_ret
      exact ⟨by rw [HW.out]; rfl, hb⟩
  · have hp : (Rc.keyE k != 0) = true := by simpa using h
    have HW : Hid (Rc.wrE ⟨k, v, d⟩ = Rc.keyE k) := by unfold Hid Rc.wrE Rc.pairE; rw [if_neg h, if_neg h]
    clear h
    go_wp2
    go_ret
    exact ⟨by rw [HW.out]; rfl, hb⟩

theorem Rc.drop_at {α : Type} {l : List α} {k : Nat} {g : α} (h : l[k]? = some g) : l.drop k = g :: l.drop (k + 1) := by
  obtain ⟨hk, rfl⟩ := List.getElem?_eq_some_iff.1 h
  exact List.drop_eq_getElem_cons hk

theorem Rc.comE_bad {ts : Int} {l : List Wr} (h : ts < 1 ∨ 1099511627776 < ts ∨ l.length = 0 ∨ 64 < l.length) : Rc.comE ts l = 32 := by unfold Rc.comE; rw [if_pos h]
theorem Rc.comE_good {ts : Int} {l : List Wr} (h : ¬ (ts < 1 ∨ 1099511627776 < ts ∨ l.length = 0 ∨ 64 < l.length)) : Rc.comE ts l = Rc.wsE .empty l := by unfold Rc.comE; rw [if_neg h]

theorem box_commit (w : World) (ts : Int) (s : Value) : Below w.heap.size w (w.alloc (.cells #[.int .i64 ts, s] 81)) := (Below.refl _ _).alloc (Nat.le_refl _) _

set_option maxHeartbeats 1000000 in
theorem checkCommit_any (ts : Int) (p : Option Addr) (len cap : Nat) (l : List Wr) (w : World) (hin : InW w p len cap l) :
    Calls Try.prog 63 #[.agg #[.int .i64 ts, .slice p len cap]] w fun e w' => e = .returned (.int .i64 (Rc.comE ts l)) ∧ Below w.heap.size w w' := by
  have HI : Hid (InW w p len cap l) := hin
  have HL : Hid (l.length = len) := hin.lenq
  clear hin
  have HB : Hid (Below w.heap.size w (w.alloc (.cells #[.int .i64 ts, .slice p len cap] 81))) := box_commit w ts _
  go_enter Try.func63, Try.ntmps63
  go_wp2_with fail
  refine (within_any ts 1 1099511627776 _).mono ?_
  rintro e w1 ⟨rfl, rfl⟩
  by_cases h1 : ts < 1 ∨ 1099511627776 < ts
  · have hi : Rc.inn 1 ts 1099511627776 = false := by unfold Rc.inn; simp; omega
    have HE : Hid (Rc.comE ts l = 32) := Rc.comE_bad (by omega)
    clear h1
    rw [hi]
    go_wp2
    go_ret
    exact ⟨by rw [HE.out]; rfl, HB.out⟩
  · have hi : Rc.inn 1 ts 1099511627776 = true := by unfold Rc.inn; simp; omega
    rw [hi]
    by_cases h2 : len = 0
    · have HE : Hid (Rc.comE ts l = 32) := Rc.comE_bad (by have := HL.out; omega)
      clear h1
      subst h2
      go_wp2
      go_ret
      exact ⟨by rw [HE.out]; rfl, HB.out⟩
    · have hl0 : ((len : Int) == 0) = false := by simp; omega
      by_cases h3 : 64 < len
      · have HE : Hid (Rc.comE ts l = 32) := Rc.comE_bad (by have := HL.out; omega)
        have hl1 : decide ((64 : Int) < (len : Int)) = true := by simp; omega
        clear h1
        go_wp2
        go_ret
        exact ⟨by rw [HE.out]; rfl, HB.out⟩
      · have HE : Hid (Rc.comE ts l = Rc.wsE .empty l) := Rc.comE_good (by have := HL.out; omega)
        have hl1 : decide ((64 : Int) < (len : Int)) = false := by simp; omega
        clear h1
        go_wp2_with fail
        go_loopw [3, 26] (fun ah i wr => ∃ (k : Nat) (a : ByteArray), k ≤ len ∧ i = .int .i64 k ∧ ah = .string a ∧ Hid (Below w.heap.size w wr) ∧ Hid (Rc.wsE .empty l = Rc.wsE a (l.drop k))) (fun _ i _ => len - (intOf i).toNat)
        case atStart => exact ⟨0, .empty, Nat.zero_le _, rfl, rfl, HB, by simp [Hid]⟩
        case round =>
          obtain ⟨k, a, hk, rfl, rfl, HW, HQ⟩ := hrel
          by_cases hlt : k < len
          · have hli : (k : Int) < (len : Int) := by omega
            have HI1 : Hid (InW wr p len cap l) := HI.out.up HW.out
            obtain ⟨b, o, g, rfl, hg, hblt, c0, c1, c2⟩ := HI1.out.at hlt
            have HG : Hid (l.drop k = g :: l.drop (k + 1)) := Rc.drop_at hg
            have HB5 : Hid (Below w.heap.size w (wr.alloc (.cells g.cells.toArray 78))) := HW.out.alloc HW.out.size _
            clear hg
            go_wp2_with fail
            refine (checkWrite_any g _).mono ?_
            rintro e w6 ⟨rfl, hb6⟩
            by_cases he : Rc.wrE g = 0
            · have hw6 : w6.cell? ⟨wr.heap.size, 0, none⟩ = some (.string g.key) := by
                rw [hb6.cell (p := ⟨wr.heap.size, 0, none⟩) (by simp)]
                exact (Bk.new wr 78 g.cells.toArray).cell 0
              have HB6 : Hid (Below w.heap.size w w6) := HB5.out.trans (hb6.mono HB5.out.size)
              have hne : (Rc.wrE g != 0) = false := by simpa using he
              have HE0 : Hid (Rc.wrE g = 0) := he
              clear he hb6 c0 c1 c2
              by_cases hle : Rc.le g.key a = true
              · have hle2 : (Op.bytesLess g.key.toList a.toList || g.key.toList == a.toList) = true := hle
                have HF : Hid (Rc.comE ts l = 32) := by unfold Hid; rw [HE.out, HQ.out, HG.out, Rc.wsE, if_pos HE0.out, if_pos hle]
                clear hle
                go_wp2
                go_ret
                exact ⟨by rw [HF.out]; rfl, HB6.out⟩
              · have hle2 : (Op.bytesLess g.key.toList a.toList || g.key.toList == a.toList) = false := (Bool.not_eq_true _).mp hle
                have HF : Hid (Rc.wsE .empty l = Rc.wsE g.key (l.drop (k + 1))) := by unfold Hid; rw [HQ.out, HG.out, Rc.wsE, if_pos HE0.out, if_neg hle]
                clear hle
                go_wp2
                go_roundw
                case rel => exact ⟨k + 1, g.key, by omega, by go_num, rfl, HB6, HF⟩
                case measure => simp [intOf]; omega
            · have HB6 : Hid (Below w.heap.size w w6) := HB5.out.trans (hb6.mono HB5.out.size)
              have hne : (Rc.wrE g != 0) = true := by simpa using he
              have HF : Hid (Rc.comE ts l = Rc.wrE g) := by unfold Hid; rw [HE.out, HQ.out, HG.out, Rc.wsE, if_neg he]
              clear he hb6 c0 c1 c2
              go_wp2
              go_ret
              exact ⟨by rw [HF.out]; rfl, HB6.out⟩
          · have hkk : k = len := by omega
            have hli : ¬ ((k : Int) < (len : Int)) := by omega
            have HF : Hid (Rc.comE ts l = 0) := by unfold Hid; rw [HE.out, HQ.out, List.drop_eq_nil_of_le (by have := HL.out; omega), Rc.wsE]
            clear hkk
            go_wp2
            go_ret
            exact ⟨by rw [HF.out]; rfl, HW.out⟩

end Go.Proofs.Ytcoibnlecdemcaa.Rk
