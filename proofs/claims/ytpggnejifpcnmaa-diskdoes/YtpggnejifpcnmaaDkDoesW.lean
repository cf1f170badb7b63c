/- The walk of DiskDoes. -/
import Derived.Test.YtpggnejifpcnmaaDkDoes
namespace Go.Proofs.Ytpggnejifpcnmaa
open Go.ChangeShapes Go.WideShapes Go.ChangeAt Go.RowKit Go.Shelf
set_option linter.unusedVariables false

set_option maxRecDepth 100000 in
set_option maxHeartbeats 4000000 in
theorem walk_diskDoes (i : Int) (q : Option Addr) (m qc : Nat) (os : List GOp) (w : World) (hi : (Lit.int .i64 i).wf = true) (hos : InOps w q m qc os) :
    Calls Try.prog 3 #[.int .i64 i, .slice q m qc] w fun e w' => e = .returned (.bool true) ∧ Below w.heap.size w w' := by
  have HO : Hid (InOps w q m qc os) := hos
  have hle2 := hos.le
  have hroom2 := hos.room
  clear hos hi
  by_cases h1 : i < 1 ∨ 16384 < i
  · have H1 : Hid (i < 1 ∨ 16384 < i) := h1
    clear h1
    go_enter Try.func3, Try.ntmps3
    go_wp2_with fail
    refine (new_bad i w H1.out).mono ?_
    rintro e w1 ⟨rfl, rfl⟩
    go_wp2_with fail
    refine (rnew_bad i w1 H1.out).mono ?_
    rintro e w2 ⟨rfl, rfl⟩
    go_wp2_with fail
    refine (begun_any w2).mono ?_
    rintro e w3 ⟨rfl, hb3⟩
    go_wp2
    go_ret
    exact ⟨rfl, hb3⟩
  · obtain ⟨n, rfl⟩ : ∃ n : Nat, i = (n : Int) := ⟨i.toNat, by omega⟩
    have hn1 : 1 ≤ n := by omega
    have hn2 : n ≤ 16384 := by omega
    clear h1
    go_enter Try.func3, Try.ntmps3
    go_wp2_with fail
    refine (new_any n w hn1 hn2).mono ?_
    rintro e w1 ⟨B, bs, rfl, hd1, hg1, hb1⟩
    have HD1 : Hid (Dsk w1 B bs (Dk.fresh n)) := hd1
    have HG1 : Hid (∀ b ∈ bs, w.heap.size ≤ b) := hg1
    have HB1 : Hid (Below w.heap.size w w1) := hb1
    clear hd1 hg1 hb1
    go_wp2_with fail
    refine (rnew n w1 hn1 hn2).mono ?_
    rintro e w2 ⟨R, rs, rfl, hd2, hg2, hb2⟩
    have HP2 : Hid (Pw w w2 B R (Dk.fresh n)) := pw_new HD1.out HG1.out HB1.out hd2 hg2 hb2
    clear hd2 hg2 hb2 HD1 HG1 HB1
    go_wp2_with fail
    refine (begun_any w2).mono ?_
    rintro e w3 ⟨rfl, hb3⟩
    have HP3 : Hid (Pw w w3 B R (Dk.fresh n)) := HP2.out.below hb3
    clear hb3 HP2
    go_wp2_with fail
    go_loopw [5, 40] (fun dv iv wr => ∃ (j C : Nat) (d : Dk), j ≤ m ∧ iv = .int .i64 j ∧ dv = .pointer (some ⟨C, 0, none⟩) ∧ Hid (Pw w wr C R d)) (fun _ iv _ => m - (intOf iv).toNat)
    case atStart => exact ⟨0, B, _, Nat.zero_le _, rfl, rfl, HP3⟩
    case round =>
      obtain ⟨j, C, d, hj, rfl, rfl, HP⟩ := hrel
      clear HP3
      by_cases hq : j < m
      · have hqi : (j : Int) < (m : Int) := by omega
        have HO1 : Hid (InOps wr q m qc os) := HO.out.up HP.out.2.1
        obtain ⟨b, o, g, hqe, hg, hop, hblt, c0, c1, c2, c3, c4, c5, c6⟩ := HO1.out.at hq
        have HG : Hid (OpIn w g) := HO.out.each g (List.mem_of_getElem? hg)
        subst hqe
        clear hg hop HO1
        have hb5 : Below wr.heap.size wr (wr.alloc (.cells g.cells.toArray 34)) := (Below.refl _ _).alloc (Nat.le_refl _) _
        have HP5 : Hid (Pw w (wr.alloc (.cells g.cells.toArray 34)) C R d) := HP.out.below hb5
        clear HP hb5
        go_wp2_with fail
        refine (HP5.out.step HG.out).mono ?_
        rintro e w7 ⟨C', d', rfl, hp7⟩
        have HP7 : Hid (Pw w w7 C' R d') := hp7
        clear hp7 HP5 c0 c1 c2 c3 c4 c5 c6
        go_wp2_with fail
        refine HP7.out.down.mono ?_
        rintro e w8 ⟨rfl, rfl⟩
        go_wp2_with fail
        refine HP7.out.rdown.mono ?_
        rintro e w9 ⟨rfl, rfl⟩
        have hbb : (d'.down != d'.down) = false := by simp
        go_wp2_with fail
        refine HP7.out.calls.mono ?_
        rintro e w10 ⟨rfl, rfl⟩
        go_wp2_with fail
        refine HP7.out.rcalls.mono ?_
        rintro e w11 ⟨rfl, rfl⟩
        go_wp2
        go_roundw
        case rel => exact ⟨j + 1, C', d', by omega, by go_num, rfl, HP7⟩
        case measure => simp [intOf]; omega
      · have hjm : m = j := by omega
        subst hjm
        go_wp2_with fail
        refine HP.out.equal.mono ?_
        rintro e w5 ⟨rfl, hp5⟩
        have HP5 : Hid (Pw w w5 C R d) := hp5
        clear hp5 HP
        go_wp2_with fail
        refine HP5.out.restart.mono ?_
        rintro e w6 ⟨rfl, hp6⟩
        have HP6 : Hid (Pm w w6 C R d) := hp6
        clear hp6 HP5
        go_wp2_with fail
        refine HP6.out.restart.mono ?_
        rintro e w7 ⟨rfl, hp7⟩
        have HP7 : Hid (Pw w w7 C R { d with down := false }) := hp7
        clear hp7 HP6
        go_wp2_with fail
        refine HP7.out.equal.mono ?_
        rintro e w8 ⟨rfl, hp8⟩
        have HB8 : Hid (Below w.heap.size w w8) := hp8.2.1
        clear hp8 HP7
        go_wp2
        go_ret
        exact ⟨rfl, HB8.out⟩

end Go.Proofs.Ytpggnejifpcnmaa
