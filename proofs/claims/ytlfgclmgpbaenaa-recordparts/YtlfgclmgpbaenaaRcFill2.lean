/- What a chunk and a master put among the fields. -/
import Derived.Test.YtlfgclmgpbaenaaRcFill
namespace Go.Proofs.Ytlfgclmgpbaenaa
open Go.RowKit
set_option linter.unusedVariables false
set_option maxRecDepth 100000

set_option maxHeartbeats 2000000 in
theorem hfill_any {w : World} {F lo : Nat} {bs : List Nat} (h : Fl w F bs 0 []) (hlo : ∀ b ∈ bs, lo ≤ b) (hls : lo ≤ w.heap.size) (n : Int) (d : Bool) (h0 : -9223372036854775808 ≤ n) (h1 : n ≤ 9223372036854775807) (p : Option Addr) (len cap : Nat) (l : List St)
    (hin : ∀ w', Below lo w w' → InS w' p len cap l) (hl64 : len ≤ 64) (hsz : ∀ g ∈ l, g.key.size ≤ 64 ∧ g.val.size ≤ 256) :
    Calls Try.prog 124 #[.agg #[.int .i64 n, .slice p len cap, .bool d], .pointer (some ⟨F, 0, none⟩)] w fun e w' => e = .returned (.tuple #[]) ∧ Fg w w' F bs (Rc.chB n d l) := by
  have HB : Hid (FgK w (w.alloc (.cells #[.int .i64 n, .slice p len cap, .bool d] 77)) F bs [] w.heap.size 77 #[.int .i64 n, .slice p len cap, .bool d]) := (Fg.begin h).box _ _
  have HI : Hid (∀ w', Below lo w w' → InS w' p len cap l) := hin
  have HL : Hid (l.length = len) := (hin w (Below.refl _ _)).lenq
  have HT : Hid (∀ g ∈ l, -9223372036854775808 ≤ g.ts ∧ g.ts ≤ 9223372036854775807) := fun g hg => (hin w (Below.refl _ _)).size g hg
  have HZ : Hid (∀ g ∈ l, g.key.size ≤ 64 ∧ g.val.size ≤ 256) := hsz
  have HLO : Hid (∀ b ∈ bs, lo ≤ b) := hlo
  have he1 := Rc.enc_le n
  have he2 := Rc.enc_le len
  clear h hin hsz hlo
  go_enter Try.func124, Try.ntmps124
  go_wp2_with fail
  refine (fnumK HB.out n h0 h1 (by simp)).mono ?_
  rintro e w1 ⟨rfl, h1⟩
  have H1 : Hid (FgK w w1 F bs ([] ++ Cd.enc n) w.heap.size 77 #[.int .i64 n, .slice p len cap, .bool d]) := h1
  have c1 : w1.cell? ⟨w.heap.size, 2, none⟩ = some (.bool d) := h1.bk.cell 2
  clear h1 HB
  go_wp2_with fail
  refine (fflagK H1.out d (by simp; omega)).mono ?_
  rintro e w2 ⟨rfl, h2⟩
  have H2 : Hid (FgK w w2 F bs ([] ++ Cd.enc n ++ Rc.encF d) w.heap.size 77 #[.int .i64 n, .slice p len cap, .bool d]) := h2
  have c2 : w2.cell? ⟨w.heap.size, 1, none⟩ = some (.slice p len cap) := h2.bk.cell 1
  clear h2 H1 c1
  go_wp2_with fail
  refine (fnumK H2.out len (by omega) (by omega) (by simp [Rc.encF]; omega)).mono ?_
  rintro e w3 ⟨rfl, h3⟩
  have c3 : w3.cell? ⟨w.heap.size, 1, none⟩ = some (.slice p len cap) := h3.bk.cell 1
  have H3 : Hid (Fg w w3 F bs (Cd.enc n ++ Rc.encF d ++ Cd.enc l.length ++ Rc.stsB (l.take 0))) := by
    rw [HL.out]
    simpa [Rc.stsB, Hid] using FgK.out h3
  clear h3 H2 c2
  go_wp2_with fail
  go_loopw [26] (fun i wr => ∃ k : Nat, k ≤ len ∧ i = .int .i64 k ∧ Hid (Fg w wr F bs (Cd.enc n ++ Rc.encF d ++ Cd.enc l.length ++ Rc.stsB (l.take k))) ∧ Hid ((Rc.stsB (l.take k)).length ≤ 347 * k)) (fun i _ => len - (intOf i).toNat)
  case atStart => exact ⟨0, Nat.zero_le _, rfl, H3, by simp [Hid, Rc.stsB]⟩
  case round =>
    obtain ⟨k, hk, rfl, HF, HQ⟩ := hrel
    clear H3 c3
    by_cases hlt : k < len
    · have hli : (k : Int) < (len : Int) := by omega
      have hI : InS wr p len cap l := HI.out wr (by obtain ⟨bs1, _, t, _⟩ := HF.out; exact t.below hls HLO.out)
      obtain ⟨b, o, g, rfl, hg, hblt, c0, c1, c2⟩ := hI.at hlt
      have hgz := HZ.out g (List.mem_of_getElem? hg)
      have hgt := HT.out g (List.mem_of_getElem? hg)
      have HS : Hid (Rc.stsB (l.take (k + 1)) = Rc.stsB (l.take k) ++ Rc.stB g) := Rc.stsB_snoc hg
      obtain ⟨X, hX⟩ : ∃ X, Cd.enc n ++ Rc.encF d ++ Cd.enc (l.length : Int) ++ Rc.stsB (l.take k) = X := ⟨_, rfl⟩
      have HX : Hid (Cd.enc n ++ Rc.encF d ++ Cd.enc (l.length : Int) ++ Rc.stsB (l.take k) = X) := hX
      have HA : Hid (FgK w (wr.alloc (.cells g.cells.toArray 70)) F bs X wr.heap.size 70 g.cells.toArray) := by
        rw [← hX]
        exact HF.out.box _ _
      have hln : X.length ≤ 549755813888 := by
        have := HQ.out
        have := HL.out
        rw [← hX]
        simp only [List.length_append, Rc.encF, List.length_singleton]
        rw [HL.out]
        omega
      have ek := Rc.encT_le g.key
      have ev := Rc.encT_le g.val
      clear hI hg hX
      go_wp2_with fail
      refine (ftextK HA.out g.key (by omega) (by omega)).mono ?_
      rintro e w4 ⟨rfl, h4⟩
      have H4 : Hid (FgK w w4 F bs (X ++ Rc.encT g.key) wr.heap.size 70 g.cells.toArray) := h4
      have c4 : w4.cell? ⟨wr.heap.size, 1, none⟩ = some (.string g.val) := h4.bk.cell 1
      clear h4 HA c0 c1 c2
      go_wp2_with fail
      refine (ftextK H4.out g.val (by omega) (by simp; omega)).mono ?_
      rintro e w5 ⟨rfl, h5⟩
      have H5 : Hid (FgK w w5 F bs (X ++ Rc.encT g.key ++ Rc.encT g.val) wr.heap.size 70 g.cells.toArray) := h5
      have c5 : w5.cell? ⟨wr.heap.size, 2, none⟩ = some (.int .i64 g.ts) := h5.bk.cell 2
      clear h5 H4 c4
      go_wp2_with fail
      refine (fnumK H5.out g.ts hgt.1 hgt.2 (by simp; omega)).mono ?_
      rintro e w6 ⟨rfl, h6⟩
      have H6 : Hid (Fg w w6 F bs (Cd.enc n ++ Rc.encF d ++ Cd.enc l.length ++ Rc.stsB (l.take (k + 1)))) := by
        have e6 : Cd.enc n ++ Rc.encF d ++ Cd.enc (l.length : Int) ++ Rc.stsB (l.take (k + 1)) = X ++ Rc.encT g.key ++ Rc.encT g.val ++ Cd.enc g.ts := by
          rw [HS.out, ← List.append_assoc, HX.out, Rc.stB]
          simp only [List.append_assoc]
        rw [e6]
        exact FgK.out h6
      have HQ6 : Hid ((Rc.stsB (l.take (k + 1))).length ≤ 347 * (k + 1)) := by
        have := HQ.out
        have := Rc.stB_le hgz.1 hgz.2
        unfold Hid
        rw [HS.out, List.length_append]
        omega
      clear h6 H5 c5 HF HQ hln HX
      go_wp2
      go_roundw
      case rel => exact ⟨k + 1, by omega, by go_num, H6, HQ6⟩
      case measure => simp [intOf]; omega
    · have hli : ¬ ((k : Int) < (len : Int)) := by omega
      have HF2 : Hid (Fg w wr F bs (Rc.chB n d l)) := by
        have := HF.out
        rw [List.take_of_length_le (by have := HL.out; omega)] at this
        exact this
      go_wp2
      go_end0
      exact ⟨rfl, HF2.out⟩

/-- Every number of a master is an int64. -/
def Ms.fits (m : Ms) : Prop := (-9223372036854775808 ≤ m.seq ∧ m.seq ≤ 9223372036854775807) ∧ (-9223372036854775808 ≤ m.area ∧ m.area ≤ 9223372036854775807) ∧ (-9223372036854775808 ≤ m.chunks ∧ m.chunks ≤ 9223372036854775807) ∧ (-9223372036854775808 ≤ m.ts ∧ m.ts ≤ 9223372036854775807) ∧ (-9223372036854775808 ≤ m.sector ∧ m.sector ≤ 9223372036854775807) ∧ (-9223372036854775808 ≤ m.offset ∧ m.offset ≤ 9223372036854775807) ∧ (-9223372036854775808 ≤ m.number ∧ m.number ≤ 9223372036854775807) ∧ (-9223372036854775808 ≤ m.run ∧ m.run ≤ 9223372036854775807)

set_option maxHeartbeats 2000000 in
theorem mfill_any {w : World} {F : Nat} {bs : List Nat} (h : Fl w F bs 0 []) (m : Ms) (hm : m.fits) :
    Calls Try.prog 126 #[.agg m.cells.toArray, .pointer (some ⟨F, 0, none⟩)] w fun e w' => e = .returned (.tuple #[]) ∧ Fg w w' F bs (Rc.msB m) := by
  have H0 : Hid (FgK w (w.alloc (.cells m.cells.toArray 81)) F bs [] w.heap.size 81 m.cells.toArray) := (Fg.begin h).box _ _
  have e0 := Rc.enc_le m.seq
  have e1 := Rc.enc_le m.area
  have e2 := Rc.enc_le m.chunks
  have e3 := Rc.enc_le m.ts
  have e4 := Rc.enc_le m.sector
  have e5 := Rc.enc_le m.offset
  have e6 := Rc.enc_le m.number
  have e7 := Rc.enc_le m.run
  obtain ⟨⟨a0, b0⟩, ⟨a1, b1⟩, ⟨a2, b2⟩, ⟨a3, b3⟩, ⟨a4, b4⟩, ⟨a5, b5⟩, ⟨a6, b6⟩, ⟨a7, b7⟩⟩ := hm
  clear h
  have c0 : (w.alloc (.cells m.cells.toArray 81)).cell? ⟨w.heap.size, 0, none⟩ = some (.int .i64 m.seq) := H0.out.bk.cell 0
  go_enter Try.func126, Try.ntmps126
  go_wp2_with fail
  refine (fnumK H0.out m.seq a0 b0 (by simp; try omega)).mono ?_
  rintro e w1 ⟨rfl, h1⟩
  have H1 : Hid (FgK w w1 F bs ([] ++ Cd.enc m.seq) w.heap.size 81 m.cells.toArray) := h1
  have c1 : w1.cell? ⟨w.heap.size, 1, none⟩ = some (.int .i64 m.area) := h1.bk.cell 1
  clear h1 H0 c0
  go_wp2_with fail
  refine (fnumK H1.out m.area a1 b1 (by simp; try omega)).mono ?_
  rintro e w2 ⟨rfl, h2⟩
  have H2 : Hid (FgK w w2 F bs ([] ++ Cd.enc m.seq ++ Cd.enc m.area) w.heap.size 81 m.cells.toArray) := h2
  have c2 : w2.cell? ⟨w.heap.size, 2, none⟩ = some (.int .i64 m.chunks) := h2.bk.cell 2
  clear h2 H1 c1
  go_wp2_with fail
  refine (fnumK H2.out m.chunks a2 b2 (by simp; try omega)).mono ?_
  rintro e w3 ⟨rfl, h3⟩
  have H3 : Hid (FgK w w3 F bs ([] ++ Cd.enc m.seq ++ Cd.enc m.area ++ Cd.enc m.chunks) w.heap.size 81 m.cells.toArray) := h3
  have c3 : w3.cell? ⟨w.heap.size, 3, none⟩ = some (.int .i64 m.ts) := h3.bk.cell 3
  clear h3 H2 c2
  go_wp2_with fail
  refine (fnumK H3.out m.ts a3 b3 (by simp; try omega)).mono ?_
  rintro e w4 ⟨rfl, h4⟩
  have H4 : Hid (FgK w w4 F bs ([] ++ Cd.enc m.seq ++ Cd.enc m.area ++ Cd.enc m.chunks ++ Cd.enc m.ts) w.heap.size 81 m.cells.toArray) := h4
  have c4 : w4.cell? ⟨w.heap.size, 4, none⟩ = some (.int .i64 m.sector) := h4.bk.cell 4
  clear h4 H3 c3
  go_wp2_with fail
  refine (fnumK H4.out m.sector a4 b4 (by simp; try omega)).mono ?_
  rintro e w5 ⟨rfl, h5⟩
  have H5 : Hid (FgK w w5 F bs ([] ++ Cd.enc m.seq ++ Cd.enc m.area ++ Cd.enc m.chunks ++ Cd.enc m.ts ++ Cd.enc m.sector) w.heap.size 81 m.cells.toArray) := h5
  have c5 : w5.cell? ⟨w.heap.size, 5, none⟩ = some (.int .i64 m.offset) := h5.bk.cell 5
  clear h5 H4 c4
  go_wp2_with fail
  refine (fnumK H5.out m.offset a5 b5 (by simp; try omega)).mono ?_
  rintro e w6 ⟨rfl, h6⟩
  have H6 : Hid (FgK w w6 F bs ([] ++ Cd.enc m.seq ++ Cd.enc m.area ++ Cd.enc m.chunks ++ Cd.enc m.ts ++ Cd.enc m.sector ++ Cd.enc m.offset) w.heap.size 81 m.cells.toArray) := h6
  have c6 : w6.cell? ⟨w.heap.size, 6, none⟩ = some (.int .i64 m.number) := h6.bk.cell 6
  clear h6 H5 c5
  go_wp2_with fail
  refine (fnumK H6.out m.number a6 b6 (by simp; try omega)).mono ?_
  rintro e w7 ⟨rfl, h7⟩
  have H7 : Hid (FgK w w7 F bs ([] ++ Cd.enc m.seq ++ Cd.enc m.area ++ Cd.enc m.chunks ++ Cd.enc m.ts ++ Cd.enc m.sector ++ Cd.enc m.offset ++ Cd.enc m.number) w.heap.size 81 m.cells.toArray) := h7
  have c7 : w7.cell? ⟨w.heap.size, 7, none⟩ = some (.int .i64 m.run) := h7.bk.cell 7
  clear h7 H6 c6
  go_wp2_with fail
  refine (fnumK H7.out m.run a7 b7 (by simp; try omega)).mono ?_
  rintro e w8 ⟨rfl, h8⟩
  have H8 : Hid (FgK w w8 F bs ([] ++ Cd.enc m.seq ++ Cd.enc m.area ++ Cd.enc m.chunks ++ Cd.enc m.ts ++ Cd.enc m.sector ++ Cd.enc m.offset ++ Cd.enc m.number ++ Cd.enc m.run) w.heap.size 81 m.cells.toArray) := h8
  clear h8 H7 c7
  go_wp2
  go_end0
  refine ⟨rfl, ?_⟩
  have := FgK.out H8.out
  simpa only [Rc.msB, List.nil_append] using this

end Go.Proofs.Ytlfgclmgpbaenaa
