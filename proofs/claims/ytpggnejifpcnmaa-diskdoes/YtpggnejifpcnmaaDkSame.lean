/- Disks held against each other. -/
import Derived.Test.YtpggnejifpcnmaaDkSep
import Derived.Stop.BytesEq
import Derived.Deep.RegionHeld3
namespace Go.Proofs.Ytpggnejifpcnmaa
open Go.RowKit Go.Shelf Go.Maps
open Extern.Stop (cell)
set_option linter.unusedVariables false

theorem u8one (w : World) : (sizeOf 5).run Try.prog w = .ok 1 w := by kernel_rfl

/-- Bytes as the model's own. -/
def bts (xs : List Int) : List UInt8 := xs.map fun y => UInt8.ofNat y.toNat

theorem bts_cells {xs : List Int} (h : Sec xs) : secCells xs = ((bts xs).map cell).toArray := by
  rw [secCells, bts, List.map_map]
  congr 1
  refine List.map_congr_left fun y hy => ?_
  have := h.2 y hy
  simp only [Function.comp, cell]
  congr 1
  rw [UInt8.toNat_ofNat', Nat.mod_eq_of_lt (by omega)]
  exact (Int.toNat_of_nonneg this.1).symm

theorem bts_eq {xs ys : List Int} (hx : Sec xs) (hy : Sec ys) : (bts xs == bts ys) = decide (xs = ys) := by
  rw [Bool.eq_iff_iff, beq_iff_eq, decide_eq_true_iff]
  constructor
  · intro h
    have h1 := bts_cells hx
    have h2 := bts_cells hy
    have h3 : secCells xs = secCells ys := by rw [h1, h2, h]
    have := congrArg (fun c : Array Value => c.toList.map RowKit.intOf) h3
    simpa [secCells_back] using this
  · rintro rfl
    rfl

theorem run_neq_sec {xs ys : List Int} (hx : Sec xs) (hy : Sec ys) (w : World) : (binOp .neq 79 (secVal xs) (secVal ys)).run Try.prog w = .ok (.bool (decide (xs ≠ ys))) w := by
  have he := run_equalIn_bytes (P := Try.prog) w 9998 79 5 512 Try.underlying79 Try.underlying5 u8one (bts xs) (bts ys) (by simpa [bts] using hx.1) (by simpa [bts] using hy.1)
  rw [bts_eq hx hy, ← bts_cells hx, ← bts_cells hy] at he
  rw [secVal, secVal, run_neq_struct, he]
  simp [Result.andThen]

section
variable {w : World} {ops : Array Oper} {rest : List Oper} {o : Oper} {a : Act} {Q : Exit → Act → World → Prop}
theorem wp_neq_sec (hg : o.guard = none) (x y : Operand) (hop : o.op = Op.binOp .neq 79 x y 79) (xs ys : List Int) (hx : a.eval x = secVal xs) (hy : a.eval y = secVal ys) (sx : Sec xs) (sy : Sec ys)
    (hK : wpList Try.prog ops Q rest (a.put o.dst (.bool (decide (xs ≠ ys)))) w) : wpList Try.prog ops Q (o :: rest) a w := by
  refine wpList_plain hg fun K hK' => ?_
  have hgd : (eqGuard .neq 79 x y (secVal xs) (secVal ys)).run Try.prog w = .ok () w := by kernel_rfl
  unfold Oper.wp
  simp [execOp, hop, hx, hy, run_neq_sec sx sy, hgd, Result.andThen]
  exact hK' _ _ (by simpa using hK)
end

/-- Two disks have the same bytes. -/
def sameD (a b : Dk) : Bool := decide (a.n = b.n) && (List.range a.n).all fun i => decide (a.last i = b.last i)

theorem IsDk.lastSec {w : World} {B S M : Nat} {p : Option Addr} {c : Nat} {kb : List Nat} {d : Dk} (h : IsDk w B S M p c kb d) {i : Nat} (hi : i < d.n) : Sec (d.last i) := by
  unfold Dk.last
  cases hfi : d.dirty i with
  | none => exact h.secS i hi
  | some x => exact h.secD i x hfi

theorem Dsk.facts {w : World} {B : Nat} {bs : List Nat} {d : Dk} (h : Dsk w B bs d) : 1 ≤ d.n ∧ d.n ≤ 16384 ∧ (∀ i, i < d.n → Sec (d.last i)) ∧ ∃ S, w.cell? ⟨B, 0, none⟩ = some (.slice (some ⟨S, 0, none⟩) d.n d.cs) ∧ B < w.heap.size := by
  obtain ⟨S, M, p, c, kb, -, h⟩ := h
  exact ⟨h.n1, h.n2, fun i hi => h.lastSec hi, S, h.cells.1, h.blk.lt⟩

set_option maxRecDepth 100000 in
set_option maxHeartbeats 2000000 in
theorem same_any {w : World} {B1 B2 : Nat} {bs1 bs2 : List Nat} {a b : Dk} (h1 : Dsk w B1 bs1 a) (h2 : Dsk w B2 bs2 b) :
    Calls Try.prog 20 #[.pointer (some ⟨B1, 0, none⟩), .pointer (some ⟨B2, 0, none⟩)] w fun e w' => e = .returned (.bool (sameD a b)) ∧ Below w.heap.size w w' := by
  have m1 := made_any h1
  have m2 := made_any h2
  obtain ⟨n1, n2, _, S1, c1, l1⟩ := h1.facts
  obtain ⟨p1, p2, _, S2, c2, l2⟩ := h2.facts
  have HA : Hid (Dsk w B1 bs1 a) := h1
  have HB : Hid (Dsk w B2 bs2 b) := h2
  clear m1 m2 h1 h2
  have hbd : Below w.heap.size w w.drew := (Below.refl _ _).drew
  have HAd : Hid (Dsk w.drew B1 bs1 a) := HA.out.below hbd
  have HBd : Hid (Dsk w.drew B2 bs2 b) := HB.out.below hbd
  have FA : Hid (∀ i, i < a.n → Sec (a.last i)) := HA.out.facts.2.2.1
  have FB : Hid (∀ i, i < b.n → Sec (b.last i)) := HB.out.facts.2.2.1
  go_enter Try.func20, Try.ntmps20
  go_wp2_with fail
  go_region_held3 (fun w' => w'.cell? ⟨B1, 0, none⟩ = some (.slice (some ⟨S1, 0, none⟩) a.n a.cs) ∧ w'.cell? ⟨B2, 0, none⟩ = some (.slice (some ⟨S2, 0, none⟩) b.n b.cs)) (go_keep) (first
    | (go_at_call_of 35 (Value.pointer (some ⟨B1, 0, none⟩)); refine (made_any HAd.out).mono ?_; rintro e w1 ⟨rfl, rfl⟩)
    | (go_at_call_of 35 (Value.pointer (some ⟨B2, 0, none⟩)); refine (made_any HBd.out).mono ?_; rintro e w1 ⟨rfl, rfl⟩))
  by_cases hn : a.n = b.n
  · have hne : ((a.n : Int) != (b.n : Int)) = false := by simp [hn]
    have c1d : w.drew.cell? ⟨B1, 0, none⟩ = some (.slice (some ⟨S1, 0, none⟩) a.n a.cs) := c1
    have HN : Hid (a.n = b.n) := hn
    rw [hne]
    clear c1 c2 hn hne
    go_wp2_with fail
    go_loopw [32] (fun i wr => ∃ k : Nat, k ≤ a.n ∧ i = .int .i64 k ∧ Below w.heap.size w wr ∧ ∀ j, j < k → a.last j = b.last j) (fun i _ => a.n - (intOf i).toNat)
    case atStart => exact ⟨0, Nat.zero_le _, rfl, hbd, fun j hj => absurd hj (Nat.not_lt_zero j)⟩
    case round =>
      obtain ⟨k, hk, rfl, hbel, hall⟩ := hrel
      have HBE : Hid (Below w.heap.size w wr) := hbel
      have HALL : Hid (∀ j, j < k → a.last j = b.last j) := hall
      clear hbel hall
      by_cases hq : k < a.n
      · have hqi : (k : Int) < (a.n : Int) := by omega
        have HA1 : Hid (Dsk wr B1 bs1 a) := HA.out.below HBE.out
        go_wp2_with fail
        refine (last_any HA1.out k hq).mono ?_
        rintro e w2 ⟨rfl, hb2⟩
        have HB2 : Hid (Below w.heap.size w w2) := HBE.out.trans (hb2.mono HBE.out.size)
        have HBB : Hid (Dsk w2 B2 bs2 b) := HB.out.below HB2.out
        clear hb2
        go_wp2_with fail
        refine (last_any HBB.out k (by rw [← HN.out]; exact hq)).mono ?_
        rintro e w3 ⟨rfl, hb3⟩
        have HB3 : Hid (Below w.heap.size w w3) := HB2.out.trans (hb3.mono HB2.out.size)
        clear hb3 HB2
        by_cases he : a.last k = b.last k
        · have HDF : Hid (decide (a.last k ≠ b.last k) = false) := by simp [Hid, he]
          have HE : Hid (a.last k = b.last k) := he
          clear he
          go_wp2_with (refine wp_neq_sec rfl _ _ rfl (a.last k) (b.last k) rfl rfl (FA.out k hq) (FB.out k (by rw [← HN.out]; exact hq)) ?_; rw [HDF.out]; refine Hid.out ?_)
          unfold Hid
          go_wp2
          go_roundw
          case rel =>
            refine ⟨k + 1, by omega, by go_num, HB3.out, fun j hj => ?_⟩
            by_cases hjk : j = k
            · subst hjk
              exact HE.out
            · exact HALL.out j (by omega)
          case measure => simp [intOf]; omega
        · have HDF : Hid (decide (a.last k ≠ b.last k) = true) := by simp [Hid, he]
          have HE : Hid (¬ a.last k = b.last k) := he
          clear he
          go_wp2_with (refine wp_neq_sec rfl _ _ rfl (a.last k) (b.last k) rfl rfl (FA.out k hq) (FB.out k (by rw [← HN.out]; exact hq)) ?_; rw [HDF.out]; refine Hid.out ?_)
          unfold Hid
          go_wp2
          go_ret
          have hs : sameD a b = false := by
            unfold sameD
            rw [Bool.and_eq_false_iff]
            right
            rw [Bool.eq_false_iff]
            intro hh
            have := List.all_eq_true.1 hh k (List.mem_range.2 hq)
            exact HE.out (of_decide_eq_true this)
          exact ⟨by rw [hs]; rfl, HB3.out⟩
      · obtain rfl : k = a.n := by omega
        go_wp2
        go_ret
        have hs : sameD a b = true := by
          unfold sameD
          rw [Bool.and_eq_true]
          exact ⟨decide_eq_true HN.out, List.all_eq_true.2 fun j hj => decide_eq_true (HALL.out j (List.mem_range.1 hj))⟩
        exact ⟨by rw [hs]; rfl, HBE.out⟩
  · have hne : ((a.n : Int) != (b.n : Int)) = true := by simp; omega
    have hs : sameD a b = false := by simp [sameD, hn]
    have HS : Hid (sameD a b = false) := hs
    clear hs
    go_wp2
    go_ret
    exact ⟨by rw [HS.out]; rfl, hbd⟩

end Go.Proofs.Ytpggnejifpcnmaa
