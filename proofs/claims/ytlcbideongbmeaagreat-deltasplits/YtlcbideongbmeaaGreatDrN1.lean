import Derived.Test.YtlcbideongbmeaaGreatDrK
namespace Go.Proofs.YtlcbideongbmeaaGreat
open Go.RowKit
set_option linter.unusedVariables false
set_option maxRecDepth 100000

theorem intinfoD : (Tryz.prog.info? 3).map (fun i => (i.zero, i.size, i.bytes)) = some (some (.int .i64 0), 1, 8) := by kernel_rfl

theorem made_ints (n : Nat) : (madeCells (Value.int .i64 0).cells (n * 1)).toList = ints (List.replicate n 0) := by
  rw [Nat.mul_one]
  have := toList_madeCells_one (Value.int .i64 0) n
  rw [show (Value.int .i64 0).cells = #[Value.int .i64 0] from rfl, this]
  simp [ints]

theorem make_ints (t : TypeId) (ht : Tryz.prog.underlying t = some (.slice 3)) (n : Nat) (hb : n ≤ 35184372088832) (w : World) :
    ∃ w1, (Instr.makeSlice t (.int .i64 (n : Int)) (.int .i64 (n : Int))).run Tryz.prog w = .ok (.slice (some ⟨w.heap.size, 0, none⟩) n n) w1 ∧ Ir w1 w.heap.size (.slice (some ⟨w.heap.size, 0, none⟩) n n) (List.replicate n 0) ∧ Below w.heap.size w w1 := by
  obtain ⟨i0, hi, hz0, hz1, hz2⟩ := info_parts intinfoD
  obtain ⟨w1, h1, h2, h3⟩ := run_make_full (P := Tryz.prog) w w.heap.size t 3 i0 (.int .i64 0) 1 ht hi hz0 hz1 .i64 .i64 n (by rw [hz2]; omega) (by unfold maxLen; omega) (Nat.le_refl _)
  refine ⟨w1, h1, ?_, ⟨h3.os, h3.tape, h3.output, h3.size, fun k hk => h3.block k hk (by simp)⟩⟩
  unfold Ir
  rw [List.length_replicate, ← made_ints]
  exact h2

set_option maxHeartbeats 2000000 in
theorem newPeaks_any (P : Nat) (hP : P ≤ 8796093022207) (w : World) :
    Calls Tryz.prog 97 #[.int .i64 (P : Int)] w fun e w' => ∃ n t D, e = .returned (.slice (some ⟨w.heap.size, 0, none⟩) n n) ∧ Ir w' w.heap.size (.slice (some ⟨w.heap.size, 0, none⟩) n n) t ∧ t.length = n ∧ Pk.Is t D (Pk.upd (fun _ => 0) P 9223372036854775807) ∧ P < 2 ^ D ∧ n ≤ 35184372088832 ∧ Below w.heap.size w w' := by
  go_enter Tryz.func97, Tryz.ntmps97
  go_wp2_with fail
  go_loopw [3] (fun nv wx => ∃ q : Nat, nv = .int .i64 (q : Int) ∧ wx = w ∧ Hid (∃ D, q = 2 ^ D) ∧ 1 ≤ q ∧ q ≤ 2 * P + 1) (fun nv _ => 2 * P + 2 - (intOf nv).toNat)
  case atStart => exact ⟨1, rfl, rfl, ⟨0, rfl⟩, by omega, by omega⟩
  case round =>
    obtain ⟨q, rfl, rfl, HQ, h1, h2⟩ := hrel
    by_cases hle : q ≤ P
    · have hli : (q : Int) ≤ (P : Int) := by omega
      have HQ2 : Hid (∃ D, 2 * q = 2 ^ D) := by
        obtain ⟨D, hD⟩ := HQ.out
        exact ⟨D + 1, by rw [Nat.pow_succ, hD]; omega⟩
      go_wp2
      exact ⟨⟨2 * q, by go_num, trivial, HQ2, by omega, by omega⟩, by simp [intOf]; omega⟩
    · have hli : ¬ (q : Int) ≤ (P : Int) := by omega
      obtain ⟨n, hn⟩ : ∃ n : Nat, 2 * q = n := ⟨_, rfl⟩
      have hqn : 2 * (q : Int) = (n : Int) := by omega
      have hnb : n ≤ 35184372088832 := by omega
      obtain ⟨w1, hmk, hI, hB⟩ := make_ints 116 Tryz.underlying116 n hnb wr
      obtain ⟨D, hD⟩ := HQ.out
      have HI : Hid (Ir w1 wr.heap.size (.slice (some ⟨wr.heap.size, 0, none⟩) n n) (List.replicate n 0) ∧ Pk.Is (List.replicate n 0) D (fun _ => 0) ∧ P < 2 ^ D ∧ Below wr.heap.size wr w1) := ⟨hI, by rw [← hn, hD]; exact Pk.Is.zero D, by rw [← hD]; omega, hB⟩
      clear hI hB hD HQ
      go_wp2_with fail
      refine (pset_any HI.out.1 (by simp) HI.out.2.1 hnb P HI.out.2.2.1 9223372036854775807).mono ?_
      rintro e w2 ⟨rfl, t', h1', h2', h3', h4'⟩
      have HE : Hid (Ir w2 wr.heap.size (.slice (some ⟨wr.heap.size, 0, none⟩) n n) t' ∧ t'.length = n ∧ Pk.Is t' D (Pk.upd (fun _ => 0) P 9223372036854775807) ∧ Below wr.heap.size wr w2) := ⟨h1', h2', h3', HI.out.2.2.2.trans (h4'.below HI.out.2.2.2.size (by simp))⟩
      clear h1' h2' h3' h4'
      go_wp2
      go_ret
      exact ⟨n, t', D, rfl, HE.out.1, HE.out.2.1, HE.out.2.2.1, HI.out.2.2.1, hnb, HE.out.2.2.2⟩
end Go.Proofs.YtlcbideongbmeaaGreat
