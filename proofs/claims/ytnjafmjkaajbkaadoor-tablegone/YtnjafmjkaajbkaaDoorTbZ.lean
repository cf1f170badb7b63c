/- Words that are 0 are appended to a row of the call's own. -/
import Derived.Test.YtnjafmjkaajbkaaDoorTbT
import Derived.Test.YtnjafmjkaajbkaaDoorTbW
import Derived.Lib.AppendZerosOnto
namespace Go.Proofs.YtnjafmjkaajbkaaDoor
open Go.RowKit
set_option linter.unusedVariables false
set_option maxRecDepth 100000

theorem winfo : (Tryd.prog.info? 100).map (fun i => (i.zero, i.size, i.bytes)) = some (some (.int .u64 0), 1, 8) := by kernel_rfl

theorem zeros_list (k : Nat) : (Builtin.zeroCells (Value.int .u64 0).cells k).toList = List.replicate k (.int .u64 0) := by
  apply List.ext_getElem?
  intro i
  simp only [Builtin.zeroCells, Value.cells, Array.toList_map, Array.toList_range, List.getElem?_map, List.getElem?_replicate]
  by_cases h : i < k
  · rw [List.getElem?_range (by simpa using h)]
    simp [h, Nat.mod_one]
  · rw [List.getElem?_eq_none (by simpa using h)]
    simp [h]

set_option maxHeartbeats 1000000 in
theorem app_zeros {w : World} (ty : TypeId) {v : Value} {n : Nat} {xs : List Value} (hown : w.ownsRow 0 100 1 v n xs) (k : Nat) (h0 : 0 < k) (hb : n + k ≤ 1048576) :
    ∃ v' w', (Builtin.append_ #[55, 3] ty #[v, .int .i64 (k : Int)]).run Tryd.prog w = .ok v' w' ∧ w'.ownsRow 0 100 1 v' (n + k) (xs ++ List.replicate k (.int .u64 0)) ∧ w.grownBy w' v.ownBlock ∧ (v'.ownBlock = v.ownBlock ∨ v'.ownBlock = some w.heap.size) := by
  obtain ⟨i, hi, hz, hs, hby⟩ := info_parts winfo
  have hlen : (xs ++ List.replicate k (Value.int .u64 0)).length = (n + k) * 1 := by rw [List.length_append, hown.1]; simp
  have ht : Tryd.prog.underlying 55 = some (.slice 100) := Tryd.underlying55
  have htn : Tryd.prog.underlying 3 = some (.int .i64) := Tryd.underlying3
  have grown : ∀ (old : Nat) (row : Option Nat),
      (w.drew.alloc (.cells (xs.toArray ++ Builtin.zeroCells (Value.int .u64 0).cells k ++ Builtin.zeroCells (Value.int .u64 0).cells (grownCap w (n + k) old 100 - (n + k))) 100)).ownsRow 0 100 1
        (.slice (some ⟨w.heap.size, 0, none⟩) (n + k) (grownCap w (n + k) old 100)) (n + k) (xs ++ List.replicate k (.int .u64 0)) ∧
      w.grownBy (w.drew.alloc (.cells (xs.toArray ++ Builtin.zeroCells (Value.int .u64 0).cells k ++ Builtin.zeroCells (Value.int .u64 0).cells (grownCap w (n + k) old 100 - (n + k))) 100)) row := by
    intro old row
    have hge := grownCap_ge w (n + k) old 100
    have hcm : grownCap w (n + k) old 100 ≤ maxLen := grownCap_le_maxLen w (n + k) old 100 (by unfold maxLen; omega)
    refine ⟨⟨hlen, .inr ⟨w.heap.size, _, _, rfl, Nat.zero_le _, heap_alloc_new w.drew _, hge, hcm, ?_, ?_⟩⟩, ⟨rfl, rfl, rfl, by simp, fun j hj _ => Below.heap_alloc w.drew _ j hj⟩⟩
    · simp only [Array.size_append, List.size_toArray, size_zeroCells, hown.1, Value.cells]
      simp
      omega
    · simp only [Array.toList_append, zeros_list]
      rw [← hlen]
      exact List.take_left
  rcases hown.2 with ⟨rfl, rfl⟩ | ⟨g, cap, cur, rfl, hbg, hg, hnc, hcm, hcs, htake⟩
  · have hx : xs = [] := List.eq_nil_of_length_eq_zero (by simpa using hown.1)
    subst hx
    have hr := Lib.run_append_grow_zeros (P := Tryd.prog) w 55 3 ty 100 i (.int .u64 0) .i64 .i64 ht htn hi hz none 0 0 [] (by simp [Builtin.firstCells]) k h0 (by rw [hs]; decide) (by omega) (by omega) (by rw [hby]; omega) (by rw [hby]; unfold Builtin.nextslicecap; split <;> omega)
    obtain ⟨g1, g2⟩ := grown 0 (Value.ownBlock (.slice none 0 0))
    exact ⟨_, _, hr, g1, g2, Or.inr rfl⟩
  · by_cases hroom : n + k ≤ cap
    · have hz1 : (List.replicate k (Value.int .u64 0)).length = k := by simp
      have hfit : n * 1 + (List.replicate k (Value.int .u64 0)).length ≤ cur.size := by rw [hz1, hcs]; omega
      have hst := run_storeCells_at Tryd.prog g (n * 1) 100 (List.replicate k (Value.int .u64 0)) 0 cur w hg (by simpa using hfit) (fun u hu => by rw [List.eq_of_mem_replicate hu]; rfl)
      have hw : IntKind.i64.wrap (k : Int) = k := by rw [IntKind.wrap_i64]; omega
      have hneg : ¬ ((k : Int) < 0) := by omega
      have h48i : ¬ (281474976710656 < (k : Int) * (i.bytes : Int)) := by rw [hby]; omega
      have hk0 : k ≠ 0 := by omega
      have hr : (Builtin.append_ #[55, 3] ty #[.slice (some ⟨g, 0, none⟩) n cap, .int .i64 (k : Int)]).run Tryd.prog w = .ok (.slice (some ⟨g, 0, none⟩) (n + k) cap) (w.setRow g (cur.toList.take (n * 1) ++ List.replicate k (Value.int .u64 0) ++ cur.toList.drop (n * 1 + k)).toArray) := by
        simp only [Nat.add_zero, hz1] at hst
        simp only [Nat.mul_one] at hst ⊢
        simp [Builtin.append_, run_underlying ht, run_underlying htn, sizeOf, typeInfo, zeroValue, hi, hz, asInt, asIntOf, hw, hneg, h48i, hs, hk0, hroom, Addr.add_lit, zeros_list, hst]
      refine ⟨_, _, hr, ⟨hlen, .inr ⟨g, cap, _, rfl, hbg, setRow_heap w g cur _ _ _ hg, hroom, hcm, ?_, ?_⟩⟩, ⟨rfl, rfl, rfl, by simp, fun j _ hj => setRow_other w g j _ (fun e => hj (by simp [Value.ownBlock, e]))⟩, Or.inl rfl⟩
      · simp only [List.size_toArray, List.length_append, List.length_take, List.length_drop, Array.length_toList, List.length_replicate]
        omega
      · rw [htake, ← hlen]
        exact List.take_left
    · have holds : ∀ j u, xs[j]? = some u → w.cell? ((⟨g, 0, none⟩ : Addr).add j) = some u := hown.cells (g := g) rfl
      have hf := run_firstCells_some (P := Tryd.prog) w.drew i.size n ⟨g, 0, none⟩ n cap xs (by rw [hs]; exact hown.1) (by exact holds)
      have hr := Lib.run_append_grow_zeros (P := Tryd.prog) w 55 3 ty 100 i (.int .u64 0) .i64 .i64 ht htn hi hz (some ⟨g, 0, none⟩) n cap xs hf k h0 (by rw [hs]; decide) (by omega) (by omega) (by rw [hby]; omega) (by rw [hby]; exact growslice_fits (by omega) (by omega))
      obtain ⟨g1, g2⟩ := grown cap (Value.ownBlock (.slice (some ⟨g, 0, none⟩) n cap))
      exact ⟨_, _, hr, g1, g2, Or.inr rfl⟩
end Go.Proofs.YtnjafmjkaajbkaaDoor
