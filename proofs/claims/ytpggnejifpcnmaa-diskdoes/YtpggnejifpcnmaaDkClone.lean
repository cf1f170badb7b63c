/- A disk's clone. -/
import Derived.Test.YtpggnejifpcnmaaDkSep
import Derived.Test.YtpggnejifpcnmaaDkLay
namespace Go.Proofs.Ytpggnejifpcnmaa
open Go.RowKit Go.Maps
set_option linter.unusedVariables false
set_option maxRecDepth 100000

/-- The cells of n sure sectors. -/
def sureCells (n : Nat) (f : Nat → List Int) : List Value := (List.range (n * 512)).map fun k => .int .u8 ((f (k / 512)).getD (k % 512) 0)

theorem sureCells_at {n : Nat} {f : Nat → List Int} {k : Nat} {u : Value} (h : (sureCells n f)[k]? = some u) : k < n * 512 ∧ u = .int .u8 ((f (k / 512)).getD (k % 512) 0) := by
  unfold sureCells at h
  have hk : k < n * 512 := by
    have := (List.getElem?_eq_some_iff.1 h).1
    simpa using this
  rw [List.getElem?_map, List.getElem?_range hk] at h
  simp at h
  exact ⟨hk, h.symm⟩

theorem sure_one (n : Nat) (f : Nat → List Int) : ∀ u ∈ sureCells n f, u.oneCell' = true := by
  intro u hu
  unfold sureCells at hu
  obtain ⟨k, _, rfl⟩ := List.mem_map.1 hu
  rfl

set_option maxHeartbeats 1000000 in
theorem cloneS_any (S c n : Nat) (f : Nat → List Int) (cur : Array Value) (w : World) (hk : Bk w S 79 cur) (hz : SureAt cur n f) (h1 : 1 ≤ n) (h2 : n ≤ 16384) :
    Calls Try.prog 54 #[.slice (some ⟨S, 0, none⟩) n c] w fun e w' => ∃ S' c' cur', e = .returned (.slice (some ⟨S', 0, none⟩) n c') ∧ Bk w' S' 79 cur' ∧ SureAt cur' n f ∧ w.heap.size ≤ S' ∧ Below w.heap.size w w' := by
  obtain ⟨i0, hi, hz0, hz1, hz2⟩ := info_parts secinfo
  have qnil : ∀ (w : World) (a : Option Addr) (n c n' c' : Nat), (binOp .eql 57 (.slice a n c) (.slice none n' c')).run Try.prog w = .ok (.bool a.isNone) w := fun w a n c n' c' => Lib.run_eql_slice_nil w _ _ a n c n' c' Try.underlying57
  have hmade : (w.alloc (.cells #[] 79)).ownsRow w.heap.size 79 512 (.slice (some ⟨w.heap.size, 0, none⟩) 0 0) 0 [] := World.ownsRow_made w #[] 0 (Nat.le_refl _) (by decide) rfl
  have hba : Below w.heap.size w (w.alloc (.cells #[] 79)) := (Below.refl _ _).alloc (Nat.le_refl _) _
  have HC : Hid (∀ j u, (sureCells n f)[j]? = some u → (w.alloc (.cells #[] 79)).cell? ((⟨S, 0, none⟩ : Addr).add j) = some u) := by
    intro j u hu
    obtain ⟨hj, rfl⟩ := sureCells_at hu
    rw [Addr.add_lit, Nat.zero_add, (hk.alloc _).cell j]
    have hd : j / 512 < n := by omega
    have := hz.2 (j / 512) hd (j % 512) (Nat.mod_lt _ (by decide))
    rw [show j / 512 * 512 + j % 512 = j by omega] at this
    exact this
  have HL : Hid ((sureCells n f).length = n * 512) := by show _ = _; simp [sureCells]
  have HM : Hid _ := hmade
  clear hk hz hmade
  go_enter Try.func54, Try.ntmps54
  go_wp2_with (at_builtin; refine wpList_append_own _ rfl _ _ 57 rfl w.heap.size 79 i0 (secVal zeros) 512 512 Try.underlying57 hi hz0 hz1 hz2 rfl (by decide) _ 0 [] rfl HM.out ⟨S, 0, none⟩ n c (sureCells n f) rfl HL.out HC.out (sure_one _ _) (by unfold maxLen; omega) (by omega) (by simp) ?_)
  intro v' w1 hown' hg _
  have hb1 : Below w.heap.size w w1 := hba.grown hg (by simp) (fun k hk => by simp [Value.ownBlock] at hk; omega)
  have hw : w1.ownsRow w.heap.size 79 512 v' n (sureCells n f) := by simpa using hown'
  have HE : Hid (∃ S' c' cur', v' = .slice (some ⟨S', 0, none⟩) n c' ∧ Bk w1 S' 79 cur' ∧ SureAt cur' n f ∧ w.heap.size ≤ S' ∧ Below w.heap.size w w1) := by
    rcases hw.2 with ⟨_, hn0⟩ | ⟨g, cap, cur, hv, hbb, hgg, hle, hcm, hcur, htake⟩
    · omega
    · refine ⟨g, cap, cur, hv, hgg, ⟨?_, fun i hi j hj => ?_⟩, hbb, hb1⟩
      · rw [hcur]
        exact Nat.mul_le_mul_right _ hle
      · have hlt : i * 512 + j < n * 512 := by
          have : (i + 1) * 512 ≤ n * 512 := Nat.mul_le_mul_right _ hi
          omega
        have h3 : cur.toList[i * 512 + j]? = (sureCells n f)[i * 512 + j]? := by rw [← htake, List.getElem?_take, if_pos hlt]
        have h4 : (sureCells n f)[i * 512 + j]? = some (.int .u8 ((f i).getD j 0)) := by
          unfold sureCells
          rw [List.getElem?_map, List.getElem?_range hlt]
          simp only [Option.map_some]
          rw [show (i * 512 + j) / 512 = i by omega, show (i * 512 + j) % 512 = j by omega]
        rw [h4] at h3
        simpa using h3
  clear hg hba HC HL HM hown' hw hb1
  go_wp2
  go_ret
  obtain ⟨S', c', cur', e1, e2⟩ := HE.out
  exact ⟨S', c', cur', by rw [← e1]; rfl, e2⟩

end Go.Proofs.Ytpggnejifpcnmaa
