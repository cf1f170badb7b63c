/- What the document says is dirty. -/
import Derived.Test.YtpggnejifpcnmaaDkRef
import Derived.Test.YtpggnejifpcnmaaDkTold
import Derived.Test.YtpggnejifpcnmaaDkRefB
import Derived.Maps.AppendAt
namespace Go.Proofs.Ytpggnejifpcnmaa
open Go.RowKit Go.Maps
set_option linter.unusedVariables false
set_option maxRecDepth 100000

theorem dkInt : (Try.prog.info? 3).map (fun i => (i.zero, i.size, i.bytes)) = some (some (.int .i64 0), 1, 8) := by kernel_rfl

theorem dkForm {w : World} {base : Nat} {e : TypeId} {size : Nat} {v : Value} {n : Nat} {xs : List Value} (h : w.ownsRow base e size v n xs) : ∃ p k, v = .slice p n k ∧ n ≤ k := by
  rcases h.2 with ⟨hv, hn⟩ | ⟨g, cap, cur, hv, _, _, h1, h2, _⟩
  · exact ⟨none, 0, by rw [hv, hn], by omega⟩
  · exact ⟨_, cap, hv, h1⟩

theorem dkNews (w : World) (cs : List Value) (t : TypeId) : ∀ ad, some (⟨w.heap.size, 0, none⟩ : Addr) = some ad → ∀ j u, cs[j]? = some u → (w.alloc (.cells cs.toArray t)).cell? (ad.add j) = some u := by
  intro ad had j u hu
  cases had
  rw [show (⟨w.heap.size, 0, none⟩ : Addr).add j = ⟨w.heap.size, j, none⟩ by unfold Addr.add; split <;> simp_all]
  rw [(Bk.new w t cs.toArray).cell j]
  simpa using hu

/-- Numbers as cells. -/
def numCells (l : List Nat) : List Value := l.map fun (i : Nat) => .int .i64 (i : Int)

/-- A row of ints of one's own, as a slice that leads to them. -/
theorem its_own {w : World} {base : Nat} {p : Option Addr} {n c : Nat} {l : List Nat} (h : w.ownsRow base 3 1 (.slice p n c) n (numCells l)) (hl : l.length = n) : Its w p (ints l) := by
  intro h0
  rcases h.2 with ⟨_, hn⟩ | ⟨g, cap, cur, hv, hbb, hgg, hle, hcm, hcur, htake⟩
  · simp [ints] at h0; omega
  · simp only [Value.slice.injEq] at hv
    obtain ⟨rfl, _, rfl⟩ := hv
    refine ⟨g, 0, rfl, fun i hi => ?_⟩
    have hb : Bk w g 3 cur := hgg
    have hil : i < l.length := by simpa [ints] using hi
    have h2 : cur.toList[i]? = (numCells l)[i]? := by
      rw [← htake, List.getElem?_take, if_pos (by omega)]
    rw [hb.cell, Nat.zero_add]
    have h3 : cur[i]? = (numCells l)[i]? := by simpa using h2
    rw [h3]
    simp [numCells, ints, List.getElem?_eq_getElem hil]

set_option maxHeartbeats 1000000 in
theorem rdirty {w : World} {R : Nat} {bs : List Nat} {d : Dk} (h : Rf w R bs d) :
    Calls Try.prog 36 #[.pointer (some ⟨R, 0, none⟩)] w fun e w' => ∃ p c, e = .returned (.slice p (dirts d.dirty d.n).length c) ∧ Its w' p (ints (dirts d.dirty d.n)) ∧ Below w.heap.size w w' := by
  obtain ⟨N, S, D, cN, cS, p, c, kk, kb, -, h⟩ := h
  have HH : Hid (IsRf w R N S D cN cS p c kk kb d) := h
  have HN2 : Hid (d.n ≤ 16384) := h.n2
  obtain ⟨n, hn⟩ : ∃ n, d.n = n := ⟨_, rfl⟩
  have HN : Hid (d.n = n) := hn
  have hn2 : n ≤ 16384 := by have := h.n2; omega
  clear hn h
  go_enter Try.func36, Try.ntmps36
  go_wp2_with fail
  go_loopw [3, 4] (fun vv iv wr => ∃ j m : Nat, j ≤ n ∧ iv = .int .i64 (j : Int) ∧ Hid ((dirts d.dirty j).length = m) ∧ Hid (wr.ownsRow w.heap.size 3 1 vv m (numCells (dirts d.dirty j))) ∧ Hid (Below w.heap.size w wr)) (fun _ iv _ => n - (intOf iv).toNat)
  case atStart => exact ⟨0, 0, Nat.zero_le _, rfl, rfl, World.ownsRow_nil _ _ _ _, Below.refl _ _⟩
  case round =>
    obtain ⟨j, m, hj, rfl, HM, HO, HB⟩ := hrel
    obtain ⟨pv, cv, rfl, -⟩ := dkForm HO.out
    have HR : Hid (IsRf wr R N S D cN cS p c kk kb d) := HH.out.tn (T := []) (Tn.of_below HB.out []) (by simp)
    obtain ⟨-, -, c2, -, -, -, -⟩ := HR.out.cells
    rw [HN.out] at c2
    have hmj : m ≤ j := by have := dirts_le d.dirty j; rw [HM.out] at this; exact this
    by_cases hq : j < n
    · obtain ⟨b0, -⟩ := HR.out.dirty.cell (i := j) (by have := HN.out; omega)
      have hqi : (j : Int) < (n : Int) := by omega
      have b1 : (0 : Int) ≤ (j : Int) := by omega
      have HDS : Hid (dirts d.dirty (j + 1) = dirts d.dirty j ++ (if (d.dirty j).isSome = true then [j] else [])) := dirts_succ _ _
      cases hdj : (d.dirty j).isSome with
      | false =>
        rw [hdj] at b0
        have HE : Hid (dirts d.dirty (j + 1) = dirts d.dirty j) := by
          show _ = _
          rw [HDS.out, hdj]
          simp
        clear hdj HDS HR
        go_wp2
        go_roundw
        case rel => exact ⟨j + 1, m, by omega, by go_num, by rw [HE.out]; exact HM, by rw [HE.out]; exact HO, HB⟩
        case measure => simp [intOf]; omega
      | true =>
        rw [hdj] at b0
        have HE : Hid (dirts d.dirty (j + 1) = dirts d.dirty j ++ [j]) := by
          show _ = _
          rw [HDS.out, hdj]
          simp
        have HO1 : Hid ((wr.alloc (.cells #[.int .i64 (j : Int)] 3)).ownsRow w.heap.size 3 1 (.slice pv m cv) m (numCells (dirts d.dirty j))) := World.ownsRow.alloc HO.out _
        have HSZ : Hid (w.heap.size ≤ (wr.alloc (.cells #[.int .i64 (j : Int)] 3)).heap.size) := by
          show _ ≤ _
          have := HB.out.size
          simp
          omega
        obtain ⟨i0, hi0, hz0, hz1, hz2⟩ := info_parts dkInt
        clear hdj HDS HR
        go_wp2_with (at_builtin; refine wpList_append_own_at _ rfl _ _ _ rfl w.heap.size 3 i0 (.int .i64 0) 1 8 Try.underlying70 hi0 hz0 hz1 hz2 rfl (by decide) (.slice pv m cv) m (numCells (dirts d.dirty j)) rfl HO1.out ⟨wr.heap.size, 0, none⟩ 1 1 [.int .i64 (j : Int)] rfl rfl (dkNews wr [.int .i64 (j : Int)] 3 _ rfl) (by simp [Value.oneCell']) (by unfold maxLen; omega) (by omega) HSZ.out ?_)
        intro v2 w2 o2 t2 b0' b2
        obtain ⟨p2, c2', hv2, -⟩ := dkForm o2
        subst hv2
        have HO2 : Hid (w2.ownsRow w.heap.size 3 1 (.slice p2 (m + 1) c2') (m + 1) (numCells (dirts d.dirty (j + 1)))) := by
          rw [HE.out, show numCells (dirts d.dirty j ++ [j]) = numCells (dirts d.dirty j) ++ [.int .i64 (j : Int)] by simp [numCells]]
          exact o2
        have HB2 : Hid (Below w.heap.size w w2) := by
          have h1 : Below w.heap.size w (wr.alloc (.cells #[.int .i64 (j : Int)] 3)) := HB.out.alloc HB.out.size _
          exact h1.grown t2 HSZ.out fun k hk => (World.ownsRow.lt HO1.out k hk).1
        have HM2 : Hid ((dirts d.dirty (j + 1)).length = m + 1) := by
          show _ = _
          rw [HE.out, List.length_append, HM.out]
          rfl
        clear o2 t2 b0' b2 HO HO1 HB HM HSZ b0 c2
        go_wp2
        go_roundw
        case rel => exact ⟨j + 1, m + 1, by omega, by go_num, HM2, HO2, HB2⟩
        case measure => simp [intOf]; omega
    · have hjn : j = n := by omega
      subst hjn
      clear c2
      obtain ⟨-, -, c2, -, -, -, -⟩ := HR.out.cells
      rw [HN.out] at c2
      go_wp2
      go_ret
      rw [HN.out]
      exact ⟨pv, cv, by rw [HM.out]; rfl, its_own HO.out HM.out, HB.out⟩

end Go.Proofs.Ytpggnejifpcnmaa
