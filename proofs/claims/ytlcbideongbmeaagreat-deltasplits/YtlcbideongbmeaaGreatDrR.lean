/- slices.Repeat of one number. -/
import Derived.Test.YtlcbideongbmeaaGreatDrN1
import Derived.Test.YtlcbideongbmeaaGreatDrLay
import Derived.Laws.CopyRow
import Derived.Laws.IdiomCopy
import Derived.Shelf.Bits.Mul64
import Derived.Shelf.RegionOpen
namespace Go.Proofs.YtlcbideongbmeaaGreat
open Go.RowKit Go.Lib Go.Shelf
set_option linter.unusedVariables false
set_option maxRecDepth 100000

theorem intsize : (Tryz.prog.info? 3).map (·.size) = some 1 := by kernel_rfl

def rep (m K : Nat) (R : Int) : List Int := List.replicate m R ++ List.replicate (K - m) 0

theorem rep_len (m K : Nat) (R : Int) (h : m ≤ K) : (rep m K R).length = K := by simp [rep]; omega

theorem copy_rep {w : World} {g m K c : Nat} {R : Int} (hB : Bk w g 3 (ints (rep m K R)).toArray) (hc : c = Nat.min m (K - m)) (hm : m ≤ K) :
    ∃ w', (∀ ty dc sc, (Builtin.copy_ #[115, 115] ty #[.slice (some ⟨g, m, none⟩) (K - m) dc, .slice (some ⟨g, 0, none⟩) m sc]).run Tryz.prog w = .ok (goInt (c : Int)) w') ∧ Bk w' g 3 (ints (rep (m + c) K R)).toArray ∧ Tn [g] w w' := by
  have hlr := rep_len m K R hm
  have hcm : c ≤ m ∧ c ≤ K - m := by subst hc; simp only [Nat.min_def]; split <;> omega
  have hsz : (ints (rep m K R)).toArray.size = K := by simp [ints, hlr]
  have hr := fun ty dc sc => run_copy_row (P := Tryz.prog) w 115 115 ty 3 g m (K - m) dc ⟨g, 0, none⟩ m sc (ints (rep m K R)).toArray 3 (ints (List.replicate c R)) Tryz.underlying115 intsize hB (by rw [ints_length, List.length_replicate]; exact hc)
    (fun j v hj => by
      rw [show (⟨g, 0, none⟩ : Addr).add j = ⟨g, j, none⟩ by unfold Addr.add; split <;> simp_all]
      rw [hB.cell j]
      have hjc : j < c := by have := (List.getElem?_eq_some_iff.1 hj).1; simpa [ints] using this
      simp only [ints, List.getElem?_toArray, List.getElem?_map] at hj ⊢
      rw [show (rep m K R)[j]? = (List.replicate c R)[j]? by
        rw [rep, List.getElem?_append_left (by simp; omega)]
        simp [hjc, show j < m by omega]]
      exact hj)
    (by rw [hsz, ints_length, List.length_replicate]; omega)
    (fun v hv => by
      obtain ⟨x, _, rfl⟩ := List.mem_map.1 hv
      rfl)
  simp only [ints_length, List.length_replicate] at hr
  refine ⟨_, hr, ?_, (Tn.refl _ w).setRow (.inl (by simp)) _⟩
  have e : ((ints (rep m K R)).toArray.toList.take m ++ ints (List.replicate c R) ++ (ints (rep m K R)).toArray.toList.drop (m + c)) = ints (rep (m + c) K R) := by
    simp only [ints, ← List.map_take, ← List.map_drop, ← List.map_append]
    congr 1
    unfold rep
    rw [List.take_append_of_le_length (by simp), List.take_of_length_le (by simp), List.replicate_append_replicate, List.drop_append]
    simp only [List.length_replicate, List.drop_replicate]
    rw [show m - (m + c) = 0 by omega, show m + c - m = c by omega]
    simp only [List.replicate_zero, List.nil_append]
    rw [show K - m - c = K - (m + c) by omega]
  rw [e]
  exact hB.setRow _

set_option maxHeartbeats 4000000 in
theorem repeat_any (b : Nat) (c K : Nat) (R : Int) (w : World) (hb : w.cell? ⟨b, 0, none⟩ = some (.int .i64 R)) (hK : K ≤ 8796093022207) :
    Calls Tryz.prog 121 #[.slice (some ⟨b, 0, none⟩) 1 c, .int .i64 (K : Int)] w fun e w' => e = .returned (.slice (some ⟨w.heap.size, 0, none⟩) K K) ∧ Ir w' w.heap.size (.slice (some ⟨w.heap.size, 0, none⟩) K K) (List.replicate K R) ∧ Below w.heap.size w w' := by
  have hblt : b < w.heap.size := World.block_lt_of_cell? w _ hb
  have hbb := hb
  have h0 : ¬ (K : Int) < 0 := by omega
  have hKm : ¬ (9223372036854775807 : Int) < (K : Int) := by omega
  obtain ⟨w1, hmk, hI, hB1⟩ := make_ints 115 Tryz.underlying115 K (by omega) w
  have hbk : Bk w1 w.heap.size 3 (ints (List.replicate K 0)).toArray := by
    rcases hI.2 with ⟨h1, _⟩ | ⟨g, cap, cur, hv, _, hg, _, _, hcs, ht⟩
    · cases h1
    · simp only [List.length_replicate, Value.slice.injEq, Option.some.injEq, Addr.mk.injEq, and_true, true_and] at hv
      obtain ⟨hg1, hg2⟩ := hv
      subst hg1
      subst hg2
      have : cur = (ints (List.replicate K 0)).toArray := by
        rw [← ht, List.take_of_length_le (by rw [Array.length_toList, hcs, List.length_replicate]; omega)]
      rw [← this]
      exact hg
  have hb1 : w1.cell? ⟨b, 0, none⟩ = some (.int .i64 R) := by rw [hB1.cell (p := ⟨b, 0, none⟩) hblt]; exact hb
  have HI0 : Hid (K = 0 → Ir w1 w.heap.size (.slice (some ⟨w.heap.size, 0, none⟩) K K) (List.replicate K 0)) := fun _ => hI
  clear hI hb
  by_cases hK0 : K = 0
  · have hcp : ∀ ty, (Builtin.copy_ #[115, 115] ty #[.slice (some ⟨w.heap.size, 0, none⟩) K K, .slice (some ⟨b, 0, none⟩) 1 c]).run Tryz.prog w1 = .ok (goInt 0) w1 := fun ty => run_copy_none w1 _ _ ty 3 _ _ _ _ _ _ Tryz.underlying115 intsize (by rw [hK0]; rfl)
    have HE : Hid (Ir w1 w.heap.size (.slice (some ⟨w.heap.size, 0, none⟩) K K) (List.replicate K R) ∧ Below w.heap.size w w1) := ⟨by have := HI0.out hK0; rw [hK0] at this ⊢; exact this, hB1⟩
    have hlt0 : ¬ (0 : Int) < (K : Int) := by omega
    have HK0 : Hid (K = 0) := hK0
    clear hbk hb1 hbb hK0 HI0
    go_enter Tryz.func121, Tryz.ntmps121
    go_wp2_with fail
    refine (Any.bits_Mul Tryz.drMul 1 K (by omega) (by omega) w).mono ?_
    rintro e w' ⟨rfl, rfl⟩
    rw [show 1 * K / 18446744073709551616 = 0 by omega, show 1 * K % 18446744073709551616 = K by omega]
    go_wp2_with fail
    go_loopw [8] (fun nv wr => nv = .int .i64 0 ∧ wr = w1) (fun _ _ => 0)
    case atStart => exact ⟨rfl, rfl⟩
    case round =>
      obtain ⟨rfl, rfl⟩ := hrel
      go_wp2
      go_ret
      exact ⟨rfl, HE.out.1, HE.out.2⟩
  · obtain ⟨w2, hcp, hb2, ht2⟩ : ∃ w2, (∀ ty, (Builtin.copy_ #[115, 115] ty #[.slice (some ⟨w.heap.size, 0, none⟩) K K, .slice (some ⟨b, 0, none⟩) 1 c]).run Tryz.prog w1 = .ok (goInt 1) w2) ∧ Bk w2 w.heap.size 3 (ints (rep 1 K R)).toArray ∧ Tn [w.heap.size] w1 w2 := by
      have hsz : (ints (List.replicate K 0)).toArray.size = K := by simp [ints]
      refine ⟨w1.setRow w.heap.size (ints (rep 1 K R)).toArray, fun ty => ?_, hbk.setRow _, (Tn.refl _ w1).setRow (.inl (by simp)) _⟩
      have hr := run_copy_row (P := Tryz.prog) w1 115 115 ty 3 w.heap.size 0 K K ⟨b, 0, none⟩ 1 c (ints (List.replicate K 0)).toArray 3 [.int .i64 R] Tryz.underlying115 intsize hbk (by simp only [List.length_singleton, Nat.min_def]; split <;> omega)
        (fun j v hj => by
          have hj0 : j = 0 := by have := (List.getElem?_eq_some_iff.1 hj).1; simp at this; omega
          subst hj0
          simp at hj
          subst hj
          exact hb1) (by rw [hsz]; simp; omega) (fun v hv => by simp at hv; subst hv; rfl)
      rw [hr]
      have e : ((ints (List.replicate K 0)).toArray.toList.take 0 ++ [Value.int .i64 R] ++ (ints (List.replicate K 0)).toArray.toList.drop (0 + [Value.int .i64 R].length)) = ints (rep 1 K R) := by
        simp [ints, rep]
      rw [e]
      rfl
    go_enter Tryz.func121, Tryz.ntmps121
    go_wp2_with fail
    refine (Any.bits_Mul Tryz.drMul 1 K (by omega) (by omega) w).mono ?_
    rintro e w' ⟨rfl, rfl⟩
    rw [show 1 * K / 18446744073709551616 = 0 by omega, show 1 * K % 18446744073709551616 = K by omega]
    have HB2 : Hid (Below w'.heap.size w' w2) := hB1.trans (ht2.below hB1.size (by simp))
    have HK2 : Hid (Bk w2 w'.heap.size 3 (ints (rep 1 K R)).toArray) := hb2
    clear hb2 ht2 hbk hb1 hbb HI0
    go_wp2_with fail
    go_loopw [8] (fun nv wr => ∃ m : Nat, 1 ≤ m ∧ m ≤ K ∧ nv = .int .i64 (m : Int) ∧ Hid (Bk wr w'.heap.size 3 (ints (rep m K R)).toArray ∧ Below w'.heap.size w' wr)) (fun nv _ => K - (intOf nv).toNat)
    case atStart => exact ⟨1, Nat.le_refl _, by omega, rfl, HK2.out, HB2.out⟩
    case round =>
      obtain ⟨m, hm1, hmK, rfl, HW⟩ := hrel
      clear HK2 HB2 hcp hmk
      by_cases hlt : m < K
      · have hli : (m : Int) < (K : Int) := by omega
        have hle : (m : Int) ≤ (K : Int) := by omega
        have hm0 : (0 : Int) ≤ (m : Int) := by omega
        have hne : ¬ K = m := by omega
        obtain ⟨q, hq⟩ : ∃ q, q = Nat.min m (K - m) := ⟨_, rfl⟩
        have hqb : 1 ≤ q ∧ q ≤ K - m := by subst hq; simp only [Nat.min_def]; split <;> omega
        obtain ⟨w3, hcp, hb3, ht3⟩ : ∃ w3, (∀ ty dc sc, (Builtin.copy_ #[115, 115] ty #[.slice (some ⟨w'.heap.size, m, none⟩) (K - m) dc, .slice (some ⟨w'.heap.size, 0, none⟩) m sc]).run Tryz.prog wr.drew = .ok (goInt (q : Int)) w3) ∧ Bk w3 w'.heap.size 3 (ints (rep (m + q) K R)).toArray ∧ Tn [w'.heap.size] wr.drew w3 := by
          exact copy_rep (w := wr.drew) HW.out.1 hq hmK
        have HE : Hid (Bk w3 w'.heap.size 3 (ints (rep (m + q) K R)).toArray ∧ Below w'.heap.size w' w3) := ⟨hb3, (HW.out.2.drew).trans (ht3.below HW.out.2.size (by simp))⟩
        clear hb3 ht3 HW hq
        go_wp2_with fail
        go_region
        go_wp2
        exact ⟨⟨m + q, by omega, by omega, by go_num, HE⟩, by simp [intOf]; omega⟩
      · have hli : ¬ (m : Int) < (K : Int) := by omega
        have hmE : m = K := by omega
        have HE : Hid (Ir wr w'.heap.size (.slice (some ⟨w'.heap.size, 0, none⟩) K K) (List.replicate K R) ∧ Below w'.heap.size w' wr) := by
          refine ⟨?_, HW.out.2⟩
          have h1 := HW.out.1
          rw [hmE] at h1
          have e : rep K K R = List.replicate K R := by simp [rep]
          rw [e] at h1
          unfold Ir
          rw [List.length_replicate]
          exact ⟨by simp [ints], .inr ⟨_, K, _, rfl, Nat.le_refl _, h1, Nat.le_refl _, by unfold maxLen; omega, by simp [ints], by simp [ints]⟩⟩
        clear HW
        go_wp2
        go_ret
        exact ⟨rfl, HE.out.1, HE.out.2⟩
end Go.Proofs.YtlcbideongbmeaaGreat
