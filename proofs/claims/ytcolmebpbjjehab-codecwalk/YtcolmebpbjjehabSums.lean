import Derived.Test.YtcolmebpbjjehabReads
namespace Go.Proofs.Ytcolmebpbjjehab
open Go.RowKit
set_option linter.unusedVariables false

namespace Cd
/-- One byte more in the check. -/
def ad (st : Int × Int) (x : Int) : Int × Int := ((st.1 + x) % 65521, (st.2 + (st.1 + x) % 65521) % 65521)
def adl (xs : List Int) : Int × Int := xs.foldl ad (1, 0)
/-- The check of bytes. -/
def sum (xs : List Int) : Int := (adl xs).2 * 65536 + (adl xs).1

theorem adl_snoc (xs : List Int) (x : Int) : adl (xs ++ [x]) = ad (adl xs) x := by simp [adl, List.foldl_append]

theorem fold_ad_bd (xs : List Int) : ∀ st : Int × Int, 0 ≤ st.1 ∧ st.1 < 65521 → 0 ≤ st.2 ∧ st.2 < 65521 → (0 ≤ (xs.foldl ad st).1 ∧ (xs.foldl ad st).1 < 65521) ∧ (0 ≤ (xs.foldl ad st).2 ∧ (xs.foldl ad st).2 < 65521) := by
  induction xs with
  | nil => intro st a b; exact ⟨a, b⟩
  | cons x l ih =>
    intro st a b
    simp only [List.foldl_cons]
    exact ih _ (by unfold ad; simp only; omega) (by unfold ad; simp only; omega)

theorem adl_bd (xs : List Int) : (0 ≤ (adl xs).1 ∧ (adl xs).1 < 65521) ∧ (0 ≤ (adl xs).2 ∧ (adl xs).2 < 65521) := fold_ad_bd xs (1, 0) (by decide) (by decide)

theorem sum_bd (xs : List Int) : 0 ≤ sum xs ∧ sum xs < 4294967296 := by
  have := adl_bd xs
  unfold sum
  omega
end Cd

set_option maxHeartbeats 400000 in
theorem less_any (n : Int) (w : World) (h0 : 0 ≤ n) (h1 : n < 131042) :
    Calls Try.prog 34 #[.int .u32 n] w fun e w' => e = .returned (.int .u32 (n % 65521)) ∧ w' = w := by
  by_cases h : n < 65521
  · go_enter Try.func34, Try.ntmps34
    go_wp2
    go_ret
    exact ⟨ret_int (by omega), rfl⟩
  · go_enter Try.func34, Try.ntmps34
    go_wp2
    go_ret
    exact ⟨ret_int (by omega), rfl⟩

/-- A slice of slices of bytes: of each its address, its capacity, its bytes. -/
def Rws (w : World) (p : Option Addr) (ls : List (Option Addr × Nat × List Int)) : Prop :=
  0 < ls.length → ∃ b o, p = some ⟨b, o, none⟩ ∧ ∀ i (h : i < ls.length), w.cell? ⟨b, o + i, none⟩ = some (.slice ls[i].1 ls[i].2.2.length ls[i].2.1) ∧ Bys w ls[i].1 ls[i].2.2 ∧ ls[i].2.2.length ≤ 9223372036854775807 ∧ ∀ y ∈ ls[i].2.2, 0 ≤ y ∧ y < 256

/-- All bytes, one behind the other. -/
def flat (ls : List (Option Addr × Nat × List Int)) : List Int := (ls.map (·.2.2)).flatten

theorem flat_take (ls : List (Option Addr × Nat × List Int)) (k : Nat) (h : k < ls.length) : flat (ls.take (k + 1)) = flat (ls.take k) ++ ls[k].2.2 := by
  unfold flat
  rw [List.take_succ_eq_append_getElem h, List.map_append, List.flatten_append]
  simp only [List.map_cons, List.map_nil, List.flatten_cons, List.flatten_nil, List.append_nil]

theorem or_shl (a b : Int) (ha : 0 ≤ a ∧ a < 65521) (hb : 0 ≤ b ∧ b < 65521) : bits .or .u32 (b * 65536) a = b * 65536 + a := by
  rw [u32_or _ _ (by omega) (by omega) ha.1 (by omega), nat_join 16 _ _ (by omega) (by omega)]
  omega

set_option maxHeartbeats 1000000 in
/-- codec.Sum. -/
theorem sum_any (p : Option Addr) (c n : Nat) (ls : List (Option Addr × Nat × List Int)) (w : World) (hn : ls.length = n) (hx : Rws w p ls) (hm : n ≤ 9223372036854775807) :
    Calls Try.prog 20 #[.slice p n c] w fun e w' => e = .returned (.int .u32 (Cd.sum (flat ls))) ∧ w' = w := by
  have HN : Hid (ls.length = n) := hn
  have HX : Hid (Rws w p ls) := hx
  clear hn hx
  go_enter Try.func20, Try.ntmps20
  go_wp2_with fail
  go_loop [3, 4, 11] (fun s3 s4 i => ∃ (k : Nat) (a b : Int), k ≤ n ∧ i = .int .i64 k ∧ s3 = .int .u32 a ∧ s4 = .int .u32 b ∧ (0 ≤ a ∧ a < 65521) ∧ (0 ≤ b ∧ b < 65521) ∧ Hid ((a, b) = Cd.adl (flat (ls.take k)))) (fun _ _ i => n - (intOf i).toNat)
  case atStart => exact ⟨0, 1, 0, Nat.zero_le _, rfl, rfl, rfl, by omega, by omega, rfl⟩
  case round =>
    obtain ⟨k, a, b, hk, rfl, rfl, rfl, ha, hb, hab⟩ := hrel
    by_cases hlt : k < n
    · have hkl : k < ls.length := by rw [HN.out]; exact hlt
      obtain ⟨bb, oo, rfl, hrow⟩ := HX.out (by omega)
      obtain ⟨hcell, hbys, hsm, hbyt⟩ := hrow k hkl
      have HF : Hid (flat (ls.take (k + 1)) = flat (ls.take k) ++ ls[k].2.2) := flat_take ls k hkl
      obtain ⟨q, hq⟩ : ∃ q, ls[k] = q := ⟨_, rfl⟩
      obtain ⟨p1, c1, xs⟩ := q
      rw [hq] at hcell hbys hsm hbyt HF
      simp only at hcell hbys hsm hbyt HF
      have HB : Hid (Bys w p1 xs) := hbys
      have HY : Hid (∀ y ∈ xs, 0 ≤ y ∧ y < 256) := hbyt
      clear hrow hbys hbyt hq
      obtain ⟨m, hm2⟩ : ∃ m, xs.length = m := ⟨_, rfl⟩
      rw [hm2] at hcell hsm
      have HM : Hid (xs.length = m) := hm2
      clear hm2
      go_wp2_with fail
      go_loop [3, 4, 17] (fun s3 s4 i => ∃ (j : Nat) (a b : Int), j ≤ m ∧ i = .int .i64 j ∧ s3 = .int .u32 a ∧ s4 = .int .u32 b ∧ (0 ≤ a ∧ a < 65521) ∧ (0 ≤ b ∧ b < 65521) ∧ Hid ((a, b) = Cd.adl (flat (ls.take k) ++ xs.take j))) (fun _ _ i => m - (intOf i).toNat)
      case atStart => exact ⟨0, a, b, Nat.zero_le _, rfl, rfl, rfl, ha, hb, by simpa [Hid] using hab.out⟩
      case round =>
        clear ha hb hab
        rename_i a0 b0
        obtain ⟨j, a, b, hj, rfl, rfl, rfl, ha, hb, hab⟩ := hrel
        by_cases hjm : j < m
        · have hjx : j < xs.length := by rw [HM.out]; exact hjm
          obtain ⟨b1, o1, rfl, hcs⟩ := HB.out (by omega)
          have hcy := hcs j hjx
          obtain ⟨y, hy⟩ : ∃ y, xs.getD j 0 = y := ⟨_, rfl⟩
          rw [hy] at hcy
          have hyb : 0 ≤ y ∧ y < 256 := by
            rw [← hy]
            have := HY.out xs[j] (List.getElem_mem hjx)
            simpa [List.getD, hjx] using this
          have HT : Hid (xs.take (j + 1) = xs.take j ++ [y]) := by
            unfold Hid
            rw [Cd.take_snoc xs j hjx, hy]
          clear hcs hy
          go_wp2_with fail
          refine (less_any (a + y) _ (by omega) (by omega)).mono ?_
          rintro e w1 ⟨rfl, rfl⟩
          obtain ⟨a', ha'⟩ : ∃ a', (a + y) % 65521 = a' := ⟨_, rfl⟩
          have HA : Hid ((a + y) % 65521 = a') := ha'
          have hab' : 0 ≤ a' ∧ a' < 65521 := by omega
          rw [ha']
          clear ha'
          go_wp2_with fail
          refine (less_any (b + a') _ (by omega) (by omega)).mono ?_
          rintro e w2 ⟨rfl, rfl⟩
          obtain ⟨b', hb'⟩ : ∃ b', (b + a') % 65521 = b' := ⟨_, rfl⟩
          have HBB : Hid ((b + a') % 65521 = b') := hb'
          have hbb' : 0 ≤ b' ∧ b' < 65521 := by omega
          rw [hb']
          clear hb'
          have HQ : Hid ((a', b') = Cd.adl (flat (ls.take k) ++ xs.take (j + 1))) := by
            unfold Hid
            rw [HT.out, ← List.append_assoc, Cd.adl_snoc, ← hab.out]
            simp only [Cd.ad]
            rw [HA.out, HBB.out]
          go_wp2
          go_round
          case rel => exact ⟨j + 1, a', b', by omega, by go_num, rfl, rfl, hab', hbb', HQ⟩
          case measure => simp [intOf]; omega
        · obtain rfl : j = m := by omega
          have HQ : Hid ((a, b) = Cd.adl (flat (ls.take (k + 1)))) := by
            unfold Hid
            rw [HF.out, hab.out, show xs.take j = xs from List.take_of_length_le (by rw [HM.out]; omega)]
          go_wp2
          go_round
          case rel => exact ⟨k + 1, a, b, by omega, by go_num, rfl, rfl, ha, hb, HQ⟩
          case measure => simp [intOf]; omega
    · obtain rfl : k = n := by omega
      have HQ : Hid (b * 65536 + a = Cd.sum (flat ls)) := by
        have h := hab.out
        rw [List.take_of_length_le (by rw [HN.out]; omega)] at h
        unfold Hid Cd.sum
        rw [← h]
      go_wp2
      go_ret
      exact ⟨ret_int (by rw [or_shl a b ha hb, HQ.out]), rfl⟩
end Go.Proofs.Ytcolmebpbjjehab
