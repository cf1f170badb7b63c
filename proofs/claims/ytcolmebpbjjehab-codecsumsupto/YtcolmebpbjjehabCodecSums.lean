/- The check of lists is that of all their bytes, one behind the other. -/
import Derived.Test.YtcolmebpbjjehabSumsM
import Derived.Deep.QuietTactic
import Derived.BigQuiet
namespace Go.Proofs.Ytcolmebpbjjehab
open Go.ChangeShapes Go.WideShapes Go.ChangeAt Go.RowKit
open Go.ChangeMaps (open_string shut_string)
set_option linter.unusedVariables false

theorem flat_byte {w : World} {p : Option Addr} {ls : List (Option Addr × Nat × List Int)} (h : Rws w p ls) : ∀ y ∈ flat ls, 0 ≤ y ∧ y < 256 := by
  intro y hy
  unfold flat at hy
  obtain ⟨l, hl, hyl⟩ := List.mem_flatten.1 hy
  obtain ⟨q, hq, rfl⟩ := List.mem_map.1 hl
  obtain ⟨i, hi, he⟩ := List.mem_iff_getElem.1 hq
  obtain ⟨b, o, _, hc⟩ := h (by omega)
  have := (hc i hi).2.2.2
  rw [he] at this
  exact this y hyl

set_option maxHeartbeats 2000000 in
theorem walk_codecSums (p : Option Addr) (len cap : Nat) (ls : List (Option Addr × Nat × List Int)) (w : World) (hin : InR w p len cap ls) :
    Calls Try.prog 6 #[.slice p len cap] w fun e w' => e = .returned (.bool true) ∧ Below w.heap.size w w' := by
  have HI : Hid (InR w p len cap ls) := hin
  have hfew := hin.few
  have HS : Hid ((flat ls).length ≤ 1048576) := hin.small
  clear hin
  go_enter Try.func6, Try.ntmps6
  go_wp2_with fail
  go_loopw [3, 8] (fun v i wr => ∃ k : Nat, k ≤ len ∧ i = .int .i64 k ∧ Hid (Own wr w.heap.size v (flat (ls.take k)).length (flat (ls.take k))) ∧ Hid (Below w.heap.size w wr)) (fun _ i _ => len - (intOf i).toNat)
  case atStart => exact ⟨0, Nat.zero_le _, rfl, World.ownsRow_nil _ _ _ _, Below.refl _ _⟩
  case round =>
    obtain ⟨k, hk, rfl, ho, hb⟩ := hrel
    by_cases hlt : k < len
    · have hkl : k < ls.length := by rw [HI.out.lenq]; exact hlt
      have HF : Hid (flat (ls.take (k + 1)) = flat (ls.take k) ++ ls[k].2.2) := flat_take ls k hkl
      have HSM : Hid ((flat (ls.take (k + 1))).length ≤ 1048576) := Nat.le_trans (flat_part ls (k + 1)) HS.out
      obtain ⟨b0, o0, rfl, hrow⟩ := (HI.out.below hb.out).rows (by omega)
      obtain ⟨hcell, hbys, h9, h10⟩ := hrow k hkl
      clear h9 h10
      have hnil := HI.out.nils k hkl
      obtain ⟨q, hq⟩ : ∃ q, ls[k] = q := ⟨_, rfl⟩
      obtain ⟨p1, c1, xs⟩ := q
      rw [hq] at hcell hbys hnil HF
      simp only at hcell hbys hnil HF
      have HBY : Hid (Bys wr p1 xs) := hbys
      have HNI : Hid (p1 = none → xs.length = 0 ∧ c1 = 0) := hnil
      obtain ⟨F, hF⟩ : ∃ F, flat (ls.take k) = F := ⟨_, rfl⟩
      rw [hF] at ho HF
      have HSN : Hid (F.length + xs.length ≤ 1048576) := by
        have := HSM.out
        rw [HF.out, List.length_append] at this
        exact this
      have HRT : Hid (∀ v wn, Own wn w.heap.size v (F.length + xs.length) (F ++ xs) → Own wn w.heap.size v (flat (ls.take (k + 1))).length (flat (ls.take (k + 1)))) := by
        intro v wn h
        rw [HF.out, List.length_append]
        exact h
      obtain ⟨n1, hn1⟩ : ∃ n1, F.length = n1 := ⟨_, rfl⟩
      obtain ⟨n2, hn2⟩ : ∃ n2, xs.length = n2 := ⟨_, rfl⟩
      rw [hn1, hn2] at HSN HRT
      rw [hn1] at ho
      rw [hn2] at hcell HNI
      have hsn : n1 + n2 ≤ 1048576 := HSN.out
      have HN2 : Hid (xs.length = n2) := hn2
      clear hrow hbys hnil hq hF hn1 hn2 HF HSM hkl
      have hsz : w.heap.size ≤ wr.heap.size := hb.out.size
      go_wp2_with (at_builtin; refine app8 _ rfl _ _ rfl w.heap.size _ n1 F rfl ho.out p1 n2 c1 xs rfl HBY.out HN2.out HNI.out (by omega) hsz ?_)
      intro v2 w2 HO2 hb2
      have HR2 : Hid _ := HRT.out v2 w2 HO2
      have HB2 : Hid (Below w.heap.size w w2) := hb.out.trans hb2
      clear HO2 hb2 ho hb HRT
      go_wp2
      go_roundw
      case rel => exact ⟨k + 1, by omega, by go_num, HR2, HB2⟩
      case measure => simp [intOf]; omega
    · obtain rfl : k = len := by omega
      have e : ls.take k = ls := List.take_of_length_le (by rw [HI.out.lenq]; exact Nat.le_refl _)
      rw [e] at ho
      obtain ⟨N, hN⟩ : ∃ N, (flat ls).length = N := ⟨_, rfl⟩
      rw [hN] at ho HS
      have hN1 : N ≤ 1048576 := HS.out
      have HN : Hid ((flat ls).length = N) := hN
      have HFB : Hid (∀ y ∈ flat ls, 0 ≤ y ∧ y < 256) := flat_byte HI.out.rows
      clear hlt hk e hN
      go_wp2_with fail
      refine (live_any _).mono ?_
      rintro e w2 ⟨rfl, hb2⟩
      have hB2 := hb.out.trans (hb2.mono hb.out.size)
      have OX2 := Own.below ho.out hb2 (Nat.le_refl _)
      have HI2 : Hid (InR w2 p k cap ls) := HI.out.below hB2
      obtain ⟨pa, ca, hva, hca, hpa, hbya⟩ := OX2.bys
      subst hva
      have HBA : Hid (Bys w2 pa (flat ls)) := hbya
      clear ho hb hb2 OX2 hbya hpa
      go_wp2_with fail
      refine (sum_any p cap k ls _ HI2.out.lenq HI2.out.rows (by omega)).mono ?_
      rintro e w3 ⟨rfl, hw3⟩
      subst hw3
      go_wp2_with fail
      refine (refSum_any pa ca N (flat ls) _ HN.out HBA.out (by omega) HFB.out).mono ?_
      rintro e w4 ⟨rfl, hw4⟩
      subst hw4
      obtain ⟨S, hS⟩ : ∃ S, Cd.sum (flat ls) = S := ⟨_, rfl⟩
      have HSS : Hid (Cd.sum (flat ls) = S) := hS
      rw [hS]
      clear hS
      have hss : (S == S) = true := by simp
      have HR : Hid (Rws (w4.alloc (.cells #[.slice pa N ca] 22)) (some ⟨w4.heap.size, 0, none⟩) [(pa, ca, flat ls)]) := rows_one N ca HN.out HBA.out (by omega) HFB.out
      have hB5 : Below w.heap.size w (w4.alloc (.cells #[.slice pa N ca] 22)) := hB2.alloc hB2.size _
      have HBA5 : Hid (Bys (w4.alloc (.cells #[.slice pa N ca] 22)) pa (flat ls)) := HBA.out.below ((Below.refl _ _).alloc (Nat.le_refl _) _) (Nat.le_refl _)
      go_wp2_with fail
      refine (sum_any _ _ 1 _ _ rfl HR.out (by omega)).mono ?_
      rintro e w5 ⟨rfl, hw5⟩
      have hB6 : Below w.heap.size w w5 := by rw [hw5]; exact hB5
      have HBA6 : Hid (Bys w5 pa (flat ls)) := by rw [hw5]; exact HBA5.out
      clear hw5 HR hB5 HBA5
      rw [flat_one, HSS.out]
      go_wp2_with fail
      refine (refSum_any pa ca N (flat ls) _ HN.out HBA6.out (by omega) HFB.out).mono ?_
      rintro e w6 ⟨rfl, hw6⟩
      subst hw6
      rw [HSS.out]
      go_wp2
      go_ret
      exact ⟨rfl, hB6⟩

theorem contract_codecSums (H : Type) (enc : TypeId × Value → H) (W : World) (base : Nat) (args : Array Value) (ds gs : List (DataW H)) (before : List MemPlace)
    (hval0 : ∀ (j : Nat) t v, Try.f6.params[j]? = some t → args[j]? = some v → Value.okWide Try.prog W .any base t v)
    (hW : DataW.Whole enc Try.prog Try.f6.params.toList Rows.codecSumsSpec.vars false W args.toList ds gs before) (hk : Rows.uptoSmall H (ds ++ gs) = true) :
    Calls Try.prog 6 args W fun e W' => ∃ v, e = .returned v ∧ Rows.codecSumsSpec.post enc Try.prog Try.f6 false true false false W args v W' := by
  have hval : ∀ (j : Nat) t v, Try.f6.params[j]? = some t → args[j]? = some v → Value.okWide Try.prog W .any base t v := hval0
  have hW' := hW
  obtain ⟨p, q, hA0, hV, rfl, hfz, hnd⟩ := hW
  have hA : DataW.TrodAll enc Try.prog W 0 (fun _ => true) true Try.f6.params.toList args.toList ds p := hA0
  rw [Try.params6] at hA hval
  obtain ⟨v0, vs0, d0, ds0, p0, q0, hargs, rfl, rfl, h0, r0⟩ := trodAll_cons hA
  obtain ⟨rfl, rfl, rfl⟩ := trodAll_nil r0
  obtain rfl : args = #[v0] := by cases args; simp_all
  obtain ⟨rfl, rfl⟩ := trodVars_none hV
  simp only [List.append_nil] at hk
  obtain ⟨a0, len0, cap0, rfl⟩ := okWide_slice Try.underlying40 (hval 0 40 v0 rfl rfl)
  have k0 := h0
  have lt0 : ∀ x ∈ p0, x.block < W.heap.size := by obtain ⟨m, hm⟩ := k0; exact DataW.trod_lt m _ _ _ hm
  obtain ⟨z0, w0⟩ := in_bytess h0 (bulk_le hk (by simp))
  clear hA0 hval0
  simp only [List.append_nil] at hW'
  refine (walk_codecSums a0 len0 cap0 z0 W w0).mono fun e W' ⟨he, bel⟩ => ?_
  subst he
  exact ⟨_, rfl, _, _, _, [], _, [], hW', trodAll_mk1 (shut_bool Try.underlying4 _), (trodAll_cons_mk (Below.trod laidOut (by kernel_rfl) (of_decide_eq_true (by kernel_rfl)) k0 bel lt0) trodAll_mk0), rfl, bel.frame _, fun h => by cases h⟩

set_option maxRecDepth 100000 in
theorem lifted_codecSums (os : Os) (started : os.Started) (H : Type) (enc : TypeId × Value → H) (F : Stop.Interp) :
    ReturnsInHanded {} Try.checked os 6 .any ((Rows.OpenSpec.upto Rows.codecSumsSpec).pre6 enc Try.prog Try.f6 Rows.codecSumsUptoRow.domain false) (((Rows.OpenSpec.upto Rows.codecSumsSpec).at F).post enc Try.prog Try.f6 false true false false) := by
  refine returnsInHanded_of_cond (C := Try.checked) (s := Rows.OpenSpec.upto Rows.codecSumsSpec) (k := Rows.uptoSmall) rfl own started (by kernel_rfl) Try.func6
    (OpenSpec.witness (enc := enc) (C := Try.checked) (s := Rows.OpenSpec.upto Rows.codecSumsSpec) (k := Rows.uptoSmall) rfl false ⟨#[], #[.slice none 0 0], []⟩ 8 (by kernel_rfl) (by kernel_rfl) (by kernel_rfl)
      (x := ([.nil], [], [])) (by kernel_rfl) rfl (by kernel_rfl)) ?_
  intro W base args ds gs before hval hW _ hk _
  exact contract_codecSums H enc W base args ds gs before hval hW hk

/-- The statement. -/
theorem codecSums_holds : Rows.CodecSumsUptoSaid :=
  OpenClaim.holds_of_cond 6 Try.f6 rfl rfl rfl rfl rfl rfl rfl ⟨rfl, rfl, rfl, rfl, rfl⟩ rfl rfl rfl rfl rfl (by kernel_rfl) Try.func6 (by kernel_rfl)
    (of_decide_eq_true (by kernel_rfl)) (by unfold Func.isWrapper; first | (rw [if_pos (by decide +kernel)]; kernel_rfl) | (rw [if_neg (by decide +kernel)]; exact ⟨rfl, rfl⟩))
    (fun os started H enc _ F => lifted_codecSums os started H enc F)
#print axioms codecSums_holds
end Go.Proofs.Ytcolmebpbjjehab
