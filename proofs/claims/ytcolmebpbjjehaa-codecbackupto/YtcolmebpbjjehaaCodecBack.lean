/- What was put is read, whatever stands behind it, and has just the bytes that were put; where what comes in is of bulk at most 1048576. -/
import Derived.Test.YtcolmebpbjjehaaOpen
import Derived.Test.YtcolmebpbjjehaaApp
import Derived.Test.YtcolmebpbjjehaaFlag
import Derived.Test.YtcolmebpbjjehaaPutText
import Derived.Test.YtcolmebpbjjehaaBack
namespace Go.Proofs.Ytcolmebpbjjehaa
open Go.ChangeShapes Go.WideShapes Go.ChangeAt Go.RowKit
open Go.ChangeMaps (open_string shut_string)
set_option linter.unusedVariables false

theorem decT_put (s : ByteArray) (rest : List Int) (hs : s.size ≤ 9223372036854775807) : Cd.decT (Cd.enc s.size ++ (strB s ++ rest)) = (strB s, (Cd.width s.size : Int) + s.size, 0) := by
  unfold Cd.decT
  rw [Cd.dec_enc _ _ (by omega) (by omega)]
  simp only
  have hl : (Cd.enc s.size ++ (strB s ++ rest)).length = Cd.width s.size + (s.size + rest.length) := by
    rw [List.length_append, List.length_append, Cd.enc_length, strB_length]
  rw [if_neg (by omega), if_neg (by omega), if_neg (by rw [hl]; omega)]
  have e1 : (Cd.enc (s.size : Int) ++ (strB s ++ rest)).drop ((Cd.width s.size : Nat) : Int).toNat = strB s ++ rest := by
    rw [Int.toNat_natCast, ← Cd.enc_length, List.drop_left]
  have e2 : (strB s ++ rest).take (s.size : Int).toNat = strB s := by
    rw [Int.toNat_natCast, ← strB_length, List.take_left]
  rw [e1, e2]

theorem decF_put (yes : Bool) (rest : List Int) : Cd.decF ([if yes then 109 else 108] ++ rest) = (yes, 1, 0) := by
  have e : Cd.dec ([if yes then 109 else 108] ++ rest) = (if yes then 1 else 0, 1, 0) := by
    rw [List.singleton_append, Cd.dec_cons]
    cases yes <;> simp
  unfold Cd.decF
  rw [e]
  cases yes <;> simp

theorem bys_drop {w : World} {b o : Nat} {xs : List Int} (h : Bys w (some ⟨b, o, none⟩) xs) (s : Nat) (hs : s ≤ xs.length) : Bys w (some ⟨b, o + s, none⟩) (xs.drop s) := by
  have := bys_part h s (xs.length - s) (by omega)
  rwa [List.take_of_length_le (by simp)] at this

set_option maxHeartbeats 2000000 in
theorem walk_codecBack (n : Int) (s : ByteArray) (p : Option Addr) (len cap : Nat) (zs : List Int) (w : World) (hn : (Lit.int .i64 n).wf = true) (hs : s.size ≤ 1048576) (hin : InB 1048576 w p len cap zs) :
    Calls Try.prog 7 #[.int .i64 n, .string s, .slice p len cap] w fun e w' => e = .returned (.bool true) ∧ Below w.heap.size w w' := by
  obtain ⟨h0, h1⟩ := bounds_i64 hn
  clear hn
  have HI : Hid (InB 1048576 w p len cap zs) := hin
  have hle := hin.le
  have hcap := hin.room
  clear hin
  obtain ⟨yes, hyes⟩ : ∃ yes, decide (0 < n) = yes := ⟨_, rfl⟩
  obtain ⟨A, hA⟩ : ∃ A, Cd.width n = A := ⟨_, rfl⟩
  obtain ⟨B, hB⟩ : ∃ B, Cd.width s.size = B := ⟨_, rfl⟩
  have hA1 := Cd.width_pos n
  have hB1 := Cd.width_pos s.size
  rw [hA] at hA1
  rw [hB] at hB1
  have HA : Hid (Cd.width n = A) := hA
  have HB : Hid (Cd.width s.size = B) := hB
  clear hA hB
  go_enter Try.func7, Try.ntmps7
  go_wp2_with fail
  refine (live_any _).mono ?_
  rintro e w1 ⟨rfl, hb1⟩
  have HI1 : Hid (InB 1048576 w1 p len cap zs) := HI.out.below hb1
  clear HI
  go_wp2_with fail
  refine (putInt_own none 0 0 [] n _ rfl (Bys.nil _ _) (by omega) (fun _ => ⟨rfl, rfl⟩) h0 h1).mono ?_
  rintro e w2 ⟨v2, rfl, HO2, hb2⟩
  have hb12 := hb1.trans (hb2.mono hb1.size)
  have HI2 : Hid (InB 1048576 w2 p len cap zs) := HI1.out.below hb2
  rw [HA.out, Nat.zero_add, List.nil_append] at HO2
  obtain ⟨p2, c2, hv2, hc2, hp2, hby2⟩ := HO2.bys
  subst hv2
  have HP2 : Hid (Bys w2 p2 (Cd.enc n)) := hby2
  have HN2 : Hid (p2 = none → A = 0 ∧ c2 = 0) := hp2
  clear HI1 hb1 hb2 HO2 hp2 hby2
  go_wp2_with fail
  refine (putText_any p2 c2 A (Cd.enc n) s _ (by rw [Cd.enc_length]; exact HA.out) HP2.out (by omega) HN2.out).mono ?_
  rintro e w3 ⟨v3, rfl, HO3, hb3⟩
  have hb13 := hb12.trans (hb3.mono hb12.size)
  have HI3 : Hid (InB 1048576 w3 p len cap zs) := HI2.out.below hb3
  rw [HB.out] at HO3
  obtain ⟨p3, c3, hv3, hc3, hp3, hby3⟩ := HO3.bys
  subst hv3
  have HP3 : Hid (Bys w3 p3 (Cd.enc n ++ Cd.enc s.size ++ strB s)) := hby3
  have HN3 : Hid (p3 = none → A + B + s.size = 0 ∧ c3 = 0) := hp3
  have HL3 : Hid ((Cd.enc n ++ Cd.enc s.size ++ strB s).length = A + B + s.size) := HO3.len
  clear HI2 hb12 hb3 HO3 hp3 hby3 HP2 HN2
  go_wp2_with fail
  refine (putFlag_any p3 c3 (A + B + s.size) _ yes _ HL3.out HP3.out (by omega) HN3.out).mono ?_
  rintro e w4 ⟨rfl, HO4, hb4⟩
  obtain ⟨fl, hfl⟩ : ∃ fl : Int, (if yes then 109 else 108) = fl := ⟨_, rfl⟩
  rw [hfl] at HO4
  have HFL : Hid ((if yes then (109 : Int) else 108) = fl) := hfl
  obtain ⟨Y, hY⟩ : ∃ Y, Cd.enc n ++ Cd.enc s.size ++ strB s ++ [fl] = Y := ⟨_, rfl⟩
  rw [hY] at HO4
  have HY : Hid (Cd.enc n ++ Cd.enc s.size ++ strB s ++ [fl] = Y) := hY
  clear hfl hY
  have hb14 := hb13.trans (hb4.mono hb13.size)
  have HI4 : Hid (InB 1048576 w4 p len cap zs) := HI3.out.below hb4
  have hsz : w3.heap.size ≤ w4.heap.size := hb4.size
  have hsz3 : w.heap.size ≤ w3.heap.size := hb13.size
  clear HI3 hb13 hb4 HP3 HN3
  go_wp2_with (at_builtin; refine app8 _ rfl _ _ rfl w3.heap.size _ (A + B + s.size + 1) _ rfl HO4 p len cap zs rfl HI4.out.bys HI4.out.lenq HI4.out.nil (by omega) hsz ?_)
  intro v5 w5 HO5 hb5
  have HBW : Hid (Below w.heap.size w w5) := hb14.trans (hb5.mono hsz3)
  obtain ⟨p5, c5, hv5, hc5, hp5, hby5⟩ := HO5.bys
  subst hv5
  have hlz := HO5.len
  obtain ⟨b, o, rfl, _⟩ := hby5 (by omega)
  obtain ⟨Z, hZ⟩ : ∃ Z, Y ++ zs = Z := ⟨_, rfl⟩
  rw [hZ] at hby5 hlz
  have HZ : Hid (Bys w5 (some ⟨b, o, none⟩) Z) := hby5
  have HZL : Hid (Z.length = A + B + s.size + 1 + len) := hlz
  have HZB : Hid (∀ y ∈ Z, 0 ≤ y ∧ y < 256) := by
    rw [← hZ, ← HY.out]
    refine app_byte (app_byte (app_byte (app_byte (enc_byte n h0 h1) (enc_byte _ (by omega) (by omega))) (strB_byte s)) ?_) HI4.out.byte
    rw [← HFL.out]
    cases yes <;> simp
  have HD1 : Hid (Cd.dec Z = (n, (A : Int), 0)) := by
    rw [← hZ, ← HY.out, List.append_assoc, List.append_assoc, List.append_assoc, Hid, Cd.dec_enc n _ h0 h1, HA.out]
  have HD2 : Hid (Cd.decT (Z.drop A) = (strB s, (B : Int) + s.size, 0)) := by
    rw [← hZ, ← HY.out, List.append_assoc, List.append_assoc, List.append_assoc, ← HA.out, ← Cd.enc_length, List.drop_left, Hid, decT_put s _ (by omega), HB.out]
  have HD3 : Hid (Cd.decF (Z.drop (A + B + s.size)) = (yes, 1, 0)) := by
    rw [← hZ, ← HY.out, List.append_assoc, ← HL3.out, List.drop_left, Hid, ← HFL.out, decF_put]
  have hc5' : A + B + s.size + 1 + len ≤ c5 := hc5
  have hc5m : c5 ≤ 9223372036854775807 := HO5.cap_le
  clear HO5 hb5 hp5 hby5 hlz hZ HI4 HO4 hb14 HL3 HFL
  go_wp2_with fail
  refine (int_any _ c5 _ Z _ HZL.out HZ.out hc5' (by omega) HZB.out).mono ?_
  rintro e w6 ⟨rfl, hw6⟩
  subst hw6
  rw [HD1.out]
  unfold three
  have hs1 : ((A : Int) + ((B : Int) + (s.size : Int)) != (A : Int) + (B : Int) + (s.size : Int)) = false := by simp; omega
  go_wp2_with fail
  refine (text_any _ (c5 - A) _ (Z.drop A) _ (by rw [List.length_drop, HZL.out]) (bys_drop HZ.out A (by rw [HZL.out]; omega)) (by omega) (by omega) (fun y hy => HZB.out y (List.mem_of_mem_drop hy))).mono ?_
  rintro e w7 ⟨rfl, hw7⟩
  subst hw7
  rw [HD2.out]
  simp only
  rw [strOf_B]
  go_wp2_with fail
  refine (flag_any _ (c5 - (A + B + s.size)) _ (Z.drop (A + B + s.size)) _ (by rw [List.length_drop, HZL.out]) (bys_drop HZ.out (A + B + s.size) (by rw [HZL.out]; omega)) (by omega) (by omega) (fun y hy => HZB.out y (List.mem_of_mem_drop hy))).mono ?_
  rintro e w8 ⟨rfl, hw8⟩
  subst hw8
  rw [HD3.out]
  simp only
  go_wp2
  go_ret
  exact ⟨by simp, HBW.out⟩

theorem contract_codecBack (H : Type) (enc : TypeId × Value → H) (W : World) (base : Nat) (args : Array Value) (ds gs : List (DataW H)) (before : List MemPlace)
    (hval0 : ∀ (j : Nat) t v, Try.f7.params[j]? = some t → args[j]? = some v → Value.okWide Try.prog W .any base t v)
    (hW : DataW.Whole enc Try.prog Try.f7.params.toList Rows.codecBackSpec.vars false W args.toList ds gs before) (hk : Rows.uptoSmall H (ds ++ gs) = true) :
    Calls Try.prog 7 args W fun e W' => ∃ v, e = .returned v ∧ Rows.codecBackSpec.post enc Try.prog Try.f7 false true false false W args v W' := by
  have hval : ∀ (j : Nat) t v, Try.f7.params[j]? = some t → args[j]? = some v → Value.okWide Try.prog W .any base t v := hval0
  have hW' := hW
  obtain ⟨p, q, hA0, hV, rfl, hfz, hnd⟩ := hW
  have hA : DataW.TrodAll enc Try.prog W 0 (fun _ => true) true Try.f7.params.toList args.toList ds p := hA0
  rw [Try.params7] at hA hval
  obtain ⟨v0, vs0, d0, ds0, p0, q0, hargs, rfl, rfl, h0, r0⟩ := trodAll_cons hA
  obtain ⟨v1, vs1, d1, ds1, p1, q1, rfl, rfl, rfl, h1, r1⟩ := trodAll_cons r0
  obtain ⟨v2, vs2, d2, ds2, p2, q2, rfl, rfl, rfl, h2, r2⟩ := trodAll_cons r1
  obtain ⟨rfl, rfl, rfl⟩ := trodAll_nil r2
  obtain rfl : args = #[v0, v1, v2] := by cases args; simp_all
  obtain ⟨rfl, rfl⟩ := trodVars_none hV
  simp only [List.append_nil] at hk
  obtain ⟨a0, rfl, rfl, rfl, w0⟩ := open_int Try.underlying2 (hval 0 2 v0 rfl rfl) h0
  obtain ⟨a1, rfl, rfl, rfl, w1⟩ := open_string Try.underlying9 (hval 1 9 v1 rfl rfl) h1
  have s1 : a1.size ≤ 1048576 := small_string hk (by simp)
  obtain ⟨a2, len2, cap2, rfl⟩ := okWide_slice Try.underlying22 (hval 2 22 v2 rfl rfl)
  have k2 := h2
  have lt2 : ∀ x ∈ p2, x.block < W.heap.size := by obtain ⟨m, hm⟩ := k2; exact DataW.trod_lt m _ _ _ hm
  obtain ⟨z2, w2⟩ := in_bytes h2 (small_slice hk (by simp))
  clear hA0 hval0
  simp only [List.append_nil] at hW'
  refine (walk_codecBack a0 a1 a2 len2 cap2 z2 W w0 s1 w2).mono fun e W' ⟨he, bel⟩ => ?_
  subst he
  exact ⟨_, rfl, _, _, _, [], _, [], hW', trodAll_mk1 (shut_bool Try.underlying4 _), (trodAll_cons_mk (shut_int Try.underlying2 w0) (trodAll_cons_mk (shut_string Try.underlying9 w1) (trodAll_cons_mk (Below.trod laidOut (by kernel_rfl) (of_decide_eq_true (by kernel_rfl)) k2 bel lt2) trodAll_mk0))), rfl, bel.frame _, fun h => by cases h⟩

set_option maxRecDepth 100000 in
theorem lifted_codecBack (os : Os) (started : os.Started) (H : Type) (enc : TypeId × Value → H) (F : Stop.Interp) :
    ReturnsInHanded {} Try.checked os 7 .any ((Rows.OpenSpec.upto Rows.codecBackSpec).pre6 enc Try.prog Try.f7 Rows.codecBackUptoRow.domain false) (((Rows.OpenSpec.upto Rows.codecBackSpec).at F).post enc Try.prog Try.f7 false true false false) := by
  refine returnsInHanded_of_cond (C := Try.checked) (s := Rows.OpenSpec.upto Rows.codecBackSpec) (k := Rows.uptoSmall) rfl own started (by kernel_rfl) Try.func7
    (OpenSpec.witness (enc := enc) (C := Try.checked) (s := Rows.OpenSpec.upto Rows.codecBackSpec) (k := Rows.uptoSmall) rfl false ⟨#[], #[.int .i64 0, .string .empty, .slice none 0 0], []⟩ 8 (by kernel_rfl) (by kernel_rfl) (by kernel_rfl)
      (x := ([.lit (.int .i64 0), .lit (.string []), .nil], [], [])) (by kernel_rfl) rfl (by kernel_rfl)) ?_
  intro W base args ds gs before hval hW _ hk _
  exact contract_codecBack H enc W base args ds gs before hval hW hk

/-- The statement. -/
theorem codecBack_holds : Rows.CodecBackUptoSaid :=
  OpenClaim.holds_of_cond 7 Try.f7 rfl rfl rfl rfl rfl rfl rfl ⟨rfl, rfl, rfl, rfl, rfl⟩ rfl rfl rfl rfl rfl (by kernel_rfl) Try.func7 (by kernel_rfl)
    (of_decide_eq_true (by kernel_rfl)) (by unfold Func.isWrapper; first | (rw [if_pos (by decide +kernel)]; kernel_rfl) | (rw [if_neg (by decide +kernel)]; exact ⟨rfl, rfl⟩))
    (fun os started H enc _ F => lifted_codecBack os started H enc F)
#print axioms codecBack_holds
end Go.Proofs.Ytcolmebpbjjehaa
