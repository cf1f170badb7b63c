/- What is wrong with a commit, a chunk, a master, and with each write, is the same by the code and by the document. -/
import Derived.Test.YtlfgclmgpbaenaaRcLive
import Derived.Test.YtlfgclmgpbaenaaRcMs
import Derived.Test.YtlfgclmgpbaenaaRcArgs
import Derived.Deep.RegionHeld3
namespace Go.Proofs.Ytlfgclmgpbaenaa
open Go.ChangeShapes Go.WideShapes Go.ChangeAt Go.RowKit
set_option linter.unusedVariables false
set_option maxRecDepth 100000

theorem wr_box {w : World} {b : Nat} {t : TypeId} {x : Wr} (h : Bk w b t x.cells.toArray) : w.cell? ⟨b, 0, none⟩ = some (.string x.key) ∧ w.cell? ⟨b, 1, none⟩ = some (.string x.val) ∧ w.cell? ⟨b, 2, none⟩ = some (.bool x.del) := ⟨h.cell 0, h.cell 1, h.cell 2⟩

set_option maxHeartbeats 8000000 in
theorem walk_recordChecks (ts : Int) (p : Option Addr) (len cap : Nat) (l : List Wr) (n : Int) (q : Option Addr) (m qc : Nat) (ll : List St) (d : Bool) (ms : Ms) (w : World) (hts : -9223372036854775808 ≤ ts ∧ ts ≤ 9223372036854775807) (hin : InW w p len cap l) (hn : -9223372036854775808 ≤ n ∧ n ≤ 9223372036854775807) (his : InS w q m qc ll) (hms : ms.ok) :
    Calls Try.prog 3 #[.agg #[.int .i64 ts, .slice p len cap], .agg #[.int .i64 n, .slice q m qc, .bool d], .agg ms.cells.toArray] w fun e w' => e = .returned (.bool true) ∧ Below w.heap.size w w' := by
  have hle := hin.le
  have hroom := hin.room
  have HI : Hid (∀ w', Below w.heap.size w w' → InW w' p len cap l) := fun w' hb => hin.up hb
  have HJ : Hid (∀ w', Below w.heap.size w w' → InS w' q m qc ll) := fun w' hb => his.up hb
  clear hin his hts hn hms
  have hbx : Below w.heap.size w (((w.alloc (.cells #[.int .i64 ts, .slice p len cap] 24)).alloc (.cells #[.int .i64 n, .slice q m qc, .bool d] 27)).alloc (.cells ms.cells.toArray 31)) := (((Below.refl _ _).alloc (Nat.le_refl _) _).alloc (by simp) _).alloc (by simp; omega) _
  have k1 : Bk (((w.alloc (.cells #[.int .i64 ts, .slice p len cap] 24)).alloc (.cells #[.int .i64 n, .slice q m qc, .bool d] 27)).alloc (.cells ms.cells.toArray 31)) w.heap.size 24 #[.int .i64 ts, .slice p len cap] := ((Bk.new _ _ _).alloc _).alloc _
  have k2 : Bk (((w.alloc (.cells #[.int .i64 ts, .slice p len cap] 24)).alloc (.cells #[.int .i64 n, .slice q m qc, .bool d] 27)).alloc (.cells ms.cells.toArray 31)) (w.heap.size + 1) 27 #[.int .i64 n, .slice q m qc, .bool d] := by
    have := (Bk.new (w.alloc (.cells #[.int .i64 ts, .slice p len cap] 24)) 27 #[.int .i64 n, .slice q m qc, .bool d]).alloc (.cells ms.cells.toArray 31)
    simpa using this
  have k3 : Bk (((w.alloc (.cells #[.int .i64 ts, .slice p len cap] 24)).alloc (.cells #[.int .i64 n, .slice q m qc, .bool d] 27)).alloc (.cells ms.cells.toArray 31)) (w.heap.size + 2) 31 ms.cells.toArray := by
    have := Bk.new ((w.alloc (.cells #[.int .i64 ts, .slice p len cap] 24)).alloc (.cells #[.int .i64 n, .slice q m qc, .bool d] 27)) 31 ms.cells.toArray
    simpa using this
  have hs : (((w.alloc (.cells #[.int .i64 ts, .slice p len cap] 24)).alloc (.cells #[.int .i64 n, .slice q m qc, .bool d] 27)).alloc (.cells ms.cells.toArray 31)).heap.size = w.heap.size + 3 := by simp
  have HBK : Hid (∀ w', Below (w.heap.size + 3) (((w.alloc (.cells #[.int .i64 ts, .slice p len cap] 24)).alloc (.cells #[.int .i64 n, .slice q m qc, .bool d] 27)).alloc (.cells ms.cells.toArray 31)) w' → Below w.heap.size w w' ∧ Bk w' w.heap.size 24 #[.int .i64 ts, .slice p len cap] ∧ Bk w' (w.heap.size + 1) 27 #[.int .i64 n, .slice q m qc, .bool d] ∧ Bk w' (w.heap.size + 2) 31 ms.cells.toArray) :=
    fun w' hb => ⟨hbx.trans (hb.mono (by omega)), k1.below hb (by omega), k2.below hb (by omega), k3.below hb (by omega)⟩
  have HB0 : Hid (Below (w.heap.size + 3) (((w.alloc (.cells #[.int .i64 ts, .slice p len cap] 24)).alloc (.cells #[.int .i64 n, .slice q m qc, .bool d] 27)).alloc (.cells ms.cells.toArray 31)) (((w.alloc (.cells #[.int .i64 ts, .slice p len cap] 24)).alloc (.cells #[.int .i64 n, .slice q m qc, .bool d] 27)).alloc (.cells ms.cells.toArray 31))) := Below.refl _ _
  clear k1 k2 k3 hs hbx
  obtain ⟨w0, hw0⟩ : ∃ w0, (((w.alloc (.cells #[.int .i64 ts, .slice p len cap] 24)).alloc (.cells #[.int .i64 n, .slice q m qc, .bool d] 27)).alloc (.cells ms.cells.toArray 31)) = w0 := ⟨_, rfl⟩
  rw [hw0] at HBK HB0
  have HW0 : Hid _ := hw0
  clear hw0
  go_enter Try.func3, Try.ntmps3
  go_wp2_with fail
  rw [HW0.out]
  go_loopw [12] (fun i wr => ∃ k : Nat, k ≤ len ∧ i = .int .i64 k ∧ Hid (Below (w.heap.size + 3) w0 wr)) (fun i _ => len - (intOf i).toNat)
  case atStart => exact ⟨0, Nat.zero_le _, rfl, HB0⟩
  case round =>
    obtain ⟨k, hk, rfl, HW⟩ := hrel
    by_cases hlt : k < len
    · have hli : (k : Int) < (len : Int) := by omega
      obtain ⟨b, o, g, rfl, hg, hblt, c0, c1, c2⟩ := (HI.out wr (HBK.out wr HW.out).1).at hlt
      have HK5 : Hid (Bk (wr.alloc (.cells g.cells.toArray 33)) wr.heap.size 33 g.cells.toArray) := Bk.new _ _ _
      have hws : w.heap.size + 3 ≤ wr.heap.size := by have := HW.out.size; have := (HBK.out w0 HB0.out).2.2.2.lt; omega
      have HB5 : Hid (Below (w.heap.size + 3) w0 (wr.alloc (.cells g.cells.toArray 33))) := HW.out.alloc hws _
      have hbd : Below (wr.alloc (.cells g.cells.toArray 33)).heap.size (wr.alloc (.cells g.cells.toArray 33)) (wr.alloc (.cells g.cells.toArray 33)).drew := (Below.refl _ _).drew
      have HK5d : Hid (Bk (wr.alloc (.cells g.cells.toArray 33)).drew wr.heap.size 33 g.cells.toArray) := HK5.out
      have HB5d : Hid (Below (w.heap.size + 3) w0 (wr.alloc (.cells g.cells.toArray 33)).drew) := HB5.out.drew
      obtain ⟨cb0, cb1, cb2⟩ := wr_box HK5.out
      have HS5 : Hid (w.heap.size + 3 ≤ (wr.alloc (.cells g.cells.toArray 33)).drew.heap.size) := by simp [Hid]; omega
      clear hg hblt
      go_wp2_with fail
      go_region_held3 (fun w' => w'.cell? ⟨wr.heap.size, 0, none⟩ = some (.string g.key) ∧ w'.cell? ⟨wr.heap.size, 1, none⟩ = some (.string g.val) ∧ w'.cell? ⟨wr.heap.size, 2, none⟩ = some (.bool g.del)) (go_keep) (first
        | (go_at_call 9; refine (checkWrite_any g _).mono ?_; rintro e w6 ⟨rfl, hb6⟩; have hbk6 := HK5d.out.below hb6 HK5d.out.lt; have hB6 := HB5d.out.trans (hb6.mono HS5.out); have hs6 := Nat.le_trans HS5.out hb6.size; have hk6 := wr_box hbk6)
        | (go_at_call 10; refine (rcheckWrite_any g _).mono ?_; rintro e w7 ⟨rfl, hb7⟩; have hbk7 := hbk6.below hb7 hbk6.lt; have hB7 := hB6.trans (hb7.mono hs6); have hk7 := wr_box hbk7)
        | (go_at_call 11; refine (key_any g.key _).mono ?_; rintro e w8 ⟨rfl, rfl⟩)
        | (go_at_call 12; refine (rkey_any g.key _).mono ?_; rintro e w8 ⟨rfl, rfl⟩)
        | (go_at_call 13; refine (val_any g.val _).mono ?_; rintro e w8 ⟨rfl, rfl⟩)
        | (go_at_call 14; refine (rval_any g.val _).mono ?_; rintro e w8 ⟨rfl, rfl⟩))
      have HB8 : Hid _ := hB7
      clear hb6 hbk6 hB6 hs6 hk6 hb7 hbk7 hB7 hk7 HK5 HK5d HB5 HB5d HS5 hbd cb0 cb1 cb2 c0 c1 c2
      go_wp2
      go_roundw
      case rel => exact ⟨k + 1, by omega, by go_num, HB8⟩
      case measure => simp [intOf]; omega
    · have hli : ¬ ((k : Int) < (len : Int)) := by omega
      have HD : Hid (Below (w.heap.size + 3) w0 wr.drew) := HW.out.drew
      have HC : Hid (∀ w', Below (w.heap.size + 3) w0 w' → (w'.cell? ⟨w.heap.size, 0, none⟩ = some (.int .i64 ts) ∧ w'.cell? ⟨w.heap.size, 1, none⟩ = some (.slice p len cap)) ∧ (w'.cell? ⟨w.heap.size + 1, 0, none⟩ = some (.int .i64 n) ∧ w'.cell? ⟨w.heap.size + 1, 1, none⟩ = some (.slice q m qc) ∧ w'.cell? ⟨w.heap.size + 1, 2, none⟩ = some (.bool d)) ∧
          (w'.cell? ⟨w.heap.size + 2, 0, none⟩ = some (.int .i64 ms.seq) ∧ w'.cell? ⟨w.heap.size + 2, 1, none⟩ = some (.int .i64 ms.area) ∧ w'.cell? ⟨w.heap.size + 2, 2, none⟩ = some (.int .i64 ms.chunks) ∧ w'.cell? ⟨w.heap.size + 2, 3, none⟩ = some (.int .i64 ms.ts) ∧ w'.cell? ⟨w.heap.size + 2, 4, none⟩ = some (.int .i64 ms.sector) ∧ w'.cell? ⟨w.heap.size + 2, 5, none⟩ = some (.int .i64 ms.offset) ∧ w'.cell? ⟨w.heap.size + 2, 6, none⟩ = some (.int .i64 ms.number) ∧ w'.cell? ⟨w.heap.size + 2, 7, none⟩ = some (.int .i64 ms.run))) := by
        intro w' hb
        obtain ⟨-, b1, b2, b3⟩ := HBK.out w' hb
        exact ⟨⟨b1.cell 0, b1.cell 1⟩, ⟨b2.cell 0, b2.cell 1, b2.cell 2⟩, ⟨b3.cell 0, b3.cell 1, b3.cell 2, b3.cell 3, b3.cell 4, b3.cell 5, b3.cell 6, b3.cell 7⟩⟩
      have HSZ : Hid (∀ w', Below (w.heap.size + 3) w0 w' → w.heap.size + 3 ≤ w'.heap.size) := fun w' hb => by have := hb.size; have := (HBK.out w0 HB0.out).2.2.2.lt; omega
      have hk0 := HC.out wr HW.out
      clear HW
      go_wp2_with fail
      go_region_held3 (fun w' => (w'.cell? ⟨w.heap.size, 0, none⟩ = some (.int .i64 ts) ∧ w'.cell? ⟨w.heap.size, 1, none⟩ = some (.slice p len cap)) ∧ (w'.cell? ⟨w.heap.size + 1, 0, none⟩ = some (.int .i64 n) ∧ w'.cell? ⟨w.heap.size + 1, 1, none⟩ = some (.slice q m qc) ∧ w'.cell? ⟨w.heap.size + 1, 2, none⟩ = some (.bool d)) ∧
          (w'.cell? ⟨w.heap.size + 2, 0, none⟩ = some (.int .i64 ms.seq) ∧ w'.cell? ⟨w.heap.size + 2, 1, none⟩ = some (.int .i64 ms.area) ∧ w'.cell? ⟨w.heap.size + 2, 2, none⟩ = some (.int .i64 ms.chunks) ∧ w'.cell? ⟨w.heap.size + 2, 3, none⟩ = some (.int .i64 ms.ts) ∧ w'.cell? ⟨w.heap.size + 2, 4, none⟩ = some (.int .i64 ms.sector) ∧ w'.cell? ⟨w.heap.size + 2, 5, none⟩ = some (.int .i64 ms.offset) ∧ w'.cell? ⟨w.heap.size + 2, 6, none⟩ = some (.int .i64 ms.number) ∧ w'.cell? ⟨w.heap.size + 2, 7, none⟩ = some (.int .i64 ms.run))) (go_keep) (first
        | (go_at_call 15; refine (live_any _).mono ?_; rintro e v1 ⟨rfl, hb⟩; have hB1 := HD.out.trans (hb.mono (HSZ.out _ HD.out)); clear hb; have hk1 := HC.out v1 hB1)
        | (go_at_call 16; refine (checkCommit_any ts p len cap l _ (HI.out _ (HBK.out _ hB1).1)).mono ?_; rintro e v2 ⟨rfl, hb⟩; have hB2 := hB1.trans (hb.mono (HSZ.out _ hB1)); clear hb; have hk2 := HC.out v2 hB2)
        | (go_at_call 17; refine (rcheckCommit_any ts p len cap l _ (HI.out _ (HBK.out _ hB2).1)).mono ?_; rintro e v3 ⟨rfl, hb⟩; have hB3 := hB2.trans (hb.mono (HSZ.out _ hB2)); clear hb; have hk3 := HC.out v3 hB3)
        | (go_at_call 18; refine (checkChunk_any n q m qc ll d _ (HJ.out _ (HBK.out _ hB3).1)).mono ?_; rintro e v4 ⟨rfl, hb⟩; have hB4 := hB3.trans (hb.mono (HSZ.out _ hB3)); clear hb; have hk4 := HC.out v4 hB4)
        | (go_at_call 19; refine (rcheckChunk_any n q m qc ll d _ (HJ.out _ (HBK.out _ hB4).1)).mono ?_; rintro e v5 ⟨rfl, hb⟩; have hB5 := hB4.trans (hb.mono (HSZ.out _ hB4)); clear hb; have hk5 := HC.out v5 hB5)
        | (go_at_call 20; refine (checkMaster_any ms _).mono ?_; rintro e v6 ⟨rfl, hb⟩; have hB6 := hB5.trans (hb.mono (HSZ.out _ hB5)); clear hb; have hk6 := HC.out v6 hB6)
        | (go_at_call 21; refine (rcheckMaster_any ms _).mono ?_; rintro e v7 ⟨rfl, hb⟩; have hB7 := hB6.trans (hb.mono (HSZ.out _ hB6)); clear hb; have hk7 := HC.out v7 hB7))
      have HB8 : Hid (Below w.heap.size w v7) := (HBK.out v7 hB7).1
      clear hB1 hB2 hB3 hB4 hB5 hB6 hB7 hk0 hk1 hk2 hk3 hk4 hk5 hk6 hk7 HC HSZ HD HI HJ
      go_wp2
      go_ret
      exact ⟨rfl, HB8.out⟩

set_option maxRecDepth 100000 in
set_option maxHeartbeats 2000000 in
theorem lifted_recordChecks (os : Os) (started : os.Started) (H : Type) (enc : TypeId × Value → H) :
    ReturnsInHanded {} Try.checked os 3 .any (Rows.recordChecksSpec.pre6 enc Try.prog Try.f3 Rows.recordChecksRow.domain false) (Rows.recordChecksSpec.post enc Try.prog Try.f3 false true false false) := by
  refine returnsInHanded_of_change_sized (C := Try.checked) own started (by kernel_rfl) Try.func3
    (ChangeSpec.witness6 (enc := enc) (C := Try.checked) false ⟨#[], #[.agg #[.int .i64 0, .slice none 0 0], .agg #[.int .i64 0, .slice none 0 0, .bool false], .agg #[.int .i64 0, .int .i64 0, .int .i64 0, .int .i64 0, .int .i64 0, .int .i64 0, .int .i64 0, .int .i64 0]], []⟩ 8 (by kernel_rfl) (by kernel_rfl) (by kernel_rfl) (by kernel_rfl)) ?_
  intro W base args ds gs before hval0 hW _ hsz0 _
  have hsz : (DataW.weightsEach Try.prog (Try.f3.params.toList ++ Rows.recordChecksSpec.plain.varTypes Try.prog) (ds ++ gs)).all (· ≤ reachBytes) = true := hsz0
  clear hsz0
  have hval : ∀ (j : Nat) t v, Try.f3.params[j]? = some t → args[j]? = some v → Value.okWide Try.prog W .any base t v := hval0
  have hW' := hW
  obtain ⟨p, q, hA0, hV, rfl, hfz, hnd⟩ := hW
  have hA : DataW.TrodAll enc Try.prog W 0 (fun _ => true) true Try.f3.params.toList args.toList ds p := hA0
  rw [Try.params3] at hA hval hsz
  obtain ⟨v0, vs0, d0, ds0, p0, q0, hargs, rfl, rfl, h0, r0⟩ := trodAll_cons hA
  obtain ⟨v1, vs1, d1, ds1, p1, q1, rfl, rfl, rfl, h1, r1⟩ := trodAll_cons r0
  obtain ⟨v2, vs2, d2, ds2, p2, q2, rfl, rfl, rfl, h2, r2⟩ := trodAll_cons r1
  obtain ⟨rfl, rfl, rfl⟩ := trodAll_nil r2
  obtain rfl : args = #[v0, v1, v2] := by cases args; simp_all
  obtain ⟨rfl, rfl⟩ := trodVars_none hV
  have k0 := h0
  have lt0 : ∀ x ∈ p0, x.block < W.heap.size := by obtain ⟨m, hm⟩ := k0; exact DataW.trod_lt m _ _ _ hm
  obtain ⟨n0, a0, len0, cap0, l0, e0, u0, w0⟩ : ∃ n0 a0 len0 cap0 l0, v0 = .agg #[.int .i64 n0, .slice a0 len0 cap0] ∧ (-9223372036854775808 ≤ n0 ∧ n0 ≤ 9223372036854775807) ∧ InW W a0 len0 cap0 l0 := by
    obtain ⟨cs, hcs, _⟩ := okWide_struct Try.underlying24 (hval 0 24 v0 rfl rfl)
    obtain ⟨fuel, hf⟩ := h0
    obtain ⟨n0, a0, len0, cap0, l0, hg, ho⟩ := in_commit hf
    refine ⟨n0, a0, len0, cap0, l0, ?_, ho⟩
    rw [hcs] at hg ⊢
    congr 1
    apply Array.ext'
    simpa [Value.cells] using hg
  subst e0
  have k1 := h1
  have lt1 : ∀ x ∈ p1, x.block < W.heap.size := by obtain ⟨m, hm⟩ := k1; exact DataW.trod_lt m _ _ _ hm
  obtain ⟨n1, a1, len1, cap1, l1, b1, e1, u1, w1⟩ : ∃ n1 a1 len1 cap1 l1 b1, v1 = .agg #[.int .i64 n1, .slice a1 len1 cap1, .bool b1] ∧ (-9223372036854775808 ≤ n1 ∧ n1 ≤ 9223372036854775807) ∧ InS W a1 len1 cap1 l1 := by
    obtain ⟨cs, hcs, _⟩ := okWide_struct Try.underlying27 (hval 1 27 v1 rfl rfl)
    obtain ⟨fuel, hf⟩ := h1
    obtain ⟨n1, a1, len1, cap1, l1, b1, hg, ho⟩ := in_chunk hf
    refine ⟨n1, a1, len1, cap1, l1, b1, ?_, ho⟩
    rw [hcs] at hg ⊢
    congr 1
    apply Array.ext'
    simpa [Value.cells] using hg
  subst e1
  have k2 := h2
  have lt2 : ∀ x ∈ p2, x.block < W.heap.size := by obtain ⟨m, hm⟩ := k2; exact DataW.trod_lt m _ _ _ hm
  obtain ⟨m2, e2, w2⟩ : ∃ m2 : Ms, v2 = .agg m2.cells.toArray ∧ m2.ok := by
    obtain ⟨cs, hcs, _⟩ := okWide_struct Try.underlying31 (hval 2 31 v2 rfl rfl)
    obtain ⟨fuel, hf⟩ := h2
    obtain ⟨m2, hg, ho⟩ := in_master hf
    refine ⟨m2, ?_, ho⟩
    rw [hcs] at hg ⊢
    congr 1
    apply Array.ext'
    simpa [Value.cells] using hg
  subst e2
  clear hA0 hval0
  refine (walk_recordChecks n0 a0 len0 cap0 l0 n1 a1 len1 cap1 l1 b1 m2 W u0 w0 u1 w1 w2).mono fun e W' ⟨he, bel⟩ => ?_
  subst he
  exact ⟨_, rfl, _, _, _, [], _, [], hW', trodAll_mk1 (shut_bool Try.underlying4 _), (trodAll_cons_mk (Below.trod laidOut (by kernel_rfl) (of_decide_eq_true (by kernel_rfl)) k0 bel lt0) (trodAll_cons_mk (Below.trod laidOut (by kernel_rfl) (of_decide_eq_true (by kernel_rfl)) k1 bel lt1) (trodAll_cons_mk (Below.trod laidOut (by kernel_rfl) (of_decide_eq_true (by kernel_rfl)) k2 bel lt2) trodAll_mk0))), rfl, bel.frame _, fun h => by cases h⟩

/-- The statement. -/
theorem recordChecks_holds : Rows.RecordChecksSaid :=
  OpenClaim.holds_of_wide 3 Try.f3 rfl rfl rfl rfl rfl rfl rfl ⟨rfl, rfl, rfl, rfl, rfl⟩ rfl rfl rfl rfl rfl (by kernel_rfl) Try.func3 (by kernel_rfl)
    (of_decide_eq_true (by kernel_rfl)) (by unfold Func.isWrapper; first | (rw [if_pos (by decide +kernel)]; kernel_rfl) | (rw [if_neg (by decide +kernel)]; exact ⟨rfl, rfl⟩))
    (fun os started H enc _ => lifted_recordChecks os started H enc)
#print axioms recordChecks_holds
end Go.Proofs.Ytlfgclmgpbaenaa
