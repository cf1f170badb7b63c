/- The bytes of a commit, of a chunk and of a master, or what is wrong with them, are the document's. -/
import Derived.Test.YtlfgclmgpbaenaaRcLive
import Derived.Test.YtlfgclmgpbaenaaRcOne
import Derived.Test.YtlfgclmgpbaenaaRcRef4
import Derived.Test.YtlfgclmgpbaenaaRcArgs
namespace Go.Proofs.Ytlfgclmgpbaenaa
open Go.ChangeShapes Go.WideShapes Go.ChangeAt Go.RowKit
set_option linter.unusedVariables false
set_option maxRecDepth 100000

theorem Came.bys {w w' : World} {v : Value} {e : Int} {xs : List Int} (h : Came w w' v e xs) : ∃ p c, v = .slice p (if e = 0 then xs else []).length c ∧ Bys w' p (if e = 0 then xs else []) := by
  by_cases he : e = 0
  · rw [if_pos he]
    obtain ⟨p, c, hv, -, -, hb⟩ := (h.2.1 he).bys
    exact ⟨p, c, hv, hb⟩
  · rw [if_neg he]
    exact ⟨none, 0, h.2.2 he, Bys.nil _ _⟩

set_option maxHeartbeats 8000000 in
theorem walk_recordWrites (ts : Int) (p : Option Addr) (len cap : Nat) (l : List Wr) (n : Int) (q : Option Addr) (m qc : Nat) (ll : List St) (d : Bool) (ms : Ms) (w : World) (hts : -9223372036854775808 ≤ ts ∧ ts ≤ 9223372036854775807) (hin : InW w p len cap l) (hn : -9223372036854775808 ≤ n ∧ n ≤ 9223372036854775807) (his : InS w q m qc ll) (hms : ms.ok) :
    Calls Try.prog 4 #[.agg #[.int .i64 ts, .slice p len cap], .agg #[.int .i64 n, .slice q m qc, .bool d], .agg ms.cells.toArray] w fun e w' => e = .returned (.bool true) ∧ Below w.heap.size w w' := by
  have hle := hin.le
  have hroom := hin.room
  have HI : Hid (∀ w', Below w.heap.size w w' → InW w' p len cap l) := fun w' hb => hin.up hb
  have HJ : Hid (∀ w', Below w.heap.size w w' → InS w' q m qc ll) := fun w' hb => his.up hb
  have HTS : Hid (∀ g ∈ ll, -9223372036854775808 ≤ g.ts ∧ g.ts ≤ 9223372036854775807) := his.size
  clear hin his hts hn hms
  have hbx : Below w.heap.size w (((w.alloc (.cells #[.int .i64 ts, .slice p len cap] 24)).alloc (.cells #[.int .i64 n, .slice q m qc, .bool d] 27)).alloc (.cells ms.cells.toArray 31)) := (((Below.refl _ _).alloc (Nat.le_refl _) _).alloc (by simp) _).alloc (by simp; omega) _
  have k1 : Bk (((w.alloc (.cells #[.int .i64 ts, .slice p len cap] 24)).alloc (.cells #[.int .i64 n, .slice q m qc, .bool d] 27)).alloc (.cells ms.cells.toArray 31)) w.heap.size 24 #[.int .i64 ts, .slice p len cap] := ((Bk.new _ _ _).alloc _).alloc _
  have k2 : Bk (((w.alloc (.cells #[.int .i64 ts, .slice p len cap] 24)).alloc (.cells #[.int .i64 n, .slice q m qc, .bool d] 27)).alloc (.cells ms.cells.toArray 31)) (w.heap.size + 1) 27 #[.int .i64 n, .slice q m qc, .bool d] := by
    have := (Bk.new (w.alloc (.cells #[.int .i64 ts, .slice p len cap] 24)) 27 #[.int .i64 n, .slice q m qc, .bool d]).alloc (.cells ms.cells.toArray 31)
    simpa using this
  have k3 : Bk (((w.alloc (.cells #[.int .i64 ts, .slice p len cap] 24)).alloc (.cells #[.int .i64 n, .slice q m qc, .bool d] 27)).alloc (.cells ms.cells.toArray 31)) (w.heap.size + 2) 31 ms.cells.toArray := by
    have := Bk.new ((w.alloc (.cells #[.int .i64 ts, .slice p len cap] 24)).alloc (.cells #[.int .i64 n, .slice q m qc, .bool d] 27)) 31 ms.cells.toArray
    simpa using this
  have hs : (((w.alloc (.cells #[.int .i64 ts, .slice p len cap] 24)).alloc (.cells #[.int .i64 n, .slice q m qc, .bool d] 27)).alloc (.cells ms.cells.toArray 31)).heap.size = w.heap.size + 3 := by simp
  have HBK : Hid (∀ w', Below (w.heap.size + 3) (((w.alloc (.cells #[.int .i64 ts, .slice p len cap] 24)).alloc (.cells #[.int .i64 n, .slice q m qc, .bool d] 27)).alloc (.cells ms.cells.toArray 31)) w' → Below w.heap.size w w' ∧ Bk w' w.heap.size 24 #[.int .i64 ts, .slice p len cap] ∧ Bk w' (w.heap.size + 1) 27 #[.int .i64 n, .slice q m qc, .bool d] ∧ Bk w' (w.heap.size + 2) 31 ms.cells.toArray) :=
    fun w' hb => ⟨hbx.trans (hb.mono (by omega)), k1.below hb (by omega), k2.below hb (by omega), k3.below hb (by omega)⟩
  have HB0 : Hid (Below (w.heap.size + 3) (((w.alloc (.cells #[.int .i64 ts, .slice p len cap] 24)).alloc (.cells #[.int .i64 n, .slice q m qc, .bool d] 27)).alloc (.cells ms.cells.toArray 31)) (((w.alloc (.cells #[.int .i64 ts, .slice p len cap] 24)).alloc (.cells #[.int .i64 n, .slice q m qc, .bool d] 27)).alloc (.cells ms.cells.toArray 31))) := Below.refl _ _
  clear k1 k2 k3 hs hbx
  obtain ⟨w0, hw0⟩ : ∃ w0, (((w.alloc (.cells #[.int .i64 ts, .slice p len cap] 24)).alloc (.cells #[.int .i64 n, .slice q m qc, .bool d] 27)).alloc (.cells ms.cells.toArray 31)) = w0 := ⟨_, rfl⟩
  rw [hw0] at HBK HB0
  have HW0 : Hid _ := hw0
  clear hw0
  have HC : Hid (∀ w', Below (w.heap.size + 3) w0 w' → (w'.cell? ⟨w.heap.size, 0, none⟩ = some (.int .i64 ts) ∧ w'.cell? ⟨w.heap.size, 1, none⟩ = some (.slice p len cap)) ∧ (w'.cell? ⟨w.heap.size + 1, 0, none⟩ = some (.int .i64 n) ∧ w'.cell? ⟨w.heap.size + 1, 1, none⟩ = some (.slice q m qc) ∧ w'.cell? ⟨w.heap.size + 1, 2, none⟩ = some (.bool d)) ∧
      (w'.cell? ⟨w.heap.size + 2, 0, none⟩ = some (.int .i64 ms.seq) ∧ w'.cell? ⟨w.heap.size + 2, 1, none⟩ = some (.int .i64 ms.area) ∧ w'.cell? ⟨w.heap.size + 2, 2, none⟩ = some (.int .i64 ms.chunks) ∧ w'.cell? ⟨w.heap.size + 2, 3, none⟩ = some (.int .i64 ms.ts) ∧ w'.cell? ⟨w.heap.size + 2, 4, none⟩ = some (.int .i64 ms.sector) ∧ w'.cell? ⟨w.heap.size + 2, 5, none⟩ = some (.int .i64 ms.offset) ∧ w'.cell? ⟨w.heap.size + 2, 6, none⟩ = some (.int .i64 ms.number) ∧ w'.cell? ⟨w.heap.size + 2, 7, none⟩ = some (.int .i64 ms.run))) := by
    intro w' hb
    obtain ⟨-, b1, b2, b3⟩ := HBK.out w' hb
    exact ⟨⟨b1.cell 0, b1.cell 1⟩, ⟨b2.cell 0, b2.cell 1, b2.cell 2⟩, ⟨b3.cell 0, b3.cell 1, b3.cell 2, b3.cell 3, b3.cell 4, b3.cell 5, b3.cell 6, b3.cell 7⟩⟩
  have HSZ : Hid (∀ w', Below (w.heap.size + 3) w0 w' → w.heap.size + 3 ≤ w'.heap.size) := fun w' hb => by have := hb.size; have := (HBK.out w0 HB0.out).2.2.2.lt; omega
  obtain ⟨Y1, hY1⟩ : ∃ Y, (if Rc.comE ts l = 0 then Rc.comB ts l else []) = Y := ⟨_, rfl⟩
  obtain ⟨Y2, hY2⟩ : ∃ Y, (if Rc.chE n ll = 0 then Rc.chB n d ll else []) = Y := ⟨_, rfl⟩
  obtain ⟨Y3, hY3⟩ : ∃ Y, (if Rc.msE ms = 0 then Rc.msB ms else []) = Y := ⟨_, rfl⟩
  have G1 : Hid _ := hY1
  have B1 : Hid (∀ y ∈ Y1, 0 ≤ y ∧ y < 256) := by
    rw [← hY1]
    split
    · rename_i h; exact Rc.comB_byte h
    · intro y hy; cases hy
  have G2 : Hid _ := hY2
  have B2 : Hid (∀ y ∈ Y2, 0 ≤ y ∧ y < 256) := by
    rw [← hY2]
    split
    · rename_i h; exact Rc.chB_byte h HTS.out
    · intro y hy; cases hy
  have G3 : Hid _ := hY3
  have B3 : Hid (∀ y ∈ Y3, 0 ≤ y ∧ y < 256) := by
    rw [← hY3]
    split
    · rename_i h; exact Rc.msB_byte h
    · intro y hy; cases hy
  clear hY1 hY2 hY3
  go_enter Try.func4, Try.ntmps4
  obtain ⟨k1, k2, k3⟩ := HC.out _ HB0.out
  go_wp2_with fail
  rw [HW0.out]
  refine (commit_any ts p len cap l _ (HI.out _ (HBK.out _ HB0.out).1)).mono ?_
  rintro e w1 ⟨v, rfl, hcm⟩
  obtain ⟨p0, c0, hv, hy⟩ := hcm.bys
  rw [G1.out] at hv hy
  subst hv
  have H1 : Hid (Below (w.heap.size + 3) w0 w1) := HB0.out.trans (hcm.1.mono (HSZ.out _ HB0.out))
  have R0_1 : Hid (Bys w1 p0 Y1) := hy
  clear hy hcm k1 k2 k3
  obtain ⟨k1, k2, k3⟩ := HC.out _ H1.out
  go_wp2_with fail
  refine (rcommit_any ts p len cap l _ (HI.out _ (HBK.out _ H1.out).1)).mono ?_
  rintro e w2 ⟨v, rfl, hcm⟩
  obtain ⟨p1, c1, hv, hy⟩ := hcm.bys
  rw [G1.out] at hv hy
  subst hv
  have H2 : Hid (Below (w.heap.size + 3) w0 w2) := H1.out.trans (hcm.1.mono (HSZ.out _ H1.out))
  have R0_2 : Hid (Bys w2 p0 Y1) := R0_1.out.below hcm.1 (Nat.le_refl _)
  have R1_2 : Hid (Bys w2 p1 Y1) := hy
  clear hy hcm k1 k2 k3 R0_1
  obtain ⟨k1, k2, k3⟩ := HC.out _ H2.out
  go_wp2_with fail
  refine (chunk_any n d q m qc ll _ (HJ.out _ (HBK.out _ H2.out).1)).mono ?_
  rintro e w3 ⟨v, rfl, hcm⟩
  obtain ⟨p2, c2, hv, hy⟩ := hcm.bys
  rw [G2.out] at hv hy
  subst hv
  have H3 : Hid (Below (w.heap.size + 3) w0 w3) := H2.out.trans (hcm.1.mono (HSZ.out _ H2.out))
  have R0_3 : Hid (Bys w3 p0 Y1) := R0_2.out.below hcm.1 (Nat.le_refl _)
  have R1_3 : Hid (Bys w3 p1 Y1) := R1_2.out.below hcm.1 (Nat.le_refl _)
  have R2_3 : Hid (Bys w3 p2 Y2) := hy
  clear hy hcm k1 k2 k3 R0_2 R1_2
  obtain ⟨k1, k2, k3⟩ := HC.out _ H3.out
  go_wp2_with fail
  refine (rchunk_any n d q m qc ll _ (HJ.out _ (HBK.out _ H3.out).1)).mono ?_
  rintro e w4 ⟨v, rfl, hcm⟩
  obtain ⟨p3, c3, hv, hy⟩ := hcm.bys
  rw [G2.out] at hv hy
  subst hv
  have H4 : Hid (Below (w.heap.size + 3) w0 w4) := H3.out.trans (hcm.1.mono (HSZ.out _ H3.out))
  have R0_4 : Hid (Bys w4 p0 Y1) := R0_3.out.below hcm.1 (Nat.le_refl _)
  have R1_4 : Hid (Bys w4 p1 Y1) := R1_3.out.below hcm.1 (Nat.le_refl _)
  have R2_4 : Hid (Bys w4 p2 Y2) := R2_3.out.below hcm.1 (Nat.le_refl _)
  have R3_4 : Hid (Bys w4 p3 Y2) := hy
  clear hy hcm k1 k2 k3 R0_3 R1_3 R2_3
  obtain ⟨k1, k2, k3⟩ := HC.out _ H4.out
  go_wp2_with fail
  refine (master_any ms _).mono ?_
  rintro e w5 ⟨v, rfl, hcm⟩
  obtain ⟨p4, c4, hv, hy⟩ := hcm.bys
  rw [G3.out] at hv hy
  subst hv
  have H5 : Hid (Below (w.heap.size + 3) w0 w5) := H4.out.trans (hcm.1.mono (HSZ.out _ H4.out))
  have R0_5 : Hid (Bys w5 p0 Y1) := R0_4.out.below hcm.1 (Nat.le_refl _)
  have R1_5 : Hid (Bys w5 p1 Y1) := R1_4.out.below hcm.1 (Nat.le_refl _)
  have R2_5 : Hid (Bys w5 p2 Y2) := R2_4.out.below hcm.1 (Nat.le_refl _)
  have R3_5 : Hid (Bys w5 p3 Y2) := R3_4.out.below hcm.1 (Nat.le_refl _)
  have R4_5 : Hid (Bys w5 p4 Y3) := hy
  clear hy hcm k1 k2 k3 R0_4 R1_4 R2_4 R3_4
  obtain ⟨k1, k2, k3⟩ := HC.out _ H5.out
  go_wp2_with fail
  refine (rmaster_any ms _).mono ?_
  rintro e w6 ⟨v, rfl, hcm⟩
  obtain ⟨p5, c5, hv, hy⟩ := hcm.bys
  rw [G3.out] at hv hy
  subst hv
  have H6 : Hid (Below (w.heap.size + 3) w0 w6) := H5.out.trans (hcm.1.mono (HSZ.out _ H5.out))
  have R0_6 : Hid (Bys w6 p0 Y1) := R0_5.out.below hcm.1 (Nat.le_refl _)
  have R1_6 : Hid (Bys w6 p1 Y1) := R1_5.out.below hcm.1 (Nat.le_refl _)
  have R2_6 : Hid (Bys w6 p2 Y2) := R2_5.out.below hcm.1 (Nat.le_refl _)
  have R3_6 : Hid (Bys w6 p3 Y2) := R3_5.out.below hcm.1 (Nat.le_refl _)
  have R4_6 : Hid (Bys w6 p4 Y3) := R4_5.out.below hcm.1 (Nat.le_refl _)
  have R5_6 : Hid (Bys w6 p5 Y3) := hy
  clear hy hcm k1 k2 k3 R0_5 R1_5 R2_5 R3_5 R4_5
  go_wp2_with fail
  refine (live_any _).mono ?_
  rintro e w7 ⟨rfl, hb⟩
  have H7 : Hid (Below (w.heap.size + 3) w0 w7) := H6.out.trans (hb.mono (HSZ.out _ H6.out))
  have R0_7 : Hid (Bys w7 p0 Y1) := R0_6.out.below hb (Nat.le_refl _)
  have R1_7 : Hid (Bys w7 p1 Y1) := R1_6.out.below hb (Nat.le_refl _)
  have R2_7 : Hid (Bys w7 p2 Y2) := R2_6.out.below hb (Nat.le_refl _)
  have R3_7 : Hid (Bys w7 p3 Y2) := R3_6.out.below hb (Nat.le_refl _)
  have R4_7 : Hid (Bys w7 p4 Y3) := R4_6.out.below hb (Nat.le_refl _)
  have R5_7 : Hid (Bys w7 p5 Y3) := R5_6.out.below hb (Nat.le_refl _)
  clear hb R0_6 R1_6 R2_6 R3_6 R4_6 R5_6
  go_wp2_with fail
  refine (equal_any p0 p1 c0 c1 _ _ Y1 Y1 _ rfl rfl R0_7.out R1_7.out B1.out B1.out).mono ?_
  rintro e w8 ⟨rfl, hw⟩
  subst hw
  simp only [decide_true]
  go_wp2_with fail
  refine (equal_any p2 p3 c2 c3 _ _ Y2 Y2 _ rfl rfl R2_7.out R3_7.out B2.out B2.out).mono ?_
  rintro e w9 ⟨rfl, hw⟩
  subst hw
  simp only [decide_true]
  go_wp2_with fail
  refine (equal_any p4 p5 c4 c5 _ _ Y3 Y3 _ rfl rfl R4_7.out R5_7.out B3.out B3.out).mono ?_
  rintro e w10 ⟨rfl, hw⟩
  subst hw
  simp only [decide_true]
  go_wp2
  go_ret
  exact ⟨by simp, (HBK.out _ H7.out).1⟩

set_option maxRecDepth 100000 in
set_option maxHeartbeats 2000000 in
theorem lifted_recordWrites (os : Os) (started : os.Started) (H : Type) (enc : TypeId × Value → H) :
    ReturnsInHanded {} Try.checked os 4 .any (Rows.recordWritesSpec.pre6 enc Try.prog Try.f4 Rows.recordWritesRow.domain false) (Rows.recordWritesSpec.post enc Try.prog Try.f4 false true false false) := by
  refine returnsInHanded_of_change_sized (C := Try.checked) own started (by kernel_rfl) Try.func4
    (ChangeSpec.witness6 (enc := enc) (C := Try.checked) false ⟨#[], #[.agg #[.int .i64 0, .slice none 0 0], .agg #[.int .i64 0, .slice none 0 0, .bool false], .agg #[.int .i64 0, .int .i64 0, .int .i64 0, .int .i64 0, .int .i64 0, .int .i64 0, .int .i64 0, .int .i64 0]], []⟩ 8 (by kernel_rfl) (by kernel_rfl) (by kernel_rfl) (by kernel_rfl)) ?_
  intro W base args ds gs before hval0 hW _ hsz0 _
  have hsz : (DataW.weightsEach Try.prog (Try.f4.params.toList ++ Rows.recordWritesSpec.plain.varTypes Try.prog) (ds ++ gs)).all (· ≤ reachBytes) = true := hsz0
  clear hsz0
  have hval : ∀ (j : Nat) t v, Try.f4.params[j]? = some t → args[j]? = some v → Value.okWide Try.prog W .any base t v := hval0
  have hW' := hW
  obtain ⟨p, q, hA0, hV, rfl, hfz, hnd⟩ := hW
  have hA : DataW.TrodAll enc Try.prog W 0 (fun _ => true) true Try.f4.params.toList args.toList ds p := hA0
  rw [Try.params4] at hA hval hsz
  obtain ⟨v0, vs0, d0, ds0, p0, q0, hargs, rfl, rfl, h0, r0⟩ := trodAll_cons hA
  obtain ⟨v1, vs1, d1, ds1, p1, q1, rfl, rfl, rfl, h1, r1⟩ := trodAll_cons r0
  obtain ⟨v2, vs2, d2, ds2, p2, q2, rfl, rfl, rfl, h2, r2⟩ := trodAll_cons r1
  obtain ⟨rfl, rfl, rfl⟩ := trodAll_nil r2
  obtain rfl : args = #[v0, v1, v2] := by cases args; simp_all
  obtain ⟨rfl, rfl⟩ := trodVars_none hV
  have k0 := h0
  have lt0 : ∀ x ∈ p0, x.block < W.heap.size := by obtain ⟨m, hm⟩ := k0; exact DataW.trod_lt m _ _ _ hm
  obtain ⟨n0, a0, len0, cap0, l0, e0, u0, w0⟩ : ∃ n0 a0 len0 cap0 l0, v0 = .agg #[.int .i64 n0, .slice a0 len0 cap0] ∧ (-9223372036854775808 ≤ n0 ∧ n0 ≤ 9223372036854775807) ∧ InW W a0 len0 cap0 l0 := by
    obtain ⟨cs, hcs, _⟩ := okWide_struct Try.underlying24 (hval 0 24 v0 rfl rfl)
    obtain ⟨fuel, hf⟩ := h0
    obtain ⟨n0, a0, len0, cap0, l0, hg, ho⟩ := in_commit hf
    refine ⟨n0, a0, len0, cap0, l0, ?_, ho⟩
    rw [hcs] at hg ⊢
    congr 1
    apply Array.ext'
    simpa [Value.cells] using hg
  subst e0
  have k1 := h1
  have lt1 : ∀ x ∈ p1, x.block < W.heap.size := by obtain ⟨m, hm⟩ := k1; exact DataW.trod_lt m _ _ _ hm
  obtain ⟨n1, a1, len1, cap1, l1, b1, e1, u1, w1⟩ : ∃ n1 a1 len1 cap1 l1 b1, v1 = .agg #[.int .i64 n1, .slice a1 len1 cap1, .bool b1] ∧ (-9223372036854775808 ≤ n1 ∧ n1 ≤ 9223372036854775807) ∧ InS W a1 len1 cap1 l1 := by
    obtain ⟨cs, hcs, _⟩ := okWide_struct Try.underlying27 (hval 1 27 v1 rfl rfl)
    obtain ⟨fuel, hf⟩ := h1
    obtain ⟨n1, a1, len1, cap1, l1, b1, hg, ho⟩ := in_chunk hf
    refine ⟨n1, a1, len1, cap1, l1, b1, ?_, ho⟩
    rw [hcs] at hg ⊢
    congr 1
    apply Array.ext'
    simpa [Value.cells] using hg
  subst e1
  have k2 := h2
  have lt2 : ∀ x ∈ p2, x.block < W.heap.size := by obtain ⟨m, hm⟩ := k2; exact DataW.trod_lt m _ _ _ hm
  obtain ⟨m2, e2, w2⟩ : ∃ m2 : Ms, v2 = .agg m2.cells.toArray ∧ m2.ok := by
    obtain ⟨cs, hcs, _⟩ := okWide_struct Try.underlying31 (hval 2 31 v2 rfl rfl)
    obtain ⟨fuel, hf⟩ := h2
    obtain ⟨m2, hg, ho⟩ := in_master hf
    refine ⟨m2, ?_, ho⟩
    rw [hcs] at hg ⊢
    congr 1
    apply Array.ext'
    simpa [Value.cells] using hg
  subst e2
  clear hA0 hval0
  refine (walk_recordWrites n0 a0 len0 cap0 l0 n1 a1 len1 cap1 l1 b1 m2 W u0 w0 u1 w1 w2).mono fun e W' ⟨he, bel⟩ => ?_
  subst he
  exact ⟨_, rfl, _, _, _, [], _, [], hW', trodAll_mk1 (shut_bool Try.underlying4 _), (trodAll_cons_mk (Below.trod laidOut (by kernel_rfl) (of_decide_eq_true (by kernel_rfl)) k0 bel lt0) (trodAll_cons_mk (Below.trod laidOut (by kernel_rfl) (of_decide_eq_true (by kernel_rfl)) k1 bel lt1) (trodAll_cons_mk (Below.trod laidOut (by kernel_rfl) (of_decide_eq_true (by kernel_rfl)) k2 bel lt2) trodAll_mk0))), rfl, bel.frame _, fun h => by cases h⟩

/-- The statement. -/
theorem recordWrites_holds : Rows.RecordWritesSaid :=
  OpenClaim.holds_of_wide 4 Try.f4 rfl rfl rfl rfl rfl rfl rfl ⟨rfl, rfl, rfl, rfl, rfl⟩ rfl rfl rfl rfl rfl (by kernel_rfl) Try.func4 (by kernel_rfl)
    (of_decide_eq_true (by kernel_rfl)) (by unfold Func.isWrapper; first | (rw [if_pos (by decide +kernel)]; kernel_rfl) | (rw [if_neg (by decide +kernel)]; exact ⟨rfl, rfl⟩))
    (fun os started H enc _ => lifted_recordWrites os started H enc)
#print axioms recordWrites_holds
end Go.Proofs.Ytlfgclmgpbaenaa
