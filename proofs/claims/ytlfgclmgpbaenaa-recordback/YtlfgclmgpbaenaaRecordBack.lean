/- What is written of a commit, a chunk and a master is read as it was. -/
import Derived.Test.YtlfgclmgpbaenaaRcLive
import Derived.Test.YtlfgclmgpbaenaaRcOne
import Derived.Test.YtlfgclmgpbaenaaRcEqH
import Derived.Test.YtlfgclmgpbaenaaRcMs
import Derived.Test.YtlfgclmgpbaenaaRcArgs
namespace Go.Proofs.Ytlfgclmgpbaenaa
open Go.ChangeShapes Go.WideShapes Go.ChangeAt Go.RowKit
set_option linter.unusedVariables false
set_option maxRecDepth 100000

set_option maxHeartbeats 8000000 in
theorem walk_recordBack (ts : Int) (p : Option Addr) (len cap : Nat) (l : List Wr) (n : Int) (q : Option Addr) (m qc : Nat) (ll : List St) (d : Bool) (ms : Ms) (w : World) (hts : -9223372036854775808 ≤ ts ∧ ts ≤ 9223372036854775807) (hin : InW w p len cap l) (hn : -9223372036854775808 ≤ n ∧ n ≤ 9223372036854775807) (his : InS w q m qc ll) (hms : ms.ok) :
    Calls Try.prog 7 #[.agg #[.int .i64 ts, .slice p len cap], .agg #[.int .i64 n, .slice q m qc, .bool d], .agg ms.cells.toArray] w fun e w' => e = .returned (.bool true) ∧ Below w.heap.size w w' := by
  have hle := hin.le
  have hroom := hin.room
  have HI : Hid (∀ w', Below w.heap.size w w' → InW w' p len cap l) := fun w' hb => hin.up hb
  have HJ : Hid (∀ w', Below w.heap.size w w' → InS w' q m qc ll) := fun w' hb => his.up hb
  have HTS : Hid (∀ g ∈ ll, -9223372036854775808 ≤ g.ts ∧ g.ts ≤ 9223372036854775807) := his.size
  clear hin his hts hn hms
  have hbx : Below w.heap.size w (((w.alloc (.cells #[.int .i64 ts, .slice p len cap] 24)).alloc (.cells #[.int .i64 n, .slice q m qc, .bool d] 27)).alloc (.cells ms.cells.toArray 31)) := (((Below.refl _ _).alloc (Nat.le_refl _) _).alloc (by simp) _).alloc (by simp; omega) _
  have k1 : Bk (((w.alloc (.cells #[.int .i64 ts, .slice p len cap] 24)).alloc (.cells #[.int .i64 n, .slice q m qc, .bool d] 27)).alloc (.cells ms.cells.toArray 31)) w.heap.size 24 #[.int .i64 ts, .slice p len cap] := ((Bk.new _ _ _).alloc _).alloc _
  have k2 : Bk (((w.alloc (.cells #[.int .i64 ts, .slice p len cap] 24)).alloc (.cells #[.int .i64 n, .slice q m qc, .bool d] 27)).alloc (.cells ms.cells.toArray 31)) (w.heap.size + 1) 27 #[.int .i64 n, .slice q m qc, .bool d] := by
    have := (Bk.new (w.alloc (.cells #[.int .i64 ts, .slice p len cap] 24)) 27 #[.int .i64 n, .slice q m qc, .bool d]).alloc (.cells ms.cells.toArray 31)
    simpa using this
  have k3 : Bk (((w.alloc (.cells #[.int .i64 ts, .slice p len cap] 24)).alloc (.cells #[.int .i64 n, .slice q m qc, .bool d] 27)).alloc (.cells ms.cells.toArray 31)) (w.heap.size + 2) 31 ms.cells.toArray := by
    have := Bk.new ((w.alloc (.cells #[.int .i64 ts, .slice p len cap] 24)).alloc (.cells #[.int .i64 n, .slice q m qc, .bool d] 27)) 31 ms.cells.toArray
    simpa using this
  have hs : (((w.alloc (.cells #[.int .i64 ts, .slice p len cap] 24)).alloc (.cells #[.int .i64 n, .slice q m qc, .bool d] 27)).alloc (.cells ms.cells.toArray 31)).heap.size = w.heap.size + 3 := by simp
  have HBK : Hid (∀ w', Below (w.heap.size + 3) (((w.alloc (.cells #[.int .i64 ts, .slice p len cap] 24)).alloc (.cells #[.int .i64 n, .slice q m qc, .bool d] 27)).alloc (.cells ms.cells.toArray 31)) w' → Below w.heap.size w w' ∧ Bk w' w.heap.size 24 #[.int .i64 ts, .slice p len cap] ∧ Bk w' (w.heap.size + 1) 27 #[.int .i64 n, .slice q m qc, .bool d] ∧ Bk w' (w.heap.size + 2) 31 ms.cells.toArray) :=
    fun w' hb => ⟨hbx.trans (hb.mono (by omega)), k1.below hb (by omega), k2.below hb (by omega), k3.below hb (by omega)⟩
  have HB0 : Hid (Below (w.heap.size + 3) (((w.alloc (.cells #[.int .i64 ts, .slice p len cap] 24)).alloc (.cells #[.int .i64 n, .slice q m qc, .bool d] 27)).alloc (.cells ms.cells.toArray 31)) (((w.alloc (.cells #[.int .i64 ts, .slice p len cap] 24)).alloc (.cells #[.int .i64 n, .slice q m qc, .bool d] 27)).alloc (.cells ms.cells.toArray 31))) := Below.refl _ _
  clear k1 k2 k3 hs hbx
  obtain ⟨w0, hw0⟩ : ∃ w0, (((w.alloc (.cells #[.int .i64 ts, .slice p len cap] 24)).alloc (.cells #[.int .i64 n, .slice q m qc, .bool d] 27)).alloc (.cells ms.cells.toArray 31)) = w0 := ⟨_, rfl⟩
  rw [hw0] at HBK HB0
  have HW0 : Hid _ := hw0
  clear hw0
  have HC : Hid (∀ w', Below (w.heap.size + 3) w0 w' → (w'.cell? ⟨w.heap.size, 0, none⟩ = some (.int .i64 ts) ∧ w'.cell? ⟨w.heap.size, 1, none⟩ = some (.slice p len cap)) ∧ (w'.cell? ⟨w.heap.size + 1, 0, none⟩ = some (.int .i64 n) ∧ w'.cell? ⟨w.heap.size + 1, 1, none⟩ = some (.slice q m qc) ∧ w'.cell? ⟨w.heap.size + 1, 2, none⟩ = some (.bool d)) ∧
      (w'.cell? ⟨w.heap.size + 2, 0, none⟩ = some (.int .i64 ms.seq) ∧ w'.cell? ⟨w.heap.size + 2, 1, none⟩ = some (.int .i64 ms.area) ∧ w'.cell? ⟨w.heap.size + 2, 2, none⟩ = some (.int .i64 ms.chunks) ∧ w'.cell? ⟨w.heap.size + 2, 3, none⟩ = some (.int .i64 ms.ts) ∧ w'.cell? ⟨w.heap.size + 2, 4, none⟩ = some (.int .i64 ms.sector) ∧ w'.cell? ⟨w.heap.size + 2, 5, none⟩ = some (.int .i64 ms.offset) ∧ w'.cell? ⟨w.heap.size + 2, 6, none⟩ = some (.int .i64 ms.number) ∧ w'.cell? ⟨w.heap.size + 2, 7, none⟩ = some (.int .i64 ms.run))) := by
    intro w' hb
    obtain ⟨-, b1, b2, b3⟩ := HBK.out w' hb
    exact ⟨⟨b1.cell 0, b1.cell 1⟩, ⟨b2.cell 0, b2.cell 1, b2.cell 2⟩, ⟨b3.cell 0, b3.cell 1, b3.cell 2, b3.cell 3, b3.cell 4, b3.cell 5, b3.cell 6, b3.cell 7⟩⟩
  have HSZ : Hid (∀ w', Below (w.heap.size + 3) w0 w' → w.heap.size + 3 ≤ w'.heap.size) := fun w' hb => by have := hb.size; have := (HBK.out w0 HB0.out).2.2.2.lt; omega
  go_enter Try.func7, Try.ntmps7
  go_wp2_with fail
  rw [HW0.out]
  refine (live_any _).mono ?_
  rintro e wl ⟨rfl, hb⟩
  have HBL : Hid (Below (w.heap.size + 3) w0 wl) := HB0.out.trans (hb.mono (HSZ.out _ HB0.out))
  clear hb
  obtain ⟨k1, k2, k3⟩ := HC.out _ HBL.out
  go_wp2_with fail
  refine (commit_any ts p len cap l _ (HI.out _ (HBK.out _ HBL.out).1)).mono ?_
  rintro e wAx ⟨v, rfl, hb, h2, h3⟩
  have Hx : Hid (Below (w.heap.size + 3) w0 wAx) := HBL.out.trans (hb.mono (HSZ.out _ HBL.out))
  clear hb k1 k2 k3
  by_cases he : Rc.comE ts l = 0
  · have heb : (Rc.comE ts l == 0) = true := by simpa using he
    have ho := h2 he
    obtain ⟨p2, c2, hv2, -, -, -⟩ := ho.bys
    subst hv2
    have Ix : Hid (InB 9223372036854775807 wAx p2 (Rc.comB ts l).length c2 (Rc.comB ts l)) := ho.inb (Rc.comB_byte he)
    have Ex : Hid (Rc.comE ts l = 0) := he
    clear ho h2 h3 he
    go_wp2_with fail
    refine (takeCommit_any p2 _ c2 (Rc.comB ts l) _ Ix.out).mono ?_
    rintro e wBx ⟨v, rfl, ho, hb⟩
    rw [Rc.takeCom_back Ex.out] at ho ⊢
    simp only at ho ⊢
    obtain ⟨pv, cv, rfl⟩ := own_form ho
    have hbx : Below wBx.heap.size wBx (wBx.alloc (.cells #[.int .i64 ts, .slice pv l.length cv] 24)) := (Below.refl _ _).alloc (Nat.le_refl _) _
    have hB1 := Hx.out.trans (hb.mono (HSZ.out _ Hx.out))
    have Kx : Hid (Below (w.heap.size + 3) w0 (wBx.alloc (.cells #[.int .i64 ts, .slice pv l.length cv] 24))) := hB1.trans (hbx.mono (HSZ.out _ hB1))
    have Ox : Hid (InW (wBx.alloc (.cells #[.int .i64 ts, .slice pv l.length cv] 24)) pv l.length cv l) := ho.inw.up hbx
    obtain ⟨k1, k2, k3⟩ := HC.out _ Kx.out
    clear ho hb hbx hB1
    go_wp2_with fail
    refine (sameCommit_any ts ts p pv len l.length cap cv l l _ (HI.out _ (HBK.out _ Kx.out).1) Ox.out).mono ?_
    rintro e wCx ⟨b, rfl, hq, hb⟩
    obtain rfl : b = true := hq.2 ⟨rfl, rfl⟩
    have Lx : Hid (Below (w.heap.size + 3) w0 wCx) := Kx.out.trans (hb.mono (HSZ.out _ Kx.out))
    clear hq hb k1 k2 k3
    obtain ⟨k1, k2, k3⟩ := HC.out _ Lx.out
    go_wp2_with fail
    refine (chunk_any n d q m qc ll _ (HJ.out _ (HBK.out _ Lx.out).1)).mono ?_
    rintro e wAxa ⟨v, rfl, hb, h2, h3⟩
    have Hxa : Hid (Below (w.heap.size + 3) w0 wAxa) := Lx.out.trans (hb.mono (HSZ.out _ Lx.out))
    clear hb k1 k2 k3
    by_cases he : Rc.chE n ll = 0
    · have heb : (Rc.chE n ll == 0) = true := by simpa using he
      have ho := h2 he
      obtain ⟨p2, c2, hv2, -, -, -⟩ := ho.bys
      subst hv2
      have Ixa : Hid (InB 9223372036854775807 wAxa p2 (Rc.chB n d ll).length c2 (Rc.chB n d ll)) := ho.inb (Rc.chB_byte he HTS.out)
      have Exa : Hid (Rc.chE n ll = 0) := he
      clear ho h2 h3 he
      go_wp2_with fail
      refine (takeChunk_any p2 _ c2 (Rc.chB n d ll) _ Ixa.out).mono ?_
      rintro e wBxa ⟨v, rfl, ho, hb⟩
      rw [Rc.takeCh_back Exa.out] at ho ⊢
      simp only at ho ⊢
      obtain ⟨pv, cv, rfl⟩ := own_form ho
      have hbx : Below wBxa.heap.size wBxa (wBxa.alloc (.cells #[.int .i64 n, .slice pv ll.length cv, .bool d] 27)) := (Below.refl _ _).alloc (Nat.le_refl _) _
      have hB1 := Hxa.out.trans (hb.mono (HSZ.out _ Hxa.out))
      have Kxa : Hid (Below (w.heap.size + 3) w0 (wBxa.alloc (.cells #[.int .i64 n, .slice pv ll.length cv, .bool d] 27))) := hB1.trans (hbx.mono (HSZ.out _ hB1))
      have Oxa : Hid (InS (wBxa.alloc (.cells #[.int .i64 n, .slice pv ll.length cv, .bool d] 27)) pv ll.length cv ll) := (ho.ins HTS.out).up hbx
      obtain ⟨k1, k2, k3⟩ := HC.out _ Kxa.out
      clear ho hb hbx hB1
      go_wp2_with fail
      refine (sameChunk_any n n d d q pv m ll.length qc cv ll ll _ (HJ.out _ (HBK.out _ Kxa.out).1) Oxa.out).mono ?_
      rintro e wCxa ⟨b, rfl, hq, hb⟩
      obtain rfl : b = true := hq.2 ⟨rfl, rfl, rfl⟩
      have Lxa : Hid (Below (w.heap.size + 3) w0 wCxa) := Kxa.out.trans (hb.mono (HSZ.out _ Kxa.out))
      clear hq hb k1 k2 k3
      obtain ⟨k1, k2, k3⟩ := HC.out _ Lxa.out
      go_wp2_with fail
      refine (master_any ms _).mono ?_
      rintro e wAxaa ⟨v, rfl, hb, h2, h3⟩
      have Hxaa : Hid (Below (w.heap.size + 3) w0 wAxaa) := Lxa.out.trans (hb.mono (HSZ.out _ Lxa.out))
      clear hb k1 k2 k3
      by_cases he : Rc.msE ms = 0
      · have heb : (Rc.msE ms != 0) = false := by simpa using he
        have ho := h2 he
        obtain ⟨p2, c2, hv2, -, -, -⟩ := ho.bys
        subst hv2
        have Ixaa : Hid (InB 9223372036854775807 wAxaa p2 (Rc.msB ms).length c2 (Rc.msB ms)) := ho.inb (Rc.msB_byte he)
        have Exaa : Hid (Rc.msE ms = 0) := he
        clear ho h2 h3 he
        go_wp2_with fail
        refine (takeMaster_any p2 _ c2 (Rc.msB ms) _ Ixaa.out).mono ?_
        rintro e wBxaa ⟨rfl, hb⟩
        rw [Rc.takeMs_back Exaa.out]
        simp only
        have hbx : Below wBxaa.heap.size wBxaa (wBxaa.alloc (.cells ms.cells.toArray 31)) := (Below.refl _ _).alloc (Nat.le_refl _) _
        have hB1 := Hxaa.out.trans (hb.mono (HSZ.out _ Hxaa.out))
        have Kxaa : Hid (Below (w.heap.size + 3) w0 (wBxaa.alloc (.cells ms.cells.toArray 31))) := hB1.trans (hbx.mono (HSZ.out _ hB1))
        obtain ⟨k1, k2, k3⟩ := HC.out _ Kxaa.out
        clear hb hbx hB1
        rw [show ms.cells.toArray = #[.int .i64 ms.seq, .int .i64 ms.area, .int .i64 ms.chunks, .int .i64 ms.ts, .int .i64 ms.sector, .int .i64 ms.offset, .int .i64 ms.number, .int .i64 ms.run] from rfl] at Kxaa k1 k2 k3 ⊢
        go_wp2
        go_ret
        exact ⟨by simp, (HBK.out _ Kxaa.out).1⟩
      · have heb : (Rc.msE ms != 0) = true := by simpa using he
        clear h2 h3 he
        obtain ⟨k1, k2, k3⟩ := HC.out _ Hxaa.out
        go_wp2_with fail
        refine (rcheckMaster_any ms _).mono ?_
        rintro e wDxaa ⟨rfl, hb⟩
        have Mxaa : Hid (Below (w.heap.size + 3) w0 wDxaa) := Hxaa.out.trans (hb.mono (HSZ.out _ Hxaa.out))
        clear hb k1 k2 k3
        go_wp2
        go_ret
        exact ⟨by simp, (HBK.out _ Mxaa.out).1⟩
    · have heb : (Rc.chE n ll == 0) = false := by simpa using he
      clear h2 h3 he
      obtain ⟨k1, k2, k3⟩ := HC.out _ Hxa.out
      go_wp2_with fail
      refine (rcheckChunk_any n q m qc ll d _ (HJ.out _ (HBK.out _ Hxa.out).1)).mono ?_
      rintro e wDxa ⟨rfl, hb⟩
      have Mxa : Hid (Below (w.heap.size + 3) w0 wDxa) := Hxa.out.trans (hb.mono (HSZ.out _ Hxa.out))
      clear hb k1 k2 k3
      obtain ⟨k1, k2, k3⟩ := HC.out _ Mxa.out
      go_wp2_with fail
      refine (master_any ms _).mono ?_
      rintro e wAxab ⟨v, rfl, hb, h2, h3⟩
      have Hxab : Hid (Below (w.heap.size + 3) w0 wAxab) := Mxa.out.trans (hb.mono (HSZ.out _ Mxa.out))
      clear hb k1 k2 k3
      by_cases he : Rc.msE ms = 0
      · have heb : (Rc.msE ms != 0) = false := by simpa using he
        have ho := h2 he
        obtain ⟨p2, c2, hv2, -, -, -⟩ := ho.bys
        subst hv2
        have Ixab : Hid (InB 9223372036854775807 wAxab p2 (Rc.msB ms).length c2 (Rc.msB ms)) := ho.inb (Rc.msB_byte he)
        have Exab : Hid (Rc.msE ms = 0) := he
        clear ho h2 h3 he
        go_wp2_with fail
        refine (takeMaster_any p2 _ c2 (Rc.msB ms) _ Ixab.out).mono ?_
        rintro e wBxab ⟨rfl, hb⟩
        rw [Rc.takeMs_back Exab.out]
        simp only
        have hbx : Below wBxab.heap.size wBxab (wBxab.alloc (.cells ms.cells.toArray 31)) := (Below.refl _ _).alloc (Nat.le_refl _) _
        have hB1 := Hxab.out.trans (hb.mono (HSZ.out _ Hxab.out))
        have Kxab : Hid (Below (w.heap.size + 3) w0 (wBxab.alloc (.cells ms.cells.toArray 31))) := hB1.trans (hbx.mono (HSZ.out _ hB1))
        obtain ⟨k1, k2, k3⟩ := HC.out _ Kxab.out
        clear hb hbx hB1
        rw [show ms.cells.toArray = #[.int .i64 ms.seq, .int .i64 ms.area, .int .i64 ms.chunks, .int .i64 ms.ts, .int .i64 ms.sector, .int .i64 ms.offset, .int .i64 ms.number, .int .i64 ms.run] from rfl] at Kxab k1 k2 k3 ⊢
        go_wp2
        go_ret
        exact ⟨by simp, (HBK.out _ Kxab.out).1⟩
      · have heb : (Rc.msE ms != 0) = true := by simpa using he
        clear h2 h3 he
        obtain ⟨k1, k2, k3⟩ := HC.out _ Hxab.out
        go_wp2_with fail
        refine (rcheckMaster_any ms _).mono ?_
        rintro e wDxab ⟨rfl, hb⟩
        have Mxab : Hid (Below (w.heap.size + 3) w0 wDxab) := Hxab.out.trans (hb.mono (HSZ.out _ Hxab.out))
        clear hb k1 k2 k3
        go_wp2
        go_ret
        exact ⟨by simp, (HBK.out _ Mxab.out).1⟩
  · have heb : (Rc.comE ts l == 0) = false := by simpa using he
    clear h2 h3 he
    obtain ⟨k1, k2, k3⟩ := HC.out _ Hx.out
    go_wp2_with fail
    refine (rcheckCommit_any ts p len cap l _ (HI.out _ (HBK.out _ Hx.out).1)).mono ?_
    rintro e wDx ⟨rfl, hb⟩
    have Mx : Hid (Below (w.heap.size + 3) w0 wDx) := Hx.out.trans (hb.mono (HSZ.out _ Hx.out))
    clear hb k1 k2 k3
    obtain ⟨k1, k2, k3⟩ := HC.out _ Mx.out
    go_wp2_with fail
    refine (chunk_any n d q m qc ll _ (HJ.out _ (HBK.out _ Mx.out).1)).mono ?_
    rintro e wAxb ⟨v, rfl, hb, h2, h3⟩
    have Hxb : Hid (Below (w.heap.size + 3) w0 wAxb) := Mx.out.trans (hb.mono (HSZ.out _ Mx.out))
    clear hb k1 k2 k3
    by_cases he : Rc.chE n ll = 0
    · have heb : (Rc.chE n ll == 0) = true := by simpa using he
      have ho := h2 he
      obtain ⟨p2, c2, hv2, -, -, -⟩ := ho.bys
      subst hv2
      have Ixb : Hid (InB 9223372036854775807 wAxb p2 (Rc.chB n d ll).length c2 (Rc.chB n d ll)) := ho.inb (Rc.chB_byte he HTS.out)
      have Exb : Hid (Rc.chE n ll = 0) := he
      clear ho h2 h3 he
      go_wp2_with fail
      refine (takeChunk_any p2 _ c2 (Rc.chB n d ll) _ Ixb.out).mono ?_
      rintro e wBxb ⟨v, rfl, ho, hb⟩
      rw [Rc.takeCh_back Exb.out] at ho ⊢
      simp only at ho ⊢
      obtain ⟨pv, cv, rfl⟩ := own_form ho
      have hbx : Below wBxb.heap.size wBxb (wBxb.alloc (.cells #[.int .i64 n, .slice pv ll.length cv, .bool d] 27)) := (Below.refl _ _).alloc (Nat.le_refl _) _
      have hB1 := Hxb.out.trans (hb.mono (HSZ.out _ Hxb.out))
      have Kxb : Hid (Below (w.heap.size + 3) w0 (wBxb.alloc (.cells #[.int .i64 n, .slice pv ll.length cv, .bool d] 27))) := hB1.trans (hbx.mono (HSZ.out _ hB1))
      have Oxb : Hid (InS (wBxb.alloc (.cells #[.int .i64 n, .slice pv ll.length cv, .bool d] 27)) pv ll.length cv ll) := (ho.ins HTS.out).up hbx
      obtain ⟨k1, k2, k3⟩ := HC.out _ Kxb.out
      clear ho hb hbx hB1
      go_wp2_with fail
      refine (sameChunk_any n n d d q pv m ll.length qc cv ll ll _ (HJ.out _ (HBK.out _ Kxb.out).1) Oxb.out).mono ?_
      rintro e wCxb ⟨b, rfl, hq, hb⟩
      obtain rfl : b = true := hq.2 ⟨rfl, rfl, rfl⟩
      have Lxb : Hid (Below (w.heap.size + 3) w0 wCxb) := Kxb.out.trans (hb.mono (HSZ.out _ Kxb.out))
      clear hq hb k1 k2 k3
      obtain ⟨k1, k2, k3⟩ := HC.out _ Lxb.out
      go_wp2_with fail
      refine (master_any ms _).mono ?_
      rintro e wAxba ⟨v, rfl, hb, h2, h3⟩
      have Hxba : Hid (Below (w.heap.size + 3) w0 wAxba) := Lxb.out.trans (hb.mono (HSZ.out _ Lxb.out))
      clear hb k1 k2 k3
      by_cases he : Rc.msE ms = 0
      · have heb : (Rc.msE ms != 0) = false := by simpa using he
        have ho := h2 he
        obtain ⟨p2, c2, hv2, -, -, -⟩ := ho.bys
        subst hv2
        have Ixba : Hid (InB 9223372036854775807 wAxba p2 (Rc.msB ms).length c2 (Rc.msB ms)) := ho.inb (Rc.msB_byte he)
        have Exba : Hid (Rc.msE ms = 0) := he
        clear ho h2 h3 he
        go_wp2_with fail
        refine (takeMaster_any p2 _ c2 (Rc.msB ms) _ Ixba.out).mono ?_
        rintro e wBxba ⟨rfl, hb⟩
        rw [Rc.takeMs_back Exba.out]
        simp only
        have hbx : Below wBxba.heap.size wBxba (wBxba.alloc (.cells ms.cells.toArray 31)) := (Below.refl _ _).alloc (Nat.le_refl _) _
        have hB1 := Hxba.out.trans (hb.mono (HSZ.out _ Hxba.out))
        have Kxba : Hid (Below (w.heap.size + 3) w0 (wBxba.alloc (.cells ms.cells.toArray 31))) := hB1.trans (hbx.mono (HSZ.out _ hB1))
        obtain ⟨k1, k2, k3⟩ := HC.out _ Kxba.out
        clear hb hbx hB1
        rw [show ms.cells.toArray = #[.int .i64 ms.seq, .int .i64 ms.area, .int .i64 ms.chunks, .int .i64 ms.ts, .int .i64 ms.sector, .int .i64 ms.offset, .int .i64 ms.number, .int .i64 ms.run] from rfl] at Kxba k1 k2 k3 ⊢
        go_wp2
        go_ret
        exact ⟨by simp, (HBK.out _ Kxba.out).1⟩
      · have heb : (Rc.msE ms != 0) = true := by simpa using he
        clear h2 h3 he
        obtain ⟨k1, k2, k3⟩ := HC.out _ Hxba.out
        go_wp2_with fail
        refine (rcheckMaster_any ms _).mono ?_
        rintro e wDxba ⟨rfl, hb⟩
        have Mxba : Hid (Below (w.heap.size + 3) w0 wDxba) := Hxba.out.trans (hb.mono (HSZ.out _ Hxba.out))
        clear hb k1 k2 k3
        go_wp2
        go_ret
        exact ⟨by simp, (HBK.out _ Mxba.out).1⟩
    · have heb : (Rc.chE n ll == 0) = false := by simpa using he
      clear h2 h3 he
      obtain ⟨k1, k2, k3⟩ := HC.out _ Hxb.out
      go_wp2_with fail
      refine (rcheckChunk_any n q m qc ll d _ (HJ.out _ (HBK.out _ Hxb.out).1)).mono ?_
      rintro e wDxb ⟨rfl, hb⟩
      have Mxb : Hid (Below (w.heap.size + 3) w0 wDxb) := Hxb.out.trans (hb.mono (HSZ.out _ Hxb.out))
      clear hb k1 k2 k3
      obtain ⟨k1, k2, k3⟩ := HC.out _ Mxb.out
      go_wp2_with fail
      refine (master_any ms _).mono ?_
      rintro e wAxbb ⟨v, rfl, hb, h2, h3⟩
      have Hxbb : Hid (Below (w.heap.size + 3) w0 wAxbb) := Mxb.out.trans (hb.mono (HSZ.out _ Mxb.out))
      clear hb k1 k2 k3
      by_cases he : Rc.msE ms = 0
      · have heb : (Rc.msE ms != 0) = false := by simpa using he
        have ho := h2 he
        obtain ⟨p2, c2, hv2, -, -, -⟩ := ho.bys
        subst hv2
        have Ixbb : Hid (InB 9223372036854775807 wAxbb p2 (Rc.msB ms).length c2 (Rc.msB ms)) := ho.inb (Rc.msB_byte he)
        have Exbb : Hid (Rc.msE ms = 0) := he
        clear ho h2 h3 he
        go_wp2_with fail
        refine (takeMaster_any p2 _ c2 (Rc.msB ms) _ Ixbb.out).mono ?_
        rintro e wBxbb ⟨rfl, hb⟩
        rw [Rc.takeMs_back Exbb.out]
        simp only
        have hbx : Below wBxbb.heap.size wBxbb (wBxbb.alloc (.cells ms.cells.toArray 31)) := (Below.refl _ _).alloc (Nat.le_refl _) _
        have hB1 := Hxbb.out.trans (hb.mono (HSZ.out _ Hxbb.out))
        have Kxbb : Hid (Below (w.heap.size + 3) w0 (wBxbb.alloc (.cells ms.cells.toArray 31))) := hB1.trans (hbx.mono (HSZ.out _ hB1))
        obtain ⟨k1, k2, k3⟩ := HC.out _ Kxbb.out
        clear hb hbx hB1
        rw [show ms.cells.toArray = #[.int .i64 ms.seq, .int .i64 ms.area, .int .i64 ms.chunks, .int .i64 ms.ts, .int .i64 ms.sector, .int .i64 ms.offset, .int .i64 ms.number, .int .i64 ms.run] from rfl] at Kxbb k1 k2 k3 ⊢
        go_wp2
        go_ret
        exact ⟨by simp, (HBK.out _ Kxbb.out).1⟩
      · have heb : (Rc.msE ms != 0) = true := by simpa using he
        clear h2 h3 he
        obtain ⟨k1, k2, k3⟩ := HC.out _ Hxbb.out
        go_wp2_with fail
        refine (rcheckMaster_any ms _).mono ?_
        rintro e wDxbb ⟨rfl, hb⟩
        have Mxbb : Hid (Below (w.heap.size + 3) w0 wDxbb) := Hxbb.out.trans (hb.mono (HSZ.out _ Hxbb.out))
        clear hb k1 k2 k3
        go_wp2
        go_ret
        exact ⟨by simp, (HBK.out _ Mxbb.out).1⟩

set_option maxRecDepth 100000 in
set_option maxHeartbeats 2000000 in
theorem lifted_recordBack (os : Os) (started : os.Started) (H : Type) (enc : TypeId × Value → H) :
    ReturnsInHanded {} Try.checked os 7 .any (Rows.recordBackSpec.pre6 enc Try.prog Try.f7 Rows.recordBackRow.domain false) (Rows.recordBackSpec.post enc Try.prog Try.f7 false true false false) := by
  refine returnsInHanded_of_change_sized (C := Try.checked) own started (by kernel_rfl) Try.func7
    (ChangeSpec.witness6 (enc := enc) (C := Try.checked) false ⟨#[], #[.agg #[.int .i64 0, .slice none 0 0], .agg #[.int .i64 0, .slice none 0 0, .bool false], .agg #[.int .i64 0, .int .i64 0, .int .i64 0, .int .i64 0, .int .i64 0, .int .i64 0, .int .i64 0, .int .i64 0]], []⟩ 8 (by kernel_rfl) (by kernel_rfl) (by kernel_rfl) (by kernel_rfl)) ?_
  intro W base args ds gs before hval0 hW _ hsz0 _
  have hsz : (DataW.weightsEach Try.prog (Try.f7.params.toList ++ Rows.recordBackSpec.plain.varTypes Try.prog) (ds ++ gs)).all (· ≤ reachBytes) = true := hsz0
  clear hsz0
  have hval : ∀ (j : Nat) t v, Try.f7.params[j]? = some t → args[j]? = some v → Value.okWide Try.prog W .any base t v := hval0
  have hW' := hW
  obtain ⟨p, q, hA0, hV, rfl, hfz, hnd⟩ := hW
  have hA : DataW.TrodAll enc Try.prog W 0 (fun _ => true) true Try.f7.params.toList args.toList ds p := hA0
  rw [Try.params7] at hA hval hsz
  obtain ⟨v0, vs0, d0, ds0, p0, q0, hargs, rfl, rfl, h0, r0⟩ := trodAll_cons hA
  obtain ⟨v1, vs1, d1, ds1, p1, q1, rfl, rfl, rfl, h1, r1⟩ := trodAll_cons r0
  obtain ⟨v2, vs2, d2, ds2, p2, q2, rfl, rfl, rfl, h2, r2⟩ := trodAll_cons r1
  obtain ⟨rfl, rfl, rfl⟩ := trodAll_nil r2
  obtain rfl : args = #[v0, v1, v2] := by cases args; simp_all
  obtain ⟨rfl, rfl⟩ := trodVars_none hV
  have k0 := h0
  have lt0 : ∀ x ∈ p0, x.block < W.heap.size := by obtain ⟨m, hm⟩ := k0; exact DataW.trod_lt m _ _ _ hm
  obtain ⟨n0, a0, len0, cap0, l0, e0, u0, w0⟩ : ∃ n0 a0 len0 cap0 l0, v0 = .agg #[.int .i64 n0, .slice a0 len0 cap0] ∧ (-9223372036854775808 ≤ n0 ∧ n0 ≤ 9223372036854775807) ∧ InW W a0 len0 cap0 l0 := by
    obtain ⟨cs, hcs, _⟩ := okWide_struct Try.underlying24 (hval 0 24 v0 rfl rfl)
    obtain ⟨fuel, hf⟩ := h0
    obtain ⟨n0, a0, len0, cap0, l0, hg, ho⟩ := in_commit hf
    refine ⟨n0, a0, len0, cap0, l0, ?_, ho⟩
    rw [hcs] at hg ⊢
    congr 1
    apply Array.ext'
    simpa [Value.cells] using hg
  subst e0
  have k1 := h1
  have lt1 : ∀ x ∈ p1, x.block < W.heap.size := by obtain ⟨m, hm⟩ := k1; exact DataW.trod_lt m _ _ _ hm
  obtain ⟨n1, a1, len1, cap1, l1, b1, e1, u1, w1⟩ : ∃ n1 a1 len1 cap1 l1 b1, v1 = .agg #[.int .i64 n1, .slice a1 len1 cap1, .bool b1] ∧ (-9223372036854775808 ≤ n1 ∧ n1 ≤ 9223372036854775807) ∧ InS W a1 len1 cap1 l1 := by
    obtain ⟨cs, hcs, _⟩ := okWide_struct Try.underlying27 (hval 1 27 v1 rfl rfl)
    obtain ⟨fuel, hf⟩ := h1
    obtain ⟨n1, a1, len1, cap1, l1, b1, hg, ho⟩ := in_chunk hf
    refine ⟨n1, a1, len1, cap1, l1, b1, ?_, ho⟩
    rw [hcs] at hg ⊢
    congr 1
    apply Array.ext'
    simpa [Value.cells] using hg
  subst e1
  have k2 := h2
  have lt2 : ∀ x ∈ p2, x.block < W.heap.size := by obtain ⟨m, hm⟩ := k2; exact DataW.trod_lt m _ _ _ hm
  obtain ⟨m2, e2, w2⟩ : ∃ m2 : Ms, v2 = .agg m2.cells.toArray ∧ m2.ok := by
    obtain ⟨cs, hcs, _⟩ := okWide_struct Try.underlying31 (hval 2 31 v2 rfl rfl)
    obtain ⟨fuel, hf⟩ := h2
    obtain ⟨m2, hg, ho⟩ := in_master hf
    refine ⟨m2, ?_, ho⟩
    rw [hcs] at hg ⊢
    congr 1
    apply Array.ext'
    simpa [Value.cells] using hg
  subst e2
  clear hA0 hval0
  refine (walk_recordBack n0 a0 len0 cap0 l0 n1 a1 len1 cap1 l1 b1 m2 W u0 w0 u1 w1 w2).mono fun e W' ⟨he, bel⟩ => ?_
  subst he
  exact ⟨_, rfl, _, _, _, [], _, [], hW', trodAll_mk1 (shut_bool Try.underlying4 _), (trodAll_cons_mk (Below.trod laidOut (by kernel_rfl) (of_decide_eq_true (by kernel_rfl)) k0 bel lt0) (trodAll_cons_mk (Below.trod laidOut (by kernel_rfl) (of_decide_eq_true (by kernel_rfl)) k1 bel lt1) (trodAll_cons_mk (Below.trod laidOut (by kernel_rfl) (of_decide_eq_true (by kernel_rfl)) k2 bel lt2) trodAll_mk0))), rfl, bel.frame _, fun h => by cases h⟩

/-- The statement. -/
theorem recordBack_holds : Rows.RecordBackSaid :=
  OpenClaim.holds_of_wide 7 Try.f7 rfl rfl rfl rfl rfl rfl rfl ⟨rfl, rfl, rfl, rfl, rfl⟩ rfl rfl rfl rfl rfl (by kernel_rfl) Try.func7 (by kernel_rfl)
    (of_decide_eq_true (by kernel_rfl)) (by unfold Func.isWrapper; first | (rw [if_pos (by decide +kernel)]; kernel_rfl) | (rw [if_neg (by decide +kernel)]; exact ⟨rfl, rfl⟩))
    (fun os started H enc _ => lifted_recordBack os started H enc)
#print axioms recordBack_holds
end Go.Proofs.Ytlfgclmgpbaenaa
