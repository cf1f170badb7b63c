/- What is read of any bytes, written again, is the bytes. -/
import Derived.Test.YtlfgclmgpbaenaaRcLive
import Derived.Test.YtlfgclmgpbaenaaRcOne
import Derived.Test.YtlfgclmgpbaenaaRcArgs
namespace Go.Proofs.Ytlfgclmgpbaenaa
open Go.ChangeShapes Go.WideShapes Go.ChangeAt Go.RowKit
set_option linter.unusedVariables false
set_option maxRecDepth 100000

theorem InB.wide {B B' : Nat} {w : World} {p : Option Addr} {len cap : Nat} {xs : List Int} (h : InB B w p len cap xs) (hB : B ≤ B') : InB B' w p len cap xs := ⟨h.lenq, h.bys, h.le, Nat.le_trans h.room hB, h.nil, h.byte⟩

set_option maxHeartbeats 8000000 in
theorem walk_recordOne (p : Option Addr) (len cap : Nat) (xs : List Int) (w : World) (hin : InB 140737488351232 w p len cap xs) :
    Calls Try.prog 8 #[.slice p len cap] w fun e w' => e = .returned (.bool true) ∧ Below w.heap.size w w' := by
  have HI : Hid (∀ w', Below w.heap.size w w' → InB 9223372036854775807 w' p len cap xs) := fun w' hb => (hin.below hb).wide (by omega)
  have HL : Hid (xs.length = len) := hin.lenq
  have HBY : Hid (∀ y ∈ xs, 0 ≤ y ∧ y < 256) := hin.byte
  have HB0 : Hid (Below w.heap.size w w) := Below.refl _ _
  have s1 := Rc.takeCom_one hin.byte
  have s2 := Rc.takeCh_one hin.byte
  have s3 := Rc.takeMs_one hin.byte
  have t2 : ∀ g ∈ (Rc.takeCh xs).2.2.1, -9223372036854775808 ≤ g.ts ∧ g.ts ≤ 9223372036854775807 := by
    unfold Rc.takeCh
    simp only
    split
    · exact Rs.chunk_fits xs hin.byte
    · simp
  clear hin
  obtain ⟨C1, q1⟩ : ∃ C, Rc.takeCom xs = C := ⟨_, rfl⟩
  obtain ⟨C2, q2⟩ : ∃ C, Rc.takeCh xs = C := ⟨_, rfl⟩
  obtain ⟨C3, q3⟩ : ∃ C, Rc.takeMs xs = C := ⟨_, rfl⟩
  rw [q1] at s1
  rw [q2] at s2 t2
  rw [q3] at s3
  have Q1 : Hid (Rc.takeCom xs = C1) := q1
  have Q2 : Hid (Rc.takeCh xs = C2) := q2
  have Q3 : Hid (Rc.takeMs xs = C3) := q3
  clear q1 q2 q3
  obtain ⟨ts, l, e1⟩ := C1
  obtain ⟨n, d, ll, e2⟩ := C2
  obtain ⟨m, e3⟩ := C3
  simp only at s1 s2 s3 t2
  have S1 : Hid (e1 = 0 → Rc.comE ts l = 0 ∧ Rc.comB ts l = xs) := s1
  have S2 : Hid (e2 = 0 → Rc.chE n ll = 0 ∧ Rc.chB n d ll = xs) := s2
  have S3 : Hid (e3 = 0 → Rc.msE m = 0 ∧ Rc.msB m = xs) := s3
  have T2 : Hid (∀ g ∈ ll, -9223372036854775808 ≤ g.ts ∧ g.ts ≤ 9223372036854775807) := t2
  clear s1 s2 s3 t2
  go_enter Try.func8, Try.ntmps8
  go_wp2_with fail
  refine (takeCommit_any p len cap xs _ (HI.out _ HB0.out)).mono ?_
  rintro e wAx ⟨v, rfl, ho, hb⟩
  rw [Q1.out] at ho ⊢
  simp only at ho ⊢
  obtain ⟨pvx, cvx, rfl⟩ := own_form ho
  have hbx : Below wAx.heap.size wAx (wAx.alloc (.cells #[.int .i64 ts, .slice pvx l.length cvx] 24)) := (Below.refl _ _).alloc (Nat.le_refl _) _
  have Hx : Hid (Below w.heap.size w (wAx.alloc (.cells #[.int .i64 ts, .slice pvx l.length cvx] 24))) := (HB0.out.trans (hb.mono HB0.out.size)).trans (hbx.mono (HB0.out.trans (hb.mono HB0.out.size)).size)
  have Ox : Hid (InW (wAx.alloc (.cells #[.int .i64 ts, .slice pvx l.length cvx] 24)) pvx l.length cvx l) := ho.inw.up hbx
  clear hb hbx ho
  by_cases he : e1 = 0
  · have heb : (e1 == 0) = true := by simpa using he
    obtain ⟨z1, z2⟩ := S1.out he
    have Z1x : Hid _ := z1
    clear he
    go_wp2_with fail
    refine (commit_any ts pvx l.length cvx l _ Ox.out).mono ?_
    rintro e wBx ⟨v, rfl, hb, h2, -⟩
    have ho2 := h2 z1
    rw [z2] at ho2
    rw [z1]
    obtain ⟨p2, c2, hv2, -, -, hby2⟩ := ho2.bys
    subst hv2
    have Yx : Hid (Bys wBx p2 xs) := hby2
    have Kx : Hid (Below w.heap.size w wBx) := Hx.out.trans (hb.mono Hx.out.size)
    clear hb h2 ho2 hby2 z1 z2
    go_wp2_with fail
    refine (equal_any p2 p c2 cap xs.length len xs xs _ rfl HL.out Yx.out (HI.out _ Kx.out).bys HBY.out HBY.out).mono ?_
    rintro e wCx ⟨rfl, hw⟩
    subst hw
    simp only [decide_true]
    go_wp2_with fail
    refine (takeChunk_any p len cap xs _ (HI.out _ Kx.out)).mono ?_
    rintro e wAxa ⟨v, rfl, ho, hb⟩
    rw [Q2.out] at ho ⊢
    simp only at ho ⊢
    obtain ⟨pvxa, cvxa, rfl⟩ := own_form ho
    have hbx : Below wAxa.heap.size wAxa (wAxa.alloc (.cells #[.int .i64 n, .slice pvxa ll.length cvxa, .bool d] 27)) := (Below.refl _ _).alloc (Nat.le_refl _) _
    have Hxa : Hid (Below w.heap.size w (wAxa.alloc (.cells #[.int .i64 n, .slice pvxa ll.length cvxa, .bool d] 27))) := (Kx.out.trans (hb.mono Kx.out.size)).trans (hbx.mono (Kx.out.trans (hb.mono Kx.out.size)).size)
    have Oxa : Hid (InS (wAxa.alloc (.cells #[.int .i64 n, .slice pvxa ll.length cvxa, .bool d] 27)) pvxa ll.length cvxa ll) := (ho.ins T2.out).up hbx
    clear hb hbx ho
    by_cases he : e2 = 0
    · have heb : (e2 == 0) = true := by simpa using he
      obtain ⟨z1, z2⟩ := S2.out he
      have Z1xa : Hid _ := z1
      clear he
      go_wp2_with fail
      refine (chunk_any n d pvxa ll.length cvxa ll _ Oxa.out).mono ?_
      rintro e wBxa ⟨v, rfl, hb, h2, -⟩
      have ho2 := h2 z1
      rw [z2] at ho2
      rw [z1]
      obtain ⟨p2, c2, hv2, -, -, hby2⟩ := ho2.bys
      subst hv2
      have Yxa : Hid (Bys wBxa p2 xs) := hby2
      have Kxa : Hid (Below w.heap.size w wBxa) := Hxa.out.trans (hb.mono Hxa.out.size)
      clear hb h2 ho2 hby2 z1 z2
      go_wp2_with fail
      refine (equal_any p2 p c2 cap xs.length len xs xs _ rfl HL.out Yxa.out (HI.out _ Kxa.out).bys HBY.out HBY.out).mono ?_
      rintro e wCxa ⟨rfl, hw⟩
      subst hw
      simp only [decide_true]
      go_wp2_with fail
      refine (takeMaster_any p len cap xs _ (HI.out _ Kxa.out)).mono ?_
      rintro e wAxaa ⟨rfl, hb⟩
      rw [Q3.out]
      simp only 
      have hbx : Below wAxaa.heap.size wAxaa (wAxaa.alloc (.cells m.cells.toArray 31)) := (Below.refl _ _).alloc (Nat.le_refl _) _
      have Hxaa : Hid (Below w.heap.size w (wAxaa.alloc (.cells m.cells.toArray 31))) := (Kxa.out.trans (hb.mono Kxa.out.size)).trans (hbx.mono (Kxa.out.trans (hb.mono Kxa.out.size)).size)
      clear hb hbx
      rw [show m.cells.toArray = #[.int .i64 m.seq, .int .i64 m.area, .int .i64 m.chunks, .int .i64 m.ts, .int .i64 m.sector, .int .i64 m.offset, .int .i64 m.number, .int .i64 m.run] from rfl] at Hxaa ⊢
      by_cases he : e3 = 0
      · have heb : (e3 == 0) = true := by simpa using he
        obtain ⟨z1, z2⟩ := S3.out he
        have Z1xaa : Hid _ := z1
        clear he
        go_wp2_with fail
        refine (master_any m _).mono ?_
        rintro e wBxaa ⟨v, rfl, hb, h2, -⟩
        have ho2 := h2 z1
        rw [z2] at ho2
        rw [z1]
        obtain ⟨p2, c2, hv2, -, -, hby2⟩ := ho2.bys
        subst hv2
        have Yxaa : Hid (Bys wBxaa p2 xs) := hby2
        have Kxaa : Hid (Below w.heap.size w wBxaa) := Hxaa.out.trans (hb.mono Hxaa.out.size)
        clear hb h2 ho2 hby2 z1 z2
        go_wp2_with fail
        refine (equal_any p2 p c2 cap xs.length len xs xs _ rfl HL.out Yxaa.out (HI.out _ Kxaa.out).bys HBY.out HBY.out).mono ?_
        rintro e wCxaa ⟨rfl, hw⟩
        subst hw
        simp only [decide_true]
        go_wp2_with fail
        refine (live_any _).mono ?_
        rintro e wl ⟨rfl, hb⟩
        have HL9 : Hid (Below w.heap.size w wl) := Kxaa.out.trans (hb.mono Kxaa.out.size)
        clear hb
        go_wp2
        go_ret
        exact ⟨rfl, HL9.out⟩
      · have heb : (e3 == 0) = false := by simpa using he
        clear he
        go_wp2_with fail
        refine (live_any _).mono ?_
        rintro e wl ⟨rfl, hb⟩
        have HL9 : Hid (Below w.heap.size w wl) := Hxaa.out.trans (hb.mono Hxaa.out.size)
        clear hb
        go_wp2
        go_ret
        exact ⟨rfl, HL9.out⟩
    · have heb : (e2 == 0) = false := by simpa using he
      clear he
      go_wp2_with fail
      refine (takeMaster_any p len cap xs _ (HI.out _ Hxa.out)).mono ?_
      rintro e wAxab ⟨rfl, hb⟩
      rw [Q3.out]
      simp only 
      have hbx : Below wAxab.heap.size wAxab (wAxab.alloc (.cells m.cells.toArray 31)) := (Below.refl _ _).alloc (Nat.le_refl _) _
      have Hxab : Hid (Below w.heap.size w (wAxab.alloc (.cells m.cells.toArray 31))) := (Hxa.out.trans (hb.mono Hxa.out.size)).trans (hbx.mono (Hxa.out.trans (hb.mono Hxa.out.size)).size)
      clear hb hbx
      rw [show m.cells.toArray = #[.int .i64 m.seq, .int .i64 m.area, .int .i64 m.chunks, .int .i64 m.ts, .int .i64 m.sector, .int .i64 m.offset, .int .i64 m.number, .int .i64 m.run] from rfl] at Hxab ⊢
      by_cases he : e3 = 0
      · have heb : (e3 == 0) = true := by simpa using he
        obtain ⟨z1, z2⟩ := S3.out he
        have Z1xab : Hid _ := z1
        clear he
        go_wp2_with fail
        refine (master_any m _).mono ?_
        rintro e wBxab ⟨v, rfl, hb, h2, -⟩
        have ho2 := h2 z1
        rw [z2] at ho2
        rw [z1]
        obtain ⟨p2, c2, hv2, -, -, hby2⟩ := ho2.bys
        subst hv2
        have Yxab : Hid (Bys wBxab p2 xs) := hby2
        have Kxab : Hid (Below w.heap.size w wBxab) := Hxab.out.trans (hb.mono Hxab.out.size)
        clear hb h2 ho2 hby2 z1 z2
        go_wp2_with fail
        refine (equal_any p2 p c2 cap xs.length len xs xs _ rfl HL.out Yxab.out (HI.out _ Kxab.out).bys HBY.out HBY.out).mono ?_
        rintro e wCxab ⟨rfl, hw⟩
        subst hw
        simp only [decide_true]
        go_wp2_with fail
        refine (live_any _).mono ?_
        rintro e wl ⟨rfl, hb⟩
        have HL9 : Hid (Below w.heap.size w wl) := Kxab.out.trans (hb.mono Kxab.out.size)
        clear hb
        go_wp2
        go_ret
        exact ⟨rfl, HL9.out⟩
      · have heb : (e3 == 0) = false := by simpa using he
        clear he
        go_wp2_with fail
        refine (live_any _).mono ?_
        rintro e wl ⟨rfl, hb⟩
        have HL9 : Hid (Below w.heap.size w wl) := Hxab.out.trans (hb.mono Hxab.out.size)
        clear hb
        go_wp2
        go_ret
        exact ⟨rfl, HL9.out⟩
  · have heb : (e1 == 0) = false := by simpa using he
    clear he
    go_wp2_with fail
    refine (takeChunk_any p len cap xs _ (HI.out _ Hx.out)).mono ?_
    rintro e wAxb ⟨v, rfl, ho, hb⟩
    rw [Q2.out] at ho ⊢
    simp only at ho ⊢
    obtain ⟨pvxb, cvxb, rfl⟩ := own_form ho
    have hbx : Below wAxb.heap.size wAxb (wAxb.alloc (.cells #[.int .i64 n, .slice pvxb ll.length cvxb, .bool d] 27)) := (Below.refl _ _).alloc (Nat.le_refl _) _
    have Hxb : Hid (Below w.heap.size w (wAxb.alloc (.cells #[.int .i64 n, .slice pvxb ll.length cvxb, .bool d] 27))) := (Hx.out.trans (hb.mono Hx.out.size)).trans (hbx.mono (Hx.out.trans (hb.mono Hx.out.size)).size)
    have Oxb : Hid (InS (wAxb.alloc (.cells #[.int .i64 n, .slice pvxb ll.length cvxb, .bool d] 27)) pvxb ll.length cvxb ll) := (ho.ins T2.out).up hbx
    clear hb hbx ho
    by_cases he : e2 = 0
    · have heb : (e2 == 0) = true := by simpa using he
      obtain ⟨z1, z2⟩ := S2.out he
      have Z1xb : Hid _ := z1
      clear he
      go_wp2_with fail
      refine (chunk_any n d pvxb ll.length cvxb ll _ Oxb.out).mono ?_
      rintro e wBxb ⟨v, rfl, hb, h2, -⟩
      have ho2 := h2 z1
      rw [z2] at ho2
      rw [z1]
      obtain ⟨p2, c2, hv2, -, -, hby2⟩ := ho2.bys
      subst hv2
      have Yxb : Hid (Bys wBxb p2 xs) := hby2
      have Kxb : Hid (Below w.heap.size w wBxb) := Hxb.out.trans (hb.mono Hxb.out.size)
      clear hb h2 ho2 hby2 z1 z2
      go_wp2_with fail
      refine (equal_any p2 p c2 cap xs.length len xs xs _ rfl HL.out Yxb.out (HI.out _ Kxb.out).bys HBY.out HBY.out).mono ?_
      rintro e wCxb ⟨rfl, hw⟩
      subst hw
      simp only [decide_true]
      go_wp2_with fail
      refine (takeMaster_any p len cap xs _ (HI.out _ Kxb.out)).mono ?_
      rintro e wAxba ⟨rfl, hb⟩
      rw [Q3.out]
      simp only 
      have hbx : Below wAxba.heap.size wAxba (wAxba.alloc (.cells m.cells.toArray 31)) := (Below.refl _ _).alloc (Nat.le_refl _) _
      have Hxba : Hid (Below w.heap.size w (wAxba.alloc (.cells m.cells.toArray 31))) := (Kxb.out.trans (hb.mono Kxb.out.size)).trans (hbx.mono (Kxb.out.trans (hb.mono Kxb.out.size)).size)
      clear hb hbx
      rw [show m.cells.toArray = #[.int .i64 m.seq, .int .i64 m.area, .int .i64 m.chunks, .int .i64 m.ts, .int .i64 m.sector, .int .i64 m.offset, .int .i64 m.number, .int .i64 m.run] from rfl] at Hxba ⊢
      by_cases he : e3 = 0
      · have heb : (e3 == 0) = true := by simpa using he
        obtain ⟨z1, z2⟩ := S3.out he
        have Z1xba : Hid _ := z1
        clear he
        go_wp2_with fail
        refine (master_any m _).mono ?_
        rintro e wBxba ⟨v, rfl, hb, h2, -⟩
        have ho2 := h2 z1
        rw [z2] at ho2
        rw [z1]
        obtain ⟨p2, c2, hv2, -, -, hby2⟩ := ho2.bys
        subst hv2
        have Yxba : Hid (Bys wBxba p2 xs) := hby2
        have Kxba : Hid (Below w.heap.size w wBxba) := Hxba.out.trans (hb.mono Hxba.out.size)
        clear hb h2 ho2 hby2 z1 z2
        go_wp2_with fail
        refine (equal_any p2 p c2 cap xs.length len xs xs _ rfl HL.out Yxba.out (HI.out _ Kxba.out).bys HBY.out HBY.out).mono ?_
        rintro e wCxba ⟨rfl, hw⟩
        subst hw
        simp only [decide_true]
        go_wp2_with fail
        refine (live_any _).mono ?_
        rintro e wl ⟨rfl, hb⟩
        have HL9 : Hid (Below w.heap.size w wl) := Kxba.out.trans (hb.mono Kxba.out.size)
        clear hb
        go_wp2
        go_ret
        exact ⟨rfl, HL9.out⟩
      · have heb : (e3 == 0) = false := by simpa using he
        clear he
        go_wp2_with fail
        refine (live_any _).mono ?_
        rintro e wl ⟨rfl, hb⟩
        have HL9 : Hid (Below w.heap.size w wl) := Hxba.out.trans (hb.mono Hxba.out.size)
        clear hb
        go_wp2
        go_ret
        exact ⟨rfl, HL9.out⟩
    · have heb : (e2 == 0) = false := by simpa using he
      clear he
      go_wp2_with fail
      refine (takeMaster_any p len cap xs _ (HI.out _ Hxb.out)).mono ?_
      rintro e wAxbb ⟨rfl, hb⟩
      rw [Q3.out]
      simp only 
      have hbx : Below wAxbb.heap.size wAxbb (wAxbb.alloc (.cells m.cells.toArray 31)) := (Below.refl _ _).alloc (Nat.le_refl _) _
      have Hxbb : Hid (Below w.heap.size w (wAxbb.alloc (.cells m.cells.toArray 31))) := (Hxb.out.trans (hb.mono Hxb.out.size)).trans (hbx.mono (Hxb.out.trans (hb.mono Hxb.out.size)).size)
      clear hb hbx
      rw [show m.cells.toArray = #[.int .i64 m.seq, .int .i64 m.area, .int .i64 m.chunks, .int .i64 m.ts, .int .i64 m.sector, .int .i64 m.offset, .int .i64 m.number, .int .i64 m.run] from rfl] at Hxbb ⊢
      by_cases he : e3 = 0
      · have heb : (e3 == 0) = true := by simpa using he
        obtain ⟨z1, z2⟩ := S3.out he
        have Z1xbb : Hid _ := z1
        clear he
        go_wp2_with fail
        refine (master_any m _).mono ?_
        rintro e wBxbb ⟨v, rfl, hb, h2, -⟩
        have ho2 := h2 z1
        rw [z2] at ho2
        rw [z1]
        obtain ⟨p2, c2, hv2, -, -, hby2⟩ := ho2.bys
        subst hv2
        have Yxbb : Hid (Bys wBxbb p2 xs) := hby2
        have Kxbb : Hid (Below w.heap.size w wBxbb) := Hxbb.out.trans (hb.mono Hxbb.out.size)
        clear hb h2 ho2 hby2 z1 z2
        go_wp2_with fail
        refine (equal_any p2 p c2 cap xs.length len xs xs _ rfl HL.out Yxbb.out (HI.out _ Kxbb.out).bys HBY.out HBY.out).mono ?_
        rintro e wCxbb ⟨rfl, hw⟩
        subst hw
        simp only [decide_true]
        go_wp2_with fail
        refine (live_any _).mono ?_
        rintro e wl ⟨rfl, hb⟩
        have HL9 : Hid (Below w.heap.size w wl) := Kxbb.out.trans (hb.mono Kxbb.out.size)
        clear hb
        go_wp2
        go_ret
        exact ⟨rfl, HL9.out⟩
      · have heb : (e3 == 0) = false := by simpa using he
        clear he
        go_wp2_with fail
        refine (live_any _).mono ?_
        rintro e wl ⟨rfl, hb⟩
        have HL9 : Hid (Below w.heap.size w wl) := Hxbb.out.trans (hb.mono Hxbb.out.size)
        clear hb
        go_wp2
        go_ret
        exact ⟨rfl, HL9.out⟩

set_option maxRecDepth 100000 in
set_option maxHeartbeats 2000000 in
theorem lifted_recordOne (os : Os) (started : os.Started) (H : Type) (enc : TypeId × Value → H) :
    ReturnsInHanded {} Try.checked os 8 .any (Rows.recordOneSpec.pre6 enc Try.prog Try.f8 Rows.recordOneRow.domain false) (Rows.recordOneSpec.post enc Try.prog Try.f8 false true false false) := by
  refine returnsInHanded_of_change_sized (C := Try.checked) own started (by kernel_rfl) Try.func8
    (ChangeSpec.witness6 (enc := enc) (C := Try.checked) false ⟨#[], #[.slice none 0 0], []⟩ 8 (by kernel_rfl) (by kernel_rfl) (by kernel_rfl) (by kernel_rfl)) ?_
  intro W base args ds gs before hval0 hW _ hsz0 _
  have hsz : (DataW.weightsEach Try.prog (Try.f8.params.toList ++ Rows.recordOneSpec.plain.varTypes Try.prog) (ds ++ gs)).all (· ≤ reachBytes) = true := hsz0
  clear hsz0
  have hval : ∀ (j : Nat) t v, Try.f8.params[j]? = some t → args[j]? = some v → Value.okWide Try.prog W .any base t v := hval0
  have hW' := hW
  obtain ⟨p, q, hA0, hV, rfl, hfz, hnd⟩ := hW
  have hA : DataW.TrodAll enc Try.prog W 0 (fun _ => true) true Try.f8.params.toList args.toList ds p := hA0
  rw [Try.params8] at hA hval hsz
  obtain ⟨v0, vs0, d0, ds0, p0, q0, hargs, rfl, rfl, h0, r0⟩ := trodAll_cons hA
  obtain ⟨rfl, rfl, rfl⟩ := trodAll_nil r0
  obtain rfl : args = #[v0] := by cases args; simp_all
  obtain ⟨rfl, rfl⟩ := trodVars_none hV
  obtain ⟨a0, len0, cap0, rfl⟩ := okWide_slice Try.underlying42 (hval 0 42 v0 rfl rfl)
  have k0 := h0
  have lt0 : ∀ x ∈ p0, x.block < W.heap.size := by obtain ⟨m, hm⟩ := k0; exact DataW.trod_lt m _ _ _ hm
  obtain ⟨z0, w0⟩ : ∃ zs, InB 140737488351232 W a0 len0 cap0 zs := by
    refine in_bytes h0 ?_
    intro elems spare hd
    have := sized_slice hsz (j := 0) (t := 42) (e := 5) rfl (by rw [hd]; rfl) Try.underlying42
    rw [bytes_u8] at this
    simp only [reachBytes] at this
    omega
  clear hA0 hval0
  refine (walk_recordOne a0 len0 cap0 z0 W w0).mono fun e W' ⟨he, bel⟩ => ?_
  subst he
  exact ⟨_, rfl, _, _, _, [], _, [], hW', trodAll_mk1 (shut_bool Try.underlying4 _), (trodAll_cons_mk (Below.trod laidOut (by kernel_rfl) (of_decide_eq_true (by kernel_rfl)) k0 bel lt0) trodAll_mk0), rfl, bel.frame _, fun h => by cases h⟩

/-- The statement. -/
theorem recordOne_holds : Rows.RecordOneSaid :=
  OpenClaim.holds_of_wide 8 Try.f8 rfl rfl rfl rfl rfl rfl rfl ⟨rfl, rfl, rfl, rfl, rfl⟩ rfl rfl rfl rfl rfl (by kernel_rfl) Try.func8 (by kernel_rfl)
    (of_decide_eq_true (by kernel_rfl)) (by unfold Func.isWrapper; first | (rw [if_pos (by decide +kernel)]; kernel_rfl) | (rw [if_neg (by decide +kernel)]; exact ⟨rfl, rfl⟩))
    (fun os started H enc _ => lifted_recordOne os started H enc)
#print axioms recordOne_holds
end Go.Proofs.Ytlfgclmgpbaenaa
