/- An arena that no call made answers so, whatever chain calls it is asked with. -/
import Derived.Test.YtmfkiiedmclafaaGreatChainNoneC
import Derived.Test.YtmfkiiedmclafaaGreatChainNoneB
import Derived.Test.YtmfkiiedmclafaaGreatPgCr
import Derived.WalkMore
import Derived.Carry
import Derived.Test.YtmfkiiedmclafaaGreatPgM
import Derived.ProofKit
import Derived.OpenShut
import Derived.ShutString
import Derived.ChangeOld
import Derived.SizedLaws
import Derived.JoinedCond
import Derived.Deep.Slices
import Derived.Test.YtmfkiiedmclafaaGreatDlM
namespace Go.Proofs.YtmfkiiedmclafaaGreat
open Go.RowKit Go.Shelf
set_option linter.unusedVariables false
set_option linter.unusedSimpArgs false
set_option maxRecDepth 100000
set_option linter.unusedSectionVars false

abbrev Lv.e : En := ⟨⟨#[97]⟩, 0, 0, 0⟩
abbrev Lv.d : De := ⟨1, Lv.e, ⟨#[]⟩, 0, Pg.zero⟩
abbrev Lv.g : Pp := ⟨true, ⟨#[]⟩, ⟨#[]⟩, 0, []⟩
theorem Lv.fo : Dl.fo Lv.g [Lv.d] = (⟨true, ⟨#[]⟩, ⟨#[]⟩, 0, [Lv.e]⟩, 0) := by kernel_rfl
theorem Lv.may : Pg.may true ⟨⟨#[]⟩, ⟨#[]⟩⟩ 0 [] = true := by kernel_rfl
theorem Lv.dmay : Dl.may Lv.d = true := by kernel_rfl
theorem Lv.fit : Fit [] [Lv.d] := ⟨of_decide_eq_true (by kernel_rfl), of_decide_eq_true (by kernel_rfl), of_decide_eq_true (by kernel_rfl)⟩

variable [Inhabited Nod]

/-- A fresh arena. -/
theorem Chs.fresh {w : World} {B n : Nat} {m : Nat} (h : AsN m w B (Ar.fresh n) []) : Chs m w B (Ar.fresh n) [] [] := ⟨h, fun s hs => (by cases hs), fun x hx => (by cases hx)⟩

theorem fresh_gen (n : Nat) : (Ar.fresh n : Ar Nod).gen = 1 := rfl
theorem fresh_low (n : Nat) : low (Ar.fresh n : Ar Nod).us = 0 := rfl
theorem fresh_live (n : Nat) : live (Ar.fresh n : Ar Nod).us = 0 := rfl

set_option maxHeartbeats 4000000 in
theorem live_any' (w : World) : Calls Tryz.prog 11 #[] w fun e w' => e = .returned (.bool true) ∧ Below w.heap.size w w' := by
  go_enter Tryz.func11, Tryz.ntmps11
  go_wp2_with fail
  refine (newSN w 5 (by omega) (by omega)).mono ?_
  rintro e w1 ⟨rfl, ha1, hb1, hs1⟩
  have HC1 : Hid (Chs w.heap.size w1 w.heap.size (Ar.fresh 5) [] []) := Chs.fresh ha1
  have HB1 : Hid (Below w.heap.size w w1) := hb1
  clear ha1 hb1 hs1
  go_wp2_with fail
  refine (begin_ok HC1.out true ⟨#[]⟩ ⟨#[]⟩ 0 none 0 0 [] rfl (Ens.nil _ _) (by omega) (fun _ => rfl) Lv.may (by rw [fresh_live]; show 0 < 5; omega) (by rw [fresh_gen]; omega) (by rw [fresh_gen]; omega)).mono ?_
  rintro e w2 ⟨rfl, q, qc, bs, hA2, -⟩
  have hL2 := ChnN.begun (Ar.fresh 5) (⟨true, ⟨⟨true, ⟨#[]⟩, ⟨#[]⟩, 0, []⟩, q, 0, qc⟩, Dm.zero, 0, 0, 0⟩ : Nod) rfl
  have hG2 : Gens ((Ar.fresh 5 : Ar Nod).put (⟨true, ⟨⟨true, ⟨#[]⟩, ⟨#[]⟩, 0, []⟩, q, 0, qc⟩, Dm.zero, 0, 0, 0⟩ : Nod)).us (0 + 1) := Gens.put (Gens.nil 0) (by omega) _
  have hv2 : live ((Ar.fresh 5 : Ar Nod).put (⟨true, ⟨⟨true, ⟨#[]⟩, ⟨#[]⟩, 0, []⟩, q, 0, qc⟩, Dm.zero, 0, 0, 0⟩ : Nod)).us = 1 := by rw [live_put, fresh_live]
  have hz2 : ((Ar.fresh 5 : Ar Nod).put (⟨true, ⟨⟨true, ⟨#[]⟩, ⟨#[]⟩, 0, []⟩, q, 0, qc⟩, Dm.zero, 0, 0, 0⟩ : Nod)).size = 5 := rfl
  generalize (Ar.fresh 5 : Ar Nod).put (⟨true, ⟨⟨true, ⟨#[]⟩, ⟨#[]⟩, 0, []⟩, q, 0, qc⟩, Dm.zero, 0, 0, 0⟩ : Nod) = a2 at *
  generalize ((low (Ar.fresh 5 : Ar Nod).us : Nat) : Int) = s2 at *
  generalize (Ar.fresh 5 : Ar Nod).gen = g2 at *
  have hx2 := hL2.head
  have HC2 : Hid (Chs w.heap.size w2 w.heap.size a2 (bs ++ []) []) := hA2.chs
  have HB2 : Hid (Below w.heap.size w w2) := HB1.out.trans hA2.below
  have HL2 : Hid (ChnN a2 s2 g2 [⟨true, ⟨⟨true, ⟨#[]⟩, ⟨#[]⟩, 0, []⟩, q, 0, qc⟩, Dm.zero, 0, 0, 0⟩] ∧ live a2.us = 1 ∧ a2.size = 5 ∧ Gens a2.us (0 + 1)) := ⟨hL2, hv2, hz2, hG2⟩
  clear hA2 hL2 hG2 hv2 hz2
  go_wp2_with fail
  have hgn := HL2.out.2.2.2.gen (by omega)
  refine (grow_ok (HC2.out.below ((Below.refl _ _).alloc (Nat.le_refl _) _)) s2 g2 hx2.1 Lv.d none 0 0 rfl (Ens.nil _ _) (by omega) (fun _ => rfl) Lv.dmay (by rw [hx2.2]; exact ⟨Int.le_refl 0, (by omega : (0 : Int) < 9223372036854775807)⟩) (by rw [HL2.out.2.1, HL2.out.2.2.1]; omega) hgn.1 (by omega)).mono ?_
  rintro e w3 ⟨rfl, q3, qc3, bs3, hA3, -⟩
  have hlg : (slAt a2.us s2.toNat).val.long + 1 = 1 := by rw [hx2.2]; rfl
  rw [hlg] at hA3
  have hL3 := HL2.out.1.grown (⟨false, Pm.zero, ⟨Lv.d, q3, 0, qc3⟩, s2, g2, 1⟩ : Nod) rfl rfl rfl
  have hv3 : live (a2.put (⟨false, Pm.zero, ⟨Lv.d, q3, 0, qc3⟩, s2, g2, 1⟩ : Nod)).us = 2 := by rw [live_put, HL2.out.2.1]
  generalize a2.put (⟨false, Pm.zero, ⟨Lv.d, q3, 0, qc3⟩, s2, g2, 1⟩ : Nod) = a3 at *
  generalize ((low a2.us : Nat) : Int) = s3 at *
  generalize a2.gen = g3 at *
  have HC3 : Hid (Chs w.heap.size w3 w.heap.size a3 (bs3 ++ (bs ++ [])) []) := hA3.chs
  have HB3 : Hid (Below w.heap.size w w3) := (HB2.out.alloc HB2.out.size _).trans hA3.below
  have HL3 : Hid (ChnN a3 s3 g3 [⟨false, Pm.zero, ⟨Lv.d, q3, 0, qc3⟩, s2, g2, 1⟩, ⟨true, ⟨⟨true, ⟨#[]⟩, ⟨#[]⟩, 0, []⟩, q, 0, qc⟩, Dm.zero, 0, 0, 0⟩] ∧ live a3.us = 2) := ⟨hL3, hv3⟩
  have hx3 := hL3.head
  clear hA3 hL3 hv3 hlg hgn
  go_wp2_with fail
  have hfo : ChnN.fo [⟨false, Pm.zero, ⟨Lv.d, q3, 0, qc3⟩, s2, g2, 1⟩, ⟨true, ⟨⟨true, ⟨#[]⟩, ⟨#[]⟩, 0, []⟩, q, 0, qc⟩, Dm.zero, 0, 0, 0⟩] 1 ⟨true, ⟨⟨true, ⟨#[]⟩, ⟨#[]⟩, 0, []⟩, q, 0, qc⟩, Dm.zero, 0, 0, 0⟩ = (⟨true, ⟨#[]⟩, ⟨#[]⟩, 0, [Lv.e]⟩, 0) := Lv.fo
  refine (page_good (HC3.out.below ((Below.refl _ _).alloc (Nat.le_refl _) _)) s3 g3 _ HL3.out.1 (by rw [HL3.out.2]; exact Nat.le_refl 2) 1 rfl ⟨true, ⟨⟨true, ⟨#[]⟩, ⟨#[]⟩, 0, []⟩, q, 0, qc⟩, Dm.zero, 0, 0, 0⟩ rfl (fun _ => Lv.fit)).mono ?_
  rintro e w4 ⟨v, rfl, hpg, ht4⟩
  rw [hfo] at hpg ⊢
  obtain ⟨p, c, rfl, hpg⟩ := hpg.pv
  simp only at hpg ⊢
  obtain ⟨p', c', hv, hseg⟩ := hpg
  obtain ⟨rfl, rfl⟩ : p = p' ∧ c = c' := by cases hv; exact ⟨rfl, rfl⟩
  obtain ⟨b, o, hp, hc⟩ := hseg.ens (by simp)
  subst hp
  have h0 := (hc 0 Lv.e rfl).1
  simp only [Nat.zero_mul, Nat.add_zero] at h0
  have ht4' : Tn [] w3 w4 := ((Tn.refl [] w3).alloc _).trans ht4 (by simp)
  have HC4 : Hid (Chs w.heap.size w4 w.heap.size a3 (bs3 ++ (bs ++ [])) []) := HC3.out.quiet ht4'
  have HB4 : Hid (Below w.heap.size w w4) := HB3.out.trans (ht4'.below HB3.out.size (by simp))
  have k4 : Bk w4 w3.heap.size 31 #[.int .i64 s3, .int .i64 g3] := (Bk.new w3 _ _).tn ht4 (by simp)
  have y0 : w4.cell? ⟨w3.heap.size, 0, none⟩ = some (.int .i64 s3) := k4.cell 0
  have y1 : w4.cell? ⟨w3.heap.size, 1, none⟩ = some (.int .i64 g3) := k4.cell 1
  have H0 : Hid (w4.cell? ⟨b, o, none⟩ = some (.string ⟨#[97]⟩)) := h0
  clear hc hseg hv ht4 ht4' h0 hfo
  obtain ⟨w5, hw5⟩ : ∃ w5, w4.alloc (.cells #[.bool true, .string ⟨#[]⟩, .string ⟨#[]⟩, .int .i64 0, .slice (some ⟨b, o, none⟩) 1 c] 29) = w5 := ⟨_, rfl⟩
  have ht5 : Tn [] w4 w5 := by rw [← hw5]; exact (Tn.refl _ _).alloc _
  have HT5 : Hid (Tn [] w4 w5) := ht5
  have hkh : Bk w5 w4.heap.size 29 #[.bool true, .string ⟨#[]⟩, .string ⟨#[]⟩, .int .i64 0, .slice (some ⟨b, o, none⟩) 1 c] := by rw [← hw5]; exact Bk.new _ _ _
  have HK5 : Hid (Bk w5 w4.heap.size 29 #[.bool true, .string ⟨#[]⟩, .string ⟨#[]⟩, .int .i64 0, .slice (some ⟨b, o, none⟩) 1 c]) := hkh
  have kz : Bk w5 w3.heap.size 31 #[.int .i64 s3, .int .i64 g3] := by rw [← hw5]; exact k4.alloc _
  have z0 : w5.cell? ⟨w3.heap.size, 0, none⟩ = some (.int .i64 s3) := kz.cell 0
  have z1 : w5.cell? ⟨w3.heap.size, 1, none⟩ = some (.int .i64 g3) := kz.cell 1
  clear hkh ht5 y0 y1 k4 kz
  go_wp2_with fail
  refine (long_ok (HC4.out.quiet HT5.out) s3 g3 hx3.1).mono ?_
  rintro e w6 ⟨rfl, ht6⟩
  have hlg : (slAt a3.us s3.toNat).val.long = 1 := by rw [hx3.2]
  rw [hlg]
  have k6 := HK5.out.tn ht6 (by simp)
  have p4 : w6.cell? ⟨w4.heap.size, 4, none⟩ = some (.slice (some ⟨b, o, none⟩) 1 c) := k6.cell 4
  have hblt := World.block_lt_of_cell? w4 _ H0.out
  have q0 : w6.cell? ⟨b, o, none⟩ = some (.string ⟨#[97]⟩) := by
    have e1 := (HT5.out.trans ht6 (by simp)).block b hblt (by simp)
    have h0 := H0.out
    simp only [World.cell?, e1] at *
    exact h0
  have HB6 : Hid (Below w.heap.size w w6) := HB4.out.trans ((HT5.out.trans ht6 (by simp)).below HB4.out.size (by simp))
  clear hw5 z0 z1 ht6 k6 hblt hlg
  go_wp2
  go_ret
  exact ⟨rfl, HB6.out⟩
end Go.Proofs.YtmfkiiedmclafaaGreat

namespace Go.Proofs.YtmfkiiedmclafaaGreat
open Go.RowKit Go.Shelf
set_option linter.unusedVariables false
set_option linter.unusedSimpArgs false
set_option maxRecDepth 100000
set_option linter.unusedSectionVars false
variable [Inhabited Nod]

/-- No call made it. -/
def NmN (w : World) (v : Value) : Prop := ∀ W, Tn [] w W → Calls Tryz.prog 43 #[v] W fun e w' => e = .returned (.bool false) ∧ w' = W

theorem NmN.nil (w : World) : NmN w (.pointer none) := fun W _ => madeNilN W
theorem NmN.zero {w : World} {B : Nat} {t : TypeId} {cs : Array Value} (h : Bk w B t cs) (h0 : cs[0]? = some (.int .i64 0)) : NmN w (.pointer (some ⟨B, 0, none⟩)) := fun W ht => madeZeroN (by rw [(h.tn ht (by simp)).cell 0]; exact h0)
theorem NmN.tn {w w' : World} {v : Value} (h : NmN w v) (ht : Tn [] w w') : NmN w' v := fun W hW => h W (ht.trans hW (by simp))

variable {w : World} {v : Value}

theorem slots_nm (h : NmN w v) : Calls Tryz.prog 82 #[v] w fun e w' => e = .returned (.int .i64 0) ∧ w' = w := by
  have H : Hid (NmN w v) := h
  clear h
  go_enter Tryz.func82, Tryz.ntmps82
  go_wp2_with fail
  refine (H.out w (Tn.refl _ _)).mono ?_
  rintro e w1 ⟨rfl, rfl⟩
  go_wp2
  go_ret
  exact ⟨rfl, rfl⟩

theorem live_nm (h : NmN w v) : Calls Tryz.prog 13 #[v] w fun e w' => e = .returned (.int .i64 0) ∧ w' = w := by
  have H : Hid (NmN w v) := h
  clear h
  go_enter Tryz.func13, Tryz.ntmps13
  go_wp2_with fail
  refine (H.out w (Tn.refl _ _)).mono ?_
  rintro e w1 ⟨rfl, rfl⟩
  go_wp2
  go_ret
  exact ⟨rfl, rfl⟩

theorem check_nm (h : NmN w v) (s g : Int) : Calls Tryz.prog 92 #[v, .agg #[.int .i64 s, .int .i64 g]] w fun e w' => e = .returned (.int .i64 2) ∧ Tn [] w w' := by
  have H : Hid (NmN w v) := h
  clear h
  obtain ⟨w0, hw0⟩ : ∃ w0, w.alloc (.cells #[.int .i64 s, .int .i64 g] 31) = w0 := ⟨_, rfl⟩
  have HT : Hid (Tn [] w w0) := by rw [← hw0]; exact (Tn.refl _ _).alloc _
  go_enter Tryz.func92, Tryz.ntmps92
  go_wp2_with fail
  refine (H.out w0 HT.out).mono ?_
  rintro e w1 ⟨rfl, rfl⟩
  go_wp2
  go_ret
  exact ⟨rfl, HT.out⟩

set_option maxHeartbeats 1000000 in
theorem get_nm (h : NmN w v) (s g : Int) : Calls Tryz.prog 59 #[v, .agg #[.int .i64 s, .int .i64 g]] w fun e w' => e = .returned (.tuple #[Nod.zero.w, .int .i64 2]) ∧ Tn [] w w' := by
  have H : Hid (NmN w v) := h
  clear h
  obtain ⟨w0, hw0⟩ : ∃ w0, (w.alloc (.cells #[.int .i64 s, .int .i64 g] 31)).alloc (.cells #[.bool false, .bool false, .string ⟨#[]⟩, .string ⟨#[]⟩, .int .i64 0, .slice none 0 0, .int .i64 0, .string ⟨#[]⟩, .int .i64 0, .int .i64 0, .int .i64 0, .string ⟨#[]⟩, .int .i64 0, .bool false, .string ⟨#[]⟩, .string ⟨#[]⟩, .int .i64 0, .slice none 0 0, .int .i64 0, .int .i64 0, .int .i64 0] 37) = w0 := ⟨_, rfl⟩
  have HT : Hid (Tn [] w w0) := by rw [← hw0]; exact ((Tn.refl _ _).alloc _).alloc _
  have hkh : Bk w0 w.heap.size 31 #[.int .i64 s, .int .i64 g] := by rw [← hw0]; exact (Bk.new _ _ _).alloc _
  have HX : Hid (Bk w0 (w.heap.size + 1) 37 Nod.zero.cells.toArray) := by rw [← hw0]; exact Bk.new1 _ _ _ _
  have k0 : w0.cell? ⟨w.heap.size, 0, none⟩ = some (.int .i64 s) := hkh.cell 0
  have k1 : w0.cell? ⟨w.heap.size, 1, none⟩ = some (.int .i64 g) := hkh.cell 1
  clear hkh
  go_enter Tryz.func59, Tryz.ntmps59
  go_wp2_with fail
  refine (check_nm (H.out.tn HT.out) s g).mono ?_
  rintro e w3 ⟨rfl, ht3⟩
  have HX3 : Hid (Bk w3 (w.heap.size + 1) 37 Nod.zero.cells.toArray ∧ Tn [] w w3) := ⟨HX.out.tn ht3 (by simp), HT.out.trans ht3 (by simp)⟩
  clear ht3 hw0 k0 k1
  go_wp2_with (first
    | (refine wpList_load_nd rfl _ rfl (w.heap.size + 1) 0 Nod.zero rfl (bk_range HX3.out.1) ?_)
    | (refine wpList_store_nd rfl _ _ rfl (w.heap.size + 1) _ _ Nod.zero rfl rfl HX3.out.1 rfl ?_))
  refine bodyPost_ret (results_elN (x := Nod.zero) rfl rfl (by exact HX3.out.1.setRow _)) rfl ?_
  exact ⟨rfl, ((HX3.out.2.mono (T := [w.heap.size + 1]) (by simp)).setRow (g := w.heap.size + 1) (.inl (by simp)) _).nil_of (by simp)⟩

theorem chmade_nm (h : NmN w v) : Calls Tryz.prog 48 #[v] w fun e w' => e = .returned (.bool false) ∧ w' = w := by
  have H : Hid (NmN w v) := h
  clear h
  go_enter Tryz.func48, Tryz.ntmps48
  go_wp2_with fail
  refine (slots_nm H.out).mono ?_
  rintro e w1 ⟨rfl, rfl⟩
  go_wp2
  go_ret
  exact ⟨rfl, rfl⟩

theorem longest_nm (h : NmN w v) : Calls Tryz.prog 93 #[v] w fun e w' => e = .returned (.int .i64 1) ∧ w' = w := by
  have H : Hid (NmN w v) := h
  clear h
  go_enter Tryz.func93, Tryz.ntmps93
  go_wp2_with fail
  refine (live_nm H.out).mono ?_
  rintro e w1 ⟨rfl, rfl⟩
  go_wp2
  go_ret
  exact ⟨rfl, rfl⟩

set_option maxHeartbeats 1000000 in
theorem begin_nm (h : NmN w v) (leaf : Bool) (lo hi : ByteArray) (r : Int) (p : Option Addr) (len cap : Nat) :
    Calls Tryz.prog 20 #[v, pgv leaf lo hi r p len cap] w fun e w' => e = .returned (.tuple #[.agg #[.int .i64 0, .int .i64 0], .int .i64 2]) ∧ Tn [] w w' := by
  have H : Hid (NmN w v) := h
  clear h
  obtain ⟨w0, hw0⟩ : ∃ w0, (w.alloc (.cells (pgc leaf lo hi r p len cap) 29)).alloc (.cells #[.int .i64 0, .int .i64 0] 31) = w0 := ⟨_, rfl⟩
  have HT : Hid (Tn [] w w0) := by rw [← hw0]; exact ((Tn.refl _ _).alloc _).alloc _
  have HR : Hid (Bk w0 (w.heap.size + 1) 31 #[.int .i64 0, .int .i64 0]) := by rw [← hw0]; exact Bk.new1 _ _ _ _
  have e0 : w0.cell? ⟨w.heap.size + 1, 0, none⟩ = some (.int .i64 0) := HR.out.cell 0
  have e1 : w0.cell? ⟨w.heap.size + 1, 1, none⟩ = some (.int .i64 0) := HR.out.cell 1
  have f0 := HR.out.frozen 0
  have f1 := HR.out.frozen 1
  go_enter Tryz.func20, Tryz.ntmps20
  go_wp2_with fail
  refine (chmade_nm (H.out.tn HT.out)).mono ?_
  rintro e w1 ⟨rfl, rfl⟩
  clear hw0
  go_wp2
  refine bodyPost_ret (results_hndN rfl rfl (by exact ((HR.out.set 0 _).set 1 _))) rfl ?_
  exact ⟨rfl, (((HT.out.mono (T := [w.heap.size + 1]) (by simp)).setCell (.inl (by simp)) _).setCell (.inl (by simp)) _).nil_of (by simp)⟩

set_option maxHeartbeats 1000000 in
theorem grow_nm (h : NmN w v) (s g : Int) (d : De) (p : Option Addr) (n c : Nat) :
    Calls Tryz.prog 23 #[v, .agg #[.int .i64 s, .int .i64 g], dlv d.k d.e d.key d.pg d.rt.leaf d.rt.lo d.rt.hi d.rt.r p n c] w fun e w' => e = .returned (.tuple #[.agg #[.int .i64 0, .int .i64 0], .int .i64 2]) ∧ Tn [] w w' := by
  have H : Hid (NmN w v) := h
  clear h
  obtain ⟨w0, hw0⟩ : ∃ w0, ((w.alloc (.cells #[.int .i64 s, .int .i64 g] 31)).alloc (.cells #[.int .i64 d.k, .string d.e.key, .int .i64 d.e.s, .int .i64 d.e.g, .int .i64 d.e.c, .string d.key, .int .i64 d.pg, .bool d.rt.leaf, .string d.rt.lo, .string d.rt.hi, .int .i64 d.rt.r, .slice p n c] 35)).alloc (.cells #[.int .i64 0, .int .i64 0] 31) = w0 := ⟨_, rfl⟩
  have HT : Hid (Tn [] w w0) := by rw [← hw0]; exact (((Tn.refl _ _).alloc _).alloc _).alloc _
  have HR : Hid (Bk w0 (w.heap.size + 1 + 1) 31 #[.int .i64 0, .int .i64 0]) := by rw [← hw0]; exact Bk.new2 _ _ _ _ _
  have e0 : w0.cell? ⟨w.heap.size + 1 + 1, 0, none⟩ = some (.int .i64 0) := HR.out.cell 0
  have e1 : w0.cell? ⟨w.heap.size + 1 + 1, 1, none⟩ = some (.int .i64 0) := HR.out.cell 1
  have f0 := HR.out.frozen 0
  have f1 := HR.out.frozen 1
  go_enter Tryz.func23, Tryz.ntmps23
  go_wp2_with fail
  refine (chmade_nm (H.out.tn HT.out)).mono ?_
  rintro e w1 ⟨rfl, rfl⟩
  clear hw0
  go_wp2
  refine bodyPost_ret (results_hndN rfl rfl (by exact ((HR.out.set 0 _).set 1 _))) rfl ?_
  exact ⟨rfl, (((HT.out.mono (T := [w.heap.size + 1 + 1]) (by simp)).setCell (.inl (by simp)) _).setCell (.inl (by simp)) _).nil_of (by simp; omega)⟩

set_option maxHeartbeats 2000000 in
theorem long_nm (h : NmN w v) (s g : Int) : Calls Tryz.prog 30 #[v, .agg #[.int .i64 s, .int .i64 g]] w fun e w' => e = .returned (.tuple #[.int .i64 0, .int .i64 2]) ∧ Tn [] w w' := by
  have H : Hid (NmN w v) := h
  clear h
  obtain ⟨w0, hw0⟩ : ∃ w0, w.alloc (.cells #[.int .i64 s, .int .i64 g] 31) = w0 := ⟨_, rfl⟩
  have HT0 : Hid (Tn [] w w0) := by rw [← hw0]; exact (Tn.refl _ _).alloc _
  have HA0 : Hid (Bk w0 w.heap.size 31 #[.int .i64 s, .int .i64 g]) := by rw [← hw0]; exact Bk.new _ _ _
  have b0 : w0.cell? ⟨w.heap.size, 0, none⟩ = some (.int .i64 s) := HA0.out.cell 0
  have b1 : w0.cell? ⟨w.heap.size, 1, none⟩ = some (.int .i64 g) := HA0.out.cell 1
  go_enter Tryz.func30, Tryz.ntmps30
  go_wp2_with fail
  refine (get_nm (H.out.tn HT0.out) s g).mono ?_
  rintro e w2 ⟨rfl, ht2⟩
  have HT2 : Hid (Tn [] w w2) := HT0.out.trans ht2 (by simp)
  clear hw0 b0 b1 ht2
  obtain ⟨wz, hwz⟩ : ∃ wz, w2.alloc (.cells #[.bool false, .bool false, .string ⟨#[]⟩, .string ⟨#[]⟩, .int .i64 0, .slice none 0 0, .int .i64 0, .string ⟨#[]⟩, .int .i64 0, .int .i64 0, .int .i64 0, .string ⟨#[]⟩, .int .i64 0, .bool false, .string ⟨#[]⟩, .string ⟨#[]⟩, .int .i64 0, .slice none 0 0, .int .i64 0, .int .i64 0, .int .i64 0] 37) = wz := ⟨_, rfl⟩
  have HZ : Hid (Bk wz w2.heap.size 37 #[.bool false, .bool false, .string ⟨#[]⟩, .string ⟨#[]⟩, .int .i64 0, .slice none 0 0, .int .i64 0, .string ⟨#[]⟩, .int .i64 0, .int .i64 0, .int .i64 0, .string ⟨#[]⟩, .int .i64 0, .bool false, .string ⟨#[]⟩, .string ⟨#[]⟩, .int .i64 0, .slice none 0 0, .int .i64 0, .int .i64 0, .int .i64 0]) := by rw [← hwz]; exact Bk.new _ _ _
  obtain ⟨w3, hw3⟩ : ∃ w3, wz.setRow w2.heap.size Nod.zero.cells.toArray = w3 := ⟨_, rfl⟩
  have hw4 := nd_laid hwz hw3
  have HN3 : Hid (Bk w3 w2.heap.size 37 Nod.zero.cells.toArray ∧ Tn [] w w3) := by rw [hw4]; exact ⟨Bk.new _ _ _, HT2.out.alloc _⟩
  have x20 : w3.cell? ⟨w2.heap.size, 20, none⟩ = some (.int .i64 0) := HN3.out.1.cell 20
  clear hw4
  obtain ⟨xw, hxw⟩ : ∃ xw, Nod.zero.w = xw := ⟨_, rfl⟩
  rw [hxw]
  go_wp2_with (refine wpList_store_nd rfl _ _ rfl w2.heap.size _ _ Nod.zero rfl hxw.symm HZ.out rfl ?_; rw [hw3])
  go_ret2
  exact ⟨rfl, HN3.out.2⟩

abbrev ptz : List Value := [.slice none 0 0, .slice none 0 0, .bool false, .string ⟨#[]⟩, .string ⟨#[]⟩, .int .i64 0, .slice none 0 0]

set_option maxHeartbeats 2000000 in
theorem take_nm (h : NmN w v) (s g : Int) : Calls Tryz.prog 61 #[v, .agg #[.int .i64 s, .int .i64 g]] w fun e w' => e = .returned (.tuple #[.agg #[.slice none 0 0, .slice none 0 0, .bool false, .string ⟨#[]⟩, .string ⟨#[]⟩, .int .i64 0, .slice none 0 0], .int .i64 2]) ∧ Tn [] w w' := by
  have H : Hid (NmN w v) := h
  clear h
  obtain ⟨w0, hw0⟩ : ∃ w0, (w.alloc (.cells #[.int .i64 s, .int .i64 g] 31)).alloc (.cells #[.slice none 0 0, .slice none 0 0, .bool false, .string ⟨#[]⟩, .string ⟨#[]⟩, .int .i64 0, .slice none 0 0] 124) = w0 := ⟨_, rfl⟩
  have HT : Hid (Tn [] w w0) := by rw [← hw0]; exact ((Tn.refl _ _).alloc _).alloc _
  have HR : Hid (Bk w0 (w.heap.size + 1) 124 #[.slice none 0 0, .slice none 0 0, .bool false, .string ⟨#[]⟩, .string ⟨#[]⟩, .int .i64 0, .slice none 0 0]) := by rw [← hw0]; exact Bk.new1 _ _ _ _
  have x0 : w0.cell? ⟨w.heap.size + 1, 0, none⟩ = some (.slice none 0 0) := HR.out.cell 0
  have x1 : w0.cell? ⟨w.heap.size + 1, 1, none⟩ = some (.slice none 0 0) := HR.out.cell 1
  have x2 : w0.cell? ⟨w.heap.size + 1, 2, none⟩ = some (.bool false) := HR.out.cell 2
  have x3 : w0.cell? ⟨w.heap.size + 1, 3, none⟩ = some (.string ⟨#[]⟩) := HR.out.cell 3
  have x4 : w0.cell? ⟨w.heap.size + 1, 4, none⟩ = some (.string ⟨#[]⟩) := HR.out.cell 4
  have x5 : w0.cell? ⟨w.heap.size + 1, 5, none⟩ = some (.int .i64 0) := HR.out.cell 5
  have x6 : w0.cell? ⟨w.heap.size + 1, 6, none⟩ = some (.slice none 0 0) := HR.out.cell 6
  have f0 := HR.out.frozen 0
  have f1 := HR.out.frozen 1
  have f2 := HR.out.frozen 2
  have f3 := HR.out.frozen 3
  have f4 := HR.out.frozen 4
  have f5 := HR.out.frozen 5
  have f6 := HR.out.frozen 6
  go_enter Tryz.func61, Tryz.ntmps61
  go_wp2_with fail
  refine (chmade_nm (H.out.tn HT.out)).mono ?_
  rintro e w1 ⟨rfl, rfl⟩
  clear hw0
  go_wp2
  refine bodyPost_ret (results_two (T' := 124) (cs := ptz) rfl rfl pt_agg pt_size rfl (by exact (((((((HR.out.set 0 _).set 1 _).set 2 _).set 3 _).set 4 _).set 5 _).set 6 _))) rfl ?_
  exact ⟨rfl, ((((((((HT.out.mono (T := [w.heap.size + 1]) (by simp)).setCell (.inl (by simp)) _).setCell (.inl (by simp)) _).setCell (.inl (by simp)) _).setCell (.inl (by simp)) _).setCell (.inl (by simp)) _).setCell (.inl (by simp)) _).setCell (.inl (by simp)) _).nil_of (by simp)⟩
end Go.Proofs.YtmfkiiedmclafaaGreat

namespace Go.Proofs.YtmfkiiedmclafaaGreat
open Go.RowKit Go.Shelf Go.Sort
attribute [local go_sem] Oper.semAt_some
set_option linter.unusedVariables false
set_option maxRecDepth 100000

/-- Between the rounds. -/
structure Lu (w W : World) (B : Nat) (key : ByteArray) (pre : List (Nat × En)) : Prop where
  b0 : Boxed W w.heap.size 9 (.string key)
  b1 : Boxed W (w.heap.size + 1) 3 (.int .i64 0)
  b2 : Boxed W (w.heap.size + 1 + 1) 4 (.bool false)
  below : Below w.heap.size w W
  pf : ∀ x ∈ pre, Ky.lt key x.2.key = true
  sz : B ≤ W.heap.size

section
variable {w W W' : World} {B : Nat} {key : ByteArray} {pre : List (Nat × En)}
theorem Lu.abides {row : Option Nat} {k : Nat} (h : Lu w W B key pre) (hm : w.heap.size ≤ k) (hg : W.grownBy W' row) (hr : ∀ r, row = some r → k ≤ r ∧ ∃ o : Obj, W.heap[r]? = some o ∧ o.isCells = false) : Lu w W' B key pre where
  b0 := boxed_from h.b0 hg hr
  b1 := boxed_from h.b1 hg hr
  b2 := boxed_from h.b2 hg hr
  below := h.below.grown hg h.below.size (fun k hk => by have := (hr k hk).1; omega)
  pf := h.pf
  sz := Nat.le_trans h.sz hg.size
theorem Lu.still (h : Lu w W B key pre) (ht : Tn [] W W') : Lu w W' B key pre where
  b0 := Bk.tn (show Bk W _ _ _ from h.b0) ht (by simp)
  b1 := Bk.tn (show Bk W _ _ _ from h.b1) ht (by simp)
  b2 := Bk.tn (show Bk W _ _ _ from h.b2) ht (by simp)
  below := h.below.trans (ht.below h.below.size (by simp))
  pf := h.pf
  sz := Nat.le_trans h.sz ht.size
theorem Lu.fin {S : List Nat} (h : Lu w W B key pre) (hS : ∀ b ∈ S, b ≠ w.heap.size + 1 ∧ b ≠ w.heap.size + 1 + 1 ∧ b < B) (ht : Tn [w.heap.size + 1, w.heap.size + 1 + 1] W W') : KeepsOthers W W' ∧ KpP S W W' ∧ Below w.heap.size w W' := by
  have hs := h.below.size
  refine ⟨keeps_tn ht (fun y hy => ?_), KpP.of_tn ht (fun y hy => ?_), h.below.trans (ht.below hs (fun y hy => ?_))⟩
  · simp only [List.mem_cons, List.not_mem_nil, or_false] at hy
    rcases hy with rfl | rfl
    · exact ⟨_, h.b1, rfl⟩
    · exact ⟨_, h.b2, rfl⟩
  · have := hS y hy
    have := h.sz
    simp only [List.mem_cons, List.not_mem_nil, or_false]
    omega
  · simp only [List.mem_cons, List.not_mem_nil, or_false] at hy
    omega
end

/-- What is answered of the last entry that is not above a key. -/
def Pg.Lst (l : List En) (key : ByteArray) (i : Int) (b : Bool) : Prop :=
  (b = true → ∃ (k : Nat) (x : En), i = k ∧ l[k]? = some x ∧ Ky.lt key x.key = false ∧ ∀ (j : Nat) (y : En), k < j → l[j]? = some y → Ky.lt key y.key = true) ∧
  (b = false → ∀ (j : Nat) (y : En), l[j]? = some y → Ky.lt key y.key = true)

set_option maxHeartbeats 4000000 in
theorem lastUpTo_un (p : Option Addr) (len cap : Nat) (l : List En) (key : ByteArray) (w : World) (hlen : l.length = len) (hx : Ens w p l) (hl : len ≤ 4398046511104) (ho : ¬ Pg.Ord l) :
    Calls Tryz.prog 159 #[.slice p len cap, .string key] w fun e w' => (∃ i b, e = .returned (.tuple #[.int .i64 i, .bool b]) ∧ Pg.Lst l key i b) ∧ Below w.heap.size w w' := by
  refine (callsIn_wide (n := 9)).1 ?_
  refine callsIn_of_wp_marks Tryz.func159 rfl trivial ?_ rfl
  simp only [Tryz.ntmps159, List.size_toArray, List.length_cons, List.length_nil, Nat.reduceAdd, Nat.reduceSub, Array.replicate_succ, Array.replicate_zero, List.push_toArray, List.append_toArray, List.nil_append, List.cons_append]
  obtain ⟨w0, hw0⟩ : ∃ w0, w0 = ((w.alloc (.cells #[.string key] 9)).alloc (.cells #[.int .i64 0] 3)).alloc (.cells #[.bool false] 4) := ⟨_, rfl⟩
  have HB0 : Hid (Below w.heap.size w w0) := by rw [hw0]; exact (((Below.refl _ _).alloc (Nat.le_refl _) _).alloc (by simp) _).alloc (by simp; omega) _
  have HK0 : Hid (Bk w0 w.heap.size 9 #[.string key]) := by rw [hw0]; exact ((Bk.new _ _ _).alloc _).alloc _
  have HI0 : Hid (Bk w0 (w.heap.size + 1) 3 #[.int .i64 0]) := by rw [hw0]; exact (Bk.new1 _ _ _ _).alloc _
  have HJ0 : Hid (Bk w0 (w.heap.size + 1 + 1) 4 #[.bool false]) := by rw [hw0]; exact Bk.new2 _ _ _ _ _
  have HX : Hid (Ens w p l) := hx
  have HL : Hid (l.length = len) := hlen
  have HO : Hid (¬ Pg.Ord l) := ho
  clear hx hlen ho
  gi_wp2_with fail
  rw [← hw0]
  clear hw0
  refine ⟨trivial, ?_⟩
  refine (callsIn_wide.2 (inOrder_any p len cap l _ HL.out (HX.out.below HB0.out (Nat.le_refl _)) hl)).mono ?_
  rintro e w1 ⟨ro, rfl, hro, hb1⟩
  obtain rfl : ro = false := by
    cases ro with
    | false => rfl
    | true => exact absurd (hro.1 rfl) HO.out
  have HU1 : Hid (Lu w w1 0 key []) := ⟨HK0.out.below hb1 HK0.out.lt, HI0.out.below hb1 HI0.out.lt, HJ0.out.below hb1 HJ0.out.lt, HB0.out.trans (hb1.mono HB0.out.size), (fun x hx => by cases hx), Nat.zero_le _⟩
  clear hb1 hro HK0 HB0 HI0 HJ0
  gi_wp2_with fail
  refine ⟨trivial, ?_⟩
  refine (callsIn_wide.2 (back_any p len cap w1)).mono ?_
  rintro e w2 ⟨rfl, hw2⟩
  have ht2 : Tn [] w1 w2 := by rw [hw2]; exact (Tn.refl _ _).alloc _
  have hU2 : Lu w w2 w2.heap.size key [] := { HU1.out.still ht2 with sz := Nat.le_refl _ }
  have hs1 : w.heap.size + 1 + 1 < w1.heap.size := HU1.out.b2.lt
  have hne : 0 < l.length := by
    rcases Nat.eq_zero_or_pos l.length with h | h
    · refine absurd (fun i a b h1 h2 => ?_) HO.out
      have := (List.getElem?_eq_some_iff.1 h1).1
      omega
    · exact h
  obtain ⟨g, o, hp, hc⟩ := HX.out hne
  subst hp
  have hgl : g < w.heap.size := HX.out.lt hne
  have hF2 : Fm w2 w1.heap.size [w1.heap.size, g] l := by
    refine ⟨⟨some ⟨g, o, none⟩, cap, ?_, HX.out.below hU2.below (Nat.le_refl _), fun _ g' o' h => by cases h; simp⟩, by simp, fun b hb => ?_, by rw [HL.out]; exact hl⟩
    · rw [HL.out, hw2]
      exact Bk.new _ _ _
    · have h1 := hU2.below.size
      have h2 : w1.heap.size < w2.heap.size := by rw [hw2]; simp
      simp only [List.mem_cons, List.not_mem_nil, or_false] at hb
      rcases hb with rfl | rfl <;> omega
  have hs2 : w1.heap.size < w2.heap.size := by rw [hw2]; simp
  have HSL : Hid (∀ b ∈ [w1.heap.size, g], b ≠ w.heap.size + 1 ∧ b ≠ w.heap.size + 1 + 1 ∧ b < w2.heap.size) := fun b hb => by
    simp only [List.mem_cons, List.not_mem_nil, or_false] at hb
    rcases hb with rfl | rfl <;> omega
  generalize [w1.heap.size, g] = S at *
  clear hw2 ht2 hc hne hgl
  gi_wp2_with fail
  refine range_boxed ?A rfl (by omega) (gf := 200) (lb := #[.pointer (some ⟨w1.heap.size, 0, none⟩)]) rfl trivial (enters_of Tryz.func200 (by kernel_rfl) rfl)
    (back1_stops 8 (by omega) hF2) KpP.t (fun W l o o' hl _ _ _ k hk => World.putObj_heap_other (fun e => by
      subst e
      have := (HSL.out _ hk).2.2
      omega)) (Below.refl _ _) (fun _ => rfl)
    (fun pre W => Lu w W w2.heap.size key pre)
    (fun cc pre W => (cc = .ret ∧ ∃ (i : Nat) (x : En) (pre' : List (Nat × En)), pre = pre' ++ [(i, x)] ∧ Boxed W (w.heap.size + 1) 3 (.int .i64 (i : Int)) ∧ Boxed W (w.heap.size + 1 + 1) 4 (.bool true) ∧ Ky.lt key x.key = false ∧ ∀ y ∈ pre', Ky.lt key y.2.key = true) ∧ Below w.heap.size w W)
    (fun s A B' row hs hg hr => hs.abides (k := w2.heap.size) (by omega) hg hr)
    (fun cc s A B row hs hg hr => by
      obtain ⟨⟨h1, i, x, pre', h0, h2, h3, h5⟩, h4⟩ := hs
      exact ⟨⟨h1, i, x, pre', h0, boxed_from h2 hg hr, boxed_from h3 hg hr, h5⟩, h4.grown hg h4.size (fun k hk => by have := (hr k hk).1; omega)⟩)
    hU2
    (fun x bx W => w2.heap.size ≤ bx ∧ Bk W bx 33 #[.string x.2.key, .int .i64 x.2.s, .int .i64 x.2.g, .int .i64 x.2.c])
    (fun x bx _ A B' row hs hg hr => ⟨hs.1, bk_from hs.2 hg hr⟩)
    ?assign ?body ?done ?stop
  case assign =>
    rintro l pre x W K hL hK
    gi_wp2
    have ht : Tn [] W (W.alloc (.cells #[.string x.2.key, .int .i64 x.2.s, .int .i64 x.2.g, .int .i64 x.2.c] 33)) := (Tn.refl _ _).alloc _
    obtain ⟨bx, hbx⟩ : ∃ bx, W.heap.size = bx := ⟨_, rfl⟩
    have kx : Bk (W.alloc (.cells #[.string x.2.key, .int .i64 x.2.s, .int .i64 x.2.g, .int .i64 x.2.c] 33)) bx 33 #[.string x.2.key, .int .i64 x.2.s, .int .i64 x.2.g, .int .i64 x.2.c] := by rw [← hbx]; exact Bk.new _ _ _
    have hle : w2.heap.size ≤ bx := by have := hL.sz; omega
    have hsl := HSL.out
    rw [hbx]
    refine hK bx _ ((keeps_tn ht (by simp)).from _) (KpP.of_tn ht (fun y hy => ⟨by have := (hsl y hy).2.2; omega, by simp⟩)) (hL.still ht) ⟨hle, kx⟩
  case stop =>
    rintro D cc pre W hD hpre ⟨⟨rfl, i, x, pre', rfl, hb1, hb2, hq, hall⟩, hB⟩ hK
    have HLS : Hid (Pg.Lst l key (i : Int) true) := by
      obtain ⟨h1, h2⟩ := Pg.bw_pre hpre
      exact ⟨fun _ => ⟨i, x, rfl, h1, hq, fun j y hj hy => hall _ (h2 j y hj hy)⟩, fun h => by cases h⟩
    have k1 : Bk (W.putObj D (.deferred none)) (w.heap.size + 1) 3 #[.int .i64 (i : Int)] := (World.putObj_heap_other (by omega)).trans (show Bk W _ _ _ from hb1)
    have k2 : Bk (W.putObj D (.deferred none)) (w.heap.size + 1 + 1) 4 #[.bool true] := (World.putObj_heap_other (by omega)).trans (show Bk W _ _ _ from hb2)
    gi_wp2
    refine ⟨by simp, .inl ⟨_, _, rfl, run_takeDeferred hK, ?_⟩⟩
    refine ⟨_, results_ib (i := (i : Int)) (x := true) rfl rfl rfl k1 k2, ?_⟩
    exact ⟨⟨_, _, rfl, HLS.out⟩, hB.trans ⟨rfl, rfl, rfl, by simp, fun k hk => World.putObj_heap_other (by omega)⟩⟩
  case body =>
    rintro l2 pre x bx W hl2 hT ⟨hbx, kx⟩ hpre
    have HT : Hid (Lu w W w2.heap.size key pre) := hT
    have c0 := hT.b0.cell
    have c1 := hT.b1.cell
    have c2 := hT.b2.cell
    have f1 := hT.b1.frozen
    have f2 := hT.b2.frozen
    have d0 := kx.cell 0
    simp at d0
    clear kx hT
    obtain ⟨xi, ⟨xk, xs, xg, xc⟩⟩ := x
    simp only at d0
    cases hq : Ky.lt key xk with
    | false =>
      have hq' : (Op.bytesLess xk.toList key.toList || xk.toList == key.toList) = true := by rw [Ky.leq_iff]; show (!Ky.lt key xk) = true; rw [hq]; rfl
      have HQ : Hid (Ky.lt key xk = false) := hq
      clear hq
      gi_wp2
      obtain ⟨k1, k2, k3⟩ := HT.out.fin HSL.out (((((Tn.refl _ W)).setCell (.inl (by simp)) (.int .i64 (xi : Int))).setCell (.inl (by simp)) (.bool true)) : Tn _ W (World.setCell (World.setCell _ ⟨w.heap.size + 1, 0, none⟩ _) ⟨w.heap.size + 1 + 1, 0, none⟩ _))
      exact ⟨k1.from _, ⟨rfl, xi, ⟨xk, xs, xg, xc⟩, pre, rfl, (HT.out.b1.set _).other (by omega) _, (HT.out.b2.other (by omega) _).set _, HQ.out, HT.out.pf⟩, k3⟩
    | true =>
      have hq' : (Op.bytesLess xk.toList key.toList || xk.toList == key.toList) = false := by rw [Ky.leq_iff]; show (!Ky.lt key xk) = false; rw [hq]; rfl
      have HQ : Hid (Ky.lt key xk = true) := hq
      clear hq
      gi_wp2
      obtain ⟨k1, k2, k3⟩ := HT.out.fin HSL.out (Tn.refl _ W)
      have hpf : ∀ y ∈ pre ++ [(xi, (⟨xk, xs, xg, xc⟩ : En))], Ky.lt key y.2.key = true := fun y hy => by
        rcases List.mem_append.1 hy with h | h
        · exact HT.out.pf y h
        · simp at h
          subst h
          exact HQ.out
      exact ⟨k1.from _, k2, { HT.out with pf := hpf }⟩
  case done =>
    rintro D zs W hD rfl hT hK
    have HT : Hid (Lu w W w2.heap.size key (Pg.bw l)) := hT
    have c1 := hT.b1.cell
    have c2 := hT.b2.cell
    have f1 := hT.b1.frozen
    have f2 := hT.b2.frozen
    have HLS : Hid (Pg.Lst l key 0 false) := ⟨(fun h => by cases h), fun _ j y hy => hT.pf _ (Pg.bw_all hy)⟩
    have hDn : D ≠ w.heap.size + 1 := by omega
    have hDm : D ≠ w.heap.size + 1 + 1 := by omega
    have hD2 : w.heap.size ≤ D := by omega
    clear hT
    gi_wp2
    have k1 : Bk (((W.setCell ⟨w.heap.size + 1, 0, none⟩ (.int .i64 0)).setCell ⟨w.heap.size + 1 + 1, 0, none⟩ (.bool false)).putObj D (.deferred none)) (w.heap.size + 1) 3 #[.int .i64 0] := (World.putObj_heap_other (by omega)).trans (show Bk _ _ _ _ from (HT.out.b1.set _).other (by omega) _)
    have k2 : Bk (((W.setCell ⟨w.heap.size + 1, 0, none⟩ (.int .i64 0)).setCell ⟨w.heap.size + 1 + 1, 0, none⟩ (.bool false)).putObj D (.deferred none)) (w.heap.size + 1 + 1) 4 #[.bool false] := (World.putObj_heap_other (by omega)).trans (show Bk _ _ _ _ from (HT.out.b2.other (by omega) _).set _)
    have hB : Below w.heap.size w ((W.setCell ⟨w.heap.size + 1, 0, none⟩ (.int .i64 0)).setCell ⟨w.heap.size + 1 + 1, 0, none⟩ (.bool false)) := (HT.out.below.setCell (p := ⟨w.heap.size + 1, 0, none⟩) (by simp) _).setCell (p := ⟨w.heap.size + 1 + 1, 0, none⟩) (by simp; omega) _
    refine ⟨by simp, .inl ⟨_, _, rfl, run_takeDeferred ((Below.heap_setCell _ _ _ _ (by simpa using hDm)).trans ((Below.heap_setCell _ _ _ _ (by simpa using hDn)).trans hK)), ?_⟩⟩
    refine ⟨_, results_ib (i := 0) (x := false) rfl rfl rfl k1 k2, ?_⟩
    exact ⟨⟨_, _, rfl, HLS.out⟩, hB.trans ⟨rfl, rfl, rfl, by simp, fun k hk => World.putObj_heap_other (by omega)⟩⟩

end Go.Proofs.YtmfkiiedmclafaaGreat

namespace Go.Proofs.YtmfkiiedmclafaaGreat
open Go.RowKit Go.Sort
set_option linter.unusedVariables false
set_option maxRecDepth 100000

set_option maxHeartbeats 2000000 in
theorem find_un (lo hi : ByteArray) (r : Int) (p : Option Addr) (len cap : Nat) (l : List En) (key : ByteArray) (w : World) (hlen : l.length = len) (hx : Ens w p l) (hl : len ≤ 4398046511104) (ho : ¬ Pg.Ord l) :
    Calls Tryz.prog 138 #[pgv false lo hi r p len cap, .string key] w fun e w' => (∃ out, e = .returned (fv out) ∧ Pg.Fnd false l key out) ∧ Below w.heap.size w w' := by
  have eg2 : ∀ args w, (callFunc 159 args).run Tryz.prog w = .ok (.enter 159 args) w := enters_of Tryz.func159 (by kernel_rfl) rfl
  obtain ⟨w0, hw0⟩ : ∃ w0, (w.alloc (.cells (pgc false lo hi r p len cap) 29)).alloc (.cells #[.string ⟨#[]⟩, .int .i64 0, .int .i64 0, .int .i64 0] 33) = w0 := ⟨_, rfl⟩
  have HB0 : Hid (Below w.heap.size w w0) := by rw [← hw0]; exact ((Below.refl _ _).alloc (Nat.le_refl _) _).alloc (by simp) _
  have HK0 : Hid (Bk w0 w.heap.size 29 (pgc false lo hi r p len cap)) := by rw [← hw0]; exact (Bk.new _ _ _).alloc _
  have HR0 : Hid (Bk w0 (w.heap.size + 1) 33 #[.string ⟨#[]⟩, .int .i64 0, .int .i64 0, .int .i64 0]) := by rw [← hw0]; exact Bk.new1 _ _ _ _
  have HX : Hid (Ens w p l) := hx
  have HL : Hid (l.length = len) := hlen
  have HO : Hid (¬ Pg.Ord l) := ho
  have HX0 : Hid (Ens w0 p l) := hx.below HB0.out (Nat.le_refl _)
  clear hx hlen ho
  have a0 : w0.cell? ⟨w.heap.size, 0, none⟩ = some (.bool false) := HK0.out.cell 0
  have a4 : w0.cell? ⟨w.heap.size, 4, none⟩ = some (.slice p len cap) := HK0.out.cell 4
  go_enter Tryz.func138, Tryz.ntmps138
  go_wp2_with (go_at_fn 159; refine (lastUpTo_un p len cap l key _ HL.out HX0.out hl HO.out).mono ?_; rintro e w1 ⟨⟨i, bb, rfl, hls⟩, hb1⟩; refine Hid.out ?_)
  unfold Hid
  clear hw0
  have HLS : Hid (Pg.Lst l key i bb) := hls
  have HB1 : Hid (Below w.heap.size w w1) := HB0.out.trans (hb1.mono HB0.out.size)
  have HK1 : Hid (Bk w1 w.heap.size 29 (pgc false lo hi r p len cap)) := HK0.out.below hb1 HK0.out.lt
  have HR1 : Hid (Bk w1 (w.heap.size + 1) 33 #[.string ⟨#[]⟩, .int .i64 0, .int .i64 0, .int .i64 0]) := HR0.out.below hb1 HR0.out.lt
  have HX1 : Hid (Ens w1 p l) := HX0.out.below hb1 (Nat.le_refl _)
  clear a0 a4 hls hb1
  have a4 : w1.cell? ⟨w.heap.size, 4, none⟩ = some (.slice p len cap) := HK1.out.cell 4
  have b0 : w1.cell? ⟨w.heap.size + 1, 0, none⟩ = some (.string ⟨#[]⟩) := HR1.out.cell 0
  have f0 : w1.frozen? ⟨w.heap.size + 1, 0, none⟩ = false := HR1.out.frozen 0
  have b1 : w1.cell? ⟨w.heap.size + 1, 1, none⟩ = some (.int .i64 0) := HR1.out.cell 1
  have f1 : w1.frozen? ⟨w.heap.size + 1, 1, none⟩ = false := HR1.out.frozen 1
  have b2 : w1.cell? ⟨w.heap.size + 1, 2, none⟩ = some (.int .i64 0) := HR1.out.cell 2
  have f2 : w1.frozen? ⟨w.heap.size + 1, 2, none⟩ = false := HR1.out.frozen 2
  have b3 : w1.cell? ⟨w.heap.size + 1, 3, none⟩ = some (.int .i64 0) := HR1.out.cell 3
  have f3 : w1.frozen? ⟨w.heap.size + 1, 3, none⟩ = false := HR1.out.frozen 3
  cases bb with
  | true =>
    obtain ⟨k, x, hik, hg, hq, hj⟩ := HLS.out.1 rfl
    subst hik
    have HF : Hid (Pg.Fnd false l key (some x)) := ⟨(fun h => by cases h), fun _ => .inl ⟨k, x, rfl, hg, hq, hj⟩⟩
    have hlt : k < l.length := (List.getElem?_eq_some_iff.1 hg).1
    have hki : (k : Int) < (len : Int) := by have := HL.out; omega
    have hk0 : (0 : Int) ≤ (k : Int) := by omega
    obtain ⟨b, o, x', rfl, hg', hblt, c0, c1, c2, c3⟩ := HX1.out.at (j := k) hlt
    rw [hg] at hg'
    cases hg'
    obtain ⟨xk, xs, xg, xc⟩ := x
    simp only at c0 c1 c2 c3
    clear hg hlt hq hj
    go_wp2
    obtain ⟨we, hwe⟩ : ∃ we, we = put4 w1 (w.heap.size + 1) (.string xk) (.int .i64 xs) (.int .i64 xg) (.int .i64 xc) := ⟨_, rfl⟩
    have hA : Bk we (w.heap.size + 1) 33 #[.string xk, .int .i64 xs, .int .i64 xg, .int .i64 xc] := by rw [hwe]; exact HR1.out.four _ _ _ _
    have ht : Tn [w.heap.size + 1] w1 we := by rw [hwe]; exact (Tn.refl _ _).four (.inl (by simp)) _ _ _ _
    unfold put4 at hwe
    rw [← hwe]
    clear hwe
    refine bodyPost_ret (results_two (cs := [.string xk, .int .i64 xs, .int .i64 xg, .int .i64 xc]) rfl rfl en_agg en_size rfl hA) rfl ?_
    exact ⟨⟨_, rfl, HF.out⟩, HB1.out.trans (ht.below HB1.out.size (by simp))⟩
  | false =>
    have HF : Hid (Pg.Fnd false l key none) := ⟨(fun h => by cases h), fun _ => .inr ⟨rfl, HLS.out.2 rfl⟩⟩
    go_wp2
    obtain ⟨we, hwe⟩ : ∃ we, we = put4 w1 (w.heap.size + 1) (.string ⟨#[]⟩) (.int .i64 0) (.int .i64 0) (.int .i64 0) := ⟨_, rfl⟩
    have hA : Bk we (w.heap.size + 1) 33 #[.string ⟨#[]⟩, .int .i64 0, .int .i64 0, .int .i64 0] := by rw [hwe]; exact HR1.out.four _ _ _ _
    have ht : Tn [w.heap.size + 1] w1 we := by rw [hwe]; exact (Tn.refl _ _).four (.inl (by simp)) _ _ _ _
    unfold put4 at hwe
    rw [← hwe]
    clear hwe
    refine bodyPost_ret (results_two (cs := [.string ⟨#[]⟩, .int .i64 0, .int .i64 0, .int .i64 0]) rfl rfl en_agg en_size rfl hA) rfl ?_
    exact ⟨⟨none, rfl, HF.out⟩, HB1.out.trans (ht.below HB1.out.size (by simp))⟩

theorem find_any (leaf : Bool) (lo hi : ByteArray) (r : Int) (p : Option Addr) (len cap : Nat) (l : List En) (key : ByteArray) (w : World) (hlen : l.length = len) (hx : Ens w p l) (hl : len ≤ 4398046511104) :
    Calls Tryz.prog 138 #[pgv leaf lo hi r p len cap, .string key] w fun e w' => (∃ out, e = .returned (fv out) ∧ Pg.Fnd leaf l key out) ∧ Below w.heap.size w w' := by
  by_cases h : leaf = false → Pg.Ord l
  · refine (find_ord leaf lo hi r p len cap l key w hlen hx hl h).mono ?_
    rintro e w' ⟨rfl, hb⟩
    exact ⟨⟨_, rfl, Pg.Fnd.ord h⟩, hb⟩
  · obtain ⟨rfl, h2⟩ := Classical.not_imp.1 h
    exact find_un lo hi r p len cap l key w hlen hx hl h2

end Go.Proofs.YtmfkiiedmclafaaGreat

namespace Go.Proofs.YtmfkiiedmclafaaGreat
open Go.RowKit Go.Sort
set_option linter.unusedVariables false
set_option maxRecDepth 100000

/-- The entries that say enough of a key. -/
def Dl.say (bl : List En) (key : ByteArray) : List De → List En
  | [] => bl
  | d :: r => if (d.k == 1) && (d.e.key.toList == key.toList) then [d.e] else if (d.k == 2) && (d.key.toList == key.toList) then [] else if (d.k == 4) && Ky.inn ⟨d.rt.lo, d.rt.hi⟩ key then d.rt.l else Dl.say bl key r

theorem Dl.say_at {bl : List En} {key : ByteArray} {L : List Dm} {k : Nat} {m : Dm} (h : L[k]? = some m) : Dl.say bl key ((L.drop k).map (·.d)) = if (m.d.k == 1) && (m.d.e.key.toList == key.toList) then [m.d.e] else if (m.d.k == 2) && (m.d.key.toList == key.toList) then [] else if (m.d.k == 4) && Ky.inn ⟨m.d.rt.lo, m.d.rt.hi⟩ key then m.d.rt.l else Dl.say bl key ((L.drop (k + 1)).map (·.d)) := by
  obtain ⟨hk, rfl⟩ := List.getElem?_eq_some_iff.1 h
  rw [List.drop_eq_getElem_cons hk]
  rfl

/-- A slice that is answered leads to entries. -/
def Led (w : World) (l : List En) (e : Ending) (w' : World) : Prop := (∃ q m c, e = .returned (.slice q m c) ∧ l.length = m ∧ Ens w' q l ∧ m ≤ 3518437208780) ∧ Below w.heap.size w w'

set_option maxHeartbeats 4000000 in
theorem saying_any (pf : Bool) (plo phi : ByteArray) (pr : Int) (pp : Option Addr) (pn pc : Nat) (pl : List En) (key : ByteArray) (p : Option Addr) (len cap : Nat) (L : List Dm) (w : World) (hlen : pl.length = pn) (hx : Ens w pp pl) (hl : pn ≤ 3518437208780) (hL : L.length = len) (hll : len ≤ 4398046511104) (hD : Des w p L) :
    Calls Tryz.prog 139 #[pgv pf plo phi pr pp pn pc, .string key, .slice p len cap] w fun e w' => Led w (Dl.say pl key (L.map (·.d))) e w' := by
  obtain ⟨out, HO⟩ : ∃ out, Hid (Dl.say pl key (L.map (·.d)) = out) := ⟨_, rfl⟩
  rw [HO.out]
  have HX : Hid (Ens w pp pl) := hx
  have HN : Hid (pl.length = pn) := hlen
  have HL : Hid (L.length = len) := hL
  have HD : Hid (Des w p L) := hD
  clear hx hlen hL hD
  obtain ⟨w0, hw0⟩ : ∃ w0, w.alloc (.cells #[.bool pf, .string plo, .string phi, .int .i64 pr, .slice pp pn pc] 29) = w0 := ⟨_, rfl⟩
  have HB0 : Hid (Below w.heap.size w w0) := by rw [← hw0]; exact (Below.refl _ _).alloc (Nat.le_refl _) _
  have HK0 : Hid (Bk w0 w.heap.size 29 #[.bool pf, .string plo, .string phi, .int .i64 pr, .slice pp pn pc]) := by rw [← hw0]; exact Bk.new _ _ _
  have a0 : w0.cell? ⟨w.heap.size, 0, none⟩ = some (.bool pf) := HK0.out.cell 0
  have a1 : w0.cell? ⟨w.heap.size, 1, none⟩ = some (.string plo) := HK0.out.cell 1
  have a2 : w0.cell? ⟨w.heap.size, 2, none⟩ = some (.string phi) := HK0.out.cell 2
  have a3 : w0.cell? ⟨w.heap.size, 3, none⟩ = some (.int .i64 pr) := HK0.out.cell 3
  have a4 : w0.cell? ⟨w.heap.size, 4, none⟩ = some (.slice pp pn pc) := HK0.out.cell 4
  go_enter Tryz.func139, Tryz.ntmps139
  go_wp2_with fail
  go_step3
  go_wp2_with fail
  go_step3
  go_wp2_with fail
  clear hw0
  clear a0 a1 a2 a3 a4
  go_loopw [7, 14] (fun s i wr => ∃ k : Nat, k ≤ len ∧ i = .int .i64 k ∧ s = .slice pp pn pc ∧ Hid (out = Dl.say pl key ((L.drop k).map (·.d))) ∧ Hid (Below w.heap.size w wr)) (fun _ i _ => len - (intOf i).toNat)
  case atStart => exact ⟨0, Nat.zero_le _, rfl, rfl, HO.out.symm, HB0⟩
  case round =>
    obtain ⟨k, hk, rfl, rfl, HQ, HW⟩ := hrel
    by_cases hlt : k < len
    · have hli : (k : Int) < (len : Int) := by omega
      have hk0 : (0 : Int) ≤ (k : Int) := by omega
      have hkL : k < L.length := by have := HL.out; omega
      obtain ⟨m, hm⟩ : ∃ m, L[k]? = some m := ⟨_, List.getElem?_eq_getElem hkL⟩
      obtain ⟨b, o, rfl, hc⟩ := HD.out.below HW.out (Nat.le_refl _) (by omega)
      obtain ⟨hcx, hOk⟩ := hc k m hm
      have hQ := HQ.out
      rw [Dl.say_at hm] at hQ
      obtain ⟨⟨dk, ⟨dek, des, deg, dec⟩, dkey, dpg, ⟨dleaf, dlo, dhi, dr, dl⟩⟩, dp, dn, dc⟩ := m
      simp only at hQ
      have HQ2 : Hid (out = if (dk == 1) && (dek.toList == key.toList) then [⟨dek, des, deg, dec⟩] else if (dk == 2) && (dkey.toList == key.toList) then [] else if (dk == 4) && Ky.inn ⟨dlo, dhi⟩ key then dl else Dl.say pl key ((L.drop (k + 1)).map (·.d))) := hQ
      have HOK : Hid (Dm.Ok wr ⟨⟨dk, ⟨dek, des, deg, dec⟩, dkey, dpg, ⟨dleaf, dlo, dhi, dr, dl⟩⟩, dp, dn, dc⟩) := hOk
      have z0 := hcx 0 _ rfl
      have z1 := hcx 1 _ rfl
      have z2 := hcx 2 _ rfl
      have z3 := hcx 3 _ rfl
      have z4 := hcx 4 _ rfl
      have z5 := hcx 5 _ rfl
      have z6 := hcx 6 _ rfl
      have z7 := hcx 7 _ rfl
      have z8 := hcx 8 _ rfl
      have z9 := hcx 9 _ rfl
      have z10 := hcx 10 _ rfl
      have z11 := hcx 11 _ rfl
      simp only [Nat.add_zero] at z0
      clear hQ hm hcx hc hOk HQ
      obtain ⟨w2, hw2⟩ : ∃ w2, wr.alloc (.cells #[.int .i64 dk, .string dek, .int .i64 des, .int .i64 deg, .int .i64 dec, .string dkey, .int .i64 dpg, .bool dleaf, .string dlo, .string dhi, .int .i64 dr, .slice dp dn dc] 35) = w2 := ⟨_, rfl⟩
      have HW2 : Hid (Below w.heap.size w w2) := by rw [← hw2]; exact HW.out.alloc HW.out.size _
      have HK2 : Hid (Bk w2 wr.heap.size 35 #[.int .i64 dk, .string dek, .int .i64 des, .int .i64 deg, .int .i64 dec, .string dkey, .int .i64 dpg, .bool dleaf, .string dlo, .string dhi, .int .i64 dr, .slice dp dn dc]) := by rw [← hw2]; exact Bk.new _ _ _
      have HE2 : Hid (Ens w2 dp dl) := by rw [← hw2]; exact HOK.out.ens.below ((Below.refl _ _).alloc (Nat.le_refl _) _) (Nat.le_refl _)
      have x0 : w2.cell? ⟨wr.heap.size, 0, none⟩ = some (.int .i64 dk) := HK2.out.cell 0
      have x1 : w2.cell? ⟨wr.heap.size, 1, none⟩ = some (.string dek) := HK2.out.cell 1
      have x2 : w2.cell? ⟨wr.heap.size, 2, none⟩ = some (.int .i64 des) := HK2.out.cell 2
      have x3 : w2.cell? ⟨wr.heap.size, 3, none⟩ = some (.int .i64 deg) := HK2.out.cell 3
      have x4 : w2.cell? ⟨wr.heap.size, 4, none⟩ = some (.int .i64 dec) := HK2.out.cell 4
      have x5 : w2.cell? ⟨wr.heap.size, 5, none⟩ = some (.string dkey) := HK2.out.cell 5
      have x6 : w2.cell? ⟨wr.heap.size, 6, none⟩ = some (.int .i64 dpg) := HK2.out.cell 6
      have x7 : w2.cell? ⟨wr.heap.size, 7, none⟩ = some (.bool dleaf) := HK2.out.cell 7
      have x8 : w2.cell? ⟨wr.heap.size, 8, none⟩ = some (.string dlo) := HK2.out.cell 8
      have x9 : w2.cell? ⟨wr.heap.size, 9, none⟩ = some (.string dhi) := HK2.out.cell 9
      have x10 : w2.cell? ⟨wr.heap.size, 10, none⟩ = some (.int .i64 dr) := HK2.out.cell 10
      have x11 : w2.cell? ⟨wr.heap.size, 11, none⟩ = some (.slice dp dn dc) := HK2.out.cell 11
      by_cases h1 : dk = 1
      · subst h1
        cases hb : (dek.toList == key.toList) with
        | true =>
          have HF : Hid (out = [⟨dek, des, deg, dec⟩]) := by rw [Hid, HQ2.out, hb]; rfl
          go_wp2
          go_ret
          rw [HF.out]
          exact ⟨⟨_, 1, _, rfl, rfl, ens_one w2 ⟨dek, des, deg, dec⟩, by decide⟩, HW2.out.alloc HW2.out.size _⟩
        | false =>
          have HF : Hid (out = Dl.say pl key ((L.drop (k + 1)).map (·.d))) := by rw [Hid, HQ2.out, hb]; rfl
          go_wp2
          go_roundw
          case rel => exact ⟨k + 1, by omega, by go_num, rfl, HF, HW2⟩
          case measure => simp [intOf]; omega
      · have k1 : (dk == 1) = false := by simp [h1]
        by_cases h2 : dk = 2
        · subst h2
          cases hb : (dkey.toList == key.toList) with
          | true =>
            have HF : Hid (out = []) := by rw [Hid, HQ2.out, hb]; rfl
            go_wp2
            go_ret
            rw [HF.out]
            exact ⟨⟨_, 0, _, rfl, rfl, Ens.nil _ _, by decide⟩, HW2.out⟩
          | false =>
            have HF : Hid (out = Dl.say pl key ((L.drop (k + 1)).map (·.d))) := by rw [Hid, HQ2.out, hb]; rfl
            go_wp2
            go_roundw
            case rel => exact ⟨k + 1, by omega, by go_num, rfl, HF, HW2⟩
            case measure => simp [intOf]; omega
        · have k2 : (dk == 2) = false := by simp [h2]
          by_cases h4 : dk = 4
          · subst h4
            go_wp2_with fail
            clear hw2
            refine (has_any dleaf dlo dhi dr dp dn dc _ key).mono ?_
            cases hin : Ky.inn ⟨dlo, dhi⟩ key with
            | true =>
              have HF : Hid (out = dl) := by rw [Hid, HQ2.out, hin]; rfl
              rintro e w3 ⟨rfl, hb3⟩
              have HW3 : Hid (Below w.heap.size w w3) := HW2.out.trans (hb3.mono HW2.out.size)
              have HE3 : Hid (Ens w3 dp dl) := HE2.out.below hb3 (Nat.le_refl _)
              have HK3 : Hid (Bk w3 wr.heap.size 35 #[.int .i64 4, .string dek, .int .i64 des, .int .i64 deg, .int .i64 dec, .string dkey, .int .i64 dpg, .bool dleaf, .string dlo, .string dhi, .int .i64 dr, .slice dp dn dc]) := HK2.out.below hb3 HK2.out.lt
              clear hb3
              clear x0 x1 x2 x3 x4 x5 x6 x7 x8 x9 x10 x11
              have x11 : w3.cell? ⟨wr.heap.size, 11, none⟩ = some (.slice dp dn dc) := HK3.out.cell 11
              go_wp2
              go_ret
              rw [HF.out]
              exact ⟨⟨_, dn, _, rfl, HOK.out.len, HE3.out, HOK.out.room⟩, HW3.out⟩
            | false =>
              have HF : Hid (out = Dl.say pl key ((L.drop (k + 1)).map (·.d))) := by rw [Hid, HQ2.out, hin]; rfl
              rintro e w3 ⟨rfl, hb3⟩
              have HW3 : Hid (Below w.heap.size w w3) := HW2.out.trans (hb3.mono HW2.out.size)
              clear hb3
              clear x0 x1 x2 x3 x4 x5 x6 x7 x8 x9 x10 x11
              go_wp2
              go_roundw
              case rel => exact ⟨k + 1, by omega, by go_num, rfl, HF, HW3⟩
              case measure => simp [intOf]; omega
          · have k4 : (dk == 4) = false := by simp [h4]
            have HF : Hid (out = Dl.say pl key ((L.drop (k + 1)).map (·.d))) := by rw [Hid, HQ2.out, k1, k2, k4]; rfl
            go_wp2
            go_roundw
            case rel => exact ⟨k + 1, by omega, by go_num, rfl, HF, HW2⟩
            case measure => simp [intOf]; omega
    · have hkn : k = len := by omega
      have hli : ¬ (k : Int) < (len : Int) := by omega
      have HF : Hid (out = pl) := by
        rw [Hid, HQ.out, List.drop_of_length_le (by have := HL.out; omega)]
        rfl
      go_wp2
      go_ret
      rw [HF.out]
      exact ⟨⟨_, pn, _, rfl, HN.out, HX.out.below HW.out (Nat.le_refl _), hl⟩, HW.out⟩

end Go.Proofs.YtmfkiiedmclafaaGreat

namespace Go.Proofs.YtmfkiiedmclafaaGreat
open Go.RowKit Go.Sort
set_option linter.unusedVariables false
set_option maxRecDepth 100000

/-- A spot. -/
structure Sp where
  e : En
  f : Bool
  g : Int

abbrev spv (e : En) (f : Bool) (g : Int) : Value := .agg #[.string e.key, .int .i64 e.s, .int .i64 e.g, .int .i64 e.c, .bool f, .int .i64 g]
abbrev Sp.zero : Sp := ⟨En.zero, false, 0⟩
theorem sp_agg (w : World) : (isAgg 74).run Tryz.prog w = .ok true w := by kernel_rfl
theorem sp_size (w : World) : (sizeOf 74).run Tryz.prog w = .ok 6 w := by kernel_rfl

/-- Six cells of a block written. -/
abbrev put6 (w : World) (R : Nat) (a b c d e f : Value) : World := (((((w.setCell ⟨R, 0, none⟩ a).setCell ⟨R, 1, none⟩ b).setCell ⟨R, 2, none⟩ c).setCell ⟨R, 3, none⟩ d).setCell ⟨R, 4, none⟩ e).setCell ⟨R, 5, none⟩ f
theorem Bk.six {w : World} {R : Nat} {T : TypeId} {x0 x1 x2 x3 x4 x5 : Value} (h : Bk w R T #[x0, x1, x2, x3, x4, x5]) (a b c d e f : Value) : Bk (put6 w R a b c d e f) R T #[a, b, c, d, e, f] := by
  have := (((((h.set 0 a).set 1 b).set 2 c).set 3 d).set 4 e).set 5 f
  simpa using this
theorem Bk.sixO {w : World} {R k : Nat} {T : TypeId} {cs : Array Value} (h : Bk w k T cs) (hne : k ≠ R) (a b c d e f : Value) : Bk (put6 w R a b c d e f) k T cs :=
  (((((h.other (p := ⟨R, 0, none⟩) hne a).other (p := ⟨R, 1, none⟩) hne b).other (p := ⟨R, 2, none⟩) hne c).other (p := ⟨R, 3, none⟩) hne d).other (p := ⟨R, 4, none⟩) hne e).other (p := ⟨R, 5, none⟩) hne f
theorem Tn.six {S : List Nat} {a0 w : World} (h : Tn S a0 w) {R : Nat} (hp : R ∈ S ∨ a0.heap.size ≤ R) (a b c d e f : Value) : Tn S a0 (put6 w R a b c d e f) :=
  (((((h.setCell (p := ⟨R, 0, none⟩) hp a).setCell (p := ⟨R, 1, none⟩) hp b).setCell (p := ⟨R, 2, none⟩) hp c).setCell (p := ⟨R, 3, none⟩) hp d).setCell (p := ⟨R, 4, none⟩) hp e).setCell (p := ⟨R, 5, none⟩) hp f

/-- What is found of a key, in entries in whatever order, as a function. -/
def Pg.fnd (leaf : Bool) (l : List En) (key : ByteArray) : Option En := if leaf then Pg.find true l key else l.reverse.find? fun e => !Ky.lt key e.key

theorem Pg.fnd_is (leaf : Bool) (l : List En) (key : ByteArray) : Pg.Fnd leaf l key (Pg.fnd leaf l key) := by
  refine ⟨fun h => by subst h; rfl, fun h => ?_⟩
  subst h
  unfold Pg.fnd
  simp only [Bool.false_eq_true, if_false]
  cases hf : l.reverse.find? fun e => !Ky.lt key e.key with
  | none =>
    refine .inr ⟨rfl, fun j y hy => ?_⟩
    rw [List.find?_eq_none] at hf
    have := hf y (by simp; exact List.mem_of_getElem? hy)
    simpa using this
  | some x =>
    obtain ⟨hp, us, bs, hl, hn⟩ := List.find?_eq_some_iff_append.1 hf
    have hl2 : l = bs.reverse ++ x :: us.reverse := by
      have := congrArg List.reverse hl
      simpa using this
    refine .inl ⟨bs.length, x, rfl, by rw [hl2]; simp, by simpa using hp, fun j y hj hy => ?_⟩
    rw [hl2, show bs.reverse ++ x :: us.reverse = (bs.reverse ++ [x]) ++ us.reverse by simp, List.getElem?_append_right (by simp; omega)] at hy
    have hm := List.mem_of_getElem? hy
    have := hn y (by simpa using hm)
    simpa using this

/-- What comes of a call that may refuse: a spot, or the panic that tells the error. -/
def DoneS (w : World) (out : Sp × Int) (e : Ending) (w' : World) : Prop :=
  ((out.2 = 0 ∧ e = .returned (spv out.1.e out.1.f out.1.g)) ∨ (out.2 ≠ 0 ∧ e = pan out.2)) ∧ Below w.heap.size w w'

/-- What an inner page says by the entry that was found. -/
def Dl.hitI : Option En → Sp × Int
  | some x => (⟨x, true, x.c⟩, 0)
  | none => (Sp.zero, 73)
/-- What a leaf says by the entry that was found. -/
def Dl.hitL : Option En → Sp × Int
  | some x => (⟨x, true, 0⟩, 0)
  | none => (Sp.zero, 0)

/-- The page to the right. -/
def Dl.beside (g : Pp) (key : ByteArray) : Int × Int := if Ky.lt key g.lo || g.r == 0 then (0, 73) else (g.r, 0)

theorem beside_any (pf : Bool) (plo phi : ByteArray) (pr : Int) (pp : Option Addr) (pn pc : Nat) (key : ByteArray) (w : World) :
    Calls Tryz.prog 122 #[pgv pf plo phi pr pp pn pc, .string key] w fun e w' => ((((Ky.lt key plo || pr == 0) = false) ∧ e = .returned (.int .i64 pr)) ∨ ((Ky.lt key plo || pr == 0) = true ∧ e = pan 73)) ∧ Below w.heap.size w w' := by
  have HB0 : Hid (Below w.heap.size w (w.alloc (.cells (pgc pf plo phi pr pp pn pc) 29))) := (Below.refl _ _).alloc (Nat.le_refl _) _
  cases h1 : Ky.lt key plo with
  | true =>
    have h1' : Op.bytesLess key.toList plo.toList = true := h1
    go_enter Tryz.func122, Tryz.ntmps122
    go_wp2
    refine ⟨rfl, ?_⟩
    exact ⟨.inr ⟨rfl, rfl⟩, HB0.out⟩
  | false =>
    have h1' : Op.bytesLess key.toList plo.toList = false := h1
    by_cases h2 : pr = 0
    · subst h2
      go_enter Tryz.func122, Tryz.ntmps122
      go_wp2
      refine ⟨rfl, ?_⟩
      exact ⟨.inr ⟨rfl, rfl⟩, HB0.out⟩
    · have k2 : (pr == 0) = false := by simp [h2]
      go_enter Tryz.func122, Tryz.ntmps122
      go_wp2
      go_ret
      exact ⟨.inl ⟨by simp [k2], rfl⟩, HB0.out⟩

set_option maxHeartbeats 2000000 in
theorem below_any (pf : Bool) (plo phi : ByteArray) (pr : Int) (pp : Option Addr) (pn pc : Nat) (pl : List En) (key : ByteArray) (w : World) (hlen : pl.length = pn) (hx : Ens w pp pl) (hl : pn ≤ 3518437208780) :
    Calls Tryz.prog 123 #[pgv pf plo phi pr pp pn pc, .string key] w fun e w' => DoneS w (Dl.hitI (Pg.fnd pf pl key)) e w' := by
  obtain ⟨out, HO⟩ : ∃ out : Sp × Int, Hid (Dl.hitI (Pg.fnd pf pl key) = out) := ⟨_, rfl⟩
  rw [HO.out]
  have HX : Hid (Ens w pp pl) := hx
  have HN : Hid (pl.length = pn) := hlen
  clear hx hlen
  obtain ⟨w0, hw0⟩ : ∃ w0, (w.alloc (.cells #[.bool pf, .string plo, .string phi, .int .i64 pr, .slice pp pn pc] 29)).alloc (.cells #[.string ⟨#[]⟩, .int .i64 0, .int .i64 0, .int .i64 0, .bool false, .int .i64 0] 74) = w0 := ⟨_, rfl⟩
  have HB0 : Hid (Below w.heap.size w w0) := by rw [← hw0]; exact ((Below.refl _ _).alloc (Nat.le_refl _) _).alloc (by simp) _
  have HK0 : Hid (Bk w0 w.heap.size 29 #[.bool pf, .string plo, .string phi, .int .i64 pr, .slice pp pn pc]) := by rw [← hw0]; exact (Bk.new _ _ _).alloc _
  have HR0 : Hid (Bk w0 (w.heap.size + 1) 74 #[.string ⟨#[]⟩, .int .i64 0, .int .i64 0, .int .i64 0, .bool false, .int .i64 0]) := by rw [← hw0]; exact Bk.new1 _ _ _ _
  have a0 : w0.cell? ⟨w.heap.size, 0, none⟩ = some (.bool pf) := HK0.out.cell 0
  have a1 : w0.cell? ⟨w.heap.size, 1, none⟩ = some (.string plo) := HK0.out.cell 1
  have a2 : w0.cell? ⟨w.heap.size, 2, none⟩ = some (.string phi) := HK0.out.cell 2
  have a3 : w0.cell? ⟨w.heap.size, 3, none⟩ = some (.int .i64 pr) := HK0.out.cell 3
  have a4 : w0.cell? ⟨w.heap.size, 4, none⟩ = some (.slice pp pn pc) := HK0.out.cell 4
  go_enter Tryz.func123, Tryz.ntmps123
  go_wp2_with fail
  clear hw0
  refine (find_any pf plo phi pr pp pn pc pl key _ HN.out (HX.out.below HB0.out (Nat.le_refl _)) (by omega)).mono ?_
  rintro e w1 ⟨⟨fo, rfl, hfn⟩, hb1⟩
  clear a0 a1 a2 a3 a4
  have HFO : Hid (Pg.fnd pf pl key = fo) := (Pg.fnd_is pf pl key).one hfn
  have HB1 : Hid (Below w.heap.size w w1) := HB0.out.trans (hb1.mono HB0.out.size)
  have HR1 : Hid (Bk w1 (w.heap.size + 1) 74 #[.string ⟨#[]⟩, .int .i64 0, .int .i64 0, .int .i64 0, .bool false, .int .i64 0]) := HR0.out.below hb1 HR0.out.lt
  clear hfn hb1
  cases fo with
  | none =>
    have HF : Hid (out = (Sp.zero, 73)) := by rw [Hid, ← HO.out, HFO.out]; rfl
    have HB2 : Hid (Below w.heap.size w (w1.alloc (.cells #[.string ⟨#[]⟩, .int .i64 0, .int .i64 0, .int .i64 0] 33))) := HB1.out.alloc HB1.out.size _
    unfold fv
    simp only
    go_wp2
    refine ⟨rfl, ?_⟩
    rw [HF.out]
    exact ⟨.inr ⟨by decide, rfl⟩, HB2.out⟩
  | some x =>
    have HF : Hid (out = (⟨x, true, x.c⟩, 0)) := by rw [Hid, ← HO.out, HFO.out]; rfl
    obtain ⟨xk, xs, xg, xc⟩ := x
    unfold fv
    simp only
    obtain ⟨w2, hw2⟩ : ∃ w2, w1.alloc (.cells #[.string xk, .int .i64 xs, .int .i64 xg, .int .i64 xc] 33) = w2 := ⟨_, rfl⟩
    have HB2 : Hid (Below w.heap.size w w2) := by rw [← hw2]; exact HB1.out.alloc HB1.out.size _
    have HR2 : Hid (Bk w2 (w.heap.size + 1) 74 #[.string ⟨#[]⟩, .int .i64 0, .int .i64 0, .int .i64 0, .bool false, .int .i64 0]) := by rw [← hw2]; exact HR1.out.alloc _
    have HE2 : Hid (Bk w2 w1.heap.size 33 #[.string xk, .int .i64 xs, .int .i64 xg, .int .i64 xc]) := by rw [← hw2]; exact Bk.new _ _ _
    have q0 : w2.cell? ⟨w1.heap.size, 0, none⟩ = some (.string xk) := HE2.out.cell 0
    have q1 : w2.cell? ⟨w1.heap.size, 1, none⟩ = some (.int .i64 xs) := HE2.out.cell 1
    have q2 : w2.cell? ⟨w1.heap.size, 2, none⟩ = some (.int .i64 xg) := HE2.out.cell 2
    have q3 : w2.cell? ⟨w1.heap.size, 3, none⟩ = some (.int .i64 xc) := HE2.out.cell 3
    have b0 : w2.cell? ⟨w.heap.size + 1, 0, none⟩ = some (.string ⟨#[]⟩) := HR2.out.cell 0
    have bf0 : w2.frozen? ⟨w.heap.size + 1, 0, none⟩ = false := HR2.out.frozen 0
    have b1 : w2.cell? ⟨w.heap.size + 1, 1, none⟩ = some (.int .i64 0) := HR2.out.cell 1
    have bf1 : w2.frozen? ⟨w.heap.size + 1, 1, none⟩ = false := HR2.out.frozen 1
    have b2 : w2.cell? ⟨w.heap.size + 1, 2, none⟩ = some (.int .i64 0) := HR2.out.cell 2
    have bf2 : w2.frozen? ⟨w.heap.size + 1, 2, none⟩ = false := HR2.out.frozen 2
    have b3 : w2.cell? ⟨w.heap.size + 1, 3, none⟩ = some (.int .i64 0) := HR2.out.cell 3
    have bf3 : w2.frozen? ⟨w.heap.size + 1, 3, none⟩ = false := HR2.out.frozen 3
    have b4 : w2.cell? ⟨w.heap.size + 1, 4, none⟩ = some (.bool false) := HR2.out.cell 4
    have bf4 : w2.frozen? ⟨w.heap.size + 1, 4, none⟩ = false := HR2.out.frozen 4
    have b5 : w2.cell? ⟨w.heap.size + 1, 5, none⟩ = some (.int .i64 0) := HR2.out.cell 5
    have bf5 : w2.frozen? ⟨w.heap.size + 1, 5, none⟩ = false := HR2.out.frozen 5
    go_wp2
    clear q0 q1 q2 q3
    clear b0 bf0 b1 bf1 b2 bf2 b3 bf3 b4 bf4 b5 bf5
    have k1 := HR2.out.six (.string xk) (.int .i64 xs) (.int .i64 xg) (.int .i64 xc) (.bool true) (.int .i64 xc)
    have ht : Tn [w.heap.size + 1] w2 _ := (Tn.refl _ w2).six (R := w.heap.size + 1) (.inl (by simp)) (.string xk) (.int .i64 xs) (.int .i64 xg) (.int .i64 xc) (.bool true) (.int .i64 xc)
    refine bodyPost_ret (results_one (T' := 74) (cs := [.string xk, .int .i64 xs, .int .i64 xg, .int .i64 xc, .bool true, .int .i64 xc]) rfl rfl sp_agg sp_size rfl k1) rfl ?_
    rw [HF.out]
    exact ⟨.inl ⟨rfl, rfl⟩, HB2.out.trans (ht.below HB2.out.size (by simp))⟩

/-- A slice that is written where a slice lies leaves the entries as they lie. -/
theorem Ens.putSlice {w : World} {p : Option Addr} {l : List En} (h : Ens w p l) {R k : Nat} {a : Option Addr} {n c : Nat} (hc : w.cell? ⟨R, k, none⟩ = some (.slice a n c)) (v : Value) : Ens (w.setCell ⟨R, k, none⟩ v) p l := by
  intro hl
  obtain ⟨b, o, rfl, hh⟩ := h hl
  refine ⟨b, o, rfl, fun i g hi => ?_⟩
  obtain ⟨h0, h1, h2, h3⟩ := hh i g hi
  have key : ∀ (t : Nat) (u : Value), w.cell? ⟨b, t, none⟩ = some u → (∀ a n c, u ≠ .slice a n c) → (w.setCell ⟨R, k, none⟩ v).cell? ⟨b, t, none⟩ = some u := fun t u hu hn => by
    rw [World.cell?_setCell_other (h := fun e => by
      rw [e, hu] at hc
      exact hn _ _ _ (Option.some.inj hc))]
    exact hu
  exact ⟨key _ _ h0 (by simp), key _ _ h1 (by simp), key _ _ h2 (by simp), key _ _ h3 (by simp)⟩

/-- The entries among which a key of a leaf is looked for. -/
def Dl.among (g : Pp) (key : ByteArray) (ds : List De) (EL : List En) : List En := if Pg.may g.leaf ⟨g.lo, g.hi⟩ g.r g.l then Dl.say g.l key ds else EL

set_option maxHeartbeats 2000000 in
theorem inLeaf_any (pf : Bool) (plo phi : ByteArray) (pr : Int) (pp : Option Addr) (pn pc : Nat) (pl : List En) (key : ByteArray) (p : Option Addr) (len cap : Nat) (L : List Dm) (EL : List En) (w : World) (hlen : pl.length = pn) (hx : Ens w pp pl) (hl : pn ≤ 3518437208780) (hL : L.length = len) (hll : len ≤ 4398046511104) (hD : Des w p L)
    (hE : Pg.may pf ⟨plo, phi⟩ pr pl = false → ∀ W, Below w.heap.size w W → Calls Tryz.prog 120 #[pgv pf plo phi pr pp pn pc, .slice p len cap] W fun e w' => Led W EL e w') :
    Calls Tryz.prog 124 #[pgv pf plo phi pr pp pn pc, .string key, .slice p len cap] w fun e w' => e = .returned (fv (Pg.find true (Dl.among ⟨pf, plo, phi, pr, pl⟩ key (L.map (·.d)) EL) key)) ∧ Below w.heap.size w w' := by
  obtain ⟨lst, HO⟩ : ∃ lst, Hid (Dl.among ⟨pf, plo, phi, pr, pl⟩ key (L.map (·.d)) EL = lst) := ⟨_, rfl⟩
  rw [HO.out]
  obtain ⟨fo, HFO⟩ : ∃ fo, Hid (Pg.find true lst key = fo) := ⟨_, rfl⟩
  rw [HFO.out]
  have HX : Hid (Ens w pp pl) := hx
  have HN : Hid (pl.length = pn) := hlen
  have HL : Hid (L.length = len) := hL
  have HD : Hid (Des w p L) := hD
  have HE : Hid _ := hE
  clear hx hlen hL hD hE
  obtain ⟨w0, hw0⟩ : ∃ w0, ((w.alloc (.cells #[.bool pf, .string plo, .string phi, .int .i64 pr, .slice pp pn pc] 29)).alloc (.cells #[.string ⟨#[]⟩, .int .i64 0, .int .i64 0, .int .i64 0] 33)).alloc (.cells #[.bool true, .string ⟨#[]⟩, .string ⟨#[]⟩, .int .i64 0, .slice none 0 0] 29) = w0 := ⟨_, rfl⟩
  replace hw0 := hw0.symm
  have HB0 : Hid (Below w.heap.size w w0) := by rw [hw0]; exact (((Below.refl _ _).alloc (Nat.le_refl _) _).alloc (by simp) _).alloc (by simp; omega) _
  have HK0 : Hid (Bk w0 w.heap.size 29 #[.bool pf, .string plo, .string phi, .int .i64 pr, .slice pp pn pc]) := by rw [hw0]; exact ((Bk.new _ _ _).alloc _).alloc _
  have HR0 : Hid (Bk w0 (w.heap.size + 1) 33 #[.string ⟨#[]⟩, .int .i64 0, .int .i64 0, .int .i64 0]) := by rw [hw0]; exact (Bk.new1 _ _ _ _).alloc _
  have HP0 : Hid (Bk w0 (w.heap.size + 1 + 1) 29 #[.bool true, .string ⟨#[]⟩, .string ⟨#[]⟩, .int .i64 0, .slice none 0 0]) := by rw [hw0]; exact Bk.new2 _ _ _ _ _
  go_enter Tryz.func124, Tryz.ntmps124
  go_wp2_with fail
  rw [← hw0]
  clear hw0
  refine (check_any pf plo phi pr pp pn pc pl _ HN.out (HX.out.below HB0.out (Nat.le_refl _)) (by omega)).mono ?_
  have hcont : ∀ (K : Prop), True := fun _ => trivial
  cases hm : Pg.may pf ⟨plo, phi⟩ pr pl with
  | true =>
    have HF : Hid (Dl.say pl key (L.map (·.d)) = lst) := by rw [Hid, ← HO.out]; unfold Dl.among; simp only [hm, if_true]
    simp only [if_true]
    rintro e w1 ⟨rfl, hb1⟩
    have HB1 : Hid (Below w.heap.size w w1) := HB0.out.trans (hb1.mono HB0.out.size)
    have HK1 : Hid (Bk w1 w.heap.size 29 #[.bool pf, .string plo, .string phi, .int .i64 pr, .slice pp pn pc]) := HK0.out.below hb1 HK0.out.lt
    have HR1 : Hid (Bk w1 (w.heap.size + 1) 33 #[.string ⟨#[]⟩, .int .i64 0, .int .i64 0, .int .i64 0]) := HR0.out.below hb1 HR0.out.lt
    have HP1 : Hid (Bk w1 (w.heap.size + 1 + 1) 29 #[.bool true, .string ⟨#[]⟩, .string ⟨#[]⟩, .int .i64 0, .slice none 0 0]) := HP0.out.below hb1 HP0.out.lt
    clear hb1 hm
    have a0 : w1.cell? ⟨w.heap.size, 0, none⟩ = some (.bool pf) := HK1.out.cell 0
    have a1 : w1.cell? ⟨w.heap.size, 1, none⟩ = some (.string plo) := HK1.out.cell 1
    have a2 : w1.cell? ⟨w.heap.size, 2, none⟩ = some (.string phi) := HK1.out.cell 2
    have a3 : w1.cell? ⟨w.heap.size, 3, none⟩ = some (.int .i64 pr) := HK1.out.cell 3
    have a4 : w1.cell? ⟨w.heap.size, 4, none⟩ = some (.slice pp pn pc) := HK1.out.cell 4
    go_wp2_with fail
    refine (saying_any pf plo phi pr pp pn pc pl key p len cap L _ HN.out (HX.out.below HB1.out (Nat.le_refl _)) hl HL.out hll (HD.out.below HB1.out (Nat.le_refl _))).mono ?_
    rw [HF.out]
    rintro e w2 ⟨⟨q, m, c, rfl, hlm, hle, hmr⟩, hb2⟩
    clear a0 a1 a2 a3 a4
    have HB2 : Hid (Below w.heap.size w w2) := HB1.out.trans (hb2.mono HB1.out.size)
    have HR2 : Hid (Bk w2 (w.heap.size + 1) 33 #[.string ⟨#[]⟩, .int .i64 0, .int .i64 0, .int .i64 0]) := HR1.out.below hb2 HR1.out.lt
    have HP2 : Hid (Bk w2 (w.heap.size + 1 + 1) 29 #[.bool true, .string ⟨#[]⟩, .string ⟨#[]⟩, .int .i64 0, .slice none 0 0]) := HP1.out.below hb2 HP1.out.lt
    have HLM : Hid (lst.length = m) := hlm
    have HLE : Hid (Ens w2 q lst) := hle
    clear hb2 hlm hle
    have b0 : w2.cell? ⟨w.heap.size + 1 + 1, 0, none⟩ = some (.bool true) := HP2.out.cell 0
    have bf0 : w2.frozen? ⟨w.heap.size + 1 + 1, 0, none⟩ = false := HP2.out.frozen 0
    have b1 : w2.cell? ⟨w.heap.size + 1 + 1, 1, none⟩ = some (.string ⟨#[]⟩) := HP2.out.cell 1
    have bf1 : w2.frozen? ⟨w.heap.size + 1 + 1, 1, none⟩ = false := HP2.out.frozen 1
    have b2 : w2.cell? ⟨w.heap.size + 1 + 1, 2, none⟩ = some (.string ⟨#[]⟩) := HP2.out.cell 2
    have bf2 : w2.frozen? ⟨w.heap.size + 1 + 1, 2, none⟩ = false := HP2.out.frozen 2
    have b3 : w2.cell? ⟨w.heap.size + 1 + 1, 3, none⟩ = some (.int .i64 0) := HP2.out.cell 3
    have bf3 : w2.frozen? ⟨w.heap.size + 1 + 1, 3, none⟩ = false := HP2.out.frozen 3
    have b4 : w2.cell? ⟨w.heap.size + 1 + 1, 4, none⟩ = some (.slice none 0 0) := HP2.out.cell 4
    have bf4 : w2.frozen? ⟨w.heap.size + 1 + 1, 4, none⟩ = false := HP2.out.frozen 4
    obtain ⟨w3, hw3⟩ : ∃ w3, w2.setCell ⟨w.heap.size + 1 + 1, 4, none⟩ (.slice q m c) = w3 := ⟨_, rfl⟩
    have ht3 : Tn [w.heap.size + 1 + 1] w2 w3 := by rw [← hw3]; exact (Tn.refl _ w2).setCell (.inl (by simp)) _
    have HP3 : Hid (Bk w3 (w.heap.size + 1 + 1) 29 #[.bool true, .string ⟨#[]⟩, .string ⟨#[]⟩, .int .i64 0, .slice q m c]) := by rw [← hw3]; exact HP2.out.set 4 _
    have HR3 : Hid (Bk w3 (w.heap.size + 1) 33 #[.string ⟨#[]⟩, .int .i64 0, .int .i64 0, .int .i64 0]) := HR2.out.tn ht3 (by simp; try omega)
    have HB3 : Hid (Below w.heap.size w w3) := HB2.out.trans (ht3.below HB2.out.size (by simp; omega))
    have HL3 : Hid (Ens w3 q lst) := by rw [← hw3]; exact HLE.out.putSlice b4 _
    have d0 : w3.cell? ⟨w.heap.size + 1 + 1, 0, none⟩ = some (.bool true) := HP3.out.cell 0
    have d1 : w3.cell? ⟨w.heap.size + 1 + 1, 1, none⟩ = some (.string ⟨#[]⟩) := HP3.out.cell 1
    have d2 : w3.cell? ⟨w.heap.size + 1 + 1, 2, none⟩ = some (.string ⟨#[]⟩) := HP3.out.cell 2
    have d3 : w3.cell? ⟨w.heap.size + 1 + 1, 3, none⟩ = some (.int .i64 0) := HP3.out.cell 3
    have d4 : w3.cell? ⟨w.heap.size + 1 + 1, 4, none⟩ = some (.slice q m c) := HP3.out.cell 4
    go_wp2_with fail
    clear hw3
    clear b0 bf0 b1 bf1 b2 bf2 b3 bf3 b4 bf4
    clear d0 d1 d2 d3 d4
    refine (find_any true ⟨#[]⟩ ⟨#[]⟩ 0 q m c lst key _ HLM.out HL3.out (by omega)).mono ?_
    rintro e w4 ⟨⟨fo', rfl, hfn⟩, hb4⟩
    obtain rfl : fo' = fo := (hfn.1 rfl).trans HFO.out
    have HB4 : Hid (Below w.heap.size w w4) := HB3.out.trans (hb4.mono HB3.out.size)
    have HR4 : Hid (Bk w4 (w.heap.size + 1) 33 #[.string ⟨#[]⟩, .int .i64 0, .int .i64 0, .int .i64 0]) := HR3.out.below hb4 HR3.out.lt
    clear hfn hb4
    have b0 : w4.cell? ⟨w.heap.size + 1, 0, none⟩ = some (.string ⟨#[]⟩) := HR4.out.cell 0
    have bf0 : w4.frozen? ⟨w.heap.size + 1, 0, none⟩ = false := HR4.out.frozen 0
    have b1 : w4.cell? ⟨w.heap.size + 1, 1, none⟩ = some (.int .i64 0) := HR4.out.cell 1
    have bf1 : w4.frozen? ⟨w.heap.size + 1, 1, none⟩ = false := HR4.out.frozen 1
    have b2 : w4.cell? ⟨w.heap.size + 1, 2, none⟩ = some (.int .i64 0) := HR4.out.cell 2
    have bf2 : w4.frozen? ⟨w.heap.size + 1, 2, none⟩ = false := HR4.out.frozen 2
    have b3 : w4.cell? ⟨w.heap.size + 1, 3, none⟩ = some (.int .i64 0) := HR4.out.cell 3
    have bf3 : w4.frozen? ⟨w.heap.size + 1, 3, none⟩ = false := HR4.out.frozen 3
    cases fo' with
    | none =>
      unfold fv
      simp only
      go_wp2
      clear b0 bf0 b1 bf1 b2 bf2 b3 bf3
      have k1 := HR4.out.four (.string ⟨#[]⟩) (.int .i64 0) (.int .i64 0) (.int .i64 0)
      have ht : Tn [w.heap.size + 1] w4 _ := (Tn.refl _ w4).four (R := w.heap.size + 1) (.inl (by simp)) (.string ⟨#[]⟩) (.int .i64 0) (.int .i64 0) (.int .i64 0)
      refine bodyPost_ret (results_two (T' := 33) (cs := [.string ⟨#[]⟩, .int .i64 0, .int .i64 0, .int .i64 0]) rfl rfl en_agg en_size rfl k1) rfl ?_
      exact ⟨rfl, HB4.out.trans (ht.below HB4.out.size (by simp))⟩
    | some x =>
      obtain ⟨xk, xs, xg, xc⟩ := x
      unfold fv
      simp only
      go_wp2
      clear b0 bf0 b1 bf1 b2 bf2 b3 bf3
      have k1 := HR4.out.four (.string xk) (.int .i64 xs) (.int .i64 xg) (.int .i64 xc)
      have ht : Tn [w.heap.size + 1] w4 _ := (Tn.refl _ w4).four (R := w.heap.size + 1) (.inl (by simp)) (.string xk) (.int .i64 xs) (.int .i64 xg) (.int .i64 xc)
      refine bodyPost_ret (results_two (T' := 33) (cs := [.string xk, .int .i64 xs, .int .i64 xg, .int .i64 xc]) rfl rfl en_agg en_size rfl k1) rfl ?_
      exact ⟨rfl, HB4.out.trans (ht.below HB4.out.size (by simp))⟩
  | false =>
    have HF : Hid (EL = lst) := by rw [Hid, ← HO.out]; unfold Dl.among; simp only [hm]; rfl
    have hE2 := HE.out hm
    rw [HF.out] at hE2
    have HE2 : Hid _ := hE2
    clear hE2
    simp only [Bool.false_eq_true, if_false]
    rintro e w1 ⟨rfl, hb1⟩
    have HB1 : Hid (Below w.heap.size w w1) := HB0.out.trans (hb1.mono HB0.out.size)
    have HK1 : Hid (Bk w1 w.heap.size 29 #[.bool pf, .string plo, .string phi, .int .i64 pr, .slice pp pn pc]) := HK0.out.below hb1 HK0.out.lt
    have HR1 : Hid (Bk w1 (w.heap.size + 1) 33 #[.string ⟨#[]⟩, .int .i64 0, .int .i64 0, .int .i64 0]) := HR0.out.below hb1 HR0.out.lt
    have HP1 : Hid (Bk w1 (w.heap.size + 1 + 1) 29 #[.bool true, .string ⟨#[]⟩, .string ⟨#[]⟩, .int .i64 0, .slice none 0 0]) := HP0.out.below hb1 HP0.out.lt
    clear hb1 hm
    have a0 : w1.cell? ⟨w.heap.size, 0, none⟩ = some (.bool pf) := HK1.out.cell 0
    have a1 : w1.cell? ⟨w.heap.size, 1, none⟩ = some (.string plo) := HK1.out.cell 1
    have a2 : w1.cell? ⟨w.heap.size, 2, none⟩ = some (.string phi) := HK1.out.cell 2
    have a3 : w1.cell? ⟨w.heap.size, 3, none⟩ = some (.int .i64 pr) := HK1.out.cell 3
    have a4 : w1.cell? ⟨w.heap.size, 4, none⟩ = some (.slice pp pn pc) := HK1.out.cell 4
    go_wp2_with fail
    refine (HE2.out _ HB1.out).mono ?_
    rintro e w2 ⟨⟨q, m, c, rfl, hlm, hle, hmr⟩, hb2⟩
    clear a0 a1 a2 a3 a4
    have HB2 : Hid (Below w.heap.size w w2) := HB1.out.trans (hb2.mono HB1.out.size)
    have HR2 : Hid (Bk w2 (w.heap.size + 1) 33 #[.string ⟨#[]⟩, .int .i64 0, .int .i64 0, .int .i64 0]) := HR1.out.below hb2 HR1.out.lt
    have HP2 : Hid (Bk w2 (w.heap.size + 1 + 1) 29 #[.bool true, .string ⟨#[]⟩, .string ⟨#[]⟩, .int .i64 0, .slice none 0 0]) := HP1.out.below hb2 HP1.out.lt
    have HLM : Hid (lst.length = m) := hlm
    have HLE : Hid (Ens w2 q lst) := hle
    clear hb2 hlm hle
    have b0 : w2.cell? ⟨w.heap.size + 1 + 1, 0, none⟩ = some (.bool true) := HP2.out.cell 0
    have bf0 : w2.frozen? ⟨w.heap.size + 1 + 1, 0, none⟩ = false := HP2.out.frozen 0
    have b1 : w2.cell? ⟨w.heap.size + 1 + 1, 1, none⟩ = some (.string ⟨#[]⟩) := HP2.out.cell 1
    have bf1 : w2.frozen? ⟨w.heap.size + 1 + 1, 1, none⟩ = false := HP2.out.frozen 1
    have b2 : w2.cell? ⟨w.heap.size + 1 + 1, 2, none⟩ = some (.string ⟨#[]⟩) := HP2.out.cell 2
    have bf2 : w2.frozen? ⟨w.heap.size + 1 + 1, 2, none⟩ = false := HP2.out.frozen 2
    have b3 : w2.cell? ⟨w.heap.size + 1 + 1, 3, none⟩ = some (.int .i64 0) := HP2.out.cell 3
    have bf3 : w2.frozen? ⟨w.heap.size + 1 + 1, 3, none⟩ = false := HP2.out.frozen 3
    have b4 : w2.cell? ⟨w.heap.size + 1 + 1, 4, none⟩ = some (.slice none 0 0) := HP2.out.cell 4
    have bf4 : w2.frozen? ⟨w.heap.size + 1 + 1, 4, none⟩ = false := HP2.out.frozen 4
    obtain ⟨w3, hw3⟩ : ∃ w3, w2.setCell ⟨w.heap.size + 1 + 1, 4, none⟩ (.slice q m c) = w3 := ⟨_, rfl⟩
    have ht3 : Tn [w.heap.size + 1 + 1] w2 w3 := by rw [← hw3]; exact (Tn.refl _ w2).setCell (.inl (by simp)) _
    have HP3 : Hid (Bk w3 (w.heap.size + 1 + 1) 29 #[.bool true, .string ⟨#[]⟩, .string ⟨#[]⟩, .int .i64 0, .slice q m c]) := by rw [← hw3]; exact HP2.out.set 4 _
    have HR3 : Hid (Bk w3 (w.heap.size + 1) 33 #[.string ⟨#[]⟩, .int .i64 0, .int .i64 0, .int .i64 0]) := HR2.out.tn ht3 (by simp; try omega)
    have HB3 : Hid (Below w.heap.size w w3) := HB2.out.trans (ht3.below HB2.out.size (by simp; omega))
    have HL3 : Hid (Ens w3 q lst) := by rw [← hw3]; exact HLE.out.putSlice b4 _
    have d0 : w3.cell? ⟨w.heap.size + 1 + 1, 0, none⟩ = some (.bool true) := HP3.out.cell 0
    have d1 : w3.cell? ⟨w.heap.size + 1 + 1, 1, none⟩ = some (.string ⟨#[]⟩) := HP3.out.cell 1
    have d2 : w3.cell? ⟨w.heap.size + 1 + 1, 2, none⟩ = some (.string ⟨#[]⟩) := HP3.out.cell 2
    have d3 : w3.cell? ⟨w.heap.size + 1 + 1, 3, none⟩ = some (.int .i64 0) := HP3.out.cell 3
    have d4 : w3.cell? ⟨w.heap.size + 1 + 1, 4, none⟩ = some (.slice q m c) := HP3.out.cell 4
    go_wp2_with fail
    clear hw3
    clear b0 bf0 b1 bf1 b2 bf2 b3 bf3 b4 bf4
    clear d0 d1 d2 d3 d4
    refine (find_any true ⟨#[]⟩ ⟨#[]⟩ 0 q m c lst key _ HLM.out HL3.out (by omega)).mono ?_
    rintro e w4 ⟨⟨fo', rfl, hfn⟩, hb4⟩
    obtain rfl : fo' = fo := (hfn.1 rfl).trans HFO.out
    have HB4 : Hid (Below w.heap.size w w4) := HB3.out.trans (hb4.mono HB3.out.size)
    have HR4 : Hid (Bk w4 (w.heap.size + 1) 33 #[.string ⟨#[]⟩, .int .i64 0, .int .i64 0, .int .i64 0]) := HR3.out.below hb4 HR3.out.lt
    clear hfn hb4
    have b0 : w4.cell? ⟨w.heap.size + 1, 0, none⟩ = some (.string ⟨#[]⟩) := HR4.out.cell 0
    have bf0 : w4.frozen? ⟨w.heap.size + 1, 0, none⟩ = false := HR4.out.frozen 0
    have b1 : w4.cell? ⟨w.heap.size + 1, 1, none⟩ = some (.int .i64 0) := HR4.out.cell 1
    have bf1 : w4.frozen? ⟨w.heap.size + 1, 1, none⟩ = false := HR4.out.frozen 1
    have b2 : w4.cell? ⟨w.heap.size + 1, 2, none⟩ = some (.int .i64 0) := HR4.out.cell 2
    have bf2 : w4.frozen? ⟨w.heap.size + 1, 2, none⟩ = false := HR4.out.frozen 2
    have b3 : w4.cell? ⟨w.heap.size + 1, 3, none⟩ = some (.int .i64 0) := HR4.out.cell 3
    have bf3 : w4.frozen? ⟨w.heap.size + 1, 3, none⟩ = false := HR4.out.frozen 3
    cases fo' with
    | none =>
      unfold fv
      simp only
      go_wp2
      clear b0 bf0 b1 bf1 b2 bf2 b3 bf3
      have k1 := HR4.out.four (.string ⟨#[]⟩) (.int .i64 0) (.int .i64 0) (.int .i64 0)
      have ht : Tn [w.heap.size + 1] w4 _ := (Tn.refl _ w4).four (R := w.heap.size + 1) (.inl (by simp)) (.string ⟨#[]⟩) (.int .i64 0) (.int .i64 0) (.int .i64 0)
      refine bodyPost_ret (results_two (T' := 33) (cs := [.string ⟨#[]⟩, .int .i64 0, .int .i64 0, .int .i64 0]) rfl rfl en_agg en_size rfl k1) rfl ?_
      exact ⟨rfl, HB4.out.trans (ht.below HB4.out.size (by simp))⟩
    | some x =>
      obtain ⟨xk, xs, xg, xc⟩ := x
      unfold fv
      simp only
      go_wp2
      clear b0 bf0 b1 bf1 b2 bf2 b3 bf3
      have k1 := HR4.out.four (.string xk) (.int .i64 xs) (.int .i64 xg) (.int .i64 xc)
      have ht : Tn [w.heap.size + 1] w4 _ := (Tn.refl _ w4).four (R := w.heap.size + 1) (.inl (by simp)) (.string xk) (.int .i64 xs) (.int .i64 xg) (.int .i64 xc)
      refine bodyPost_ret (results_two (T' := 33) (cs := [.string xk, .int .i64 xs, .int .i64 xg, .int .i64 xc]) rfl rfl en_agg en_size rfl k1) rfl ?_
      exact ⟨rfl, HB4.out.trans (ht.below HB4.out.size (by simp))⟩

end Go.Proofs.YtmfkiiedmclafaaGreat

namespace Go.Proofs.YtmfkiiedmclafaaGreat
open Go.RowKit Go.Sort
set_option linter.unusedVariables false
set_option maxRecDepth 100000

/-- Where a page is that the newest delta says is gone. -/
def Dl.gone : List De → Option Int
  | [] => none
  | d :: _ => if (d.k == 5) && Dl.may d then some d.pg else none

/-- What the folded page says of a key: o is its outline, EL its entries. -/
def Dl.says (g : Pp) (key : ByteArray) (ds : List De) (EL : List En) (o : Pp × Int) : Sp × Int :=
  if o.2 ≠ 0 then (Sp.zero, o.2)
  else if Ky.inn ⟨o.1.lo, o.1.hi⟩ key = false then (if (Ky.lt key o.1.lo || o.1.r == 0) = true then (Sp.zero, 73) else (⟨En.zero, false, o.1.r⟩, 0))
  else if o.1.leaf = false then Dl.hitI (Pg.fnd false EL key)
  else Dl.hitL (Pg.find true (Dl.among g key ds EL) key)

def Dl.look (g : Pp) (key : ByteArray) (ds : List De) (EL : List En) : Sp × Int :=
  match Dl.gone ds with
  | some n => (⟨En.zero, false, n⟩, 0)
  | none => Dl.says g key ds EL (Dl.outl g ds.reverse)

theorem Led.own {w W : World} {l : List En} {e : Ending} {w' : World} (h : Led W l e w') (hb : Below w.heap.size w W) : Led w l e w' := ⟨h.1, hb.trans (h.2.mono hb.size)⟩

/-- The part behind the outline. -/
structure Lk (w W : World) (pf : Bool) (plo phi : ByteArray) (pr : Int) (pp : Option Addr) (pn pc : Nat) : Prop where
  below : Below w.heap.size w W
  b0 : Bk W w.heap.size 29 #[.bool pf, .string plo, .string phi, .int .i64 pr, .slice pp pn pc]
  b1 : Bk W (w.heap.size + 1) 74 #[.string ⟨#[]⟩, .int .i64 0, .int .i64 0, .int .i64 0, .bool false, .int .i64 0]

theorem Lk.on {w W W' : World} {pf : Bool} {plo phi : ByteArray} {pr : Int} {pp : Option Addr} {pn pc : Nat} (h : Lk w W pf plo phi pr pp pn pc) (hb : Below W.heap.size W W') : Lk w W' pf plo phi pr pp pn pc :=
  ⟨h.below.trans (hb.mono h.below.size), h.b0.below hb h.b0.lt, h.b1.below hb h.b1.lt⟩

set_option maxHeartbeats 8000000 in
theorem looked_any (pf : Bool) (plo phi : ByteArray) (pr : Int) (pp : Option Addr) (pn pc : Nat) (pl : List En) (key : ByteArray) (p : Option Addr) (len cap : Nat) (L : List Dm) (EL : List En) (w : World) (hlen : pl.length = pn) (hx : Ens w pp pl) (hl : pn ≤ 3518437208780) (hL : L.length = len) (hll : len ≤ 4398046511104) (hD : Des w p L)
    (hE : (Dl.outl ⟨pf, plo, phi, pr, pl⟩ (L.map (·.d)).reverse).2 = 0 → ((Dl.outl ⟨pf, plo, phi, pr, pl⟩ (L.map (·.d)).reverse).1.leaf = false ∨ Pg.may pf ⟨plo, phi⟩ pr pl = false) → ∀ W, Below w.heap.size w W → Calls Tryz.prog 120 #[pgv pf plo phi pr pp pn pc, .slice p len cap] W fun e w' => Led W EL e w') :
    Calls Tryz.prog 104 #[pgv pf plo phi pr pp pn pc, .string key, .slice p len cap] w fun e w' => DoneS w (Dl.look ⟨pf, plo, phi, pr, pl⟩ key (L.map (·.d)) EL) e w' := by
  obtain ⟨out, HO⟩ : ∃ out, Hid (Dl.look ⟨pf, plo, phi, pr, pl⟩ key (L.map (·.d)) EL = out) := ⟨_, rfl⟩
  rw [HO.out]
  have HX : Hid (Ens w pp pl) := hx
  have HN : Hid (pl.length = pn) := hlen
  have HL : Hid (L.length = len) := hL
  have HD : Hid (Des w p L) := hD
  have HE : Hid _ := hE
  clear hx hlen hL hD hE
  obtain ⟨w0, hw0⟩ : ∃ w0, (w.alloc (.cells #[.bool pf, .string plo, .string phi, .int .i64 pr, .slice pp pn pc] 29)).alloc (.cells #[.string ⟨#[]⟩, .int .i64 0, .int .i64 0, .int .i64 0, .bool false, .int .i64 0] 74) = w0 := ⟨_, rfl⟩
  have HK0 : Hid (Lk w w0 pf plo phi pr pp pn pc) := by rw [← hw0]; exact ⟨((Below.refl _ _).alloc (Nat.le_refl _) _).alloc (by simp) _, (Bk.new _ _ _).alloc _, Bk.new1 _ _ _ _⟩
  -- what is behind the first test, where it is not met
  have HREST : Hid (∀ (W : World) (Q : Exit → Act → World → Prop) (u : Nat → Value) (a : Act), True) := fun _ _ _ _ => trivial
  clear HREST
  go_enter Tryz.func104, Tryz.ntmps104
  have a0 : w0.cell? ⟨w.heap.size, 0, none⟩ = some (.bool pf) := HK0.out.b0.cell 0
  have a1 : w0.cell? ⟨w.heap.size, 1, none⟩ = some (.string plo) := HK0.out.b0.cell 1
  have a2 : w0.cell? ⟨w.heap.size, 2, none⟩ = some (.string phi) := HK0.out.b0.cell 2
  have a3 : w0.cell? ⟨w.heap.size, 3, none⟩ = some (.int .i64 pr) := HK0.out.b0.cell 3
  have a4 : w0.cell? ⟨w.heap.size, 4, none⟩ = some (.slice pp pn pc) := HK0.out.b0.cell 4
  have b0 : w0.cell? ⟨w.heap.size + 1, 0, none⟩ = some (.string ⟨#[]⟩) := HK0.out.b1.cell 0
  have bf0 : w0.frozen? ⟨w.heap.size + 1, 0, none⟩ = false := HK0.out.b1.frozen 0
  have b1 : w0.cell? ⟨w.heap.size + 1, 1, none⟩ = some (.int .i64 0) := HK0.out.b1.cell 1
  have bf1 : w0.frozen? ⟨w.heap.size + 1, 1, none⟩ = false := HK0.out.b1.frozen 1
  have b2 : w0.cell? ⟨w.heap.size + 1, 2, none⟩ = some (.int .i64 0) := HK0.out.b1.cell 2
  have bf2 : w0.frozen? ⟨w.heap.size + 1, 2, none⟩ = false := HK0.out.b1.frozen 2
  have b3 : w0.cell? ⟨w.heap.size + 1, 3, none⟩ = some (.int .i64 0) := HK0.out.b1.cell 3
  have bf3 : w0.frozen? ⟨w.heap.size + 1, 3, none⟩ = false := HK0.out.b1.frozen 3
  have b4 : w0.cell? ⟨w.heap.size + 1, 4, none⟩ = some (.bool false) := HK0.out.b1.cell 4
  have bf4 : w0.frozen? ⟨w.heap.size + 1, 4, none⟩ = false := HK0.out.b1.frozen 4
  have b5 : w0.cell? ⟨w.heap.size + 1, 5, none⟩ = some (.int .i64 0) := HK0.out.b1.cell 5
  have bf5 : w0.frozen? ⟨w.heap.size + 1, 5, none⟩ = false := HK0.out.b1.frozen 5
  cases hg : Dl.gone (L.map (·.d)) with
  | some n =>
    have HF : Hid (out = (⟨En.zero, false, n⟩, 0)) := by rw [Hid, ← HO.out]; unfold Dl.look; rw [hg]
    clear HO HE
    cases L with
    | nil => simp [Dl.gone] at hg
    | cons m r =>
      obtain ⟨b, o, rfl, hc⟩ := HD.out.below HK0.out.below (Nat.le_refl _) (by simp)
      obtain ⟨hcx, hOk⟩ := hc 0 m rfl
      simp only [List.map_cons, Dl.gone] at hg
      cases h5 : ((m.d.k == 5) && Dl.may m.d) with
      | false => rw [h5] at hg; simp at hg
      | true =>
        rw [h5] at hg
        simp only [if_true, Option.some.injEq] at hg
        rw [Bool.and_eq_true] at h5
        obtain ⟨h5, hmay⟩ := h5
        have h5' : m.d.k = 5 := by simpa using h5
        obtain ⟨⟨dk, ⟨dek, des, deg, dec⟩, dkey, dpg, ⟨dleaf, dlo, dhi, dr, dl⟩⟩, dp, dn, dc⟩ := m
        simp only at h5' hg
        subst h5' hg
        have hlen1 : (0 : Int) < (len : Int) := by have := HL.out; simp at this; omega
        have hlen2 : decide ((len : Int) > 0) = true := decide_eq_true hlen1
        have hlen3 : 0 < len := by omega
        have z0 := hcx 0 _ rfl
        have z1 := hcx 1 _ rfl
        have z2 := hcx 2 _ rfl
        have z3 := hcx 3 _ rfl
        have z4 := hcx 4 _ rfl
        have z5 := hcx 5 _ rfl
        have z6 := hcx 6 _ rfl
        have z7 := hcx 7 _ rfl
        have z8 := hcx 8 _ rfl
        have z9 := hcx 9 _ rfl
        have z10 := hcx 10 _ rfl
        have z11 := hcx 11 _ rfl
        simp only [Nat.zero_mul, Nat.add_zero] at z0 z1 z2 z3 z4 z5 z6 z7 z8 z9 z10 z11
        have HOK : Hid (Dm.Ok w0 ⟨⟨5, ⟨dek, des, deg, dec⟩, dkey, dpg, ⟨dleaf, dlo, dhi, dr, dl⟩⟩, dp, dn, dc⟩) := hOk
        have HM : Hid (Dl.may ⟨5, ⟨dek, des, deg, dec⟩, dkey, dpg, ⟨dleaf, dlo, dhi, dr, dl⟩⟩ = true) := hmay
        clear hcx hc hOk hmay
        have hz0 : w0.cell? ⟨b, o, none⟩ = some (.int .i64 5) := z0
        go_wp2_with fail
        refine (dcheck_any ⟨5, ⟨dek, des, deg, dec⟩, dkey, dpg, ⟨dleaf, dlo, dhi, dr, dl⟩⟩ dp dn dc _ HOK.out.len HOK.out.ens (by have := HOK.out.room; simp only at this; omega)).mono ?_
        rw [HM.out]
        rintro e w1 ⟨rfl, hb1⟩
        have HK1 : Hid (Lk w w1 pf plo phi pr pp pn pc) := HK0.out.on hb1
        have hz6 : w1.cell? ⟨b, o + 6, none⟩ = some (.int .i64 dpg) := by rw [hb1.cell (World.block_lt_of_cell? w0 _ z6)]; exact z6
        clear a0 a1 a2 a3 a4
        clear b0 bf0 b1 bf1 b2 bf2 b3 bf3 b4 bf4 b5 bf5
        clear hb1 hz0 z0 z1 z2 z3 z4 z5 z6 z7 z8 z9 z10 z11 hw0
        simp only [if_true]
        have b0 : w1.cell? ⟨w.heap.size + 1, 0, none⟩ = some (.string ⟨#[]⟩) := HK1.out.b1.cell 0
        have bf0 : w1.frozen? ⟨w.heap.size + 1, 0, none⟩ = false := HK1.out.b1.frozen 0
        have b1 : w1.cell? ⟨w.heap.size + 1, 1, none⟩ = some (.int .i64 0) := HK1.out.b1.cell 1
        have bf1 : w1.frozen? ⟨w.heap.size + 1, 1, none⟩ = false := HK1.out.b1.frozen 1
        have b2 : w1.cell? ⟨w.heap.size + 1, 2, none⟩ = some (.int .i64 0) := HK1.out.b1.cell 2
        have bf2 : w1.frozen? ⟨w.heap.size + 1, 2, none⟩ = false := HK1.out.b1.frozen 2
        have b3 : w1.cell? ⟨w.heap.size + 1, 3, none⟩ = some (.int .i64 0) := HK1.out.b1.cell 3
        have bf3 : w1.frozen? ⟨w.heap.size + 1, 3, none⟩ = false := HK1.out.b1.frozen 3
        have b4 : w1.cell? ⟨w.heap.size + 1, 4, none⟩ = some (.bool false) := HK1.out.b1.cell 4
        have bf4 : w1.frozen? ⟨w.heap.size + 1, 4, none⟩ = false := HK1.out.b1.frozen 4
        have b5 : w1.cell? ⟨w.heap.size + 1, 5, none⟩ = some (.int .i64 0) := HK1.out.b1.cell 5
        have bf5 : w1.frozen? ⟨w.heap.size + 1, 5, none⟩ = false := HK1.out.b1.frozen 5
        go_wp2
        clear b0 bf0 b1 bf1 b2 bf2 b3 bf3 b4 bf4 b5 bf5
        have k1 := HK1.out.b1.six (.string ⟨#[]⟩) (.int .i64 0) (.int .i64 0) (.int .i64 0) (.bool false) (.int .i64 dpg)
        have ht : Tn [w.heap.size + 1] w1 _ := (Tn.refl _ w1).six (R := w.heap.size + 1) (.inl (by simp)) (.string ⟨#[]⟩) (.int .i64 0) (.int .i64 0) (.int .i64 0) (.bool false) (.int .i64 dpg)
        refine bodyPost_ret (results_one (T' := 74) (cs := [.string ⟨#[]⟩, .int .i64 0, .int .i64 0, .int .i64 0, .bool false, .int .i64 dpg]) rfl rfl sp_agg sp_size rfl k1) rfl ?_
        rw [HF.out]
        exact ⟨.inl ⟨rfl, rfl⟩, HK1.out.below.trans (ht.below HK1.out.below.size (by simp))⟩
  | none =>
    have HSAY : Hid (Dl.says ⟨pf, plo, phi, pr, pl⟩ key (L.map (·.d)) EL (Dl.outl ⟨pf, plo, phi, pr, pl⟩ (L.map (·.d)).reverse) = out) := by rw [Hid, ← HO.out]; unfold Dl.look; rw [hg]
    clear HO
    by_cases hz : len = 0
    · have hlen1 : ¬ (len : Int) > 0 := by omega
      have hlen2 : decide ((len : Int) > 0) = false := decide_eq_false hlen1
      have hlen3 : decide ((0 : Int) < (len : Int)) = false := decide_eq_false (by omega)
      have hlen4 : ¬ 0 < len := by omega
      have HZ : Hid (len = 0) := hz
      clear hz
      go_wp2_with fail
      clear hw0
      clear a0 a1 a2 a3 a4
      clear b0 bf0 b1 bf1 b2 bf2 b3 bf3 b4 bf4 b5 bf5
      refine (outline_any ⟨pf, plo, phi, pr, pl⟩ pp pn pc p len cap L _ HL.out hll (HD.out.below HK0.out.below (Nat.le_refl _))).mono ?_
      have HS : Hid (Dl.says ⟨pf, plo, phi, pr, pl⟩ key (L.map (·.d)) EL (Dl.outl ⟨pf, plo, phi, pr, pl⟩ (L.map (·.d)).reverse) = out) := HSAY.out
      have HE1 : Hid _ := HE.out
      obtain ⟨⟨⟨qf, qlo, qhi, qr, ql⟩, kk⟩, hO⟩ : ∃ o, Dl.outl ⟨pf, plo, phi, pr, pl⟩ (L.map (·.d)).reverse = o := ⟨_, rfl⟩
      rw [hO] at HS HE1
      rw [hO]
      rintro e w2 ⟨hd, hb2⟩
      have HK2 : Hid (Lk w w2 pf plo phi pr pp pn pc) := HK0.out.on hb2
      clear hb2 hO
      simp only at hd
      rcases hd with ⟨h0, rfl⟩ | ⟨h0, rfl⟩
      · subst h0
        obtain ⟨w3, hw3⟩ : ∃ w3, w3 = w2.alloc (.cells #[.bool qf, .string qlo, .string qhi, .int .i64 qr, .slice none 0 0] 29) := ⟨_, rfl⟩
        have HK3 : Hid (Lk w w3 pf plo phi pr pp pn pc) := by rw [hw3]; exact HK2.out.on ((Below.refl _ _).alloc (Nat.le_refl _) _)
        have HP3 : Hid (Bk w3 w2.heap.size 29 #[.bool qf, .string qlo, .string qhi, .int .i64 qr, .slice none 0 0]) := by rw [hw3]; exact Bk.new _ _ _
        have HPW : Hid (w.heap.size + 1 < w2.heap.size) := HK2.out.b1.lt
        go_wp2_with fail
        rw [← hw3]
        clear hw3
        refine (has_any qf qlo qhi qr none 0 0 _ key).mono ?_
        cases hin : Ky.inn ⟨qlo, qhi⟩ key with
        | false =>
          have HS2 : Hid ((if (Ky.lt key qlo || qr == 0) = true then (Sp.zero, 73) else (⟨En.zero, false, qr⟩, 0)) = out) := by rw [Hid, ← HS.out]; unfold Dl.says; simp only [hin]; rfl
          rintro e w4 ⟨rfl, hb4⟩
          have HK4 : Hid (Lk w w4 pf plo phi pr pp pn pc) := HK3.out.on hb4
          have HP4 : Hid (Bk w4 w2.heap.size 29 #[.bool qf, .string qlo, .string qhi, .int .i64 qr, .slice none 0 0]) := HP3.out.below hb4 HP3.out.lt
          clear hb4 hin
          have q0 : w4.cell? ⟨w2.heap.size, 0, none⟩ = some (.bool qf) := HP4.out.cell 0
          have q1 : w4.cell? ⟨w2.heap.size, 1, none⟩ = some (.string qlo) := HP4.out.cell 1
          have q2 : w4.cell? ⟨w2.heap.size, 2, none⟩ = some (.string qhi) := HP4.out.cell 2
          have q3 : w4.cell? ⟨w2.heap.size, 3, none⟩ = some (.int .i64 qr) := HP4.out.cell 3
          have q4 : w4.cell? ⟨w2.heap.size, 4, none⟩ = some (.slice none 0 0) := HP4.out.cell 4
          go_wp2_with fail
          clear q0 q1 q2 q3 q4
          refine (beside_any qf qlo qhi qr none 0 0 key _).mono ?_
          rintro e w5 ⟨hbs, hb5⟩
          have HK5 : Hid (Lk w w5 pf plo phi pr pp pn pc) := HK4.out.on hb5
          clear hb5
          rcases hbs with ⟨hc, rfl⟩ | ⟨hc, rfl⟩
          · have HF : Hid (out = (⟨En.zero, false, qr⟩, 0)) := by rw [Hid, ← HS2.out, hc]; rfl
            clear hc
            have b0 : w5.cell? ⟨w.heap.size + 1, 0, none⟩ = some (.string ⟨#[]⟩) := HK5.out.b1.cell 0
            have bf0 : w5.frozen? ⟨w.heap.size + 1, 0, none⟩ = false := HK5.out.b1.frozen 0
            have b1 : w5.cell? ⟨w.heap.size + 1, 1, none⟩ = some (.int .i64 0) := HK5.out.b1.cell 1
            have bf1 : w5.frozen? ⟨w.heap.size + 1, 1, none⟩ = false := HK5.out.b1.frozen 1
            have b2 : w5.cell? ⟨w.heap.size + 1, 2, none⟩ = some (.int .i64 0) := HK5.out.b1.cell 2
            have bf2 : w5.frozen? ⟨w.heap.size + 1, 2, none⟩ = false := HK5.out.b1.frozen 2
            have b3 : w5.cell? ⟨w.heap.size + 1, 3, none⟩ = some (.int .i64 0) := HK5.out.b1.cell 3
            have bf3 : w5.frozen? ⟨w.heap.size + 1, 3, none⟩ = false := HK5.out.b1.frozen 3
            have b4 : w5.cell? ⟨w.heap.size + 1, 4, none⟩ = some (.bool false) := HK5.out.b1.cell 4
            have bf4 : w5.frozen? ⟨w.heap.size + 1, 4, none⟩ = false := HK5.out.b1.frozen 4
            have b5 : w5.cell? ⟨w.heap.size + 1, 5, none⟩ = some (.int .i64 0) := HK5.out.b1.cell 5
            have bf5 : w5.frozen? ⟨w.heap.size + 1, 5, none⟩ = false := HK5.out.b1.frozen 5
            go_wp2
            clear b0 bf0 b1 bf1 b2 bf2 b3 bf3 b4 bf4 b5 bf5
            have k1 := HK5.out.b1.six (.string ⟨#[]⟩) (.int .i64 0) (.int .i64 0) (.int .i64 0) (.bool false) (.int .i64 qr)
            have ht : Tn [w.heap.size + 1] w5 _ := (Tn.refl _ w5).six (R := w.heap.size + 1) (.inl (by simp)) (.string ⟨#[]⟩) (.int .i64 0) (.int .i64 0) (.int .i64 0) (.bool false) (.int .i64 qr)
            refine bodyPost_ret (results_one (T' := 74) (cs := [.string ⟨#[]⟩, .int .i64 0, .int .i64 0, .int .i64 0, .bool false, .int .i64 qr]) rfl rfl sp_agg sp_size rfl k1) rfl ?_
            rw [HF.out]
            exact ⟨.inl ⟨rfl, rfl⟩, HK5.out.below.trans (ht.below HK5.out.below.size (by simp))⟩
          · have HF : Hid (out = (Sp.zero, 73)) := by rw [Hid, ← HS2.out, hc]; rfl
            refine ⟨rfl, ?_⟩
            rw [HF.out]
            exact ⟨.inr ⟨by decide, rfl⟩, HK5.out.below⟩
        | true =>
          rintro e w4 ⟨rfl, hb4⟩
          have HK4 : Hid (Lk w w4 pf plo phi pr pp pn pc) := HK3.out.on hb4
          have HP4 : Hid (Bk w4 w2.heap.size 29 #[.bool qf, .string qlo, .string qhi, .int .i64 qr, .slice none 0 0]) := HP3.out.below hb4 HP3.out.lt
          clear hb4
          have q0 : w4.cell? ⟨w2.heap.size, 0, none⟩ = some (.bool qf) := HP4.out.cell 0
          have qf0 : w4.frozen? ⟨w2.heap.size, 0, none⟩ = false := HP4.out.frozen 0
          have q1 : w4.cell? ⟨w2.heap.size, 1, none⟩ = some (.string qlo) := HP4.out.cell 1
          have qf1 : w4.frozen? ⟨w2.heap.size, 1, none⟩ = false := HP4.out.frozen 1
          have q2 : w4.cell? ⟨w2.heap.size, 2, none⟩ = some (.string qhi) := HP4.out.cell 2
          have qf2 : w4.frozen? ⟨w2.heap.size, 2, none⟩ = false := HP4.out.frozen 2
          have q3 : w4.cell? ⟨w2.heap.size, 3, none⟩ = some (.int .i64 qr) := HP4.out.cell 3
          have qf3 : w4.frozen? ⟨w2.heap.size, 3, none⟩ = false := HP4.out.frozen 3
          have q4 : w4.cell? ⟨w2.heap.size, 4, none⟩ = some (.slice none 0 0) := HP4.out.cell 4
          have qf4 : w4.frozen? ⟨w2.heap.size, 4, none⟩ = false := HP4.out.frozen 4
          have a0 : w4.cell? ⟨w.heap.size, 0, none⟩ = some (.bool pf) := HK4.out.b0.cell 0
          have a1 : w4.cell? ⟨w.heap.size, 1, none⟩ = some (.string plo) := HK4.out.b0.cell 1
          have a2 : w4.cell? ⟨w.heap.size, 2, none⟩ = some (.string phi) := HK4.out.b0.cell 2
          have a3 : w4.cell? ⟨w.heap.size, 3, none⟩ = some (.int .i64 pr) := HK4.out.b0.cell 3
          have a4 : w4.cell? ⟨w.heap.size, 4, none⟩ = some (.slice pp pn pc) := HK4.out.b0.cell 4
          cases qf with
          | false =>
            have HS2 : Hid (Dl.hitI (Pg.fnd false EL key) = out) := by rw [Hid, ← HS.out]; unfold Dl.says; simp only [hin]; rfl
            have HE2 : Hid _ := HE1.out (by simp) (by simp)
            go_wp2_with fail
            refine Calls.mono (HE2.out _ HK4.out.below) ?_
            rintro e w5 ⟨⟨q, m, c, rfl, hlm, hle, hmr⟩, hb5⟩
            have HK5 : Hid (Lk w w5 pf plo phi pr pp pn pc) := HK4.out.on hb5
            have HP5 : Hid (Bk w5 w2.heap.size 29 #[.bool false, .string qlo, .string qhi, .int .i64 qr, .slice none 0 0]) := HP4.out.below hb5 HP4.out.lt
            have HLM : Hid (EL.length = m) := hlm
            have HLE : Hid (Ens w5 q EL) := hle
            clear hb5 hlm hle
            clear q0 qf0 q1 qf1 q2 qf2 q3 qf3 q4 qf4
            clear a0 a1 a2 a3 a4
            have q0 : w5.cell? ⟨w2.heap.size, 0, none⟩ = some (.bool false) := HP5.out.cell 0
            have qf0 : w5.frozen? ⟨w2.heap.size, 0, none⟩ = false := HP5.out.frozen 0
            have q1 : w5.cell? ⟨w2.heap.size, 1, none⟩ = some (.string qlo) := HP5.out.cell 1
            have qf1 : w5.frozen? ⟨w2.heap.size, 1, none⟩ = false := HP5.out.frozen 1
            have q2 : w5.cell? ⟨w2.heap.size, 2, none⟩ = some (.string qhi) := HP5.out.cell 2
            have qf2 : w5.frozen? ⟨w2.heap.size, 2, none⟩ = false := HP5.out.frozen 2
            have q3 : w5.cell? ⟨w2.heap.size, 3, none⟩ = some (.int .i64 qr) := HP5.out.cell 3
            have qf3 : w5.frozen? ⟨w2.heap.size, 3, none⟩ = false := HP5.out.frozen 3
            have q4 : w5.cell? ⟨w2.heap.size, 4, none⟩ = some (.slice none 0 0) := HP5.out.cell 4
            have qf4 : w5.frozen? ⟨w2.heap.size, 4, none⟩ = false := HP5.out.frozen 4
            obtain ⟨w6, hw6⟩ : ∃ w6, w5.setCell ⟨w2.heap.size, 4, none⟩ (.slice q m c) = w6 := ⟨_, rfl⟩
            have ht6 : Tn [w2.heap.size] w5 w6 := by rw [← hw6]; exact (Tn.refl _ w5).setCell (.inl (by simp)) _
            have HP6 : Hid (Bk w6 w2.heap.size 29 #[.bool false, .string qlo, .string qhi, .int .i64 qr, .slice q m c]) := by rw [← hw6]; exact HP5.out.set 4 _
            have HK6 : Hid (Lk w w6 pf plo phi pr pp pn pc) := ⟨HK5.out.below.trans (ht6.below HK5.out.below.size (by have := HPW.out; simp; omega)), HK5.out.b0.tn ht6 (by have := HPW.out; simp; omega), HK5.out.b1.tn ht6 (by have := HPW.out; simp; omega)⟩
            have HL6 : Hid (Ens w6 q EL) := by rw [← hw6]; exact HLE.out.putSlice q4 _
            have y0 : w6.cell? ⟨w2.heap.size, 0, none⟩ = some (.bool false) := HP6.out.cell 0
            have y1 : w6.cell? ⟨w2.heap.size, 1, none⟩ = some (.string qlo) := HP6.out.cell 1
            have y2 : w6.cell? ⟨w2.heap.size, 2, none⟩ = some (.string qhi) := HP6.out.cell 2
            have y3 : w6.cell? ⟨w2.heap.size, 3, none⟩ = some (.int .i64 qr) := HP6.out.cell 3
            have y4 : w6.cell? ⟨w2.heap.size, 4, none⟩ = some (.slice q m c) := HP6.out.cell 4
            go_wp2_with fail
            clear hw6 ht6
            clear q0 qf0 q1 qf1 q2 qf2 q3 qf3 q4 qf4
            clear y0 y1 y2 y3 y4
            refine (below_any false qlo qhi qr q m c EL key _ HLM.out HL6.out hmr).mono ?_
            rw [HS2.out]
            rintro e w7 ⟨hd7, hb7⟩
            have HK7 : Hid (Lk w w7 pf plo phi pr pp pn pc) := HK6.out.on hb7
            clear hb7
            rcases hd7 with ⟨h0, rfl⟩ | ⟨h0, rfl⟩
            · obtain ⟨⟨⟨xk, xs, xg, xc⟩, xf, xgo⟩, kk⟩ := out
              simp only at h0
              subst h0
              have b0 : w7.cell? ⟨w.heap.size + 1, 0, none⟩ = some (.string ⟨#[]⟩) := HK7.out.b1.cell 0
              have bf0 : w7.frozen? ⟨w.heap.size + 1, 0, none⟩ = false := HK7.out.b1.frozen 0
              have b1 : w7.cell? ⟨w.heap.size + 1, 1, none⟩ = some (.int .i64 0) := HK7.out.b1.cell 1
              have bf1 : w7.frozen? ⟨w.heap.size + 1, 1, none⟩ = false := HK7.out.b1.frozen 1
              have b2 : w7.cell? ⟨w.heap.size + 1, 2, none⟩ = some (.int .i64 0) := HK7.out.b1.cell 2
              have bf2 : w7.frozen? ⟨w.heap.size + 1, 2, none⟩ = false := HK7.out.b1.frozen 2
              have b3 : w7.cell? ⟨w.heap.size + 1, 3, none⟩ = some (.int .i64 0) := HK7.out.b1.cell 3
              have bf3 : w7.frozen? ⟨w.heap.size + 1, 3, none⟩ = false := HK7.out.b1.frozen 3
              have b4 : w7.cell? ⟨w.heap.size + 1, 4, none⟩ = some (.bool false) := HK7.out.b1.cell 4
              have bf4 : w7.frozen? ⟨w.heap.size + 1, 4, none⟩ = false := HK7.out.b1.frozen 4
              have b5 : w7.cell? ⟨w.heap.size + 1, 5, none⟩ = some (.int .i64 0) := HK7.out.b1.cell 5
              have bf5 : w7.frozen? ⟨w.heap.size + 1, 5, none⟩ = false := HK7.out.b1.frozen 5
              go_wp2
              clear b0 bf0 b1 bf1 b2 bf2 b3 bf3 b4 bf4 b5 bf5
              have k1 := HK7.out.b1.six (.string xk) (.int .i64 xs) (.int .i64 xg) (.int .i64 xc) (.bool xf) (.int .i64 xgo)
              have ht : Tn [w.heap.size + 1] w7 _ := (Tn.refl _ w7).six (R := w.heap.size + 1) (.inl (by simp)) (.string xk) (.int .i64 xs) (.int .i64 xg) (.int .i64 xc) (.bool xf) (.int .i64 xgo)
              refine bodyPost_ret (results_one (T' := 74) (cs := [.string xk, .int .i64 xs, .int .i64 xg, .int .i64 xc, .bool xf, .int .i64 xgo]) rfl rfl sp_agg sp_size rfl k1) rfl ?_
              skip
              exact ⟨.inl ⟨rfl, rfl⟩, HK7.out.below.trans (ht.below HK7.out.below.size (by simp))⟩
            · refine ⟨rfl, ?_⟩
              exact ⟨.inr ⟨h0, rfl⟩, HK7.out.below⟩
          | true =>
            obtain ⟨fo, HFO⟩ : ∃ fo, Hid (Pg.find true (Dl.among ⟨pf, plo, phi, pr, pl⟩ key (L.map (·.d)) EL) key = fo) := ⟨_, rfl⟩
            have HS2 : Hid (Dl.hitL fo = out) := by rw [Hid, ← HS.out, ← HFO.out]; unfold Dl.says; simp only [hin]; rfl
            go_wp2_with fail
            refine (inLeaf_any pf plo phi pr pp pn pc pl key p len cap L EL _ HN.out (HX.out.below HK4.out.below (Nat.le_refl _)) hl HL.out hll (HD.out.below HK4.out.below (Nat.le_refl _)) (fun hm W hW => HE1.out (by simp) (by simp [hm]) W (HK4.out.below.trans (hW.mono HK4.out.below.size)))).mono ?_
            rw [HFO.out]
            rintro e w5 ⟨rfl, hb5⟩
            have HK5 : Hid (Lk w w5 pf plo phi pr pp pn pc) := HK4.out.on hb5
            clear hb5
            clear q0 qf0 q1 qf1 q2 qf2 q3 qf3 q4 qf4
            clear a0 a1 a2 a3 a4
            cases fo with
            | none =>
              have HF : Hid (out = (Sp.zero, 0)) := HS2.out.symm
              unfold fv
              simp only
              have HK6 : Hid (Lk w (w5.alloc (.cells #[.string ⟨#[]⟩, .int .i64 0, .int .i64 0, .int .i64 0] 33)) pf plo phi pr pp pn pc) := HK5.out.on ((Below.refl _ _).alloc (Nat.le_refl _) _)
              have b0 : (w5.alloc (.cells #[.string ⟨#[]⟩, .int .i64 0, .int .i64 0, .int .i64 0] 33)).cell? ⟨w.heap.size + 1, 0, none⟩ = some (.string ⟨#[]⟩) := HK6.out.b1.cell 0
              have bf0 : (w5.alloc (.cells #[.string ⟨#[]⟩, .int .i64 0, .int .i64 0, .int .i64 0] 33)).frozen? ⟨w.heap.size + 1, 0, none⟩ = false := HK6.out.b1.frozen 0
              have b1 : (w5.alloc (.cells #[.string ⟨#[]⟩, .int .i64 0, .int .i64 0, .int .i64 0] 33)).cell? ⟨w.heap.size + 1, 1, none⟩ = some (.int .i64 0) := HK6.out.b1.cell 1
              have bf1 : (w5.alloc (.cells #[.string ⟨#[]⟩, .int .i64 0, .int .i64 0, .int .i64 0] 33)).frozen? ⟨w.heap.size + 1, 1, none⟩ = false := HK6.out.b1.frozen 1
              have b2 : (w5.alloc (.cells #[.string ⟨#[]⟩, .int .i64 0, .int .i64 0, .int .i64 0] 33)).cell? ⟨w.heap.size + 1, 2, none⟩ = some (.int .i64 0) := HK6.out.b1.cell 2
              have bf2 : (w5.alloc (.cells #[.string ⟨#[]⟩, .int .i64 0, .int .i64 0, .int .i64 0] 33)).frozen? ⟨w.heap.size + 1, 2, none⟩ = false := HK6.out.b1.frozen 2
              have b3 : (w5.alloc (.cells #[.string ⟨#[]⟩, .int .i64 0, .int .i64 0, .int .i64 0] 33)).cell? ⟨w.heap.size + 1, 3, none⟩ = some (.int .i64 0) := HK6.out.b1.cell 3
              have bf3 : (w5.alloc (.cells #[.string ⟨#[]⟩, .int .i64 0, .int .i64 0, .int .i64 0] 33)).frozen? ⟨w.heap.size + 1, 3, none⟩ = false := HK6.out.b1.frozen 3
              have b4 : (w5.alloc (.cells #[.string ⟨#[]⟩, .int .i64 0, .int .i64 0, .int .i64 0] 33)).cell? ⟨w.heap.size + 1, 4, none⟩ = some (.bool false) := HK6.out.b1.cell 4
              have bf4 : (w5.alloc (.cells #[.string ⟨#[]⟩, .int .i64 0, .int .i64 0, .int .i64 0] 33)).frozen? ⟨w.heap.size + 1, 4, none⟩ = false := HK6.out.b1.frozen 4
              have b5 : (w5.alloc (.cells #[.string ⟨#[]⟩, .int .i64 0, .int .i64 0, .int .i64 0] 33)).cell? ⟨w.heap.size + 1, 5, none⟩ = some (.int .i64 0) := HK6.out.b1.cell 5
              have bf5 : (w5.alloc (.cells #[.string ⟨#[]⟩, .int .i64 0, .int .i64 0, .int .i64 0] 33)).frozen? ⟨w.heap.size + 1, 5, none⟩ = false := HK6.out.b1.frozen 5
              go_wp2
              clear b0 bf0 b1 bf1 b2 bf2 b3 bf3 b4 bf4 b5 bf5
              have k1 := HK6.out.b1.six (.string ⟨#[]⟩) (.int .i64 0) (.int .i64 0) (.int .i64 0) (.bool false) (.int .i64 0)
              have ht : Tn [w.heap.size + 1] (w5.alloc (.cells #[.string ⟨#[]⟩, .int .i64 0, .int .i64 0, .int .i64 0] 33)) _ := (Tn.refl _ (w5.alloc (.cells #[.string ⟨#[]⟩, .int .i64 0, .int .i64 0, .int .i64 0] 33))).six (R := w.heap.size + 1) (.inl (by simp)) (.string ⟨#[]⟩) (.int .i64 0) (.int .i64 0) (.int .i64 0) (.bool false) (.int .i64 0)
              refine bodyPost_ret (results_one (T' := 74) (cs := [.string ⟨#[]⟩, .int .i64 0, .int .i64 0, .int .i64 0, .bool false, .int .i64 0]) rfl rfl sp_agg sp_size rfl k1) rfl ?_
              rw [HF.out]
              exact ⟨.inl ⟨rfl, rfl⟩, HK6.out.below.trans (ht.below HK6.out.below.size (by simp))⟩
            | some x =>
              obtain ⟨xk, xs, xg, xc⟩ := x
              have HF : Hid (out = (⟨⟨xk, xs, xg, xc⟩, true, 0⟩, 0)) := HS2.out.symm
              unfold fv
              simp only
              have HK6 : Hid (Lk w (w5.alloc (.cells #[.string xk, .int .i64 xs, .int .i64 xg, .int .i64 xc] 33)) pf plo phi pr pp pn pc) := HK5.out.on ((Below.refl _ _).alloc (Nat.le_refl _) _)
              have b0 : (w5.alloc (.cells #[.string xk, .int .i64 xs, .int .i64 xg, .int .i64 xc] 33)).cell? ⟨w.heap.size + 1, 0, none⟩ = some (.string ⟨#[]⟩) := HK6.out.b1.cell 0
              have bf0 : (w5.alloc (.cells #[.string xk, .int .i64 xs, .int .i64 xg, .int .i64 xc] 33)).frozen? ⟨w.heap.size + 1, 0, none⟩ = false := HK6.out.b1.frozen 0
              have b1 : (w5.alloc (.cells #[.string xk, .int .i64 xs, .int .i64 xg, .int .i64 xc] 33)).cell? ⟨w.heap.size + 1, 1, none⟩ = some (.int .i64 0) := HK6.out.b1.cell 1
              have bf1 : (w5.alloc (.cells #[.string xk, .int .i64 xs, .int .i64 xg, .int .i64 xc] 33)).frozen? ⟨w.heap.size + 1, 1, none⟩ = false := HK6.out.b1.frozen 1
              have b2 : (w5.alloc (.cells #[.string xk, .int .i64 xs, .int .i64 xg, .int .i64 xc] 33)).cell? ⟨w.heap.size + 1, 2, none⟩ = some (.int .i64 0) := HK6.out.b1.cell 2
              have bf2 : (w5.alloc (.cells #[.string xk, .int .i64 xs, .int .i64 xg, .int .i64 xc] 33)).frozen? ⟨w.heap.size + 1, 2, none⟩ = false := HK6.out.b1.frozen 2
              have b3 : (w5.alloc (.cells #[.string xk, .int .i64 xs, .int .i64 xg, .int .i64 xc] 33)).cell? ⟨w.heap.size + 1, 3, none⟩ = some (.int .i64 0) := HK6.out.b1.cell 3
              have bf3 : (w5.alloc (.cells #[.string xk, .int .i64 xs, .int .i64 xg, .int .i64 xc] 33)).frozen? ⟨w.heap.size + 1, 3, none⟩ = false := HK6.out.b1.frozen 3
              have b4 : (w5.alloc (.cells #[.string xk, .int .i64 xs, .int .i64 xg, .int .i64 xc] 33)).cell? ⟨w.heap.size + 1, 4, none⟩ = some (.bool false) := HK6.out.b1.cell 4
              have bf4 : (w5.alloc (.cells #[.string xk, .int .i64 xs, .int .i64 xg, .int .i64 xc] 33)).frozen? ⟨w.heap.size + 1, 4, none⟩ = false := HK6.out.b1.frozen 4
              have b5 : (w5.alloc (.cells #[.string xk, .int .i64 xs, .int .i64 xg, .int .i64 xc] 33)).cell? ⟨w.heap.size + 1, 5, none⟩ = some (.int .i64 0) := HK6.out.b1.cell 5
              have bf5 : (w5.alloc (.cells #[.string xk, .int .i64 xs, .int .i64 xg, .int .i64 xc] 33)).frozen? ⟨w.heap.size + 1, 5, none⟩ = false := HK6.out.b1.frozen 5
              go_wp2
              clear b0 bf0 b1 bf1 b2 bf2 b3 bf3 b4 bf4 b5 bf5
              have k1 := HK6.out.b1.six (.string xk) (.int .i64 xs) (.int .i64 xg) (.int .i64 xc) (.bool true) (.int .i64 0)
              have ht : Tn [w.heap.size + 1] (w5.alloc (.cells #[.string xk, .int .i64 xs, .int .i64 xg, .int .i64 xc] 33)) _ := (Tn.refl _ (w5.alloc (.cells #[.string xk, .int .i64 xs, .int .i64 xg, .int .i64 xc] 33))).six (R := w.heap.size + 1) (.inl (by simp)) (.string xk) (.int .i64 xs) (.int .i64 xg) (.int .i64 xc) (.bool true) (.int .i64 0)
              refine bodyPost_ret (results_one (T' := 74) (cs := [.string xk, .int .i64 xs, .int .i64 xg, .int .i64 xc, .bool true, .int .i64 0]) rfl rfl sp_agg sp_size rfl k1) rfl ?_
              rw [HF.out]
              exact ⟨.inl ⟨rfl, rfl⟩, HK6.out.below.trans (ht.below HK6.out.below.size (by simp))⟩
      · have HF : Hid (out = (Sp.zero, kk)) := by rw [Hid, ← HS.out]; unfold Dl.says; rw [if_pos h0]
        refine ⟨rfl, ?_⟩
        rw [HF.out]
        exact ⟨.inr ⟨h0, rfl⟩, HK2.out.below⟩
    · obtain ⟨m, hm⟩ : ∃ m, L[0]? = some m := ⟨_, List.getElem?_eq_getElem (by have := HL.out; omega)⟩
      obtain ⟨b, o, rfl, hc⟩ := HD.out.below HK0.out.below (Nat.le_refl _) (by have := HL.out; omega)
      obtain ⟨hcx, hOk⟩ := hc 0 m hm
      have hgm : ((m.d.k == 5) && Dl.may m.d) = false := by
        cases L with
        | nil => simp at hm
        | cons x r =>
          simp only [List.getElem?_cons_zero, Option.some.injEq] at hm
          subst hm
          simp only [List.map_cons, Dl.gone] at hg
          cases h5 : ((x.d.k == 5) && Dl.may x.d) with
          | false => rfl
          | true => rw [h5] at hg; simp at hg
      obtain ⟨⟨dk, ⟨dek, des, deg, dec⟩, dkey, dpg, ⟨dleaf, dlo, dhi, dr, dl⟩⟩, dp, dn, dc⟩ := m
      simp only at hgm
      have hlen1 : (0 : Int) < (len : Int) := by omega
      have hlen2 : decide ((len : Int) > 0) = true := decide_eq_true hlen1
      have hlen3 : 0 < len := by omega
      have z0 := hcx 0 _ rfl
      have z1 := hcx 1 _ rfl
      have z2 := hcx 2 _ rfl
      have z3 := hcx 3 _ rfl
      have z4 := hcx 4 _ rfl
      have z5 := hcx 5 _ rfl
      have z6 := hcx 6 _ rfl
      have z7 := hcx 7 _ rfl
      have z8 := hcx 8 _ rfl
      have z9 := hcx 9 _ rfl
      have z10 := hcx 10 _ rfl
      have z11 := hcx 11 _ rfl
      simp only [Nat.zero_mul, Nat.add_zero] at z0 z1 z2 z3 z4 z5 z6 z7 z8 z9 z10 z11
      have HOK : Hid (Dm.Ok w0 ⟨⟨dk, ⟨dek, des, deg, dec⟩, dkey, dpg, ⟨dleaf, dlo, dhi, dr, dl⟩⟩, dp, dn, dc⟩) := hOk
      clear hcx hc hOk hm hg
      obtain ⟨p, hp⟩ : ∃ p, p = some (⟨b, o, none⟩ : Addr) := ⟨_, rfl⟩
      by_cases h5 : dk = 5
      · subst h5
        have HM : Hid (Dl.may ⟨5, ⟨dek, des, deg, dec⟩, dkey, dpg, ⟨dleaf, dlo, dhi, dr, dl⟩⟩ = false) := by unfold Hid; simpa using hgm
        go_wp2_with fail
        refine (dcheck_any ⟨5, ⟨dek, des, deg, dec⟩, dkey, dpg, ⟨dleaf, dlo, dhi, dr, dl⟩⟩ dp dn dc _ HOK.out.len HOK.out.ens (by have := HOK.out.room; simp only at this; omega)).mono ?_
        rw [HM.out]
        rintro e w1 ⟨rfl, hb1⟩
        have HK1 : Hid (Lk w w1 pf plo phi pr pp pn pc) := HK0.out.on hb1
        clear a0 a1 a2 a3 a4
        clear b0 bf0 b1 bf1 b2 bf2 b3 bf3 b4 bf4 b5 bf5
        clear hb1 z0 z1 z2 z3 z4 z5 z6 z7 z8 z9 z10 z11 hw0 hgm
        simp only [Bool.false_eq_true, if_false]
        have a0 : w1.cell? ⟨w.heap.size, 0, none⟩ = some (.bool pf) := HK1.out.b0.cell 0
        have a1 : w1.cell? ⟨w.heap.size, 1, none⟩ = some (.string plo) := HK1.out.b0.cell 1
        have a2 : w1.cell? ⟨w.heap.size, 2, none⟩ = some (.string phi) := HK1.out.b0.cell 2
        have a3 : w1.cell? ⟨w.heap.size, 3, none⟩ = some (.int .i64 pr) := HK1.out.b0.cell 3
        have a4 : w1.cell? ⟨w.heap.size, 4, none⟩ = some (.slice pp pn pc) := HK1.out.b0.cell 4
        go_wp2_with fail
        clear a0 a1 a2 a3 a4
        rw [← hp] at HD HE ⊢
        clear hp
        refine (outline_any ⟨pf, plo, phi, pr, pl⟩ pp pn pc p len cap L _ HL.out hll (HD.out.below HK1.out.below (Nat.le_refl _))).mono ?_
        have HS : Hid (Dl.says ⟨pf, plo, phi, pr, pl⟩ key (L.map (·.d)) EL (Dl.outl ⟨pf, plo, phi, pr, pl⟩ (L.map (·.d)).reverse) = out) := HSAY.out
        have HE1 : Hid _ := HE.out
        obtain ⟨⟨⟨qf, qlo, qhi, qr, ql⟩, kk⟩, hO⟩ : ∃ o, Dl.outl ⟨pf, plo, phi, pr, pl⟩ (L.map (·.d)).reverse = o := ⟨_, rfl⟩
        rw [hO] at HS HE1
        rw [hO]
        rintro e w2 ⟨hd, hb2⟩
        have HK2 : Hid (Lk w w2 pf plo phi pr pp pn pc) := HK1.out.on hb2
        clear hb2 hO
        simp only at hd
        rcases hd with ⟨h0, rfl⟩ | ⟨h0, rfl⟩
        · subst h0
          obtain ⟨w3, hw3⟩ : ∃ w3, w3 = w2.alloc (.cells #[.bool qf, .string qlo, .string qhi, .int .i64 qr, .slice none 0 0] 29) := ⟨_, rfl⟩
          have HK3 : Hid (Lk w w3 pf plo phi pr pp pn pc) := by rw [hw3]; exact HK2.out.on ((Below.refl _ _).alloc (Nat.le_refl _) _)
          have HP3 : Hid (Bk w3 w2.heap.size 29 #[.bool qf, .string qlo, .string qhi, .int .i64 qr, .slice none 0 0]) := by rw [hw3]; exact Bk.new _ _ _
          have HPW : Hid (w.heap.size + 1 < w2.heap.size) := HK2.out.b1.lt
          go_wp2_with fail
          rw [← hw3]
          clear hw3
          refine (has_any qf qlo qhi qr none 0 0 _ key).mono ?_
          cases hin : Ky.inn ⟨qlo, qhi⟩ key with
          | false =>
            have HS2 : Hid ((if (Ky.lt key qlo || qr == 0) = true then (Sp.zero, 73) else (⟨En.zero, false, qr⟩, 0)) = out) := by rw [Hid, ← HS.out]; unfold Dl.says; simp only [hin]; rfl
            rintro e w4 ⟨rfl, hb4⟩
            have HK4 : Hid (Lk w w4 pf plo phi pr pp pn pc) := HK3.out.on hb4
            have HP4 : Hid (Bk w4 w2.heap.size 29 #[.bool qf, .string qlo, .string qhi, .int .i64 qr, .slice none 0 0]) := HP3.out.below hb4 HP3.out.lt
            clear hb4 hin
            have q0 : w4.cell? ⟨w2.heap.size, 0, none⟩ = some (.bool qf) := HP4.out.cell 0
            have q1 : w4.cell? ⟨w2.heap.size, 1, none⟩ = some (.string qlo) := HP4.out.cell 1
            have q2 : w4.cell? ⟨w2.heap.size, 2, none⟩ = some (.string qhi) := HP4.out.cell 2
            have q3 : w4.cell? ⟨w2.heap.size, 3, none⟩ = some (.int .i64 qr) := HP4.out.cell 3
            have q4 : w4.cell? ⟨w2.heap.size, 4, none⟩ = some (.slice none 0 0) := HP4.out.cell 4
            go_wp2_with fail
            clear q0 q1 q2 q3 q4
            refine (beside_any qf qlo qhi qr none 0 0 key _).mono ?_
            rintro e w5 ⟨hbs, hb5⟩
            have HK5 : Hid (Lk w w5 pf plo phi pr pp pn pc) := HK4.out.on hb5
            clear hb5
            rcases hbs with ⟨hc, rfl⟩ | ⟨hc, rfl⟩
            · have HF : Hid (out = (⟨En.zero, false, qr⟩, 0)) := by rw [Hid, ← HS2.out, hc]; rfl
              clear hc
              have b0 : w5.cell? ⟨w.heap.size + 1, 0, none⟩ = some (.string ⟨#[]⟩) := HK5.out.b1.cell 0
              have bf0 : w5.frozen? ⟨w.heap.size + 1, 0, none⟩ = false := HK5.out.b1.frozen 0
              have b1 : w5.cell? ⟨w.heap.size + 1, 1, none⟩ = some (.int .i64 0) := HK5.out.b1.cell 1
              have bf1 : w5.frozen? ⟨w.heap.size + 1, 1, none⟩ = false := HK5.out.b1.frozen 1
              have b2 : w5.cell? ⟨w.heap.size + 1, 2, none⟩ = some (.int .i64 0) := HK5.out.b1.cell 2
              have bf2 : w5.frozen? ⟨w.heap.size + 1, 2, none⟩ = false := HK5.out.b1.frozen 2
              have b3 : w5.cell? ⟨w.heap.size + 1, 3, none⟩ = some (.int .i64 0) := HK5.out.b1.cell 3
              have bf3 : w5.frozen? ⟨w.heap.size + 1, 3, none⟩ = false := HK5.out.b1.frozen 3
              have b4 : w5.cell? ⟨w.heap.size + 1, 4, none⟩ = some (.bool false) := HK5.out.b1.cell 4
              have bf4 : w5.frozen? ⟨w.heap.size + 1, 4, none⟩ = false := HK5.out.b1.frozen 4
              have b5 : w5.cell? ⟨w.heap.size + 1, 5, none⟩ = some (.int .i64 0) := HK5.out.b1.cell 5
              have bf5 : w5.frozen? ⟨w.heap.size + 1, 5, none⟩ = false := HK5.out.b1.frozen 5
              go_wp2
              clear b0 bf0 b1 bf1 b2 bf2 b3 bf3 b4 bf4 b5 bf5
              have k1 := HK5.out.b1.six (.string ⟨#[]⟩) (.int .i64 0) (.int .i64 0) (.int .i64 0) (.bool false) (.int .i64 qr)
              have ht : Tn [w.heap.size + 1] w5 _ := (Tn.refl _ w5).six (R := w.heap.size + 1) (.inl (by simp)) (.string ⟨#[]⟩) (.int .i64 0) (.int .i64 0) (.int .i64 0) (.bool false) (.int .i64 qr)
              refine bodyPost_ret (results_one (T' := 74) (cs := [.string ⟨#[]⟩, .int .i64 0, .int .i64 0, .int .i64 0, .bool false, .int .i64 qr]) rfl rfl sp_agg sp_size rfl k1) rfl ?_
              rw [HF.out]
              exact ⟨.inl ⟨rfl, rfl⟩, HK5.out.below.trans (ht.below HK5.out.below.size (by simp))⟩
            · have HF : Hid (out = (Sp.zero, 73)) := by rw [Hid, ← HS2.out, hc]; rfl
              refine ⟨rfl, ?_⟩
              rw [HF.out]
              exact ⟨.inr ⟨by decide, rfl⟩, HK5.out.below⟩
          | true =>
            rintro e w4 ⟨rfl, hb4⟩
            have HK4 : Hid (Lk w w4 pf plo phi pr pp pn pc) := HK3.out.on hb4
            have HP4 : Hid (Bk w4 w2.heap.size 29 #[.bool qf, .string qlo, .string qhi, .int .i64 qr, .slice none 0 0]) := HP3.out.below hb4 HP3.out.lt
            clear hb4
            have q0 : w4.cell? ⟨w2.heap.size, 0, none⟩ = some (.bool qf) := HP4.out.cell 0
            have qf0 : w4.frozen? ⟨w2.heap.size, 0, none⟩ = false := HP4.out.frozen 0
            have q1 : w4.cell? ⟨w2.heap.size, 1, none⟩ = some (.string qlo) := HP4.out.cell 1
            have qf1 : w4.frozen? ⟨w2.heap.size, 1, none⟩ = false := HP4.out.frozen 1
            have q2 : w4.cell? ⟨w2.heap.size, 2, none⟩ = some (.string qhi) := HP4.out.cell 2
            have qf2 : w4.frozen? ⟨w2.heap.size, 2, none⟩ = false := HP4.out.frozen 2
            have q3 : w4.cell? ⟨w2.heap.size, 3, none⟩ = some (.int .i64 qr) := HP4.out.cell 3
            have qf3 : w4.frozen? ⟨w2.heap.size, 3, none⟩ = false := HP4.out.frozen 3
            have q4 : w4.cell? ⟨w2.heap.size, 4, none⟩ = some (.slice none 0 0) := HP4.out.cell 4
            have qf4 : w4.frozen? ⟨w2.heap.size, 4, none⟩ = false := HP4.out.frozen 4
            have a0 : w4.cell? ⟨w.heap.size, 0, none⟩ = some (.bool pf) := HK4.out.b0.cell 0
            have a1 : w4.cell? ⟨w.heap.size, 1, none⟩ = some (.string plo) := HK4.out.b0.cell 1
            have a2 : w4.cell? ⟨w.heap.size, 2, none⟩ = some (.string phi) := HK4.out.b0.cell 2
            have a3 : w4.cell? ⟨w.heap.size, 3, none⟩ = some (.int .i64 pr) := HK4.out.b0.cell 3
            have a4 : w4.cell? ⟨w.heap.size, 4, none⟩ = some (.slice pp pn pc) := HK4.out.b0.cell 4
            cases qf with
            | false =>
              have HS2 : Hid (Dl.hitI (Pg.fnd false EL key) = out) := by rw [Hid, ← HS.out]; unfold Dl.says; simp only [hin]; rfl
              have HE2 : Hid _ := HE1.out (by simp) (by simp)
              go_wp2_with fail
              refine Calls.mono (HE2.out _ HK4.out.below) ?_
              rintro e w5 ⟨⟨q, m, c, rfl, hlm, hle, hmr⟩, hb5⟩
              have HK5 : Hid (Lk w w5 pf plo phi pr pp pn pc) := HK4.out.on hb5
              have HP5 : Hid (Bk w5 w2.heap.size 29 #[.bool false, .string qlo, .string qhi, .int .i64 qr, .slice none 0 0]) := HP4.out.below hb5 HP4.out.lt
              have HLM : Hid (EL.length = m) := hlm
              have HLE : Hid (Ens w5 q EL) := hle
              clear hb5 hlm hle
              clear q0 qf0 q1 qf1 q2 qf2 q3 qf3 q4 qf4
              clear a0 a1 a2 a3 a4
              have q0 : w5.cell? ⟨w2.heap.size, 0, none⟩ = some (.bool false) := HP5.out.cell 0
              have qf0 : w5.frozen? ⟨w2.heap.size, 0, none⟩ = false := HP5.out.frozen 0
              have q1 : w5.cell? ⟨w2.heap.size, 1, none⟩ = some (.string qlo) := HP5.out.cell 1
              have qf1 : w5.frozen? ⟨w2.heap.size, 1, none⟩ = false := HP5.out.frozen 1
              have q2 : w5.cell? ⟨w2.heap.size, 2, none⟩ = some (.string qhi) := HP5.out.cell 2
              have qf2 : w5.frozen? ⟨w2.heap.size, 2, none⟩ = false := HP5.out.frozen 2
              have q3 : w5.cell? ⟨w2.heap.size, 3, none⟩ = some (.int .i64 qr) := HP5.out.cell 3
              have qf3 : w5.frozen? ⟨w2.heap.size, 3, none⟩ = false := HP5.out.frozen 3
              have q4 : w5.cell? ⟨w2.heap.size, 4, none⟩ = some (.slice none 0 0) := HP5.out.cell 4
              have qf4 : w5.frozen? ⟨w2.heap.size, 4, none⟩ = false := HP5.out.frozen 4
              obtain ⟨w6, hw6⟩ : ∃ w6, w5.setCell ⟨w2.heap.size, 4, none⟩ (.slice q m c) = w6 := ⟨_, rfl⟩
              have ht6 : Tn [w2.heap.size] w5 w6 := by rw [← hw6]; exact (Tn.refl _ w5).setCell (.inl (by simp)) _
              have HP6 : Hid (Bk w6 w2.heap.size 29 #[.bool false, .string qlo, .string qhi, .int .i64 qr, .slice q m c]) := by rw [← hw6]; exact HP5.out.set 4 _
              have HK6 : Hid (Lk w w6 pf plo phi pr pp pn pc) := ⟨HK5.out.below.trans (ht6.below HK5.out.below.size (by have := HPW.out; simp; omega)), HK5.out.b0.tn ht6 (by have := HPW.out; simp; omega), HK5.out.b1.tn ht6 (by have := HPW.out; simp; omega)⟩
              have HL6 : Hid (Ens w6 q EL) := by rw [← hw6]; exact HLE.out.putSlice q4 _
              have y0 : w6.cell? ⟨w2.heap.size, 0, none⟩ = some (.bool false) := HP6.out.cell 0
              have y1 : w6.cell? ⟨w2.heap.size, 1, none⟩ = some (.string qlo) := HP6.out.cell 1
              have y2 : w6.cell? ⟨w2.heap.size, 2, none⟩ = some (.string qhi) := HP6.out.cell 2
              have y3 : w6.cell? ⟨w2.heap.size, 3, none⟩ = some (.int .i64 qr) := HP6.out.cell 3
              have y4 : w6.cell? ⟨w2.heap.size, 4, none⟩ = some (.slice q m c) := HP6.out.cell 4
              go_wp2_with fail
              clear hw6 ht6
              clear q0 qf0 q1 qf1 q2 qf2 q3 qf3 q4 qf4
              clear y0 y1 y2 y3 y4
              refine (below_any false qlo qhi qr q m c EL key _ HLM.out HL6.out hmr).mono ?_
              rw [HS2.out]
              rintro e w7 ⟨hd7, hb7⟩
              have HK7 : Hid (Lk w w7 pf plo phi pr pp pn pc) := HK6.out.on hb7
              clear hb7
              rcases hd7 with ⟨h0, rfl⟩ | ⟨h0, rfl⟩
              · obtain ⟨⟨⟨xk, xs, xg, xc⟩, xf, xgo⟩, kk⟩ := out
                simp only at h0
                subst h0
                have b0 : w7.cell? ⟨w.heap.size + 1, 0, none⟩ = some (.string ⟨#[]⟩) := HK7.out.b1.cell 0
                have bf0 : w7.frozen? ⟨w.heap.size + 1, 0, none⟩ = false := HK7.out.b1.frozen 0
                have b1 : w7.cell? ⟨w.heap.size + 1, 1, none⟩ = some (.int .i64 0) := HK7.out.b1.cell 1
                have bf1 : w7.frozen? ⟨w.heap.size + 1, 1, none⟩ = false := HK7.out.b1.frozen 1
                have b2 : w7.cell? ⟨w.heap.size + 1, 2, none⟩ = some (.int .i64 0) := HK7.out.b1.cell 2
                have bf2 : w7.frozen? ⟨w.heap.size + 1, 2, none⟩ = false := HK7.out.b1.frozen 2
                have b3 : w7.cell? ⟨w.heap.size + 1, 3, none⟩ = some (.int .i64 0) := HK7.out.b1.cell 3
                have bf3 : w7.frozen? ⟨w.heap.size + 1, 3, none⟩ = false := HK7.out.b1.frozen 3
                have b4 : w7.cell? ⟨w.heap.size + 1, 4, none⟩ = some (.bool false) := HK7.out.b1.cell 4
                have bf4 : w7.frozen? ⟨w.heap.size + 1, 4, none⟩ = false := HK7.out.b1.frozen 4
                have b5 : w7.cell? ⟨w.heap.size + 1, 5, none⟩ = some (.int .i64 0) := HK7.out.b1.cell 5
                have bf5 : w7.frozen? ⟨w.heap.size + 1, 5, none⟩ = false := HK7.out.b1.frozen 5
                go_wp2
                clear b0 bf0 b1 bf1 b2 bf2 b3 bf3 b4 bf4 b5 bf5
                have k1 := HK7.out.b1.six (.string xk) (.int .i64 xs) (.int .i64 xg) (.int .i64 xc) (.bool xf) (.int .i64 xgo)
                have ht : Tn [w.heap.size + 1] w7 _ := (Tn.refl _ w7).six (R := w.heap.size + 1) (.inl (by simp)) (.string xk) (.int .i64 xs) (.int .i64 xg) (.int .i64 xc) (.bool xf) (.int .i64 xgo)
                refine bodyPost_ret (results_one (T' := 74) (cs := [.string xk, .int .i64 xs, .int .i64 xg, .int .i64 xc, .bool xf, .int .i64 xgo]) rfl rfl sp_agg sp_size rfl k1) rfl ?_
                skip
                exact ⟨.inl ⟨rfl, rfl⟩, HK7.out.below.trans (ht.below HK7.out.below.size (by simp))⟩
              · refine ⟨rfl, ?_⟩
                exact ⟨.inr ⟨h0, rfl⟩, HK7.out.below⟩
            | true =>
              obtain ⟨fo, HFO⟩ : ∃ fo, Hid (Pg.find true (Dl.among ⟨pf, plo, phi, pr, pl⟩ key (L.map (·.d)) EL) key = fo) := ⟨_, rfl⟩
              have HS2 : Hid (Dl.hitL fo = out) := by rw [Hid, ← HS.out, ← HFO.out]; unfold Dl.says; simp only [hin]; rfl
              go_wp2_with fail
              refine (inLeaf_any pf plo phi pr pp pn pc pl key p len cap L EL _ HN.out (HX.out.below HK4.out.below (Nat.le_refl _)) hl HL.out hll (HD.out.below HK4.out.below (Nat.le_refl _)) (fun hm W hW => HE1.out (by simp) (by simp [hm]) W (HK4.out.below.trans (hW.mono HK4.out.below.size)))).mono ?_
              rw [HFO.out]
              rintro e w5 ⟨rfl, hb5⟩
              have HK5 : Hid (Lk w w5 pf plo phi pr pp pn pc) := HK4.out.on hb5
              clear hb5
              clear q0 qf0 q1 qf1 q2 qf2 q3 qf3 q4 qf4
              clear a0 a1 a2 a3 a4
              cases fo with
              | none =>
                have HF : Hid (out = (Sp.zero, 0)) := HS2.out.symm
                unfold fv
                simp only
                have HK6 : Hid (Lk w (w5.alloc (.cells #[.string ⟨#[]⟩, .int .i64 0, .int .i64 0, .int .i64 0] 33)) pf plo phi pr pp pn pc) := HK5.out.on ((Below.refl _ _).alloc (Nat.le_refl _) _)
                have b0 : (w5.alloc (.cells #[.string ⟨#[]⟩, .int .i64 0, .int .i64 0, .int .i64 0] 33)).cell? ⟨w.heap.size + 1, 0, none⟩ = some (.string ⟨#[]⟩) := HK6.out.b1.cell 0
                have bf0 : (w5.alloc (.cells #[.string ⟨#[]⟩, .int .i64 0, .int .i64 0, .int .i64 0] 33)).frozen? ⟨w.heap.size + 1, 0, none⟩ = false := HK6.out.b1.frozen 0
                have b1 : (w5.alloc (.cells #[.string ⟨#[]⟩, .int .i64 0, .int .i64 0, .int .i64 0] 33)).cell? ⟨w.heap.size + 1, 1, none⟩ = some (.int .i64 0) := HK6.out.b1.cell 1
                have bf1 : (w5.alloc (.cells #[.string ⟨#[]⟩, .int .i64 0, .int .i64 0, .int .i64 0] 33)).frozen? ⟨w.heap.size + 1, 1, none⟩ = false := HK6.out.b1.frozen 1
                have b2 : (w5.alloc (.cells #[.string ⟨#[]⟩, .int .i64 0, .int .i64 0, .int .i64 0] 33)).cell? ⟨w.heap.size + 1, 2, none⟩ = some (.int .i64 0) := HK6.out.b1.cell 2
                have bf2 : (w5.alloc (.cells #[.string ⟨#[]⟩, .int .i64 0, .int .i64 0, .int .i64 0] 33)).frozen? ⟨w.heap.size + 1, 2, none⟩ = false := HK6.out.b1.frozen 2
                have b3 : (w5.alloc (.cells #[.string ⟨#[]⟩, .int .i64 0, .int .i64 0, .int .i64 0] 33)).cell? ⟨w.heap.size + 1, 3, none⟩ = some (.int .i64 0) := HK6.out.b1.cell 3
                have bf3 : (w5.alloc (.cells #[.string ⟨#[]⟩, .int .i64 0, .int .i64 0, .int .i64 0] 33)).frozen? ⟨w.heap.size + 1, 3, none⟩ = false := HK6.out.b1.frozen 3
                have b4 : (w5.alloc (.cells #[.string ⟨#[]⟩, .int .i64 0, .int .i64 0, .int .i64 0] 33)).cell? ⟨w.heap.size + 1, 4, none⟩ = some (.bool false) := HK6.out.b1.cell 4
                have bf4 : (w5.alloc (.cells #[.string ⟨#[]⟩, .int .i64 0, .int .i64 0, .int .i64 0] 33)).frozen? ⟨w.heap.size + 1, 4, none⟩ = false := HK6.out.b1.frozen 4
                have b5 : (w5.alloc (.cells #[.string ⟨#[]⟩, .int .i64 0, .int .i64 0, .int .i64 0] 33)).cell? ⟨w.heap.size + 1, 5, none⟩ = some (.int .i64 0) := HK6.out.b1.cell 5
                have bf5 : (w5.alloc (.cells #[.string ⟨#[]⟩, .int .i64 0, .int .i64 0, .int .i64 0] 33)).frozen? ⟨w.heap.size + 1, 5, none⟩ = false := HK6.out.b1.frozen 5
                go_wp2
                clear b0 bf0 b1 bf1 b2 bf2 b3 bf3 b4 bf4 b5 bf5
                have k1 := HK6.out.b1.six (.string ⟨#[]⟩) (.int .i64 0) (.int .i64 0) (.int .i64 0) (.bool false) (.int .i64 0)
                have ht : Tn [w.heap.size + 1] (w5.alloc (.cells #[.string ⟨#[]⟩, .int .i64 0, .int .i64 0, .int .i64 0] 33)) _ := (Tn.refl _ (w5.alloc (.cells #[.string ⟨#[]⟩, .int .i64 0, .int .i64 0, .int .i64 0] 33))).six (R := w.heap.size + 1) (.inl (by simp)) (.string ⟨#[]⟩) (.int .i64 0) (.int .i64 0) (.int .i64 0) (.bool false) (.int .i64 0)
                refine bodyPost_ret (results_one (T' := 74) (cs := [.string ⟨#[]⟩, .int .i64 0, .int .i64 0, .int .i64 0, .bool false, .int .i64 0]) rfl rfl sp_agg sp_size rfl k1) rfl ?_
                rw [HF.out]
                exact ⟨.inl ⟨rfl, rfl⟩, HK6.out.below.trans (ht.below HK6.out.below.size (by simp))⟩
              | some x =>
                obtain ⟨xk, xs, xg, xc⟩ := x
                have HF : Hid (out = (⟨⟨xk, xs, xg, xc⟩, true, 0⟩, 0)) := HS2.out.symm
                unfold fv
                simp only
                have HK6 : Hid (Lk w (w5.alloc (.cells #[.string xk, .int .i64 xs, .int .i64 xg, .int .i64 xc] 33)) pf plo phi pr pp pn pc) := HK5.out.on ((Below.refl _ _).alloc (Nat.le_refl _) _)
                have b0 : (w5.alloc (.cells #[.string xk, .int .i64 xs, .int .i64 xg, .int .i64 xc] 33)).cell? ⟨w.heap.size + 1, 0, none⟩ = some (.string ⟨#[]⟩) := HK6.out.b1.cell 0
                have bf0 : (w5.alloc (.cells #[.string xk, .int .i64 xs, .int .i64 xg, .int .i64 xc] 33)).frozen? ⟨w.heap.size + 1, 0, none⟩ = false := HK6.out.b1.frozen 0
                have b1 : (w5.alloc (.cells #[.string xk, .int .i64 xs, .int .i64 xg, .int .i64 xc] 33)).cell? ⟨w.heap.size + 1, 1, none⟩ = some (.int .i64 0) := HK6.out.b1.cell 1
                have bf1 : (w5.alloc (.cells #[.string xk, .int .i64 xs, .int .i64 xg, .int .i64 xc] 33)).frozen? ⟨w.heap.size + 1, 1, none⟩ = false := HK6.out.b1.frozen 1
                have b2 : (w5.alloc (.cells #[.string xk, .int .i64 xs, .int .i64 xg, .int .i64 xc] 33)).cell? ⟨w.heap.size + 1, 2, none⟩ = some (.int .i64 0) := HK6.out.b1.cell 2
                have bf2 : (w5.alloc (.cells #[.string xk, .int .i64 xs, .int .i64 xg, .int .i64 xc] 33)).frozen? ⟨w.heap.size + 1, 2, none⟩ = false := HK6.out.b1.frozen 2
                have b3 : (w5.alloc (.cells #[.string xk, .int .i64 xs, .int .i64 xg, .int .i64 xc] 33)).cell? ⟨w.heap.size + 1, 3, none⟩ = some (.int .i64 0) := HK6.out.b1.cell 3
                have bf3 : (w5.alloc (.cells #[.string xk, .int .i64 xs, .int .i64 xg, .int .i64 xc] 33)).frozen? ⟨w.heap.size + 1, 3, none⟩ = false := HK6.out.b1.frozen 3
                have b4 : (w5.alloc (.cells #[.string xk, .int .i64 xs, .int .i64 xg, .int .i64 xc] 33)).cell? ⟨w.heap.size + 1, 4, none⟩ = some (.bool false) := HK6.out.b1.cell 4
                have bf4 : (w5.alloc (.cells #[.string xk, .int .i64 xs, .int .i64 xg, .int .i64 xc] 33)).frozen? ⟨w.heap.size + 1, 4, none⟩ = false := HK6.out.b1.frozen 4
                have b5 : (w5.alloc (.cells #[.string xk, .int .i64 xs, .int .i64 xg, .int .i64 xc] 33)).cell? ⟨w.heap.size + 1, 5, none⟩ = some (.int .i64 0) := HK6.out.b1.cell 5
                have bf5 : (w5.alloc (.cells #[.string xk, .int .i64 xs, .int .i64 xg, .int .i64 xc] 33)).frozen? ⟨w.heap.size + 1, 5, none⟩ = false := HK6.out.b1.frozen 5
                go_wp2
                clear b0 bf0 b1 bf1 b2 bf2 b3 bf3 b4 bf4 b5 bf5
                have k1 := HK6.out.b1.six (.string xk) (.int .i64 xs) (.int .i64 xg) (.int .i64 xc) (.bool true) (.int .i64 0)
                have ht : Tn [w.heap.size + 1] (w5.alloc (.cells #[.string xk, .int .i64 xs, .int .i64 xg, .int .i64 xc] 33)) _ := (Tn.refl _ (w5.alloc (.cells #[.string xk, .int .i64 xs, .int .i64 xg, .int .i64 xc] 33))).six (R := w.heap.size + 1) (.inl (by simp)) (.string xk) (.int .i64 xs) (.int .i64 xg) (.int .i64 xc) (.bool true) (.int .i64 0)
                refine bodyPost_ret (results_one (T' := 74) (cs := [.string xk, .int .i64 xs, .int .i64 xg, .int .i64 xc, .bool true, .int .i64 0]) rfl rfl sp_agg sp_size rfl k1) rfl ?_
                rw [HF.out]
                exact ⟨.inl ⟨rfl, rfl⟩, HK6.out.below.trans (ht.below HK6.out.below.size (by simp))⟩
        · have HF : Hid (out = (Sp.zero, kk)) := by rw [Hid, ← HS.out]; unfold Dl.says; rw [if_pos h0]
          refine ⟨rfl, ?_⟩
          rw [HF.out]
          exact ⟨.inr ⟨h0, rfl⟩, HK2.out.below⟩
      · have k5 : (dk == 5) = false := by simp [h5]
        go_wp2_with fail
        clear z0 z1 z2 z3 z4 z5 z6 z7 z8 z9 z10 z11 hw0 hgm
        clear a0 a1 a2 a3 a4
        clear b0 bf0 b1 bf1 b2 bf2 b3 bf3 b4 bf4 b5 bf5
        rw [← hp] at HD HE ⊢
        clear hp
        refine (outline_any ⟨pf, plo, phi, pr, pl⟩ pp pn pc p len cap L _ HL.out hll (HD.out.below HK0.out.below (Nat.le_refl _))).mono ?_
        have HS : Hid (Dl.says ⟨pf, plo, phi, pr, pl⟩ key (L.map (·.d)) EL (Dl.outl ⟨pf, plo, phi, pr, pl⟩ (L.map (·.d)).reverse) = out) := HSAY.out
        have HE1 : Hid _ := HE.out
        obtain ⟨⟨⟨qf, qlo, qhi, qr, ql⟩, kk⟩, hO⟩ : ∃ o, Dl.outl ⟨pf, plo, phi, pr, pl⟩ (L.map (·.d)).reverse = o := ⟨_, rfl⟩
        rw [hO] at HS HE1
        rw [hO]
        rintro e w2 ⟨hd, hb2⟩
        have HK2 : Hid (Lk w w2 pf plo phi pr pp pn pc) := HK0.out.on hb2
        clear hb2 hO
        simp only at hd
        rcases hd with ⟨h0, rfl⟩ | ⟨h0, rfl⟩
        · subst h0
          obtain ⟨w3, hw3⟩ : ∃ w3, w3 = w2.alloc (.cells #[.bool qf, .string qlo, .string qhi, .int .i64 qr, .slice none 0 0] 29) := ⟨_, rfl⟩
          have HK3 : Hid (Lk w w3 pf plo phi pr pp pn pc) := by rw [hw3]; exact HK2.out.on ((Below.refl _ _).alloc (Nat.le_refl _) _)
          have HP3 : Hid (Bk w3 w2.heap.size 29 #[.bool qf, .string qlo, .string qhi, .int .i64 qr, .slice none 0 0]) := by rw [hw3]; exact Bk.new _ _ _
          have HPW : Hid (w.heap.size + 1 < w2.heap.size) := HK2.out.b1.lt
          go_wp2_with fail
          rw [← hw3]
          clear hw3
          refine (has_any qf qlo qhi qr none 0 0 _ key).mono ?_
          cases hin : Ky.inn ⟨qlo, qhi⟩ key with
          | false =>
            have HS2 : Hid ((if (Ky.lt key qlo || qr == 0) = true then (Sp.zero, 73) else (⟨En.zero, false, qr⟩, 0)) = out) := by rw [Hid, ← HS.out]; unfold Dl.says; simp only [hin]; rfl
            rintro e w4 ⟨rfl, hb4⟩
            have HK4 : Hid (Lk w w4 pf plo phi pr pp pn pc) := HK3.out.on hb4
            have HP4 : Hid (Bk w4 w2.heap.size 29 #[.bool qf, .string qlo, .string qhi, .int .i64 qr, .slice none 0 0]) := HP3.out.below hb4 HP3.out.lt
            clear hb4 hin
            have q0 : w4.cell? ⟨w2.heap.size, 0, none⟩ = some (.bool qf) := HP4.out.cell 0
            have q1 : w4.cell? ⟨w2.heap.size, 1, none⟩ = some (.string qlo) := HP4.out.cell 1
            have q2 : w4.cell? ⟨w2.heap.size, 2, none⟩ = some (.string qhi) := HP4.out.cell 2
            have q3 : w4.cell? ⟨w2.heap.size, 3, none⟩ = some (.int .i64 qr) := HP4.out.cell 3
            have q4 : w4.cell? ⟨w2.heap.size, 4, none⟩ = some (.slice none 0 0) := HP4.out.cell 4
            go_wp2_with fail
            clear q0 q1 q2 q3 q4
            refine (beside_any qf qlo qhi qr none 0 0 key _).mono ?_
            rintro e w5 ⟨hbs, hb5⟩
            have HK5 : Hid (Lk w w5 pf plo phi pr pp pn pc) := HK4.out.on hb5
            clear hb5
            rcases hbs with ⟨hc, rfl⟩ | ⟨hc, rfl⟩
            · have HF : Hid (out = (⟨En.zero, false, qr⟩, 0)) := by rw [Hid, ← HS2.out, hc]; rfl
              clear hc
              have b0 : w5.cell? ⟨w.heap.size + 1, 0, none⟩ = some (.string ⟨#[]⟩) := HK5.out.b1.cell 0
              have bf0 : w5.frozen? ⟨w.heap.size + 1, 0, none⟩ = false := HK5.out.b1.frozen 0
              have b1 : w5.cell? ⟨w.heap.size + 1, 1, none⟩ = some (.int .i64 0) := HK5.out.b1.cell 1
              have bf1 : w5.frozen? ⟨w.heap.size + 1, 1, none⟩ = false := HK5.out.b1.frozen 1
              have b2 : w5.cell? ⟨w.heap.size + 1, 2, none⟩ = some (.int .i64 0) := HK5.out.b1.cell 2
              have bf2 : w5.frozen? ⟨w.heap.size + 1, 2, none⟩ = false := HK5.out.b1.frozen 2
              have b3 : w5.cell? ⟨w.heap.size + 1, 3, none⟩ = some (.int .i64 0) := HK5.out.b1.cell 3
              have bf3 : w5.frozen? ⟨w.heap.size + 1, 3, none⟩ = false := HK5.out.b1.frozen 3
              have b4 : w5.cell? ⟨w.heap.size + 1, 4, none⟩ = some (.bool false) := HK5.out.b1.cell 4
              have bf4 : w5.frozen? ⟨w.heap.size + 1, 4, none⟩ = false := HK5.out.b1.frozen 4
              have b5 : w5.cell? ⟨w.heap.size + 1, 5, none⟩ = some (.int .i64 0) := HK5.out.b1.cell 5
              have bf5 : w5.frozen? ⟨w.heap.size + 1, 5, none⟩ = false := HK5.out.b1.frozen 5
              go_wp2
              clear b0 bf0 b1 bf1 b2 bf2 b3 bf3 b4 bf4 b5 bf5
              have k1 := HK5.out.b1.six (.string ⟨#[]⟩) (.int .i64 0) (.int .i64 0) (.int .i64 0) (.bool false) (.int .i64 qr)
              have ht : Tn [w.heap.size + 1] w5 _ := (Tn.refl _ w5).six (R := w.heap.size + 1) (.inl (by simp)) (.string ⟨#[]⟩) (.int .i64 0) (.int .i64 0) (.int .i64 0) (.bool false) (.int .i64 qr)
              refine bodyPost_ret (results_one (T' := 74) (cs := [.string ⟨#[]⟩, .int .i64 0, .int .i64 0, .int .i64 0, .bool false, .int .i64 qr]) rfl rfl sp_agg sp_size rfl k1) rfl ?_
              rw [HF.out]
              exact ⟨.inl ⟨rfl, rfl⟩, HK5.out.below.trans (ht.below HK5.out.below.size (by simp))⟩
            · have HF : Hid (out = (Sp.zero, 73)) := by rw [Hid, ← HS2.out, hc]; rfl
              refine ⟨rfl, ?_⟩
              rw [HF.out]
              exact ⟨.inr ⟨by decide, rfl⟩, HK5.out.below⟩
          | true =>
            rintro e w4 ⟨rfl, hb4⟩
            have HK4 : Hid (Lk w w4 pf plo phi pr pp pn pc) := HK3.out.on hb4
            have HP4 : Hid (Bk w4 w2.heap.size 29 #[.bool qf, .string qlo, .string qhi, .int .i64 qr, .slice none 0 0]) := HP3.out.below hb4 HP3.out.lt
            clear hb4
            have q0 : w4.cell? ⟨w2.heap.size, 0, none⟩ = some (.bool qf) := HP4.out.cell 0
            have qf0 : w4.frozen? ⟨w2.heap.size, 0, none⟩ = false := HP4.out.frozen 0
            have q1 : w4.cell? ⟨w2.heap.size, 1, none⟩ = some (.string qlo) := HP4.out.cell 1
            have qf1 : w4.frozen? ⟨w2.heap.size, 1, none⟩ = false := HP4.out.frozen 1
            have q2 : w4.cell? ⟨w2.heap.size, 2, none⟩ = some (.string qhi) := HP4.out.cell 2
            have qf2 : w4.frozen? ⟨w2.heap.size, 2, none⟩ = false := HP4.out.frozen 2
            have q3 : w4.cell? ⟨w2.heap.size, 3, none⟩ = some (.int .i64 qr) := HP4.out.cell 3
            have qf3 : w4.frozen? ⟨w2.heap.size, 3, none⟩ = false := HP4.out.frozen 3
            have q4 : w4.cell? ⟨w2.heap.size, 4, none⟩ = some (.slice none 0 0) := HP4.out.cell 4
            have qf4 : w4.frozen? ⟨w2.heap.size, 4, none⟩ = false := HP4.out.frozen 4
            have a0 : w4.cell? ⟨w.heap.size, 0, none⟩ = some (.bool pf) := HK4.out.b0.cell 0
            have a1 : w4.cell? ⟨w.heap.size, 1, none⟩ = some (.string plo) := HK4.out.b0.cell 1
            have a2 : w4.cell? ⟨w.heap.size, 2, none⟩ = some (.string phi) := HK4.out.b0.cell 2
            have a3 : w4.cell? ⟨w.heap.size, 3, none⟩ = some (.int .i64 pr) := HK4.out.b0.cell 3
            have a4 : w4.cell? ⟨w.heap.size, 4, none⟩ = some (.slice pp pn pc) := HK4.out.b0.cell 4
            cases qf with
            | false =>
              have HS2 : Hid (Dl.hitI (Pg.fnd false EL key) = out) := by rw [Hid, ← HS.out]; unfold Dl.says; simp only [hin]; rfl
              have HE2 : Hid _ := HE1.out (by simp) (by simp)
              go_wp2_with fail
              refine Calls.mono (HE2.out _ HK4.out.below) ?_
              rintro e w5 ⟨⟨q, m, c, rfl, hlm, hle, hmr⟩, hb5⟩
              have HK5 : Hid (Lk w w5 pf plo phi pr pp pn pc) := HK4.out.on hb5
              have HP5 : Hid (Bk w5 w2.heap.size 29 #[.bool false, .string qlo, .string qhi, .int .i64 qr, .slice none 0 0]) := HP4.out.below hb5 HP4.out.lt
              have HLM : Hid (EL.length = m) := hlm
              have HLE : Hid (Ens w5 q EL) := hle
              clear hb5 hlm hle
              clear q0 qf0 q1 qf1 q2 qf2 q3 qf3 q4 qf4
              clear a0 a1 a2 a3 a4
              have q0 : w5.cell? ⟨w2.heap.size, 0, none⟩ = some (.bool false) := HP5.out.cell 0
              have qf0 : w5.frozen? ⟨w2.heap.size, 0, none⟩ = false := HP5.out.frozen 0
              have q1 : w5.cell? ⟨w2.heap.size, 1, none⟩ = some (.string qlo) := HP5.out.cell 1
              have qf1 : w5.frozen? ⟨w2.heap.size, 1, none⟩ = false := HP5.out.frozen 1
              have q2 : w5.cell? ⟨w2.heap.size, 2, none⟩ = some (.string qhi) := HP5.out.cell 2
              have qf2 : w5.frozen? ⟨w2.heap.size, 2, none⟩ = false := HP5.out.frozen 2
              have q3 : w5.cell? ⟨w2.heap.size, 3, none⟩ = some (.int .i64 qr) := HP5.out.cell 3
              have qf3 : w5.frozen? ⟨w2.heap.size, 3, none⟩ = false := HP5.out.frozen 3
              have q4 : w5.cell? ⟨w2.heap.size, 4, none⟩ = some (.slice none 0 0) := HP5.out.cell 4
              have qf4 : w5.frozen? ⟨w2.heap.size, 4, none⟩ = false := HP5.out.frozen 4
              obtain ⟨w6, hw6⟩ : ∃ w6, w5.setCell ⟨w2.heap.size, 4, none⟩ (.slice q m c) = w6 := ⟨_, rfl⟩
              have ht6 : Tn [w2.heap.size] w5 w6 := by rw [← hw6]; exact (Tn.refl _ w5).setCell (.inl (by simp)) _
              have HP6 : Hid (Bk w6 w2.heap.size 29 #[.bool false, .string qlo, .string qhi, .int .i64 qr, .slice q m c]) := by rw [← hw6]; exact HP5.out.set 4 _
              have HK6 : Hid (Lk w w6 pf plo phi pr pp pn pc) := ⟨HK5.out.below.trans (ht6.below HK5.out.below.size (by have := HPW.out; simp; omega)), HK5.out.b0.tn ht6 (by have := HPW.out; simp; omega), HK5.out.b1.tn ht6 (by have := HPW.out; simp; omega)⟩
              have HL6 : Hid (Ens w6 q EL) := by rw [← hw6]; exact HLE.out.putSlice q4 _
              have y0 : w6.cell? ⟨w2.heap.size, 0, none⟩ = some (.bool false) := HP6.out.cell 0
              have y1 : w6.cell? ⟨w2.heap.size, 1, none⟩ = some (.string qlo) := HP6.out.cell 1
              have y2 : w6.cell? ⟨w2.heap.size, 2, none⟩ = some (.string qhi) := HP6.out.cell 2
              have y3 : w6.cell? ⟨w2.heap.size, 3, none⟩ = some (.int .i64 qr) := HP6.out.cell 3
              have y4 : w6.cell? ⟨w2.heap.size, 4, none⟩ = some (.slice q m c) := HP6.out.cell 4
              go_wp2_with fail
              clear hw6 ht6
              clear q0 qf0 q1 qf1 q2 qf2 q3 qf3 q4 qf4
              clear y0 y1 y2 y3 y4
              refine (below_any false qlo qhi qr q m c EL key _ HLM.out HL6.out hmr).mono ?_
              rw [HS2.out]
              rintro e w7 ⟨hd7, hb7⟩
              have HK7 : Hid (Lk w w7 pf plo phi pr pp pn pc) := HK6.out.on hb7
              clear hb7
              rcases hd7 with ⟨h0, rfl⟩ | ⟨h0, rfl⟩
              · obtain ⟨⟨⟨xk, xs, xg, xc⟩, xf, xgo⟩, kk⟩ := out
                simp only at h0
                subst h0
                have b0 : w7.cell? ⟨w.heap.size + 1, 0, none⟩ = some (.string ⟨#[]⟩) := HK7.out.b1.cell 0
                have bf0 : w7.frozen? ⟨w.heap.size + 1, 0, none⟩ = false := HK7.out.b1.frozen 0
                have b1 : w7.cell? ⟨w.heap.size + 1, 1, none⟩ = some (.int .i64 0) := HK7.out.b1.cell 1
                have bf1 : w7.frozen? ⟨w.heap.size + 1, 1, none⟩ = false := HK7.out.b1.frozen 1
                have b2 : w7.cell? ⟨w.heap.size + 1, 2, none⟩ = some (.int .i64 0) := HK7.out.b1.cell 2
                have bf2 : w7.frozen? ⟨w.heap.size + 1, 2, none⟩ = false := HK7.out.b1.frozen 2
                have b3 : w7.cell? ⟨w.heap.size + 1, 3, none⟩ = some (.int .i64 0) := HK7.out.b1.cell 3
                have bf3 : w7.frozen? ⟨w.heap.size + 1, 3, none⟩ = false := HK7.out.b1.frozen 3
                have b4 : w7.cell? ⟨w.heap.size + 1, 4, none⟩ = some (.bool false) := HK7.out.b1.cell 4
                have bf4 : w7.frozen? ⟨w.heap.size + 1, 4, none⟩ = false := HK7.out.b1.frozen 4
                have b5 : w7.cell? ⟨w.heap.size + 1, 5, none⟩ = some (.int .i64 0) := HK7.out.b1.cell 5
                have bf5 : w7.frozen? ⟨w.heap.size + 1, 5, none⟩ = false := HK7.out.b1.frozen 5
                go_wp2
                clear b0 bf0 b1 bf1 b2 bf2 b3 bf3 b4 bf4 b5 bf5
                have k1 := HK7.out.b1.six (.string xk) (.int .i64 xs) (.int .i64 xg) (.int .i64 xc) (.bool xf) (.int .i64 xgo)
                have ht : Tn [w.heap.size + 1] w7 _ := (Tn.refl _ w7).six (R := w.heap.size + 1) (.inl (by simp)) (.string xk) (.int .i64 xs) (.int .i64 xg) (.int .i64 xc) (.bool xf) (.int .i64 xgo)
                refine bodyPost_ret (results_one (T' := 74) (cs := [.string xk, .int .i64 xs, .int .i64 xg, .int .i64 xc, .bool xf, .int .i64 xgo]) rfl rfl sp_agg sp_size rfl k1) rfl ?_
                skip
                exact ⟨.inl ⟨rfl, rfl⟩, HK7.out.below.trans (ht.below HK7.out.below.size (by simp))⟩
              · refine ⟨rfl, ?_⟩
                exact ⟨.inr ⟨h0, rfl⟩, HK7.out.below⟩
            | true =>
              obtain ⟨fo, HFO⟩ : ∃ fo, Hid (Pg.find true (Dl.among ⟨pf, plo, phi, pr, pl⟩ key (L.map (·.d)) EL) key = fo) := ⟨_, rfl⟩
              have HS2 : Hid (Dl.hitL fo = out) := by rw [Hid, ← HS.out, ← HFO.out]; unfold Dl.says; simp only [hin]; rfl
              go_wp2_with fail
              refine (inLeaf_any pf plo phi pr pp pn pc pl key p len cap L EL _ HN.out (HX.out.below HK4.out.below (Nat.le_refl _)) hl HL.out hll (HD.out.below HK4.out.below (Nat.le_refl _)) (fun hm W hW => HE1.out (by simp) (by simp [hm]) W (HK4.out.below.trans (hW.mono HK4.out.below.size)))).mono ?_
              rw [HFO.out]
              rintro e w5 ⟨rfl, hb5⟩
              have HK5 : Hid (Lk w w5 pf plo phi pr pp pn pc) := HK4.out.on hb5
              clear hb5
              clear q0 qf0 q1 qf1 q2 qf2 q3 qf3 q4 qf4
              clear a0 a1 a2 a3 a4
              cases fo with
              | none =>
                have HF : Hid (out = (Sp.zero, 0)) := HS2.out.symm
                unfold fv
                simp only
                have HK6 : Hid (Lk w (w5.alloc (.cells #[.string ⟨#[]⟩, .int .i64 0, .int .i64 0, .int .i64 0] 33)) pf plo phi pr pp pn pc) := HK5.out.on ((Below.refl _ _).alloc (Nat.le_refl _) _)
                have b0 : (w5.alloc (.cells #[.string ⟨#[]⟩, .int .i64 0, .int .i64 0, .int .i64 0] 33)).cell? ⟨w.heap.size + 1, 0, none⟩ = some (.string ⟨#[]⟩) := HK6.out.b1.cell 0
                have bf0 : (w5.alloc (.cells #[.string ⟨#[]⟩, .int .i64 0, .int .i64 0, .int .i64 0] 33)).frozen? ⟨w.heap.size + 1, 0, none⟩ = false := HK6.out.b1.frozen 0
                have b1 : (w5.alloc (.cells #[.string ⟨#[]⟩, .int .i64 0, .int .i64 0, .int .i64 0] 33)).cell? ⟨w.heap.size + 1, 1, none⟩ = some (.int .i64 0) := HK6.out.b1.cell 1
                have bf1 : (w5.alloc (.cells #[.string ⟨#[]⟩, .int .i64 0, .int .i64 0, .int .i64 0] 33)).frozen? ⟨w.heap.size + 1, 1, none⟩ = false := HK6.out.b1.frozen 1
                have b2 : (w5.alloc (.cells #[.string ⟨#[]⟩, .int .i64 0, .int .i64 0, .int .i64 0] 33)).cell? ⟨w.heap.size + 1, 2, none⟩ = some (.int .i64 0) := HK6.out.b1.cell 2
                have bf2 : (w5.alloc (.cells #[.string ⟨#[]⟩, .int .i64 0, .int .i64 0, .int .i64 0] 33)).frozen? ⟨w.heap.size + 1, 2, none⟩ = false := HK6.out.b1.frozen 2
                have b3 : (w5.alloc (.cells #[.string ⟨#[]⟩, .int .i64 0, .int .i64 0, .int .i64 0] 33)).cell? ⟨w.heap.size + 1, 3, none⟩ = some (.int .i64 0) := HK6.out.b1.cell 3
                have bf3 : (w5.alloc (.cells #[.string ⟨#[]⟩, .int .i64 0, .int .i64 0, .int .i64 0] 33)).frozen? ⟨w.heap.size + 1, 3, none⟩ = false := HK6.out.b1.frozen 3
                have b4 : (w5.alloc (.cells #[.string ⟨#[]⟩, .int .i64 0, .int .i64 0, .int .i64 0] 33)).cell? ⟨w.heap.size + 1, 4, none⟩ = some (.bool false) := HK6.out.b1.cell 4
                have bf4 : (w5.alloc (.cells #[.string ⟨#[]⟩, .int .i64 0, .int .i64 0, .int .i64 0] 33)).frozen? ⟨w.heap.size + 1, 4, none⟩ = false := HK6.out.b1.frozen 4
                have b5 : (w5.alloc (.cells #[.string ⟨#[]⟩, .int .i64 0, .int .i64 0, .int .i64 0] 33)).cell? ⟨w.heap.size + 1, 5, none⟩ = some (.int .i64 0) := HK6.out.b1.cell 5
                have bf5 : (w5.alloc (.cells #[.string ⟨#[]⟩, .int .i64 0, .int .i64 0, .int .i64 0] 33)).frozen? ⟨w.heap.size + 1, 5, none⟩ = false := HK6.out.b1.frozen 5
                go_wp2
                clear b0 bf0 b1 bf1 b2 bf2 b3 bf3 b4 bf4 b5 bf5
                have k1 := HK6.out.b1.six (.string ⟨#[]⟩) (.int .i64 0) (.int .i64 0) (.int .i64 0) (.bool false) (.int .i64 0)
                have ht : Tn [w.heap.size + 1] (w5.alloc (.cells #[.string ⟨#[]⟩, .int .i64 0, .int .i64 0, .int .i64 0] 33)) _ := (Tn.refl _ (w5.alloc (.cells #[.string ⟨#[]⟩, .int .i64 0, .int .i64 0, .int .i64 0] 33))).six (R := w.heap.size + 1) (.inl (by simp)) (.string ⟨#[]⟩) (.int .i64 0) (.int .i64 0) (.int .i64 0) (.bool false) (.int .i64 0)
                refine bodyPost_ret (results_one (T' := 74) (cs := [.string ⟨#[]⟩, .int .i64 0, .int .i64 0, .int .i64 0, .bool false, .int .i64 0]) rfl rfl sp_agg sp_size rfl k1) rfl ?_
                rw [HF.out]
                exact ⟨.inl ⟨rfl, rfl⟩, HK6.out.below.trans (ht.below HK6.out.below.size (by simp))⟩
              | some x =>
                obtain ⟨xk, xs, xg, xc⟩ := x
                have HF : Hid (out = (⟨⟨xk, xs, xg, xc⟩, true, 0⟩, 0)) := HS2.out.symm
                unfold fv
                simp only
                have HK6 : Hid (Lk w (w5.alloc (.cells #[.string xk, .int .i64 xs, .int .i64 xg, .int .i64 xc] 33)) pf plo phi pr pp pn pc) := HK5.out.on ((Below.refl _ _).alloc (Nat.le_refl _) _)
                have b0 : (w5.alloc (.cells #[.string xk, .int .i64 xs, .int .i64 xg, .int .i64 xc] 33)).cell? ⟨w.heap.size + 1, 0, none⟩ = some (.string ⟨#[]⟩) := HK6.out.b1.cell 0
                have bf0 : (w5.alloc (.cells #[.string xk, .int .i64 xs, .int .i64 xg, .int .i64 xc] 33)).frozen? ⟨w.heap.size + 1, 0, none⟩ = false := HK6.out.b1.frozen 0
                have b1 : (w5.alloc (.cells #[.string xk, .int .i64 xs, .int .i64 xg, .int .i64 xc] 33)).cell? ⟨w.heap.size + 1, 1, none⟩ = some (.int .i64 0) := HK6.out.b1.cell 1
                have bf1 : (w5.alloc (.cells #[.string xk, .int .i64 xs, .int .i64 xg, .int .i64 xc] 33)).frozen? ⟨w.heap.size + 1, 1, none⟩ = false := HK6.out.b1.frozen 1
                have b2 : (w5.alloc (.cells #[.string xk, .int .i64 xs, .int .i64 xg, .int .i64 xc] 33)).cell? ⟨w.heap.size + 1, 2, none⟩ = some (.int .i64 0) := HK6.out.b1.cell 2
                have bf2 : (w5.alloc (.cells #[.string xk, .int .i64 xs, .int .i64 xg, .int .i64 xc] 33)).frozen? ⟨w.heap.size + 1, 2, none⟩ = false := HK6.out.b1.frozen 2
                have b3 : (w5.alloc (.cells #[.string xk, .int .i64 xs, .int .i64 xg, .int .i64 xc] 33)).cell? ⟨w.heap.size + 1, 3, none⟩ = some (.int .i64 0) := HK6.out.b1.cell 3
                have bf3 : (w5.alloc (.cells #[.string xk, .int .i64 xs, .int .i64 xg, .int .i64 xc] 33)).frozen? ⟨w.heap.size + 1, 3, none⟩ = false := HK6.out.b1.frozen 3
                have b4 : (w5.alloc (.cells #[.string xk, .int .i64 xs, .int .i64 xg, .int .i64 xc] 33)).cell? ⟨w.heap.size + 1, 4, none⟩ = some (.bool false) := HK6.out.b1.cell 4
                have bf4 : (w5.alloc (.cells #[.string xk, .int .i64 xs, .int .i64 xg, .int .i64 xc] 33)).frozen? ⟨w.heap.size + 1, 4, none⟩ = false := HK6.out.b1.frozen 4
                have b5 : (w5.alloc (.cells #[.string xk, .int .i64 xs, .int .i64 xg, .int .i64 xc] 33)).cell? ⟨w.heap.size + 1, 5, none⟩ = some (.int .i64 0) := HK6.out.b1.cell 5
                have bf5 : (w5.alloc (.cells #[.string xk, .int .i64 xs, .int .i64 xg, .int .i64 xc] 33)).frozen? ⟨w.heap.size + 1, 5, none⟩ = false := HK6.out.b1.frozen 5
                go_wp2
                clear b0 bf0 b1 bf1 b2 bf2 b3 bf3 b4 bf4 b5 bf5
                have k1 := HK6.out.b1.six (.string xk) (.int .i64 xs) (.int .i64 xg) (.int .i64 xc) (.bool true) (.int .i64 0)
                have ht : Tn [w.heap.size + 1] (w5.alloc (.cells #[.string xk, .int .i64 xs, .int .i64 xg, .int .i64 xc] 33)) _ := (Tn.refl _ (w5.alloc (.cells #[.string xk, .int .i64 xs, .int .i64 xg, .int .i64 xc] 33))).six (R := w.heap.size + 1) (.inl (by simp)) (.string xk) (.int .i64 xs) (.int .i64 xg) (.int .i64 xc) (.bool true) (.int .i64 0)
                refine bodyPost_ret (results_one (T' := 74) (cs := [.string xk, .int .i64 xs, .int .i64 xg, .int .i64 xc, .bool true, .int .i64 0]) rfl rfl sp_agg sp_size rfl k1) rfl ?_
                rw [HF.out]
                exact ⟨.inl ⟨rfl, rfl⟩, HK6.out.below.trans (ht.below HK6.out.below.size (by simp))⟩
        · have HF : Hid (out = (Sp.zero, kk)) := by rw [Hid, ← HS.out]; unfold Dl.says; rw [if_pos h0]
          refine ⟨rfl, ?_⟩
          rw [HF.out]
          exact ⟨.inr ⟨h0, rfl⟩, HK2.out.below⟩

end Go.Proofs.YtmfkiiedmclafaaGreat

namespace Go.Proofs.YtmfkiiedmclafaaGreat
open Go.RowKit Go.Sort
set_option linter.unusedVariables false
set_option maxRecDepth 100000

theorem caughtS_idle (B : Nat) (w : World) :
    CallsD Tryz.prog 121 #[.pointer (some ⟨B, 0, none⟩)] .returning w fun e u' w' => e = .returned (.tuple #[]) ∧ u' = .returning ∧ w' = w := by
  refine callsD_of_wpS Tryz.func121 rfl fun c₀ cs hu => ?_
  apply wpS_seq
  apply wpS_region
  simp [wpOpsS, go_sem, recoverD, hu, Tryz.ntmps121, Exit.thenS]
  refine wpS_of_wp ?_
  simp only [Array.replicate_succ, Array.replicate_zero, List.push_toArray, List.append_toArray, List.setIfInBounds_toArray, List.set_cons_zero, List.set_cons_succ, List.nil_append, List.cons_append]
  go_wp2
  cases c₀
  simp_all [bodyPostS, results, Tryz.results121]

theorem caughtS_no (B : Nat) (k x : Int) (w : World) (hc : w.cell? ⟨B, 0, none⟩ = some (.int .i64 x)) (hz : w.frozen? ⟨B, 0, none⟩ = false) :
    CallsD Tryz.prog 121 #[.pointer (some ⟨B, 0, none⟩)] (.panicking [{ v := .iface 24 (.int .i64 k), recovered := false }]) w fun e u' w' => e = .returned (.tuple #[]) ∧ u' = .panicking [{ v := .iface 24 (.int .i64 k), recovered := true }] ∧ w' = w.setCell ⟨B, 0, none⟩ (.int .i64 k) := by
  refine callsD_of_wpS Tryz.func121 rfl fun c₀ cs hu => ?_
  apply wpS_seq
  apply wpS_region
  simp [wpOpsS, go_sem, recoverD, hu, Tryz.ntmps121, Exit.thenS]
  refine wpS_of_wp ?_
  simp only [Array.replicate_succ, Array.replicate_zero, List.push_toArray, List.append_toArray, List.setIfInBounds_toArray, List.set_cons_zero, List.set_cons_succ, List.nil_append, List.cons_append]
  go_wp2_with fail
  refine (refusal_any k _).mono ?_
  rintro e w1 ⟨rfl, rfl⟩
  go_wp2
  simp [bodyPostS, results, Tryz.results121]


theorem results_se {fn : Func} {t u : Tmp} {T1 T2 : TypeId} (h : fn.results = #[.cell t 74, .cell u 24]) {tmps : Array Value} {w : World} {b c : Nat} (ht : tmps.getD t undef = .pointer (some ⟨b, 0, none⟩)) (hu : tmps.getD u undef = .pointer (some ⟨c, 0, none⟩)) {cs : List Value} {i : Int} (hn : cs.length = 6) (hk : Bk w b T1 cs.toArray) (hk2 : Bk w c T2 #[.int .i64 i]) :
    (results fn tmps).run Tryz.prog w = .ok (.tuple #[.agg cs.toArray, .int .i64 i]) w := by
  have c1 : w.cell? ⟨c, 0, none⟩ = some (.int .i64 i) := hk2.cell 0
  have hy : ∀ w : World, (loadVar 24 ⟨c, 0, none⟩).run Tryz.prog w = (load ⟨c, 0, none⟩).run Tryz.prog w := fun w => by kernel_rfl
  have ht' : tmps[t]?.getD undef = .pointer (some ⟨b, 0, none⟩) := by simpa using ht
  have hu' : tmps[u]?.getD undef = .pointer (some ⟨c, 0, none⟩) := by simpa using hu
  simp [results, h, ht', hu', asAddr, run_loadVar_cells sp_agg sp_size hn hk, hy, c1]

set_option maxHeartbeats 1000000 in
theorem caughtS_any (g : Nat) (lb : Array Value) (eg : ∀ args w, (callFunc g args).run Tryz.prog w = .ok (.enter g args) w) (out : Sp × Int) (hz : out.2 ≠ 0 → out.1 = Sp.zero) (w : World)
    (h : Calls Tryz.prog g lb ((w.alloc (.cells #[.string ⟨#[]⟩, .int .i64 0, .int .i64 0, .int .i64 0, .bool false, .int .i64 0] 74)).alloc (.cells #[.int .i64 0] 24)) fun e w' => DoneS ((w.alloc (.cells #[.string ⟨#[]⟩, .int .i64 0, .int .i64 0, .int .i64 0, .bool false, .int .i64 0] 74)).alloc (.cells #[.int .i64 0] 24)) out e w') :
    Calls Tryz.prog 102 #[.func (.func g) #[] lb] w fun e w' => e = .returned (.tuple #[spv out.1.e out.1.f out.1.g, .int .i64 out.2]) ∧ Below w.heap.size w w' := by
  have hmf : ∀ (fn : Fn) (first cap : Array Value) (w : World), (Instr.makeFunc fn first cap).run Tryz.prog w = .ok (.func fn first cap) w := fun _ _ _ _ => rfl
  have H : Hid _ := h
  have HB0 : Hid (Below w.heap.size w ((w.alloc (.cells #[.string ⟨#[]⟩, .int .i64 0, .int .i64 0, .int .i64 0, .bool false, .int .i64 0] 74)).alloc (.cells #[.int .i64 0] 24))) := ((Below.refl _ _).alloc (Nat.le_refl _) _).alloc (by simp) _
  have HK0 : Hid (Bk ((w.alloc (.cells #[.string ⟨#[]⟩, .int .i64 0, .int .i64 0, .int .i64 0, .bool false, .int .i64 0] 74)).alloc (.cells #[.int .i64 0] 24)) w.heap.size 74 #[.string ⟨#[]⟩, .int .i64 0, .int .i64 0, .int .i64 0, .bool false, .int .i64 0]) := (Bk.new _ _ _).alloc _
  have HE0 : Hid (Bk ((w.alloc (.cells #[.string ⟨#[]⟩, .int .i64 0, .int .i64 0, .int .i64 0, .bool false, .int .i64 0] 74)).alloc (.cells #[.int .i64 0] 24)) (w.heap.size + 1) 24 #[.int .i64 0]) := Bk.new1 _ _ _ _
  obtain ⟨⟨⟨xk, xs, xg, xc⟩, xf, xgo⟩, kk⟩ := out
  simp only at hz
  clear h
  go_enter_defers Tryz.func102, Tryz.ntmps102
  go_wp2_with fail
  refine Calls.mono H.out ?_
  rintro e w2 ⟨hd, hb⟩
  have HK2 : Hid (Bk w2 w.heap.size 74 #[.string ⟨#[]⟩, .int .i64 0, .int .i64 0, .int .i64 0, .bool false, .int .i64 0]) := HK0.out.below hb HK0.out.lt
  have HE2 : Hid (Bk w2 (w.heap.size + 1) 24 #[.int .i64 0]) := HE0.out.below hb HE0.out.lt
  have HB2 : Hid (Below w.heap.size w w2) := HB0.out.trans (hb.mono HB0.out.size)
  clear hb H
  simp only at hd
  rcases hd with ⟨h0, rfl⟩ | ⟨h0, rfl⟩
  · subst h0
    have b0 : w2.cell? ⟨w.heap.size, 0, none⟩ = some (.string ⟨#[]⟩) := HK2.out.cell 0
    have bf0 : w2.frozen? ⟨w.heap.size, 0, none⟩ = false := HK2.out.frozen 0
    have b1 : w2.cell? ⟨w.heap.size, 1, none⟩ = some (.int .i64 0) := HK2.out.cell 1
    have bf1 : w2.frozen? ⟨w.heap.size, 1, none⟩ = false := HK2.out.frozen 1
    have b2 : w2.cell? ⟨w.heap.size, 2, none⟩ = some (.int .i64 0) := HK2.out.cell 2
    have bf2 : w2.frozen? ⟨w.heap.size, 2, none⟩ = false := HK2.out.frozen 2
    have b3 : w2.cell? ⟨w.heap.size, 3, none⟩ = some (.int .i64 0) := HK2.out.cell 3
    have bf3 : w2.frozen? ⟨w.heap.size, 3, none⟩ = false := HK2.out.frozen 3
    have b4 : w2.cell? ⟨w.heap.size, 4, none⟩ = some (.bool false) := HK2.out.cell 4
    have bf4 : w2.frozen? ⟨w.heap.size, 4, none⟩ = false := HK2.out.frozen 4
    have b5 : w2.cell? ⟨w.heap.size, 5, none⟩ = some (.int .i64 0) := HK2.out.cell 5
    have bf5 : w2.frozen? ⟨w.heap.size, 5, none⟩ = false := HK2.out.frozen 5
    have d0 : w2.cell? ⟨w.heap.size + 1, 0, none⟩ = some (.int .i64 0) := HE2.out.cell 0
    have g0 : w2.frozen? ⟨w.heap.size + 1, 0, none⟩ = false := HE2.out.frozen 0
    go_wp2
    refine leaves_cons (f := 121) (args := #[.pointer (some ⟨w.heap.size + 1, 0, none⟩)]) (by simp) (by simp [go_sem]) ?_
    refine (caughtS_idle (w.heap.size + 1) _).mono ?_
    rintro e u' w'' ⟨rfl, rfl, rfl⟩
    clear b0 bf0 b1 bf1 b2 bf2 b3 bf3 b4 bf4 b5 bf5
    clear d0 g0
    have k1 := (HK2.out.six (.string xk) (.int .i64 xs) (.int .i64 xg) (.int .i64 xc) (.bool xf) (.int .i64 xgo)).other (p := ⟨w.heap.size + 1, 0, none⟩) (by simp) (.int .i64 0)
    have k2 := (HE2.out.sixO (R := w.heap.size) (by omega) (.string xk) (.int .i64 xs) (.int .i64 xg) (.int .i64 xc) (.bool xf) (.int .i64 xgo)).set 0 (.int .i64 0)
    have ht : Tn [w.heap.size, w.heap.size + 1] w2 _ := ((Tn.refl _ w2).six (R := w.heap.size) (.inl (by simp)) (.string xk) (.int .i64 xs) (.int .i64 xg) (.int .i64 xc) (.bool xf) (.int .i64 xgo)).setCell (p := ⟨w.heap.size + 1, 0, none⟩) (.inl (by simp)) (.int .i64 0)
    refine ⟨_, results_se (cs := [.string xk, .int .i64 xs, .int .i64 xg, .int .i64 xc, .bool xf, .int .i64 xgo]) rfl rfl rfl rfl k1 k2, ?_⟩
    exact ⟨rfl, HB2.out.trans (ht.below HB2.out.size (by simp))⟩
  · have hzz := hz h0
    simp only [Sp.mk.injEq, En.mk.injEq] at hzz
    obtain ⟨⟨rfl, rfl, rfl, rfl⟩, rfl, rfl⟩ := hzz
    refine leaves_cons (f := 121) (args := #[.pointer (some ⟨w.heap.size + 1, 0, none⟩)]) (by simp) (by simp [go_sem]) ?_
    refine (caughtS_no (w.heap.size + 1) kk 0 _ (HE2.out.cell 0) (HE2.out.frozen 0)).mono ?_
    rintro e u' w'' ⟨rfl, rfl, rfl⟩
    have k1 := HK2.out.other (p := ⟨w.heap.size + 1, 0, none⟩) (by simp) (.int .i64 kk)
    have k2 := HE2.out.set 0 (.int .i64 kk)
    have ht : Tn [w.heap.size + 1] w2 _ := (Tn.refl _ w2).setCell (p := ⟨w.heap.size + 1, 0, none⟩) (.inl (by simp)) (.int .i64 kk)
    refine ⟨_, results_se (cs := [.string ⟨#[]⟩, .int .i64 0, .int .i64 0, .int .i64 0, .bool false, .int .i64 0]) rfl rfl rfl rfl k1 k2, ?_⟩
    exact ⟨rfl, HB2.out.trans (ht.below HB2.out.size (by simp))⟩

theorem Dl.look_zero (g : Pp) (key : ByteArray) (ds : List De) (EL : List En) (h : (Dl.look g key ds EL).2 ≠ 0) : (Dl.look g key ds EL).1 = Sp.zero := by
  unfold Dl.look at h ⊢
  split
  · rename_i n hn
    rw [hn] at h
    exact absurd rfl h
  · rename_i hn
    rw [hn] at h
    simp only at h
    unfold Dl.says at h ⊢
    split
    · rfl
    · rename_i h1
      rw [if_neg h1] at h
      split
      · rename_i h2
        rw [if_pos h2] at h
        split
        · rfl
        · rename_i h3
          rw [if_neg h3] at h
          exact absurd rfl h
      · rename_i h2
        rw [if_neg h2] at h
        split
        · rename_i h3
          rw [if_pos h3] at h
          cases hf : Pg.fnd false EL key with
          | none => rfl
          | some x => rw [hf] at h; exact absurd rfl h
        · rename_i h3
          rw [if_neg h3] at h
          cases hf : Pg.find true (Dl.among g key ds EL) key with
          | none => rfl
          | some x => rw [hf] at h; exact absurd rfl h

set_option maxHeartbeats 2000000 in
theorem look_any (pf : Bool) (plo phi : ByteArray) (pr : Int) (pp : Option Addr) (pn pc : Nat) (pl : List En) (key : ByteArray) (p : Option Addr) (len cap : Nat) (L : List Dm) (EL : List En) (w : World) (hlen : pl.length = pn) (hx : Ens w pp pl) (hl : pn ≤ 3518437208780) (hL : L.length = len) (hll : len ≤ 4398046511104) (hD : Des w p L)
    (hE : (Dl.outl ⟨pf, plo, phi, pr, pl⟩ (L.map (·.d)).reverse).2 = 0 → ((Dl.outl ⟨pf, plo, phi, pr, pl⟩ (L.map (·.d)).reverse).1.leaf = false ∨ Pg.may pf ⟨plo, phi⟩ pr pl = false) → ∀ W, Below w.heap.size w W → Calls Tryz.prog 120 #[pgv pf plo phi pr pp pn pc, .slice p len cap] W fun e w' => Led W EL e w') :
    Calls Tryz.prog 64 #[pgv pf plo phi pr pp pn pc, .string key, .slice p len cap] w fun e w' => e = .returned (.tuple #[spv (Dl.look ⟨pf, plo, phi, pr, pl⟩ key (L.map (·.d)) EL).1.e (Dl.look ⟨pf, plo, phi, pr, pl⟩ key (L.map (·.d)) EL).1.f (Dl.look ⟨pf, plo, phi, pr, pl⟩ key (L.map (·.d)) EL).1.g, .int .i64 (Dl.look ⟨pf, plo, phi, pr, pl⟩ key (L.map (·.d)) EL).2]) ∧ Below w.heap.size w w' := by
  have hmf : ∀ (fn : Fn) (first cap : Array Value) (w : World), (Instr.makeFunc fn first cap).run Tryz.prog w = .ok (.func fn first cap) w := fun _ _ _ _ => rfl
  have eg : ∀ args w, (callFunc 103 args).run Tryz.prog w = .ok (.enter 103 args) w := enters_of Tryz.func103 (by kernel_rfl) rfl
  have hz := Dl.look_zero ⟨pf, plo, phi, pr, pl⟩ key (L.map (·.d)) EL
  have hq := fun (W : World) (hW : Below w.heap.size w W) => looked_any pf plo phi pr pp pn pc pl key p len cap L EL W hlen (hx.below hW (Nat.le_refl _)) hl hL hll (hD.below hW (Nat.le_refl _)) (fun h1 h2 W' hW' => hE h1 h2 W' (hW.trans (hW'.mono hW.size)))
  obtain ⟨out, HO⟩ : ∃ out, Hid (Dl.look ⟨pf, plo, phi, pr, pl⟩ key (L.map (·.d)) EL = out) := ⟨_, rfl⟩
  rw [HO.out] at hz
  simp only [HO.out] at hq
  rw [HO.out]
  clear HO hE hD hx hlen hL
  have HQ : Hid _ := hq
  clear hq
  obtain ⟨w0, hw0⟩ : ∃ w0, (((w.alloc (.cells #[.bool pf, .string plo, .string phi, .int .i64 pr, .slice pp pn pc] 29)).alloc (.cells #[.string key] 9)).alloc (.cells #[.slice p len cap] 64)).alloc (.cells #[.string ⟨#[]⟩, .int .i64 0, .int .i64 0, .int .i64 0, .bool false, .int .i64 0] 74) = w0 := ⟨_, rfl⟩
  have HB0 : Hid (Below w.heap.size w w0) := by rw [← hw0]; exact ((((Below.refl _ _).alloc (Nat.le_refl _) _).alloc (by simp) _).alloc (by simp; omega) _).alloc (by simp; omega) _
  have hk0 : Bk w0 w.heap.size 29 #[.bool pf, .string plo, .string phi, .int .i64 pr, .slice pp pn pc] := by rw [← hw0]; exact (((Bk.new _ _ _).alloc _).alloc _).alloc _
  have hk1 : Bk w0 (w.heap.size + 1) 9 #[.string key] := by rw [← hw0]; exact ((Bk.new1 _ _ _ _).alloc _).alloc _
  have hk2 : Bk w0 (w.heap.size + 1 + 1) 64 #[.slice p len cap] := by rw [← hw0]; exact (Bk.new2 _ _ _ _ _).alloc _
  have HR0 : Hid (Bk w0 (w.heap.size + 1 + 1 + 1) 74 #[.string ⟨#[]⟩, .int .i64 0, .int .i64 0, .int .i64 0, .bool false, .int .i64 0]) := by
    rw [← hw0]
    unfold Hid
    have := Bk.new (((w.alloc (.cells #[.bool pf, .string plo, .string phi, .int .i64 pr, .slice pp pn pc] 29)).alloc (.cells #[.string key] 9)).alloc (.cells #[.slice p len cap] 64)) 74 #[.string ⟨#[]⟩, .int .i64 0, .int .i64 0, .int .i64 0, .bool false, .int .i64 0]
    simpa using this
  have hl1 : ∀ (W : World), Below w0.heap.size w0 W → Calls Tryz.prog 103 #[.pointer (some ⟨w.heap.size, 0, none⟩), .pointer (some ⟨w.heap.size + 1, 0, none⟩), .pointer (some ⟨w.heap.size + 1 + 1, 0, none⟩)] W fun e w' => DoneS W out e w' := by
    intro W hW
    have HA : Hid (Bk W w.heap.size 29 #[.bool pf, .string plo, .string phi, .int .i64 pr, .slice pp pn pc]) := hk0.below hW hk0.lt
    have HY : Hid (Bk W (w.heap.size + 1) 9 #[.string key]) := hk1.below hW hk1.lt
    have HZ : Hid (Bk W (w.heap.size + 1 + 1) 64 #[.slice p len cap]) := hk2.below hW hk2.lt
    have HWW : Hid (Below w.heap.size w W) := HB0.out.trans (hW.mono HB0.out.size)
    clear hk0 hk1 hk2 hW hw0 hz
    obtain ⟨w1, hw1⟩ : ∃ w1, W.alloc (.cells #[.string ⟨#[]⟩, .int .i64 0, .int .i64 0, .int .i64 0, .bool false, .int .i64 0] 74) = w1 := ⟨_, rfl⟩
    have HB1 : Hid (Below W.heap.size W w1) := by rw [← hw1]; exact (Below.refl _ _).alloc (Nat.le_refl _) _
    have HR1 : Hid (Bk w1 W.heap.size 74 #[.string ⟨#[]⟩, .int .i64 0, .int .i64 0, .int .i64 0, .bool false, .int .i64 0]) := by rw [← hw1]; exact Bk.new _ _ _
    have hka : Bk w1 w.heap.size 29 #[.bool pf, .string plo, .string phi, .int .i64 pr, .slice pp pn pc] := HA.out.below HB1.out HA.out.lt
    have hkb : Bk w1 (w.heap.size + 1) 9 #[.string key] := HY.out.below HB1.out HY.out.lt
    have hkc : Bk w1 (w.heap.size + 1 + 1) 64 #[.slice p len cap] := HZ.out.below HB1.out HZ.out.lt
    have a0 : w1.cell? ⟨w.heap.size, 0, none⟩ = some (.bool pf) := hka.cell 0
    have a1 : w1.cell? ⟨w.heap.size, 1, none⟩ = some (.string plo) := hka.cell 1
    have a2 : w1.cell? ⟨w.heap.size, 2, none⟩ = some (.string phi) := hka.cell 2
    have a3 : w1.cell? ⟨w.heap.size, 3, none⟩ = some (.int .i64 pr) := hka.cell 3
    have a4 : w1.cell? ⟨w.heap.size, 4, none⟩ = some (.slice pp pn pc) := hka.cell 4
    have y0 : w1.cell? ⟨w.heap.size + 1, 0, none⟩ = some (.string key) := hkb.cell 0
    have y1 : w1.cell? ⟨w.heap.size + 1 + 1, 0, none⟩ = some (.slice p len cap) := hkc.cell 0
    clear hka hkb hkc
    go_enter Tryz.func103, Tryz.ntmps103
    go_wp2_with fail
    clear hw1 y0 y1
    clear a0 a1 a2 a3 a4
    refine (HQ.out _ (HWW.out.trans (HB1.out.mono HWW.out.size))).mono ?_
    rintro e w2 ⟨hd, hb2⟩
    have HB2 : Hid (Below W.heap.size W w2) := HB1.out.trans (hb2.mono HB1.out.size)
    have HR2 : Hid (Bk w2 W.heap.size 74 #[.string ⟨#[]⟩, .int .i64 0, .int .i64 0, .int .i64 0, .bool false, .int .i64 0]) := HR1.out.below hb2 HR1.out.lt
    clear hb2
    rcases hd with ⟨h0, rfl⟩ | ⟨h0, rfl⟩
    · obtain ⟨⟨⟨xk, xs, xg, xc⟩, xf, xgo⟩, kk⟩ := out
      simp only at h0
      subst h0
      have b0 : w2.cell? ⟨W.heap.size, 0, none⟩ = some (.string ⟨#[]⟩) := HR2.out.cell 0
      have bf0 : w2.frozen? ⟨W.heap.size, 0, none⟩ = false := HR2.out.frozen 0
      have b1 : w2.cell? ⟨W.heap.size, 1, none⟩ = some (.int .i64 0) := HR2.out.cell 1
      have bf1 : w2.frozen? ⟨W.heap.size, 1, none⟩ = false := HR2.out.frozen 1
      have b2 : w2.cell? ⟨W.heap.size, 2, none⟩ = some (.int .i64 0) := HR2.out.cell 2
      have bf2 : w2.frozen? ⟨W.heap.size, 2, none⟩ = false := HR2.out.frozen 2
      have b3 : w2.cell? ⟨W.heap.size, 3, none⟩ = some (.int .i64 0) := HR2.out.cell 3
      have bf3 : w2.frozen? ⟨W.heap.size, 3, none⟩ = false := HR2.out.frozen 3
      have b4 : w2.cell? ⟨W.heap.size, 4, none⟩ = some (.bool false) := HR2.out.cell 4
      have bf4 : w2.frozen? ⟨W.heap.size, 4, none⟩ = false := HR2.out.frozen 4
      have b5 : w2.cell? ⟨W.heap.size, 5, none⟩ = some (.int .i64 0) := HR2.out.cell 5
      have bf5 : w2.frozen? ⟨W.heap.size, 5, none⟩ = false := HR2.out.frozen 5
      go_wp2
      clear b0 bf0 b1 bf1 b2 bf2 b3 bf3 b4 bf4 b5 bf5
      have k1 := HR2.out.six (.string xk) (.int .i64 xs) (.int .i64 xg) (.int .i64 xc) (.bool xf) (.int .i64 xgo)
      have ht : Tn [W.heap.size] w2 _ := (Tn.refl _ w2).six (R := W.heap.size) (.inl (by simp)) (.string xk) (.int .i64 xs) (.int .i64 xg) (.int .i64 xc) (.bool xf) (.int .i64 xgo)
      refine bodyPost_ret (results_one (T' := 74) (cs := [.string xk, .int .i64 xs, .int .i64 xg, .int .i64 xc, .bool xf, .int .i64 xgo]) rfl rfl sp_agg sp_size rfl k1) rfl ?_
      exact ⟨.inl ⟨rfl, rfl⟩, HB2.out.trans (ht.below HB2.out.size (by simp))⟩
    · refine ⟨rfl, ?_⟩
      exact ⟨.inr ⟨h0, rfl⟩, HB2.out⟩
  have hcc := caughtS_any 103 #[.pointer (some ⟨w.heap.size, 0, none⟩), .pointer (some ⟨w.heap.size + 1, 0, none⟩), .pointer (some ⟨w.heap.size + 1 + 1, 0, none⟩)] eg out hz w0 (hl1 _ (((Below.refl _ _).alloc (Nat.le_refl _) _).alloc (by simp) _))
  have HC : Hid _ := hcc
  obtain ⟨⟨⟨xk, xs, xg, xc⟩, xf, xgo⟩, kk⟩ := out
  clear hcc hl1 hk0 hk1 hk2 hz
  go_enter Tryz.func64, Tryz.ntmps64
  go_wp2_with fail
  clear hw0
  refine Calls.mono HC.out ?_
  rintro e w1 ⟨rfl, hb1⟩
  have HB1 : Hid (Below w.heap.size w w1) := HB0.out.trans (hb1.mono HB0.out.size)
  have HR1 : Hid (Bk w1 (w.heap.size + 1 + 1 + 1) 74 #[.string ⟨#[]⟩, .int .i64 0, .int .i64 0, .int .i64 0, .bool false, .int .i64 0]) := HR0.out.below hb1 HR0.out.lt
  clear hb1
  have b0 : w1.cell? ⟨w.heap.size + 1 + 1 + 1, 0, none⟩ = some (.string ⟨#[]⟩) := HR1.out.cell 0
  have bf0 : w1.frozen? ⟨w.heap.size + 1 + 1 + 1, 0, none⟩ = false := HR1.out.frozen 0
  have b1 : w1.cell? ⟨w.heap.size + 1 + 1 + 1, 1, none⟩ = some (.int .i64 0) := HR1.out.cell 1
  have bf1 : w1.frozen? ⟨w.heap.size + 1 + 1 + 1, 1, none⟩ = false := HR1.out.frozen 1
  have b2 : w1.cell? ⟨w.heap.size + 1 + 1 + 1, 2, none⟩ = some (.int .i64 0) := HR1.out.cell 2
  have bf2 : w1.frozen? ⟨w.heap.size + 1 + 1 + 1, 2, none⟩ = false := HR1.out.frozen 2
  have b3 : w1.cell? ⟨w.heap.size + 1 + 1 + 1, 3, none⟩ = some (.int .i64 0) := HR1.out.cell 3
  have bf3 : w1.frozen? ⟨w.heap.size + 1 + 1 + 1, 3, none⟩ = false := HR1.out.frozen 3
  have b4 : w1.cell? ⟨w.heap.size + 1 + 1 + 1, 4, none⟩ = some (.bool false) := HR1.out.cell 4
  have bf4 : w1.frozen? ⟨w.heap.size + 1 + 1 + 1, 4, none⟩ = false := HR1.out.frozen 4
  have b5 : w1.cell? ⟨w.heap.size + 1 + 1 + 1, 5, none⟩ = some (.int .i64 0) := HR1.out.cell 5
  have bf5 : w1.frozen? ⟨w.heap.size + 1 + 1 + 1, 5, none⟩ = false := HR1.out.frozen 5
  go_wp2
  clear b0 bf0 b1 bf1 b2 bf2 b3 bf3 b4 bf4 b5 bf5
  have k1 := HR1.out.six (.string xk) (.int .i64 xs) (.int .i64 xg) (.int .i64 xc) (.bool xf) (.int .i64 xgo)
  have ht : Tn [w.heap.size + 1 + 1 + 1] w1 _ := (Tn.refl _ w1).six (R := w.heap.size + 1 + 1 + 1) (.inl (by simp)) (.string xk) (.int .i64 xs) (.int .i64 xg) (.int .i64 xc) (.bool xf) (.int .i64 xgo)
  refine bodyPost_ret (results_two (T' := 74) (cs := [.string xk, .int .i64 xs, .int .i64 xg, .int .i64 xc, .bool xf, .int .i64 xgo]) rfl rfl sp_agg sp_size rfl k1) rfl ?_
  exact ⟨rfl, HB1.out.trans (ht.below HB1.out.size (by simp; omega))⟩

end Go.Proofs.YtmfkiiedmclafaaGreat

namespace Go.Proofs.YtmfkiiedmclafaaGreat
open Go.RowKit Go.Shelf
set_option linter.unusedVariables false
set_option linter.unusedSimpArgs false
set_option maxRecDepth 100000
set_option linter.unusedSectionVars false
variable [Inhabited Nod]
variable {w : World} {v : Value}

theorem pt_info : (Tryz.prog.info? 124).map (·.size) = some 7 := by kernel_rfl
theorem pg_info : (Tryz.prog.info? 29).map (·.size) = some 5 := by kernel_rfl
theorem pz_one : (#[.slice none 0 0, .slice none 0 0, .bool false, .string ⟨#[]⟩, .string ⟨#[]⟩, .int .i64 0, .slice none 0 0] : Array Value).all (·.oneCell') = true := by kernel_rfl
theorem gz_one : (#[.bool false, .string ⟨#[]⟩, .string ⟨#[]⟩, .int .i64 0, .slice none 0 0] : Array Value).all (·.oneCell') = true := by kernel_rfl

set_option maxHeartbeats 2000000 in
theorem page_nm (h : NmN w v) (s g : Int) : Calls Tryz.prog 24 #[v, .agg #[.int .i64 s, .int .i64 g]] w fun e w' => e = .returned (.tuple #[.agg #[.bool false, .string ⟨#[]⟩, .string ⟨#[]⟩, .int .i64 0, .slice none 0 0], .int .i64 2]) ∧ Tn [] w w' := by
  have H : Hid (NmN w v) := h
  clear h
  obtain ⟨w0, hw0⟩ : ∃ w0, (w.alloc (.cells #[.int .i64 s, .int .i64 g] 31)).alloc (.cells #[.bool false, .string ⟨#[]⟩, .string ⟨#[]⟩, .int .i64 0, .slice none 0 0] 29) = w0 := ⟨_, rfl⟩
  have HT0 : Hid (Tn [] w w0) := by rw [← hw0]; exact ((Tn.refl _ _).alloc _).alloc _
  have HA0 : Hid (Bk w0 w.heap.size 31 #[.int .i64 s, .int .i64 g]) := by rw [← hw0]; exact (Bk.new _ _ _).alloc _
  have HR0 : Hid (Bk w0 (w.heap.size + 1) 29 #[.bool false, .string ⟨#[]⟩, .string ⟨#[]⟩, .int .i64 0, .slice none 0 0]) := by rw [← hw0]; exact Bk.new1 _ _ _ _
  have b0 : w0.cell? ⟨w.heap.size, 0, none⟩ = some (.int .i64 s) := HA0.out.cell 0
  have b1 : w0.cell? ⟨w.heap.size, 1, none⟩ = some (.int .i64 g) := HA0.out.cell 1
  go_enter Tryz.func24, Tryz.ntmps24
  go_wp2_with fail
  refine (take_nm (H.out.tn HT0.out) s g).mono ?_
  rintro e w1 ⟨rfl, ht1⟩
  clear hw0 b0 b1
  obtain ⟨wz, hwz⟩ : ∃ wz, w1.alloc (.cells #[.slice none 0 0, .slice none 0 0, .bool false, .string ⟨#[]⟩, .string ⟨#[]⟩, .int .i64 0, .slice none 0 0] 124) = wz := ⟨_, rfl⟩
  have HZ : Hid (Bk wz w1.heap.size 124 #[.slice none 0 0, .slice none 0 0, .bool false, .string ⟨#[]⟩, .string ⟨#[]⟩, .int .i64 0, .slice none 0 0]) := by rw [← hwz]; exact Bk.new _ _ _
  obtain ⟨w2, hw2⟩ : ∃ w2, wz.setRow w1.heap.size #[.slice none 0 0, .slice none 0 0, .bool false, .string ⟨#[]⟩, .string ⟨#[]⟩, .int .i64 0, .slice none 0 0] = w2 := ⟨_, rfl⟩
  have hw3 : w2 = w1.alloc (.cells #[.slice none 0 0, .slice none 0 0, .bool false, .string ⟨#[]⟩, .string ⟨#[]⟩, .int .i64 0, .slice none 0 0] 124) := by rw [← hw2, ← hwz, World.setRow_alloc_new]
  have hR2 : Bk w2 (w.heap.size + 1) 29 #[.bool false, .string ⟨#[]⟩, .string ⟨#[]⟩, .int .i64 0, .slice none 0 0] := by rw [hw3]; exact (HR0.out.tn ht1 (by simp)).alloc _
  have HR2 : Hid (Bk w2 (w.heap.size + 1) 29 #[.bool false, .string ⟨#[]⟩, .string ⟨#[]⟩, .int .i64 0, .slice none 0 0] ∧ Tn [] w w2) := ⟨hR2, by rw [hw3]; exact (HT0.out.trans ht1 (by simp)).alloc _⟩
  have x0 : w2.cell? ⟨w.heap.size + 1, 0, none⟩ = some (.bool false) := hR2.cell 0
  have x1 : w2.cell? ⟨w.heap.size + 1, 1, none⟩ = some (.string ⟨#[]⟩) := hR2.cell 1
  have x2 : w2.cell? ⟨w.heap.size + 1, 2, none⟩ = some (.string ⟨#[]⟩) := hR2.cell 2
  have x3 : w2.cell? ⟨w.heap.size + 1, 3, none⟩ = some (.int .i64 0) := hR2.cell 3
  have x4 : w2.cell? ⟨w.heap.size + 1, 4, none⟩ = some (.slice none 0 0) := hR2.cell 4
  have f0 := hR2.frozen 0
  have f1 := hR2.frozen 1
  have f2 := hR2.frozen 2
  have f3 := hR2.frozen 3
  have f4 := hR2.frozen 4
  clear hR2 ht1 hw3
  go_wp2_with (refine wpList_store_row rfl 124 _ _ rfl w1.heap.size #[.slice none 0 0, .slice none 0 0, .bool false, .string ⟨#[]⟩, .string ⟨#[]⟩, .int .i64 0, .slice none 0 0] rfl rfl _ _ HZ.out pt_info rfl pz_one ?_; rw [hw2])
  refine bodyPost_ret (results_two (T' := 29) (cs := [.bool false, .string ⟨#[]⟩, .string ⟨#[]⟩, .int .i64 0, .slice none 0 0]) rfl rfl pg_agg pg_size rfl (by exact (((((HR2.out.1.set 0 _).set 1 _).set 2 _).set 3 _).set 4 _))) rfl ?_
  exact ⟨rfl, ((HR2.out.2.mono (T := [w.heap.size + 1]) (by simp)).five (R := w.heap.size + 1) (.inl (by simp)) _ _ _ _ _).nil_of (by simp)⟩

abbrev spz : List Value := [.string ⟨#[]⟩, .int .i64 0, .int .i64 0, .int .i64 0, .bool false, .int .i64 0]

set_option maxHeartbeats 2000000 in
theorem look_nm (h : NmN w v) (s g : Int) (key : ByteArray) : Calls Tryz.prog 26 #[v, .agg #[.int .i64 s, .int .i64 g], .string key] w fun e w' => e = .returned (.tuple #[.agg #[.string ⟨#[]⟩, .int .i64 0, .int .i64 0, .int .i64 0, .bool false, .int .i64 0], .int .i64 2]) ∧ Tn [] w w' := by
  have H : Hid (NmN w v) := h
  clear h
  obtain ⟨w0, hw0⟩ : ∃ w0, (w.alloc (.cells #[.int .i64 s, .int .i64 g] 31)).alloc (.cells #[.string ⟨#[]⟩, .int .i64 0, .int .i64 0, .int .i64 0, .bool false, .int .i64 0] 74) = w0 := ⟨_, rfl⟩
  have HT0 : Hid (Tn [] w w0) := by rw [← hw0]; exact ((Tn.refl _ _).alloc _).alloc _
  have HA0 : Hid (Bk w0 w.heap.size 31 #[.int .i64 s, .int .i64 g]) := by rw [← hw0]; exact (Bk.new _ _ _).alloc _
  have HR0 : Hid (Bk w0 (w.heap.size + 1) 74 #[.string ⟨#[]⟩, .int .i64 0, .int .i64 0, .int .i64 0, .bool false, .int .i64 0]) := by rw [← hw0]; exact Bk.new1 _ _ _ _
  have b0 : w0.cell? ⟨w.heap.size, 0, none⟩ = some (.int .i64 s) := HA0.out.cell 0
  have b1 : w0.cell? ⟨w.heap.size, 1, none⟩ = some (.int .i64 g) := HA0.out.cell 1
  go_enter Tryz.func26, Tryz.ntmps26
  go_wp2_with fail
  refine (take_nm (H.out.tn HT0.out) s g).mono ?_
  rintro e w1 ⟨rfl, ht1⟩
  clear hw0 b0 b1
  obtain ⟨wz, hwz⟩ : ∃ wz, w1.alloc (.cells #[.slice none 0 0, .slice none 0 0, .bool false, .string ⟨#[]⟩, .string ⟨#[]⟩, .int .i64 0, .slice none 0 0] 124) = wz := ⟨_, rfl⟩
  have HZ : Hid (Bk wz w1.heap.size 124 #[.slice none 0 0, .slice none 0 0, .bool false, .string ⟨#[]⟩, .string ⟨#[]⟩, .int .i64 0, .slice none 0 0]) := by rw [← hwz]; exact Bk.new _ _ _
  obtain ⟨w2, hw2⟩ : ∃ w2, wz.setRow w1.heap.size #[.slice none 0 0, .slice none 0 0, .bool false, .string ⟨#[]⟩, .string ⟨#[]⟩, .int .i64 0, .slice none 0 0] = w2 := ⟨_, rfl⟩
  have hw3 : w2 = w1.alloc (.cells #[.slice none 0 0, .slice none 0 0, .bool false, .string ⟨#[]⟩, .string ⟨#[]⟩, .int .i64 0, .slice none 0 0] 124) := by rw [← hw2, ← hwz, World.setRow_alloc_new]
  have hR2 : Bk w2 (w.heap.size + 1) 74 #[.string ⟨#[]⟩, .int .i64 0, .int .i64 0, .int .i64 0, .bool false, .int .i64 0] := by rw [hw3]; exact (HR0.out.tn ht1 (by simp)).alloc _
  have HR2 : Hid (Bk w2 (w.heap.size + 1) 74 #[.string ⟨#[]⟩, .int .i64 0, .int .i64 0, .int .i64 0, .bool false, .int .i64 0] ∧ Tn [] w w2) := ⟨hR2, by rw [hw3]; exact (HT0.out.trans ht1 (by simp)).alloc _⟩
  have x0 : w2.cell? ⟨w.heap.size + 1, 0, none⟩ = some (.string ⟨#[]⟩) := hR2.cell 0
  have x1 : w2.cell? ⟨w.heap.size + 1, 1, none⟩ = some (.int .i64 0) := hR2.cell 1
  have x2 : w2.cell? ⟨w.heap.size + 1, 2, none⟩ = some (.int .i64 0) := hR2.cell 2
  have x3 : w2.cell? ⟨w.heap.size + 1, 3, none⟩ = some (.int .i64 0) := hR2.cell 3
  have x4 : w2.cell? ⟨w.heap.size + 1, 4, none⟩ = some (.bool false) := hR2.cell 4
  have x5 : w2.cell? ⟨w.heap.size + 1, 5, none⟩ = some (.int .i64 0) := hR2.cell 5
  have f0 := hR2.frozen 0
  have f1 := hR2.frozen 1
  have f2 := hR2.frozen 2
  have f3 := hR2.frozen 3
  have f4 := hR2.frozen 4
  have f5 := hR2.frozen 5
  clear hR2 ht1 hw3
  go_wp2_with (refine wpList_store_row rfl 124 _ _ rfl w1.heap.size #[.slice none 0 0, .slice none 0 0, .bool false, .string ⟨#[]⟩, .string ⟨#[]⟩, .int .i64 0, .slice none 0 0] rfl rfl _ _ HZ.out pt_info rfl pz_one ?_; rw [hw2])
  refine bodyPost_ret (results_two (T' := 74) (cs := spz) rfl rfl sp_agg sp_size rfl (by exact ((((((HR2.out.1.set 0 _).set 1 _).set 2 _).set 3 _).set 4 _).set 5 _))) rfl ?_
  exact ⟨rfl, (((((((HR2.out.2.mono (T := [w.heap.size + 1]) (by simp)).setCell (.inl (by simp)) _).setCell (.inl (by simp)) _).setCell (.inl (by simp)) _).setCell (.inl (by simp)) _).setCell (.inl (by simp)) _).setCell (.inl (by simp)) _).nil_of (by simp)⟩

set_option maxHeartbeats 2000000 in
theorem pack_nm (h : NmN w v) (s g : Int) : Calls Tryz.prog 29 #[v, .agg #[.int .i64 s, .int .i64 g]] w fun e w' => e = .returned (.tuple #[.agg #[.int .i64 0, .int .i64 0], .int .i64 2]) ∧ Tn [] w w' := by
  have H : Hid (NmN w v) := h
  clear h
  obtain ⟨w0, hw0⟩ : ∃ w0, (w.alloc (.cells #[.int .i64 s, .int .i64 g] 31)).alloc (.cells #[.int .i64 0, .int .i64 0] 31) = w0 := ⟨_, rfl⟩
  have HT0 : Hid (Tn [] w w0) := by rw [← hw0]; exact ((Tn.refl _ _).alloc _).alloc _
  have HA0 : Hid (Bk w0 w.heap.size 31 #[.int .i64 s, .int .i64 g]) := by rw [← hw0]; exact (Bk.new _ _ _).alloc _
  have HR0 : Hid (Bk w0 (w.heap.size + 1) 31 #[.int .i64 0, .int .i64 0]) := by rw [← hw0]; exact Bk.new1 _ _ _ _
  have b0 : w0.cell? ⟨w.heap.size, 0, none⟩ = some (.int .i64 s) := HA0.out.cell 0
  have b1 : w0.cell? ⟨w.heap.size, 1, none⟩ = some (.int .i64 g) := HA0.out.cell 1
  go_enter Tryz.func29, Tryz.ntmps29
  go_wp2_with fail
  refine (page_nm (H.out.tn HT0.out) s g).mono ?_
  rintro e w1 ⟨rfl, ht1⟩
  clear hw0 b0 b1
  obtain ⟨wz, hwz⟩ : ∃ wz, w1.alloc (.cells #[.bool false, .string ⟨#[]⟩, .string ⟨#[]⟩, .int .i64 0, .slice none 0 0] 29) = wz := ⟨_, rfl⟩
  have HZ : Hid (Bk wz w1.heap.size 29 #[.bool false, .string ⟨#[]⟩, .string ⟨#[]⟩, .int .i64 0, .slice none 0 0]) := by rw [← hwz]; exact Bk.new _ _ _
  obtain ⟨w2, hw2⟩ : ∃ w2, wz.setRow w1.heap.size #[.bool false, .string ⟨#[]⟩, .string ⟨#[]⟩, .int .i64 0, .slice none 0 0] = w2 := ⟨_, rfl⟩
  have hw3 : w2 = w1.alloc (.cells #[.bool false, .string ⟨#[]⟩, .string ⟨#[]⟩, .int .i64 0, .slice none 0 0] 29) := by rw [← hw2, ← hwz, World.setRow_alloc_new]
  have hR2 : Bk w2 (w.heap.size + 1) 31 #[.int .i64 0, .int .i64 0] := by rw [hw3]; exact (HR0.out.tn ht1 (by simp)).alloc _
  have HR2 : Hid (Bk w2 (w.heap.size + 1) 31 #[.int .i64 0, .int .i64 0] ∧ Tn [] w w2) := ⟨hR2, by rw [hw3]; exact (HT0.out.trans ht1 (by simp)).alloc _⟩
  have x0 : w2.cell? ⟨w.heap.size + 1, 0, none⟩ = some (.int .i64 0) := hR2.cell 0
  have x1 : w2.cell? ⟨w.heap.size + 1, 1, none⟩ = some (.int .i64 0) := hR2.cell 1
  have f0 := hR2.frozen 0
  have f1 := hR2.frozen 1
  clear hR2 ht1 hw3
  go_wp2_with (refine wpList_store_row rfl 29 _ _ rfl w1.heap.size #[.bool false, .string ⟨#[]⟩, .string ⟨#[]⟩, .int .i64 0, .slice none 0 0] rfl rfl _ _ HZ.out pg_info rfl gz_one ?_; rw [hw2])
  refine bodyPost_ret (results_hndN rfl rfl (by exact ((HR2.out.1.set 0 _).set 1 _))) rfl ?_
  exact ⟨rfl, (((HR2.out.2.mono (T := [w.heap.size + 1]) (by simp)).setCell (.inl (by simp)) _).setCell (.inl (by simp)) _).nil_of (by simp)⟩

set_option maxHeartbeats 2000000 in
theorem free_nm (h : NmN w v) (s g : Int) : Calls Tryz.prog 31 #[v, .agg #[.int .i64 s, .int .i64 g]] w fun e w' => e = .returned (.int .i64 2) ∧ Tn [] w w' := by
  have H : Hid (NmN w v) := h
  clear h
  obtain ⟨w0, hw0⟩ : ∃ w0, w.alloc (.cells #[.int .i64 s, .int .i64 g] 31) = w0 := ⟨_, rfl⟩
  have HT0 : Hid (Tn [] w w0) := by rw [← hw0]; exact (Tn.refl _ _).alloc _
  have HA0 : Hid (Bk w0 w.heap.size 31 #[.int .i64 s, .int .i64 g]) := by rw [← hw0]; exact Bk.new _ _ _
  have b0 : w0.cell? ⟨w.heap.size, 0, none⟩ = some (.int .i64 s) := HA0.out.cell 0
  have b1 : w0.cell? ⟨w.heap.size, 1, none⟩ = some (.int .i64 g) := HA0.out.cell 1
  go_enter Tryz.func31, Tryz.ntmps31
  go_wp2_with fail
  refine (take_nm (H.out.tn HT0.out) s g).mono ?_
  rintro e w1 ⟨rfl, ht1⟩
  have HT1 : Hid (Tn [] w w1) := HT0.out.trans ht1 (by simp)
  clear hw0 b0 b1 ht1
  go_wp2
  go_ret
  exact ⟨rfl, HT1.out.alloc _⟩
end Go.Proofs.YtmfkiiedmclafaaGreat

namespace Go.Proofs.YtmfkiiedmclafaaGreat
open Go.RowKit Go.Shelf
attribute [local go_sem] Oper.semAt_some
set_option linter.unusedVariables false
set_option linter.unusedSimpArgs false
set_option maxRecDepth 100000
set_option linter.unusedSectionVars false
variable [Inhabited Nod]

theorem look_empty {w : World} {M : Nat} {s g : Int} (h : w.heap[M]? = some (.map #[] 0)) : (Instr.lookup 172 (.map (some M)) (.agg #[.int .i64 s, .int .i64 g]) true).run Tryz.prog w = .ok (.tuple #[Nod.zero.w, .bool false]) w := by
  have h1 : (Instr.checkKey true 10000 31 (.agg #[.int .i64 s, .int .i64 g])).run Tryz.prog w = .ok () w := by kernel_rfl
  have h2 : (Instr.findKey 31 (.agg #[.int .i64 s, .int .i64 g]) []).run Tryz.prog w = .ok none w := by kernel_rfl
  have h3 : (zeroValue 37).run Tryz.prog w = .ok Nod.zero.w w := by kernel_rfl
  have h4 : (getObj M).run Tryz.prog w = .ok (.map #[] 0) w := run_getObj_map _ _ _ _ h
  simp [Instr.lookup, run_underlying Tryz.underlying172, h1, h2, h3, h4, go_sem]

/-- What is got is nothing, and an error. -/
def GetNo (w : World) (gf : Nat) (recv : Value) : Prop := ∀ W, Tn [] w W → ∀ s g, Calls Tryz.prog gf #[recv, .agg #[.int .i64 s, .int .i64 g]] W fun e w' => (∃ er, e = .returned (.tuple #[Nod.zero.w, .int .i64 er]) ∧ (er = 2 ∨ er = 7)) ∧ Tn [] W w'

theorem GetNo.nm {w : World} {v : Value} (h : NmN w v) : GetNo w 59 v := fun W ht s g => (get_nm (h.tn ht) s g).mono fun e w' ⟨he, h2⟩ => ⟨⟨2, he, .inl rfl⟩, h2⟩

set_option maxHeartbeats 2000000 in
theorem picget_any {w : World} {M : Nat} {s g : Int} (h : w.heap[M]? = some (.map #[] 0)) : Calls Tryz.prog 108 #[.map (some M), .agg #[.int .i64 s, .int .i64 g]] w fun e w' => e = .returned (.tuple #[Nod.zero.w, .int .i64 7]) ∧ Tn [] w w' := by
  have hM := (Array.getElem?_eq_some_iff.1 h).1
  obtain ⟨w0, hw0⟩ : ∃ w0, (w.alloc (.cells #[.int .i64 s, .int .i64 g] 31)).alloc (.cells #[.bool false, .bool false, .string ⟨#[]⟩, .string ⟨#[]⟩, .int .i64 0, .slice none 0 0, .int .i64 0, .string ⟨#[]⟩, .int .i64 0, .int .i64 0, .int .i64 0, .string ⟨#[]⟩, .int .i64 0, .bool false, .string ⟨#[]⟩, .string ⟨#[]⟩, .int .i64 0, .slice none 0 0, .int .i64 0, .int .i64 0, .int .i64 0] 37) = w0 := ⟨_, rfl⟩
  have HT0 : Hid (Tn [] w w0) := by rw [← hw0]; exact ((Tn.refl _ _).alloc _).alloc _
  have hkh : Bk w0 w.heap.size 31 #[.int .i64 s, .int .i64 g] := by rw [← hw0]; exact (Bk.new _ _ _).alloc _
  have HX : Hid (Bk w0 (w.heap.size + 1) 37 Nod.zero.cells.toArray) := by rw [← hw0]; exact Bk.new1 _ _ _ _
  have k0 : w0.cell? ⟨w.heap.size, 0, none⟩ = some (.int .i64 s) := hkh.cell 0
  have k1 : w0.cell? ⟨w.heap.size, 1, none⟩ = some (.int .i64 g) := hkh.cell 1
  have hlk := look_empty (s := s) (g := g) (show w0.heap[M]? = some (.map #[] 0) from (HT0.out.block M hM (by simp)).trans h)
  obtain ⟨xw, hxw⟩ : ∃ xw, Nod.zero.w = xw := ⟨_, rfl⟩
  rw [hxw] at hlk
  obtain ⟨wz, hwz⟩ : ∃ wz, w0.alloc (.cells #[.bool false, .bool false, .string ⟨#[]⟩, .string ⟨#[]⟩, .int .i64 0, .slice none 0 0, .int .i64 0, .string ⟨#[]⟩, .int .i64 0, .int .i64 0, .int .i64 0, .string ⟨#[]⟩, .int .i64 0, .bool false, .string ⟨#[]⟩, .string ⟨#[]⟩, .int .i64 0, .slice none 0 0, .int .i64 0, .int .i64 0, .int .i64 0] 37) = wz := ⟨_, rfl⟩
  have HZ : Hid (Bk wz w0.heap.size 37 #[.bool false, .bool false, .string ⟨#[]⟩, .string ⟨#[]⟩, .int .i64 0, .slice none 0 0, .int .i64 0, .string ⟨#[]⟩, .int .i64 0, .int .i64 0, .int .i64 0, .string ⟨#[]⟩, .int .i64 0, .bool false, .string ⟨#[]⟩, .string ⟨#[]⟩, .int .i64 0, .slice none 0 0, .int .i64 0, .int .i64 0, .int .i64 0]) := by rw [← hwz]; exact Bk.new _ _ _
  obtain ⟨w3, hw3⟩ : ∃ w3, wz.setRow w0.heap.size Nod.zero.cells.toArray = w3 := ⟨_, rfl⟩
  have hw4 := nd_laid hwz hw3
  have HN3 : Hid (Bk w3 (w.heap.size + 1) 37 Nod.zero.cells.toArray ∧ Tn [] w w3) := by rw [hw4]; exact ⟨HX.out.alloc _, HT0.out.alloc _⟩
  clear hkh hw4 h
  go_enter Tryz.func108, Tryz.ntmps108
  go_wp2_with (first
    | (refine wpList_store_nd rfl _ _ rfl w0.heap.size _ _ Nod.zero rfl hxw.symm HZ.out rfl ?_; rw [hw3])
    | (refine wpList_store_nd rfl _ _ rfl (w.heap.size + 1) _ _ Nod.zero rfl rfl HN3.out.1 rfl ?_))
  refine bodyPost_ret (results_elN (x := Nod.zero) rfl rfl (by exact HN3.out.1.setRow _)) rfl ?_
  exact ⟨by rw [← hxw]; rfl, ((HN3.out.2.mono (T := [w.heap.size + 1]) (by simp)).setRow (g := w.heap.size + 1) (.inl (by simp)) _).nil_of (by simp)⟩

theorem GetNo.pic {w : World} {M : Nat} (h : w.heap[M]? = some (.map #[] 0)) : GetNo w 108 (.map (some M)) := fun W ht s g => (picget_any ((ht.block M (Array.getElem?_eq_some_iff.1 h).1 (by simp)).trans h)).mono fun e w' ⟨he, h2⟩ => ⟨⟨7, he, .inr rfl⟩, h2⟩

theorem walk_gen (w : World) (gf : Nat) (recv : Value) (s g : Int) (most : Int) :
    Calls Tryz.prog 95 #[.func (.func gf) #[recv] #[], .agg #[.int .i64 s, .int .i64 g], .int .i64 most] w fun e w' => e = .returned (.func (.func 116) #[] #[.pointer (some ⟨w.heap.size + 1, 0, none⟩), .pointer (some ⟨w.heap.size + 1 + 1, 0, none⟩), .pointer (some ⟨w.heap.size, 0, none⟩)]) ∧
      Tn [] w w' ∧ Bk w' (w.heap.size + 1) 31 #[.int .i64 s, .int .i64 g] ∧ Bk w' (w.heap.size + 1 + 1) 3 #[.int .i64 most] ∧ Bk w' w.heap.size 61 #[.func (.func gf) #[recv] #[]] := by
  have hmf : ∀ (fn : Fn) (first cap : Array Value) (w : World), (Instr.makeFunc fn first cap).run Tryz.prog w = .ok (.func fn first cap) w := fun _ _ _ _ => rfl
  have k0 := Bk.new w 61 #[.func (.func gf) #[recv] #[]]
  have k1 := Bk.new (w.alloc (.cells #[.func (.func gf) #[recv] #[]] 61)) 31 #[.int .i64 s, .int .i64 g]
  have k2 := Bk.new ((w.alloc (.cells #[.func (.func gf) #[recv] #[]] 61)).alloc (.cells #[.int .i64 s, .int .i64 g] 31)) 3 #[.int .i64 most]
  simp only [World.size_alloc] at k1 k2
  have hpost : ∃ w3, (((w.alloc (.cells #[.func (.func gf) #[recv] #[]] 61)).alloc (.cells #[.int .i64 s, .int .i64 g] 31)).alloc (.cells #[.int .i64 most] 3)) = w3 ∧ Tn [] w w3 ∧ Bk w3 (w.heap.size + 1) 31 #[.int .i64 s, .int .i64 g] ∧ Bk w3 (w.heap.size + 1 + 1) 3 #[.int .i64 most] ∧ Bk w3 w.heap.size 61 #[.func (.func gf) #[recv] #[]] :=
    ⟨_, rfl, (((Tn.refl _ _).alloc _).alloc _).alloc _, k1.alloc _, k2, (k0.alloc _).alloc _⟩
  obtain ⟨w3, hw3, hp⟩ := hpost
  have HP : Hid _ := hp
  clear hp k0 k1 k2
  go_enter Tryz.func95, Tryz.ntmps95
  go_wp2
  go_ret
  exact ⟨rfl, HP.out⟩

set_option maxHeartbeats 8000000 in
theorem walk1_no (l hB mB gB gf : Nat) (recv : Value) (eg : ∀ args w, (callFunc gf args).run Tryz.prog w = .ok (.enter gf args) w) (s g most : Int) (hm : 0 < most)
    (J : List (Hd × Nod) → World → Prop) (R : Ending → World → Prop) (hR : ∀ v W', J [] W' → R (.returned v) W')
    (hJ : ∀ pre A A', J pre A → A.grownBy A' none → J pre A') (W : World)
    (hbh : Bk W hB 31 #[.int .i64 s, .int .i64 g]) (hbm : Bk W mB 3 #[.int .i64 most]) (hbg : Bk W gB 61 #[.func (.func gf) #[recv] #[]]) (hG : GetNo W gf recv) (h0 : J [] W) :
    CallsIn Fence.wide 8 Tryz.prog 116 #[.func (.yield l) #[] #[], .pointer (some ⟨hB, 0, none⟩), .pointer (some ⟨mB, 0, none⟩), .pointer (some ⟨gB, 0, none⟩)] W R := by
  refine callsIn_of_wp Tryz.func116 rfl trivial ?_ rfl
  simp only [Tryz.ntmps116, List.size_toArray, List.length_cons, List.length_nil, Nat.reduceAdd, Nat.reduceSub, Array.replicate_succ, Array.replicate_zero, List.push_toArray, List.append_toArray, List.nil_append, List.cons_append]
  have hb0 : W.cell? ⟨hB, 0, none⟩ = some (.int .i64 s) := hbh.cell 0
  have hb1 : W.cell? ⟨hB, 1, none⟩ = some (.int .i64 g) := hbh.cell 1
  obtain ⟨W1, hW1⟩ : ∃ W1, W.alloc (.cells #[.int .i64 s, .int .i64 g] 31) = W1 := ⟨_, rfl⟩
  have ht1 : Tn [] W W1 := by rw [← hW1]; exact (Tn.refl _ _).alloc _
  have hk1 : Bk W1 W.heap.size 31 #[.int .i64 s, .int .i64 g] := by rw [← hW1]; exact Bk.new _ _ _
  have m0 : W1.cell? ⟨mB, 0, none⟩ = some (.int .i64 most) := (hbm.tn ht1 (by simp)).cell 0
  have g0 : W1.cell? ⟨gB, 0, none⟩ = some (.func (.func gf) #[recv] #[]) := (hbg.tn ht1 (by simp)).cell 0
  have d0 : W1.cell? ⟨W.heap.size, 0, none⟩ = some (.int .i64 s) := hk1.cell 0
  have d1 : W1.cell? ⟨W.heap.size, 1, none⟩ = some (.int .i64 g) := hk1.cell 1
  have HJ : Hid (∀ W', Tn [] W W' → J [] W') := fun W' ht => hJ _ _ _ h0 (below_grown (ht.below (Nat.le_refl _) (by simp)))
  have HG : Hid (GetNo W gf recv ∧ Tn [] W W1) := ⟨hG, ht1⟩
  have HR : Hid (∀ v W', J [] W' → R (.returned v) W') := hR
  clear hJ hG hbh hbm hbg h0 ht1 hk1 hR
  gi_wp2_with fail
  gi_loopw [10] (fun i wr => i = .int .i64 0 ∧ wr = W1) (fun i _ => 0)
  case atStart => exact ⟨rfl, rfl⟩
  case round =>
    obtain ⟨rfl, rfl⟩ := hrel
    gi_wp2_with fail
    refine ⟨trivial, ?_⟩
    refine (callsIn_wide.2 (HG.out.1 _ HG.out.2 s g)).mono ?_
    rintro r w5 ⟨⟨er, rfl, her⟩, ht5⟩
    have HT5 : Hid (Tn [] W w5) := HG.out.2.trans ht5 (by simp)
    clear ht5 m0 g0 d0 d1
    obtain ⟨xw, hxw⟩ : ∃ xw, Nod.zero.w = xw := ⟨_, rfl⟩
    rw [hxw]
    obtain ⟨wz, hwz⟩ : ∃ wz, w5.alloc (.cells #[.bool false, .bool false, .string ⟨#[]⟩, .string ⟨#[]⟩, .int .i64 0, .slice none 0 0, .int .i64 0, .string ⟨#[]⟩, .int .i64 0, .int .i64 0, .int .i64 0, .string ⟨#[]⟩, .int .i64 0, .bool false, .string ⟨#[]⟩, .string ⟨#[]⟩, .int .i64 0, .slice none 0 0, .int .i64 0, .int .i64 0, .int .i64 0] 37) = wz := ⟨_, rfl⟩
    have HZ : Hid (Bk wz w5.heap.size 37 #[.bool false, .bool false, .string ⟨#[]⟩, .string ⟨#[]⟩, .int .i64 0, .slice none 0 0, .int .i64 0, .string ⟨#[]⟩, .int .i64 0, .int .i64 0, .int .i64 0, .string ⟨#[]⟩, .int .i64 0, .bool false, .string ⟨#[]⟩, .string ⟨#[]⟩, .int .i64 0, .slice none 0 0, .int .i64 0, .int .i64 0, .int .i64 0]) := by rw [← hwz]; exact Bk.new _ _ _
    obtain ⟨wn, hwn⟩ : ∃ wn, wz.setRow w5.heap.size Nod.zero.cells.toArray = wn := ⟨_, rfl⟩
    have hw6 := nd_laid hwz hwn
    have HN : Hid (Tn [] W wn) := by rw [hw6]; exact HT5.out.alloc _
    clear hw6
    rcases her with rfl | rfl
    all_goals (
      gi_wp2_with (refine wpListIn_store_nd rfl _ _ rfl w5.heap.size _ _ Nod.zero rfl hxw.symm HZ.out rfl ?_; rw [hwn])
      refine ⟨by simp, ?_⟩
      gi_wp2
      refine bodyPost_ret (results_none rfl _ _ _) rfl ?_
      exact HR.out _ _ (HJ.out _ HN.out))
end Go.Proofs.YtmfkiiedmclafaaGreat

namespace Go.Proofs.YtmfkiiedmclafaaGreat
open Go.RowKit Go.Shelf
attribute [local go_sem] Oper.semAt_some
set_option linter.unusedVariables false
set_option linter.unusedSimpArgs false
set_option maxRecDepth 100000
set_option linter.unusedSectionVars false
variable [Inhabited Nod]

/-- The results are written. -/
theorem Fi.foundB {w W W' : World} {pre : List (Hd × Nod)} {v1 v2 : Value} {fb b : Bool} (h : Fi w W pre v1 v2 fb) (hW : W' = (((W.setCell ⟨w.heap.size + 1, 0, none⟩ v1).setCell ⟨w.heap.size + 1 + 1, 0, none⟩ v2).setCell ⟨w.heap.size + 1 + 1 + 1, 0, none⟩ (.bool b)).drew) : Fi w W' pre v1 v2 b ∧ KeepsOthers W W' := by
  have ht : Tn [w.heap.size + 1, w.heap.size + 1 + 1, w.heap.size + 1 + 1 + 1] W W' := by
    rw [hW]
    exact ((((Tn.refl _ _).setCell (.inl (by simp)) _).setCell (.inl (by simp)) _).setCell (.inl (by simp)) _).drew
  have hlt := h.two.lt
  have hnot : ∀ x ∈ [w.heap.size + 1, w.heap.size + 1 + 1, w.heap.size + 1 + 1 + 1], v1.ownBlock ≠ some x ∧ v2.ownBlock ≠ some x := by
    intro x hx
    simp only [List.mem_cons, List.not_mem_nil, or_false] at hx
    exact ⟨fun e => by have := (hlt x (mem_own2.2 (.inl e))).1; omega, fun e => by have := (hlt x (mem_own2.2 (.inr e))).1; omega⟩
  have n1 : w.heap.size + 1 ≠ w.heap.size + 1 + 1 := by omega
  have n2 : w.heap.size + 1 ≠ w.heap.size + 1 + 1 + 1 := by omega
  have n3 : w.heap.size + 1 + 1 ≠ w.heap.size + 1 + 1 + 1 := by omega
  refine ⟨{
    bi := h.bi.tn ht (fun hm => by simp only [List.mem_cons, List.not_mem_nil, or_false] at hm; omega)
    b1 := by rw [hW]; exact (((h.b1.set 0 v1).other n1 _).other n2 _).drew
    b2 := by rw [hW]; exact (((h.b2.other n1.symm _).set 0 v2).other n3 _).drew
    b3 := by rw [hW]; exact (((h.b3.other n2.symm _).other n3.symm _).set 0 _).drew
    two := h.two.tn ht hnot
    below := h.below.trans (ht.below h.below.size (fun x hx => by simp only [List.mem_cons, List.not_mem_nil, or_false] at hx; omega))
    size := Nat.le_trans h.size ht.size }, keeps_tn ht (fun b hb => ?_)⟩
  simp only [List.mem_cons, List.not_mem_nil, or_false] at hb
  rcases hb with rfl | rfl | rfl
  · exact ⟨_, h.b1, rfl⟩
  · exact ⟨_, h.b2, rfl⟩
  · exact ⟨_, h.b3, rfl⟩

set_option maxHeartbeats 16000000 in
theorem find_none {w : World} {hB mB gB gf : Nat} {recv : Value} (eg : ∀ args w, (callFunc gf args).run Tryz.prog w = .ok (.enter gf args) w) {s g most : Int} (hm : 0 < most)
    (hbh : Bk w hB 31 #[.int .i64 s, .int .i64 g]) (hbm : Bk w mB 3 #[.int .i64 most]) (hbg : Bk w gB 61 #[.func (.func gf) #[recv] #[]]) (hG : GetNo w gf recv) :
    Calls Tryz.prog 94 #[.func (.func 116) #[] #[.pointer (some ⟨hB, 0, none⟩), .pointer (some ⟨mB, 0, none⟩), .pointer (some ⟨gB, 0, none⟩)], .func (.func 96) #[] #[]] w fun r w' => r = .returned (.tuple #[.slice none 0 0, .slice none 0 0, .bool false]) ∧ Tn [] w w' := by
  refine calls_of_wpAt Tryz.func94 rfl ?_
  simp only [Tryz.ntmps94, List.size_toArray, List.length_cons, List.length_nil, Nat.reduceAdd, Nat.reduceSub, Array.replicate_succ, Array.replicate_zero, List.push_toArray, List.append_toArray, List.nil_append, List.cons_append]
  obtain ⟨w3, hw3, hz3, hb3, hF0⟩ := fi_start w
  have HZ3 : Hid (w3.heap.size = w.heap.size + 4) := hz3
  have hst : SeqStopsL 8 Tryz.prog 116 #[.pointer (some ⟨hB, 0, none⟩), .pointer (some ⟨mB, 0, none⟩), .pointer (some ⟨gB, 0, none⟩)] encW (fun _ _ => True) (fun xs => xs = []) (fun _ => False) (fun _ _ => True) (fun _ _ => False) w3 := fun l J Jx Jp W hW hJ hGo hJS hY h0 => by
    have ht : Tn [] w W := (Tn.of_below hb3 []).trans (Tn.of_below hW []) (by simp)
    exact walk1_no l hB mB gB gf recv eg s g most hm J _ (fun v W' h => .inl ⟨⟨v, rfl⟩, .inl ⟨[], rfl, h⟩⟩) hJ W (hbh.tn ht (by simp)) (hbm.tn ht (by simp)) (hbg.tn ht (by simp)) (fun W' hW' => hG W' (ht.trans hW' (by simp))) h0
  clear hbh hbm hbg hG
  refine wpAt_seq_k fun K hK => wpAt_of_wp ?_
  go_wp2
  refine wpAt_seq_k fun K hK => ?_
  have HK : Hid _ := hK
  clear hK
  refine wpAt_seq_k fun K2 hK2 => wpAt_of_wp ?_
  go_wp2
  refine wpAt_blockN ?_
  refine wpAt_boxedL ?A Tryz.func94 (gf := 116) (lb := #[.pointer (some ⟨hB, 0, none⟩), .pointer (some ⟨mB, 0, none⟩), .pointer (some ⟨gB, 0, none⟩)]) rfl (enters_of Tryz.func116 (by kernel_rfl) rfl)
    hst (fun A A' h => h.elim) (fun _ _ => trivial) (fun W l o o' hl ho hc _ => trivial) (Below.refl _ _) (fun _ => rfl)
    (fun pre W => Fi w W [] (.slice none 0 0) (.slice none 0 0) false)
    (fun cc pre W => False)
    (fun _ _ _ => False)
    (fun pre A hi => trivial)
    (fun pre A A' hi hs => hs.elim)
    (fun pre A A' row hs hg hr => hs.from (by omega) hg hr)
    (fun cc pre A A' row hs hg hr => hs)
    hF0
    (fun x bx W => True)
    (fun x bx _ A A' row hs hg hr => trivial)
    ?assign (fun l pre x bx W _ _ _ h => h.elim) ?done (fun D cc pre W _ h _ _ => h.elim) (fun D chain pre W _ _ h _ => h.elim)
  case assign =>
    rintro l pre x W K hF hK
    obtain ⟨Wa, hWa⟩ : ∃ Wa, W.alloc (.cells #[.int .i64 x.1.1, .int .i64 x.1.2] 31) = Wa := ⟨_, rfl⟩
    have hza : Wa.heap.size = W.heap.size + 1 := by rw [← hWa]; simp
    obtain ⟨wz, hwz⟩ : ∃ wz, Wa.alloc (.cells #[.bool false, .bool false, .string ⟨#[]⟩, .string ⟨#[]⟩, .int .i64 0, .slice none 0 0, .int .i64 0, .string ⟨#[]⟩, .int .i64 0, .int .i64 0, .int .i64 0, .string ⟨#[]⟩, .int .i64 0, .bool false, .string ⟨#[]⟩, .string ⟨#[]⟩, .int .i64 0, .slice none 0 0, .int .i64 0, .int .i64 0, .int .i64 0] 37) = wz := ⟨_, rfl⟩
    have HZ : Hid (Bk wz Wa.heap.size 37 #[.bool false, .bool false, .string ⟨#[]⟩, .string ⟨#[]⟩, .int .i64 0, .slice none 0 0, .int .i64 0, .string ⟨#[]⟩, .int .i64 0, .int .i64 0, .int .i64 0, .string ⟨#[]⟩, .int .i64 0, .bool false, .string ⟨#[]⟩, .string ⟨#[]⟩, .int .i64 0, .slice none 0 0, .int .i64 0, .int .i64 0, .int .i64 0]) := by rw [← hwz]; exact Bk.new _ _ _
    obtain ⟨wn, hwn⟩ : ∃ wn, wz.setRow Wa.heap.size x.2.cells.toArray = wn := ⟨_, rfl⟩
    have hw6 := nd_laid hwz hwn
    have ht : Tn [] W wn := by rw [hw6, ← hWa]; exact ((Tn.refl _ _).alloc _).alloc _
    have kx : Bk wn W.heap.size 31 #[.int .i64 x.1.1, .int .i64 x.1.2] := by rw [hw6, ← hWa]; exact (Bk.new _ _ _).alloc _
    have kn : Bk wn (W.heap.size + 1) 37 x.2.cells.toArray := by rw [hw6, ← hza]; exact Bk.new _ _ _
    obtain ⟨bx, hbx⟩ : ∃ bx, W.heap.size = bx := ⟨_, rfl⟩
    have HZ2 : Hid (Bk wz (bx + 1) 37 #[.bool false, .bool false, .string ⟨#[]⟩, .string ⟨#[]⟩, .int .i64 0, .slice none 0 0, .int .i64 0, .string ⟨#[]⟩, .int .i64 0, .int .i64 0, .int .i64 0, .string ⟨#[]⟩, .int .i64 0, .bool false, .string ⟨#[]⟩, .string ⟨#[]⟩, .int .i64 0, .slice none 0 0, .int .i64 0, .int .i64 0, .int .i64 0]) := by rw [← hbx, ← hza]; exact HZ.out
    have hwn2 : wz.setRow (bx + 1) x.2.cells.toArray = wn := by rw [← hbx, ← hza]; exact hwn
    have HX : Hid (Tn [] W wn ∧ Bk wn bx 31 #[.int .i64 x.1.1, .int .i64 x.1.2] ∧ Bk wn (bx + 1) 37 x.2.cells.toArray ∧ Wa.heap.size = bx + 1) := by rw [← hbx]; exact ⟨ht, kx, kn, hza⟩
    clear hw6 ht kx kn hwn
    gi_wp2_with (refine wpListIn_store_nd rfl _ _ rfl (bx + 1) _ _ x.2 rfl rfl HZ2.out rfl ?_; rw [hwn2])
    obtain ⟨ht, kx, kn, hza'⟩ := HX.out
    exact hK bx _ ((keeps_tn ht (by simp)).from _) trivial (hF.tn ht (by simp)) trivial
  case done =>
    rintro D xs W hD rfl hF hK
    have hz := HZ3.out
    refine HK.out _ _ (wpAt_of_wp ?_)
    clear HK
    have y1 : W.cell? ⟨w.heap.size + 1, 0, none⟩ = some (.slice none 0 0) := hF.b1.cell 0
    have y2 : W.cell? ⟨w.heap.size + 1 + 1, 0, none⟩ = some (.slice none 0 0) := hF.b2.cell 0
    have y3 : W.cell? ⟨w.heap.size + 1 + 1 + 1, 0, none⟩ = some (.bool false) := hF.b3.cell 0
    have z1 : W.frozen? ⟨w.heap.size + 1, 0, none⟩ = false := hF.b1.frozen 0
    have z2 : W.frozen? ⟨w.heap.size + 1 + 1, 0, none⟩ = false := hF.b2.frozen 0
    have z3 : W.frozen? ⟨w.heap.size + 1 + 1 + 1, 0, none⟩ = false := hF.b3.frozen 0
    have n12 : ¬ (w.heap.size + 1 = w.heap.size + 1 + 1) := by omega
    have n13 : ¬ (w.heap.size + 1 = w.heap.size + 1 + 1 + 1) := by omega
    have n23 : ¬ (w.heap.size + 1 + 1 = w.heap.size + 1 + 1 + 1) := by omega
    have HF : Hid (Fi w W [] (.slice none 0 0) (.slice none 0 0) false) := hF
    have HD : Hid (W.heap[D]? = some (.deferred (some []))) := hK
    clear hF hK
    go_wp2_with fail
    go_region
    all_goals (
      go_wp2
      obtain ⟨hfd, hkd⟩ := HF.out.foundB (b := false) rfl
      have hK := hkd.same D _ HD.out rfl
      have cr : ∀ {W : World}, W.heap[D]? = some (.deferred (some [])) → ∀ b cs t, Bk W b t cs → (W.putObj D (.deferred none)).cell? ⟨b, 0, none⟩ = cs[0]? := fun hK b cs t hb => by
        have h1 : Bk (World.putObj _ D (.deferred none)) b t cs := (World.putObj_heap_other (fun e => by
          subst e
          have := hK.symm.trans hb
          cases this)).trans hb
        exact h1.cell 0
      have c1 := cr hK _ _ _ hfd.b1
      have c2 := cr hK _ _ _ hfd.b2
      have c3 := cr hK _ _ _ hfd.b3
      simp only [List.getElem?_toArray, List.getElem?_cons_zero] at c1 c2 c3
      refine ⟨by simp, .inl ⟨_, _, rfl, run_takeDeferred hK, ?_⟩⟩
      refine ⟨.tuple #[.slice none 0 0, .slice none 0 0, .bool false], ?_, rfl, ?_⟩
      · simp [results, Tryz.f94, go_sem, c1, c2, c3]
      · have hpb : ∀ W : World, Below w.heap.size W (W.putObj D (.deferred none)) := fun W => ⟨rfl, rfl, rfl, by simp, fun k hk => World.putObj_heap_other (show k ≠ D by omega)⟩
        exact Tn.of_below (hfd.below.trans (hpb _)) [])
end Go.Proofs.YtmfkiiedmclafaaGreat

namespace Go.Proofs.YtmfkiiedmclafaaGreat
open Go.RowKit Go.Shelf
attribute [local go_sem] Oper.semAt_some
set_option linter.unusedVariables false
set_option linter.unusedSimpArgs false
set_option maxRecDepth 100000
set_option linter.unusedSectionVars false
variable [Inhabited Nod]

theorem newpic_nil (w : World) : Calls Tryz.prog 106 #[.slice none 0 0, .slice none 0 0] w fun e w' => ∃ M, e = .returned (.map (some M)) ∧ w'.heap[M]? = some (.map #[] 0) ∧ Tn [] w w' := by
  have hmm := @run_makeMap Tryz.prog
  obtain ⟨w1, hw1⟩ : ∃ w1, w.alloc (.map #[] 0) = w1 := ⟨_, rfl⟩
  have HT : Hid (Tn [] w w1 ∧ w1.heap[w.heap.size]? = some (.map #[] 0)) := by rw [← hw1]; exact ⟨(Tn.refl _ _).alloc _, World.alloc_heap_new w _⟩
  go_enter Tryz.func106, Tryz.ntmps106
  go_wp2_with fail
  go_loopw [13] (fun i wr => i = .int .i64 0 ∧ wr = w1) (fun i _ => 0)
  case atStart => exact ⟨rfl, rfl⟩
  case round =>
    obtain ⟨rfl, rfl⟩ := hrel
    go_wp2
    go_ret
    exact ⟨_, rfl, HT.out.2, HT.out.1⟩

set_option maxHeartbeats 4000000 in
theorem nodes_nm {w : World} {v : Value} (h : NmN w v) (s g : Int) : Calls Tryz.prog 71 #[v, .agg #[.int .i64 s, .int .i64 g]] w fun e w' => ∃ P Hb M, e = .returned (.func (.func 107) #[] #[.pointer (some ⟨P, 0, none⟩), .pointer (some ⟨Hb, 0, none⟩)]) ∧ Bk w' P 172 #[.map (some M)] ∧ Bk w' Hb 31 #[.int .i64 s, .int .i64 g] ∧ w'.heap[M]? = some (.map #[] 0) ∧ Tn [] w w' := by
  have hmf : ∀ (fn : Fn) (first cap : Array Value) (w : World), (Instr.makeFunc fn first cap).run Tryz.prog w = .ok (.func fn first cap) w := fun _ _ _ _ => rfl
  have H : Hid (NmN w v) := h
  clear h
  obtain ⟨w0, hw0⟩ : ∃ w0, w.alloc (.cells #[.int .i64 s, .int .i64 g] 31) = w0 := ⟨_, rfl⟩
  have HT0 : Hid (Tn [] w w0) := by rw [← hw0]; exact (Tn.refl _ _).alloc _
  have HA0 : Hid (Bk w0 w.heap.size 31 #[.int .i64 s, .int .i64 g]) := by rw [← hw0]; exact Bk.new _ _ _
  have b0 : w0.cell? ⟨w.heap.size, 0, none⟩ = some (.int .i64 s) := HA0.out.cell 0
  have b1 : w0.cell? ⟨w.heap.size, 1, none⟩ = some (.int .i64 g) := HA0.out.cell 1
  have HTD : Hid (Tn [] w0 w0.drew) := (Tn.refl _ _).drew
  go_enter Tryz.func71, Tryz.ntmps71
  go_wp2_with fail
  clear hw0
  go_region_held3 (fun w' => w'.cell? ⟨w.heap.size, 0, none⟩ = some (.int .i64 s) ∧ w'.cell? ⟨w.heap.size, 1, none⟩ = some (.int .i64 g)) (go_keep) (first
    | (go_at_call 93
       refine (longest_nm ((H.out.tn HT0.out).tn HTD.out)).mono ?_
       rintro e w1 ⟨rfl, rfl⟩
       have c0 : w0.drew.cell? ⟨w.heap.size, 0, none⟩ = some (.int .i64 s) := b0
       have c1 : w0.drew.cell? ⟨w.heap.size, 1, none⟩ = some (.int .i64 g) := b1)
    | (go_at_call 95
       refine (walk_gen _ 59 v s g 1).mono ?_
       rintro e w2 ⟨rfl, ht2, kh, km, kg⟩
       have HT2 : Hid (Tn [] w w2) := (HT0.out.trans HTD.out (by simp)).trans ht2 (by simp)
       have HA2 : Hid (Bk w2 w.heap.size 31 #[.int .i64 s, .int .i64 g]) := (HA0.out.tn HTD.out (by simp)).tn ht2 (by simp)
       have HB2 : Hid (Bk w2 (w0.drew.heap.size + 1) 31 #[.int .i64 s, .int .i64 g] ∧ Bk w2 (w0.drew.heap.size + 1 + 1) 3 #[.int .i64 1] ∧ Bk w2 w0.drew.heap.size 61 #[.func (.func 59) #[v] #[]]) := ⟨kh, km, kg⟩
       have d0 : w2.cell? ⟨w.heap.size, 0, none⟩ = some (.int .i64 s) := HA2.out.cell 0
       have d1 : w2.cell? ⟨w.heap.size, 1, none⟩ = some (.int .i64 g) := HA2.out.cell 1
       clear ht2 kh km kg)
    | (go_at_call 94
       refine (find_none (enters_of Tryz.func59 (by kernel_rfl) rfl) (by omega) HB2.out.1 HB2.out.2.1 HB2.out.2.2 (GetNo.nm (H.out.tn HT2.out))).mono ?_
       rintro e w3 ⟨rfl, ht3⟩
       have HT3 : Hid (Tn [] w w3) := HT2.out.trans ht3 (by simp)
       have HA3 : Hid (Bk w3 w.heap.size 31 #[.int .i64 s, .int .i64 g]) := HA2.out.tn ht3 (by simp)
       have e0 : w3.cell? ⟨w.heap.size, 0, none⟩ = some (.int .i64 s) := HA3.out.cell 0
       have e1 : w3.cell? ⟨w.heap.size, 1, none⟩ = some (.int .i64 g) := HA3.out.cell 1
       clear ht3))
  all_goals (
    go_wp2_with fail
    refine (newpic_nil _).mono ?_
    rintro e w4 ⟨M, rfl, hM, ht4⟩
    have HT4 : Hid (Tn [] w w4) := HT3.out.trans ht4 (by simp)
    have HA4 : Hid (Bk w4 w.heap.size 31 #[.int .i64 s, .int .i64 g] ∧ w4.heap[M]? = some (.map #[] 0)) := ⟨HA3.out.tn ht4 (by simp), hM⟩
    clear ht4 hM e0 e1
    go_wp2
    go_ret
    exact ⟨_, _, M, rfl, Bk.new _ _ _, HA4.out.1.alloc _, (Below.heap_alloc _ _ _ (Array.getElem?_eq_some_iff.1 HA4.out.2).1).trans HA4.out.2, HT4.out.alloc _⟩)

set_option maxHeartbeats 16000000 in
theorem nodes1_no {w : World} (l P Hb M : Nat) {s g : Int} (kp : Bk w P 172 #[.map (some M)]) (kh : Bk w Hb 31 #[.int .i64 s, .int .i64 g]) (hM : w.heap[M]? = some (.map #[] 0)) :
    Calls Tryz.prog 107 #[.func (.yield l) #[] #[], .pointer (some ⟨P, 0, none⟩), .pointer (some ⟨Hb, 0, none⟩)] w fun r w' => (∃ v, r = .returned v) ∧ Tn [] w w' := by
  refine calls_of_wpAt Tryz.func107 rfl ?_
  simp only [Tryz.ntmps107, List.size_toArray, List.length_cons, List.length_nil, Nat.reduceAdd, Nat.reduceSub, Array.replicate_succ, Array.replicate_zero, List.push_toArray, List.append_toArray, List.nil_append, List.cons_append]
  have hmf : ∀ (fn : Fn) (first cap : Array Value) (w : World), (Instr.makeFunc fn first cap).run Tryz.prog w = .ok (.func fn first cap) w := fun _ _ _ _ => rfl
  obtain ⟨w0, hw0⟩ : ∃ w0, w.alloc (.cells #[.func (.yield l) #[] #[]] 111) = w0 := ⟨_, rfl⟩
  have ht0 : Tn [] w w0 := by rw [← hw0]; exact (Tn.refl _ _).alloc _
  have p0 : w0.cell? ⟨P, 0, none⟩ = some (.map (some M)) := (kp.tn ht0 (by simp)).cell 0
  have b0 : w0.cell? ⟨Hb, 0, none⟩ = some (.int .i64 s) := (kh.tn ht0 (by simp)).cell 0
  have b1 : w0.cell? ⟨Hb, 1, none⟩ = some (.int .i64 g) := (kh.tn ht0 (by simp)).cell 1
  have HT0 : Hid (Tn [] w w0 ∧ w.heap[M]? = some (.map #[] 0)) := ⟨ht0, hM⟩
  clear ht0 hM kp kh
  refine wpAt_seq_k fun K hK => wpAt_of_wp ?_
  go_wp2
  refine wpAt_seq_k fun K hK => wpAt_of_wp ?_
  go_wp2_with fail
  refine (walk_gen w0 108 (.map (some M)) s g 65536).mono ?_
  rintro e w3 ⟨rfl, ht3, kh, km, kg⟩
  have HT3 : Hid (Tn [] w w3 ∧ Bk w3 (w0.heap.size + 1) 31 #[.int .i64 s, .int .i64 g] ∧ Bk w3 (w0.heap.size + 1 + 1) 3 #[.int .i64 65536] ∧ Bk w3 w0.heap.size 61 #[.func (.func 108) #[.map (some M)] #[]]) := ⟨HT0.out.1.trans ht3 (by simp), kh, km, kg⟩
  clear ht3 kh km kg p0 b0 b1
  go_wp2
  have hst : SeqStopsL 8 Tryz.prog 116 #[.pointer (some ⟨w0.heap.size + 1, 0, none⟩), .pointer (some ⟨w0.heap.size + 1 + 1, 0, none⟩), .pointer (some ⟨w0.heap.size, 0, none⟩)] encW (fun _ _ => True) (fun xs => xs = []) (fun _ => False) (fun _ _ => True) (fun _ _ => False) w3 := fun l J Jx Jp W hW hJ hGo hJS hY h0 => by
    have ht : Tn [] w3 W := Tn.of_below hW []
    obtain ⟨q1, q2, q3, q4⟩ := HT3.out
    exact walk1_no l _ _ _ 108 (.map (some M)) (enters_of Tryz.func108 (by kernel_rfl) rfl) s g 65536 (by omega) J _ (fun v W' h => .inl ⟨⟨v, rfl⟩, .inl ⟨[], rfl, h⟩⟩) hJ W (q2.tn ht (by simp)) (q3.tn ht (by simp)) (q4.tn ht (by simp)) (GetNo.pic (((q1.trans ht (by simp)).block M (Array.getElem?_eq_some_iff.1 HT0.out.2).1 (by simp)).trans HT0.out.2)) h0
  refine wpAt_blockN ?_
  refine wpAt_boxedL ?A Tryz.func107 (gf := 116) (lb := #[.pointer (some ⟨w0.heap.size + 1, 0, none⟩), .pointer (some ⟨w0.heap.size + 1 + 1, 0, none⟩), .pointer (some ⟨w0.heap.size, 0, none⟩)]) rfl (enters_of Tryz.func116 (by kernel_rfl) rfl)
    hst (fun A A' h => h.elim) (fun _ _ => trivial) (fun W l o o' hl ho hc _ => trivial) (Below.refl _ _) (fun _ => rfl)
    (fun pre W => Tn [] w W)
    (fun cc pre W => False)
    (fun _ _ _ => False)
    (fun pre A hi => trivial)
    (fun pre A A' hi hs => hs.elim)
    (fun pre A A' row hs hg hr => hs.grown hg (fun k hk => .inr (by have := (hr k hk).1; have := HT3.out.1.size; omega)))
    (fun cc pre A A' row hs hg hr => hs)
    HT3.out.1
    (fun x bx W => True)
    (fun x bx _ A A' row hs hg hr => trivial)
    ?assign (fun l pre x bx W _ _ _ h => h.elim) ?done (fun D cc pre W _ h _ _ => h.elim) (fun D chain pre W _ _ h _ => h.elim)
  case assign =>
    rintro l pre x W K hF hK
    obtain ⟨Wa, hWa⟩ : ∃ Wa, W.alloc (.cells #[.int .i64 x.1.1, .int .i64 x.1.2] 31) = Wa := ⟨_, rfl⟩
    have hza : Wa.heap.size = W.heap.size + 1 := by rw [← hWa]; simp
    obtain ⟨wz, hwz⟩ : ∃ wz, Wa.alloc (.cells #[.bool false, .bool false, .string ⟨#[]⟩, .string ⟨#[]⟩, .int .i64 0, .slice none 0 0, .int .i64 0, .string ⟨#[]⟩, .int .i64 0, .int .i64 0, .int .i64 0, .string ⟨#[]⟩, .int .i64 0, .bool false, .string ⟨#[]⟩, .string ⟨#[]⟩, .int .i64 0, .slice none 0 0, .int .i64 0, .int .i64 0, .int .i64 0] 37) = wz := ⟨_, rfl⟩
    have HZ : Hid (Bk wz Wa.heap.size 37 #[.bool false, .bool false, .string ⟨#[]⟩, .string ⟨#[]⟩, .int .i64 0, .slice none 0 0, .int .i64 0, .string ⟨#[]⟩, .int .i64 0, .int .i64 0, .int .i64 0, .string ⟨#[]⟩, .int .i64 0, .bool false, .string ⟨#[]⟩, .string ⟨#[]⟩, .int .i64 0, .slice none 0 0, .int .i64 0, .int .i64 0, .int .i64 0]) := by rw [← hwz]; exact Bk.new _ _ _
    obtain ⟨wn, hwn⟩ : ∃ wn, wz.setRow Wa.heap.size x.2.cells.toArray = wn := ⟨_, rfl⟩
    have hw6 := nd_laid hwz hwn
    have ht : Tn [] W wn := by rw [hw6, ← hWa]; exact ((Tn.refl _ _).alloc _).alloc _
    have kx : Bk wn W.heap.size 31 #[.int .i64 x.1.1, .int .i64 x.1.2] := by rw [hw6, ← hWa]; exact (Bk.new _ _ _).alloc _
    have kn : Bk wn (W.heap.size + 1) 37 x.2.cells.toArray := by rw [hw6, ← hza]; exact Bk.new _ _ _
    obtain ⟨bx, hbx⟩ : ∃ bx, W.heap.size = bx := ⟨_, rfl⟩
    have HZ2 : Hid (Bk wz (bx + 1) 37 #[.bool false, .bool false, .string ⟨#[]⟩, .string ⟨#[]⟩, .int .i64 0, .slice none 0 0, .int .i64 0, .string ⟨#[]⟩, .int .i64 0, .int .i64 0, .int .i64 0, .string ⟨#[]⟩, .int .i64 0, .bool false, .string ⟨#[]⟩, .string ⟨#[]⟩, .int .i64 0, .slice none 0 0, .int .i64 0, .int .i64 0, .int .i64 0]) := by rw [← hbx, ← hza]; exact HZ.out
    have hwn2 : wz.setRow (bx + 1) x.2.cells.toArray = wn := by rw [← hbx, ← hza]; exact hwn
    have HX : Hid (Tn [] W wn ∧ Bk wn bx 31 #[.int .i64 x.1.1, .int .i64 x.1.2] ∧ Bk wn (bx + 1) 37 x.2.cells.toArray ∧ Wa.heap.size = bx + 1) := by rw [← hbx]; exact ⟨ht, kx, kn, hza⟩
    clear hw6 ht kx kn hwn
    gi_wp2_with (refine wpListIn_store_nd rfl _ _ rfl (bx + 1) _ _ x.2 rfl rfl HZ2.out rfl ?_; rw [hwn2])
    obtain ⟨ht, kx, kn, hza'⟩ := HX.out
    exact hK bx _ ((keeps_tn ht (by simp)).from _) trivial (Tn.trans hF ht (by simp)) trivial
  case done =>
    rintro D xs W hD rfl hF hK
    refine ⟨by simp, .inl ⟨_, _, rfl, run_takeDeferred hK, ?_⟩⟩
    refine ⟨_, results_none rfl _ _ _, ⟨_, rfl⟩, ?_⟩
    exact Tn.grown hF (grownBy_putObj' W D (.deferred none)) (fun k e => by cases e; have := HT0.out.1.size; have := HT3.out.1.size; exact .inr (by omega))
end Go.Proofs.YtmfkiiedmclafaaGreat

namespace Go.Proofs.YtmfkiiedmclafaaGreat
open Go.RowKit Go.Shelf
attribute [local go_sem] Oper.semAt_some
set_option linter.unusedVariables false
set_option linter.unusedSimpArgs false
set_option maxRecDepth 100000
set_option linter.unusedSectionVars false
variable [Inhabited Nod]

theorem results_cutN {fn : Func} {t u v : Tmp} {T T' : TypeId} (h : fn.results = #[.cell t T, .tmp u, .tmp v]) {tmps : Array Value} {w : World} {b : Nat} (ht : tmps.getD t undef = .pointer (some ⟨b, 0, none⟩)) {cs : List Value} {n : Nat}
    (ha : ∀ w, (isAgg T).run Tryz.prog w = .ok true w) (hs : ∀ w, (sizeOf T).run Tryz.prog w = .ok n w) (hn : cs.length = n) (hk : Bk w b T' cs.toArray) : (results fn tmps).run Tryz.prog w = .ok (.tuple #[.agg cs.toArray, tmps.getD u undef, tmps.getD v undef]) w := by
  have ht' : tmps[t]?.getD undef = .pointer (some ⟨b, 0, none⟩) := by simpa using ht
  simp [results, h, ht', asAddr, run_loadVar_cells ha hs hn hk]

theorem eachD_nil (f : Value) (w : World) : Calls Tryz.prog 70 #[.slice none 0 0, f] w fun e w' => e = .returned (.slice none 0 0) ∧ w' = w := by
  go_enter Tryz.func70, Tryz.ntmps70
  go_wp2_with fail
  go_loopw [5, 10] (fun l i wr => l = .slice none 0 0 ∧ i = .int .i64 0 ∧ wr = w) (fun _ i _ => 0)
  case atStart => exact ⟨rfl, rfl, rfl⟩
  case round =>
    obtain ⟨rfl, rfl, rfl⟩ := hrel
    go_wp2
    go_ret
    exact ⟨rfl, rfl⟩

set_option maxHeartbeats 2000000 in
theorem read_nm {w : World} {v : Value} (h : NmN w v) (s g : Int) : Calls Tryz.prog 34 #[v, .agg #[.int .i64 s, .int .i64 g]] w fun e w' => (∃ p c, e = .returned (.tuple #[.agg #[.bool false, .string ⟨#[]⟩, .string ⟨#[]⟩, .int .i64 0, .slice p 0 c], .slice none 0 0, .int .i64 2])) ∧ Tn [] w w' := by
  have H : Hid (NmN w v) := h
  clear h
  obtain ⟨w0, hw0⟩ : ∃ w0, (w.alloc (.cells #[.int .i64 s, .int .i64 g] 31)).alloc (.cells #[.bool false, .string ⟨#[]⟩, .string ⟨#[]⟩, .int .i64 0, .slice none 0 0] 29) = w0 := ⟨_, rfl⟩
  have HT0 : Hid (Tn [] w w0) := by rw [← hw0]; exact ((Tn.refl _ _).alloc _).alloc _
  have HA0 : Hid (Bk w0 w.heap.size 31 #[.int .i64 s, .int .i64 g]) := by rw [← hw0]; exact (Bk.new _ _ _).alloc _
  have HR0 : Hid (Bk w0 (w.heap.size + 1) 29 #[.bool false, .string ⟨#[]⟩, .string ⟨#[]⟩, .int .i64 0, .slice none 0 0]) := by rw [← hw0]; exact Bk.new1 _ _ _ _
  have b0 : w0.cell? ⟨w.heap.size, 0, none⟩ = some (.int .i64 s) := HA0.out.cell 0
  have b1 : w0.cell? ⟨w.heap.size, 1, none⟩ = some (.int .i64 g) := HA0.out.cell 1
  go_enter Tryz.func34, Tryz.ntmps34
  go_wp2_with fail
  refine (take_nm (H.out.tn HT0.out) s g).mono ?_
  rintro e w1 ⟨rfl, ht1⟩
  clear hw0 b0 b1
  obtain ⟨wz, hwz⟩ : ∃ wz, w1.alloc (.cells #[.slice none 0 0, .slice none 0 0, .bool false, .string ⟨#[]⟩, .string ⟨#[]⟩, .int .i64 0, .slice none 0 0] 124) = wz := ⟨_, rfl⟩
  have HZ : Hid (Bk wz w1.heap.size 124 #[.slice none 0 0, .slice none 0 0, .bool false, .string ⟨#[]⟩, .string ⟨#[]⟩, .int .i64 0, .slice none 0 0]) := by rw [← hwz]; exact Bk.new _ _ _
  obtain ⟨w2, hw2⟩ : ∃ w2, wz.setRow w1.heap.size #[.slice none 0 0, .slice none 0 0, .bool false, .string ⟨#[]⟩, .string ⟨#[]⟩, .int .i64 0, .slice none 0 0] = w2 := ⟨_, rfl⟩
  have hw3 : w2 = w1.alloc (.cells #[.slice none 0 0, .slice none 0 0, .bool false, .string ⟨#[]⟩, .string ⟨#[]⟩, .int .i64 0, .slice none 0 0] 124) := by rw [← hw2, ← hwz, World.setRow_alloc_new]
  have HR2 : Hid (Bk w2 (w.heap.size + 1) 29 #[.bool false, .string ⟨#[]⟩, .string ⟨#[]⟩, .int .i64 0, .slice none 0 0] ∧ Tn [] w w2 ∧ Bk w2 w1.heap.size 124 #[.slice none 0 0, .slice none 0 0, .bool false, .string ⟨#[]⟩, .string ⟨#[]⟩, .int .i64 0, .slice none 0 0]) := ⟨by rw [hw3]; exact (HR0.out.tn ht1 (by simp)).alloc _, by rw [hw3]; exact (HT0.out.trans ht1 (by simp)).alloc _, by rw [hw3]; exact Bk.new _ _ _⟩
  have y1 : w2.cell? ⟨w1.heap.size, 1, none⟩ = some (.slice none 0 0) := HR2.out.2.2.cell 1
  have y2 : w2.cell? ⟨w1.heap.size, 2, none⟩ = some (.bool false) := HR2.out.2.2.cell 2
  have y3 : w2.cell? ⟨w1.heap.size, 3, none⟩ = some (.string ⟨#[]⟩) := HR2.out.2.2.cell 3
  have y4 : w2.cell? ⟨w1.heap.size, 4, none⟩ = some (.string ⟨#[]⟩) := HR2.out.2.2.cell 4
  have y5 : w2.cell? ⟨w1.heap.size, 5, none⟩ = some (.int .i64 0) := HR2.out.2.2.cell 5
  have y6 : w2.cell? ⟨w1.heap.size, 6, none⟩ = some (.slice none 0 0) := HR2.out.2.2.cell 6
  have HNE : Hid (¬ (w.heap.size + 1 = w1.heap.size)) := fun e => by
    have := (HR0.out.tn ht1 (by simp)).lt
    omega
  clear ht1 hw3
  go_wp2_with (refine wpList_store_row rfl 124 _ _ rfl w1.heap.size #[.slice none 0 0, .slice none 0 0, .bool false, .string ⟨#[]⟩, .string ⟨#[]⟩, .int .i64 0, .slice none 0 0] rfl rfl _ _ HZ.out pt_info rfl pz_one ?_; rw [hw2])
  have HPZ : Hid (∀ W, Calls Tryz.prog 51 #[pgv false ⟨#[]⟩ ⟨#[]⟩ 0 none 0 0] W fun e w' => ∃ p' c', e = .returned (pgv false ⟨#[]⟩ ⟨#[]⟩ 0 p' 0 c') ∧ Tn [] W w') := fun W => (pclone_any false ⟨#[]⟩ ⟨#[]⟩ 0 none 0 0 [] W rfl (Ens.nil _ _) (by omega) (fun _ => rfl)).mono fun e w' ⟨p', c', he, _, hb⟩ => ⟨p', c', he, Tn.of_below hb []⟩
  have HDR : Hid (Tn [] w2 w2.drew) := (Tn.refl _ _).drew
  have HNB : Hid (¬ (w.heap.size + 1 = w1.heap.size)) := HNE.out
  go_region_held3 (fun w' => w'.cell? ⟨w1.heap.size, 1, none⟩ = some (.slice none 0 0) ∧ w'.cell? ⟨w1.heap.size, 2, none⟩ = some (.bool false) ∧ w'.cell? ⟨w1.heap.size, 3, none⟩ = some (.string ⟨#[]⟩) ∧ w'.cell? ⟨w1.heap.size, 4, none⟩ = some (.string ⟨#[]⟩) ∧ w'.cell? ⟨w1.heap.size, 5, none⟩ = some (.int .i64 0) ∧ w'.cell? ⟨w1.heap.size, 6, none⟩ = some (.slice none 0 0)) (go_keep) (first
    | (go_at_call 51
       refine (HPZ.out w2.drew).mono ?_
       rintro e w3 ⟨p', c', rfl, ht3⟩
       have hT3 : Tn [] w2 w3 := HDR.out.trans ht3 (by simp)
       have HR3 : Hid (Bk w3 (w.heap.size + 1) 29 #[.bool false, .string ⟨#[]⟩, .string ⟨#[]⟩, .int .i64 0, .slice none 0 0]) := HR2.out.1.tn hT3 (by simp)
       have HP3 : Hid (Bk w3 w1.heap.size 124 #[.slice none 0 0, .slice none 0 0, .bool false, .string ⟨#[]⟩, .string ⟨#[]⟩, .int .i64 0, .slice none 0 0] ∧ Tn [] w w3) := ⟨HR2.out.2.2.tn hT3 (by simp), HR2.out.2.1.trans hT3 (by simp)⟩
       clear y1 y2 y3 y4 y5 y6 ht3 hT3
       have y1 : w3.cell? ⟨w1.heap.size, 1, none⟩ = some (.slice none 0 0) := HP3.out.1.cell 1
       have y2 : w3.cell? ⟨w1.heap.size, 2, none⟩ = some (.bool false) := HP3.out.1.cell 2
       have y3 : w3.cell? ⟨w1.heap.size, 3, none⟩ = some (.string ⟨#[]⟩) := HP3.out.1.cell 3
       have y4 : w3.cell? ⟨w1.heap.size, 4, none⟩ = some (.string ⟨#[]⟩) := HP3.out.1.cell 4
       have y5 : w3.cell? ⟨w1.heap.size, 5, none⟩ = some (.int .i64 0) := HP3.out.1.cell 5
       have y6 : w3.cell? ⟨w1.heap.size, 6, none⟩ = some (.slice none 0 0) := HP3.out.1.cell 6)
    | (go_at_call 70
       refine (eachD_nil _ _).mono ?_
       rintro e w4 ⟨rfl, rfl⟩
       have x0 : w4.cell? ⟨w.heap.size + 1, 0, none⟩ = some (.bool false) := HR3.out.cell 0
       have x1 : w4.cell? ⟨w.heap.size + 1, 1, none⟩ = some (.string ⟨#[]⟩) := HR3.out.cell 1
       have x2 : w4.cell? ⟨w.heap.size + 1, 2, none⟩ = some (.string ⟨#[]⟩) := HR3.out.cell 2
       have x3 : w4.cell? ⟨w.heap.size + 1, 3, none⟩ = some (.int .i64 0) := HR3.out.cell 3
       have x4 : w4.cell? ⟨w.heap.size + 1, 4, none⟩ = some (.slice none 0 0) := HR3.out.cell 4
       have f0 := HR3.out.frozen 0
       have f1 := HR3.out.frozen 1
       have f2 := HR3.out.frozen 2
       have f3 := HR3.out.frozen 3
       have f4 := HR3.out.frozen 4
       have nb : ¬ (w.heap.size + 1 = w1.heap.size) := HNB.out
       have nb' : ¬ (w1.heap.size = w.heap.size + 1) := fun e => HNB.out e.symm))
  clear x0 x1 x2 x3 x4 f0 f1 f2 f3 f4 nb nb'
  go_wp2
  refine bodyPost_ret (results_cutN (T' := 29) (cs := [.bool false, .string ⟨#[]⟩, .string ⟨#[]⟩, .int .i64 0, .slice p' 0 c']) rfl rfl pg_agg pg_size rfl (by exact (((((HR3.out.set 0 _).set 1 _).set 2 _).set 3 _).set 4 _))) rfl ?_
  exact ⟨⟨_, _, rfl⟩, ((HP3.out.2.mono (T := [w.heap.size + 1]) (by simp)).five (R := w.heap.size + 1) (.inl (by simp)) _ _ _ _ _).nil_of (by simp)⟩

set_option maxHeartbeats 16000000 in
theorem nothing_nm {w : World} {v : Value} (h : NmN w v) (s g : Int) : Calls Tryz.prog 36 #[v, .agg #[.int .i64 s, .int .i64 g]] w fun e w' => e = .returned (.bool true) ∧ Tn [] w w' := by
  refine calls_of_wpAt Tryz.func36 rfl ?_
  simp only [Tryz.ntmps36, List.size_toArray, List.length_cons, List.length_nil, Nat.reduceAdd, Nat.reduceSub, Array.replicate_succ, Array.replicate_zero, List.push_toArray, List.append_toArray, List.nil_append, List.cons_append]
  obtain ⟨w0, hw0⟩ : ∃ w0, (w.alloc (.cells #[.int .i64 s, .int .i64 g] 31)).alloc (.cells #[.bool false] 4) = w0 := ⟨_, rfl⟩
  have HT0 : Hid (Tn [] w w0) := by rw [← hw0]; exact ((Tn.refl _ _).alloc _).alloc _
  have HA0 : Hid (Bk w0 w.heap.size 31 #[.int .i64 s, .int .i64 g]) := by rw [← hw0]; exact (Bk.new _ _ _).alloc _
  have HR0 : Hid (Bk w0 (w.heap.size + 1) 4 #[.bool false]) := by rw [← hw0]; exact Bk.new1 _ _ _ _
  have b0 : w0.cell? ⟨w.heap.size, 0, none⟩ = some (.int .i64 s) := HA0.out.cell 0
  have b1 : w0.cell? ⟨w.heap.size, 1, none⟩ = some (.int .i64 g) := HA0.out.cell 1
  have H : Hid (NmN w v) := h
  clear h
  refine wpAt_seq_k fun K hK => wpAt_of_wp ?_
  go_wp2
  refine wpAt_seq_k fun K hK => ?_
  have HK : Hid _ := hK
  clear hK
  refine wpAt_seq_k fun K2 hK2 => wpAt_of_wp ?_
  go_wp2_with fail
  refine (nodes_nm (H.out.tn HT0.out) s g).mono ?_
  rintro e w3 ⟨P, Hb, M, rfl, kp, kh, hM, ht3⟩
  have HT3 : Hid (Tn [] w w3 ∧ Bk w3 (w.heap.size + 1) 4 #[.bool false] ∧ Bk w3 P 172 #[.map (some M)] ∧ Bk w3 Hb 31 #[.int .i64 s, .int .i64 g] ∧ w3.heap[M]? = some (.map #[] 0)) := ⟨HT0.out.trans ht3 (by simp), HR0.out.tn ht3 (by simp), kp, kh, hM⟩
  clear ht3 kp kh hM b0 b1 hw0
  go_wp2
  have hst : SeqStopsL 8 Tryz.prog 107 #[.pointer (some ⟨P, 0, none⟩), .pointer (some ⟨Hb, 0, none⟩)] encW (fun _ _ => True) (fun xs => xs = []) (fun _ => False) (fun _ _ => True) (fun _ _ => False) w3 := fun l J Jx Jp W hW hJ hGo hJS hY h0 => by
    have ht : Tn [] w3 W := Tn.of_below hW []
    obtain ⟨q1, q2, q3, q4, q5⟩ := HT3.out
    refine (callsIn_wide.2 (nodes1_no l P Hb M (q3.tn ht (by simp)) (q4.tn ht (by simp)) ((ht.block M (Array.getElem?_eq_some_iff.1 q5).1 (by simp)).trans q5))).mono ?_
    rintro r W' ⟨⟨v, rfl⟩, hTW⟩
    exact .inl ⟨⟨v, rfl⟩, .inl ⟨[], rfl, hJ _ _ _ h0 (below_grown (hTW.below (Nat.le_refl _) (by simp)))⟩⟩
  refine wpAt_blockN ?_
  refine wpAt_boxedL ?A Tryz.func36 (gf := 107) (lb := #[.pointer (some ⟨P, 0, none⟩), .pointer (some ⟨Hb, 0, none⟩)]) rfl (enters_of Tryz.func107 (by kernel_rfl) rfl)
    hst (fun A A' h => h.elim) (fun _ _ => trivial) (fun W l o o' hl ho hc _ => trivial) (Below.refl _ _) (fun _ => rfl)
    (fun pre W => Tn [] w3 W)
    (fun cc pre W => False)
    (fun _ _ _ => False)
    (fun pre A hi => trivial)
    (fun pre A A' hi hs => hs.elim)
    (fun pre A A' row hs hg hr => hs.grown hg (fun k hk => .inr (hr k hk).1))
    (fun cc pre A A' row hs hg hr => hs)
    (Tn.refl _ _)
    (fun x bx W => True)
    (fun x bx _ A A' row hs hg hr => trivial)
    ?assign (fun l pre x bx W _ _ _ h => h.elim) ?done (fun D cc pre W _ h _ _ => h.elim) (fun D chain pre W _ _ h _ => h.elim)
  case assign =>
    rintro l pre x W K hF hK
    obtain ⟨bx, -⟩ : ∃ bx : Nat, bx = 0 := ⟨_, rfl⟩
    gi_wp2
    exact hK bx _ (KeepsFrom.refl _ _) trivial hF trivial
  case done =>
    rintro D xs W hD rfl hF hK
    refine HK.out _ _ (wpAt_of_wp ?_)
    have hkW : Bk W (w.heap.size + 1) 4 #[.bool false] := HT3.out.2.1.tn hF (by simp)
    have d0 : W.cell? ⟨w.heap.size + 1, 0, none⟩ = some (.bool false) := hkW.cell 0
    have f0 := hkW.frozen 0
    go_wp2
    have hK2 : (W.setCell ⟨w.heap.size + 1, 0, none⟩ (.bool true)).heap[D]? = some (.deferred (some [])) := (Below.heap_setCell _ _ _ _ (by have := HT3.out.2.1.lt; simp; omega)).trans hK
    refine ⟨by simp, .inl ⟨_, _, rfl, run_takeDeferred hK2, ?_⟩⟩
    have hk3 : Bk ((W.setCell ⟨w.heap.size + 1, 0, none⟩ (.bool true)).putObj D (.deferred none)) (w.heap.size + 1) 4 #[.bool true] := (World.putObj_heap_other (by have := HT3.out.2.1.lt; omega)).trans (hkW.set 0 (.bool true))
    have c3 : ((W.setCell ⟨w.heap.size + 1, 0, none⟩ (.bool true)).putObj D (.deferred none)).cell? ⟨w.heap.size + 1, 0, none⟩ = some (.bool true) := hk3.cell 0
    refine ⟨.bool true, ?_, rfl, ?_⟩
    · simp [results, Tryz.f36, go_sem, c3]
    · have h1 : Tn [w.heap.size + 1] w (W.setCell ⟨w.heap.size + 1, 0, none⟩ (.bool true)) := ((HT3.out.1.trans hF (by simp)).mono (T := [w.heap.size + 1]) (by simp)).setCell (.inl (by simp)) _
      exact (h1.grown (grownBy_putObj' _ D (.deferred none)) (fun k e => by cases e; have := HT3.out.1.size; exact .inr (by omega))).nil_of (by simp)
end Go.Proofs.YtmfkiiedmclafaaGreat

namespace Go.Proofs.YtmfkiiedmclafaaGreat
open Go.ChangeShapes Go.WideShapes Go.ChangeAt Go.RowKit
open Go.ChangeMaps (open_string shut_string)
set_option linter.unusedVariables false
set_option maxRecDepth 100000

theorem own : ownKnob Tryz.prog.godebug = none := by kernel_rfl
theorem laidOut : laidOutB Tryz.prog = true := by kernel_rfl

theorem list2 {α : Type} {l : List α} (h : l.length = 2) : ∃ a b, l = [a, b] := by
  match l, h with
  | [a, b], _ => exact ⟨a, b, rfl⟩
theorem list3 {α : Type} {l : List α} (h : l.length = 3) : ∃ a b c, l = [a, b, c] := by
  match l, h with
  | [a, b, c], _ => exact ⟨a, b, c, rfl⟩
theorem list4 {α : Type} {l : List α} (h : l.length = 4) : ∃ a b c d, l = [a, b, c, d] := by
  match l, h with
  | [a, b, c, d], _ => exact ⟨a, b, c, d, rfl⟩
theorem list5 {α : Type} {l : List α} (h : l.length = 5) : ∃ a b c d e, l = [a, b, c, d, e] := by
  match l, h with
  | [a, b, c, d, e], _ => exact ⟨a, b, c, d, e, rfl⟩

theorem rcells_at {W : World} {a : Addr} {n : Nat} {cs : List Value} (h : W.cells? 0 a n = some cs) : ∀ j v, cs[j]? = some v → W.cell? (a.add j) = some v := by
  obtain ⟨_, hl, hc⟩ := World.cells?_some h
  intro j v hv
  have hj : j < n := by
    have := (List.getElem?_eq_some_iff.1 hv).1
    omega
  exact (hc j hj).trans hv

/-- A slice of entries that came in. -/
structure InE (M : Nat) (w : World) (p : Option Addr) (len cap : Nat) (l : List En) : Prop where
  lenq : l.length = len
  ens : Ens w p l
  room : len ≤ M
  nil : p = none → len = 0 ∧ cap = 0
  keys : ∀ e ∈ l, e.key.size ≤ 140737488351232
  le : len ≤ cap

section
variable {H : Type} {enc : TypeId × Value → H} {W : World} {fuel : Nat} {cs : List Value} {x : DataW H × List MemPlace}

theorem in_hnd (hf : DataW.trod enc Tryz.prog W 0 (fun _ => true) true fuel 31 cs = some x) : ∃ s g : Int, cs = [.int .i64 s, .int .i64 g] := by
  obtain ⟨ys, n, -, rfl, hlen, hys, hall⟩ := DataW.trod_struct Tryz.underlying31 hf
  have eT : Tryz.prog.cellsOf 31 = 2 := by kernel_rfl
  rw [eT] at hlen
  obtain ⟨c0, c1, rfl⟩ := list2 hlen
  obtain ⟨y0, y1, rfl⟩ := list2 (l := ys) hys
  have h0 : DataW.trod enc Tryz.prog W 0 (fun _ => true) true n 3 [c0] = some y0 := by
    have h : DataW.trod enc Tryz.prog W 0 (fun _ => true) true n 3 (List.take (Tryz.prog.cellsOf 3) (List.drop 0 [c0, c1])) = some y0 := hall 0 _ rfl
    rw [show Tryz.prog.cellsOf 3 = 1 by kernel_rfl] at h
    exact h
  have h1 : DataW.trod enc Tryz.prog W 0 (fun _ => true) true n 2 [c1] = some y1 := by
    have h : DataW.trod enc Tryz.prog W 0 (fun _ => true) true n 2 (List.take (Tryz.prog.cellsOf 2) (List.drop 1 [c0, c1])) = some y1 := hall 1 _ rfl
    rw [show Tryz.prog.cellsOf 2 = 1 by kernel_rfl] at h
    exact h
  obtain ⟨v0, q0, _, w0⟩ := DataW.trod_int Tryz.underlying3 h0
  obtain ⟨v1, q1, _, w1⟩ := DataW.trod_int Tryz.underlying2 h1
  simp only [List.cons.injEq, and_true] at q0 q1
  subst q0 q1
  exact ⟨v0, v1, rfl⟩

theorem in_en (hf : DataW.trod enc Tryz.prog W 0 (fun _ => true) true fuel 33 cs = some x) : ∃ e : En, cs = e.cells ∧ ∃ r, x.1 = .agg (.lit (.string e.key.data.toList) :: r) := by
  obtain ⟨ys, n, -, rfl, hlen, hys, hall⟩ := DataW.trod_struct Tryz.underlying33 hf
  have eT : Tryz.prog.cellsOf 33 = 4 := by kernel_rfl
  rw [eT] at hlen
  obtain ⟨c0, c1, c2, c3, rfl⟩ := list4 hlen
  obtain ⟨y0, y1, y2, rfl⟩ := list3 (l := ys) hys
  have h0 : DataW.trod enc Tryz.prog W 0 (fun _ => true) true n 9 [c0] = some y0 := by
    have h : DataW.trod enc Tryz.prog W 0 (fun _ => true) true n 9 (List.take (Tryz.prog.cellsOf 9) (List.drop 0 [c0, c1, c2, c3])) = some y0 := hall 0 _ rfl
    rw [show Tryz.prog.cellsOf 9 = 1 by kernel_rfl] at h
    exact h
  have h1 : DataW.trod enc Tryz.prog W 0 (fun _ => true) true n 31 [c1, c2] = some y1 := by
    have h : DataW.trod enc Tryz.prog W 0 (fun _ => true) true n 31 (List.take (Tryz.prog.cellsOf 31) (List.drop 1 [c0, c1, c2, c3])) = some y1 := hall 1 _ rfl
    rw [show Tryz.prog.cellsOf 31 = 2 by kernel_rfl] at h
    exact h
  have h2 : DataW.trod enc Tryz.prog W 0 (fun _ => true) true n 3 [c3] = some y2 := by
    have h : DataW.trod enc Tryz.prog W 0 (fun _ => true) true n 3 (List.take (Tryz.prog.cellsOf 3) (List.drop 3 [c0, c1, c2, c3])) = some y2 := hall 2 _ rfl
    rw [show Tryz.prog.cellsOf 3 = 1 by kernel_rfl] at h
    exact h
  obtain ⟨v0, q0, e0, _⟩ := DataW.trod_string Tryz.underlying9 h0
  obtain ⟨s, g, q1⟩ := in_hnd h1
  obtain ⟨v2, q2, _, _⟩ := DataW.trod_int Tryz.underlying3 h2
  simp only [List.cons.injEq, and_true] at q0 q1 q2
  obtain ⟨rfl, rfl⟩ := q1
  subst q0 q2
  refine ⟨⟨v0, s, g, v2⟩, rfl, [y1.1, y2.1], ?_⟩
  rw [e0]
  rfl

theorem in_ens {M : Nat} {a : Option Addr} {len cap : Nat} (hf : DataW.trod enc Tryz.prog W 0 (fun _ => true) true fuel 27 [.slice a len cap] = some x)
    (hB : ∀ elems spare, x.1 = .slice elems spare → elems.length + spare.length ≤ M ∧ ∀ y ∈ elems, ∀ k r, y = .agg (.lit (.string k) :: r) → k.length ≤ 140737488351232) : ∃ l, InE M W a len cap l := by
  have e2 : Tryz.prog.cellsOf 33 = 4 := by kernel_rfl
  rcases Go.Deep.open_slice Tryz.underlying27 hf with ⟨hcs, _⟩ | ⟨x', l, c, m, n, D, Pl, hcs, _, hl, hm, hmm, hx, hall⟩
  · simp at hcs
    obtain ⟨rfl, rfl, rfl⟩ := hcs
    exact ⟨[], rfl, Ens.nil _ _, Nat.zero_le _, fun _ => ⟨rfl, rfl⟩, by simp, Nat.le_refl _⟩
  · simp at hcs
    obtain ⟨rfl, rfl, rfl⟩ := hcs
    simp only [if_true] at hmm
    subst hmm
    rw [e2] at hall
    have hx1 := congrArg Prod.fst hx
    simp only at hx1
    obtain ⟨hr1, hr2⟩ := hB _ _ hx1
    have hroom : len ≤ M := by
      simp at hr1
      omega
    haveI : Inhabited En := ⟨En.zero⟩
    obtain ⟨G, hG⟩ := Go.Deep.choose_lt (n := len) (α := En) (p := fun i g => W.cells? 0 (x'.add (i * 4)) 4 = some g.cells ∧ g.key.size ≤ 140737488351232) (fun i hi => by
      obtain ⟨cs, h1, h2⟩ := hall i (by omega)
      obtain ⟨g, rfl, r, hr⟩ := in_en h2
      refine ⟨g, h1, ?_⟩
      have := hr2 (D i) (List.mem_map.2 ⟨i, List.mem_range.2 hi, rfl⟩) _ _ hr
      rwa [Array.length_toList] at this)
    refine ⟨(List.range len).map G, by simp, fun hpos => ?_, hroom, (fun h => by cases h), ?_, hl⟩
    · have hpos' : 0 < len := by simpa using hpos
      have h0 := rcells_at (hG 0 hpos').1 0 _ rfl
      obtain ⟨b, off, spot⟩ := x'
      have hspot : spot = none := by
        have := World.cell?_spot h0
        simpa [Addr.add] using this
      subst hspot
      refine ⟨b, off, rfl, fun i g hi => ?_⟩
      have hil : i < len := by
        have := (List.getElem?_eq_some_iff.1 hi).1
        simpa using this
      have hg : g = G i := by simpa [hil] using hi.symm
      subst hg
      have c0 := rcells_at (hG i hil).1 0 _ rfl
      have c1 := rcells_at (hG i hil).1 1 _ rfl
      have c2 := rcells_at (hG i hil).1 2 _ rfl
      have c3 := rcells_at (hG i hil).1 3 _ rfl
      rw [Addr.add_lit, Addr.add_lit] at c0 c1 c2 c3
      exact ⟨c0, c1, c2, c3⟩
    · intro g hg
      obtain ⟨i, hi, rfl⟩ := List.mem_map.1 hg
      exact (hG i (List.mem_range.1 hi)).2

theorem weights_all {e : TypeId} {d : DataW H} {n : Nat} : ∀ {l : List (DataW H)}, d ∈ l → n ∈ d.weights Tryz.prog e → n ∈ DataW.weightsAll Tryz.prog e l
  | y :: r, hd, hn => by
    simp only [DataW.weightsAll, List.mem_append]
    rcases List.mem_cons.1 hd with rfl | hd
    · exact .inl hn
    · exact .inr (weights_all hd hn)

theorem in_page {M : Nat} (hf : DataW.trod enc Tryz.prog W 0 (fun _ => true) true fuel 29 cs = some x)
    (hB : ∀ y0 y1 y2 y3 elems spare, x.1 = .agg [y0, y1, y2, y3, .slice elems spare] → elems.length + spare.length ≤ M ∧ ∀ y ∈ elems, ∀ k r, y = .agg (.lit (.string k) :: r) → k.length ≤ 140737488351232) :
    ∃ leaf lo hi r a len cap l, cs = [.bool leaf, .string lo, .string hi, .int .i64 r, .slice a len cap] ∧ InE M W a len cap l := by
  obtain ⟨ys, n, -, rfl, hlen, hys, hall⟩ := DataW.trod_struct Tryz.underlying29 hf
  have eT : Tryz.prog.cellsOf 29 = 5 := by kernel_rfl
  rw [eT] at hlen
  obtain ⟨c0, c1, c2, c3, c4, rfl⟩ := list5 hlen
  obtain ⟨y0, y1, y2, y3, y4, rfl⟩ := list5 (l := ys) hys
  have h0 : DataW.trod enc Tryz.prog W 0 (fun _ => true) true n 4 [c0] = some y0 := by
    have h : DataW.trod enc Tryz.prog W 0 (fun _ => true) true n 4 (List.take (Tryz.prog.cellsOf 4) (List.drop 0 [c0, c1, c2, c3, c4])) = some y0 := hall 0 _ rfl
    rw [show Tryz.prog.cellsOf 4 = 1 by kernel_rfl] at h
    exact h
  have h1 : DataW.trod enc Tryz.prog W 0 (fun _ => true) true n 9 [c1] = some y1 := by
    have h : DataW.trod enc Tryz.prog W 0 (fun _ => true) true n 9 (List.take (Tryz.prog.cellsOf 9) (List.drop 1 [c0, c1, c2, c3, c4])) = some y1 := hall 1 _ rfl
    rw [show Tryz.prog.cellsOf 9 = 1 by kernel_rfl] at h
    exact h
  have h2 : DataW.trod enc Tryz.prog W 0 (fun _ => true) true n 9 [c2] = some y2 := by
    have h : DataW.trod enc Tryz.prog W 0 (fun _ => true) true n 9 (List.take (Tryz.prog.cellsOf 9) (List.drop 2 [c0, c1, c2, c3, c4])) = some y2 := hall 2 _ rfl
    rw [show Tryz.prog.cellsOf 9 = 1 by kernel_rfl] at h
    exact h
  have h3 : DataW.trod enc Tryz.prog W 0 (fun _ => true) true n 3 [c3] = some y3 := by
    have h : DataW.trod enc Tryz.prog W 0 (fun _ => true) true n 3 (List.take (Tryz.prog.cellsOf 3) (List.drop 3 [c0, c1, c2, c3, c4])) = some y3 := hall 3 _ rfl
    rw [show Tryz.prog.cellsOf 3 = 1 by kernel_rfl] at h
    exact h
  have h4 : DataW.trod enc Tryz.prog W 0 (fun _ => true) true n 27 [c4] = some y4 := by
    have h : DataW.trod enc Tryz.prog W 0 (fun _ => true) true n 27 (List.take (Tryz.prog.cellsOf 27) (List.drop 4 [c0, c1, c2, c3, c4])) = some y4 := hall 4 _ rfl
    rw [show Tryz.prog.cellsOf 27 = 1 by kernel_rfl] at h
    exact h
  obtain ⟨v0, q0, _⟩ := DataW.trod_bool Tryz.underlying4 h0
  obtain ⟨v1, q1, _, _⟩ := DataW.trod_string Tryz.underlying9 h1
  obtain ⟨v2, q2, _, _⟩ := DataW.trod_string Tryz.underlying9 h2
  obtain ⟨v3, q3, _, _⟩ := DataW.trod_int Tryz.underlying3 h3
  obtain ⟨a, len, cap, q4⟩ : ∃ a len cap, c4 = .slice a len cap := by
    rcases Go.Deep.open_slice Tryz.underlying27 h4 with ⟨hcs, _⟩ | ⟨x', l, c, m, n, D, Pl, hcs, _⟩
    · simp at hcs; exact ⟨_, _, _, hcs⟩
    · simp at hcs; exact ⟨_, _, _, hcs⟩
  simp only [List.cons.injEq, and_true] at q0 q1 q2 q3
  subst q0 q1 q2 q3 q4
  obtain ⟨l, hl⟩ := in_ens (M := M) h4 (fun elems spare he => hB y0.1 y1.1 y2.1 y3.1 elems spare (by simp [he]))
  exact ⟨v0, v1, v2, v3, a, len, cap, l, rfl, hl⟩

theorem page_said {M : Nat} (hM : 3518437208780 ≤ M) (hW : ∀ n ∈ x.1.weights Tryz.prog 29, n ≤ 140737488351232) :
    ∀ y0 y1 y2 y3 elems spare, x.1 = .agg [y0, y1, y2, y3, .slice elems spare] → elems.length + spare.length ≤ M ∧ ∀ y ∈ elems, ∀ k r, y = .agg (.lit (.string k) :: r) → k.length ≤ 140737488351232 := by
  intro y0 y1 y2 y3 elems spare e
  have e40 : Tryz.prog.bytesOf 33 = 40 := by kernel_rfl
  have hin : ∀ n ∈ DataW.weights Tryz.prog 27 (.slice elems spare), n ∈ x.1.weights Tryz.prog 29 := by
    intro n hn
    rw [e, DataW.weights, Tryz.underlying29]
    simp [DataW.weightsEach]
    simp [hn]
  refine ⟨?_, fun y hy k r hk => ?_⟩
  · have := hW _ (hin ((elems.length + spare.length) * Tryz.prog.bytesOf 33) (by rw [DataW.weights, Tryz.underlying27]; simp))
    rw [e40] at this
    omega
  · refine hW _ (hin k.length ?_)
    rw [DataW.weights, Tryz.underlying27]
    simp only [List.mem_cons, List.mem_append]
    refine .inr (.inl (weights_all hy ?_))
    rw [hk, DataW.weights, Tryz.underlying33]
    simp [DataW.weightsEach, DataW.weights]
end

end Go.Proofs.YtmfkiiedmclafaaGreat

namespace Go.Proofs.YtmfkiiedmclafaaGreat
open Go.ChangeShapes Go.WideShapes Go.ChangeAt Go.RowKit
open Go.ChangeMaps (open_string shut_string)
set_option linter.unusedVariables false
set_option maxRecDepth 100000

theorem list12 {α : Type} {l : List α} (h : l.length = 12) : ∃ c0 c1 c2 c3 c4 c5 c6 c7 c8 c9 c10 c11, l = [c0, c1, c2, c3, c4, c5, c6, c7, c8, c9, c10, c11] := by
  match l, h with
  | [c0, c1, c2, c3, c4, c5, c6, c7, c8, c9, c10, c11], _ => exact ⟨c0, c1, c2, c3, c4, c5, c6, c7, c8, c9, c10, c11, rfl⟩

/-- A delta that came in. -/
structure InD (M : Nat) (w : World) (d : De) (p : Option Addr) (n c : Nat) : Prop where
  right : InE M w p n c d.rt.l

section
variable {H : Type} {enc : TypeId × Value → H} {W : World} {fuel : Nat} {cs : List Value} {x : DataW H × List MemPlace}

theorem in_delta {M : Nat} (hf : DataW.trod enc Tryz.prog W 0 (fun _ => true) true fuel 35 cs = some x)
    (hB : ∀ y0 y1 y2 y3 z0 z1 z2 z3 elems spare, x.1 = .agg [y0, y1, y2, y3, .agg [z0, z1, z2, z3, .slice elems spare]] → elems.length + spare.length ≤ M ∧ ∀ y ∈ elems, ∀ k r, y = .agg (.lit (.string k) :: r) → k.length ≤ 140737488351232) :
    ∃ (d : De) (a : Option Addr) (len cap : Nat), cs = [.int .i64 d.k, .string d.e.key, .int .i64 d.e.s, .int .i64 d.e.g, .int .i64 d.e.c, .string d.key, .int .i64 d.pg, .bool d.rt.leaf, .string d.rt.lo, .string d.rt.hi, .int .i64 d.rt.r, .slice a len cap] ∧ InD M W d a len cap := by
  obtain ⟨ys, n, -, rfl, hlen, hys, hall⟩ := DataW.trod_struct Tryz.underlying35 hf
  have eT : Tryz.prog.cellsOf 35 = 12 := by kernel_rfl
  rw [eT] at hlen
  obtain ⟨c0, c1, c2, c3, c4, c5, c6, c7, c8, c9, c10, c11, rfl⟩ := list12 hlen
  obtain ⟨y0, y1, y2, y3, y4, rfl⟩ := list5 (l := ys) hys
  have h0 : DataW.trod enc Tryz.prog W 0 (fun _ => true) true n 3 [c0] = some y0 := by
    have h : DataW.trod enc Tryz.prog W 0 (fun _ => true) true n 3 (List.take (Tryz.prog.cellsOf 3) (List.drop 0 [c0, c1, c2, c3, c4, c5, c6, c7, c8, c9, c10, c11])) = some y0 := hall 0 _ rfl
    rw [show Tryz.prog.cellsOf 3 = 1 by kernel_rfl] at h
    exact h
  have h1 : DataW.trod enc Tryz.prog W 0 (fun _ => true) true n 33 [c1, c2, c3, c4] = some y1 := by
    have h : DataW.trod enc Tryz.prog W 0 (fun _ => true) true n 33 (List.take (Tryz.prog.cellsOf 33) (List.drop 1 [c0, c1, c2, c3, c4, c5, c6, c7, c8, c9, c10, c11])) = some y1 := hall 1 _ rfl
    rw [show Tryz.prog.cellsOf 33 = 4 by kernel_rfl] at h
    exact h
  have h2 : DataW.trod enc Tryz.prog W 0 (fun _ => true) true n 9 [c5] = some y2 := by
    have h : DataW.trod enc Tryz.prog W 0 (fun _ => true) true n 9 (List.take (Tryz.prog.cellsOf 9) (List.drop 5 [c0, c1, c2, c3, c4, c5, c6, c7, c8, c9, c10, c11])) = some y2 := hall 2 _ rfl
    rw [show Tryz.prog.cellsOf 9 = 1 by kernel_rfl] at h
    exact h
  have h3 : DataW.trod enc Tryz.prog W 0 (fun _ => true) true n 3 [c6] = some y3 := by
    have h : DataW.trod enc Tryz.prog W 0 (fun _ => true) true n 3 (List.take (Tryz.prog.cellsOf 3) (List.drop 6 [c0, c1, c2, c3, c4, c5, c6, c7, c8, c9, c10, c11])) = some y3 := hall 3 _ rfl
    rw [show Tryz.prog.cellsOf 3 = 1 by kernel_rfl] at h
    exact h
  have h4 : DataW.trod enc Tryz.prog W 0 (fun _ => true) true n 29 [c7, c8, c9, c10, c11] = some y4 := by
    have h : DataW.trod enc Tryz.prog W 0 (fun _ => true) true n 29 (List.take (Tryz.prog.cellsOf 29) (List.drop 7 [c0, c1, c2, c3, c4, c5, c6, c7, c8, c9, c10, c11])) = some y4 := hall 4 _ rfl
    rw [show Tryz.prog.cellsOf 29 = 5 by kernel_rfl] at h
    exact h
  obtain ⟨v0, q0, _, _⟩ := DataW.trod_int Tryz.underlying3 h0
  obtain ⟨e, q1, _⟩ := in_en h1
  obtain ⟨v2, q2, _, _⟩ := DataW.trod_string Tryz.underlying9 h2
  obtain ⟨v3, q3, _, _⟩ := DataW.trod_int Tryz.underlying3 h3
  obtain ⟨leaf, lo, hi, r, a, len, cap, l, q4, hl⟩ := in_page (M := M) h4 (fun z0 z1 z2 z3 elems spare he => hB y0.1 y1.1 y2.1 y3.1 z0 z1 z2 z3 elems spare (by simp [he]))
  simp only [List.cons.injEq, and_true] at q0 q1 q2 q3 q4
  obtain ⟨rfl, rfl, rfl, rfl, rfl⟩ := q4
  simp only [En.cells, List.cons.injEq, and_true] at q1
  obtain ⟨rfl, rfl, rfl, rfl⟩ := q1
  subst q0 q2 q3
  exact ⟨⟨v0, e, v2, v3, ⟨leaf, lo, hi, r, l⟩⟩, a, len, cap, rfl, ⟨hl⟩⟩

theorem delta_said {M : Nat} (hM : 3518437208780 ≤ M) (hW : ∀ n ∈ x.1.weights Tryz.prog 35, n ≤ 140737488351232) :
    ∀ y0 y1 y2 y3 z0 z1 z2 z3 elems spare, x.1 = .agg [y0, y1, y2, y3, .agg [z0, z1, z2, z3, .slice elems spare]] → elems.length + spare.length ≤ M ∧ ∀ y ∈ elems, ∀ k r, y = .agg (.lit (.string k) :: r) → k.length ≤ 140737488351232 := by
  intro y0 y1 y2 y3 z0 z1 z2 z3 elems spare e
  refine page_said (x := ((.agg [z0, z1, z2, z3, .slice elems spare] : DataW H), [])) hM (fun n hn => hW n ?_) z0 z1 z2 z3 elems spare rfl
  rw [e, DataW.weights, Tryz.underlying35]
  simp [DataW.weightsEach]
  simp only at hn
  simp [hn]
end

end Go.Proofs.YtmfkiiedmclafaaGreat

namespace Go.Proofs.YtmfkiiedmclafaaGreat
open Go.ChangeShapes Go.WideShapes Go.ChangeAt Go.RowKit Go.Shelf
open Go.ChangeMaps (open_string shut_string)
set_option linter.unusedVariables false
set_option linter.unusedSimpArgs false
set_option maxRecDepth 100000

/-- What lies ahead of the loop. -/
theorem none_start [Inhabited Nod] {w w0 w1 : World} (pcs dcs : Array Value) (s g : Int) (h0 : w0 = ((w.alloc (.cells pcs 29)).alloc (.cells dcs 35)).alloc (.cells #[.int .i64 s, .int .i64 g] 31)) (hb : Below w0.heap.size w0 w1) :
    ∃ ws, (w1.alloc (.cells #[.int .i64 0, .slice none 0 0, .slice none 0 0, .int .i64 0] 101)).alloc (.cells #[.pointer none, .pointer (some ⟨w1.heap.size, 0, none⟩)] 23) = ws ∧ Tn [] w ws ∧
      ∀ W, Tn [] ws W → Tn [] w W ∧ Bk W w.heap.size 29 pcs ∧ Bk W (w.heap.size + 1) 35 dcs ∧ Bk W (w.heap.size + 1 + 1) 31 #[.int .i64 s, .int .i64 g] ∧ ∀ j, j < 2 → ∃ p, W.cell? ⟨w1.heap.size + 1, j, none⟩ = some (.pointer p) ∧ NmN W (.pointer p) := by
  have ht0 : Tn [] w w0 := by rw [h0]; exact (((Tn.refl _ _).alloc _).alloc _).alloc _
  have hp : Bk w0 w.heap.size 29 pcs := by rw [h0]; exact ((Bk.new _ _ _).alloc _).alloc _
  have hd : Bk w0 (w.heap.size + 1) 35 dcs := by rw [h0]; exact (Bk.new1 _ _ _ _).alloc _
  have hh : Bk w0 (w.heap.size + 1 + 1) 31 #[.int .i64 s, .int .i64 g] := by rw [h0]; exact Bk.new2 _ _ _ _ _
  have k1 := (Bk.new w1 101 #[.int .i64 0, .slice none 0 0, .slice none 0 0, .int .i64 0]).alloc (.cells #[.pointer none, .pointer (some ⟨w1.heap.size, 0, none⟩)] 23)
  have k2 := Bk.new (w1.alloc (.cells #[.int .i64 0, .slice none 0 0, .slice none 0 0, .int .i64 0] 101)) 23 #[.pointer none, .pointer (some ⟨w1.heap.size, 0, none⟩)]
  have hts : Tn [] w0 ((w1.alloc (.cells #[.int .i64 0, .slice none 0 0, .slice none 0 0, .int .i64 0] 101)).alloc (.cells #[.pointer none, .pointer (some ⟨w1.heap.size, 0, none⟩)] 23)) := ((Tn.of_below hb []).alloc _).alloc _
  simp only [World.size_alloc] at k2
  refine ⟨_, rfl, ht0.trans hts (by simp), fun W hW => ⟨(ht0.trans hts (by simp)).trans hW (by simp), (hp.tn hts (by simp)).tn hW (by simp), (hd.tn hts (by simp)).tn hW (by simp), (hh.tn hts (by simp)).tn hW (by simp), fun j hj => ?_⟩⟩
  have c2 := (k2.tn hW (by simp)).cell j
  match j, hj with
  | 0, _ => exact ⟨none, c2, NmN.nil _⟩
  | 1, _ => exact ⟨_, c2, NmN.zero (k1.tn hW (by simp)) rfl⟩

set_option maxHeartbeats 16000000 in
theorem walk_inh [Inhabited Nod] (leaf : Bool) (lo hi : ByteArray) (r : Int) (p : Option Addr) (len cap : Nat) (l : List En) (d : De) (dp : Option Addr) (dn dc : Nat) (s g : Int) (w : World) (hw : InE 3518437208780 w p len cap l) (hd : InD 3518437208780 w d dp dn dc) :
    Calls Tryz.prog 8 #[pgv leaf lo hi r p len cap, dlv d.k d.e d.key d.pg d.rt.leaf d.rt.lo d.rt.hi d.rt.r dp dn dc, .agg #[.int .i64 s, .int .i64 g]] w fun e w' => e = .returned (.bool true) ∧ Below w.heap.size w w' := by
  clear hw hd
  obtain ⟨w0, hw0⟩ : ∃ w0, ((w.alloc (.cells (pgc leaf lo hi r p len cap) 29)).alloc (.cells #[.int .i64 d.k, .string d.e.key, .int .i64 d.e.s, .int .i64 d.e.g, .int .i64 d.e.c, .string d.key, .int .i64 d.pg, .bool d.rt.leaf, .string d.rt.lo, .string d.rt.hi, .int .i64 d.rt.r, .slice dp dn dc] 35)).alloc (.cells #[.int .i64 s, .int .i64 g] 31) = w0 := ⟨_, rfl⟩
  go_enter Tryz.func8, Tryz.ntmps8
  go_wp2_with fail
  refine (live_any' w0).mono ?_
  rintro e w1 ⟨rfl, hb1⟩
  obtain ⟨ws, hws, hts, hall⟩ := none_start _ _ s g hw0.symm hb1
  have HA : Hid _ := hall
  clear hb1 hall hts hw0
  go_wp2_with fail
  go_loopw [30] (fun iv wr => ∃ j : Nat, j ≤ 2 ∧ iv = .int .i64 j ∧ Hid (Tn [] ws wr)) (fun iv _ => 2 - (intOf iv).toNat)
  case atStart => exact ⟨0, by omega, rfl, Tn.refl _ _⟩
  case round =>
    obtain ⟨j, hj, rfl, HB⟩ := hrel
    by_cases hlt : j < 2
    · have hli : (j : Int) < 2 := by omega
      obtain ⟨pp, cp, hnm⟩ := (HA.out wr HB.out).2.2.2.2 j hlt
      have HN : Hid (∀ W, Tn [] wr W → NmN W (.pointer pp)) := fun W hW => hnm.tn hW
      have HX : Hid (∀ W, Tn [] wr W → Bk W w.heap.size 29 (pgc leaf lo hi r p len cap) ∧ Bk W (w.heap.size + 1) 35 #[.int .i64 d.k, .string d.e.key, .int .i64 d.e.s, .int .i64 d.e.g, .int .i64 d.e.c, .string d.key, .int .i64 d.pg, .bool d.rt.leaf, .string d.rt.lo, .string d.rt.hi, .int .i64 d.rt.r, .slice dp dn dc] ∧ Bk W (w.heap.size + 1 + 1) 31 #[.int .i64 s, .int .i64 g]) := fun W hW => by
        have := HA.out W (HB.out.trans hW (by simp))
        exact ⟨this.2.1, this.2.2.1, this.2.2.2.1⟩
      have kw := (HX.out wr (Tn.refl _ _)).1
      have c0 : wr.cell? ⟨w.heap.size, 0, none⟩ = some (.bool leaf) := kw.cell 0
      have c1 : wr.cell? ⟨w.heap.size, 1, none⟩ = some (.string lo) := kw.cell 1
      have c2 : wr.cell? ⟨w.heap.size, 2, none⟩ = some (.string hi) := kw.cell 2
      have c3 : wr.cell? ⟨w.heap.size, 3, none⟩ = some (.int .i64 r) := kw.cell 3
      have c4 : wr.cell? ⟨w.heap.size, 4, none⟩ = some (.slice p len cap) := kw.cell 4
      clear hnm hws kw
      go_wp2_with fail
      refine (begin_nm (HN.out wr (Tn.refl _ _)) _ _ _ _ _ _ _).mono ?_
      rintro e w2 ⟨rfl, ht2⟩
      have HT3 : Hid (Tn [] wr (w2.alloc (.cells #[.int .i64 0, .int .i64 0] 31))) := ht2.alloc _
      have kw := HX.out (w2.alloc (.cells #[.int .i64 0, .int .i64 0] 31)) HT3.out
      have h0 : (w2.alloc (.cells #[.int .i64 0, .int .i64 0] 31)).cell? ⟨w.heap.size + 1 + 1, 0, none⟩ = some (.int .i64 s) := kw.2.2.cell 0
      have h1 : (w2.alloc (.cells #[.int .i64 0, .int .i64 0] 31)).cell? ⟨w.heap.size + 1 + 1, 1, none⟩ = some (.int .i64 g) := kw.2.2.cell 1
      have d0 : (w2.alloc (.cells #[.int .i64 0, .int .i64 0] 31)).cell? ⟨w.heap.size + 1, 0, none⟩ = some (.int .i64 d.k) := kw.2.1.cell 0; have d1 : (w2.alloc (.cells #[.int .i64 0, .int .i64 0] 31)).cell? ⟨w.heap.size + 1, 1, none⟩ = some (.string d.e.key) := kw.2.1.cell 1; have d2 : (w2.alloc (.cells #[.int .i64 0, .int .i64 0] 31)).cell? ⟨w.heap.size + 1, 2, none⟩ = some (.int .i64 d.e.s) := kw.2.1.cell 2; have d3 : (w2.alloc (.cells #[.int .i64 0, .int .i64 0] 31)).cell? ⟨w.heap.size + 1, 3, none⟩ = some (.int .i64 d.e.g) := kw.2.1.cell 3; have d4 : (w2.alloc (.cells #[.int .i64 0, .int .i64 0] 31)).cell? ⟨w.heap.size + 1, 4, none⟩ = some (.int .i64 d.e.c) := kw.2.1.cell 4; have d5 : (w2.alloc (.cells #[.int .i64 0, .int .i64 0] 31)).cell? ⟨w.heap.size + 1, 5, none⟩ = some (.string d.key) := kw.2.1.cell 5; have d6 : (w2.alloc (.cells #[.int .i64 0, .int .i64 0] 31)).cell? ⟨w.heap.size + 1, 6, none⟩ = some (.int .i64 d.pg) := kw.2.1.cell 6; have d7 : (w2.alloc (.cells #[.int .i64 0, .int .i64 0] 31)).cell? ⟨w.heap.size + 1, 7, none⟩ = some (.bool d.rt.leaf) := kw.2.1.cell 7; have d8 : (w2.alloc (.cells #[.int .i64 0, .int .i64 0] 31)).cell? ⟨w.heap.size + 1, 8, none⟩ = some (.string d.rt.lo) := kw.2.1.cell 8; have d9 : (w2.alloc (.cells #[.int .i64 0, .int .i64 0] 31)).cell? ⟨w.heap.size + 1, 9, none⟩ = some (.string d.rt.hi) := kw.2.1.cell 9; have d10 : (w2.alloc (.cells #[.int .i64 0, .int .i64 0] 31)).cell? ⟨w.heap.size + 1, 10, none⟩ = some (.int .i64 d.rt.r) := kw.2.1.cell 10; have d11 : (w2.alloc (.cells #[.int .i64 0, .int .i64 0] 31)).cell? ⟨w.heap.size + 1, 11, none⟩ = some (.slice dp dn dc) := kw.2.1.cell 11
      clear ht2 kw c0 c1 c2 c3 c4 cp
      go_wp2_with fail
      refine (grow_nm (HN.out (w2.alloc (.cells #[.int .i64 0, .int .i64 0] 31)) HT3.out) s g d dp dn dc).mono ?_
      rintro e w4 ⟨rfl, ht4⟩
      clear h0 h1 d0 d1 d2 d3 d4 d5 d6 d7 d8 d9 d10 d11
      have HT5 : Hid (Tn [] wr (w4.alloc (.cells #[.int .i64 0, .int .i64 0] 31))) := (HT3.out.trans ht4 (by simp)).alloc _
      have kw := (HX.out (w4.alloc (.cells #[.int .i64 0, .int .i64 0] 31)) HT5.out).2.2
      have h0 : (w4.alloc (.cells #[.int .i64 0, .int .i64 0] 31)).cell? ⟨w.heap.size + 1 + 1, 0, none⟩ = some (.int .i64 s) := kw.cell 0
      have h1 : (w4.alloc (.cells #[.int .i64 0, .int .i64 0] 31)).cell? ⟨w.heap.size + 1 + 1, 1, none⟩ = some (.int .i64 g) := kw.cell 1
      clear ht4 kw HT3
      go_wp2_with fail
      refine (read_nm (HN.out (w4.alloc (.cells #[.int .i64 0, .int .i64 0] 31)) HT5.out) s g).mono ?_
      rintro e w6 ⟨⟨rp, rc, rfl⟩, ht6⟩
      clear h0 h1
      have HT7 : Hid (Tn [] wr (w6.alloc (.cells #[.bool false, .string ⟨#[]⟩, .string ⟨#[]⟩, .int .i64 0, .slice rp 0 rc] 29))) := (HT5.out.trans ht6 (by simp)).alloc _
      have kw := (HX.out (w6.alloc (.cells #[.bool false, .string ⟨#[]⟩, .string ⟨#[]⟩, .int .i64 0, .slice rp 0 rc] 29)) HT7.out).2.2
      have h0 : (w6.alloc (.cells #[.bool false, .string ⟨#[]⟩, .string ⟨#[]⟩, .int .i64 0, .slice rp 0 rc] 29)).cell? ⟨w.heap.size + 1 + 1, 0, none⟩ = some (.int .i64 s) := kw.cell 0
      have h1 : (w6.alloc (.cells #[.bool false, .string ⟨#[]⟩, .string ⟨#[]⟩, .int .i64 0, .slice rp 0 rc] 29)).cell? ⟨w.heap.size + 1 + 1, 1, none⟩ = some (.int .i64 g) := kw.cell 1
      clear ht6 kw HT5
      go_wp2_with fail
      refine (page_nm (HN.out (w6.alloc (.cells #[.bool false, .string ⟨#[]⟩, .string ⟨#[]⟩, .int .i64 0, .slice rp 0 rc] 29)) HT7.out) s g).mono ?_
      rintro e w8 ⟨rfl, ht8⟩
      clear h0 h1
      have HT9 : Hid (Tn [] wr (w8.alloc (.cells #[.bool false, .string ⟨#[]⟩, .string ⟨#[]⟩, .int .i64 0, .slice none 0 0] 29))) := (HT7.out.trans ht8 (by simp)).alloc _
      have kw := (HX.out (w8.alloc (.cells #[.bool false, .string ⟨#[]⟩, .string ⟨#[]⟩, .int .i64 0, .slice none 0 0] 29)) HT9.out).2.2
      have h0 : (w8.alloc (.cells #[.bool false, .string ⟨#[]⟩, .string ⟨#[]⟩, .int .i64 0, .slice none 0 0] 29)).cell? ⟨w.heap.size + 1 + 1, 0, none⟩ = some (.int .i64 s) := kw.cell 0
      have h1 : (w8.alloc (.cells #[.bool false, .string ⟨#[]⟩, .string ⟨#[]⟩, .int .i64 0, .slice none 0 0] 29)).cell? ⟨w.heap.size + 1 + 1, 1, none⟩ = some (.int .i64 g) := kw.cell 1
      clear ht8 kw HT7
      go_wp2_with fail
      refine (look_nm (HN.out (w8.alloc (.cells #[.bool false, .string ⟨#[]⟩, .string ⟨#[]⟩, .int .i64 0, .slice none 0 0] 29)) HT9.out) s g _).mono ?_
      rintro e w10 ⟨rfl, ht10⟩
      clear h0 h1
      have HT11 : Hid (Tn [] wr (w10.alloc (.cells #[.string ⟨#[]⟩, .int .i64 0, .int .i64 0, .int .i64 0, .bool false, .int .i64 0] 74))) := (HT9.out.trans ht10 (by simp)).alloc _
      have kw := (HX.out (w10.alloc (.cells #[.string ⟨#[]⟩, .int .i64 0, .int .i64 0, .int .i64 0, .bool false, .int .i64 0] 74)) HT11.out).2.2
      have h0 : (w10.alloc (.cells #[.string ⟨#[]⟩, .int .i64 0, .int .i64 0, .int .i64 0, .bool false, .int .i64 0] 74)).cell? ⟨w.heap.size + 1 + 1, 0, none⟩ = some (.int .i64 s) := kw.cell 0
      have h1 : (w10.alloc (.cells #[.string ⟨#[]⟩, .int .i64 0, .int .i64 0, .int .i64 0, .bool false, .int .i64 0] 74)).cell? ⟨w.heap.size + 1 + 1, 1, none⟩ = some (.int .i64 g) := kw.cell 1
      clear ht10 kw HT9
      go_wp2_with fail
      refine (long_nm (HN.out (w10.alloc (.cells #[.string ⟨#[]⟩, .int .i64 0, .int .i64 0, .int .i64 0, .bool false, .int .i64 0] 74)) HT11.out) s g).mono ?_
      rintro e w12 ⟨rfl, ht12⟩
      clear h0 h1
      have HT12 : Hid (Tn [] wr w12) := HT11.out.trans ht12 (by simp)
      have kw := (HX.out w12 HT12.out).2.2
      have h0 : w12.cell? ⟨w.heap.size + 1 + 1, 0, none⟩ = some (.int .i64 s) := kw.cell 0
      have h1 : w12.cell? ⟨w.heap.size + 1 + 1, 1, none⟩ = some (.int .i64 g) := kw.cell 1
      clear ht12 kw HT11
      go_wp2_with fail
      refine (pack_nm (HN.out w12 HT12.out) s g).mono ?_
      rintro e w13 ⟨rfl, ht13⟩
      clear h0 h1
      have HT14 : Hid (Tn [] wr (w13.alloc (.cells #[.int .i64 0, .int .i64 0] 31))) := (HT12.out.trans ht13 (by simp)).alloc _
      have kw := (HX.out (w13.alloc (.cells #[.int .i64 0, .int .i64 0] 31)) HT14.out).2.2
      have h0 : (w13.alloc (.cells #[.int .i64 0, .int .i64 0] 31)).cell? ⟨w.heap.size + 1 + 1, 0, none⟩ = some (.int .i64 s) := kw.cell 0
      have h1 : (w13.alloc (.cells #[.int .i64 0, .int .i64 0] 31)).cell? ⟨w.heap.size + 1 + 1, 1, none⟩ = some (.int .i64 g) := kw.cell 1
      clear ht13 kw HT12
      go_wp2_with fail
      refine (free_nm (HN.out (w13.alloc (.cells #[.int .i64 0, .int .i64 0] 31)) HT14.out) s g).mono ?_
      rintro e w15 ⟨rfl, ht15⟩
      clear h0 h1
      have HT15 : Hid (Tn [] wr w15) := HT14.out.trans ht15 (by simp)
      have kw := (HX.out w15 HT15.out).2.2
      have h0 : w15.cell? ⟨w.heap.size + 1 + 1, 0, none⟩ = some (.int .i64 s) := kw.cell 0
      have h1 : w15.cell? ⟨w.heap.size + 1 + 1, 1, none⟩ = some (.int .i64 g) := kw.cell 1
      clear ht15 kw HT14
      go_wp2_with fail
      refine (nothing_nm (HN.out w15 HT15.out) s g).mono ?_
      rintro e w16 ⟨rfl, ht16⟩
      have HT16 : Hid (Tn [] ws w16) := HB.out.trans (HT15.out.trans ht16 (by simp)) (by simp)
      clear h0 h1 ht16 HT15 HX HN
      go_wp2
      go_roundw
      case rel => exact ⟨j + 1, by omega, by go_num, HT16⟩
      case measure => simp [intOf]; omega
    · have hli : ¬ (j : Int) < 2 := by omega
      have HE : Hid (Tn [] w wr) := (HA.out wr HB.out).1
      go_wp2
      go_ret
      exact ⟨rfl, HE.out.below (Nat.le_refl _) (by simp)⟩

theorem walk_chainNone (leaf : Bool) (lo hi : ByteArray) (r : Int) (p : Option Addr) (len cap : Nat) (l : List En) (d : De) (dp : Option Addr) (dn dc : Nat) (s g : Int) (w : World) (hw : InE 3518437208780 w p len cap l) (hd : InD 3518437208780 w d dp dn dc) :
    Calls Tryz.prog 8 #[pgv leaf lo hi r p len cap, dlv d.k d.e d.key d.pg d.rt.leaf d.rt.lo d.rt.hi d.rt.r dp dn dc, .agg #[.int .i64 s, .int .i64 g]] w fun e w' => e = .returned (.bool true) ∧ Below w.heap.size w w' := by
  have i : Inhabited Nod := ⟨Nod.zero⟩
  exact walk_inh leaf lo hi r p len cap l d dp dn dc s g w hw hd

set_option maxRecDepth 100000 in
set_option maxHeartbeats 2000000 in
theorem lifted_chainNone (os : Os) (started : os.Started) (H : Type) (enc : TypeId × Value → H) :
    ReturnsInHanded {} Tryz.checked os 8 .any (Rows.chainNoneSpec.pre6 enc Tryz.prog Tryz.f8 Rows.chainNoneRow.domain false) (Rows.chainNoneSpec.post enc Tryz.prog Tryz.f8 false true false false) := by
  refine returnsInHanded_of_change_sized (C := Tryz.checked) own started (by kernel_rfl) Tryz.func8
    (ChangeSpec.witness6 (enc := enc) (C := Tryz.checked) false ⟨#[], #[.agg #[.bool false, .string .empty, .string .empty, .int .i64 0, .slice none 0 0], .agg #[.int .i64 0, .string .empty, .int .i64 0, .int .i64 0, .int .i64 0, .string .empty, .int .i64 0, .bool false, .string .empty, .string .empty, .int .i64 0, .slice none 0 0], .agg #[.int .i64 0, .int .i64 0]], []⟩ 8 (by kernel_rfl) (by kernel_rfl) (by kernel_rfl) (by kernel_rfl)) ?_
  intro W base args ds gs before hval0 hW _ hsz0 _
  have hsz : (DataW.weightsEach Tryz.prog (Tryz.f8.params.toList ++ Rows.chainNoneSpec.plain.varTypes Tryz.prog) (ds ++ gs)).all (· ≤ reachBytes) = true := hsz0
  clear hsz0
  have hval : ∀ (j : Nat) t v, Tryz.f8.params[j]? = some t → args[j]? = some v → Value.okWide Tryz.prog W .any base t v := hval0
  have hW' := hW
  obtain ⟨p, q, hA0, hV, rfl, hfz, hnd⟩ := hW
  have hA : DataW.TrodAll enc Tryz.prog W 0 (fun _ => true) true Tryz.f8.params.toList args.toList ds p := hA0
  rw [Tryz.params8] at hA hval hsz
  obtain ⟨v0, vs0, d0, ds0, p0, q0, hargs, rfl, rfl, h0, r0⟩ := trodAll_cons hA
  obtain ⟨v1, vs1, d1, ds1, p1, q1, rfl, rfl, rfl, h1, r1⟩ := trodAll_cons r0
  obtain ⟨v2, vs2, d2, ds2, p2, q2, rfl, rfl, rfl, h2, r2⟩ := trodAll_cons r1
  obtain ⟨rfl, rfl, rfl⟩ := trodAll_nil r2
  obtain rfl : args = #[v0, v1, v2] := by cases args; simp_all
  obtain ⟨rfl, rfl⟩ := trodVars_none hV
  have k0 := h0
  have lt0 : ∀ x ∈ p0, x.block < W.heap.size := by obtain ⟨m, hm⟩ := k0; exact DataW.trod_lt m _ _ _ hm
  obtain ⟨b0, lo0, hi0, r0', a0, len0, cap0, l0, e0, w0⟩ : ∃ leaf lo hi r a len cap l, v0 = .agg #[.bool leaf, .string lo, .string hi, .int .i64 r, .slice a len cap] ∧ InE 3518437208780 W a len cap l := by
    obtain ⟨cs, hcs, _⟩ := okWide_struct Tryz.underlying29 (hval 0 29 v0 rfl rfl)
    obtain ⟨fuel, hf⟩ := h0
    obtain ⟨b, lo, hi, r, a, len, cap, l, hg, ho⟩ := in_page (M := 3518437208780) hf (page_said (x := (d0, p0)) (Nat.le_refl _) (fun n hn => by
      have := of_decide_eq_true (List.all_eq_true.1 hsz _ (DataW.weights_mem_each (j := 0) (t := 29) rfl rfl n hn))
      simp only [reachBytes] at this
      omega))
    refine ⟨b, lo, hi, r, a, len, cap, l, ?_, ho⟩
    rw [hcs] at hg ⊢
    congr 1
    apply Array.ext'
    simpa [Value.cells] using hg
  subst e0
  have k1 := h1
  have lt1 : ∀ x ∈ p1, x.block < W.heap.size := by obtain ⟨m, hm⟩ := k1; exact DataW.trod_lt m _ _ _ hm
  obtain ⟨g1, a1, len1, cap1, e1, w1⟩ : ∃ (d : De) (a : Option Addr) (len cap : Nat), v1 = dlv d.k d.e d.key d.pg d.rt.leaf d.rt.lo d.rt.hi d.rt.r a len cap ∧ InD 3518437208780 W d a len cap := by
    obtain ⟨cs, hcs, _⟩ := okWide_struct Tryz.underlying35 (hval 1 35 v1 rfl rfl)
    obtain ⟨fuel, hf⟩ := h1
    obtain ⟨d, a, len, cap, hg, ho⟩ := in_delta (M := 3518437208780) hf (delta_said (x := (d1, p1)) (Nat.le_refl _) (fun n hn => by
      have := of_decide_eq_true (List.all_eq_true.1 hsz _ (DataW.weights_mem_each (j := 1) (t := 35) rfl rfl n hn))
      simp only [reachBytes] at this
      omega))
    refine ⟨d, a, len, cap, ?_, ho⟩
    rw [hcs] at hg ⊢
    congr 1
    apply Array.ext'
    simpa [Value.cells] using hg
  subst e1
  have k2 := h2
  have lt2 : ∀ x ∈ p2, x.block < W.heap.size := by obtain ⟨m, hm⟩ := k2; exact DataW.trod_lt m _ _ _ hm
  obtain ⟨s2, g2, e2⟩ : ∃ s2 g2, v2 = .agg #[.int .i64 s2, .int .i64 g2] := by
    obtain ⟨cs, hcs, _⟩ := okWide_struct Tryz.underlying31 (hval 2 31 v2 rfl rfl)
    obtain ⟨fuel, hf⟩ := h2
    obtain ⟨s2, g2, hg⟩ := in_hnd hf
    refine ⟨s2, g2, ?_⟩
    rw [hcs] at hg ⊢
    congr 1
    apply Array.ext'
    simpa [Value.cells] using hg
  subst e2
  clear hA0 hval0
  refine (walk_chainNone b0 lo0 hi0 r0' a0 len0 cap0 l0 g1 a1 len1 cap1 s2 g2 W w0 w1).mono fun e W' ⟨he, bel⟩ => ?_
  subst he
  exact ⟨_, rfl, _, _, _, [], _, [], hW', trodAll_mk1 (shut_bool Tryz.underlying4 _), (trodAll_cons_mk (Below.trod laidOut (by kernel_rfl) (of_decide_eq_true (by kernel_rfl)) k0 bel lt0) (trodAll_cons_mk (Below.trod laidOut (by kernel_rfl) (of_decide_eq_true (by kernel_rfl)) k1 bel lt1) (trodAll_cons_mk (Below.trod laidOut (by kernel_rfl) (of_decide_eq_true (by kernel_rfl)) k2 bel lt2) trodAll_mk0))), rfl, bel.frame _, fun h => by cases h⟩

/-- The statement. -/
theorem chainNone_holds : Rows.ChainNoneSaid :=
  OpenClaim.holds_of_wide 8 Tryz.f8 rfl rfl rfl rfl rfl rfl rfl ⟨rfl, rfl, rfl, rfl, rfl⟩ rfl rfl rfl rfl rfl (by kernel_rfl) Tryz.func8 (by kernel_rfl)
    (of_decide_eq_true (by kernel_rfl)) (by unfold Func.isWrapper; first | (rw [if_pos (by decide +kernel)]; kernel_rfl) | (rw [if_neg (by decide +kernel)]; exact ⟨rfl, rfl⟩))
    (fun os started H enc _ => lifted_chainNone os started H enc)
#print axioms chainNone_holds
end Go.Proofs.YtmfkiiedmclafaaGreat
