/- An oracle beside the document's: a step with both. -/
import Derived.Test.YtdgphlghmjnjfaaOrCl
namespace Go.Proofs.Ytdgphlghmjnjfaa
open Go.RowKit Go.Maps Go.Shelf
set_option linter.unusedVariables false
set_option maxRecDepth 100000

/-- Both of them, new since w, with the same data. -/
structure Bo (w wr : World) (B M R : Nat) (v : Value) (o : Or) (ats : List Nat) : Prop where
  is : IsOr wr B M o
  rf : IsRf wr R v o ats
  ok : o.Ok
  below : Below w.heap.size w wr
  hB : w.heap.size ≤ B
  hM : w.heap.size ≤ M
  hR : w.heap.size ≤ R
  hv : ∀ b, v.ownBlock = some b → w.heap.size ≤ b

section
variable {w wr wa wb wc : World} {B M R : Nat} {v v' : Value} {o o' : Or} {ats ats' : List Nat}
theorem Bo.blw (h : Bo w wr B M R v o ats) (hb : Below wr.heap.size wr wb) : Bo w wb B M R v o ats :=
  ⟨h.is.below hb, h.rf.below hb, h.ok, h.below.trans (hb.mono h.below.size), h.hB, h.hM, h.hR, h.hv⟩
theorem Bo.neB (h : Bo w wr B M R v o ats) : B ∉ [R] ∧ M ∉ [R] := by
  simp
  exact ⟨h.is.blk.ne h.rf.blk (by decide), h.is.mp.neBk h.rf.blk⟩
/-- One call of the program's, then one of the document's. -/
theorem Bo.two (h : Bo w wa B M R v o ats) (t : Ort wa wb B M o') (hf : IsRf wc R v' o' ats') (tn : Tn [R] wb wc) (hn : ∀ b, v'.ownBlock = some b → v.ownBlock = some b ∨ wb.heap.size ≤ b) (hk : o'.Ok) : Bo w wc B M R v' o' ats' := by
  have h1 := h.below.trans (t.tn.below h.below.size (by simp; exact ⟨h.hB, h.hM⟩))
  refine ⟨t.is.tn tn h.neB.1 h.neB.2, hf, hk, h1.trans (tn.below h1.size (by simpa using h.hR)), h.hB, h.hM, h.hR, fun b hb => ?_⟩
  rcases hn b hb with e | e
  · exact h.hv b e
  · have := h1.size
    omega

def StepPost (w : World) (R : Nat) (e : Ending) (w' : World) : Prop := ∃ B' M' v' o' ats', e = .returned (.tuple #[.pointer (some ⟨B', 0, none⟩), .bool true]) ∧ Bo w w' B' M' R v' o' ats'

set_option maxHeartbeats 4000000 in
theorem step_0 (h : Bo w wr B M R v o ats) (g : Oop) (hg : g.ok) (hd : g.dd = 0) : Calls Try.prog 10 #[.pointer (some ⟨B, 0, none⟩), .pointer (some ⟨R, 0, none⟩), .agg #[.int .i64 0, .int .i64 g.s, .int .i64 g.ts, .bool g.odd]] wr (StepPost w R) := by
  obtain ⟨wo, hwo⟩ : ∃ wo, wr.alloc (.cells #[.int .i64 0, .int .i64 g.s, .int .i64 g.ts, .bool g.odd] 32) = wo := ⟨_, rfl⟩
  have hbo : Below wr.heap.size wr wo := by rw [← hwo]; exact (Below.refl _ wr).alloc (Nat.le_refl _) _
  have kbo : Bk wo wr.heap.size 32 #[.int .i64 0, .int .i64 g.s, .int .i64 g.ts, .bool g.odd] := by rw [← hwo]; exact Bk.new _ _ _
  have d0 : wo.cell? ⟨wr.heap.size, 0, none⟩ = some (.int .i64 0) := kbo.cell 0
  have d1 : wo.cell? ⟨wr.heap.size, 1, none⟩ = some (.int .i64 g.s) := kbo.cell 1
  have d2 : wo.cell? ⟨wr.heap.size, 2, none⟩ = some (.int .i64 g.ts) := kbo.cell 2
  have d3 : wo.cell? ⟨wr.heap.size, 3, none⟩ = some (.bool g.odd) := kbo.cell 3
  have ho := h.blw hbo
  have r0 := ho.rf.c0
  obtain ⟨bx, hbx⟩ : ∃ bx, wr.heap.size = bx := ⟨_, rfl⟩
  have HBX : Hid (wr.heap.size = bx) := hbx
  have HH : Hid (Bo w wr B M R v o ats ∧ g.ok ∧ g.dd = 0 ∧ o.last ≤ 1099511627776) := ⟨h, hg, hd, h.ok.max⟩
  have HC : Hid (∀ W, Below wr.heap.size wr W → Bk W bx 32 #[.int .i64 0, .int .i64 g.s, .int .i64 g.ts, .bool g.odd] → W.cell? ⟨bx, 0, none⟩ = some (.int .i64 0) ∧ W.cell? ⟨bx, 1, none⟩ = some (.int .i64 g.s) ∧ W.cell? ⟨bx, 2, none⟩ = some (.int .i64 g.ts) ∧ W.cell? ⟨bx, 3, none⟩ = some (.bool g.odd) ∧ W.cell? ⟨R, 0, none⟩ = some (.int .i64 (o.last : Int))) := fun W hW k => ⟨k.cell 0, k.cell 1, k.cell 2, k.cell 3, (h.rf.below hW).c0⟩
  have HBO : Hid (Below wr.heap.size wr wo ∧ Bk wo bx 32 #[.int .i64 0, .int .i64 g.s, .int .i64 g.ts, .bool g.odd]) := ⟨hbo, hbx ▸ kbo⟩
  rw [hbx] at d0 d1 d2 d3
  clear h hg hd hbo kbo ho
  go_enter Try.func10, Try.ntmps10
  go_wp2_with fail
  clear hwo hbx
  have HDR : Hid (Below wr.heap.size wr wo.drew ∧ Bk wo.drew bx 32 #[.int .i64 0, .int .i64 g.s, .int .i64 g.ts, .bool g.odd]) := ⟨HBO.out.1.drew, HBO.out.2.drew⟩
  go_region_held3 (fun w' => w'.cell? ⟨bx, 0, none⟩ = some (.int .i64 0) ∧ w'.cell? ⟨bx, 1, none⟩ = some (.int .i64 g.s) ∧ w'.cell? ⟨bx, 2, none⟩ = some (.int .i64 g.ts) ∧ w'.cell? ⟨bx, 3, none⟩ = some (.bool g.odd) ∧ w'.cell? ⟨R, 0, none⟩ = some (.int .i64 (o.last : Int))) (go_keep) (first
    | (go_at_call 19; refine (stamp_box HH.out.2.2.1 wo.drew o.last HH.out.2.2.2).mono ?_; rintro r w4 ⟨rfl, hb4⟩; have HB4 : Hid (Below wr.heap.size wr w4 ∧ Bk w4 bx 32 #[.int .i64 0, .int .i64 g.s, .int .i64 g.ts, .bool g.odd]) := ⟨HDR.out.1.trans (hb4.mono HDR.out.1.size), HDR.out.2.below hb4 HDR.out.2.lt⟩; obtain ⟨s0, s1, s2, s3, s4⟩ := HC.out w4 HB4.out.1 HB4.out.2; clear hb4))
  clear HBO HDR d0 d1 d2 d3 r0
  have H4 : Hid (Bo w w4 B M R v o ats) := HH.out.1.blw HB4.out.1
  have HBL : Hid (∀ W, Tn [B, M] w4 W → W.cell? ⟨bx, 1, none⟩ = some (.int .i64 g.s)) := fun W hW => (HB4.out.2.tn hW (by have h1 := HH.out.1.is.ltB; have h2 := HH.out.1.is.ltM; have h3 := HBX.out; simp; omega)).cell 1
  go_wp2_with fail
  refine (next_all H4.out.is H4.out.ok).mono ?_
  rintro r w5 ⟨rfl, hT⟩
  have HT : Hid (Ort w4 w5 B M o.nextR.2.2) := hT
  clear hT
  go_wp2_with fail
  refine (rnext_any (H4.out.rf.ort H4.out.is HT.out) H4.out.ok).mono ?_
  rintro r w6 ⟨rfl, v', hf, tn, hn⟩
  have HE : Hid (Bo w w6 B M R v' o.nextR.2.2 ats) := H4.out.two HT.out hf tn hn (Or.nextR_le H4.out.ok).ok
  clear hf tn hn HT HC HBL H4 HH
  generalize o.nextR.1 = a1 at *
  generalize o.nextR.2.1 = a2 at *
  go_wp2
  go_ret2
  exact ⟨_, _, _, _, _, by simp, HE.out⟩

set_option maxHeartbeats 4000000 in
theorem step_1 (h : Bo w wr B M R v o ats) (g : Oop) (hg : g.ok) (hd : g.dd = 1) : Calls Try.prog 10 #[.pointer (some ⟨B, 0, none⟩), .pointer (some ⟨R, 0, none⟩), .agg #[.int .i64 1, .int .i64 g.s, .int .i64 g.ts, .bool g.odd]] wr (StepPost w R) := by
  obtain ⟨wo, hwo⟩ : ∃ wo, wr.alloc (.cells #[.int .i64 1, .int .i64 g.s, .int .i64 g.ts, .bool g.odd] 32) = wo := ⟨_, rfl⟩
  have hbo : Below wr.heap.size wr wo := by rw [← hwo]; exact (Below.refl _ wr).alloc (Nat.le_refl _) _
  have kbo : Bk wo wr.heap.size 32 #[.int .i64 1, .int .i64 g.s, .int .i64 g.ts, .bool g.odd] := by rw [← hwo]; exact Bk.new _ _ _
  have d0 : wo.cell? ⟨wr.heap.size, 0, none⟩ = some (.int .i64 1) := kbo.cell 0
  have d1 : wo.cell? ⟨wr.heap.size, 1, none⟩ = some (.int .i64 g.s) := kbo.cell 1
  have d2 : wo.cell? ⟨wr.heap.size, 2, none⟩ = some (.int .i64 g.ts) := kbo.cell 2
  have d3 : wo.cell? ⟨wr.heap.size, 3, none⟩ = some (.bool g.odd) := kbo.cell 3
  have ho := h.blw hbo
  have r0 := ho.rf.c0
  obtain ⟨bx, hbx⟩ : ∃ bx, wr.heap.size = bx := ⟨_, rfl⟩
  have HBX : Hid (wr.heap.size = bx) := hbx
  have HH : Hid (Bo w wr B M R v o ats ∧ g.ok ∧ g.dd = 1 ∧ o.last ≤ 1099511627776) := ⟨h, hg, hd, h.ok.max⟩
  have HC : Hid (∀ W, Below wr.heap.size wr W → Bk W bx 32 #[.int .i64 1, .int .i64 g.s, .int .i64 g.ts, .bool g.odd] → W.cell? ⟨bx, 0, none⟩ = some (.int .i64 1) ∧ W.cell? ⟨bx, 1, none⟩ = some (.int .i64 g.s) ∧ W.cell? ⟨bx, 2, none⟩ = some (.int .i64 g.ts) ∧ W.cell? ⟨bx, 3, none⟩ = some (.bool g.odd) ∧ W.cell? ⟨R, 0, none⟩ = some (.int .i64 (o.last : Int))) := fun W hW k => ⟨k.cell 0, k.cell 1, k.cell 2, k.cell 3, (h.rf.below hW).c0⟩
  have HBO : Hid (Below wr.heap.size wr wo ∧ Bk wo bx 32 #[.int .i64 1, .int .i64 g.s, .int .i64 g.ts, .bool g.odd]) := ⟨hbo, hbx ▸ kbo⟩
  rw [hbx] at d0 d1 d2 d3
  clear h hg hd hbo kbo ho
  go_enter Try.func10, Try.ntmps10
  go_wp2_with fail
  clear hwo hbx
  have HDR : Hid (Below wr.heap.size wr wo.drew ∧ Bk wo.drew bx 32 #[.int .i64 1, .int .i64 g.s, .int .i64 g.ts, .bool g.odd]) := ⟨HBO.out.1.drew, HBO.out.2.drew⟩
  go_region_held3 (fun w' => w'.cell? ⟨bx, 0, none⟩ = some (.int .i64 1) ∧ w'.cell? ⟨bx, 1, none⟩ = some (.int .i64 g.s) ∧ w'.cell? ⟨bx, 2, none⟩ = some (.int .i64 g.ts) ∧ w'.cell? ⟨bx, 3, none⟩ = some (.bool g.odd) ∧ w'.cell? ⟨R, 0, none⟩ = some (.int .i64 (o.last : Int))) (go_keep) (first
    | (go_at_call 19; refine (stamp_box HH.out.2.2.1 wo.drew o.last HH.out.2.2.2).mono ?_; rintro r w4 ⟨rfl, hb4⟩; have HB4 : Hid (Below wr.heap.size wr w4 ∧ Bk w4 bx 32 #[.int .i64 1, .int .i64 g.s, .int .i64 g.ts, .bool g.odd]) := ⟨HDR.out.1.trans (hb4.mono HDR.out.1.size), HDR.out.2.below hb4 HDR.out.2.lt⟩; obtain ⟨s0, s1, s2, s3, s4⟩ := HC.out w4 HB4.out.1 HB4.out.2; clear hb4))
  clear HBO HDR d0 d1 d2 d3 r0
  have H4 : Hid (Bo w w4 B M R v o ats) := HH.out.1.blw HB4.out.1
  have HBL : Hid (∀ W, Tn [B, M] w4 W → W.cell? ⟨bx, 1, none⟩ = some (.int .i64 g.s)) := fun W hW => (HB4.out.2.tn hW (by have h1 := HH.out.1.is.ltB; have h2 := HH.out.1.is.ltM; have h3 := HBX.out; simp; omega)).cell 1
  go_wp2_with fail
  refine (publish_all H4.out.is H4.out.ok _ (Oop.stamp_wf HH.out.2.1 _ HH.out.2.2.2)).mono ?_
  rintro r w5 ⟨x, o1, rfl, hT, hP⟩
  have HT : Hid (Ort w4 w5 B M o1 ∧ o.PubR (g.stamp o.last) x o1) := ⟨hT, hP⟩
  clear hT hP
  go_wp2_with fail
  refine (rpublish_any (H4.out.rf.ort H4.out.is HT.out.1) H4.out.ok _ HT.out.2).mono ?_
  rintro r w6 ⟨rfl, v', hf, tn, hn⟩
  have HE : Hid (Bo w w6 B M R v' o1 ats) := H4.out.two HT.out.1 hf tn hn (HT.out.2.le H4.out.ok).ok
  clear hf tn hn HT HC HBL H4 HH
  go_wp2
  go_ret2
  exact ⟨_, _, _, _, _, by simp, HE.out⟩

set_option maxHeartbeats 4000000 in
theorem step_2 (h : Bo w wr B M R v o ats) (g : Oop) (hg : g.ok) (hd : g.dd = 2) : Calls Try.prog 10 #[.pointer (some ⟨B, 0, none⟩), .pointer (some ⟨R, 0, none⟩), .agg #[.int .i64 2, .int .i64 g.s, .int .i64 g.ts, .bool g.odd]] wr (StepPost w R) := by
  obtain ⟨wo, hwo⟩ : ∃ wo, wr.alloc (.cells #[.int .i64 2, .int .i64 g.s, .int .i64 g.ts, .bool g.odd] 32) = wo := ⟨_, rfl⟩
  have hbo : Below wr.heap.size wr wo := by rw [← hwo]; exact (Below.refl _ wr).alloc (Nat.le_refl _) _
  have kbo : Bk wo wr.heap.size 32 #[.int .i64 2, .int .i64 g.s, .int .i64 g.ts, .bool g.odd] := by rw [← hwo]; exact Bk.new _ _ _
  have d0 : wo.cell? ⟨wr.heap.size, 0, none⟩ = some (.int .i64 2) := kbo.cell 0
  have d1 : wo.cell? ⟨wr.heap.size, 1, none⟩ = some (.int .i64 g.s) := kbo.cell 1
  have d2 : wo.cell? ⟨wr.heap.size, 2, none⟩ = some (.int .i64 g.ts) := kbo.cell 2
  have d3 : wo.cell? ⟨wr.heap.size, 3, none⟩ = some (.bool g.odd) := kbo.cell 3
  have ho := h.blw hbo
  have r0 := ho.rf.c0
  obtain ⟨bx, hbx⟩ : ∃ bx, wr.heap.size = bx := ⟨_, rfl⟩
  have HBX : Hid (wr.heap.size = bx) := hbx
  have HH : Hid (Bo w wr B M R v o ats ∧ g.ok ∧ g.dd = 2 ∧ o.last ≤ 1099511627776) := ⟨h, hg, hd, h.ok.max⟩
  have HC : Hid (∀ W, Below wr.heap.size wr W → Bk W bx 32 #[.int .i64 2, .int .i64 g.s, .int .i64 g.ts, .bool g.odd] → W.cell? ⟨bx, 0, none⟩ = some (.int .i64 2) ∧ W.cell? ⟨bx, 1, none⟩ = some (.int .i64 g.s) ∧ W.cell? ⟨bx, 2, none⟩ = some (.int .i64 g.ts) ∧ W.cell? ⟨bx, 3, none⟩ = some (.bool g.odd) ∧ W.cell? ⟨R, 0, none⟩ = some (.int .i64 (o.last : Int))) := fun W hW k => ⟨k.cell 0, k.cell 1, k.cell 2, k.cell 3, (h.rf.below hW).c0⟩
  have HBO : Hid (Below wr.heap.size wr wo ∧ Bk wo bx 32 #[.int .i64 2, .int .i64 g.s, .int .i64 g.ts, .bool g.odd]) := ⟨hbo, hbx ▸ kbo⟩
  rw [hbx] at d0 d1 d2 d3
  clear h hg hd hbo kbo ho
  go_enter Try.func10, Try.ntmps10
  go_wp2_with fail
  clear hwo hbx
  have HDR : Hid (Below wr.heap.size wr wo.drew ∧ Bk wo.drew bx 32 #[.int .i64 2, .int .i64 g.s, .int .i64 g.ts, .bool g.odd]) := ⟨HBO.out.1.drew, HBO.out.2.drew⟩
  go_region_held3 (fun w' => w'.cell? ⟨bx, 0, none⟩ = some (.int .i64 2) ∧ w'.cell? ⟨bx, 1, none⟩ = some (.int .i64 g.s) ∧ w'.cell? ⟨bx, 2, none⟩ = some (.int .i64 g.ts) ∧ w'.cell? ⟨bx, 3, none⟩ = some (.bool g.odd) ∧ w'.cell? ⟨R, 0, none⟩ = some (.int .i64 (o.last : Int))) (go_keep) (first
    | (go_at_call 19; refine (stamp_box HH.out.2.2.1 wo.drew o.last HH.out.2.2.2).mono ?_; rintro r w4 ⟨rfl, hb4⟩; have HB4 : Hid (Below wr.heap.size wr w4 ∧ Bk w4 bx 32 #[.int .i64 2, .int .i64 g.s, .int .i64 g.ts, .bool g.odd]) := ⟨HDR.out.1.trans (hb4.mono HDR.out.1.size), HDR.out.2.below hb4 HDR.out.2.lt⟩; obtain ⟨s0, s1, s2, s3, s4⟩ := HC.out w4 HB4.out.1 HB4.out.2; clear hb4))
  clear HBO HDR d0 d1 d2 d3 r0
  have H4 : Hid (Bo w w4 B M R v o ats) := HH.out.1.blw HB4.out.1
  have HBL : Hid (∀ W, Tn [B, M] w4 W → W.cell? ⟨bx, 1, none⟩ = some (.int .i64 g.s)) := fun W hW => (HB4.out.2.tn hW (by have h1 := HH.out.1.is.ltB; have h2 := HH.out.1.is.ltM; have h3 := HBX.out; simp; omega)).cell 1
  go_wp2_with fail
  refine (open_all H4.out.is H4.out.ok _).mono ?_
  rintro r w5 ⟨rfl, hT⟩
  have HT : Hid (Ort w4 w5 B M (o.openR g.s).2.2) := hT
  have t1 := HBL.out w5 hT.tn
  clear hT
  go_wp2_with fail
  refine (ropen_any (H4.out.rf.ort H4.out.is HT.out) H4.out.ok _).mono ?_
  rintro r w6 ⟨rfl, ats', hf, tn⟩
  have HE : Hid (Bo w w6 B M R v (o.openR g.s).2.2 ats') := H4.out.two HT.out hf tn (fun b hb => .inl hb) (Or.openR_le H4.out.ok _).ok
  clear hf tn HT HC HBL H4 HH t1
  generalize (o.openR g.s).1 = a1 at *
  generalize (o.openR g.s).2.1 = a2 at *
  go_wp2
  go_ret2
  exact ⟨_, _, _, _, _, by simp, HE.out⟩

set_option maxHeartbeats 4000000 in
theorem step_4 (h : Bo w wr B M R v o ats) (g : Oop) (hg : g.ok) (hd : g.dd = 4) : Calls Try.prog 10 #[.pointer (some ⟨B, 0, none⟩), .pointer (some ⟨R, 0, none⟩), .agg #[.int .i64 4, .int .i64 g.s, .int .i64 g.ts, .bool g.odd]] wr (StepPost w R) := by
  obtain ⟨wo, hwo⟩ : ∃ wo, wr.alloc (.cells #[.int .i64 4, .int .i64 g.s, .int .i64 g.ts, .bool g.odd] 32) = wo := ⟨_, rfl⟩
  have hbo : Below wr.heap.size wr wo := by rw [← hwo]; exact (Below.refl _ wr).alloc (Nat.le_refl _) _
  have kbo : Bk wo wr.heap.size 32 #[.int .i64 4, .int .i64 g.s, .int .i64 g.ts, .bool g.odd] := by rw [← hwo]; exact Bk.new _ _ _
  have d0 : wo.cell? ⟨wr.heap.size, 0, none⟩ = some (.int .i64 4) := kbo.cell 0
  have d1 : wo.cell? ⟨wr.heap.size, 1, none⟩ = some (.int .i64 g.s) := kbo.cell 1
  have d2 : wo.cell? ⟨wr.heap.size, 2, none⟩ = some (.int .i64 g.ts) := kbo.cell 2
  have d3 : wo.cell? ⟨wr.heap.size, 3, none⟩ = some (.bool g.odd) := kbo.cell 3
  have ho := h.blw hbo
  have r0 := ho.rf.c0
  obtain ⟨bx, hbx⟩ : ∃ bx, wr.heap.size = bx := ⟨_, rfl⟩
  have HBX : Hid (wr.heap.size = bx) := hbx
  have HH : Hid (Bo w wr B M R v o ats ∧ g.ok ∧ g.dd = 4 ∧ o.last ≤ 1099511627776) := ⟨h, hg, hd, h.ok.max⟩
  have HC : Hid (∀ W, Below wr.heap.size wr W → Bk W bx 32 #[.int .i64 4, .int .i64 g.s, .int .i64 g.ts, .bool g.odd] → W.cell? ⟨bx, 0, none⟩ = some (.int .i64 4) ∧ W.cell? ⟨bx, 1, none⟩ = some (.int .i64 g.s) ∧ W.cell? ⟨bx, 2, none⟩ = some (.int .i64 g.ts) ∧ W.cell? ⟨bx, 3, none⟩ = some (.bool g.odd) ∧ W.cell? ⟨R, 0, none⟩ = some (.int .i64 (o.last : Int))) := fun W hW k => ⟨k.cell 0, k.cell 1, k.cell 2, k.cell 3, (h.rf.below hW).c0⟩
  have HBO : Hid (Below wr.heap.size wr wo ∧ Bk wo bx 32 #[.int .i64 4, .int .i64 g.s, .int .i64 g.ts, .bool g.odd]) := ⟨hbo, hbx ▸ kbo⟩
  rw [hbx] at d0 d1 d2 d3
  clear h hg hd hbo kbo ho
  go_enter Try.func10, Try.ntmps10
  go_wp2_with fail
  clear hwo hbx
  have HDR : Hid (Below wr.heap.size wr wo.drew ∧ Bk wo.drew bx 32 #[.int .i64 4, .int .i64 g.s, .int .i64 g.ts, .bool g.odd]) := ⟨HBO.out.1.drew, HBO.out.2.drew⟩
  go_region_held3 (fun w' => w'.cell? ⟨bx, 0, none⟩ = some (.int .i64 4) ∧ w'.cell? ⟨bx, 1, none⟩ = some (.int .i64 g.s) ∧ w'.cell? ⟨bx, 2, none⟩ = some (.int .i64 g.ts) ∧ w'.cell? ⟨bx, 3, none⟩ = some (.bool g.odd) ∧ w'.cell? ⟨R, 0, none⟩ = some (.int .i64 (o.last : Int))) (go_keep) (first
    | (go_at_call 19; refine (stamp_box HH.out.2.2.1 wo.drew o.last HH.out.2.2.2).mono ?_; rintro r w4 ⟨rfl, hb4⟩; have HB4 : Hid (Below wr.heap.size wr w4 ∧ Bk w4 bx 32 #[.int .i64 4, .int .i64 g.s, .int .i64 g.ts, .bool g.odd]) := ⟨HDR.out.1.trans (hb4.mono HDR.out.1.size), HDR.out.2.below hb4 HDR.out.2.lt⟩; obtain ⟨s0, s1, s2, s3, s4⟩ := HC.out w4 HB4.out.1 HB4.out.2; clear hb4))
  clear HBO HDR d0 d1 d2 d3 r0
  have H4 : Hid (Bo w w4 B M R v o ats) := HH.out.1.blw HB4.out.1
  have HBL : Hid (∀ W, Tn [B, M] w4 W → W.cell? ⟨bx, 1, none⟩ = some (.int .i64 g.s)) := fun W hW => (HB4.out.2.tn hW (by have h1 := HH.out.1.is.ltB; have h2 := HH.out.1.is.ltM; have h3 := HBX.out; simp; omega)).cell 1
  go_wp2_with fail
  refine (clone_any H4.out.is H4.out.ok).mono ?_
  rintro r w5 ⟨B', M', rfl, hI, hB5, hM5, hb5⟩
  have HI : Hid (IsOr w5 B' M' o ∧ w4.heap.size ≤ B' ∧ w4.heap.size ≤ M' ∧ Below w4.heap.size w4 w5) := ⟨hI, hB5, hM5, hb5⟩
  have H5 : Hid (Bo w w5 B M R v o ats) := H4.out.blw hb5
  clear hI hB5 hM5 hb5
  go_wp2_with fail
  refine (next_all H5.out.is H5.out.ok).mono ?_
  rintro r w6 ⟨rfl, hT⟩
  have HT6 : Hid (Ort w5 w6 B M o.nextR.2.2 ∧ o.nextR.2.2.Ok) := ⟨hT, (Or.nextR_le H5.out.ok).ok⟩
  clear hT
  generalize o.nextR.2.2 = o6 at HT6
  go_wp2_with fail
  refine (publish_all HT6.out.1.is HT6.out.2 _ (Oop.stamp_wf HH.out.2.1 _ HH.out.2.2.2)).mono ?_
  rintro r w7 ⟨x, o7, rfl, hT, hP⟩
  have HT7 : Hid (Ort w5 w7 B M o7 ∧ o7.Ok) := ⟨HT6.out.1.trans hT, (hP.le HT6.out.2).ok⟩
  have t1 := HBL.out w7 ((Tn.of_below HI.out.2.2.2 _).trans HT7.out.1.tn (fun x hx => .inl hx))
  clear hT hP HT6
  go_wp2_with fail
  refine (open_all HT7.out.1.is HT7.out.2 _).mono ?_
  rintro r w8 ⟨rfl, hT⟩
  have HE : Hid (Bo w w8 B' M' R v o ats) := by
    have h1 := HT7.out.1.trans hT
    have hB := H4.out.is.ltB
    have hM := H4.out.is.ltM
    obtain ⟨i1, i2, i3, i4⟩ := HI.out
    have hs := H4.out.below.size
    exact ⟨i1.tn h1.tn (by simp; omega) (by simp; omega), H5.out.rf.ort H5.out.is h1, H5.out.ok, H5.out.below.trans (h1.tn.below H5.out.below.size (by simp; exact ⟨H5.out.hB, H5.out.hM⟩)), by omega, by omega, H5.out.hR, H5.out.hv⟩
  clear hT HT7 HC HBL H4 H5 HH HI t1
  go_wp2
  go_ret2
  exact ⟨_, _, _, _, _, by simp, HE.out⟩

set_option maxHeartbeats 4000000 in
theorem step_3 (h : Bo w wr B M R v o ats) (g : Oop) (hg : g.ok) {d : Int} (n0 : ¬ d = 0) (n1 : ¬ d = 1) (n2 : ¬ d = 2) (n4 : ¬ d = 4) (hd : g.dd = d) : Calls Try.prog 10 #[.pointer (some ⟨B, 0, none⟩), .pointer (some ⟨R, 0, none⟩), .agg #[.int .i64 d, .int .i64 g.s, .int .i64 g.ts, .bool g.odd]] wr (StepPost w R) := by
  obtain ⟨wo, hwo⟩ : ∃ wo, wr.alloc (.cells #[.int .i64 d, .int .i64 g.s, .int .i64 g.ts, .bool g.odd] 32) = wo := ⟨_, rfl⟩
  have hbo : Below wr.heap.size wr wo := by rw [← hwo]; exact (Below.refl _ wr).alloc (Nat.le_refl _) _
  have kbo : Bk wo wr.heap.size 32 #[.int .i64 d, .int .i64 g.s, .int .i64 g.ts, .bool g.odd] := by rw [← hwo]; exact Bk.new _ _ _
  have d0 : wo.cell? ⟨wr.heap.size, 0, none⟩ = some (.int .i64 d) := kbo.cell 0
  have d1 : wo.cell? ⟨wr.heap.size, 1, none⟩ = some (.int .i64 g.s) := kbo.cell 1
  have d2 : wo.cell? ⟨wr.heap.size, 2, none⟩ = some (.int .i64 g.ts) := kbo.cell 2
  have d3 : wo.cell? ⟨wr.heap.size, 3, none⟩ = some (.bool g.odd) := kbo.cell 3
  have ho := h.blw hbo
  have r0 := ho.rf.c0
  obtain ⟨bx, hbx⟩ : ∃ bx, wr.heap.size = bx := ⟨_, rfl⟩
  have HBX : Hid (wr.heap.size = bx) := hbx
  have HH : Hid (Bo w wr B M R v o ats ∧ g.ok ∧ g.dd = d ∧ o.last ≤ 1099511627776) := ⟨h, hg, hd, h.ok.max⟩
  have HC : Hid (∀ W, Below wr.heap.size wr W → Bk W bx 32 #[.int .i64 d, .int .i64 g.s, .int .i64 g.ts, .bool g.odd] → W.cell? ⟨bx, 0, none⟩ = some (.int .i64 d) ∧ W.cell? ⟨bx, 1, none⟩ = some (.int .i64 g.s) ∧ W.cell? ⟨bx, 2, none⟩ = some (.int .i64 g.ts) ∧ W.cell? ⟨bx, 3, none⟩ = some (.bool g.odd) ∧ W.cell? ⟨R, 0, none⟩ = some (.int .i64 (o.last : Int))) := fun W hW k => ⟨k.cell 0, k.cell 1, k.cell 2, k.cell 3, (h.rf.below hW).c0⟩
  have HBO : Hid (Below wr.heap.size wr wo ∧ Bk wo bx 32 #[.int .i64 d, .int .i64 g.s, .int .i64 g.ts, .bool g.odd]) := ⟨hbo, hbx ▸ kbo⟩
  rw [hbx] at d0 d1 d2 d3
  clear h hg hd hbo kbo ho
  go_enter Try.func10, Try.ntmps10
  go_wp2_with fail
  clear hwo hbx
  have HDR : Hid (Below wr.heap.size wr wo.drew ∧ Bk wo.drew bx 32 #[.int .i64 d, .int .i64 g.s, .int .i64 g.ts, .bool g.odd]) := ⟨HBO.out.1.drew, HBO.out.2.drew⟩
  go_region_held3 (fun w' => w'.cell? ⟨bx, 0, none⟩ = some (.int .i64 d) ∧ w'.cell? ⟨bx, 1, none⟩ = some (.int .i64 g.s) ∧ w'.cell? ⟨bx, 2, none⟩ = some (.int .i64 g.ts) ∧ w'.cell? ⟨bx, 3, none⟩ = some (.bool g.odd) ∧ w'.cell? ⟨R, 0, none⟩ = some (.int .i64 (o.last : Int))) (go_keep) (first
    | (go_at_call 19; refine (stamp_box HH.out.2.2.1 wo.drew o.last HH.out.2.2.2).mono ?_; rintro r w4 ⟨rfl, hb4⟩; have HB4 : Hid (Below wr.heap.size wr w4 ∧ Bk w4 bx 32 #[.int .i64 d, .int .i64 g.s, .int .i64 g.ts, .bool g.odd]) := ⟨HDR.out.1.trans (hb4.mono HDR.out.1.size), HDR.out.2.below hb4 HDR.out.2.lt⟩; obtain ⟨s0, s1, s2, s3, s4⟩ := HC.out w4 HB4.out.1 HB4.out.2; clear hb4))
  clear HBO HDR d0 d1 d2 d3 r0
  have H4 : Hid (Bo w w4 B M R v o ats) := HH.out.1.blw HB4.out.1
  have HBL : Hid (∀ W, Tn [B, M] w4 W → W.cell? ⟨bx, 1, none⟩ = some (.int .i64 g.s)) := fun W hW => (HB4.out.2.tn hW (by have h1 := HH.out.1.is.ltB; have h2 := HH.out.1.is.ltM; have h3 := HBX.out; simp; omega)).cell 1
  have HX : Hid (∀ W W', Tn [B, M] w4.drew W → Tn [R] W W' → W'.cell? ⟨bx, 1, none⟩ = some (.int .i64 g.s)) := fun W W' h1 h2 => by
    have hb := (HB4.out.2.drew.tn h1 (by have h1 := HH.out.1.is.ltB; have h2 := HH.out.1.is.ltM; have h3 := HBX.out; simp; omega))
    exact (hb.tn h2 (by have h1 := HH.out.1.rf.ltR; have h3 := HBX.out; simp; omega)).cell 1
  go_wp2_with fail
  have HD4 : Hid (Bk w4.drew bx 32 #[.int .i64 d, .int .i64 g.s, .int .i64 g.ts, .bool g.odd] ∧ Bo w w4.drew B M R v o ats) := ⟨HB4.out.2.drew, H4.out.blw (Below.refl _ _).drew⟩
  have HBD : Hid (∀ W, Tn [B, M] w4.drew W → W.cell? ⟨bx, 1, none⟩ = some (.int .i64 g.s)) := fun W hW => HBL.out W (((Tn.refl _ _).drew).trans hW (fun x hx => .inl hx))
  go_region_held3 (fun w' => w'.cell? ⟨bx, 1, none⟩ = some (.int .i64 g.s)) (go_keep) (first
    | (go_at_call 21; refine (close_all HD4.out.2.is HD4.out.2.ok g.s).mono ?_; rintro r w5 ⟨rfl, hT⟩; have HT : Hid (Ort w4.drew w5 B M (o.closeR g.s).2) := hT; have t1 := HBD.out w5 hT.tn; clear hT)
    | (go_at_call 31; refine (rclose_any (HD4.out.2.rf.ort HD4.out.2.is HT.out) HD4.out.2.ok g.s).mono ?_; rintro r w6 ⟨rfl, hf, tn⟩; have t2 := (HX.out w5 w6 HT.out.tn tn); have HE : Hid (Bo w w6 B M R v (o.closeR g.s).2 ats) := HD4.out.2.two HT.out hf tn (fun b hb => .inl hb) (Or.closeR_le HD4.out.2.ok _).ok; clear hf tn))
  clear HT HC HBL HBD H4 HH t1 HD4
  generalize (o.closeR g.s).1 = a1 at *
  go_wp2
  go_ret2
  exact ⟨_, _, _, _, _, by simp, HE.out⟩

theorem step_any (h : Bo w wr B M R v o ats) (g : Oop) (hg : g.ok) : Calls Try.prog 10 #[.pointer (some ⟨B, 0, none⟩), .pointer (some ⟨R, 0, none⟩), .agg #[.int .i64 g.dd, .int .i64 g.s, .int .i64 g.ts, .bool g.odd]] wr (StepPost w R) := by
  by_cases h0 : g.dd = 0
  · rw [h0]; exact step_0 h g hg h0
  · by_cases h1 : g.dd = 1
    · rw [h1]; exact step_1 h g hg h1
    · by_cases h2 : g.dd = 2
      · rw [h2]; exact step_2 h g hg h2
      · by_cases h4 : g.dd = 4
        · rw [h4]; exact step_4 h g hg h4
        · exact step_3 h g hg h0 h1 h2 h4 rfl
end
end Go.Proofs.Ytdgphlghmjnjfaa
