/- A step: the disk is gone on with in its clone. -/
import Derived.Test.YtpggnejifpcnmaaDkStep
import Derived.Test.YtpggnejifpcnmaaDkCl2
namespace Go.Proofs.Ytpggnejifpcnmaa
open Go.RowKit Go.Shelf Go.Maps
set_option linter.unusedVariables false

/-- The elder disk, its clone, the reference and the operation's box. -/
def Cq (w0 : World) (bs rs cbs : List Nat) (w : World) (B C R : Nat) (dx dc d : Dk) (g : GOp) : Prop := ∃ bsx, Dsk w B bsx dx ∧ Dsk w C cbs dc ∧ Rf w R rs d ∧ (∀ b ∈ bsx, b ∉ cbs ∧ b ∉ rs) ∧ Tn bs w0 w ∧ (∀ b ∈ bsx, b ∈ bs ∨ w0.heap.size < b) ∧ Bk w w0.heap.size 34 g.cells.toArray

section
variable {w0 w w' : World} {bs rs cbs : List Nat} {B C R : Nat} {dx dc d dy : Dk} {g : GOp}

theorem Cq.below (h : Cq w0 bs rs cbs w B C R dx dc d g) (k : Below w.heap.size w w') : Cq w0 bs rs cbs w' B C R dx dc d g := by
  obtain ⟨bsx, h1, h2, h3, h4, h5, h6, h7⟩ := h
  exact ⟨bsx, h1.below k, h2.below k, h3.below k, h4, h5.trans (Tn.of_below k []) (by simp), h6, h7.below k h7.lt⟩

theorem Cq.call (hb : ∀ b ∈ bs, b < w0.heap.size) (h : Cq w0 bs rs cbs w B C R dx dc d g) {f : FuncId} {args : Array Value} {v : Value}
    (hc : ∀ bsx, Dsk w B bsx dx → Calls Try.prog f args w fun x w' => x = .returned v ∧ Turns w w' B bsx dy) : Calls Try.prog f args w fun x w' => x = .returned v ∧ Cq w0 bs rs cbs w' B C R dy dc d g := by
  obtain ⟨bsx, h1, h2, h3, h4, h5, h6, h7⟩ := h
  refine (hc bsx h1).mono fun x w' ⟨hx, bs', k1, k2, k3⟩ => ⟨hx, bs', k1, h2.tn k2 (fun b hb hb' => (h4 b hb').1 hb), h3.tn k2 (fun b hb hb' => (h4 b hb').2 hb), fun b hb' => ?_, h5.trans k2 (fun x hx => (h6 x hx).imp id Nat.le_of_lt), fun b hb' => ?_, h7.tn k2 (fun hm => ?_)⟩
  · rcases k3 b hb' with hh | hh
    · exact h4 b hh
    · exact ⟨fun hm => by have := h2.lt b hm; omega, fun hm => by have := h3.lt b hm; omega⟩
  · rcases k3 b hb' with hh | hh
    · exact h6 b hh
    · exact .inr (by have := h7.lt; omega)
  · rcases h6 _ hm with hh | hh
    · have := hb _ hh
      omega
    · omega

theorem Cq.box (h : Cq w0 bs rs cbs w B C R dx dc d g) : w.cell? ⟨w0.heap.size, 1, none⟩ = some (.int .i64 g.pl) ∧ w.cell? ⟨w0.heap.size, 2, none⟩ = some (.int .u8 g.a) ∧ w.cell? ⟨w0.heap.size, 3, none⟩ = some (.int .u8 g.b) := by
  obtain ⟨bsx, h1, h2, h3, h4, h5, h6, h7⟩ := h
  exact op_box h7
end

theorem sameD_cs (d : Dk) (cc : Nat) : sameD { d with cs := cc } d = true := by
  simp [sameD, Dk.last]

theorem Rf.room {w : World} {R : Nat} {bs : List Nat} {d : Dk} (h : Rf w R bs d) (cc : Nat) : Rf w R bs { d with cs := cc } := by
  obtain ⟨N, S, D, cN, cS, p, c, kk, kb, rfl, h⟩ := h
  exact ⟨N, S, D, cN, cS, p, c, kk, kb, rfl, { blk := h.blk, now := h.now, sure := h.sure, dirty := h.dirty, keep := h.keep, kbs := h.kbs, kne := h.kne, klt := h.klt, ne := h.ne, eqk := h.eqk, n1 := h.n1, n2 := h.n2, caps := h.caps, secS := h.secS, secD := h.secD, left := h.left }⟩

set_option maxRecDepth 100000 in
set_option maxHeartbeats 4000000 in
theorem step_clone {w : World} {B R : Nat} {bs rs : List Nat} {d : Dk} {g : GOp} (h : StepIn w B R bs rs d g) (hd : g.dd = 6) (hkl : d.keep.length ≤ 140737488355328) :
    Calls Try.prog 12 #[.pointer (some ⟨B, 0, none⟩), .pointer (some ⟨R, 0, none⟩), .agg #[.int .i64 g.dd, .int .i64 g.pl, .int .u8 g.a, .int .u8 g.b, .int .i64 g.n, .slice g.kp g.ks.length g.kc, .slice g.op g.os.length g.oc]] w fun e w' => ∃ C cbs cc, e = .returned (.tuple #[.pointer (some ⟨C, 0, none⟩), .bool true]) ∧ Pr w' C R cbs rs { d with cs := cc } { d with cs := cc } ∧ Tn bs w w' ∧ ∀ b ∈ cbs, w.heap.size ≤ b := by
  have HP : Hid (Pr w B R bs rs d d) := h.pr
  have HS1 : Hid (PS w bs rs (w.alloc (.cells g.cells.toArray 34)) B R d d g) := PS.start h.pr
  have HD1 : Hid (Dsk (w.alloc (.cells g.cells.toArray 34)) B bs d) := h.pr.1.below ((Below.refl _ _).alloc (Nat.le_refl _) _)
  have HR1 : Hid (Rf (w.alloc (.cells g.cells.toArray 34)) R rs d) := h.pr.2.1.below ((Below.refl _ _).alloc (Nat.le_refl _) _)
  have HT1 : Hid (Tn bs w (w.alloc (.cells g.cells.toArray 34))) := (Tn.refl _ _).alloc _
  have HK1 : Hid (Bk (w.alloc (.cells g.cells.toArray 34)) w.heap.size 34 g.cells.toArray) := Bk.new _ _ _
  have HL : Hid (∀ b ∈ bs, b < w.heap.size) := h.pr.1.lt
  have HLR : Hid (∀ b ∈ rs, b < w.heap.size) := h.pr.2.1.lt
  have HX : Hid (∀ b ∈ bs, b ∉ rs) := h.pr.2.2
  have b0 : (g.dd == 0) = false := by simp [hd]
  have b1 : (g.dd == 1) = false := by simp [hd]
  have b2 : (g.dd == 2) = false := by simp [hd]
  have b3 : (g.dd == 3) = false := by simp [hd]
  have b4 : (g.dd == 4) = false := by simp [hd]
  have b5 : (g.dd == 5) = false := by simp [hd]
  have b6 : (g.dd == 6) = true := by simp [hd]
  have HSEC : Hid (Sec (sct g.a g.b)) := sec_sct h.op.a h.op.b
  obtain ⟨cb1, cb2, cb3⟩ := HS1.out.box
  clear h hd
  go_enter Try.func12, Try.ntmps12
  go_wp2_with fail
  refine (clone_any HD1.out hkl).mono ?_
  rintro e w2 ⟨C, cbs, cc, rfl, hc2, hg2, hb2⟩
  have hsz : (w.alloc (.cells g.cells.toArray 34)).heap.size = w.heap.size + 1 := by simp
  have HG : Hid (∀ b ∈ cbs, w.heap.size < b) := fun b hb => by have := hg2 b hb; omega
  have HQ2 : Hid (Cq w bs rs cbs w2 B C R d { d with cs := cc } d g) := ⟨bs, HD1.out.below hb2, hc2, HR1.out.below hb2, fun b hb => ⟨fun hm => by have := HG.out b hm; have := HL.out b hb; omega, HX.out b hb⟩, HT1.out.trans (Tn.of_below hb2 []) (by simp), fun b hb => .inl hb, HK1.out.below hb2 HK1.out.lt⟩
  have HC2 : Hid (Dsk w2 C cbs { d with cs := cc }) := hc2
  have HD2 : Hid (Dsk w2 B bs d) := HD1.out.below hb2
  have HSD : Hid (sameD { d with cs := cc } d = true) := sameD_cs d cc
  clear hc2 hg2 hb2 HD1 HR1 HT1 HK1 cb1 cb2 cb3 HS1 hsz HP
  go_wp2_with fail
  refine (same_any HC2.out HD2.out).mono ?_
  rintro e w3 ⟨rfl, hb3⟩
  have HQ3 : Hid (Cq w bs rs cbs w3 B C R d { d with cs := cc } d g) := HQ2.out.below hb3
  have HQ3d : Hid (Cq w bs rs cbs w3.drew B C R d { d with cs := cc } d g) := HQ3.out.below ((Below.refl _ _).drew)
  rw [HSD.out]
  clear hb3 HC2 HD2 HQ2
  obtain ⟨cb1, cb2, cb3⟩ := HQ3.out.box
  go_wp2_with fail
  go_region_held3 (fun w' => w'.cell? ⟨w.heap.size, 1, none⟩ = some (.int .i64 g.pl) ∧ w'.cell? ⟨w.heap.size, 2, none⟩ = some (.int .u8 g.a) ∧ w'.cell? ⟨w.heap.size, 3, none⟩ = some (.int .u8 g.b)) (go_keep) (first
    | (go_at_call 22; refine (sector_any g.a g.b _).mono ?_; rintro e w6 ⟨g6, rfl, hg6, hr6, hb6⟩; have hs6 := HQ3d.out.below hb6; have hk6 := hs6.box)
    | (go_at_call 23; refine (Cq.call HL.out hs6 (fun bs h => write_all h g.pl _ 512 _ (sct g.a g.b) HSEC.out.1 hr6.bys HSEC.out.2)).mono ?_; rintro e w7 ⟨rfl, hs7⟩; have hk7 := hs7.box))
  have HQ7 : Hid (Cq w bs rs cbs w7 B C R (d.write g.pl (sct g.a g.b)).2 { d with cs := cc } d g) := hs7
  clear hs6 hk6 hg6 hr6 hb6 hs7 hk7 cb1 cb2 cb3 HQ3 HQ3d
  go_wp2_with fail
  refine (Cq.call HL.out HQ7.out (fun bs h => crash_all h none 0 [] 0 rfl (Bls.nil _ _) (fun ad ha => by cases ha))).mono ?_
  rintro e w8 ⟨rfl, hq8⟩
  have HQ8 : Hid (Cq w bs rs cbs w8 B C R ((d.write g.pl (sct g.a g.b)).2.crash []).2 { d with cs := cc } d g) := hq8
  clear hq8 HQ7
  go_wp2
  go_ret2
  obtain ⟨bsx, h1, h2, h3, h4, h5, h6, h7⟩ := HQ8.out
  exact ⟨C, cbs, cc, rfl, ⟨h2, h3.room cc, fun b hb hm => by have := HG.out b hb; have := HLR.out b hm; omega⟩, h5, fun b hb => Nat.le_of_lt (HG.out b hb)⟩

end Go.Proofs.Ytpggnejifpcnmaa
