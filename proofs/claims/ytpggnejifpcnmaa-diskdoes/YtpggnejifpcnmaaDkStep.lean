/- A step: the calls in whatever order. -/
import Derived.Test.YtpggnejifpcnmaaDkStepM
import Derived.Deep.RegionHeld3
namespace Go.Proofs.Ytpggnejifpcnmaa
open Go.RowKit Go.Shelf Go.Maps
set_option linter.unusedVariables false

section
variable {w0 w w' : World} {bs0 rs0 : List Nat} {B R : Nat} {d e d1 e1 : Dk} {g : GOp}

theorem PS.diskN (hp : Pr w0 B R bs0 rs0 d1 e1) (h : PS w0 bs0 rs0 w B R d e g) {f : FuncId} {args : Array Value} {v : Value} {d2 : Dk}
    (hc : ∀ bs, Dsk w B bs d → (∀ b ∈ bs, b ∈ bs0 ++ rs0 ∨ w0.heap.size < b) → Calls Try.prog f args w fun x w' => x = .returned v ∧ Turns w w' B bs d2) : Calls Try.prog f args w fun x w' => x = .returned v ∧ PS w0 bs0 rs0 w' B R d2 e g := by
  obtain ⟨bs, rs, h1, t, a, b⟩ := h
  exact (hc bs h1.1 (fun x hx => a x (by simp [hx]))).mono fun x w' ⟨hx, ht⟩ => ⟨hx, PS.turn hp t a b (h1.disk ht)⟩

theorem PS.refF (hp : Pr w0 B R bs0 rs0 d1 e1) (h : PS w0 bs0 rs0 w B R d e g) (k : Below w.heap.size w w') {f : FuncId} {args : Array Value} {v : Value} {e2 : Dk}
    (hc : ∀ rs, Rf w' R rs e → (∀ b ∈ rs, b < w.heap.size) → Calls Try.prog f args w' fun x w'' => x = .returned v ∧ RTurns w' w'' R rs e2) : Calls Try.prog f args w' fun x w'' => x = .returned v ∧ PS w0 bs0 rs0 w'' B R d e2 g := by
  obtain ⟨bs, rs, h1, t, a, b⟩ := h
  have h2 := h1.below k
  exact (hc rs h2.2.1 (fun x hx => h1.lt x (by simp [hx]))).mono fun x w' ⟨hx, ht⟩ => ⟨hx, PS.turn hp (t.trans (Tn.of_below k []) (by simp)) a (b.below k b.lt) (h2.ref ht)⟩

/-- The operation's box. -/
theorem PS.box (h : PS w0 bs0 rs0 w B R d e g) : w.cell? ⟨w0.heap.size, 1, none⟩ = some (.int .i64 g.pl) ∧ w.cell? ⟨w0.heap.size, 2, none⟩ = some (.int .u8 g.a) ∧ w.cell? ⟨w0.heap.size, 3, none⟩ = some (.int .u8 g.b) := by
  obtain ⟨bs, rs, h1, t, a, b⟩ := h
  exact op_box b
theorem PS.box2 (h : PS w0 bs0 rs0 w B R d e g) : w.cell? ⟨w0.heap.size, 4, none⟩ = some (.int .i64 g.n) ∧ w.cell? ⟨w0.heap.size, 5, none⟩ = some (.slice g.kp g.ks.length g.kc) := by
  obtain ⟨bs, rs, h1, t, a, b⟩ := h
  refine ⟨?_, ?_⟩ <;> (rw [b.cell]; rfl)
theorem PS.box3 (h : PS w0 bs0 rs0 w B R d e g) : w.cell? ⟨w0.heap.size, 1, none⟩ = some (.int .i64 g.pl) ∧ w.cell? ⟨w0.heap.size, 6, none⟩ = some (.slice g.op g.os.length g.oc) := by
  obtain ⟨bs, rs, h1, t, a, b⟩ := h
  refine ⟨?_, ?_⟩ <;> (rw [b.cell]; rfl)

theorem PS.bls (h : PS w0 bs0 rs0 w B R d e g) {p : Option Addr} {ks : List Bool} (hk : Bls w0 p ks) (hn : ∀ ad, p = some ad → 0 < ks.length → ad.block ∉ bs0 ++ rs0) : Bls w p ks := by
  obtain ⟨bs, rs, h1, t, a, b⟩ := h
  exact hk.tn t hn
theorem PS.bys (h : PS w0 bs0 rs0 w B R d e g) {p : Option Addr} {xs : List Int} (hk : Bys w0 p xs) (hn : ∀ ad, p = some ad → 0 < xs.length → ad.block ∉ bs0 ++ rs0) : Bys w p xs := by
  obtain ⟨bs, rs, h1, t, a, b⟩ := h
  intro hl
  obtain ⟨b', o, rfl, hc⟩ := hk hl
  exact ⟨b', o, rfl, fun i hi => t.cell (hc i hi) (hn _ rfl hl)⟩
end

theorem low_out {w0 : World} {bs0 rs0 l : List Nat} (hl : ∀ b ∈ l, b ∈ bs0 ++ rs0 ∨ w0.heap.size < b) {x : Nat} (hx : x < w0.heap.size) (hn : x ∉ bs0 ++ rs0) : x ∉ l := fun hm => by
  rcases hl x hm with h | h
  · exact hn h
  · omega

theorem bls_lt {w : World} {p : Option Addr} {ks : List Bool} (h : Bls w p ks) : ∀ ad, p = some ad → 0 < ks.length → ad.block < w.heap.size := by
  intro ad ha hl
  obtain ⟨b, o, rfl, hc⟩ := h hl
  cases ha
  exact World.block_lt_of_cell? w _ (hc 0 hl)
theorem bys_lt {w : World} {p : Option Addr} {xs : List Int} (h : Bys w p xs) : ∀ ad, p = some ad → 0 < xs.length → ad.block < w.heap.size := by
  intro ad ha hl
  obtain ⟨b, o, rfl, hc⟩ := h hl
  cases ha
  exact World.block_lt_of_cell? w _ (hc 0 hl)

section
variable {w : World} {B R : Nat} {bs rs : List Nat} {d : Dk} {g : GOp}

set_option maxRecDepth 100000 in
set_option maxHeartbeats 4000000 in
theorem step_write (h : StepIn w B R bs rs d g) (hd : g.dd = 0) : Steps w B R bs rs d g := by
  have HP : Hid (Pr w B R bs rs d d) := h.pr
  have HS1 : Hid (PS w bs rs (w.alloc (.cells g.cells.toArray 34)) B R d d g) := PS.start h.pr
  have hbd : Below (w.alloc (.cells g.cells.toArray 34)).heap.size (w.alloc (.cells g.cells.toArray 34)) (w.alloc (.cells g.cells.toArray 34)).drew := (Below.refl _ _).drew
  have HS1d : Hid (PS w bs rs (w.alloc (.cells g.cells.toArray 34)).drew B R d d g) := HS1.out.below hbd
  have es : d.step g = (d.write g.pl (sct g.a g.b)).2 := by simp [Dk.step, hd]
  have HI : Hid (StepIn w B R bs rs d g) := h
  unfold Steps
  rw [es]
  have b0 : (g.dd == 0) = true := by simp [hd]
  have HSEC : Hid (Sec (sct g.a g.b)) := sec_sct h.op.a h.op.b
  obtain ⟨cb1, cb2, cb3⟩ := HS1.out.box
  clear h es hbd hd
  go_enter Try.func12, Try.ntmps12
  go_wp2_with fail
  go_region_held3 (fun w' => w'.cell? ⟨w.heap.size, 1, none⟩ = some (.int .i64 g.pl) ∧ w'.cell? ⟨w.heap.size, 2, none⟩ = some (.int .u8 g.a) ∧ w'.cell? ⟨w.heap.size, 3, none⟩ = some (.int .u8 g.b)) (go_keep) (first
    | (go_at_call 22; refine (sector_any g.a g.b _).mono ?_; rintro e w6 ⟨g6, rfl, hg6, hr6, hb6⟩; have hs6 := HS1d.out.below hb6; have hk6 := hs6.box)
    | (go_at_call 23; refine (PS.disk HP.out hs6 (fun bs h => write_all h g.pl _ 512 _ (sct g.a g.b) HSEC.out.1 hr6.bys HSEC.out.2)).mono ?_; rintro e w7 ⟨rfl, hs7⟩; have hk7 := hs7.box)
    | (go_at_call 22; refine (sector_any g.a g.b _).mono ?_; rintro e w8 ⟨g8, rfl, hg8, hr8, hb8⟩; have hs8 := hs7.below hb8; have hk8 := hs8.box)
    | (go_at_call 29; refine (PS.refF HP.out hs7 hb8 (fun rs h hlt => rwrite h g.pl _ 512 _ (sct g.a g.b) HSEC.out.1 hr8.bys HSEC.out.2 (fun ad ha _ hm => by cases ha; have h9 : g8 < w7.heap.size := hlt _ hm; omega))).mono ?_; rintro e w9 ⟨rfl, hs9⟩; have hk9 := hs9.box))
  have HF : Hid (PS w bs rs w9 B R (d.write g.pl (sct g.a g.b)).2 (d.write g.pl (sct g.a g.b)).2 g) := hs9
  clear hs6 hk6 hg6 hr6 hb6 hs7 hk7 hg8 hr8 hb8 hs8 hk8 hs9 hk9 cb1 cb2 cb3 HS1 HS1d HI HP
  go_wp2
  go_ret2
  exact ⟨by simp, HF.out.done⟩

set_option maxRecDepth 100000 in
set_option maxHeartbeats 4000000 in
theorem step_crash (h : StepIn w B R bs rs d g) (hd : g.dd = 3) : Steps w B R bs rs d g := by
  have HP : Hid (Pr w B R bs rs d d) := h.pr
  have HS1 : Hid (PS w bs rs (w.alloc (.cells g.cells.toArray 34)) B R d d g) := PS.start h.pr
  have hbd : Below (w.alloc (.cells g.cells.toArray 34)).heap.size (w.alloc (.cells g.cells.toArray 34)) (w.alloc (.cells g.cells.toArray 34)).drew := (Below.refl _ _).drew
  have HS1d : Hid (PS w bs rs (w.alloc (.cells g.cells.toArray 34)).drew B R d d g) := HS1.out.below hbd
  have es : d.step g = (d.crash g.ks).2 := by simp [Dk.step, hd]
  have HI : Hid (StepIn w B R bs rs d g) := h
  unfold Steps
  rw [es]
  have b0 : (g.dd == 0) = false := by simp [hd]
  have b1 : (g.dd == 1) = false := by simp [hd]
  have b2 : (g.dd == 2) = false := by simp [hd]
  have b3 : (g.dd == 3) = true := by simp [hd]
  have HK : Hid (Bls w g.kp g.ks) := h.op.ks.bls
  have HKL : Hid (∀ ad, g.kp = some ad → 0 < g.ks.length → ad.block < w.heap.size) := bls_lt h.op.ks.bls
  obtain ⟨cb4, cb5⟩ := HS1.out.box2
  clear h es hbd hd
  go_enter Try.func12, Try.ntmps12
  go_wp2_with fail
  go_region_held3 (fun w' => w'.cell? ⟨w.heap.size, 4, none⟩ = some (.int .i64 g.n) ∧ w'.cell? ⟨w.heap.size, 5, none⟩ = some (.slice g.kp g.ks.length g.kc)) (go_keep) (first
    | (go_at_call 25; refine (PS.diskN HP.out HS1d.out (fun bs h hl => crash_all h g.kp _ g.ks _ rfl (HS1d.out.bls HK.out HI.out.ks) (fun ad ha hn => low_out hl (HKL.out ad ha hn) (HI.out.ks ad ha hn)))).mono ?_; rintro e w7 ⟨rfl, hs7⟩; have hk7 := hs7.box2)
    | (go_at_call 32; refine (PS.ref HP.out hs7 (fun rs h hl => rcrash h g.kp _ g.ks _ rfl (hs7.bls HK.out HI.out.ks) (fun ad ha hn => low_out hl (HKL.out ad ha hn) (HI.out.ks ad ha hn)))).mono ?_; rintro e w9 ⟨rfl, hs9⟩; have hk9 := hs9.box2))
  have HF : Hid (PS w bs rs w9 B R (d.crash g.ks).2 (d.crash g.ks).2 g) := hs9
  clear hs7 hk7 hs9 hk9 cb4 cb5 HS1 HS1d HI HP
  go_wp2
  go_ret2
  exact ⟨by simp, HF.out.done⟩

set_option maxRecDepth 100000 in
set_option maxHeartbeats 4000000 in
theorem step_fuse (h : StepIn w B R bs rs d g) (hd : g.dd = 4) : Steps w B R bs rs d g := by
  have HP : Hid (Pr w B R bs rs d d) := h.pr
  have HS1 : Hid (PS w bs rs (w.alloc (.cells g.cells.toArray 34)) B R d d g) := PS.start h.pr
  have hbd : Below (w.alloc (.cells g.cells.toArray 34)).heap.size (w.alloc (.cells g.cells.toArray 34)) (w.alloc (.cells g.cells.toArray 34)).drew := (Below.refl _ _).drew
  have HS1d : Hid (PS w bs rs (w.alloc (.cells g.cells.toArray 34)).drew B R d d g) := HS1.out.below hbd
  have es : d.step g = (d.setFuse g.n g.ks).2 := by simp [Dk.step, hd]
  have HI : Hid (StepIn w B R bs rs d g) := h
  unfold Steps
  rw [es]
  have b0 : (g.dd == 0) = false := by simp [hd]
  have b1 : (g.dd == 1) = false := by simp [hd]
  have b2 : (g.dd == 2) = false := by simp [hd]
  have b3 : (g.dd == 3) = false := by simp [hd]
  have b4 : (g.dd == 4) = true := by simp [hd]
  have HK : Hid (Bls w g.kp g.ks) := h.op.ks.bls
  have HKL : Hid (∀ ad, g.kp = some ad → 0 < g.ks.length → ad.block < w.heap.size) := bls_lt h.op.ks.bls
  have HN : Hid (g.n ≤ 9223372036854775807) := (bounds_i64 h.op.n).2
  have HL : Hid (g.ks.length ≤ 140737488355328) := by have := h.op.ks.le; have := h.op.ks.room; show g.ks.length ≤ _; omega
  obtain ⟨cb4, cb5⟩ := HS1.out.box2
  clear h es hbd hd
  go_enter Try.func12, Try.ntmps12
  go_wp2_with fail
  go_region_held3 (fun w' => w'.cell? ⟨w.heap.size, 4, none⟩ = some (.int .i64 g.n) ∧ w'.cell? ⟨w.heap.size, 5, none⟩ = some (.slice g.kp g.ks.length g.kc)) (go_keep) (first
    | (go_at_call 28; refine (PS.disk HP.out HS1d.out (fun bs h => setFuse_any h g.n HN.out g.kp _ g.ks _ rfl (HS1d.out.bls HK.out HI.out.ks) HI.out.op.ks.nil HL.out)).mono ?_; rintro e w7 ⟨rfl, hs7⟩; have hk7 := hs7.box2)
    | (go_at_call 33; refine (PS.ref HP.out hs7 (fun rs h hl => rsetFuse h g.n HN.out g.kp _ g.ks _ rfl (hs7.bls HK.out HI.out.ks) (fun ad ha hn => low_out hl (HKL.out ad ha hn) (HI.out.ks ad ha hn)) HI.out.op.ks.nil HL.out)).mono ?_; rintro e w9 ⟨rfl, hs9⟩; have hk9 := hs9.box2))
  have HF : Hid (PS w bs rs w9 B R (d.setFuse g.n g.ks).2 (d.setFuse g.n g.ks).2 g) := hs9
  clear hs7 hk7 hs9 hk9 cb4 cb5 HS1 HS1d HI HP
  go_wp2
  go_ret2
  exact ⟨by simp, HF.out.done⟩

set_option maxRecDepth 100000 in
set_option maxHeartbeats 4000000 in
theorem step_odd (h : StepIn w B R bs rs d g) (hd : ¬ (g.dd = 0 ∨ g.dd = 1 ∨ g.dd = 2 ∨ g.dd = 3 ∨ g.dd = 4 ∨ g.dd = 5 ∨ g.dd = 6)) : Steps w B R bs rs d g := by
  have HP : Hid (Pr w B R bs rs d d) := h.pr
  have HS1 : Hid (PS w bs rs (w.alloc (.cells g.cells.toArray 34)) B R d d g) := PS.start h.pr
  have hbd : Below (w.alloc (.cells g.cells.toArray 34)).heap.size (w.alloc (.cells g.cells.toArray 34)) (w.alloc (.cells g.cells.toArray 34)).drew := (Below.refl _ _).drew
  have HS1d : Hid (PS w bs rs (w.alloc (.cells g.cells.toArray 34)).drew B R d d g) := HS1.out.below hbd
  have es : d.step g = (d.write g.pl g.os).2 := by unfold Dk.step; rw [if_neg (by omega), if_neg (by omega), if_neg (by omega), if_neg (by omega), if_neg (by omega), if_neg (by omega)]
  have HI : Hid (StepIn w B R bs rs d g) := h
  unfold Steps
  rw [es]
  have b0 : (g.dd == 0) = false := by simp; omega
  have b1 : (g.dd == 1) = false := by simp; omega
  have b2 : (g.dd == 2) = false := by simp; omega
  have b3 : (g.dd == 3) = false := by simp; omega
  have b4 : (g.dd == 4) = false := by simp; omega
  have b5 : (g.dd == 5) = false := by simp; omega
  have b6 : (g.dd == 6) = false := by simp; omega
  have HK : Hid (Bys w g.op g.os) := h.op.os.bys
  have HKL : Hid (∀ ad, g.op = some ad → 0 < g.os.length → ad.block < w.heap.size) := bys_lt h.op.os.bys
  obtain ⟨cb1, cb6⟩ := HS1.out.box3
  clear h es hbd hd
  go_enter Try.func12, Try.ntmps12
  go_wp2_with fail
  go_region_held3 (fun w' => w'.cell? ⟨w.heap.size, 1, none⟩ = some (.int .i64 g.pl) ∧ w'.cell? ⟨w.heap.size, 6, none⟩ = some (.slice g.op g.os.length g.oc)) (go_keep) (first
    | (go_at_call 23; refine (PS.disk HP.out HS1d.out (fun bs h => write_all h g.pl g.op _ _ g.os rfl (HS1d.out.bys HK.out HI.out.os) HI.out.op.os.byte)).mono ?_; rintro e w7 ⟨rfl, hs7⟩; have hk7 := hs7.box3)
    | (go_at_call 29; refine (PS.ref HP.out hs7 (fun rs h hl => rwrite h g.pl g.op _ _ g.os rfl (hs7.bys HK.out HI.out.os) HI.out.op.os.byte (fun ad ha hn => low_out hl (HKL.out ad ha hn) (HI.out.os ad ha hn)))).mono ?_; rintro e w9 ⟨rfl, hs9⟩; have hk9 := hs9.box3))
  have HF : Hid (PS w bs rs w9 B R (d.write g.pl g.os).2 (d.write g.pl g.os).2 g) := hs9
  clear hs7 hk7 hs9 hk9 cb1 cb6 HS1 HS1d HI HP
  go_wp2
  go_ret2
  exact ⟨by simp, HF.out.done⟩

set_option maxRecDepth 100000 in
set_option maxHeartbeats 4000000 in
theorem step_read (h : StepIn w B R bs rs d g) (hd : g.dd = 2) : Steps w B R bs rs d g := by
  have HP : Hid (Pr w B R bs rs d d) := h.pr
  have HS1 : Hid (PS w bs rs (w.alloc (.cells g.cells.toArray 34)) B R d d g) := PS.start h.pr
  have hbd : Below (w.alloc (.cells g.cells.toArray 34)).heap.size (w.alloc (.cells g.cells.toArray 34)) (w.alloc (.cells g.cells.toArray 34)).drew := (Below.refl _ _).drew
  have HS1d : Hid (PS w bs rs (w.alloc (.cells g.cells.toArray 34)).drew B R d d g) := HS1.out.below hbd
  have es : d.step g = d := by simp [Dk.step, hd]
  have HI : Hid (StepIn w B R bs rs d g) := h
  unfold Steps
  rw [es]
  have b0 : (g.dd == 0) = false := by simp [hd]
  have b1 : (g.dd == 1) = false := by simp [hd]
  have b2 : (g.dd == 2) = true := by simp [hd]
  obtain ⟨cb1, -, -⟩ := HS1.out.box
  have HT1 : Hid (∃ bs1 rs1, Pr (w.alloc (.cells g.cells.toArray 34)) B R bs1 rs1 d d) := ⟨bs, rs, h.pr.below ((Below.refl _ _).alloc (Nat.le_refl _) _)⟩
  clear h es hbd hd
  go_enter Try.func12, Try.ntmps12
  go_wp2_with fail
  obtain ⟨bs1, rs1, hp1⟩ := HT1.out
  have HP1 : Hid (Pr (w.alloc (.cells g.cells.toArray 34)) B R bs1 rs1 d d) := hp1
  clear hp1 HT1
  refine (read_all HP1.out.1 g.pl).mono ?_
  rintro e w2 ⟨v2, rfl, hb2, hn2, ho2⟩
  have HP2 : Hid (Pr w2 B R bs1 rs1 d d) := HP1.out.below hb2
  have HS2 : Hid (PS w bs rs w2 B R d d g) := HS1.out.below hb2
  obtain ⟨cc1, -, -⟩ := HS2.out.box
  by_cases hr : d.reach g.pl = 0
  · obtain ⟨g2, rfl, hg2, hk2⟩ := ho2 hr
    have HR2 : Hid (Row w2 g2 (d.last g.pl.toNat)) := Row.of_sec hk2
    have HRE : Hid (d.reach g.pl = 0) := hr
    have HSE : Hid (Sec (d.last g.pl.toNat)) := by
      obtain ⟨_, k, hk, hkn⟩ := Dk.reach_ok hr
      rw [hk, Int.toNat_natCast]
      exact HP2.out.1.facts.2.2.1 k hkn
    clear hn2 ho2 hg2 hk2 hb2 cb1 HS1 HS1d HI
    rw [hr]
    clear hr
    go_wp2_with fail
    refine (rread HP2.out.2.1 g.pl).mono ?_
    rintro e w3 ⟨v3, rfl, hb3, hn3, ho3⟩
    obtain ⟨g3, c3, rfl, hg3, hk3⟩ := ho3 HRE.out
    have HS3 : Hid (PS w bs rs w3 B R d d g) := HS2.out.below hb3
    have HR3 : Hid (Row w3 g2 (d.last g.pl.toNat)) := HR2.out.below hb3 HR2.out.lt
    have HK3 : Hid (Bys w3 (some ⟨g3, 0, none⟩) (d.last g.pl.toNat)) := hk3
    rw [HRE.out]
    clear hb3 hn3 ho3 hg3 hk3 cc1 HS2
    go_wp2_with fail
    refine (equal_any _ _ _ _ 512 512 _ _ _ HSE.out.1 HSE.out.1 HR3.out.bys HK3.out HSE.out.2 HSE.out.2).mono ?_
    rintro e w4 ⟨rfl, rfl⟩
    simp only [decide_true]
    go_wp2
    go_ret2
    exact ⟨rfl, HS3.out.done⟩
  · obtain rfl := hn2 hr
    have HRE : Hid (d.reach g.pl ≠ 0) := hr
    clear hn2 ho2 hb2 cb1 HS1 HS1d HI hr
    go_wp2_with fail
    refine (rread HP2.out.2.1 g.pl).mono ?_
    rintro e w3 ⟨v3, rfl, hb3, hn3, ho3⟩
    obtain rfl := hn3 HRE.out
    have HS3 : Hid (PS w bs rs w3 B R d d g) := HS2.out.below hb3
    have hbb : (d.reach g.pl == d.reach g.pl) = true := by simp
    clear hb3 hn3 ho3 cc1 HS2
    go_wp2_with fail
    refine (equal_any _ _ _ _ 0 0 [] [] _ rfl rfl (Bys.nil _ _) (Bys.nil _ _) (by simp) (by simp)).mono ?_
    rintro e w4 ⟨rfl, rfl⟩
    simp only [decide_true]
    go_wp2
    go_ret2
    exact ⟨by simp, HS3.out.done⟩

theorem step_any (h : StepIn w B R bs rs d g) (hd : g.dd ≠ 6) : Steps w B R bs rs d g := by
  by_cases h0 : g.dd = 0
  · exact step_write h h0
  by_cases h1 : g.dd = 1
  · exact step_bar h h1
  by_cases h2 : g.dd = 2
  · exact step_read h h2
  by_cases h3 : g.dd = 3
  · exact step_crash h h3
  by_cases h4 : g.dd = 4
  · exact step_fuse h h4
  by_cases h5 : g.dd = 5
  · exact step_restart h h5
  exact step_odd h (by omega)
end

end Go.Proofs.Ytpggnejifpcnmaa
