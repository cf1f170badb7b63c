/- Schedulers: one in a law; the beginning that each law asks. -/
import Derived.Test.YtnjokhdedgdjjaaSdN
namespace Go.Proofs.Ytnjokhdedgdjjaa
open Go.RowKit Go.Maps
set_option linter.unusedVariables false
set_option maxRecDepth 100000

/-- A scheduler all of whose blocks are new since a world. -/
structure Lw (w0 w : World) (N : Nat) (g : Ge) (s : Sc) : Prop where
  sd : Sd w N g s
  fr : ∀ x ∈ ft g s, w0.heap.size ≤ x
  below : Below w0.heap.size w0 w

section
variable {w0 w w' : World} {N : Nat} {g g' : Ge} {s s' : Sc}
theorem Lw.aft (h : Lw w0 w N g s) (h1 : Sd w' N g' s') (h2 : Aft w w' g g' s s') : Lw w0 w' N g' s' :=
  ⟨h1, fun x hx => by
    rcases h2.sub x hx with h3 | h3
    · exact h.fr x h3
    · exact Nat.le_trans h.below.size h3, h.below.trans (h2.tn.below h.below.size h.fr)⟩
theorem Lw.still (h : Lw w0 w N g s) (hb : Below w.heap.size w w') : Lw w0 w' N g s := ⟨h.sd.below hb, h.fr, h.below.trans (hb.mono h.below.size)⟩

/-- With counters more. -/
theorem Lw.addC (h : Lw w0 w N g s) (l : List Addr) (hl : ∀ a ∈ l, w0.heap.size ≤ a.block ∧ g.vd.ownBlock ≠ some a.block ∧ ∃ b i cs, a = ⟨b, i, none⟩ ∧ Bk w b 2 cs ∧ cs[i]? = some (.int .i64 (s.D a))) : Lw w0 w N { g with ca := g.ca ++ l } s := by
  refine ⟨⟨h.sd.blk, h.sd.mp, h.sd.al, h.sd.dn, h.sd.bx, h.sd.fb, h.sd.nd, fun f hf => List.mem_append_left _ (h.sd.cin f hf), fun a ha => ?_, h.sd.d1, fun a ha => ?_, h.sd.hN, h.sd.rs, h.sd.up, h.sd.fits, h.sd.big⟩, ?_, h.below⟩
  · rcases List.mem_append.1 ha with h1 | h1
    · exact h.sd.cn a h1
    · exact (hl a h1).2.2
  · rcases List.mem_append.1 ha with h1 | h1
    · exact h.sd.d2 a h1
    · exact (hl a h1).2.1
  · refine ft_sub (P := fun x => w0.heap.size ≤ x) (h.fr _ mem_ftS) (h.fr _ mem_ftM) (h.fr _ mem_ftC) (fun k hk => h.fr _ (mem_ftA hk)) (fun k hk => h.fr _ (mem_ftD hk)) (fun f hf => h.fr _ (mem_ftF hf)) (fun a ha => ?_)
    rcases List.mem_append.1 ha with h1 | h1
    · exact h.fr _ (mem_ftN h1)
    · exact (hl a h1).1

theorem spawnL (h : Lw w0 w N g s) {left : Int} {cnt : Addr} (hc : cnt ∈ g.ca) (hroom : s.fl.length + s.box.length < s.room) (hdl : s.done.length ≤ 10000000000000) (hr : s.rest) (hN : s.done.length + 1 < N) :
    Calls Try.prog 18 #[.pointer (some ⟨g.S, 0, none⟩), fv w.heap.size] (w.alloc (.cells #[.int .i64 left, .pointer (some cnt)] 48)) fun e w' => e = .returned (.tuple #[.int .i64 ((s.done.length + 1 : Nat) : Int), .int .i64 0]) ∧ ∃ g', Lw w0 w' N g' (s.spawned w.heap.size left cnt) ∧ g'.S = g.S ∧ g'.ca = g.ca := by
  have hb : Below w.heap.size w (w.alloc (.cells #[.int .i64 left, .pointer (some cnt)] 48)) := (Below.refl _ w).alloc (Nat.le_refl _) _
  have h1 := h.still hb
  have hal : s.al.length ≤ 10000000000000 := by have := h.sd.len hr; omega
  refine (spawn_any h1.sd (Bk.new w _ _) (fun x hx e => ?_) hc hroom hdl hal hN).mono ?_
  · have := (h.sd.fb x hx).lt
    omega
  · rintro e w' ⟨rfl, g', h2, t, hs, hbs, hsub⟩
    refine ⟨rfl, g', ⟨h2, fun x hx => ?_, h1.below.trans (t.below h1.below.size h1.fr)⟩, hs.1, hs.2.2.2.2⟩
    rcases hsub x hx with h3 | h3 | h3
    · exact h1.fr x h3
    · rw [h3]; exact h.below.size
    · exact Nat.le_trans h1.below.size h3
end

/-- What the beginning's scheduler is, when both are spawned. -/
def bg (B1 B2 : Nat) (a b : Addr) : Sc := ((Sc.new 3 fun _ => 0).spawned B1 2 a).spawned B2 1 b
def bg2 (B2 : Nat) (b : Addr) : Fb := ⟨2, B2, 1, b⟩

def bgD1 (b : Addr) : Addr → Int := fun x => if x = b then wrap64 (0 + 1) else 0
def bgD2 (a b : Addr) : Addr → Int := fun x => if x = a then wrap64 (bgD1 b a + 1) else bgD1 b x
def bgD3 (a b : Addr) : Addr → Int := fun x => if x = a then wrap64 (bgD2 a b a + 1) else bgD2 a b x

theorem bg_runs (B1 B2 : Nat) (a b : Addr) (hab : a ≠ b) : ∃ s', Runs 9 ((bg B1 B2 a b).step (bg2 B2 b)) 2 s' ∧ s'.fl = [] ∧ s'.D a = 2 ∧ s'.D b = 1 ∧ s'.done.length = 2 := by
  have e1 : (bg B1 B2 a b).step (bg2 B2 b) = ⟨3, [⟨1, B1, 2, a⟩], [1], [2], [0, 1], 1, bgD1 b⟩ := by kernel_rfl
  have e2 : (⟨3, [⟨1, B1, 2, a⟩], [1], [2], [0, 1], 1, bgD1 b⟩ : Sc).round 1 = ⟨3, [⟨1, B1, 1, a⟩], [1], [2], [1, 1], 2, bgD2 a b⟩ := by kernel_rfl
  have e3 : (⟨3, [⟨1, B1, 1, a⟩], [1], [2], [1, 1], 2, bgD2 a b⟩ : Sc).round 1 = ⟨3, [], [], [2, 1], [2, 1], 3, bgD3 a b⟩ := by kernel_rfl
  refine ⟨⟨3, [], [], [2, 1], [2, 1], 3, bgD3 a b⟩, ?_, rfl, ?_, ?_, rfl⟩
  · rw [e1]
    refine Runs.more (k := 1) (d := 1) (by decide) (by simp) rfl ?_
    rw [e2]
    refine Runs.more (k := 1) (d := 0) (by decide) (by simp) rfl ?_
    rw [e3]
    exact Runs.stop (.inr rfl)
  · have hd : bgD1 b a = 0 := by simp [bgD1, hab]
    simp [bgD3, bgD2, hd, wrap64]
  · have hba : b ≠ a := fun e => hab e.symm
    simp [bgD3, bgD2, bgD1, hba, wrap64]


theorem begun_any (w : World) : Calls Try.prog 9 #[] w fun e w' => e = .returned (.bool true) ∧ Below w.heap.size w w' := by
  go_enter Try.func9, Try.ntmps9
  go_wp2_with fail
  refine (new_any 3 (by omega) (by omega) 1000 (by omega) (fun _ => 0) w).mono ?_
  rintro e w1 ⟨g1, rfl, h1, hb1, hca, hbs, hfr, hX⟩
  obtain ⟨wc, hwc⟩ : ∃ wc, (w1.alloc (.cells #[.int .i64 0] 2)).alloc (.cells #[.int .i64 0] 2) = wc := ⟨_, rfl⟩
  have hL0 : Lw w w1 1000 g1 (Sc.new 3 fun _ => 0) := ⟨h1, hfr, hb1⟩
  have hbc : Below w1.heap.size w1 wc := hwc ▸ ((Below.refl _ w1).alloc (Nat.le_refl _) _).alloc (by simp) _
  have kA : Bk wc w1.heap.size 2 #[.int .i64 0] := hwc ▸ (Bk.new w1 _ _).alloc _
  have kB : Bk wc (w1.heap.size + 1) 2 #[.int .i64 0] := by
    rw [← hwc]
    have := Bk.new (w1.alloc (.cells #[.int .i64 0] 2)) 2 #[.int .i64 0]
    rw [World.size_alloc] at this
    exact this
  have hvd : ∀ k, g1.vd.ownBlock = some k → k < w1.heap.size := fun k hk => row_block h1.dn k hk
  have hLc := (hL0.still hbc).addC [⟨w1.heap.size, 0, none⟩, ⟨w1.heap.size + 1, 0, none⟩] (fun a ha => by
    have hs := hb1.size
    simp only [List.mem_cons, List.not_mem_nil, or_false] at ha
    rcases ha with rfl | rfl
    · exact ⟨hs, fun e => Nat.lt_irrefl _ (hvd _ e), _, _, _, rfl, kA, rfl⟩
    · exact ⟨Nat.le_succ_of_le hs, fun e => Nat.lt_irrefl _ (Nat.lt_of_succ_lt (hvd _ e)), _, _, _, rfl, kB, rfl⟩)
  rw [hca, List.nil_append] at hLc
  obtain ⟨A, HA⟩ : ∃ A, Hid (w1.heap.size = A) := ⟨_, rfl⟩
  have HL : Hid (Lw w wc 1000 { g1 with ca := [⟨A, 0, none⟩, ⟨A + 1, 0, none⟩] } (Sc.new 3 fun _ => 0)) := by rw [← HA.out]; exact hLc
  have hwc' : (w1.alloc (.cells #[.int .i64 0] 2)).alloc (.cells #[.int .i64 0] 2) = wc := hwc
  clear h1 hb1 hca hbs hfr hX hL0 hbc kA kB hvd hLc hwc
  have hsp1 := spawnL HL.out (left := 2) (cnt := ⟨A, 0, none⟩) (by simp) (by simp [Sc.new]) (by simp [Sc.new]) rfl (by simp [Sc.new])
  have HS1 : Hid _ := hsp1
  clear hsp1
  go_wp2_with fail
  rw [HA.out]
  refine Calls.mono HS1.out ?_
  rintro e w2 ⟨rfl, g2, hL2, hS2, hc2⟩
  have hsp2 := spawnL hL2 (left := 1) (cnt := ⟨A + 1, 0, none⟩) (by rw [hc2]; simp) (by simp [Sc.new, Sc.spawned]) (by simp [Sc.new, Sc.spawned]) rfl (by simp [Sc.new, Sc.spawned])
  rw [hS2] at hsp2
  have HS2 : Hid _ := hsp2
  have HC2 : Hid (g2.S = g1.S ∧ g2.ca = [⟨A, 0, none⟩, ⟨A + 1, 0, none⟩]) := ⟨hS2, hc2⟩
  clear hsp2 HS1 HL hL2 hS2 hc2
  go_wp2_with fail
  refine Calls.mono HS2.out ?_
  rintro e w3 ⟨rfl, g3, hL3, hS3, hc3⟩
  have hpk := pick_any hL3.sd rfl 1 (by omega) (i := 1) (f := bg2 w2.heap.size ⟨A + 1, 0, none⟩) rfl rfl (by simp [bg2]) (by simp [Sc.new, Sc.spawned]) (ov := true) rfl
  rw [hS3] at hpk
  have HP : Hid _ := hpk
  have HL3 : Hid (Lw w w3 1000 g3 (bg wc.heap.size w2.heap.size ⟨A, 0, none⟩ ⟨A + 1, 0, none⟩) ∧ g3.S = g1.S ∧ g3.ca = [⟨A, 0, none⟩, ⟨A + 1, 0, none⟩]) := ⟨hL3, hS3, hc3.trans HC2.out.2⟩
  clear hpk HS2 hL3 hS3 hc3 HC2
  go_wp2_with fail
  refine Calls.mono HP.out ?_
  rintro e w4 ⟨rfl, g4, h4, t4⟩
  obtain ⟨s5, hR, hfl, hDa, hDb, hdl⟩ := bg_runs wc.heap.size w2.heap.size ⟨A, 0, none⟩ ⟨A + 1, 0, none⟩ (by simp)
  have hL4 := HL3.out.1.aft h4 t4
  have hrn := run_any hL4.sd rfl (fun f hf => by
    have : f ∈ ([⟨1, wc.heap.size, 2, ⟨A, 0, none⟩⟩] : List Fb) := hf
    simp at this
    subst this
    simp) (by show 2 ≤ _; omega) (m := 9) (by omega) hR (ob := true) (by rw [hfl]; rfl)
  rw [t4.same.1, HL3.out.2.1] at hrn
  have HR : Hid _ := hrn
  have HL4 : Hid (Lw w w4 1000 g4 ((bg wc.heap.size w2.heap.size ⟨A, 0, none⟩ ⟨A + 1, 0, none⟩).step (bg2 w2.heap.size ⟨A + 1, 0, none⟩)) ∧ g4.ca = [⟨A, 0, none⟩, ⟨A + 1, 0, none⟩]) := ⟨hL4, t4.same.2.2.2.2.trans HL3.out.2.2⟩
  clear hrn hL4 h4 t4 hR HP hfl hdl HL3
  go_wp2_with fail
  refine Calls.mono HR.out ?_
  rintro e w5 ⟨rfl, g5, h5, t5⟩
  have hL5 := HL4.out.1.aft h5 t5
  have hcell : ∀ a ∈ g5.ca, w5.cell? a = some (.int .i64 (s5.D a)) := fun a ha => by
    obtain ⟨b, i, cs, rfl, hb, hc⟩ := h5.cn a ha
    exact (hb.cell i).trans hc
  have hca5 : g5.ca = [⟨A, 0, none⟩, ⟨A + 1, 0, none⟩] := t5.same.2.2.2.2.trans HL4.out.2
  rw [hca5] at hcell
  have cA : w5.cell? ⟨A, 0, none⟩ = some (.int .i64 2) := by rw [hcell _ (by simp), hDa]
  have cB : w5.cell? ⟨A + 1, 0, none⟩ = some (.int .i64 1) := by rw [hcell _ (by simp), hDb]
  have HE : Hid (Below w.heap.size w w5) := hL5.below
  clear hL5 h5 t5 hcell hca5 hDa hDb HR HL4
  go_wp2
  go_ret
  exact ⟨rfl, HE.out⟩
end Go.Proofs.Ytnjokhdedgdjjaa
