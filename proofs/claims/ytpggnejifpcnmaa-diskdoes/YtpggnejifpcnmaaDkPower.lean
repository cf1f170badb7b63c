/- Disks: the power. -/
import Derived.Test.YtpggnejifpcnmaaDkLose
namespace Go.Proofs.Ytpggnejifpcnmaa
open Go.RowKit Go.Shelf Go.Maps
set_option linter.unusedVariables false

set_option maxHeartbeats 2000000 in
theorem blow_any {w : World} {B : Nat} {bs : List Nat} {d : Dk} (h : Dsk w B bs d) :
    Calls Try.prog 46 #[.pointer (some ⟨B, 0, none⟩)] w fun e w' => e = .returned (.int .i64 6) ∧ Turns w w' B bs (d.lose d.keep) := by
  obtain ⟨S, M, p, c, kb, rfl, h⟩ := h
  obtain ⟨-, -, -, -, -, c5⟩ := h.cells
  have hl := lose_any h p c d.keep d.keep.length rfl h.keep (fun ad ha hl e => h.kne.2.1 (e ▸ h.kbs ad ha hl))
  clear h
  have HL : Hid _ := hl
  clear hl
  go_enter Try.func46, Try.ntmps46
  go_wp2_with fail
  refine Calls.mono HL.out ?_
  rintro e w1 ⟨rfl, ht⟩
  clear HL
  go_wp2
  go_ret
  exact ⟨rfl, ht⟩

set_option maxHeartbeats 2000000 in
theorem crash_down {w : World} {B : Nat} {bs : List Nat} {d : Dk} (h : Dsk w B bs d) (hd : d.down = true) (v : Value) :
    Calls Try.prog 25 #[.pointer (some ⟨B, 0, none⟩), v] w fun e w' => e = .returned (.int .i64 6) ∧ w' = w := by
  have hr := ready_any h
  rw [show d.ready = 6 by simp [Dk.ready, hd]] at hr
  clear h
  go_enter Try.func25, Try.ntmps25
  go_wp2_with fail
  refine hr.mono ?_
  rintro e w1 ⟨rfl, rfl⟩
  clear hr
  go_wp2
  go_ret
  exact ⟨rfl, rfl⟩

set_option maxHeartbeats 2000000 in
theorem crash_up {w : World} {B : Nat} {bs : List Nat} {d : Dk} (h : Dsk w B bs d) (hd : d.down = false) (p : Option Addr) (c : Nat) (ks : List Bool) (len : Nat) (hlen : ks.length = len) (hks : Bls w p ks) (hkS : ∀ ad, p = some ad → 0 < ks.length → ad.block ∉ bs) :
    Calls Try.prog 25 #[.pointer (some ⟨B, 0, none⟩), .slice p len c] w fun e w' => e = .returned (.int .i64 0) ∧ Turns w w' B bs (d.lose ks) := by
  have hr := ready_any h
  rw [show d.ready = 0 by simp [Dk.ready, hd]] at hr
  obtain ⟨S, M, pd, cd, kb, rfl, h⟩ := h
  have hl := lose_any h p c ks len hlen hks (fun ad ha hl e => hkS ad ha hl (by simp [e]))
  clear h hkS hks
  have HL : Hid _ := hl
  clear hl
  go_enter Try.func25, Try.ntmps25
  go_wp2_with fail
  refine hr.mono ?_
  rintro e w1 ⟨rfl, rfl⟩
  clear hr
  go_wp2_with fail
  refine Calls.mono HL.out ?_
  rintro e w2 ⟨rfl, ht⟩
  clear HL
  go_wp2
  go_ret
  exact ⟨rfl, ht⟩

/-- A fuse is set. -/
def Dk.setFuse (d : Dk) (n : Int) (ks : List Bool) : Int × Dk := if n < 0 then (1, d) else if n = 0 then (0, { d with left := 0, keep := [] }) else (0, { d with left := n, keep := ks })

theorem IsDk.refuse {w w' : World} {B S M : Nat} {p : Option Addr} {c : Nat} {kb : List Nat} {d : Dk} (h : IsDk w B S M p c kb d) (k : Tn [B] w w') (l : Int) (ks : List Bool) (p' : Option Addr) (c' : Nat) (kb' : List Nat)
    (hb : Bk w' B 62 #[.slice (some ⟨S, 0, none⟩) d.n d.cs, .map (some M), .int .i64 d.calls, .bool d.down, .int .i64 l, .slice p' ks.length c']) (hl : 0 ≤ l ∧ l ≤ 9223372036854775807) (hks : Bls w' p' ks)
    (hkb : ∀ ad, p' = some ad → 0 < ks.length → ad.block ∈ kb') (hge : ∀ b ∈ kb', w.heap.size ≤ b ∧ b < w'.heap.size) (hnil : p' = none → ks.length = 0 ∧ c' = 0) (hcap : ks.length ≤ c') : IsDk w' B S M p' c' kb' { d with left := l, keep := ks } := by
  obtain ⟨n1, n2, n3⟩ := h.ne_bs
  obtain ⟨cur, hc, hz⟩ := h.sure
  have hlt := h.lt
  exact {
    blk := hb
    sure := ⟨cur, hc.tn k (by simp; omega), hz⟩
    map := owns_tn h.map k (by simp; omega)
    keep := hks
    kbs := hkb
    kne := ⟨fun hh => by have := hge _ hh; have := hlt B (by simp); omega, fun hh => by have := hge _ hh; have := hlt S (by simp); omega, fun hh => by have := hge _ hh; have := hlt M (by simp); omega⟩
    klt := fun b hb => (hge b hb).2
    n1 := h.n1
    n2 := h.n2
    secS := h.secS
    secD := h.secD
    lowD := h.lowD
    left := hl
    knil := hnil
    kcap := hcap }

set_option maxHeartbeats 2000000 in
theorem setFuse_any {w : World} {B : Nat} {bs : List Nat} {d : Dk} (h : Dsk w B bs d) (n : Int) (hmax : n ≤ 9223372036854775807) (p : Option Addr) (c : Nat) (ks : List Bool) (len : Nat) (hlen : ks.length = len) (hks : Bls w p ks) (hp : p = none → len = 0 ∧ c = 0) (hm : len ≤ 140737488355328) :
    Calls Try.prog 28 #[.pointer (some ⟨B, 0, none⟩), .int .i64 n, .slice p len c] w fun e w' => e = .returned (.int .i64 (d.setFuse n ks).1) ∧ Turns w w' B bs (d.setFuse n ks).2 := by
  have hma := made_any h
  have HTR : Hid (Turns w w B bs d) := Turns.refl h
  obtain ⟨S, M, pd, cd, kb, rfl, h⟩ := h
  have HD : Hid (IsDk w B S M pd cd kb d) := h
  have hcl := cloneB_any p c len ks w hlen hks hm hp
  have HCL : Hid _ := hcl
  have HLEN : Hid (ks.length = len) := hlen
  obtain ⟨-, -, -, -, c4, c5⟩ := h.cells
  have f4 := h.blk.frozen 4
  have f5 := h.blk.frozen 5
  have hBlt : B < w.heap.size := h.blk.lt
  clear h hcl hks hlen hp
  by_cases h1 : n < 0
  · rw [show d.setFuse n ks = (1, d) by simp [Dk.setFuse, h1]]
    go_enter Try.func28, Try.ntmps28
    go_wp2_with fail
    refine hma.mono ?_
    rintro e w1 ⟨rfl, rfl⟩
    clear hma
    go_wp2
    go_ret
    exact ⟨rfl, HTR.out⟩
  · by_cases h2 : n = 0
    · subst h2
      rw [show d.setFuse 0 ks = (0, { d with left := 0, keep := [] }) by simp [Dk.setFuse]]
      go_enter Try.func28, Try.ntmps28
      go_wp2_with fail
      refine hma.mono ?_
      rintro e w1 ⟨rfl, rfl⟩
      clear hma
      go_wp2
      go_ret
      have t1 : Tn [B] w1 ((w1.setCell ⟨B, 4, none⟩ (.int .i64 0)).setCell ⟨B, 5, none⟩ (.slice none 0 0)) := ((Tn.refl _ _).setCell (by simp) _).setCell (by simp) _
      refine ⟨rfl, _, ⟨S, M, none, 0, [], rfl, HD.out.refuse t1 0 [] none 0 [] ((HD.out.blk.set 4 _).set 5 _) (by omega) (Bls.nil _ _) (fun ad h => by cases h) (by simp) (fun _ => ⟨rfl, rfl⟩) (Nat.le_refl _)⟩, t1.mono (by simp), fun b hb => .inl (by simp at hb ⊢; rcases hb with h | h | h <;> simp [h])⟩
    · rw [show d.setFuse n ks = (0, { d with left := n, keep := ks }) by simp [Dk.setFuse, h1, h2]]
      have hpos : 0 < n := by omega
      go_enter Try.func28, Try.ntmps28
      go_wp2_with fail
      refine hma.mono ?_
      rintro e w1 ⟨rfl, rfl⟩
      clear hma
      go_wp2_with fail
      refine Calls.mono HCL.out ?_
      rintro e w2 ⟨p', c', rfl, hb', hge, hnil, hcap, hbel⟩
      have c4' : w2.cell? ⟨B, 4, none⟩ = some (.int .i64 d.left) := (hbel.cell (p := ⟨B, 4, none⟩) hBlt).trans c4
      have c5' : w2.cell? ⟨B, 5, none⟩ = some (.slice pd d.keep.length cd) := (hbel.cell (p := ⟨B, 5, none⟩) hBlt).trans c5
      have f4' : w2.frozen? ⟨B, 4, none⟩ = false := (hbel.frozen (p := ⟨B, 4, none⟩) hBlt).trans f4
      have f5' : w2.frozen? ⟨B, 5, none⟩ = false := (hbel.frozen (p := ⟨B, 5, none⟩) hBlt).trans f5
      have HB : Hid (Bls w2 p' ks) := hb'
      have HGE : Hid (∀ ad, p' = some ad → w1.heap.size ≤ ad.block ∧ ad.block < w2.heap.size) := hge
      have HNI : Hid (p' = none → len = 0 ∧ c' = 0) := hnil
      have HBE : Hid (Below w1.heap.size w1 w2) := hbel
      clear c4 c5 f4 f5 HCL hb' hge hnil hbel
      go_wp2
      go_ret
      have t1 : Tn [B] w1 ((w2.setCell ⟨B, 4, none⟩ (.int .i64 n)).setCell ⟨B, 5, none⟩ (.slice p' len c')) := ((Tn.of_below HBE.out [B]).setCell (by simp) _).setCell (by simp) _
      have hsz : ((w2.setCell ⟨B, 4, none⟩ (.int .i64 n)).setCell ⟨B, 5, none⟩ (.slice p' len c')).heap.size = w2.heap.size := by simp [World.setCell]
      have hbk : Bk ((w2.setCell ⟨B, 4, none⟩ (.int .i64 n)).setCell ⟨B, 5, none⟩ (.slice p' len c')) B 62 #[.slice (some ⟨S, 0, none⟩) d.n d.cs, .map (some M), .int .i64 d.calls, .bool d.down, .int .i64 n, .slice p' ks.length c'] := by
        rw [HLEN.out]
        exact ((HD.out.blk.below HBE.out hBlt).set 4 _).set 5 _
      have hbl : Bls ((w2.setCell ⟨B, 4, none⟩ (.int .i64 n)).setCell ⟨B, 5, none⟩ (.slice p' len c')) p' ks := HB.out.tn (S := [B]) (((Tn.refl _ _).setCell (by simp) _).setCell (by simp) _) (fun ad ha hl => by have := HGE.out ad ha; simp; omega)
      have hkb : ∀ ad, p' = some ad → 0 < ks.length → ad.block ∈ (match p' with | some ad => [ad.block] | none => ([] : List Nat)) := fun ad ha _ => by subst ha; simp
      have hgb : ∀ b ∈ (match p' with | some ad => [ad.block] | none => ([] : List Nat)), w1.heap.size ≤ b ∧ b < ((w2.setCell ⟨B, 4, none⟩ (.int .i64 n)).setCell ⟨B, 5, none⟩ (.slice p' len c')).heap.size := by
        intro b hb
        rw [hsz]
        cases p' with
        | none => simp at hb
        | some ad =>
          simp at hb
          subst hb
          exact HGE.out ad rfl
      refine ⟨rfl, _, ⟨S, M, p', c', _, rfl, HD.out.refuse t1 n ks p' c' _ hbk (by omega) hbl hkb hgb (by rw [HLEN.out]; exact HNI.out) (by rw [HLEN.out]; exact hcap)⟩, t1.mono (by simp), fun b hb => ?_⟩
      simp only [List.mem_cons] at hb
      rcases hb with rfl | rfl | rfl | hb
      · exact .inl (by simp)
      · exact .inl (by simp)
      · exact .inl (by simp)
      · exact .inr (hgb b hb).1

end Go.Proofs.Ytpggnejifpcnmaa
