/- An arena is the document's: told twice, and its counts. -/
import Derived.Test.YtfbmbjbokmomhaaArTd
import Derived.Lib.QuietBelow
namespace Go.Proofs.Ytfbmbjbokmomhaa
open Go.RowKit Go.Shelf Go.Sort
set_option linter.unusedVariables false
set_option maxRecDepth 100000

/-- Both arenas, for as long as nothing of them turns. -/
structure Bt (w : World) (P B R G N H : Nat) (lv : Value) (bs : List Nat) (a : Ar) (hs : List ByteArray) : Prop where
  q : Pq w P B R G N H lv a hs
  ar : Arn tAS tSS w B bs a

theorem Bt.tn {w w' : World} {P B R G N H : Nat} {lv : Value} {bs : List Nat} {a : Ar} {hs : List ByteArray} (h : Bt w P B R G N H lv bs a hs) (ht : Tn [] w w') : Bt w' P B R G N H lv bs a hs := ⟨h.q.tn ht, h.ar.tn ht (by simp)⟩
theorem Bt.below {w w' : World} {P B R G N H : Nat} {lv : Value} {bs : List Nat} {a : Ar} {hs : List ByteArray} (h : Bt w P B R G N H lv bs a hs) (hb : Below w.heap.size w w') : Bt w' P B R G N H lv bs a hs := h.tn (Tn.of_below hb [])


set_option maxHeartbeats 8000000 in
theorem equal_any {w : World} {P B R G N H : Nat} {lv : Value} {bs : List Nat} {a : Ar} {hs : List ByteArray} (h : Bt w P B R G N H lv bs a hs) (hT : Txs a.us) (stop : Int) :
    Calls Try.prog 15 #[.pointer (some ⟨P, 0, none⟩), .int .i64 stop] w fun e w' => e = .returned (.bool true) ∧ Below w.heap.size w w' := by
  have HB : Hid (∀ W, Below w.heap.size w W → Bt W P B R G N H lv bs a hs) := fun W hb => h.below hb
  have c0 : w.cell? ⟨P, 0, none⟩ = some (.pointer (some ⟨B, 0, none⟩)) := h.q.pb.cell 0
  have hall := all_any h.ar hT
  have hsz : (gl a.us).length ≤ 65536 := by
    have h1 : (gl a.us).length = live a.us := by unfold gl; rw [glTo_len, liveTo_len]
    have h2 := live_le a.us
    have h3 := h.q.ra.le
    have h4 := h.q.ra.s2
    omega
  have HSZ : Hid ((gl a.us).length ≤ 65536) := hsz
  clear h hT hsz
  go_enter Try.func15, Try.ntmps15
  go_wp2_with fail
  refine hall.mono ?_
  rintro e w1 ⟨rfl, v1, v2, hL⟩
  have HL1 : Hid (Lim w1 w.heap.size (w.heap.size + 1) (Lm.bs w v1 v2) (gl a.us)) := hL.lim HSZ.out
  have HB1 : Hid (Below w.heap.size w w1) := hL.below
  have ht1 := told_any HL1.out (HB.out w1 HB1.out).q stop
  clear hall hL
  go_wp2_with fail
  refine ht1.mono ?_
  rintro e w2 ⟨rfl, hb2⟩
  have HB2 : Hid (Below w.heap.size w w2) := HB1.out.trans (hb2.mono HB1.out.size)
  have HL2 : Hid (Lim w2 w.heap.size (w.heap.size + 1) (Lm.bs w v1 v2) (gl a.us)) := HL1.out.kp (KpP.of_below hb2 HL1.out.lt)
  have ht2 := told_any HL2.out (HB.out w2 HB2.out).q 0
  clear ht1 hb2 HL1 HB1
  go_wp2_with fail
  refine ht2.mono ?_
  rintro e w3 ⟨rfl, hb3⟩
  have HB3 : Hid (Below w.heap.size w w3) := HB2.out.trans (hb3.mono HB2.out.size)
  have hbt := HB.out w3 HB3.out
  have HBX : Hid (∀ W, Below w3.heap.size w3 W → Below w.heap.size w W) := fun W hb => HB3.out.trans (hb.mono HB3.out.size)
  have d0 := cell_regrown (show w3.cell? ⟨P, 0, none⟩ = some (.pointer (some ⟨B, 0, none⟩)) from hbt.q.pb.cell 0)
  have d1 := cell_regrown (show w3.cell? ⟨P, 1, none⟩ = some (.pointer (some ⟨R, 0, none⟩)) from hbt.q.pb.cell 1)
  have hg : ∀ d os, Bt (grow (redrawn w3 d) os) P B R G N H lv bs a hs := fun d os => hbt.below (below_regrown w3 d os)
  obtain ⟨sz, hsz⟩ : ∃ sz : Nat, a.size = sz := ⟨_, rfl⟩
  obtain ⟨lf, hlf⟩ : ∃ lf : Nat, live a.us = lf := ⟨_, rfl⟩
  obtain ⟨st, hst⟩ : ∃ st : Int, a.stale = st := ⟨_, rfl⟩
  have q1 : Hid (∀ d os, Calls Try.prog 25 #[.pointer (some ⟨B, 0, none⟩)] (grow (redrawn w3 d) os) fun e w'' => e = .returned (.int .i64 (sz : Int)) ∧ ∃ p : Regrown, w'' = grow (redrawn w3 p.d) p.os) := fun d os => Calls.regrown_of ((slotsS (hg d os).ar).mono (by rintro e w' ⟨rfl, rfl⟩; exact ⟨by rw [hsz], Below.refl _ _⟩))
  have q2 : Hid (∀ d os, Calls Try.prog 37 #[.pointer (some ⟨R, 0, none⟩)] (grow (redrawn w3 d) os) fun e w'' => e = .returned (.int .i64 (sz : Int)) ∧ ∃ p : Regrown, w'' = grow (redrawn w3 p.d) p.os) := fun d os => Calls.regrown_of ((rslots_any (hg d os).q.ra.c0).mono (by rintro e w' ⟨rfl, rfl⟩; exact ⟨by rw [hsz], Below.refl _ _⟩))
  have q3 : Hid (∀ d os, Calls Try.prog 11 #[.pointer (some ⟨B, 0, none⟩)] (grow (redrawn w3 d) os) fun e w'' => e = .returned (.int .i64 (lf : Int)) ∧ ∃ p : Regrown, w'' = grow (redrawn w3 p.d) p.os) := fun d os => Calls.regrown_of ((liveS (hg d os).ar).mono (by rintro e w' ⟨rfl, ht⟩; exact ⟨by rw [hlf], ht.below (Nat.le_refl _) (by simp)⟩))
  have q4 : Hid (∀ d os, Calls Try.prog 12 #[.pointer (some ⟨R, 0, none⟩)] (grow (redrawn w3 d) os) fun e w'' => e = .returned (.int .i64 (lf : Int)) ∧ ∃ p : Regrown, w'' = grow (redrawn w3 p.d) p.os) := fun d os => Calls.regrown_of ((rlive_any (hg d os).q.ra).mono (by rintro e w' ⟨rfl, rfl⟩; exact ⟨by rw [hlf], Below.refl _ _⟩))
  have q5 : Hid (∀ d os, Calls Try.prog 13 #[.pointer (some ⟨B, 0, none⟩)] (grow (redrawn w3 d) os) fun e w'' => e = .returned (.int .i64 st) ∧ ∃ p : Regrown, w'' = grow (redrawn w3 p.d) p.os) := fun d os => Calls.regrown_of ((staleS (hg d os).ar).mono (by rintro e w' ⟨rfl, rfl⟩; exact ⟨by rw [hst], Below.refl _ _⟩))
  have q6 : Hid (∀ d os, Calls Try.prog 14 #[.pointer (some ⟨R, 0, none⟩)] (grow (redrawn w3 d) os) fun e w'' => e = .returned (.int .i64 st) ∧ ∃ p : Regrown, w'' = grow (redrawn w3 p.d) p.os) := fun d os => Calls.regrown_of ((rstale_any (hg d os).q.ra.c3).mono (by rintro e w' ⟨rfl, rfl⟩; exact ⟨by rw [hst], Below.refl _ _⟩))
  have e1 : ((sz : Int) == (sz : Int)) = true := by simp
  have e2 : ((lf : Int) == (lf : Int)) = true := by simp
  have e3 : (st == st) = true := by simp
  clear ht2 hb3 HL2 HB2 hbt hg hsz hlf hst
  go_wp2_with fail
  refine wp_region_quiet_below (by kernel_rfl) (by kernel_rfl) ?_
  repeat (go_big_quiet_step (first
    | (go_at_call 25; exact q1.out _ _)
    | (go_at_call 37; exact q2.out _ _)
    | (go_at_call 11; exact q3.out _ _)
    | (go_at_call 12; exact q4.out _ _)
    | (go_at_call 13; exact q5.out _ _)
    | (go_at_call 14; exact q6.out _ _)))
  refine wpQuiet_nil ?_
  intro _ hw'
  obtain ⟨⟨dq, osq⟩, hw''⟩ := hw'
  subst hw''
  have HBF : Hid (Below w.heap.size w (grow (redrawn w3 dq) osq)) := HBX.out _ (below_regrown w3 dq osq)
  go_wp2
  go_ret
  exact ⟨by simp, HBF.out⟩
end Go.Proofs.Ytfbmbjbokmomhaa
