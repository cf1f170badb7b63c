/- Arenas of links: Put. -/
import Derived.Test.YtbdcdiihaecheaaAgA5L
namespace Go.Proofs.Ytbdcdiihaecheaa
open Go.RowKit
set_option linter.unusedVariables false
set_option maxRecDepth 100000
set_option linter.unusedSectionVars false
variable [Inhabited Cl] [Inhabited Ln]

/-- A handle and an error are answered. -/
theorem results_hndL {fn : Func} {t u : Tmp} (h : fn.results = #[.cell t 36, .tmp u]) {tmps : Array Value} {w : World} {b : Nat} (ht : tmps.getD t undef = .pointer (some ⟨b, 0, none⟩)) {s g : Int} (hk : Bk w b 36 #[.int .i64 s, .int .i64 g]) :
    (results fn tmps).run Try.prog w = .ok (.tuple #[.agg #[.int .i64 s, .int .i64 g], tmps.getD u undef]) w := by
  have c0 : w.cell? ⟨b, 0, none⟩ = some (.int .i64 s) := hk.cell 0
  have c1 : w.cell? ⟨b, 1, none⟩ = some (.int .i64 g) := hk.cell 1
  have hz : ∀ w : World, (loadVar 36 ⟨b, 0, none⟩).run Try.prog w = (do let x ← load ⟨b, 0, none⟩; let y ← load ⟨b, 1, none⟩; pure (.agg #[x, y]) : Sem Value).run Try.prog w := fun w => by kernel_rfl
  have hl : (loadVar 36 ⟨b, 0, none⟩).run Try.prog w = .ok (.agg #[.int .i64 s, .int .i64 g]) w := by
    rw [hz]
    simp [c0, c1]
  have ht' : tmps[t]?.getD undef = .pointer (some ⟨b, 0, none⟩) := by simpa using ht
  simp [results, h, ht', asAddr, hl]

set_option maxHeartbeats 1000000 in
theorem putFullL {w : World} {B : Nat} {bs : List Nat} {a : Ar Ln} (h : Arn Ln.cells 5 tAL tSL w B bs a) (x : Ln) (hf : live a.us = a.size) :
    Calls Try.prog 41 #[.pointer (some ⟨B, 0, none⟩), x.v] w fun e w' => e = .returned (.tuple #[.agg #[.int .i64 0, .int .i64 0], .int .i64 5]) ∧ Below w.heap.size w w' := by
  obtain ⟨uv, fv, fr, rfl, h⟩ := h
  obtain ⟨wx, hwx, hzx, hbx, hkx⟩ : ∃ wx, w.alloc (.cells #[.int .i64 x.ts, .string x.val, .bool x.del, .int .i64 x.s, .int .i64 x.g] 97) = wx ∧ wx.heap.size = w.heap.size + 1 ∧ Below w.heap.size w wx ∧ Bk wx w.heap.size 97 #[.int .i64 x.ts, .string x.val, .bool x.del, .int .i64 x.s, .int .i64 x.g] := ⟨_, rfl, by simp, (Below.refl _ w).alloc (Nat.le_refl _) _, Bk.new _ _ _⟩
  have hbo := (h.tn (Tn.of_below hbx []) (by simp)).boxed 0 0
  rw [hzx] at hbo
  obtain ⟨w1, hw1, hz1, hb1, h', hk, -, -⟩ := hbo
  have tx1 : Tn [] wx w1 := by rw [← hw1]; exact (Tn.refl _ _).alloc _
  obtain ⟨c0, c1, c2, c3⟩ := h'.four
  have hs1 := h.s1
  have hs2 := h.s2
  have HA : Hid (Arn Ln.cells 5 tAL tSL w1.drew B (bsOf B uv fv) a) := ⟨_, _, _, rfl, h'.tn (Tn.refl [] w1).drew (by simp)⟩
  have HK : Hid (Bk w1.drew (w.heap.size + 1) 36 #[.int .i64 0, .int .i64 0]) := hk
  have HB : Hid (Below w.heap.size w w1.drew) := (hbx.trans (hb1.mono (Nat.le_succ _))).drew
  clear h h' hk hb1 hbx hkx tx1
  go_enter Try.func41, Try.ntmps41
  go_wp2_with fail
  refine (madeL c0 hs1).mono ?_
  rintro e w2 ⟨rfl, rfl⟩
  go_wp2_with fail
  go_region_held3 (fun w' => w'.cell? ⟨B, 0, none⟩ = some (.int .i64 a.size)) (go_keep) (first | (go_at_call 54; refine (liveL HA.out).mono ?_; rintro e w3 ⟨rfl, ht3⟩; have k5 : w3.cell? ⟨B, 0, none⟩ = some (.int .i64 a.size) := by (obtain ⟨_, _, _, _, hi⟩ := HA.out.tn ht3 (by simp); exact hi.four.1)))
  have HK3 := HK.out.tn ht3 (by simp)
  have d0 : w3.cell? ⟨w.heap.size + 1, 0, none⟩ = some (.int .i64 0) := HK3.cell 0
  have d1 : w3.cell? ⟨w.heap.size + 1, 1, none⟩ = some (.int .i64 0) := HK3.cell 1
  have e0 : w3.frozen? ⟨w.heap.size + 1, 0, none⟩ = false := HK3.frozen 0
  have e1 : w3.frozen? ⟨w.heap.size + 1, 1, none⟩ = false := HK3.frozen 1
  have HB3 : Hid (Below w.heap.size w w3) := HB.out.trans (ht3.below (Nat.le_refl _) (by simp) |>.mono HB.out.size)
  clear HK HA HB ht3 c0 c1 c2 c3 k5
  go_wp2
  refine bodyPost_ret (results_hndL rfl rfl ((HK3.set 0 _).set 1 _)) rfl ?_
  exact ⟨rfl, (HB3.out.setCell (Nat.le_succ _) _).setCell (Nat.le_succ _) _⟩

theorem put_chainL (w4 : World) (g' L : Nat) (g0 : Int) (x : Ln) : (((((((w4.setCell ⟨g', L * 7, none⟩ (.int .i64 (g0 + 1))).setCell ⟨g', L * 7 + 1, none⟩ (.bool true)).setCell ⟨g', L * 7 + 2, none⟩ (.int .i64 x.ts)).setCell ⟨g', L * 7 + 3, none⟩ (.string x.val)).setCell ⟨g', L * 7 + 4, none⟩ (.bool x.del)).setCell ⟨g', L * 7 + 5, none⟩ (.int .i64 x.s)).setCell ⟨g', L * 7 + 6, none⟩ (.int .i64 x.g)) = setCells w4 g' (L * (5 + 2)) (slc Ln.cells ⟨g0 + 1, true, x⟩) := rfl

set_option maxHeartbeats 2000000 in
theorem putOkL {w : World} {B : Nat} {bs : List Nat} {a : Ar Ln} (h : Arn Ln.cells 5 tAL tSL w B bs a) (x : Ln) (hf : live a.us < a.size) (hg1 : 1 ≤ a.gen) (hg2 : a.gen ≤ 9223372036854775807) :
    Calls Try.prog 41 #[.pointer (some ⟨B, 0, none⟩), x.v] w fun e w' => e = .returned (.tuple #[.agg #[.int .i64 (low a.us), .int .i64 a.gen], .int .i64 0]) ∧ ArT Ln.cells 5 tAL tSL w w' B bs (a.put x) := by
  obtain ⟨uv, fv, fr, rfl, h⟩ := h
  obtain ⟨wx, hwx, hzx, hbx, hkx⟩ : ∃ wx, w.alloc (.cells #[.int .i64 x.ts, .string x.val, .bool x.del, .int .i64 x.s, .int .i64 x.g] 97) = wx ∧ wx.heap.size = w.heap.size + 1 ∧ Below w.heap.size w wx ∧ Bk wx w.heap.size 97 #[.int .i64 x.ts, .string x.val, .bool x.del, .int .i64 x.s, .int .i64 x.g] := ⟨_, rfl, by simp, (Below.refl _ w).alloc (Nat.le_refl _) _, Bk.new _ _ _⟩
  have hbo := (h.tn (Tn.of_below hbx []) (by simp)).boxed 0 0
  rw [hzx] at hbo
  obtain ⟨w1, hw1, hz1, hb1, h', hk, -, -⟩ := hbo
  have tx1 : Tn [] wx w1 := by rw [← hw1]; exact (Tn.refl _ _).alloc _
  obtain ⟨c0, c1, c2, c3⟩ := h'.four
  have hs1 := h.s1
  have hs2 := h.s2
  have hle := h.le
  have HLT : Hid (∀ b ∈ bsOf B uv fv, b < w.heap.size) := h.lt
  have HI : Hid (IsAr Ln.cells 5 tAL tSL w1.drew B uv fv fr a) := h'.tn (Tn.refl [] w1).drew (by simp)
  have HK : Hid (Bk w1.drew (w.heap.size + 1) 36 #[.int .i64 0, .int .i64 0]) := hk
  have HX : Hid (Bk w1.drew w.heap.size 97 #[.int .i64 x.ts, .string x.val, .bool x.del, .int .i64 x.s, .int .i64 x.g]) := hkx.tn tx1.drew (by simp)
  have HB : Hid (Below w.heap.size w w1.drew) := (hbx.trans (hb1.mono (Nat.le_succ _))).drew
  clear h h' hk hb1 hbx hkx tx1
  go_enter Try.func41, Try.ntmps41
  go_wp2_with fail
  refine (madeL c0 hs1).mono ?_
  rintro e w2 ⟨rfl, rfl⟩
  go_wp2_with fail
  go_region_held3 (fun w' => w'.cell? ⟨B, 0, none⟩ = some (.int .i64 a.size)) (go_keep) (first | (go_at_call 54; refine (liveL ⟨_, _, _, rfl, HI.out⟩).mono ?_; rintro e w3 ⟨rfl, ht3⟩; have k5 : w3.cell? ⟨B, 0, none⟩ = some (.int .i64 a.size) := by (exact (HI.out.tn ht3 (by simp)).four.1)))
  have HK3 : Hid (Bk w3 (w.heap.size + 1) 36 #[.int .i64 0, .int .i64 0]) := HK.out.tn ht3 (by simp)
  have HX3 : Hid (Bk w3 w.heap.size 97 #[.int .i64 x.ts, .string x.val, .bool x.del, .int .i64 x.s, .int .i64 x.g]) := HX.out.tn ht3 (by simp)
  have HI3 : Hid (IsAr Ln.cells 5 tAL tSL w3 B uv fv fr a) := HI.out.tn ht3 (by simp)
  have HT3 : Hid (Tn [] w w3) := (Tn.of_below HB.out []).trans ht3 (by simp)
  have hq : ((live a.us : Int) == (a.size : Int)) = false := by simp; omega
  rw [hq]
  clear HK HX HI HB ht3 c0 c1 c2 c3 k5 hq
  go_wp2_with fail
  refine (lowestL HI3.out hf).mono ?_
  rintro e w4 ⟨rfl, uv', fv', fr', hm, ht4, hn1, hn2⟩
  obtain ⟨g', c', rfl⟩ := row_some hm.row (by have := hm.hi; omega)
  have HM : Hid (Mid Ln.cells 5 tAL tSL w4 B (.slice (some ⟨g', 0, none⟩) (opened a.us Ln.zero).length c') fv' fr' a.size a.stale (opened a.us Ln.zero) (low a.us)) := hm
  have hlow : low a.us < (opened a.us Ln.zero).length := hm.hi
  obtain ⟨r0, r1, r2, r3, r4, r5, r6⟩ := sl7 rfl hm.row (low a.us) hlow
  have f0 := row_frozen rfl hm.row (low a.us * 7)
  have f1 := row_frozen rfl hm.row (low a.us * 7 + 1)
  have f2 := row_frozen rfl hm.row (low a.us * 7 + 2)
  have f3 := row_frozen rfl hm.row (low a.us * 7 + 3)
  have f4 := row_frozen rfl hm.row (low a.us * 7 + 4)
  have f5 := row_frozen rfl hm.row (low a.us * 7 + 5)
  have f6 := row_frozen rfl hm.row (low a.us * 7 + 6)
  have c1 : w4.cell? ⟨B, 1, none⟩ = some (.slice (some ⟨g', 0, none⟩) (opened a.us Ln.zero).length c') := hm.wt.blk.cell 1
  have HK4 : Hid (Bk w4 (w.heap.size + 1) 36 #[.int .i64 0, .int .i64 0]) := HK3.out.tn ht4 (fun hb => by have := HLT.out _ hb; omega)
  have HX4 : Hid (Bk w4 w.heap.size 97 #[.int .i64 x.ts, .string x.val, .bool x.del, .int .i64 x.s, .int .i64 x.g]) := HX3.out.tn ht4 (fun hb => by have := HLT.out _ hb; omega)
  have x0 : w4.cell? ⟨w.heap.size, 0, none⟩ = some (.int .i64 x.ts) := HX4.out.cell 0
  have x1 : w4.cell? ⟨w.heap.size, 1, none⟩ = some (.string x.val) := HX4.out.cell 1
  have x2 : w4.cell? ⟨w.heap.size, 2, none⟩ = some (.bool x.del) := HX4.out.cell 2
  have x3 : w4.cell? ⟨w.heap.size, 3, none⟩ = some (.int .i64 x.s) := HX4.out.cell 3
  have x4 : w4.cell? ⟨w.heap.size, 4, none⟩ = some (.int .i64 x.g) := HX4.out.cell 4
  have hnx : g' ≠ w.heap.size := by
    rcases hn1 g' rfl with h | h
    · have := HLT.out g' (mem_bsOf.2 (.inr (.inl h)))
      omega
    · have := HX3.out.lt
      omega
  have hne : g' ≠ w.heap.size + 1 := by
    rcases hn1 g' rfl with h | h
    · have := HLT.out g' (mem_bsOf.2 (.inr (.inl h)))
      omega
    · have := HK3.out.lt
      omega
  have HRB : Hid (w.heap.size + 1 ∉ bsOf B (.slice (some ⟨g', 0, none⟩) (opened a.us Ln.zero).length c') fv') := by
    intro hb
    rcases mem_bsOf.1 hb with h | h | h
    · have := HLT.out B (mem_bsOf.2 (.inl rfl))
      omega
    · cases h
      exact hne rfl
    · rcases hn2 _ h with h1 | h1
      · have := HLT.out _ (mem_bsOf.2 (.inr (.inr h1)))
        omega
      · have := HK3.out.lt
        omega
  have HOL : Hid ((opened a.us Ln.zero).length ≤ a.size) := opened_len _ hle hf
  have hol : (opened a.us Ln.zero).length ≤ 65536 := Nat.le_trans HOL.out hs2
  have hge := opened_gen a Ln.zero
  have HTT : Hid (Tn (bsOf B uv fv) w3 w4 ∧ Nw w3 uv (.slice (some ⟨g', 0, none⟩) (opened a.us Ln.zero).length c') ∧ Nw w3 fv fv') := ⟨ht4, hn1, hn2⟩
  clear hm ht4 hn1 hn2 hw1 hz1 hwx hzx HI3 HK3 HX3 HX4
  generalize hG : a.gen = G at *
  generalize (slAt (opened a.us Ln.zero) (low a.us)).gen = g0 at *
  generalize (slAt (opened a.us Ln.zero) (low a.us)).given = b0 at *
  generalize (slAt (opened a.us Ln.zero) (low a.us)).val = v0 at *
  generalize hN : (opened a.us Ln.zero).length = n' at *
  generalize hL : low a.us = L at *
  subst hge
  go_wp2_with fail
  go_region
  obtain ⟨wc, hwc⟩ : ∃ wc, wc = (((((((w4.setCell ⟨g', L * 7, none⟩ (.int .i64 (g0 + 1))).setCell ⟨g', L * 7 + 1, none⟩ (.bool true)).setCell ⟨g', L * 7 + 2, none⟩ (.int .i64 x.ts)).setCell ⟨g', L * 7 + 3, none⟩ (.string x.val)).setCell ⟨g', L * 7 + 4, none⟩ (.bool x.del)).setCell ⟨g', L * 7 + 5, none⟩ (.int .i64 x.s)).setCell ⟨g', L * 7 + 6, none⟩ (.int .i64 x.g)) := ⟨_, rfl⟩
  rw [← hwc]
  have htc : Tn [g'] w4 wc := by rw [hwc, put_chainL]; exact setCells_tn _ _
  have HKW : Hid (Bk wc.drew (w.heap.size + 1) 36 #[.int .i64 0, .int .i64 0]) := HK4.out.tn htc.drew (by simp; omega)
  have d0 : wc.cell? ⟨w.heap.size + 1, 0, none⟩ = some (.int .i64 0) := HKW.out.cell 0
  have d1 : wc.cell? ⟨w.heap.size + 1, 1, none⟩ = some (.int .i64 0) := HKW.out.cell 1
  have e0 : wc.frozen? ⟨w.heap.size + 1, 0, none⟩ = false := HKW.out.frozen 0
  have e1 : wc.frozen? ⟨w.heap.size + 1, 1, none⟩ = false := HKW.out.frozen 1
  have HE : Hid (ArT Ln.cells 5 tAL tSL w ((wc.drew.setCell ⟨w.heap.size + 1, 0, none⟩ (.int .i64 (L : Int))).setCell ⟨w.heap.size + 1, 1, none⟩ (.int .i64 (g0 + 1))) B (bsOf B uv fv) (a.put x)) := by
    refine put_end lnK (z := Ln.zero) (R := w.heap.size + 1) (Nat.le_succ _) hN hs1 hs2 HOL.out HT3.out (by rw [hL]; exact HM.out) HTT.out.1 HTT.out.2.1 HTT.out.2.2 (w4 := wc) ?_ ((((Tn.refl _ wc).drew).setCell (.inl (by simp)) _).setCell (.inl (by simp)) _) HRB.out
    rw [hL, hG, hwc, put_chainL]
  have r9 : wc.cell? ⟨g', L * 7, none⟩ = some (.int .i64 (g0 + 1)) := by
    have hrow := row_write lnK hN HM.out.row L hlow ⟨g0 + 1, true, x⟩
    have := row_cells lnK (by rw [List.length_set]; exact hN) hrow L hlow 0 (.int .i64 (g0 + 1)) (by rw [slAt_set _ _ _ _ (by rw [hN]; exact hlow), if_pos rfl]; rfl)
    rw [← put_chainL, ← hwc] at this
    exact this
  clear r0 r1 r2 f2 r3 f3 r4 f4 r5 f5 r6 f6 f0 f1 HM HTT HRB HOL HK4 hwc htc x0 x1 x2 x3 x4 
  go_wp2
  refine bodyPost_ret (results_hndL rfl rfl ((HKW.out.set 0 _).set 1 _)) rfl ?_
  refine ⟨?_, HE.out⟩
  rw [hL, hG]
  rfl
end Go.Proofs.Ytbdcdiihaecheaa
