/- Arenas of texts: Put. -/
import Derived.Test.YtfbmbjbokmomhaaArA5S
namespace Go.Proofs.Ytfbmbjbokmomhaa
open Go.RowKit
set_option linter.unusedVariables false
set_option maxRecDepth 100000

/-- A handle and an error are answered. -/
theorem results_hndS {fn : Func} {t u : Tmp} (h : fn.results = #[.cell t 36, .tmp u]) {tmps : Array Value} {w : World} {b : Nat} (ht : tmps.getD t undef = .pointer (some ⟨b, 0, none⟩)) {s g : Int} (hk : Bk w b 36 #[.int .i64 s, .int .i64 g]) :
    (results fn tmps).run Try.prog w = .ok (.tuple #[.agg #[.int .i64 s, .int .i64 g], tmps.getD u undef]) w := by
  have c0 : w.cell? ⟨b, 0, none⟩ = some (.int .i64 s) := hk.cell 0
  have c1 : w.cell? ⟨b, 1, none⟩ = some (.int .i64 g) := hk.cell 1
  have hz : ∀ w : World, (loadVar 36 ⟨b, 0, none⟩).run Try.prog w = (do let x ← load ⟨b, 0, none⟩; let y ← load ⟨b, 1, none⟩; pure (.agg #[x, y]) : Sem Value).run Try.prog w := fun w => by kernel_rfl
  have hl : (loadVar 36 ⟨b, 0, none⟩).run Try.prog w = .ok (.agg #[.int .i64 s, .int .i64 g]) w := by
    rw [hz]
    simp [c0, c1]
  have ht' : tmps[t]?.getD undef = .pointer (some ⟨b, 0, none⟩) := by simpa using ht
  simp [results, h, ht', asAddr, hl]

set_option maxHeartbeats 1000000 in
theorem putFullS {w : World} {B : Nat} {bs : List Nat} {a : Ar} (h : Arn tAS tSS w B bs a) (x : ByteArray) (hf : live a.us = a.size) :
    Calls Try.prog 16 #[.pointer (some ⟨B, 0, none⟩), (.string x)] w fun e w' => e = .returned (.tuple #[.agg #[.int .i64 0, .int .i64 0], .int .i64 5]) ∧ Below w.heap.size w w' := by
  obtain ⟨uv, fv, fr, rfl, h⟩ := h
  obtain ⟨w1, hw1, hz1, hb1, h', hk, -, -⟩ := h.boxed 0 0
  obtain ⟨c0, c1, c2, c3⟩ := h'.cells
  have hs1 := h.s1
  have hs2 := h.s2
  have HA : Hid (Arn tAS tSS w1.drew B (bsOf B uv fv) a) := ⟨_, _, _, rfl, h'.tn (Tn.refl [] w1).drew (by simp)⟩
  have HK : Hid (Bk w1.drew w.heap.size 36 #[.int .i64 0, .int .i64 0]) := hk
  have HB : Hid (Below w.heap.size w w1.drew) := hb1.drew
  clear h h' hk hb1
  go_enter Try.func16, Try.ntmps16
  go_wp2_with fail
  refine (madeS c0 hs1).mono ?_
  rintro e w2 ⟨rfl, rfl⟩
  go_wp2_with fail
  go_region_held3 (fun w' => w'.cell? ⟨B, 0, none⟩ = some (.int .i64 a.size)) (go_keep) (first | (go_at_call 11; refine (liveS HA.out).mono ?_; rintro e w3 ⟨rfl, ht3⟩; have k5 : w3.cell? ⟨B, 0, none⟩ = some (.int .i64 a.size) := by (obtain ⟨_, _, _, _, hi⟩ := HA.out.tn ht3 (by simp); exact hi.cells.1)))
  have HK3 := HK.out.tn ht3 (by simp)
  have d0 : w3.cell? ⟨w.heap.size, 0, none⟩ = some (.int .i64 0) := HK3.cell 0
  have d1 : w3.cell? ⟨w.heap.size, 1, none⟩ = some (.int .i64 0) := HK3.cell 1
  have e0 : w3.frozen? ⟨w.heap.size, 0, none⟩ = false := HK3.frozen 0
  have e1 : w3.frozen? ⟨w.heap.size, 1, none⟩ = false := HK3.frozen 1
  have HB3 : Hid (Below w.heap.size w w3) := HB.out.trans (ht3.below (Nat.le_refl _) (by simp) |>.mono HB.out.size)
  clear HK HA HB ht3 c0 c1 c2 c3 k5
  go_wp2
  refine bodyPost_ret (results_hndS rfl rfl ((HK3.set 0 _).set 1 _)) rfl ?_
  exact ⟨rfl, (HB3.out.setCell (Nat.le_refl _) _).setCell (Nat.le_refl _) _⟩

theorem put_endS {w w1 w3 w4 w5 : World} {B R : Nat} {uv fv : Value} {fr' : List Nat} {a : Ar} {g' n' c' : Nat} {fv' : Value} {z x : Value} (hR : w.heap.size ≤ R) (hn : (opened a.us z).length = n') (h1 : 1 ≤ a.size) (h2 : a.size ≤ 65536) (hl : n' ≤ a.size)
    (ht1 : Tn [] w w1) (hm : Mid tAS tSS w3 B (.slice (some ⟨g', 0, none⟩) n' c') fv' fr' a.size a.stale (opened a.us z) (low a.us)) (ht3 : Tn (bsOf B uv fv) w1 w3) (hn1 : Nw w1 uv (.slice (some ⟨g', 0, none⟩) n' c')) (hn2 : Nw w1 fv fv')
    (hw4 : w4 = ((w3.setCell ⟨g', low a.us * 3, none⟩ (.int .i64 a.gen)).setCell ⟨g', low a.us * 3 + 1, none⟩ (.bool true)).setCell ⟨g', low a.us * 3 + 2, none⟩ x) (ht5 : Tn [R] w4 w5) (hRb : R ∉ bsOf B (.slice (some ⟨g', 0, none⟩) n' c') fv') :
    ArT tAS tSS w w5 B (bsOf B uv fv) (a.put x) := by
  obtain ⟨h4, ht4⟩ := hm.give hn ⟨a.gen, true, x⟩ rfl h1 h2 hl hw4
  have e : (⟨a.size, (opened a.us z).set (low a.us) ⟨a.gen, true, x⟩, a.stale⟩ : Ar) = a.put x := by
    rw [opened_set]
    rfl
  rw [e] at h4
  refine ⟨_, ⟨_, _, _, rfl, h4.tn ht5 (fun b hb hm => by simp at hm; subst hm; exact hRb hb)⟩, ?_, ?_⟩
  · refine (((ht1.mono (by simp)).trans ht3 (fun x hx => .inl hx)).trans ht4 ?_).trans ht5 ?_
    · intro y hy
      simp at hy
      subst hy
      rcases hn1 y rfl with h | h
      · exact .inl (mem_bsOf.2 (.inr (.inl h)))
      · exact .inr (Nat.le_trans ht1.size h)
    · intro y hy
      simp at hy
      subst hy
      exact .inr hR
  · intro b hb
    rcases mem_bsOf.1 hb with rfl | hb | hb
    · exact .inl (mem_bsOf.2 (.inl rfl))
    · rcases hn1 b hb with h | h
      · exact .inl (mem_bsOf.2 (.inr (.inl h)))
      · exact .inr (Nat.le_trans ht1.size h)
    · rcases hn2 b hb with h | h
      · exact .inl (mem_bsOf.2 (.inr (.inr h)))
      · exact .inr (Nat.le_trans ht1.size h)

theorem opened_lenS {us : List Sl} {n : Nat} (z : Value) (hl : us.length ≤ n) (hlt : live us < n) : (opened us z).length ≤ n := by
  unfold opened
  split
  · exact hl
  · rename_i h
    have h1 : low us = us.length := by have := low_le us; omega
    have : live us = us.length := by
      unfold live
      rw [List.countP_eq_length]
      intro s hs
      unfold low at h1
      have := List.findIdx_eq_length.1 h1 s hs
      simpa using this
    simp
    omega

set_option maxHeartbeats 2000000 in
theorem putOkS {w : World} {B : Nat} {bs : List Nat} {a : Ar} (h : Arn tAS tSS w B bs a) (x : ByteArray) (hf : live a.us < a.size) (hg1 : 1 ≤ a.gen) (hg2 : a.gen ≤ 9223372036854775807) :
    Calls Try.prog 16 #[.pointer (some ⟨B, 0, none⟩), (.string x)] w fun e w' => e = .returned (.tuple #[.agg #[.int .i64 (low a.us), .int .i64 a.gen], .int .i64 0]) ∧ ArT tAS tSS w w' B bs (a.put (.string x)) := by
  obtain ⟨uv, fv, fr, rfl, h⟩ := h
  obtain ⟨w1, hw1, hz1, hb1, h', hk, -, -⟩ := h.boxed 0 0
  obtain ⟨c0, c1, c2, c3⟩ := h'.cells
  have hs1 := h.s1
  have hs2 := h.s2
  have hle := h.le
  have HLT : Hid (∀ b ∈ bsOf B uv fv, b < w.heap.size) := h.lt
  have HI : Hid (IsAr tAS tSS w1.drew B uv fv fr a) := h'.tn (Tn.refl [] w1).drew (by simp)
  have HK : Hid (Bk w1.drew w.heap.size 36 #[.int .i64 0, .int .i64 0]) := hk
  have HB : Hid (Below w.heap.size w w1.drew) := hb1.drew
  clear h h' hk hb1
  go_enter Try.func16, Try.ntmps16
  go_wp2_with fail
  refine (madeS c0 hs1).mono ?_
  rintro e w2 ⟨rfl, rfl⟩
  go_wp2_with fail
  go_region_held3 (fun w' => w'.cell? ⟨B, 0, none⟩ = some (.int .i64 a.size)) (go_keep) (first | (go_at_call 11; refine (liveS ⟨_, _, _, rfl, HI.out⟩).mono ?_; rintro e w3 ⟨rfl, ht3⟩; have k5 : w3.cell? ⟨B, 0, none⟩ = some (.int .i64 a.size) := by (exact (HI.out.tn ht3 (by simp)).cells.1)))
  have HK3 : Hid (Bk w3 w.heap.size 36 #[.int .i64 0, .int .i64 0]) := HK.out.tn ht3 (by simp)
  have HI3 : Hid (IsAr tAS tSS w3 B uv fv fr a) := HI.out.tn ht3 (by simp)
  have HT3 : Hid (Tn [] w w3) := (Tn.of_below HB.out []).trans ht3 (by simp)
  have hq : ((live a.us : Int) == (a.size : Int)) = false := by simp; omega
  rw [hq]
  clear HK HI HB ht3 c0 c1 c2 c3 k5 hq
  go_wp2_with fail
  refine (lowestS HI3.out hf).mono ?_
  rintro e w4 ⟨rfl, uv', fv', fr', hm, ht4, hn1, hn2⟩
  obtain ⟨g', c', rfl⟩ := row_some hm.row (by have := hm.hi; omega)
  have HM : Hid (Mid tAS tSS w4 B (.slice (some ⟨g', 0, none⟩) (opened a.us (.string ⟨#[]⟩)).length c') fv' fr' a.size a.stale (opened a.us (.string ⟨#[]⟩)) (low a.us)) := hm
  have hlow : low a.us < (opened a.us (.string ⟨#[]⟩)).length := hm.hi
  obtain ⟨r0, r1, r2⟩ := row_cells rfl hm.row (low a.us) hlow
  have f0 := row_frozen rfl hm.row (low a.us * 3)
  have f1 := row_frozen rfl hm.row (low a.us * 3 + 1)
  have f2 := row_frozen rfl hm.row (low a.us * 3 + 2)
  have c1 : w4.cell? ⟨B, 1, none⟩ = some (.slice (some ⟨g', 0, none⟩) (opened a.us (.string ⟨#[]⟩)).length c') := hm.wt.blk.cell 1
  have HK4 : Hid (Bk w4 w.heap.size 36 #[.int .i64 0, .int .i64 0]) := HK3.out.tn ht4 (fun hb => by have := HLT.out _ hb; omega)
  have hne : g' ≠ w.heap.size := by
    rcases hn1 g' rfl with h | h
    · have := HLT.out g' (mem_bsOf.2 (.inr (.inl h)))
      omega
    · have := HK3.out.lt
      omega
  have HRB : Hid (w.heap.size ∉ bsOf B (.slice (some ⟨g', 0, none⟩) (opened a.us (.string ⟨#[]⟩)).length c') fv') := by
    intro hb
    rcases mem_bsOf.1 hb with h | h | h
    · have := HLT.out B (mem_bsOf.2 (.inl rfl))
      omega
    · cases h
      exact hne rfl
    · rcases hn2 _ h with h1 | h1
      · have := HLT.out _ (mem_bsOf.2 (.inr (.inr h1)))
        omega
      · have := HK3.out.lt
        omega
  have HOL : Hid ((opened a.us (.string ⟨#[]⟩)).length ≤ a.size) := opened_lenS _ hle hf
  have hol : (opened a.us (.string ⟨#[]⟩)).length ≤ 65536 := Nat.le_trans HOL.out hs2
  have hge := opened_gen a (.string ⟨#[]⟩)
  have HTT : Hid (Tn (bsOf B uv fv) w3 w4 ∧ Nw w3 uv (.slice (some ⟨g', 0, none⟩) (opened a.us (.string ⟨#[]⟩)).length c') ∧ Nw w3 fv fv') := ⟨ht4, hn1, hn2⟩
  clear hm ht4 hn1 hn2 hw1 hz1 HI3 HK3
  generalize hG : a.gen = G at *
  generalize (slAt (opened a.us (.string ⟨#[]⟩)) (low a.us)).gen = g0 at *
  generalize (slAt (opened a.us (.string ⟨#[]⟩)) (low a.us)).given = b0 at *
  generalize (slAt (opened a.us (.string ⟨#[]⟩)) (low a.us)).val = v0 at *
  generalize hN : (opened a.us (.string ⟨#[]⟩)).length = n' at *
  generalize hL : low a.us = L at *
  subst hge
  have HKW : Hid (Bk (((w4.setCell ⟨g', L * 3, none⟩ (.int .i64 (g0 + 1))).setCell ⟨g', L * 3 + 1, none⟩ (.bool true)).setCell ⟨g', L * 3 + 2, none⟩ (.string x)) w.heap.size 36 #[.int .i64 0, .int .i64 0]) := by
    exact ((HK4.out.other (Ne.symm hne) _).other (Ne.symm hne) _).other (Ne.symm hne) _
  have d0 : (((w4.setCell ⟨g', L * 3, none⟩ (.int .i64 (g0 + 1))).setCell ⟨g', L * 3 + 1, none⟩ (.bool true)).setCell ⟨g', L * 3 + 2, none⟩ (.string x)).cell? ⟨w.heap.size, 0, none⟩ = some (.int .i64 0) := HKW.out.cell 0
  have d1 : (((w4.setCell ⟨g', L * 3, none⟩ (.int .i64 (g0 + 1))).setCell ⟨g', L * 3 + 1, none⟩ (.bool true)).setCell ⟨g', L * 3 + 2, none⟩ (.string x)).cell? ⟨w.heap.size, 1, none⟩ = some (.int .i64 0) := HKW.out.cell 1
  have e0 : (((w4.setCell ⟨g', L * 3, none⟩ (.int .i64 (g0 + 1))).setCell ⟨g', L * 3 + 1, none⟩ (.bool true)).setCell ⟨g', L * 3 + 2, none⟩ (.string x)).frozen? ⟨w.heap.size, 0, none⟩ = false := HKW.out.frozen 0
  have e1 : (((w4.setCell ⟨g', L * 3, none⟩ (.int .i64 (g0 + 1))).setCell ⟨g', L * 3 + 1, none⟩ (.bool true)).setCell ⟨g', L * 3 + 2, none⟩ (.string x)).frozen? ⟨w.heap.size, 1, none⟩ = false := HKW.out.frozen 1
  have HE : Hid (ArT tAS tSS w (((((w4.setCell ⟨g', L * 3, none⟩ (.int .i64 (g0 + 1))).setCell ⟨g', L * 3 + 1, none⟩ (.bool true)).setCell ⟨g', L * 3 + 2, none⟩ (.string x)).setCell ⟨w.heap.size, 0, none⟩ (.int .i64 (L : Int))).setCell ⟨w.heap.size, 1, none⟩ (.int .i64 (g0 + 1))) B (bsOf B uv fv) (a.put (.string x))) := by
    subst hL
    rw [← hG]
    exact put_endS (R := w.heap.size) (Nat.le_refl _) hN hs1 hs2 HOL.out HT3.out HM.out HTT.out.1 HTT.out.2.1 HTT.out.2.2 rfl (((Tn.refl _ _).setCell (.inl (by simp)) _).setCell (.inl (by simp)) _) HRB.out
  go_wp2
  refine bodyPost_ret (results_hndS rfl rfl ((HKW.out.set 0 _).set 1 _)) rfl ?_
  refine ⟨?_, HE.out⟩
  rw [hL, hG]
  rfl
end Go.Proofs.Ytfbmbjbokmomhaa
