/- A clone of a table: the walk. -/
import Derived.Test.YtnjafmjkaajbkaaDoorTbCm
namespace Go.Proofs.YtnjafmjkaajbkaaDoor
open Go.RowKit
set_option linter.unusedVariables false
set_option maxRecDepth 100000

/-- Ahead of the rounds. -/
theorem Clo.start {w v : World} {ue we : Value} {t : Tb} {n m : Nat} (hn : t.us.length = n) (hm : t.ws.length = m) (hb : Below w.heap.size w v) (he : v.ownsRow 0 80 2 ue n (paCells t.us)) (hE : ∀ k, ue.ownBlock = some k → w.heap.size ≤ k) (hw : v.ownsRow 0 100 1 we m (wsCells t.ws)) (hW : ∀ k, we.ownBlock = some k → w.heap.size ≤ k) :
    Clo w (v.alloc (.cells #[.int .i64 (t.size : Int), ue, we, .int .i64 (t.many : Int), .int .i64 (t.gone : Int), .int .i64 0] 64)) v.heap.size ue we t 0 t.us := by
  subst hn
  subst hm
  exact {
    len := rfl
    blk := Bk.new _ _ _
    row := World.ownsRow.alloc he _
    wrd := World.ownsRow.alloc hw _
    old := fun i _ => rfl
    new := fun i c x m hi => absurd hi (Nat.not_lt_zero _)
    st := fun i => rfl
    dis := fun i k c x y m l hi => absurd hi (Nat.not_lt_zero _)
    hC := hb.size
    hE := hE
    hW := hW
    below := hb.alloc hb.size _ }

/-- What a round reads. -/
theorem Clo.reads {w wr : World} {C g cap n : Nat} {we : Value} {t : Tb} {j : Nat} {vs : List Pa} (hn : t.us.length = n) (h : Clo w wr C (.slice (some ⟨g, 0, none⟩) n cap) we t j vs) {p : Pa} (hj : t.us[j]? = some p) : wr.cell? ⟨C, 1, none⟩ = some (.slice (some ⟨g, 0, none⟩) n cap) ∧ wr.cell? ⟨g, j * 2 + 1, none⟩ = some (.pointer p.ptr) ∧ wr.frozen? ⟨g, j * 2 + 1, none⟩ = false := by
  have hjl : j < t.us.length := (List.getElem?_eq_some_iff.1 hj).1
  have hvj : vs[j]? = some p := by rw [h.old j (Nat.le_refl _)]; exact hj
  have hr := h.row
  rw [hn] at hr
  refine ⟨h.blk.cell 1, ?_, World.ownsRow.frozenAt hr _⟩
  rw [World.ownsRow.cellAt hr (j * 2 + 1) (by omega)]
  exact paCells_at vs j 1 hvj (by omega)

set_option maxHeartbeats 8000000 in
theorem tClone {w : World} {B : Nat} {bs : List Nat} {t : Tb} (h : Tbn w B bs t) : Calls Tryd.prog 23 #[.pointer (some ⟨B, 0, none⟩)] w fun e w' => ∃ C cs t', e = .returned (.pointer (some ⟨C, 0, none⟩)) ∧ Tbn w' C cs t' ∧ Same t t' ∧ Below w.heap.size w w' ∧ ∀ b ∈ cs, w.heap.size ≤ b := by
  obtain ⟨uv, wv, rfl, h, ho⟩ := h
  obtain ⟨c0, c1, c2, c3, c4, c5⟩ := h.cells
  obtain ⟨pu, ku, rfl, -⟩ := row_form h.row
  obtain ⟨pw, kw, rfl, -⟩ := row_form h.wrd
  have HH : Hid _ := h
  have HO : Hid _ := ho
  obtain ⟨n, hn⟩ : ∃ n, t.us.length = n := ⟨_, rfl⟩
  obtain ⟨m, hm⟩ : ∃ m, t.ws.length = m := ⟨_, rfl⟩
  have HN : Hid (t.us.length = n ∧ n ≤ 65536 ∧ t.ws.length = m ∧ m ≤ 1024) := ⟨hn, by have := ho.le; have := ho.s2; omega, hm, by have := ho.wl; omega⟩
  have hs : (0 : Int) < (t.size : Int) := by have := ho.s1; omega
  have HU : Hid (∀ v, Below w.heap.size w v → v.ownsRow 0 80 2 (.slice pu n ku) n (paCells t.us)) := fun v hv => by
    have := own_up h.row hv
    rwa [hn] at this
  have HW : Hid (∀ v, Below w.heap.size w v → v.ownsRow 0 100 1 (.slice pw m kw) m (wsCells t.ws)) := fun v hv => by
    have := own_up h.wrd hv
    rwa [hm] at this
  have HC : Hid (∀ v, Below w.heap.size w v → v.cell? ⟨B, 0, none⟩ = some (.int .i64 (t.size : Int)) ∧ v.cell? ⟨B, 1, none⟩ = some (.slice pu n ku) ∧ v.cell? ⟨B, 2, none⟩ = some (.slice pw m kw) ∧ v.cell? ⟨B, 3, none⟩ = some (.int .i64 (t.many : Int)) ∧ v.cell? ⟨B, 4, none⟩ = some (.int .i64 (t.gone : Int))) := fun v hv => by
    obtain ⟨a0, a1, a2, a3, a4, -⟩ := (h.below hv).cells
    rw [hn] at a1
    rw [hm] at a2
    exact ⟨a0, a1, a2, a3, a4⟩
  rw [hn] at c1
  rw [hm] at c2
  have hb : Below w.heap.size w w.drew := (Below.refl _ _).drew
  clear h ho hn hm
  go_enter Tryd.func23, Tryd.ntmps23
  go_wp2_with fail
  refine (tmade_any c0 hs).mono ?_
  rintro e w0 ⟨rfl, rfl⟩
  go_wp2_with fail
  go_region_held3 (fun v => v.cell? ⟨B, 0, none⟩ = some (.int .i64 (t.size : Int)) ∧ v.cell? ⟨B, 1, none⟩ = some (.slice pu n ku) ∧ v.cell? ⟨B, 2, none⟩ = some (.slice pw m kw) ∧ v.cell? ⟨B, 3, none⟩ = some (.int .i64 (t.many : Int)) ∧ v.cell? ⟨B, 4, none⟩ = some (.int .i64 (t.gone : Int))) (go_keep) (first
    | (go_at_call 44; refine (cloneE_any HN.out.1 (HU.out _ hb) HN.out.2.1).mono ?_; rintro e v ⟨ve, rfl, cp⟩; obtain ⟨pe, ke, rfl, -⟩ := row_form cp.1; have RE : Hid (v.ownsRow 0 80 2 (.slice pe n ke) n (paCells t.us) ∧ ∀ k, (Value.slice pe n ke).ownBlock = some k → w0.heap.size ≤ k) := ⟨cp.1, fun k hk => Nat.le_trans hb.size (cp.2.2 k hk)⟩; (try (have RW : Hid (v.ownsRow 0 100 1 (.slice pf m kf) m (wsCells t.ws) ∧ ∀ k, (Value.slice pf m kf).ownBlock = some k → w0.heap.size ≤ k) := ⟨own_up RW.out.1 cp.2.1, RW.out.2⟩)); have hb := hb.trans (cp.2.1.mono hb.size); clear cp; have hq := HC.out v hb; have c0 := hq.1; have c1 := hq.2.1; have c2 := hq.2.2.1; have c3 := hq.2.2.2.1; have c4 := hq.2.2.2.2; clear hq)
    | (go_at_call 45; refine (wclone_any _ HN.out.2.2.1 (HW.out _ hb) (by have := HN.out; omega)).mono ?_; rintro e v ⟨ve, rfl, cp⟩; obtain ⟨pf, kf, rfl, -⟩ := row_form cp.1; have RW : Hid (v.ownsRow 0 100 1 (.slice pf m kf) m (wsCells t.ws) ∧ ∀ k, (Value.slice pf m kf).ownBlock = some k → w0.heap.size ≤ k) := ⟨cp.1, fun k hk => Nat.le_trans hb.size (cp.2.2 k hk)⟩; (try (have RE : Hid (v.ownsRow 0 80 2 (.slice pe n ke) n (paCells t.us) ∧ ∀ k, (Value.slice pe n ke).ownBlock = some k → w0.heap.size ≤ k) := ⟨own_up RE.out.1 cp.2.1, RE.out.2⟩)); have hb := hb.trans (cp.2.1.mono hb.size); clear cp; have hq := HC.out v hb; have c0 := hq.1; have c1 := hq.2.1; have c2 := hq.2.2.1; have c3 := hq.2.2.2.1; have c4 := hq.2.2.2.2; clear hq))
  all_goals
    have hc := Clo.start HN.out.1 HN.out.2.2.1 hb RE.out.1 RE.out.2 RW.out.1 RW.out.2
    obtain ⟨w1, hw1⟩ : ∃ w1, v.alloc (.cells #[.int .i64 (t.size : Int), .slice pe n ke, .slice pf m kf, .int .i64 (t.many : Int), .int .i64 (t.gone : Int), .int .i64 0] 64) = w1 := ⟨_, rfl⟩
    rw [hw1] at hc
    have d1 : w1.cell? ⟨v.heap.size, 1, none⟩ = some (.slice pe n ke) := hc.blk.cell 1
    have H1 : Hid (Clo w0 w1 v.heap.size (.slice pe n ke) (.slice pf m kf) t 0 t.us) := hc
    clear hc hb RE RW HU HW HC c0 c1 c2 c3 c4
    generalize v.heap.size = C at *
    have hnb : n ≤ 65536 := HN.out.2.1
    go_wp2_with fail
    go_loopw [33] (fun iv wr => ∃ j : Nat, j ≤ n ∧ iv = .int .i64 j ∧ Hid (∃ vs, Clo w0 wr C (.slice pe n ke) (.slice pf m kf) t j vs)) (fun iv _ => n - (intOf iv).toNat)
    case atStart => exact ⟨0, by omega, rfl, t.us, by exact H1.out⟩
    case round =>
      obtain ⟨j, hj, rfl, HV⟩ := hrel
      by_cases hlt : j < n
      · obtain ⟨vs, hcl⟩ := HV.out
        have hjl : j < t.us.length := by have := HN.out.1; omega
        obtain ⟨p, hp⟩ : ∃ p, t.us[j]? = some p := ⟨_, List.getElem?_eq_getElem hjl⟩
        obtain ⟨g, cg, hpe⟩ := row_some hcl.row (by omega)
        have hpe' : pe = some ⟨g, 0, none⟩ := by injection hpe
        subst hpe'
        obtain ⟨r1, r2, r3⟩ := hcl.reads HN.out.1 hp
        have hli : (j : Int) < (n : Int) := by omega
        have h0 : (0 : Int) ≤ (j : Int) := by omega
        have HCL : Hid (Clo w0 wr C (.slice (some ⟨g, 0, none⟩) n ke) (.slice pf m kf) t j vs) := hcl
        clear hpe
        by_cases hlv : ∃ c x l, p = Pa.live c x l
        · obtain ⟨c, x, l, rfl⟩ := hlv
          have HCE : Hid (Ce wr c x l) := (HH.out.below hcl.below).cel j c x l hp
          have HP : Hid (t.us[j]? = some (Pa.live c x l)) := hp
          have r2' : wr.cell? ⟨g, j * 2 + 1, none⟩ = some (.pointer (some ⟨c, 0, none⟩)) := r2
          have HQ : Hid (∀ v2, v2 = wr.drew.alloc (.cells #[.bool true, .int .i64 x.1, .int .i64 x.2, .int .i64 l] 96) → (v2.cell? ⟨C, 1, none⟩ = some (.slice (some ⟨g, 0, none⟩) n ke) ∧ v2.cell? ⟨g, j * 2 + 1, none⟩ = some (.pointer (some ⟨c, 0, none⟩)) ∧ v2.frozen? ⟨g, j * 2 + 1, none⟩ = false) ∧ ∃ vs, Clo w0 (v2.setCell ⟨g, j * 2 + 1, none⟩ (.pointer (some ⟨wr.heap.size, 0, none⟩))) C (.slice (some ⟨g, 0, none⟩) n ke) (.slice pf m kf) t (j + 1) vs) := by
            intro v2 hv2
            have hbv : Below wr.heap.size wr v2 := by rw [hv2]; exact (Below.refl _ wr).drew.alloc (by exact Nat.le_refl _) _
            have hcv : Ce v2 wr.heap.size x l := by rw [hv2]; exact Bk.new wr.drew _ _
            exact ⟨(hcl.below' hbv).reads HN.out.1 hp, _, hcl.next HN.out.1 hp hbv hcv⟩
          clear hcl hp r2 HV hjl
          go_wp2_with fail
          go_region_with (first | (go_at_call 46; refine (cclone_any (by exact HCE.out)).mono ?_; rintro e v2 ⟨rfl, hv2⟩; have hq := HQ.out v2 hv2; have r1 := hq.1.1; have r2' := hq.1.2.1; have r3 := hq.1.2.2; have HN2 : Hid _ := hq.2; clear hq hv2))
          all_goals
            go_wp2
            go_roundw
            case rel => exact ⟨j + 1, by omega, by go_num, HN2⟩
            case measure => simp [intOf]; omega
        · have hpn : p.ptr = none := by
            rcases p with ⟨_ | _ | ⟨a, b, d⟩⟩
            · rfl
            · rfl
            · exact absurd ⟨a, b, d, rfl⟩ hlv
          have r2' : wr.cell? ⟨g, j * 2 + 1, none⟩ = some (.pointer none) := by rw [← hpn]; exact r2
          have HQ : Hid (∃ vs, Clo w0 (wr.drew.setCell ⟨g, j * 2 + 1, none⟩ (.pointer none)) C (.slice (some ⟨g, 0, none⟩) n ke) (.slice pf m kf) t (j + 1) vs) := ⟨_, hcl.skip HN.out.1 hp hpn (Below.refl _ wr).drew⟩
          clear hcl hp r2 HV hjl hpn hlv
          go_wp2_with fail
          go_region_with (first | (go_at_call 46; refine (cclone_nil _).mono ?_; rintro e v2 ⟨rfl, rfl⟩))
          all_goals
            go_wp2
            go_roundw
            case rel => exact ⟨j + 1, by omega, by go_num, by exact HQ⟩
            case measure => simp [intOf]; omega
      · obtain rfl : j = n := by omega
        obtain ⟨vs, hcl⟩ := HV.out
        have hli : ¬ (j : Int) < (j : Int) := by omega
        have hcl' : Clo w0 wr C (.slice pe j ke) (.slice pf m kf) t t.us.length vs := by rw [HN.out.1]; exact hcl
        have e5 : wr.cell? ⟨C, 5, none⟩ = some (.int .i64 0) := hcl.blk.cell 5
        have f5 := hcl.blk.frozen 5
        have c5' : wr.cell? ⟨B, 5, none⟩ = some (.int .i64 t.missed) := by rw [hcl.below.cell (p := ⟨B, 5, none⟩) (World.block_lt_of_cell? w0 _ c5)]; exact c5
        have hBC : B ≠ C := by
          have h1 := hcl.hC
          have h2 : B < w0.heap.size := World.block_lt_of_cell? w0 _ c5
          omega
        have HE : Hid (∀ v, v = wr.drew.setCell ⟨C, 5, none⟩ (.int .i64 t.missed) → (∃ cs t', Tbn v C cs t' ∧ Same t t' ∧ Below w0.heap.size w0 v ∧ ∀ b ∈ cs, w0.heap.size ≤ b) ∧ v.cell? ⟨B, 5, none⟩ = some (.int .i64 t.missed)) := by
          intro v hv
          rw [hv]
          have hd := hcl'.below' (Below.refl _ wr).drew
          refine ⟨Clo.done HO.out hd, ?_⟩
          have k : wr.drew.cell? ⟨B, 5, none⟩ = some (.int .i64 t.missed) := c5'
          rw [← k]
          simp only [World.cell?]
          rw [Below.heap_setCell _ _ _ _ (by simpa using hBC)]
        clear hcl hcl' HV
        go_wp2_with fail
        go_region_held3 (fun v => v.cell? ⟨B, 5, none⟩ = some (.int .i64 t.missed)) (go_keep) (first
          | (go_at_call 31; refine (aload_any (by exact c5')).mono ?_; rintro e v2 ⟨rfl, rfl⟩)
          | (go_at_call 47; refine (astore_any (x := 0) (by exact e5) (by exact f5)).mono ?_; rintro e v2 ⟨rfl, hv2⟩; have hq := HE.out v2 hv2; have c5' := hq.2; have HF : Hid _ := hq.1; clear hq hv2))
        all_goals
          go_wp2
          go_ret
          obtain ⟨cs, t', a1, a2, a3, a4⟩ := HF.out
          exact ⟨C, cs, t', rfl, a1, a2, a3, a4⟩
end Go.Proofs.YtnjafmjkaajbkaaDoor
