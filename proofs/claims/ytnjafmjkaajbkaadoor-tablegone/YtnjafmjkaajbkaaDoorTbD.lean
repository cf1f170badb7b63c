/- Tables: numbers wait, and are taken again. -/
import Derived.Test.YtnjafmjkaajbkaaDoorTbC
import Derived.Test.YtnjafmjkaajbkaaDoorTbZ
namespace Go.Proofs.YtnjafmjkaajbkaaDoor
open Go.RowKit
set_option linter.unusedVariables false
set_option maxRecDepth 100000

theorem shl_one (b : Nat) (hb : b < 64) : IntKind.u64.wrap ((2 : Int) ^ b) = ((2 ^ b : Nat) : Int) := by
  have hp : 2 ^ b < 2 ^ 64 := Nat.pow_lt_pow_right (by decide) hb
  have e : ((2 : Int) ^ b) = ((2 ^ b : Nat) : Int) := by simp
  rw [e, IntKind.wrap_u64]
  generalize 2 ^ b = P at *
  omega

theorem wsCells_set (ws : List Nat) (k r : Nat) : wsCells (ws.set k r) = (wsCells ws).set k (.int .u64 (r : Int)) := by simp [wsCells, List.map_set]

section
variable {w : World} {B : Nat} {uv wv : Value} {size : Int} {us : List Pa} {ws : List Nat} {many gone missed : Int}

theorem Rw.drew (h : Rw w B uv wv size us ws many gone missed) : Rw w.drew B uv wv size us ws many gone missed := h.below (Below.refl _ w).drew

/-- A word is written. -/
theorem Rw.setWord {g c n : Nat} (hn : ws.length = n) (h : Rw w B uv (.slice (some ⟨g, 0, none⟩) n c) size us ws many gone missed) (k r : Nat) :
    Rw (w.setCell ⟨g, k, none⟩ (.int .u64 (r : Int))) B uv (.slice (some ⟨g, 0, none⟩) n c) size us (ws.set k r) many gone missed ∧ Tn [g] w (w.setCell ⟨g, k, none⟩ (.int .u64 (r : Int))) := by
  subst hn
  have ht : Tn [g] w (w.setCell ⟨g, k, none⟩ (.int .u64 (r : Int))) := (Tn.refl [g] w).setCell (.inl (by simp)) _
  have hg := h.neW g rfl
  refine ⟨⟨h.blk.tn ht (by simpa using hg.1.symm), owns_tn h.row ht (fun j hj hm => by simp at hm; subst hm; exact hg.2.1 hj), ?_, fun i c x n hi => (h.cel i c x n hi).tn ht (by simpa using hg.2.2 i c x n hi), h.dis⟩, ht⟩
  have h1 := World.ownsRow.stored h.wrd k (.int .u64 (r : Int))
  rw [List.length_set, wsCells_set]
  exact h1.1

set_option maxHeartbeats 2000000 in
theorem take_any (h : Rw w B uv wv size us ws many gone missed) (hT : Tab w) (hnb : ws.length ≤ 1048576) (hm1 : 1 ≤ many) (hm2 : many ≤ 65536) {k : Nat} (hk : k < ws.length) (hk0 : ws.getD k 0 ≠ 0) (hlt : ∀ i, i < k → ws.getD i 0 = 0) (hx : ws.getD k 0 < 18446744073709551616) {r : Nat} (hr : bits .andNot .u64 ((ws.getD k 0 : Nat) : Int) ((2 ^ Lib.ctz 64 (ws.getD k 0) : Nat) : Int) = (r : Int)) :
    Calls Tryd.prog 51 #[.pointer (some ⟨B, 2, none⟩)] w fun e w' => e = .returned (.int .i64 ((k * 64 + Lib.ctz 64 (ws.getD k 0) : Nat) : Int)) ∧ Rw w' B uv wv size us (ws.set k r) (many - 1) gone missed ∧ Tn (bs3 B uv wv) w w' := by
  obtain ⟨hc1, -, -⟩ := ctz_bit hk0 hx
  obtain ⟨g, c, rfl⟩ := row_some h.wrd (by omega)
  obtain ⟨n, hn⟩ : ∃ n, ws.length = n := ⟨_, rfl⟩
  rw [hn] at h hk hnb ⊢
  have c2 := h.cells.2.2.1
  have ck : w.cell? ⟨g, k, none⟩ = some (.int .u64 ((ws.getD k 0 : Nat) : Int)) := ws_cell hn h.wrd k hk
  have fk : w.frozen? ⟨g, k, none⟩ = false := by have := h.wrd; rw [hn] at this; exact World.ownsRow.frozenAt this k
  have HI : Hid (Calls Tryd.prog 59 #[.slice (some ⟨g, 0, none⟩) n c, .func (.func 60) #[] #[]] w fun e w' => e = .returned (.int .i64 (k : Int)) ∧ w' = w) := idx_any hn h.wrd (by omega) hk hk0 hlt
  obtain ⟨x, hxe⟩ : ∃ x, ws.getD k 0 = x := ⟨_, rfl⟩
  rw [hxe] at ck hk0 hx hc1 hr ⊢
  have HZ : Hid (Calls Tryd.prog 61 #[.int .u64 (x : Int)] w fun e w' => e = .returned (.int .i64 ((Lib.ctz 64 x : Nat) : Int)) ∧ w' = w) := tz_any hT x hx hk0
  generalize Lib.ctz 64 x = b at *
  obtain ⟨h1, t1⟩ := h.setWord hn k r
  obtain ⟨w1, hw1⟩ : ∃ w1, w.setCell ⟨g, k, none⟩ (.int .u64 (r : Int)) = w1 := ⟨_, rfl⟩
  rw [hw1] at h1 t1
  have d3 := h1.cells.2.2.2.1
  have f3 := h1.blk.frozen 3
  have HF : Hid (Rw (w1.setCell ⟨B, 3, none⟩ (.int .i64 (many - 1))).drew B uv (.slice (some ⟨g, 0, none⟩) n c) size us (ws.set k r) (many - 1) gone missed ∧ Tn (bs3 B uv (.slice (some ⟨g, 0, none⟩) n c)) w (w1.setCell ⟨B, 3, none⟩ (.int .i64 (many - 1))).drew) := by
    refine ⟨(h1.setMany _).drew, ?_⟩
    have hB : B ∈ bs3 B uv (.slice (some ⟨g, 0, none⟩) n c) := mem_bs3.2 (.inl rfl)
    refine ((t1.mono ?_).setCell (.inl hB) _).drew
    intro j hj
    simp at hj
    subst hj
    exact mem_bs3.2 (.inr (.inr rfl))
  have hsh := shl_one b hc1
  obtain ⟨P, hP⟩ : ∃ P, 2 ^ b = P := ⟨_, rfl⟩
  rw [hP] at hsh hr
  have i2 : (k : Int) < (n : Int) := by omega
  have i3 : (0 : Int) ≤ (k : Int) := by omega
  have i4 : (b : Int) < 64 := by omega
  have i5 : (k : Int) ≤ 1048576 := by omega
  clear h h1 t1 hT hlt hn hxe hk0 hP
  go_enter Tryd.func51, Tryd.ntmps51
  go_wp2_with fail
  refine HI.out.mono ?_
  rintro e w9 ⟨rfl, rfl⟩
  go_wp2_with fail
  refine HZ.out.mono ?_
  rintro e w8 ⟨rfl, rfl⟩
  go_wp2_with fail
  go_region
  all_goals go_wp2
  all_goals go_ret
  all_goals exact ⟨ret_int (by omega), HF.out⟩

/-- Words are appended. -/
theorem Rw.wmore (h : Rw w B uv wv size us ws many gone missed) {v' : Value} {w' : World} {n k : Nat} (hn : ws.length = n) (hr : w'.ownsRow 0 100 1 v' (n + k) (wsCells ws ++ List.replicate k (.int .u64 0))) (hg : w.grownBy w' wv.ownBlock) (hb : v'.ownBlock = wv.ownBlock ∨ v'.ownBlock = some w.heap.size) :
    w'.cell? ⟨B, 2, none⟩ = some wv ∧ w'.frozen? ⟨B, 2, none⟩ = false ∧ Rw (w'.setCell ⟨B, 2, none⟩ v') B uv v' size us (ws ++ List.replicate k 0) many gone missed ∧ Tn (bs3 B uv wv) w (w'.setCell ⟨B, 2, none⟩ v') ∧ Nw w wv v' := by
  subst hn
  have t1 : Tn wv.ownBlock.toList w w' := grown_tn hg
  have hneB : B ∉ wv.ownBlock.toList := fun hm => (h.neW B (opt_toList.1 hm)).1 rfl
  have hB := h.blk.tn t1 hneB
  have hu' := owns_tn h.row t1 (fun k hk hm => (h.neU k hk).2.1 (opt_toList.1 hm))
  have hc' : ∀ (i c : Nat) (x : Int × Int) (n : Int), us[i]? = some (Pa.live c x n) → Ce w' c x n := fun i c x n hi => (h.cel i c x n hi).tn t1 (fun hm => (h.neC hi).2.2 (opt_toList.1 hm))
  have t2 : Tn [B] w' (w'.setCell ⟨B, 2, none⟩ v') := (Tn.refl [B] w').setCell (.inl (by simp)) _
  have hrow : (w'.setCell ⟨B, 2, none⟩ v').ownsRow 0 100 1 v' (ws ++ List.replicate k 0).length (wsCells (ws ++ List.replicate k 0)) := by
    have e1 : wsCells (ws ++ List.replicate k 0) = wsCells ws ++ List.replicate k (.int .u64 0) := by simp [wsCells]
    have e2 : (ws ++ List.replicate k 0).length = ws.length + k := by simp
    rw [e1, e2]
    refine owns_tn hr t2 (fun j hj => ?_)
    obtain ⟨cs, hcs⟩ := row_type hr j hj
    simpa using ne_type hcs hB (by decide)
  refine ⟨hB.cell 2, hB.frozen 2, ⟨hB.set 2 v', owns_tn hu' t2 (fun j hj hm => (h.neU j hj).1 (by simpa using hm)), hrow, fun i c x n hi => (hc' i c x n hi).tn t2 (by simpa using (h.neC hi).1), h.dis⟩, ?_, ?_⟩
  · refine (t1.mono (fun k hk => mem_bs3.2 (.inr (.inr (opt_toList.1 hk))))).trans t2 (fun k hk => .inl ?_)
    simp at hk
    subst hk
    exact mem_bs3.2 (.inl rfl)
  · intro j hj
    rcases hb with hb | hb
    · left; rw [← hb]; exact hj
    · right; rw [hb] at hj; cases hj; omega

set_option maxHeartbeats 2000000 in
/-- Where there is a word for it. -/
theorem add_tail (h : Rw w B uv wv size us ws many gone missed) (p : Nat) (hp : p < 65536) (hm0 : 0 ≤ many) (hm2 : many ≤ 65536) (hk : p / 64 < ws.length) (hnb : ws.length ≤ 1048576) (h64 : ∀ x ∈ ws, x < 18446744073709551616) :
    ∃ g n c P r x, wv = .slice (some ⟨g, 0, none⟩) n c ∧ ws.length = n ∧ p / 64 < n ∧ IntKind.u64.wrap ((2 : Int) ^ (p % 64)) = ((P : Nat) : Int) ∧ bits .or .u64 ((x : Nat) : Int) ((P : Nat) : Int) = ((r : Nat) : Int) ∧ w.cell? ⟨B, 2, none⟩ = some (.slice (some ⟨g, 0, none⟩) n c) ∧ w.cell? ⟨g, p / 64, none⟩ = some (.int .u64 (x : Int)) ∧ w.frozen? ⟨g, p / 64, none⟩ = false ∧
      ∃ w1, w.setCell ⟨g, p / 64, none⟩ (.int .u64 (r : Int)) = w1 ∧ w1.cell? ⟨B, 3, none⟩ = some (.int .i64 many) ∧ w1.frozen? ⟨B, 3, none⟩ = false ∧
        ∃ ws', (∀ q, bitAt ws' q = (bitAt ws q || decide (q = p))) ∧ ws'.length = ws.length ∧ (∀ x ∈ ws', x < 18446744073709551616) ∧ Rw (w1.setCell ⟨B, 3, none⟩ (.int .i64 (many + 1))).drew B uv wv size us ws' (many + 1) gone missed ∧ Tn (bs3 B uv wv) w (w1.setCell ⟨B, 3, none⟩ (.int .i64 (many + 1))).drew := by
  obtain ⟨g, c, rfl⟩ := row_some h.wrd (by omega)
  have hx : ws.getD (p / 64) 0 < 18446744073709551616 := by
    have : ws.getD (p / 64) 0 = ws[p / 64] := by simp [List.getD, hk]
    rw [this]
    exact h64 _ (List.getElem_mem hk)
  obtain ⟨r, hr, hr2, hr3⟩ := or_bit (ws.getD (p / 64) 0) (p % 64) hx (by omega)
  have hsh := shl_one (p % 64) (by omega)
  obtain ⟨h1, t1⟩ := h.setWord rfl (p / 64) r
  have hB : B ∈ bs3 B uv (.slice (some ⟨g, 0, none⟩) ws.length c) := mem_bs3.2 (.inl rfl)
  refine ⟨g, ws.length, c, 2 ^ (p % 64), r, ws.getD (p / 64) 0, rfl, rfl, hk, hsh, hr, h.cells.2.2.1, ws_cell rfl h.wrd _ hk, World.ownsRow.frozenAt h.wrd _, _, rfl, h1.cells.2.2.2.1, h1.blk.frozen 3, ws.set (p / 64) r, bitAt_put hk hr3, by simp, ?_, (h1.setMany _).drew, ?_⟩
  · intro y hy
    rcases List.mem_or_eq_of_mem_set hy with hy | hy
    · exact h64 y hy
    · rw [hy]; exact hr2
  · refine ((t1.mono ?_).setCell (.inl hB) _).drew
    intro j hj
    simp at hj
    subst hj
    exact mem_bs3.2 (.inr (.inr rfl))

set_option maxHeartbeats 4000000 in
theorem add_any (h : Rw w B uv wv size us ws many gone missed) (p : Nat) (hp : p < 65536) (hm0 : 0 ≤ many) (hm2 : many ≤ 65536) (hnb : ws.length ≤ 1024) (h64 : ∀ x ∈ ws, x < 18446744073709551616) :
    Calls Tryd.prog 42 #[.pointer (some ⟨B, 2, none⟩), .int .i64 (p : Int)] w fun e w' => e = .returned (.tuple #[]) ∧ ∃ wv' ws', (∀ q, bitAt ws' q = (bitAt ws q || decide (q = p))) ∧ ws'.length ≤ 1024 ∧ (∀ x ∈ ws', x < 18446744073709551616) ∧ Rw w' B uv wv' size us ws' (many + 1) gone missed ∧ Tn (bs3 B uv wv) w w' ∧ Nw w wv wv' := by
  have hq : (p : Int).tdiv 64 = ((p / 64 : Nat) : Int) := by rw [Int.tdiv_eq_ediv_of_nonneg (by omega)]; omega
  have hqm : (p : Int).tmod 64 = ((p % 64 : Nat) : Int) := by rw [Int.tmod_eq_emod_of_nonneg (by omega)]; omega
  have hq9 : p / 64 < 1024 := by omega
  have hmin : min (p % 64) 64 = p % 64 := by omega
  by_cases hk : p / 64 < ws.length
  · obtain ⟨g, n, c, P, r, x, rfl, hn, hkn, hsh, hor, c2, ck, fk, w1, hw1, d3, f3, ws', a1, a2, a3, a4, a5⟩ := add_tail h p hp hm0 hm2 hk (by omega) h64
    have HF : Hid (∃ wv' ws', (∀ q, bitAt ws' q = (bitAt ws q || decide (q = p))) ∧ ws'.length ≤ 1024 ∧ (∀ x ∈ ws', x < 18446744073709551616) ∧ Rw (w1.setCell ⟨B, 3, none⟩ (.int .i64 (many + 1))).drew B uv wv' size us ws' (many + 1) gone missed ∧ Tn (bs3 B uv (.slice (some ⟨g, 0, none⟩) n c)) w (w1.setCell ⟨B, 3, none⟩ (.int .i64 (many + 1))).drew ∧ Nw w (.slice (some ⟨g, 0, none⟩) n c) wv') := ⟨_, ws', a1, by omega, a3, a4, a5, fun k hk => .inl hk⟩
    have i2 : ((p / 64 : Nat) : Int) < (n : Int) := by omega
    have i3 : (0 : Int) ≤ ((p / 64 : Nat) : Int) := by omega
    have i4 : (0 : Int) ≤ ((p % 64 : Nat) : Int) := by omega
    have i5 : (n : Int) ≤ 1024 := by omega
    have i6 : ((p / 64 : Nat) : Int) + 1 ≤ (n : Int) := by omega
    clear h a1 a2 a3 a4 a5 h64 hk hkn hn
    generalize p / 64 = k at *
    generalize p % 64 = b at *
    go_enter Tryd.func42, Tryd.ntmps42
    go_wp2_with fail
    go_region
    all_goals go_wp2
    all_goals go_end0
    all_goals exact ⟨rfl, HF.out⟩
  · obtain ⟨m, hm⟩ : ∃ m, p / 64 + 1 - ws.length = m := ⟨_, rfl⟩
    have c2 := h.cells.2.2.1
    have hwv := h.wrd
    obtain ⟨q, cw, rfl, -⟩ := row_form h.wrd
    obtain ⟨v', w', hrun, r1, g1, b1⟩ := app_zeros 55 hwv m (by omega) (by omega)
    obtain ⟨d2, f2, h', t', n'⟩ := h.wmore rfl r1 g1 b1
    obtain ⟨w0, hw0⟩ : ∃ w0, w'.setCell ⟨B, 2, none⟩ v' = w0 := ⟨_, rfl⟩
    rw [hw0] at h' t'
    have h64' : ∀ x ∈ ws ++ List.replicate m 0, x < 18446744073709551616 := by
      intro x hx
      rcases List.mem_append.1 hx with hx | hx
      · exact h64 x hx
      · rw [List.eq_of_mem_replicate hx]; decide
    obtain ⟨g, n, c, P, r, x, rfl, hn, hkn, hsh, hor, c2', ck, fk, w1, hw1, d3, f3, ws', a1, a2, a3, a4, a5⟩ := add_tail h' p hp hm0 hm2 (by simp; omega) (by simp; omega) h64'
    have HF : Hid (∃ wv' ws', (∀ q, bitAt ws' q = (bitAt ws q || decide (q = p))) ∧ ws'.length ≤ 1024 ∧ (∀ x ∈ ws', x < 18446744073709551616) ∧ Rw (w1.setCell ⟨B, 3, none⟩ (.int .i64 (many + 1))).drew B uv wv' size us ws' (many + 1) gone missed ∧ Tn (bs3 B uv (.slice q ws.length cw)) w (w1.setCell ⟨B, 3, none⟩ (.int .i64 (many + 1))).drew ∧ Nw w (.slice q ws.length cw) wv') := by
      refine ⟨_, ws', fun q => by rw [a1, bitAt_more], by rw [a2]; simp; omega, a3, a4, ?_, n'⟩
      refine t'.trans a5 (fun y hy => ?_)
      rcases mem_bs3.1 hy with hh | hh | hh
      · exact .inl (mem_bs3.2 (.inl hh))
      · exact .inl (mem_bs3.2 (.inr (.inl hh)))
      · exact (n' y hh).imp (fun hx => mem_bs3.2 (.inr (.inr hx))) id
    have HR : Hid ((Builtin.append_ #[55, 3] 55 #[.slice q ws.length cw, .int .i64 (m : Int)]).run Tryd.prog w = .ok (.slice (some ⟨g, 0, none⟩) n c) w') := hrun
    obtain ⟨ul, hul⟩ : ∃ ul, ws.length = ul := ⟨_, rfl⟩
    have i2 : ((p / 64 : Nat) : Int) < (n : Int) := by omega
    have i3 : (0 : Int) ≤ ((p / 64 : Nat) : Int) := by omega
    have i4 : (0 : Int) ≤ ((p % 64 : Nat) : Int) := by omega
    have i5 : (ul : Int) ≤ 1024 := by omega
    have i6 : (ul : Int) < ((p / 64 : Nat) : Int) + 1 := by omega
    have i7 : ((p / 64 : Nat) : Int) + 1 - (ul : Int) = (m : Int) := by omega
    rw [hul] at c2 HR HF ⊢
    clear h a1 a2 a3 a4 a5 h64 h64' hk hkn hn hrun r1 g1 b1 h' t' n' hwv hul hm
    generalize p / 64 = k at *
    generalize p % 64 = b at *
    go_enter Tryd.func42, Tryd.ntmps42
    go_wp2_with (at_builtin; refine Lib.wpList_append_run _ rfl _ _ 55 3 rfl _ _ rfl rfl _ _ HR.out ?_)
    go_region
    all_goals go_wp2
    all_goals go_end0
    all_goals exact ⟨rfl, HF.out⟩

/-- The lowest number that waits. -/
theorem lowest_old (h : Rw w B uv wv size us ws many gone missed) (hm1 : 1 ≤ many) (hm2 : many ≤ 65536) (hnb : ws.length ≤ 1024) (h64 : ∀ x ∈ ws, x < 18446744073709551616) {q : Nat} (hq : bitAt ws q = true) (hT : Tab w) :
    ∃ p ws', bitAt ws p = true ∧ (∀ i, i < p → bitAt ws i = false) ∧ (∀ i, bitAt ws' i = (bitAt ws i && decide (i ≠ p))) ∧ ws'.length = ws.length ∧ (∀ x ∈ ws', x < 18446744073709551616) ∧
      ∀ v, Below w.heap.size w v → Calls Tryd.prog 37 #[.pointer (some ⟨B, 0, none⟩)] v fun e w' => e = .returned (.int .i64 (p : Int)) ∧ ∃ uv', Rw w' B uv' wv size us ws' (many - 1) gone missed ∧ Tn (bs3 B uv wv) v w' ∧ Nw v uv uv' := by
  obtain ⟨k, hk, hk0, hlt, hx, hb1, hb2, hc⟩ := lowest_bitAt h64 hq
  obtain ⟨r, hr, hr2, hr3⟩ := andNot_bit (ws.getD k 0) (Lib.ctz 64 (ws.getD k 0)) hx hc
  have hp1 : (k * 64 + Lib.ctz 64 (ws.getD k 0)) / 64 = k := by omega
  have hp2 : (k * 64 + Lib.ctz 64 (ws.getD k 0)) % 64 = Lib.ctz 64 (ws.getD k 0) := by omega
  refine ⟨k * 64 + Lib.ctz 64 (ws.getD k 0), ws.set k r, hb1, hb2, fun i => ?_, by simp, ?_, fun v hv => ?_⟩
  · have := bitAt_clear (ws := ws) (q := k * 64 + Lib.ctz 64 (ws.getD k 0)) (r := r) (by rw [hp1]; exact hk) (by rw [hp1, hp2]; exact hr3) i
    rw [hp1] at this
    exact this
  · intro y hy
    rcases List.mem_or_eq_of_mem_set hy with hy | hy
    · exact h64 y hy
    · rw [hy]; exact hr2
  · have hv' := h.below hv
    have c3 := hv'.cells.2.2.2.1
    have HT : Hid (Calls Tryd.prog 51 #[.pointer (some ⟨B, 2, none⟩)] v fun e w' => e = .returned (.int .i64 ((k * 64 + Lib.ctz 64 (ws.getD k 0) : Nat) : Int)) ∧ Rw w' B uv wv size us (ws.set k r) (many - 1) gone missed ∧ Tn (bs3 B uv wv) v w') := take_any hv' (hT.below hv) (by omega) hm1 hm2 hk hk0 hlt hx hr
    have hm : 0 < many := by omega
    generalize k * 64 + Lib.ctz 64 (ws.getD k 0) = p at *
    clear h hv' hT hb1 hb2 hr hr2 hr3 hlt hk0 hx hc hp1 hp2 hq
    go_enter Tryd.func37, Tryd.ntmps37
    go_wp2_with fail
    refine HT.out.mono ?_
    rintro e w1 ⟨rfl, h1, t1⟩
    have HE : Hid _ := And.intro h1 t1
    clear h1 t1
    go_wp2
    go_ret
    exact ⟨rfl, uv, HE.out.1, HE.out.2, fun j hj => .inl hj⟩

set_option maxHeartbeats 1000000 in
theorem release_gone (h : Rw w B uv wv size us ws many gone missed) (hs : 0 < size) (hul : us.length ≤ 65536) (hm0 : 0 ≤ many) (hm2 : many ≤ 65536) (hg1 : 1 ≤ gone) (hg2 : gone ≤ 65536) (hnb : ws.length ≤ 1024) (h64 : ∀ x ∈ ws, x < 18446744073709551616) {i : Nat} (hi : us[i]? = some Pa.gone) :
    Calls Tryd.prog 17 #[.pointer (some ⟨B, 0, none⟩), .int .i64 (i : Int)] w fun e w' => e = .returned (.int .i64 0) ∧ ∃ wv' ws', (∀ q, bitAt ws' q = (bitAt ws q || decide (q = i))) ∧ ws'.length ≤ 1024 ∧ (∀ x ∈ ws', x < 18446744073709551616) ∧ Rw w' B uv wv' size (us.set i .free) ws' (many + 1) (gone - 1) missed ∧ Tn (bs3 B uv wv) w w' ∧ Nw w wv wv' := by
  have HH : Hid _ := h
  have HI : Hid ((pgAt us (i : Int)).st = 2) := by show _ = _; rw [pgAt_some hi]; rfl
  have hlt : i < us.length := (List.getElem?_eq_some_iff.1 hi).1
  obtain ⟨c0, c1, -⟩ := h.cells
  obtain ⟨g, cap, rfl, -, e0, e1, fg⟩ := h.entry hi
  generalize hulq : us.length = ul at *
  have f0 := fg (i * 2)
  have f1 := fg (i * 2 + 1)
  obtain ⟨h1, t1⟩ := h.setEntry hulq hlt .free (fun k x m hk => by cases hk)
  obtain ⟨w1, hw1⟩ : ∃ w1, (w.setCell ⟨g, i * 2, none⟩ (.int .i64 0)).setCell ⟨g, i * 2 + 1, none⟩ (.pointer none) = w1 := ⟨_, rfl⟩
  have h1' : Rw w1 B (.slice (some ⟨g, 0, none⟩) ul cap) wv size (us.set i .free) ws many gone missed := by rw [← hw1]; exact h1
  have t1' : Tn [g] w w1 := by rw [← hw1]; exact t1
  obtain ⟨-, k1, -, -, k4, -⟩ := h1'.cells
  have f4 := h1'.blk.frozen 4
  have e0' : w.cell? ⟨g, i * 2, none⟩ = some (.int .i64 2) := e0
  have e1' : w.cell? ⟨g, i * 2 + 1, none⟩ = some (.pointer none) := e1
  have h2 := h1'.setGone (gone - 1)
  have t2 : Tn [g, B] w (w1.setCell ⟨B, 4, none⟩ (.int .i64 (gone - 1))) := (t1'.mono (by simp)).setCell (.inl (by simp)) _
  have HF : Hid (Calls Tryd.prog 42 #[.pointer (some ⟨B, 2, none⟩), .int .i64 (i : Int)] (w1.setCell ⟨B, 4, none⟩ (.int .i64 (gone - 1))) fun e w' => e = .returned (.tuple #[]) ∧ ∃ wv' ws', (∀ q, bitAt ws' q = (bitAt ws q || decide (q = i))) ∧ ws'.length ≤ 1024 ∧ (∀ x ∈ ws', x < 18446744073709551616) ∧ Rw w' B (.slice (some ⟨g, 0, none⟩) ul cap) wv' size (us.set i .free) ws' (many + 1) (gone - 1) missed ∧ Tn (bs3 B (.slice (some ⟨g, 0, none⟩) ul cap) wv) w w' ∧ Nw w wv wv') := by
    refine (add_any h2 i (by omega) hm0 hm2 hnb h64).mono ?_
    rintro e w' ⟨he, wv', ws', b1, b2, b3, b4, b5, b6⟩
    refine ⟨he, wv', ws', b1, b2, b3, b4, ?_, fun k hk => (b6 k hk).imp id (fun hh => Nat.le_trans t2.size hh)⟩
    refine (t2.mono ?_).trans b5 (fun x hx => .inl hx)
    intro x hx
    simp at hx
    rcases hx with rfl | rfl
    · exact mem_bs3.2 (.inr (.inl rfl))
    · exact mem_bs3.2 (.inl rfl)
  have i2 : (i : Int) < (ul : Int) := by omega
  have i3 : (0 : Int) ≤ (i : Int) := by omega
  clear h h1 t1 h1' t1' e0 e1 fg hi hulq hlt h2 t2 h64
  go_enter Tryd.func17, Tryd.ntmps17
  go_wp2_with fail
  refine (check_ok HH.out hs _ 2 HI.out).mono ?_
  rintro e w9 ⟨rfl, rfl⟩
  go_wp2_with fail
  refine HF.out.mono ?_
  rintro e w8 ⟨rfl, hr⟩
  have HE : Hid _ := hr
  clear hr
  go_wp2
  go_ret
  exact ⟨rfl, HE.out⟩
end
end Go.Proofs.YtnjafmjkaajbkaaDoor
