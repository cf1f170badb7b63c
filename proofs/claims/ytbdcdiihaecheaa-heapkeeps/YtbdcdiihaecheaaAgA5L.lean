/- Arenas of links: the lowest free slot. -/
import Derived.Test.YtbdcdiihaecheaaAgA4L

namespace Go.Proofs.Ytbdcdiihaecheaa
open Go.RowKit
set_option linter.unusedVariables false
set_option maxRecDepth 100000
set_option linter.unusedSectionVars false
variable [Inhabited Cl] [Inhabited Ln]

theorem slinfoL : (Try.prog.info? 144).map (fun i => (i.zero, i.size, i.bytes)) = some (some (.agg #[.int .i64 0, .bool false, .int .i64 0, .string ⟨#[]⟩, .bool false, .int .i64 0, .int .i64 0]), 7, 64) := by kernel_rfl

set_option maxHeartbeats 1000000 in
theorem lowTakeL {w : World} {B : Nat} {uv fv : Value} {fr : List Nat} {a : Ar Ln} (h : IsAr Ln.cells 5 tAL tSL w B uv fv fr a) (h0 : 0 < fr.length) :
    Calls Try.prog 70 #[.pointer (some ⟨B, 0, none⟩)] w fun e w' => e = .returned (.int .i64 (low a.us)) ∧ ∃ fv' fr', Mid Ln.cells 5 tAL tSL w' B uv fv' fr' a.size a.stale a.us (low a.us) ∧ Tn (B :: fv.ownBlock.toList) w w' ∧ Nw w fv fv' := by
  obtain ⟨c0, c1, c2, c3⟩ := h.four
  obtain ⟨p, c, rfl⟩ := h.fform
  have hl := low_heap h.hp h.perm h0
  obtain ⟨m, hm⟩ : ∃ m, fr.length = m + 1 := ⟨fr.length - 1, by omega⟩
  have HI : Hid (IsAr Ln.cells 5 tAL tSL w B uv (.slice p fr.length c) fr a) := h
  clear h
  have HT : Hid (Calls Try.prog 81 #[.pointer (some ⟨B, 2, none⟩)] w fun e w' => e = .returned (.int .i64 (low a.us)) ∧ Waits w w' B tAL (.int .i64 a.size) uv (.int .i64 a.stale) (.slice p fr.length c) (fun l' => (l' ++ [low a.us]).Perm fr)) := by
    have := take_any m HI.out.wt HI.out.hp hm
    rw [hl.1] at this
    exact this
  have hle : fr.length ≤ 65536 := HI.out.wt.len
  have hpos : (0 : Int) < (fr.length : Int) := by omega
  go_enter Try.func70, Try.ntmps70
  go_wp2_with fail
  refine HT.out.mono ?_
  rintro e w1 ⟨rfl, fv', fr', hwt, hp, hperm, ht, hnw⟩
  have HE : Hid (Mid Ln.cells 5 tAL tSL w1 B uv fv' fr' a.size a.stale a.us (low a.us) ∧ Tn (B :: (Value.slice p fr.length c).ownBlock.toList) w w1 ∧ Nw w (Value.slice p fr.length c) fv') := by
    refine ⟨?_, ht, hnw⟩
    exact {
      wt := hwt
      row := owns_tn HI.out.row ht (fun k hk hmem => by
        simp only [List.mem_cons, opt_toList] at hmem
        rcases hmem with hmem | hmem
        · exact HI.out.ne1 k hk hmem
        · exact HI.out.ne2 k hk hmem)
      ne1 := HI.out.ne1
      ne2 := fun k hk e => by
        rcases hnw k e with h1 | h1
        · exact HI.out.ne2 k hk h1
        · have := row_block HI.out.row k hk
          omega
      hp := hp
      perm := fun s hs => freeOf_take hl.2 hs (low_free hl.2).1 HI.out.perm hperm
      hi := hl.2 }
  clear HT HI hwt hp hperm ht hnw c0 c1 c2 c3
  go_wp2
  go_ret
  exact ⟨rfl, fv', fr', HE.out⟩

set_option maxHeartbeats 1000000 in
theorem lowNewL {w : World} {B : Nat} {uv fv : Value} {a : Ar Ln} (h : IsAr Ln.cells 5 tAL tSL w B uv fv [] a) (hlt : a.us.length < a.size) :
    Calls Try.prog 70 #[.pointer (some ⟨B, 0, none⟩)] w fun e w' => e = .returned (.int .i64 a.us.length) ∧ ∃ uv', Mid Ln.cells 5 tAL tSL w' B uv' fv [] a.size a.stale (a.us ++ [⟨0, false, Ln.zero⟩]) a.us.length ∧ Tn (B :: uv.ownBlock.toList) w w' ∧ Nw w uv uv' := by
  obtain ⟨c0, c1, c2, c3⟩ := h.four
  obtain ⟨p, c, rfl⟩ := h.fform
  have HI : Hid (IsAr Ln.cells 5 tAL tSL w B uv (.slice p 0 c) [] a) := h
  have hs2 := h.s2
  have HR : Hid ((w.alloc (.cells #[.int .i64 0, .bool false, .int .i64 0, .string ⟨#[]⟩, .bool false, .int .i64 0, .int .i64 0] 144)).ownsRow 0 144 7 uv a.us.length (flat (slc Ln.cells) a.us)) := World.ownsRow.alloc h.row _
  clear h
  simp only [List.length_nil] at c2
  go_enter Try.func70, Try.ntmps70
  go_wp2_with (at_builtin; refine appX _ rfl _ _ _ rfl 144 (.agg #[.int .i64 0, .bool false, .int .i64 0, .string ⟨#[]⟩, .bool false, .int .i64 0, .int .i64 0]) 7 64 Try.underlying132 slinfoL rfl (by decide) uv a.us.length (flat (slc Ln.cells) a.us) rfl HR.out (some ⟨w.heap.size, 0, none⟩) 1 1 [.int .i64 0, .bool false, .int .i64 0, .string ⟨#[]⟩, .bool false, .int .i64 0, .int .i64 0] rfl rfl ?_ ?_ ?_ (by unfold maxLen; omega) (by omega) ?_)
  · exact news_alloc w [.int .i64 0, .bool false, .int .i64 0, .string ⟨#[]⟩, .bool false, .int .i64 0, .int .i64 0] 144
  · intro u hu
    simp only [List.mem_cons, List.not_mem_nil, or_false] at hu
    rcases hu with rfl | rfl | rfl | rfl | rfl | rfl | rfl <;> rfl
  · intro h
    cases h
  · intro v' w1 hrow hg hblk
    obtain ⟨g', k', rfl⟩ := row_some hrow (by omega)
    have ht1 : Tn uv.ownBlock.toList w w1 := ((Tn.refl _ w).alloc _).grown hg (fun k hk => .inl (opt_toList.2 hk))
    have hB1 : Bk w1 B tAL #[.int .i64 a.size, uv, .slice p 0 c, .int .i64 a.stale] := HI.out.wt.blk.tn ht1 (fun hm => HI.out.ne1 B (opt_toList.1 hm) rfl)
    have d1 : w1.cell? ⟨B, 1, none⟩ = some uv := hB1.cell 1
    have f1 : w1.frozen? ⟨B, 1, none⟩ = false := hB1.frozen 1
    have hnw : Nw w uv (.slice (some ⟨g', 0, none⟩) (a.us.length + 1) k') := by
      intro k hk
      rcases hblk with hb | hb
      · exact .inl (by rw [← hb]; exact hk)
      · rw [hb] at hk
        simp at hk
        exact .inr (by omega)
    have hne : g' ≠ B := by
      rcases hnw g' rfl with h | h
      · exact HI.out.ne1 g' h
      · have := HI.out.wt.blk.lt
        omega
    have ht2 : Tn [B] w1 (w1.setCell ⟨B, 1, none⟩ (.slice (some ⟨g', 0, none⟩) (a.us.length + 1) k')) := (Tn.refl _ _).setCell (.inl (by simp)) _
    have hB2 : Bk (w1.setCell ⟨B, 1, none⟩ (.slice (some ⟨g', 0, none⟩) (a.us.length + 1) k')) B tAL #[.int .i64 a.size, .slice (some ⟨g', 0, none⟩) (a.us.length + 1) k', .slice p 0 c, .int .i64 a.stale] := hB1.set 1 _
    have e1 : (w1.setCell ⟨B, 1, none⟩ (.slice (some ⟨g', 0, none⟩) (a.us.length + 1) k')).cell? ⟨B, 1, none⟩ = some (.slice (some ⟨g', 0, none⟩) (a.us.length + 1) k') := hB2.cell 1
    have HE : Hid (Mid Ln.cells 5 tAL tSL (w1.setCell ⟨B, 1, none⟩ (.slice (some ⟨g', 0, none⟩) (a.us.length + 1) k')) B (.slice (some ⟨g', 0, none⟩) (a.us.length + 1) k') (.slice p 0 c) [] a.size a.stale (a.us ++ [⟨0, false, Ln.zero⟩]) a.us.length ∧ Tn (B :: uv.ownBlock.toList) w (w1.setCell ⟨B, 1, none⟩ (.slice (some ⟨g', 0, none⟩) (a.us.length + 1) k')) ∧ Nw w uv (.slice (some ⟨g', 0, none⟩) (a.us.length + 1) k')) := by
      refine ⟨?_, (ht1.mono (by intro x hx; exact List.mem_cons_of_mem _ hx)).trans ht2 (by intro x hx; exact .inl (by simp at hx; simp [hx])), hnw⟩
      exact {
        wt := ⟨hB2, (HI.out.wt.row.tn ht1 (fun k hk hm => HI.out.ne2 k (opt_toList.1 hm) hk)).tn ht2 (fun k hk hm => HI.out.wt.ne k hk (by simpa using hm)), HI.out.wt.ne, HI.out.wt.len⟩
        row := by
          rw [flat_append, flat_single, List.length_append]
          exact owns_tn hrow ht2 (fun k hk hm => by cases hk; simp at hm; exact hne hm)
        ne1 := fun k hk => by cases hk; exact hne
        ne2 := fun k hk e => by
          cases hk
          rcases hnw g' rfl with h | h
          · exact HI.out.ne2 g' h e
          · have := row_block HI.out.wt.row g' e
            omega
        hp := HI.out.hp
        perm := fun s hs => by
          have : (a.us ++ [(⟨0, false, Ln.zero⟩ : Sl Ln)]).set a.us.length s = a.us ++ [s] := by simp
          rw [this, freeOf_new hs]
          exact HI.out.perm
        hi := by simp }
    clear hB1 hB2 hnw hne hrow hg hblk ht1 ht2 HI HR c0 c1 c2 c3
    go_wp2
    go_ret
    exact ⟨by simp, _, HE.out⟩

/-- A slot is chosen. -/
theorem lowestL {w : World} {B : Nat} {uv fv : Value} {fr : List Nat} {a : Ar Ln} (h : IsAr Ln.cells 5 tAL tSL w B uv fv fr a) (hlt : live a.us < a.size) :
    Calls Try.prog 70 #[.pointer (some ⟨B, 0, none⟩)] w fun e w' => e = .returned (.int .i64 (low a.us)) ∧ ∃ uv' fv' fr', Mid Ln.cells 5 tAL tSL w' B uv' fv' fr' a.size a.stale (opened a.us Ln.zero) (low a.us) ∧ Tn (bsOf B uv fv) w w' ∧ Nw w uv uv' ∧ Nw w fv fv' := by
  by_cases h0 : 0 < fr.length
  · refine (lowTakeL h h0).mono ?_
    rintro e w1 ⟨rfl, fv', fr', hm, ht, hn⟩
    have hl := low_heap h.hp h.perm h0
    refine ⟨rfl, uv, fv', fr', ?_, ht.mono ?_, Nw.refl _ _, hn⟩
    · unfold opened
      rw [if_pos hl.2]
      exact hm
    · intro x hx
      simp only [List.mem_cons, opt_toList] at hx
      rcases hx with rfl | hx
      · exact mem_bsOf.2 (.inl rfl)
      · exact mem_bsOf.2 (.inr (.inr hx))
  · obtain rfl : fr = [] := List.eq_nil_of_length_eq_zero (by omega)
    have hfree : freeOf a.us = [] := by
      have := h.perm.length_eq
      exact List.eq_nil_of_length_eq_zero (by simpa using this.symm)
    have hlow := low_none hfree
    have hlive : live a.us = a.us.length := by
      have := live_free a.us
      rw [hfree] at this
      simpa using this
    refine (lowNewL h (by omega)).mono ?_
    rintro e w1 ⟨rfl, uv', hm, ht, hn⟩
    refine ⟨by rw [hlow], uv', fv, [], ?_, ht.mono ?_, hn, Nw.refl _ _⟩
    · unfold opened
      rw [if_neg (by omega), hlow]
      exact hm
    · intro x hx
      simp only [List.mem_cons, opt_toList] at hx
      rcases hx with rfl | hx
      · exact mem_bsOf.2 (.inl rfl)
      · exact mem_bsOf.2 (.inr (.inl hx))
end Go.Proofs.Ytbdcdiihaecheaa
