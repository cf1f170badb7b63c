/- Slots wait, and are taken. -/
import Derived.Test.YtoehlgigidgfpaaGreatAgDown
namespace Go.Proofs.YtoehlgigidgfpaaGreat
open Go.RowKit
set_option linter.unusedVariables false
set_option maxRecDepth 100000

theorem Nw.refl (w : World) (v : Value) : Nw w v v := fun k h => .inl h

theorem nums_snoc (l : List Nat) (n : Nat) : nums (l ++ [n]) = nums l ++ [.int .i64 (n : Int)] := by simp [nums]

set_option maxHeartbeats 1000000 in
/-- A number more. -/
theorem push_any {w : World} {B : Nat} {t : TypeId} {c0 c1 c3 v : Value} {l : List Nat} (h : Wt w B t c0 c1 c3 v l) (n : Nat) (hl : l.length < 65536) :
    Calls Tryz.prog 239 #[.pointer (some ⟨B, 2, none⟩), .iface 3 (.int .i64 n)] w fun e w' => e = .returned (.tuple #[]) ∧ ∃ v', Wt w' B t c0 c1 c3 v' (l ++ [n]) ∧ Tn (B :: v.ownBlock.toList) w w' ∧ Nw w v v' := by
  have c2 := h.cell
  have HW : Hid (Wt w B t c0 c1 c3 v l) := h
  have HR : Hid ((w.alloc (.cells #[.int .i64 (n : Int)] 3)).ownsRow 0 3 1 v l.length (nums l)) := World.ownsRow.alloc h.row _
  clear h
  have hta : ∀ (x : Int) (w : World), (Instr.typeAssert (.iface 3 (.int .i64 x)) 20 3 true).run Tryz.prog w = .ok (.tuple #[.int .i64 x, .bool true]) w := fun x w => by kernel_rfl
  go_enter Tryz.func239, Tryz.ntmps239
  go_wp2_with (at_builtin; refine appX _ rfl _ _ _ rfl 3 (.int .i64 0) 1 8 Tryz.underlying94 intinfo rfl (by decide) v l.length (nums l) rfl HR.out (some ⟨w.heap.size, 0, none⟩) 1 1 [.int .i64 (n : Int)] rfl rfl ?_ ?_ ?_ (by unfold maxLen; omega) (by omega) ?_)
  · exact news_alloc w [.int .i64 (n : Int)] 3
  · intro u hu
    simp only [List.mem_cons, List.not_mem_nil, or_false] at hu
    subst hu
    rfl
  · intro h
    cases h
  · intro v' w1 hrow hg hblk
    obtain ⟨g', k', rfl⟩ := row_some hrow (by omega)
    have ht1 : Tn v.ownBlock.toList w w1 := ((Tn.refl _ w).alloc _).grown hg (fun k hk => .inl (opt_toList.2 hk))
    have hB1 : Bk w1 B t #[c0, c1, v, c3] := HW.out.blk.tn ht1 (fun hm => HW.out.ne B (opt_toList.1 hm) rfl)
    have d2 : w1.cell? ⟨B, 2, none⟩ = some v := hB1.cell 2
    have f2 : w1.frozen? ⟨B, 2, none⟩ = false := hB1.frozen 2
    have hnw : Nw w v (.slice (some ⟨g', 0, none⟩) (l.length + 1) k') := by
      intro k hk
      rcases hblk with hb | hb
      · exact .inl (by rw [← hb]; exact hk)
      · rw [hb] at hk
        simp at hk
        exact .inr (by omega)
    have hne : ∀ k, (Value.slice (some ⟨g', 0, none⟩) (l.length + 1) k').ownBlock = some k → k ≠ B := by
      intro k hk
      rcases hnw k hk with h | h
      · exact HW.out.ne k h
      · have := HW.out.blk.lt
        omega
    have ht2 : Tn [B] w1 (w1.setCell ⟨B, 2, none⟩ (.slice (some ⟨g', 0, none⟩) (l.length + 1) k')) := (Tn.refl _ _).setCell (.inl (by simp)) _
    have HE : Hid (Wt (w1.setCell ⟨B, 2, none⟩ (.slice (some ⟨g', 0, none⟩) (l.length + 1) k')) B t c0 c1 c3 (.slice (some ⟨g', 0, none⟩) (l.length + 1) k') (l ++ [n]) ∧ Tn (B :: v.ownBlock.toList) w (w1.setCell ⟨B, 2, none⟩ (.slice (some ⟨g', 0, none⟩) (l.length + 1) k')) ∧ Nw w v (.slice (some ⟨g', 0, none⟩) (l.length + 1) k')) := by
      refine ⟨⟨hB1.set 2 (.slice (some ⟨g', 0, none⟩) (l.length + 1) k'), ?_, hne, by simp; omega⟩, (ht1.mono (by intro x hx; exact List.mem_cons_of_mem _ hx)).trans ht2 (by intro x hx; exact .inl (by simp at hx; simp [hx])), hnw⟩
      unfold Nr
      rw [nums_snoc, List.length_append]
      exact owns_tn hrow ht2 (fun k hk hm => hne k hk (by simpa using hm))
    clear hB1 hnw hne hrow hg hblk ht1 ht2 HW HR c2
    go_wp2
    go_end0
    exact ⟨rfl, _, HE.out⟩

set_option maxHeartbeats 1000000 in
/-- The last one is taken. -/
theorem pop_any {w : World} {B : Nat} {t : TypeId} {c0 c1 c3 v : Value} {l : List Nat} (n : Nat) (h : Wt w B t c0 c1 c3 v l) (hl : l.length = n + 1) :
    Calls Tryz.prog 238 #[.pointer (some ⟨B, 2, none⟩)] w fun e w' => e = .returned (.iface 3 (.int .i64 (Hq.at' l n))) ∧ ∃ v', Wt w' B t c0 c1 c3 v' (l.take n) ∧ Tn [B] w w' ∧ v'.ownBlock = v.ownBlock := by
  obtain ⟨g, c, rfl, hc, hcm⟩ := h.row.has (by omega)
  have c2 := h.cell
  have f2 : w.frozen? ⟨B, 2, none⟩ = false := h.blk.frozen 2
  have cl := h.row.cell rfl n (by omega)
  have hn : n < 65536 := by have := h.len; omega
  have ht2 : Tn [B] w (w.setCell ⟨B, 2, none⟩ (.slice (some ⟨g, 0, none⟩) n c)) := (Tn.refl _ _).setCell (.inl (by simp)) _
  have HE : Hid (Wt (w.setCell ⟨B, 2, none⟩ (.slice (some ⟨g, 0, none⟩) n c)) B t c0 c1 c3 (.slice (some ⟨g, 0, none⟩) n c) (l.take n) ∧ Tn [B] w (w.setCell ⟨B, 2, none⟩ (.slice (some ⟨g, 0, none⟩) n c))) := by
    refine ⟨⟨h.blk.set 2 _, ?_, h.ne, by simp; omega⟩, ht2⟩
    have hr := h.row
    have hlt : (l.take n).length = n := by simp; omega
    unfold Nr at hr ⊢
    rw [hlt]
    have := owns_tn hr ht2 (fun k hk hm => h.ne k hk (by simpa using hm))
    refine ⟨by simp [nums, hl], .inr ?_⟩
    rcases this.2 with ⟨e, _⟩ | ⟨g', cap, cur, e, h0, hg, h1, h2, h3, h4⟩
    · cases e
    · cases e
      refine ⟨g, c, cur, rfl, h0, hg, by omega, h2, h3, ?_⟩
      have e1 : nums (l.take n) = (nums l).take n := by simp [nums, List.map_take]
      rw [e1, ← h4, List.take_take]
      congr 1
      omega
  rw [hl] at c2 hc
  rw [hl]
  clear h ht2
  go_enter Tryz.func238, Tryz.ntmps238
  go_wp2
  go_ret
  exact ⟨rfl, _, HE.out.1, HE.out.2, rfl⟩
end Go.Proofs.YtoehlgigidgfpaaGreat
