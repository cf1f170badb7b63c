/- A table is made; is a page given, and its head swapped? -/
import Derived.Test.YtnjafmjkaajbkaaDoorTbC
namespace Go.Proofs.YtnjafmjkaajbkaaDoor
open Go.RowKit
set_option linter.unusedVariables false
set_option maxRecDepth 100000

theorem new_ok (n : Int) (h1 : 1 ≤ n) (h2 : n ≤ 65536) (w : World) : Calls Tryd.prog 7 #[.int .i64 n] w fun e w' => e = .returned (.tuple #[.pointer (some ⟨w.heap.size, 0, none⟩), .int .i64 0]) ∧ Rw w' w.heap.size (.slice none 0 0) (.slice none 0 0) n [] [] 0 0 0 ∧ Below w.heap.size w w' := by
  have HF : Hid (Rw (w.alloc (.cells #[.int .i64 n, .slice none 0 0, .slice none 0 0, .int .i64 0, .int .i64 0, .int .i64 0] 64)) w.heap.size (.slice none 0 0) (.slice none 0 0) n [] [] 0 0 0 ∧ Below w.heap.size w (w.alloc (.cells #[.int .i64 n, .slice none 0 0, .slice none 0 0, .int .i64 0, .int .i64 0, .int .i64 0] 64))) :=
    ⟨⟨Bk.new _ _ _, World.ownsRow_nil _ _ _ _, World.ownsRow_nil _ _ _ _, fun i c h n hi => by simp at hi, fun i j c h n h' n' hi => by simp at hi⟩, (Below.refl _ w).alloc (Nat.le_refl _) _⟩
  have g1 : ¬ n < 1 := by omega
  have g2 : ¬ (65536 : Int) < n := by omega
  clear h1 h2
  go_enter Tryd.func7, Tryd.ntmps7
  go_wp2
  go_ret2
  exact ⟨rfl, HF.out⟩

theorem new_bad (n : Int) (h : n < 1 ∨ 65536 < n) (w : World) : Calls Tryd.prog 7 #[.int .i64 n] w fun e w' => e = .returned (.tuple #[.pointer none, .int .i64 1]) ∧ w' = w := by
  by_cases g1 : n < 1
  · clear h
    go_enter Tryd.func7, Tryd.ntmps7
    go_wp2
    go_ret2
    exact ⟨rfl, rfl⟩
  · have g2 : (65536 : Int) < n := by omega
    clear h
    go_enter Tryd.func7, Tryd.ntmps7
    go_wp2
    go_ret2
    exact ⟨rfl, rfl⟩

/-- The first page. -/
theorem alloc_first {w : World} {B : Nat} {size : Int} (h : Rw w B (.slice none 0 0) (.slice none 0 0) size [] [] 0 0 0) (hs : 0 < size) (hsz : size ≤ 65536) (b : Int × Int) (hb : b ≠ (0, 0)) :
    Calls Tryd.prog 14 #[.pointer (some ⟨B, 0, none⟩), hv b] w fun e w' => e = .returned (.tuple #[.int .i64 0, .int .i64 0]) ∧ ∃ uv' c, Rw w' B uv' (.slice none 0 0) size [.live c b 0] [] 0 0 0 ∧ Tn [B] w w' ∧ w.heap.size ≤ c ∧ ∀ k, uv'.ownBlock = some k → w.heap.size ≤ k := by
  have hlow := fun v (hv : Below w.heap.size w v) => lowest_new (h.below hv) (by simp)
  have key := alloc_of (p := 0) (us' := [] ++ [.free]) (ws' := []) (many' := 0) h hs (by simp) (by simp) (by simp) (by simp) (by simp) b hb (by simp; omega) hsz rfl hlow
  refine key.mono ?_
  rintro e w' ⟨rfl, uv', c, h1, h2, h3, h4⟩
  refine ⟨rfl, uv', c, h1, h2.mono (by intro x hx; rcases mem_bs3.1 hx with rfl | hh | hh; exact List.mem_singleton.2 rfl; cases hh; cases hh), h4, fun k hk => ?_⟩
  rcases h3 k hk with hh | hh
  · cases hh
  · exact hh

set_option maxHeartbeats 2000000 in
theorem begun_any (w : World) : Calls Tryd.prog 9 #[] w fun e w' => e = .returned (.bool true) ∧ Below w.heap.size w w' := by
  go_enter Tryd.func9, Tryd.ntmps9
  go_wp2_with fail
  refine (new_ok 2 (by decide) (by decide) w).mono ?_
  rintro e w1 ⟨rfl, h1, b1⟩
  have hB1 := h1.blk.lt
  obtain ⟨w2, hw2, h2, b2, s2, kx, ky⟩ := h1.boxes (1, 1) (2, 1)
  dsimp only at hw2 kx ky
  have x0 : w2.cell? ⟨w1.heap.size, 0, none⟩ = some (.int .i64 1) := kx.cell 0
  have x1 : w2.cell? ⟨w1.heap.size, 1, none⟩ = some (.int .i64 1) := kx.cell 1
  have H2 : Hid (Rw w2 w.heap.size (.slice none 0 0) (.slice none 0 0) 2 [] [] 0 0 0 ∧ Below w.heap.size w w2 ∧ Bk w2 w1.heap.size 32 #[.int .i64 1, .int .i64 1] ∧ Bk w2 (w1.heap.size + 1) 32 #[.int .i64 2, .int .i64 1] ∧ w.heap.size < w1.heap.size) := ⟨h2, b1.trans (b2.mono b1.size), kx, ky, hB1⟩
  clear h1 b1 h2 b2 kx ky hB1
  go_wp2_with fail
  refine (alloc_first H2.out.1 (by decide) (by decide) (1, 1) (by decide)).mono ?_
  rintro e w3 ⟨rfl, uv, c, h3, t3, hc, hu⟩
  obtain ⟨-, hb2, kx, ky, hB1⟩ := H2.out
  have kx3 := kx.tn t3 (by simp; omega)
  have ky3 := ky.tn t3 (by simp; omega)
  have x0 : w3.cell? ⟨w1.heap.size, 0, none⟩ = some (.int .i64 1) := kx3.cell 0
  have x1 : w3.cell? ⟨w1.heap.size, 1, none⟩ = some (.int .i64 1) := kx3.cell 1
  have y0 : w3.cell? ⟨w1.heap.size + 1, 0, none⟩ = some (.int .i64 2) := ky3.cell 0
  have y1 : w3.cell? ⟨w1.heap.size + 1, 1, none⟩ = some (.int .i64 1) := ky3.cell 1
  have H3 : Hid (Rw w3 w.heap.size uv (.slice none 0 0) 2 [.live c (1, 1) 0] [] 0 0 0 ∧ Below w.heap.size w w3 ∧ Bk w3 (w1.heap.size + 1) 32 #[.int .i64 2, .int .i64 1] ∧ w.heap.size ≤ c ∧ w1.heap.size + 1 < c) := ⟨h3, hb2.trans (t3.below hb2.size (by simp)), ky3, by have := hb2.size; omega, by have := ky.lt; omega⟩
  clear h3 t3 hc hu hb2 kx ky hB1 kx3 ky3 H2
  go_wp2_with fail
  refine (swap_hit (i := 0) (c := c) (n := 0) H3.out.1 (by decide) rfl (1, 1) (2, 1) (by decide) rfl).mono ?_
  rintro e w4 ⟨rfl, h4, t4⟩
  obtain ⟨-, hb3, ky3, hc, hc2⟩ := H3.out
  have ky4 := ky3.tn t4 (by simp; omega)
  have H4 : Hid (Rw w4 w.heap.size uv (.slice none 0 0) 2 [.live c (2, 1) (wrap64 (0 + 1))] [] 0 0 0 ∧ Below w.heap.size w w4 ∧ Bk w4 (w1.heap.size + 1) 32 #[.int .i64 2, .int .i64 1]) := ⟨h4, hb3.trans (t4.below hb3.size (by simpa using hc)), ky4⟩
  clear h4 t4 hb3 ky3 hc hc2 ky4 H3
  go_wp2_with fail
  refine (load_live (i := 0) (c := c) (n := wrap64 (0 + 1)) H4.out.1 (by decide) rfl).mono ?_
  rintro e w5 ⟨rfl, b5⟩
  obtain ⟨-, hb4, ky4⟩ := H4.out
  obtain ⟨w6, hw6⟩ : ∃ w6, w5.alloc (.cells #[.int .i64 2, .int .i64 1] 32) = w6 := ⟨_, rfl⟩
  have ky6 : Bk w6 (w1.heap.size + 1) 32 #[.int .i64 2, .int .i64 1] := by rw [← hw6]; exact (ky4.below b5 ky4.lt).alloc _
  have kh6 : Bk w6 w5.heap.size 32 #[.int .i64 2, .int .i64 1] := by rw [← hw6]; exact Bk.new _ _ _
  have y0 : w6.cell? ⟨w1.heap.size + 1, 0, none⟩ = some (.int .i64 2) := ky6.cell 0
  have y1 : w6.cell? ⟨w1.heap.size + 1, 1, none⟩ = some (.int .i64 1) := ky6.cell 1
  have z0 : w6.cell? ⟨w5.heap.size, 0, none⟩ = some (.int .i64 2) := kh6.cell 0
  have z1 : w6.cell? ⟨w5.heap.size, 1, none⟩ = some (.int .i64 1) := kh6.cell 1
  have HE : Hid (∀ k, Below w.heap.size w (w6.drewN k)) := fun k => below_drewN (by rw [← hw6]; exact (hb4.trans (b5.mono hb4.size)).alloc (by have := hb4.size; have := b5.size; omega) _) k
  clear hb4 ky4 b5 ky6 kh6 H4
  go_wp2_with fail
  all_goals first | (go_quiet (fail); go_wp2; go_ret; exact ⟨rfl, HE.out _⟩) | (go_wp2; go_ret; exact ⟨rfl, HE.out 0⟩)
end Go.Proofs.YtnjafmjkaajbkaaDoor
