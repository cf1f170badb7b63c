/- The document's boxes. -/
import Derived.Test.YtjfmilfplidepaaCeRf
import Derived.Test.YtjfmilfplidepaaApA
namespace Go.Proofs.Ytjfmilfplidepaa
open Go.RowKit Go.Conc
set_option linter.unusedVariables false
set_option maxRecDepth 100000

/-- A slice of texts: where they lie. -/
def Rx (w : World) (v : Value) (xs : List ByteArray) : Prop :=
  (v = .slice none 0 0 ∧ xs = []) ∨ ∃ g o cap cs, v = .slice (some ⟨g, o, none⟩) xs.length cap ∧ xs.length ≤ cap ∧ Bk w g 9 cs ∧ ∀ (i : Nat) x, xs[i]? = some x → cs[o + i]? = some (.string x)

theorem Rx.form {w : World} {v : Value} {xs : List ByteArray} (h : Rx w v xs) : ∃ p c, v = .slice p xs.length c := by
  rcases h with ⟨rfl, rfl⟩ | ⟨g, o, cap, cs, rfl, _⟩
  · exact ⟨_, _, rfl⟩
  · exact ⟨_, _, rfl⟩

theorem Rx.tn {S : List Nat} {w w' : World} {v : Value} {xs : List ByteArray} (h : Rx w v xs) (t : Tn S w w') (hs : ∀ s ∈ S, ∀ cs, ¬ Bk w s 9 cs) : Rx w' v xs := by
  rcases h with h | ⟨g, o, cap, cs, h1, h2, h3, h4⟩
  · exact .inl h
  · exact .inr ⟨g, o, cap, cs, h1, h2, h3.tn t (fun hg => hs g hg cs h3), h4⟩

/-- The document's box. -/
structure Rb (w : World) (R room : Nat) (v : Value) (xs : List ByteArray) : Prop where
  blk : Bk w R 51 #[v, .int .i64 (room : Int)]
  row : Rx w v xs

theorem Rb.tn {S : List Nat} {w w' : World} {R room : Nat} {v : Value} {xs : List ByteArray} (h : Rb w R room v xs) (t : Tn S w w') (hR : R ∉ S) (hs : ∀ s ∈ S, ∀ cs, ¬ Bk w s 9 cs) : Rb w' R room v xs := ⟨h.blk.tn t hR, h.row.tn t hs⟩
theorem Rb.below {w w' : World} {R room : Nat} {v : Value} {xs : List ByteArray} (h : Rb w R room v xs) (t : Below w.heap.size w w') : Rb w' R room v xs := h.tn (Tn.of_below t []) (by simp) (by simp)

theorem strinfo : (Try.prog.info? 9).map (fun i => (i.zero, i.size, i.bytes)) = some (some (.string ⟨#[]⟩), 1, 16) := by kernel_rfl

theorem rnewBox_any (n : Nat) (h1 : 1 ≤ n) (h2 : n ≤ 4096) (w : World) : Calls Try.prog 17 #[.int .i64 (n : Int)] w fun e w' => e = .returned (.tuple #[.pointer (some ⟨w.heap.size, 0, none⟩), .int .i64 0]) ∧ Rb w' w.heap.size n (.slice none 0 0) [] ∧ Below w.heap.size w w' := by
  have HF : Hid (Rb (w.alloc (.cells #[.slice none 0 0, .int .i64 (n : Int)] 51)) w.heap.size n (.slice none 0 0) [] ∧ Below w.heap.size w (w.alloc (.cells #[.slice none 0 0, .int .i64 (n : Int)] 51))) := ⟨⟨Bk.new _ _ _, .inl ⟨rfl, rfl⟩⟩, (Below.refl _ w).alloc (Nat.le_refl _) _⟩
  have g1 : ¬ (n : Int) < 1 := by omega
  have g2 : ¬ (4096 : Int) < (n : Int) := by omega
  clear h1 h2
  go_enter Try.func17, Try.ntmps17
  go_wp2
  go_ret2
  exact ⟨rfl, HF.out⟩

theorem newBox_bad (n : Int) (h : n < 1 ∨ 4096 < n) (w : World) : Calls Try.prog 16 #[.int .i64 n] w fun e w' => e = .returned (.tuple #[.pointer none, .int .i64 1]) ∧ w' = w := by
  by_cases g1 : n < 1
  · clear h
    go_enter Try.func16, Try.ntmps16
    go_wp2
    go_ret2
    exact ⟨rfl, rfl⟩
  · have g2 : (4096 : Int) < n := by omega
    clear h
    go_enter Try.func16, Try.ntmps16
    go_wp2
    go_ret2
    exact ⟨rfl, rfl⟩

theorem rnewBox_bad (n : Int) (h : n < 1 ∨ 4096 < n) (w : World) : Calls Try.prog 17 #[.int .i64 n] w fun e w' => e = .returned (.tuple #[.pointer none, .int .i64 1]) ∧ w' = w := by
  by_cases g1 : n < 1
  · clear h
    go_enter Try.func17, Try.ntmps17
    go_wp2
    go_ret2
    exact ⟨rfl, rfl⟩
  · have g2 : (4096 : Int) < n := by omega
    clear h
    go_enter Try.func17, Try.ntmps17
    go_wp2
    go_ret2
    exact ⟨rfl, rfl⟩

theorem rtake_none {w : World} {R room : Nat} {v : Value} (h : Rb w R room v []) : Calls Try.prog 21 #[.pointer (some ⟨R, 0, none⟩)] w fun e w' => e = .returned (.tuple #[.string ⟨#[]⟩, .int .i64 4]) ∧ w' = w := by
  obtain ⟨p, c, rfl⟩ := h.row.form
  have c0 : w.cell? ⟨R, 0, none⟩ = some (.slice p 0 c) := h.blk.cell 0
  clear h
  go_enter Try.func21, Try.ntmps21
  go_wp2
  go_ret2
  exact ⟨rfl, rfl⟩

theorem rtake_any {w : World} {R room : Nat} {v : Value} {x : ByteArray} {xs : List ByteArray} (h : Rb w R room v (x :: xs)) : Calls Try.prog 21 #[.pointer (some ⟨R, 0, none⟩)] w fun e w' => e = .returned (.tuple #[.string x, .int .i64 0]) ∧ (∃ v', Rb w' R room v' xs) ∧ Tn [R] w w' := by
  obtain ⟨hblk, hrow⟩ := h
  rcases hrow with ⟨_, h0⟩ | ⟨g, o, cap, cs, rfl, hcap, hg, hcs⟩
  · cases h0
  obtain ⟨n, hn⟩ : ∃ n, n = xs.length := ⟨_, rfl⟩
  rw [List.length_cons, ← hn] at hblk hcap
  have c0 : w.cell? ⟨R, 0, none⟩ = some (.slice (some ⟨g, o, none⟩) (n + 1) cap) := hblk.cell 0
  have f0 := hblk.frozen 0
  have cg : w.cell? ⟨g, o, none⟩ = some (.string x) := (hg.cell o).trans (hcs 0 x rfl)
  have hne : g ≠ R := by
    intro e
    subst e
    have := (show w.heap[g]? = _ from hg).symm.trans (show w.heap[g]? = _ from hblk)
    simp at this
  have HE : Hid (∀ v', v' = .slice (some ⟨g, o, none⟩) 0 0 ∧ n = 0 ∨ v' = .slice (some ⟨g, o + 1, none⟩) n (cap - 1) → Rb (w.setCell ⟨R, 0, none⟩ v') R room v' xs ∧ Tn [R] w (w.setCell ⟨R, 0, none⟩ v')) := by
    intro v' hv'
    have t : Tn [R] w (w.setCell ⟨R, 0, none⟩ v') := (Tn.refl [R] w).setCell (.inl (by simp)) _
    have hk := hblk.set 0 v'
    have hg' := hg.tn t (by simpa using hne)
    have hr : Rb (w.setCell ⟨R, 0, none⟩ v') R room v' xs := by
      refine ⟨hk, ?_⟩
      rcases hv' with ⟨rfl, h0⟩ | rfl
      · exact .inr ⟨g, o, 0, cs, by rw [← hn, h0], by omega, hg', fun i y hy => by rw [List.eq_nil_of_length_eq_zero (l := xs) (by omega)] at hy; simp at hy⟩
      · exact .inr ⟨g, o + 1, cap - 1, cs, by rw [← hn], by omega, hg', fun i y hy => by rw [Nat.add_right_comm]; exact hcs (i + 1) y (by simpa using hy)⟩
    exact ⟨hr, t⟩
  have q1 : (0 : Int) < (n : Int) + 1 := by omega
  by_cases hc1 : cap = 1
  · subst hc1
    obtain rfl : n = 0 := by omega
    clear hblk hg hcs hne hcap hn
    go_enter Try.func21, Try.ntmps21
    go_wp2
    go_ret2
    exact ⟨rfl, ⟨_, (HE.out _ (.inl ⟨rfl, trivial⟩)).1⟩, (HE.out _ (.inl ⟨rfl, trivial⟩)).2⟩
  · have q2 : (1 : Int) ≤ (cap : Int) := by omega
    clear hblk hg hcs hne hn
    go_enter Try.func21, Try.ntmps21
    go_wp2
    go_ret2
    exact ⟨rfl, ⟨_, (HE.out _ (.inr rfl)).1⟩, (HE.out _ (.inr rfl)).2⟩

theorem rput_full {w : World} {R room : Nat} {v : Value} {xs : List ByteArray} (h : Rb w R room v xs) (x : ByteArray) (hr : room ≤ xs.length) : Calls Try.prog 19 #[.pointer (some ⟨R, 0, none⟩), .string x] w fun e w' => e = .returned (.int .i64 5) ∧ ∃ k, w' = w.drewN k := by
  obtain ⟨p, c, rfl⟩ := h.row.form
  obtain ⟨n, hn⟩ : ∃ n, n = xs.length := ⟨_, rfl⟩
  rw [← hn] at h hr
  have c0 : w.cell? ⟨R, 0, none⟩ = some (.slice p n c) := h.blk.cell 0
  have c1 : w.cell? ⟨R, 1, none⟩ = some (.int .i64 (room : Int)) := h.blk.cell 1
  have hg : (room : Int) ≤ (n : Int) := by omega
  clear h hr hn
  go_enter Try.func19, Try.ntmps19
  go_wp2_with fail
  go_quiet (fail)
  go_wp2
  go_ret
  exact ⟨rfl, _, rfl⟩

/-- What a row of texts hands to an append. -/
theorem Rx.news {w : World} {v : Value} {xs : List ByteArray} (h : Rx w v xs) : ∃ q c, v = .slice q xs.length c ∧ (q = none → xs.length = 0 ∧ c = 0) ∧ ∀ ad, q = some ad → ∀ (j : Nat) u, (xs.map Value.string)[j]? = some u → w.cell? (ad.add j) = some u := by
  rcases h with ⟨rfl, rfl⟩ | ⟨g, o, cap, cs, rfl, hcap, hg, hcs⟩
  · exact ⟨none, 0, rfl, fun _ => ⟨rfl, rfl⟩, fun ad h => by cases h⟩
  · refine ⟨_, _, rfl, (fun h => by cases h), fun ad h j u hu => ?_⟩
    cases h
    rw [Addr.add_lit, hg.cell]
    simp only [List.getElem?_map, Option.map_eq_some_iff] at hu
    obtain ⟨y, hy, rfl⟩ := hu
    exact hcs j y hy

theorem one_str (xs : List ByteArray) : ∀ u ∈ xs.map Value.string, u.oneCell' = true := by
  intro u hu
  obtain ⟨y, _, rfl⟩ := List.mem_map.1 hu
  rfl

/-- A row of the call's own is a row of texts. -/
theorem Rx.own {w : World} {v : Value} {xs : List ByteArray} (h : w.ownsRow 0 9 1 v xs.length (xs.map Value.string)) : Rx w v xs := by
  rcases h.2 with ⟨hv, hn⟩ | ⟨g, cap, cur, rfl, _, hg, h1, h2, h3, h4⟩
  · exact .inl ⟨hv, List.eq_nil_of_length_eq_zero hn⟩
  · refine .inr ⟨g, 0, cap, cur, rfl, h1, hg, fun i x hx => ?_⟩
    have : (cur.toList.take (xs.length * 1))[i]? = some (Value.string x) := by rw [h4]; simp [hx]
    rw [List.getElem?_take] at this
    split at this
    · simpa using this
    · cases this

set_option maxHeartbeats 1000000 in
theorem rput_any {w : World} {R room : Nat} {v : Value} {xs : List ByteArray} (h : Rb w R room v xs) (x : ByteArray) (hr : xs.length < room) (h4 : room ≤ 4096) : Calls Try.prog 19 #[.pointer (some ⟨R, 0, none⟩), .string x] w fun e w' => e = .returned (.int .i64 0) ∧ (∃ v', Rb w' R room v' (xs ++ [x])) ∧ Tn [R] w w' := by
  obtain ⟨p, c, hv, hq, hnews⟩ := h.row.news
  subst hv
  obtain ⟨n, hn⟩ : ∃ n, n = xs.length := ⟨_, rfl⟩
  rw [← hn] at h hr hq
  have c0 : w.cell? ⟨R, 0, none⟩ = some (.slice p n c) := h.blk.cell 0
  have c1 : w.cell? ⟨R, 1, none⟩ = some (.int .i64 (room : Int)) := h.blk.cell 1
  have hg : ¬ (room : Int) ≤ (n : Int) := by omega
  have HN : Hid (n = xs.length ∧ n < room ∧ room ≤ 4096 ∧ (p = none → n = 0 ∧ c = 0)) := ⟨hn, hr, h4, hq⟩
  have HW : Hid (∀ k ad, p = some ad → ∀ (j : Nat) u, (xs.map Value.string)[j]? = some u → (w.drewN k).cell? (ad.add j) = some u) := fun k => hnews
  have HB : Hid (Bk w R 51 #[.slice p n c, .int .i64 (room : Int)]) := h.blk
  clear h hr hn h4 hq hnews
  go_enter Try.func19, Try.ntmps19
  go_wp2_with fail
  go_quiet (fail)
  go_wp2_with (at_builtin; refine appX _ rfl _ _ _ rfl 9 (.string ⟨#[]⟩) 1 16 Try.underlying49 strinfo rfl (by decide) (.slice none 0 0) 0 [] rfl (World.ownsRow_nil _ _ _ _) p n c (xs.map Value.string) rfl (by have := HN.out.1; simp [this]) (HW.out _) (one_str xs) HN.out.2.2.2 (by have := HN.out; unfold maxLen; omega) (by have := HN.out; omega) ?_)
  intro v1 w1 hrow1 hg1 hblk1
  have t1 : Tn [] w w1 := (Tn.refl [] w).trans (Tn.grown (S := []) (Tn.of_below (below_drewC (Below.refl _ w) nq) []) hg1 (fun k hk => by cases hk)) (by simp)
  have HR1 : Hid ((w1.alloc (.cells #[.string x] 9)).ownsRow 0 9 1 v1 n (xs.map Value.string)) := World.ownsRow.alloc hrow1 _
  have HT1 : Hid (Tn [] w w1 ∧ ∀ k, v1.ownBlock = some k → w.heap.size ≤ k) := ⟨t1, fun k hk => by
    rcases hblk1 with h | h
    · rw [h] at hk; cases hk
    · rw [h] at hk; cases hk; exact Nat.le_refl _⟩
  clear hrow1 hg1 hblk1 t1
  go_wp2_with (at_builtin; refine appX _ rfl _ _ _ rfl 9 (.string ⟨#[]⟩) 1 16 Try.underlying49 strinfo rfl (by decide) v1 n (xs.map Value.string) rfl HR1.out (some ⟨w1.heap.size, 0, none⟩) 1 1 [.string x] rfl rfl (news_alloc w1 [.string x] 9) (one_str [x]) (fun h => by cases h) (by have := HN.out; unfold maxLen; omega) (by have := HN.out; omega) ?_)
  intro v2 w2 hrow2 hg2 hblk2
  have t2 : Tn [] w w2 := by
    have h1 : Tn [] w (w1.alloc (.cells #[.string x] 9)) := HT1.out.1.alloc _
    exact h1.grown hg2 (fun k hk => .inr (HT1.out.2 k hk))
  have hB2 := HB.out.tn t2 (by simp)
  have d0 : w2.cell? ⟨R, 0, none⟩ = some (.slice p n c) := hB2.cell 0
  have f0 := hB2.frozen 0
  have hne : ∀ k, v2.ownBlock = some k → k ≠ R := by
    intro k hk
    have hR := HB.out.lt
    have hs := HT1.out.1.size
    rcases hblk2 with h | h
    · rw [h] at hk
      have := HT1.out.2 k hk
      omega
    · rw [h] at hk
      simp at hk
      omega
  obtain ⟨g2, k2, rfl⟩ := row_some hrow2 (by omega)
  have HE : Hid (Rb (w2.setCell ⟨R, 0, none⟩ (.slice (some ⟨g2, 0, none⟩) (n + 1) k2)) R room (.slice (some ⟨g2, 0, none⟩) (n + 1) k2) (xs ++ [x]) ∧ Tn [R] w (w2.setCell ⟨R, 0, none⟩ (.slice (some ⟨g2, 0, none⟩) (n + 1) k2))) := by
    have t3 : Tn [R] w2 (w2.setCell ⟨R, 0, none⟩ (.slice (some ⟨g2, 0, none⟩) (n + 1) k2)) := (Tn.refl [R] w2).setCell (.inl (by simp)) _
    refine ⟨⟨hB2.set 0 (.slice (some ⟨g2, 0, none⟩) (n + 1) k2), Rx.own ?_⟩, (t2.mono (by simp)).trans t3 (by simp)⟩
    have := owns_tn hrow2 t3 (fun k hk => by simpa using hne k hk)
    simpa [HN.out.1] using this
  clear hrow2 hg2 hblk2 t2 hB2 hne
  go_wp2
  go_ret
  exact ⟨rfl, ⟨_, HE.out.1⟩, HE.out.2⟩
end Go.Proofs.Ytjfmilfplidepaa
