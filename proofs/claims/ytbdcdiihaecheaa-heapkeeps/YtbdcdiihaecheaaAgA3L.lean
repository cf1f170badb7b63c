/- Arenas of links: Get, Set, Stale. -/
import Derived.Test.YtbdcdiihaecheaaAgA2L
namespace Go.Proofs.Ytbdcdiihaecheaa
open Go.RowKit
set_option linter.unusedVariables false
set_option maxRecDepth 100000
set_option linter.unusedSectionVars false
variable [Inhabited Cl] [Inhabited Ln]

theorem staleL {w : World} {B : Nat} {bs : List Nat} {a : Ar Ln} (h : Arn Ln.cells 5 tAL tSL w B bs a) : Calls Try.prog 49 #[.pointer (some ⟨B, 0, none⟩)] w fun e w' => e = .returned (.int .i64 a.stale) ∧ w' = w := by
  obtain ⟨uv, fv, fr, -, h⟩ := h
  obtain ⟨c0, c1, c2, c3⟩ := h.four
  have hs1 := h.s1
  clear h
  go_enter Try.func49, Try.ntmps49
  go_wp2_with fail
  refine (madeL c0 hs1).mono ?_
  rintro e w1 ⟨rfl, rfl⟩
  go_wp2_with fail
  refine (load_any c3).mono ?_
  rintro e w2 ⟨rfl, rfl⟩
  go_wp2
  go_ret
  exact ⟨rfl, rfl⟩

/-- What a block has is answered, and an error. -/
theorem results_elL {fn : Func} {t u : Tmp} (h : fn.results = #[.cell t 97, .tmp u]) {tmps : Array Value} {w : World} {b : Nat} (ht : tmps.getD t undef = .pointer (some ⟨b, 0, none⟩)) {x : Ln} (hk : Bk w b 97 #[.int .i64 x.ts, .string x.val, .bool x.del, .int .i64 x.s, .int .i64 x.g]) :
    (results fn tmps).run Try.prog w = .ok (.tuple #[.agg #[.int .i64 x.ts, .string x.val, .bool x.del, .int .i64 x.s, .int .i64 x.g], tmps.getD u undef]) w := by
  have c0 : w.cell? ⟨b, 0, none⟩ = some (.int .i64 x.ts) := hk.cell 0
  have c1 : w.cell? ⟨b, 1, none⟩ = some (.string x.val) := hk.cell 1
  have c2 : w.cell? ⟨b, 2, none⟩ = some (.bool x.del) := hk.cell 2
  have c3 : w.cell? ⟨b, 3, none⟩ = some (.int .i64 x.s) := hk.cell 3
  have c4 : w.cell? ⟨b, 4, none⟩ = some (.int .i64 x.g) := hk.cell 4
  have hz : ∀ w : World, (loadVar 97 ⟨b, 0, none⟩).run Try.prog w = (do let x0 ← load ⟨b, 0, none⟩; let x1 ← load ⟨b, 1, none⟩; let x2 ← load ⟨b, 2, none⟩; let x3 ← load ⟨b, 3, none⟩; let x4 ← load ⟨b, 4, none⟩; pure (.agg #[x0, x1, x2, x3, x4]) : Sem Value).run Try.prog w := fun w => by kernel_rfl
  have hl : (loadVar 97 ⟨b, 0, none⟩).run Try.prog w = .ok (.agg #[.int .i64 x.ts, .string x.val, .bool x.del, .int .i64 x.s, .int .i64 x.g]) w := by
    rw [hz]
    simp [c0, c1, c2, c3, c4]
  have ht' : tmps[t]?.getD undef = .pointer (some ⟨b, 0, none⟩) := by simpa using ht
  simp [results, h, ht', asAddr, hl]

set_option maxHeartbeats 1000000 in
theorem getGoodL {w : World} {B : Nat} {bs : List Nat} {a : Ar Ln} (h : Arn Ln.cells 5 tAL tSL w B bs a) (s g : Int) (hg : a.Good s g) :
    Calls Try.prog 66 #[.pointer (some ⟨B, 0, none⟩), .agg #[.int .i64 s, .int .i64 g]] w fun e w' => e = .returned (.tuple #[(slAt a.us s.toNat).val.v, .int .i64 0]) ∧ Below w.heap.size w w' := by
  obtain ⟨uv, fv, fr, -, h⟩ := h
  have HG : Hid (a.Good s g) := hg
  obtain ⟨h0, h1, hgv, -⟩ := hg
  obtain ⟨i, rfl⟩ : ∃ i : Nat, s = (i : Int) := ⟨s.toNat, by omega⟩
  have hi : i < a.us.length := by omega
  rw [Int.toNat_natCast]
  obtain ⟨gb, c, rfl⟩ := row_some h.row (by omega)
  obtain ⟨w1, hw1, hz1, hb1, h', hk, -, -⟩ := h.boxed (i : Int) g
  obtain ⟨w2, hw2, hz2, hb2, hkx⟩ : ∃ w2, w1.alloc (.cells #[.int .i64 0, .string ⟨#[]⟩, .bool false, .int .i64 0, .int .i64 0] 97) = w2 ∧ w2.heap.size = w.heap.size + 2 ∧ Below w1.heap.size w1 w2 ∧ Bk w2 (w.heap.size + 1) 97 #[.int .i64 0, .string ⟨#[]⟩, .bool false, .int .i64 0, .int .i64 0] := ⟨_, rfl, by simp [hz1], (Below.refl _ w1).alloc (Nat.le_refl _) _, by rw [← hz1]; exact Bk.new _ _ _⟩
  have ht12 : Tn [] w1 w2 := Tn.of_below hb2 []
  have HI : Hid (IsAr Ln.cells 5 tAL tSL w2 B (.slice (some ⟨gb, 0, none⟩) a.us.length c) fv fr a) := h'.tn ht12 (by simp)
  have HK : Hid (Bk w2 w.heap.size 36 #[.int .i64 (i : Int), .int .i64 g]) := hk.tn ht12 (by simp)
  have HX : Hid (Bk w2 (w.heap.size + 1) 97 #[.int .i64 0, .string ⟨#[]⟩, .bool false, .int .i64 0, .int .i64 0]) := hkx
  have HB : Hid (Below w.heap.size w w2) := hb1.trans (hb2.mono hb1.size)
  have HGB : Hid (gb < w.heap.size) := row_block h.row gb rfl
  have k0 := HK.out.cell 0
  have k1 := HK.out.cell 1
  simp only [List.getElem?_toArray, List.getElem?_cons_zero, List.getElem?_cons_succ] at k0 k1
  have hlen : a.us.length ≤ 65536 := Nat.le_trans h.le h.s2
  clear h h' hk hb1 hgv hkx hb2 ht12
  go_enter Try.func66, Try.ntmps66
  go_wp2_with fail
  refine (checkGoodL ⟨_, _, _, rfl, HI.out⟩ (i : Int) g HG.out).mono ?_
  rintro e w3 ⟨rfl, hb3⟩
  have ht3 : Tn [] w2 w3 := Tn.of_below hb3 []
  have HI2 : Hid _ := HI.out.tn ht3 (by simp)
  obtain ⟨r0, r1, r2, r3, r4, r5, r6⟩ := sl7 rfl HI2.out.row i hi
  obtain ⟨c0, c1, c2, c3⟩ := HI2.out.four
  have HK2 := HK.out.tn ht3 (by simp)
  have k2 : w3.cell? ⟨w.heap.size, 0, none⟩ = some (.int .i64 (i : Int)) := HK2.cell 0
  have HX3 : Hid (Bk w3 (w.heap.size + 1) 97 #[.int .i64 0, .string ⟨#[]⟩, .bool false, .int .i64 0, .int .i64 0]) := HX.out.tn ht3 (by simp)
  have x0 : w3.cell? ⟨w.heap.size + 1, 0, none⟩ = some (.int .i64 0) := HX3.out.cell 0
  have f0 : w3.frozen? ⟨w.heap.size + 1, 0, none⟩ = false := HX3.out.frozen 0
  have x1 : w3.cell? ⟨w.heap.size + 1, 1, none⟩ = some (.string ⟨#[]⟩) := HX3.out.cell 1
  have f1 : w3.frozen? ⟨w.heap.size + 1, 1, none⟩ = false := HX3.out.frozen 1
  have x2 : w3.cell? ⟨w.heap.size + 1, 2, none⟩ = some (.bool false) := HX3.out.cell 2
  have f2 : w3.frozen? ⟨w.heap.size + 1, 2, none⟩ = false := HX3.out.frozen 2
  have x3 : w3.cell? ⟨w.heap.size + 1, 3, none⟩ = some (.int .i64 0) := HX3.out.cell 3
  have f3 : w3.frozen? ⟨w.heap.size + 1, 3, none⟩ = false := HX3.out.frozen 3
  have x4 : w3.cell? ⟨w.heap.size + 1, 4, none⟩ = some (.int .i64 0) := HX3.out.cell 4
  have f4 : w3.frozen? ⟨w.heap.size + 1, 4, none⟩ = false := HX3.out.frozen 4
  have HB2 : Hid (Below w.heap.size w w3) := HB.out.trans (hb3.mono HB.out.size)
  clear ht3 HI2 HK2 hb3 HI HK HB HG HX
  generalize hvv : (slAt a.us i).val = vv at *
  generalize a.us.length = n at *
  go_wp2_with fail
  go_region
  go_wp2
  refine bodyPost_ret (results_elL (x := vv) rfl rfl (by exact (((((HX3.out.set 0 _).set 1 _).set 2 _).set 3 _).set 4 _))) rfl ?_
  exact ⟨by rw [← hvv]; rfl, ((((((HB2.out.setCell (Nat.le_succ _) _).setCell (Nat.le_succ _) _).setCell (Nat.le_succ _) _).setCell (Nat.le_succ _) _).setCell (Nat.le_succ _) _)).drew⟩

set_option maxHeartbeats 1000000 in
theorem getBadL {w : World} {B : Nat} {bs : List Nat} {a : Ar Ln} (h : Arn Ln.cells 5 tAL tSL w B bs a) (s g : Int) (hg : ¬ a.Good s g) (hs0 : 0 ≤ a.stale) (hs9 : a.stale < 9223372036854775807) :
    Calls Try.prog 66 #[.pointer (some ⟨B, 0, none⟩), .agg #[.int .i64 s, .int .i64 g]] w fun e w' => e = .returned (.tuple #[Ln.zero.v, .int .i64 7]) ∧ ArT Ln.cells 5 tAL tSL w w' B bs a.bad := by
  have HG : Hid (¬ a.Good s g) := hg
  obtain ⟨uv, fv, fr, rfl, h⟩ := h
  obtain ⟨w1, hw1, hz1, hb1, h', hk, -, -⟩ := h.boxed s g
  obtain ⟨w2, hw2, hz2, hb2, hkx⟩ : ∃ w2, w1.alloc (.cells #[.int .i64 0, .string ⟨#[]⟩, .bool false, .int .i64 0, .int .i64 0] 97) = w2 ∧ w2.heap.size = w.heap.size + 2 ∧ Below w1.heap.size w1 w2 ∧ Bk w2 (w.heap.size + 1) 97 #[.int .i64 0, .string ⟨#[]⟩, .bool false, .int .i64 0, .int .i64 0] := ⟨_, rfl, by simp [hz1], (Below.refl _ w1).alloc (Nat.le_refl _) _, by rw [← hz1]; exact Bk.new _ _ _⟩
  have ht12 : Tn [] w1 w2 := Tn.of_below hb2 []
  have HI : Hid (Arn Ln.cells 5 tAL tSL w2 B (bsOf B uv fv) a) := ⟨_, _, _, rfl, h'.tn ht12 (by simp)⟩
  have HLT : Hid (∀ b ∈ bsOf B uv fv, b < w.heap.size) := h.lt
  have HB : Hid (Tn [] w w2) := (Tn.of_below hb1 []).trans ht12 (by simp)
  have HX : Hid (Bk w2 (w.heap.size + 1) 97 #[.int .i64 0, .string ⟨#[]⟩, .bool false, .int .i64 0, .int .i64 0]) := hkx
  have hk' := hk.tn ht12 (by simp)
  have k0 := hk'.cell 0
  have k1 := hk'.cell 1
  simp only [List.getElem?_toArray, List.getElem?_cons_zero, List.getElem?_cons_succ] at k0 k1
  clear h h' hk hb1 hg hkx hb2 ht12 hk'
  go_enter Try.func66, Try.ntmps66
  go_wp2_with fail
  refine (checkBadL HI.out s g HG.out hs0 hs9).mono ?_
  rintro e w3 ⟨rfl, ht3⟩
  have HX3 : Hid (Bk w3 (w.heap.size + 1) 97 #[.int .i64 0, .string ⟨#[]⟩, .bool false, .int .i64 0, .int .i64 0]) := by
    obtain ⟨_, _, ht, _⟩ := ht3
    exact HX.out.tn ht (fun hb => by have := HLT.out _ hb; omega)
  have HE : Hid (∀ w4, Tn [w.heap.size + 1] w3 w4 → ArT Ln.cells 5 tAL tSL w w4 B (bsOf B uv fv) a.bad) := by
    obtain ⟨bs3, ha, ht, hm⟩ := ht3
    intro w4 h4
    refine ⟨bs3, ha.tn h4 (fun b hb hm4 => ?_), ((HB.out.mono (by simp)).trans ht (fun x hx => .inl hx)).trans h4 (fun x hx => ?_), fun b hb => ?_⟩
    · simp at hm4
      rcases hm b hb with h1 | h1
      · have := HLT.out b h1
        omega
      · omega
    · simp at hx
      subst hx
      exact .inr (by omega)
    · rcases hm b hb with h1 | h1
      · exact .inl h1
      · exact .inr (by omega)
  have x0 : w3.cell? ⟨w.heap.size + 1, 0, none⟩ = some (.int .i64 0) := HX3.out.cell 0
  have f0 : w3.frozen? ⟨w.heap.size + 1, 0, none⟩ = false := HX3.out.frozen 0
  have x1 : w3.cell? ⟨w.heap.size + 1, 1, none⟩ = some (.string ⟨#[]⟩) := HX3.out.cell 1
  have f1 : w3.frozen? ⟨w.heap.size + 1, 1, none⟩ = false := HX3.out.frozen 1
  have x2 : w3.cell? ⟨w.heap.size + 1, 2, none⟩ = some (.bool false) := HX3.out.cell 2
  have f2 : w3.frozen? ⟨w.heap.size + 1, 2, none⟩ = false := HX3.out.frozen 2
  have x3 : w3.cell? ⟨w.heap.size + 1, 3, none⟩ = some (.int .i64 0) := HX3.out.cell 3
  have f3 : w3.frozen? ⟨w.heap.size + 1, 3, none⟩ = false := HX3.out.frozen 3
  have x4 : w3.cell? ⟨w.heap.size + 1, 4, none⟩ = some (.int .i64 0) := HX3.out.cell 4
  have f4 : w3.frozen? ⟨w.heap.size + 1, 4, none⟩ = false := HX3.out.frozen 4
  clear ht3 HI HB HG k0 k1
  go_wp2
  refine bodyPost_ret (results_elL (x := Ln.zero) rfl rfl (by exact (((((HX3.out.set 0 _).set 1 _).set 2 _).set 3 _).set 4 _))) rfl ?_
  exact ⟨rfl, HE.out _ ((((((Tn.refl _ _).setCell (.inl (by simp)) _).setCell (.inl (by simp)) _).setCell (.inl (by simp)) _).setCell (.inl (by simp)) _).setCell (.inl (by simp)) _)⟩

set_option maxHeartbeats 1000000 in
theorem setBadL {w : World} {B : Nat} {bs : List Nat} {a : Ar Ln} (h : Arn Ln.cells 5 tAL tSL w B bs a) (s g : Int) (x : Ln) (hg : ¬ a.Good s g) (hs0 : 0 ≤ a.stale) (hs9 : a.stale < 9223372036854775807) :
    Calls Try.prog 73 #[.pointer (some ⟨B, 0, none⟩), .agg #[.int .i64 s, .int .i64 g], x.v] w fun e w' => e = .returned (.int .i64 7) ∧ ArT Ln.cells 5 tAL tSL w w' B bs a.bad := by
  have HG : Hid (¬ a.Good s g) := hg
  obtain ⟨uv, fv, fr, rfl, h⟩ := h
  obtain ⟨w1, hw1, hz1, hb1, h', hk, -, -⟩ := h.boxed s g
  obtain ⟨w2, hw2, hz2, hb2, hkx⟩ : ∃ w2, w1.alloc (.cells #[.int .i64 x.ts, .string x.val, .bool x.del, .int .i64 x.s, .int .i64 x.g] 97) = w2 ∧ w2.heap.size = w.heap.size + 2 ∧ Below w1.heap.size w1 w2 ∧ Bk w2 (w.heap.size + 1) 97 #[.int .i64 x.ts, .string x.val, .bool x.del, .int .i64 x.s, .int .i64 x.g] := ⟨_, rfl, by simp [hz1], (Below.refl _ w1).alloc (Nat.le_refl _) _, by rw [← hz1]; exact Bk.new _ _ _⟩
  have ht12 : Tn [] w1 w2 := Tn.of_below hb2 []
  have HI : Hid (Arn Ln.cells 5 tAL tSL w2 B (bsOf B uv fv) a) := ⟨_, _, _, rfl, h'.tn ht12 (by simp)⟩
  have HB : Hid (Tn [] w w2) := (Tn.of_below hb1 []).trans ht12 (by simp)
  have hk' := hk.tn ht12 (by simp)
  have k0 := hk'.cell 0
  have k1 := hk'.cell 1
  simp only [List.getElem?_toArray, List.getElem?_cons_zero, List.getElem?_cons_succ] at k0 k1
  clear h h' hk hb1 hg hkx hb2 ht12 hk'
  go_enter Try.func73, Try.ntmps73
  go_wp2_with fail
  refine (checkBadL HI.out s g HG.out hs0 hs9).mono ?_
  rintro e w3 ⟨rfl, ht3⟩
  have HE : Hid (ArT Ln.cells 5 tAL tSL w w3 B (bsOf B uv fv) a.bad) := ArT.pre HB.out ht3
  clear ht3 HI HB HG k0 k1
  go_wp2
  go_ret
  exact ⟨rfl, HE.out⟩

set_option maxHeartbeats 1000000 in
theorem freeBadL {w : World} {B : Nat} {bs : List Nat} {a : Ar Ln} (h : Arn Ln.cells 5 tAL tSL w B bs a) (s g : Int) (hg : ¬ a.Good s g) (hs0 : 0 ≤ a.stale) (hs9 : a.stale < 9223372036854775807) :
    Calls Try.prog 58 #[.pointer (some ⟨B, 0, none⟩), .agg #[.int .i64 s, .int .i64 g]] w fun e w' => e = .returned (.int .i64 7) ∧ ArT Ln.cells 5 tAL tSL w w' B bs a.bad := by
  have HG : Hid (¬ a.Good s g) := hg
  obtain ⟨uv, fv, fr, rfl, h⟩ := h
  obtain ⟨w1, hw1, hz1, hb1, h', hk, -, -⟩ := h.boxed s g
  have HI : Hid (Arn Ln.cells 5 tAL tSL w1 B (bsOf B uv fv) a) := ⟨_, _, _, rfl, h'⟩
  have HB : Hid (Tn [] w w1) := Tn.of_below hb1 []
  have k0 := hk.cell 0
  have k1 := hk.cell 1
  simp only [List.getElem?_toArray, List.getElem?_cons_zero, List.getElem?_cons_succ] at k0 k1
  clear h h' hk hb1 hg
  go_enter Try.func58, Try.ntmps58
  go_wp2_with fail
  refine (checkBadL HI.out s g HG.out hs0 hs9).mono ?_
  rintro e w2 ⟨rfl, ht2⟩
  have HE : Hid (ArT Ln.cells 5 tAL tSL w w2 B (bsOf B uv fv) a.bad) := ArT.pre HB.out ht2
  clear ht2 HI HB HG k0 k1
  go_wp2
  go_ret
  exact ⟨rfl, HE.out⟩
end Go.Proofs.Ytbdcdiihaecheaa
