/- Commits are read. -/
import Derived.Test.YtlfgclmgpbaenaaRcRd
import Derived.Test.YtlfgclmgpbaenaaStepApp
import Derived.Deep.RegionLaw
namespace Go.Proofs.Ytlfgclmgpbaenaa
open Go.RowKit
set_option linter.unusedVariables false
set_option maxRecDepth 100000

theorem wrinfo : (Try.prog.info? 33).map (fun i => (i.zero, i.size, i.bytes)) = some (some (.agg #[.string .empty, .string .empty, .bool false]), 3, 40) := by kernel_rfl

/-- A row of writes of the call's own. -/
def OwnW (w : World) (base : Nat) (v : Value) (l : List Wr) : Prop := w.ownsRow base 33 3 v l.length (l.map Wr.cells).flatten

theorem OwnW.nil (w : World) (base : Nat) : OwnW w base (.slice none 0 0) [] := World.ownsRow_nil _ _ _ _

theorem OwnW.keptN {w w' : World} {base : Nat} {v : Value} {l : List Wr} (h : OwnW w base v l) (hb : ∀ k, v.ownBlock = some k → w'.heap[k]? = w.heap[k]?) : OwnW w' base v l := by
  refine ⟨h.1, ?_⟩
  rcases h.2 with hn | ⟨g, cap, cur, hv, hbb, hg, rest⟩
  · exact .inl hn
  · refine .inr ⟨g, cap, cur, hv, hbb, ?_, rest⟩
    rw [hb g (by rw [hv]; rfl)]
    exact hg

theorem OwnW.lt {w : World} {base : Nat} {v : Value} {l : List Wr} (h : OwnW w base v l) : ∀ k, v.ownBlock = some k → base ≤ k ∧ k < w.heap.size := by
  intro k hk
  rcases h.2 with ⟨hv, _⟩ | ⟨g, cap, cur, hv, hbb, hg, rest⟩
  · rw [hv] at hk
    cases hk
  · rw [hv] at hk
    cases hk
    exact ⟨hbb, (Array.getElem?_eq_some_iff.1 hg).1⟩

theorem OwnW.below {w w' : World} {base : Nat} {v : Value} {l : List Wr} (h : OwnW w base v l) (hb : Below w.heap.size w w') : OwnW w' base v l := h.keptN fun k hk => hb.block k (h.lt k hk).2

theorem OwnW.tn {w w' : World} {base : Nat} {v : Value} {l : List Wr} {S : List Nat} (h : OwnW w base v l) (ht : Tn S w w') (hS : ∀ b ∈ S, b < base) : OwnW w' base v l :=
  h.keptN fun k hk => ht.block k (h.lt k hk).2 (fun hm => by have := hS k hm; have := (h.lt k hk).1; omega)

theorem OwnW.mono {w : World} {base base' : Nat} {v : Value} {l : List Wr} (h : OwnW w base v l) (hb : base' ≤ base) : OwnW w base' v l := by
  refine ⟨h.1, ?_⟩
  rcases h.2 with hn | ⟨g, cap, cur, hv, hbb, rest⟩
  · exact .inl hn
  · exact .inr ⟨g, cap, cur, hv, by omega, rest⟩

theorem wr_one (x : Wr) : ∀ u ∈ x.cells, u.oneCell' = true := by
  intro u hu
  simp only [Wr.cells, List.mem_cons, List.not_mem_nil, or_false] at hu
  rcases hu with rfl | rfl | rfl <;> rfl

theorem own_some {w : World} {base : Nat} {e : TypeId} {size : Nat} {v : Value} {n : Nat} {xs : List Value} (h : w.ownsRow base e size v n xs) (hn : 0 < n) : ∃ g k, v = .slice (some ⟨g, 0, none⟩) n k := by
  rcases h.2 with ⟨_, h0⟩ | ⟨g, cap, cur, hv, _⟩
  · omega
  · exact ⟨g, cap, hv⟩

theorem own_form {w : World} {base : Nat} {e : TypeId} {size : Nat} {v : Value} {n : Nat} {xs : List Value} (h : w.ownsRow base e size v n xs) : ∃ p c, v = .slice p n c := by
  rcases h.2 with ⟨hv, h0⟩ | ⟨g, cap, cur, hv, _⟩
  · exact ⟨none, 0, by rw [hv, h0]⟩
  · exact ⟨_, cap, hv⟩

theorem OwnW.snoc {w : World} {base : Nat} {g k : Nat} {l : List Wr} {x : Wr} (h : w.ownsRow base 33 3 (.slice (some ⟨g, 0, none⟩) (l.length + 1) k) (l.length + 1) ((l.map Wr.cells).flatten ++ x.cells)) : OwnW w base (.slice (some ⟨g, 0, none⟩) (l ++ [x]).length k) (l ++ [x]) := by
  unfold OwnW
  simp only [List.length_append, List.length_singleton, List.map_append, List.map_cons, List.map_nil, List.flatten_append, List.flatten_cons, List.flatten_nil, List.append_nil]
  exact h

/-- A commit under way. -/
structure RdC (w0 w : World) (R lo : Nat) (s : Rs) (A : Nat) (ts : Int) (v : Value) (l : List Wr) : Prop where
  b : RdB w0 w R lo s A 24 #[.int .i64 0, .slice none 0 0] #[.int .i64 ts, v]
  own : OwnW w (A + 2) v l

section
variable {w0 w : World} {R lo : Nat} {s : Rs} {A : Nat} {ts : Int} {v : Value} {l : List Wr}

theorem RdC.drew (h : RdC w0 w R lo s A ts v l) : RdC w0 w.drew R lo s A ts v l :=
  ⟨h.b.below ((Below.refl _ _).drew), h.own.below ((Below.refl _ _).drew)⟩

theorem RdC.alloc (h : RdC w0 w R lo s A ts v l) (o : Obj) : RdC w0 (w.alloc o) R lo s A ts v l :=
  ⟨h.b.below ((Below.refl _ _).alloc (Nat.le_refl _) _), h.own.below ((Below.refl _ _).alloc (Nat.le_refl _) _)⟩

theorem RdC.ne (h : RdC w0 w R lo s A ts v l) : v.ownBlock ≠ some (A + 1) := fun e => by have := (h.own.lt _ e).1; omega

theorem writeC (h : RdC w0 w R lo s A ts v l) : Calls Try.prog 66 #[.pointer (some ⟨R, 0, none⟩)] w fun x w' => x = .returned (.agg #[.string s.write.1.key, .string s.write.1.val, .bool s.write.1.del]) ∧ RdC w0 w' R lo s.write.2 A ts v l :=
  (write_rd h.b.rd).mono fun x w' ⟨a, b, c⟩ => ⟨a, h.b.step b c, h.own.tn c (by have := h.b.lo; have := h.b.rd.lt; simp; omega)⟩

theorem RdC.app {w' : World} {g k : Nat} {l' : List Wr} (h : RdC w0 w R lo s A ts v l) (hg : w.grownBy w' v.ownBlock) (ho : OwnW w' (A + 2) (.slice (some ⟨g, 0, none⟩) l'.length k) l') :
    RdC w0 (w'.setCell ⟨A + 1, 1, none⟩ (.slice (some ⟨g, 0, none⟩) l'.length k)) R lo s A ts (.slice (some ⟨g, 0, none⟩) l'.length k) l' := by
  have h1 := h.b.lo
  have h2 := h.b.new
  have h3 := h.b.rd.le
  have hr : ∀ k, v.ownBlock = some k → A + 2 ≤ k := fun k hk => (h.own.lt k hk).1
  have hb : Below lo w w' := (Below.refl _ _).grown hg h3 (fun k hk => by have := hr k hk; omega)
  have hB : RdB w0 w' R lo s A 24 #[.int .i64 0, .slice none 0 0] #[.int .i64 ts, v] := by
    refine ⟨h.b.rd.below hb, h.b.a.grown hg ?_, h.b.b.grown hg h.ne, h.b.tn.grown hg (fun k hk => .inr (by have := hr k hk; omega)), h1, h2⟩
    intro e
    have := hr _ e
    omega
  refine ⟨hB.set 1 _, ho.keptN fun k hk => ?_⟩
  refine Below.heap_setCell w' ⟨A + 1, 1, none⟩ _ k ?_
  have := (ho.lt k hk).1
  show k ≠ A + 1
  omega
end

theorem Rs.writes_snoc (s0 s : Rs) (l : List Wr) (k : Nat) (h : ∀ m, Rs.writes (k + m) s0 = (l ++ (Rs.writes m s).1, (Rs.writes m s).2)) : ∀ m, Rs.writes (k + 1 + m) s0 = ((l ++ [s.write.1]) ++ (Rs.writes m s.write.2).1, (Rs.writes m s.write.2).2) := by
  intro m
  have := h (1 + m)
  rw [← Nat.add_assoc] at this
  rw [this, Nat.add_comm 1 m, Rs.writes]
  simp

set_option maxHeartbeats 2000000 in
theorem commit_rd {w : World} {R lo : Nat} {s : Rs} (h : Rd w R lo s) :
    Calls Try.prog 53 #[.pointer (some ⟨R, 0, none⟩)] w fun x w' => ∃ v, x = .returned (.agg #[.int .i64 s.commit.1, v]) ∧ OwnW w' w.heap.size v s.commit.2.1 ∧ Rd w' R lo s.commit.2.2 ∧ Tn [R] w w' := by
  have H0 : Hid (RdB w ((w.alloc (.cells #[.int .i64 0, .slice none 0 0] 24)).alloc (.cells #[.int .i64 0, .slice none 0 0] 24)) R lo s w.heap.size 24 #[.int .i64 0, .slice none 0 0] #[.int .i64 0, .slice none 0 0]) := RdB.begin h _ _ _
  have hlo := h.le
  obtain ⟨i0, hi, hz0, hz1, hz2⟩ := info_parts wrinfo
  have HCW : Hid (s.commit = (s.num.1, Rs.writes (s.num.2.count 64).1.toNat (s.num.2.count 64).2)) := rfl
  clear h
  go_enter Try.func53, Try.ntmps53
  go_wp2_with fail
  refine (numB H0.out).mono ?_
  rintro e w1 ⟨rfl, h1⟩
  have H1 : Hid (RdB w w1 R lo s.num.2 w.heap.size 24 #[.int .i64 0, .slice none 0 0] #[.int .i64 0, .slice none 0 0]) := h1
  have c1 : w1.cell? ⟨w.heap.size + 1, 0, none⟩ = some (.int .i64 0) := h1.b.cell 0
  have f1 : w1.frozen? ⟨w.heap.size + 1, 0, none⟩ = false := h1.b.frozen 0
  clear h1 H0
  go_wp2_with fail
  have H1' : Hid (RdB w (w1.setCell ⟨w.heap.size + 1, 0, none⟩ (.int .i64 s.num.1)) R lo s.num.2 w.heap.size 24 #[.int .i64 0, .slice none 0 0] #[.int .i64 s.num.1, .slice none 0 0]) := H1.out.set 0 _
  refine (count_rd H1'.out.rd 64).mono ?_
  rintro e w2 ⟨rfl, h2, t2⟩
  have HC2 : Hid (RdC w w2 R lo (s.num.2.count 64).2 w.heap.size s.num.1 (.slice none 0 0) []) := ⟨H1'.out.step h2 t2, OwnW.nil _ _⟩
  have hcn : 0 ≤ (s.num.2.count 64).1 ∧ (s.num.2.count 64).1 ≤ 64 := by
    unfold Rs.count
    split
    · rename_i hq
      exact Rc.inn_iff.1 hq
    · simp
  generalize (s.num.2.count 64).2 = s2 at *
  generalize (s.num.2.count 64).1 = cn at *
  obtain ⟨N, rfl⟩ := Int.eq_ofNat_of_zero_le hcn.1
  rw [Int.toNat_natCast] at HCW
  clear h2 t2 H1 H1' c1 f1
  go_wp2_with fail
  go_loopw [9] (fun i wr => ∃ (k : Nat) (v : Value) (l : List Wr) (t : Rs), k ≤ N ∧ i = .int .i64 k ∧ Hid (l.length = k) ∧ Hid (RdC w wr R lo t w.heap.size s.num.1 v l) ∧ Hid (∀ m, Rs.writes (k + m) s2 = (l ++ (Rs.writes m t).1, (Rs.writes m t).2))) (fun i _ => N - (intOf i).toNat)
  case atStart => exact ⟨0, .slice none 0 0, [], s2, Nat.zero_le _, rfl, rfl, HC2, by simp [Hid]⟩
  case round =>
    obtain ⟨k, v, l, t, hk, rfl, HL, HF, HQ⟩ := hrel
    clear HC2
    by_cases hlt : k < N
    · have hli : (k : Int) < (N : Int) := by omega
      have HD : Hid (RdC w wr.drew R lo t w.heap.size s.num.1 v l) := HF.out.drew
      have c0 : wr.drew.cell? ⟨w.heap.size + 1, 1, none⟩ = some v := HD.out.b.b.cell 1
      have hll : l.length ≤ 64 := by have := HL.out; omega
      clear HF
      go_wp2_with fail
      go_region_law (first
        | (go_simp; go_at_call 66; refine (writeC HD.out).mono ?_; rintro e w3 ⟨rfl, h3⟩; have c3 : w3.cell? ⟨w.heap.size + 1, 1, none⟩ = some v := h3.b.b.cell 1; have h4 := h3.alloc (.cells #[.string t.write.1.key, .string t.write.1.val, .bool t.write.1.del] 33); have c4 : (w3.alloc (.cells #[.string t.write.1.key, .string t.write.1.val, .bool t.write.1.del] 33)).cell? ⟨w.heap.size + 1, 1, none⟩ = some v := h4.b.b.cell 1; have b4 := Bk.new w3 33 #[.string t.write.1.key, .string t.write.1.val, .bool t.write.1.del])
        | (refine step_own rfl _ _ 22 rfl (w.heap.size + 2) 33 i0 _ 3 40 Try.underlying22 hi hz0 hz1 hz2 rfl (by decide) v l.length (l.map Wr.cells).flatten (by go_simp) h4.own ⟨w3.heap.size, 0, none⟩ 1 1 t.write.1.cells (by go_simp) rfl (fun j u hj => by rw [Addr.add_lit, Nat.zero_add, b4.cell j]; simpa [Wr.cells] using hj) (wr_one _) (by unfold maxLen; omega) (by omega) (by have := h4.b.b.lt; omega) ?_; intro v5 w5 ho5 hg5 hv5; obtain ⟨g5, k5, rfl⟩ := own_some ho5 (by omega); have b5 := h4.b.b.grown hg5 h4.ne; have c5 := b5.cell 1; have f5 := b5.frozen 1; have h6 := h4.app hg5 (OwnW.snoc ho5)))
      all_goals
        have H6 : Hid (RdC w (w5.setCell ⟨w.heap.size + 1, 1, none⟩ (.slice (some ⟨g5, 0, none⟩) (l.length + 1) k5)) R lo t.write.2 w.heap.size s.num.1 (.slice (some ⟨g5, 0, none⟩) (l ++ [t.write.1]).length k5) (l ++ [t.write.1])) := by
          simpa [Hid] using h6
        have HQ6 : Hid _ := Rs.writes_snoc s2 t l k HQ.out
        have HL6 : Hid ((l ++ [t.write.1]).length = k + 1) := by have := HL.out; simp [Hid, this]
        clear h3 c3 h4 b4 c4 ho5 hg5 hv5 b5 c5 f5 h6 HD c0
        generalize w5.setCell ⟨w.heap.size + 1, 1, none⟩ (.slice (some ⟨g5, 0, none⟩) (l.length + 1) k5) = w6 at *
        go_wp2
        go_roundw
        case rel => exact ⟨k + 1, _, _, _, by omega, by go_num, HL6, H6, HQ6⟩
        case measure => simp [intOf]; omega
    · have hli : ¬ ((k : Int) < (N : Int)) := by omega
      have hkn : k = N := by omega
      obtain ⟨pv, cv, rfl⟩ := own_form HF.out.own
      have h := HF.out
      have d0 : wr.cell? ⟨w.heap.size + 1, 0, none⟩ = some (.int .i64 s.num.1) := h.b.b.cell 0
      have d1 : wr.cell? ⟨w.heap.size + 1, 1, none⟩ = some (.slice pv l.length cv) := h.b.b.cell 1
      have a0 : wr.cell? ⟨w.heap.size, 0, none⟩ = some (.int .i64 0) := h.b.a.cell 0
      have a1 : wr.cell? ⟨w.heap.size, 1, none⟩ = some (.slice none 0 0) := h.b.a.cell 1
      have g0 : wr.frozen? ⟨w.heap.size, 0, none⟩ = false := h.b.a.frozen 0
      have g1 : wr.frozen? ⟨w.heap.size, 1, none⟩ = false := h.b.a.frozen 1
      have HW : Hid (Rs.writes N s2 = (l, t)) := by
        have := HQ.out 0
        simp only [Nat.add_zero, Rs.writes, List.append_nil] at this
        rw [hkn] at this
        exact this
      clear h hkn
      go_wp2
      have hs := ((HF.out.b.setA 0 (.int .i64 s.num.1)).setA 1 (.slice pv l.length cv))
      have ho : OwnW ((wr.setCell ⟨w.heap.size, 0, none⟩ (.int .i64 s.num.1)).setCell ⟨w.heap.size, 1, none⟩ (.slice pv l.length cv)) w.heap.size (.slice pv l.length cv) l := by
        refine OwnW.mono (base := w.heap.size + 2) (HF.out.own.keptN fun j hj => ?_) (by omega)
        have h5 := (HF.out.own.lt j hj).1
        rw [Below.heap_setCell _ ⟨w.heap.size, 1, none⟩ _ j (by show j ≠ w.heap.size; omega), Below.heap_setCell _ ⟨w.heap.size, 0, none⟩ _ j (by show j ≠ w.heap.size; omega)]
      try simp only [Exit.inBlock, Exit.then]
      refine bodyPost_ret (results_one (cs := [.int .i64 s.num.1, .slice pv l.length cv]) rfl rfl cm_agg cm_size rfl hs.a) rfl ?_
      rw [HCW.out, HW.out]
      exact ⟨_, rfl, ho, hs.rd, hs.tn⟩

end Go.Proofs.Ytlfgclmgpbaenaa
