/- The document's commits are read. -/
import Derived.Test.YtlfgclmgpbaenaaRcTkW
import Derived.Test.YtlfgclmgpbaenaaRcCom2
namespace Go.Proofs.Ytlfgclmgpbaenaa
open Go.RowKit
set_option linter.unusedVariables false
set_option maxRecDepth 100000

/-- A commit under way. -/
structure TkC (w0 w : World) (K R d0 : Nat) (s : Rs) (A C : Nat) (ts : Int) (v : Value) (l : List Wr) : Prop where
  b : TkB [] w0 w K R d0 s A C 24 #[.int .i64 0, .slice none 0 0] #[.int .i64 ts, v]
  own : OwnW w (C + 1) v l
  lt : K < C ∧ R < C ∧ A < C

section
variable {w0 w : World} {K R d0 : Nat} {s : Rs} {A C : Nat} {ts : Int} {v : Value} {l : List Wr}

theorem TkC.below {w' : World} (h : TkC w0 w K R d0 s A C ts v l) (hb : Below w.heap.size w w') : TkC w0 w' K R d0 s A C ts v l := ⟨h.b.below hb, h.own.below hb, h.lt⟩

theorem TkC.ne (h : TkC w0 w K R d0 s A C ts v l) : v.ownBlock ≠ some C := fun e => by have := (h.own.lt _ e).1; omega

theorem writeTC (h : TkC w0 w K R d0 s A C ts v l) : Calls Try.prog 57 #[.pointer (some ⟨K, 0, none⟩)] w fun x w' => x = .returned (.agg #[.string s.write.1.key, .string s.write.1.val, .bool s.write.1.del]) ∧ TkC w0 w' K R d0 s.write.2 A C ts v l :=
  (write_tk h.b.tk).mono fun x w' ⟨a, b, c⟩ => ⟨a, h.b.step b c, h.own.tn c (by have := h.lt; simp; omega), h.lt⟩

theorem TkC.app {w' : World} {g k : Nat} {l' : List Wr} (h : TkC w0 w K R d0 s A C ts v l) (hg : w.grownBy w' v.ownBlock) (ho : OwnW w' (C + 1) (.slice (some ⟨g, 0, none⟩) l'.length k) l') :
    TkC w0 (w'.setCell ⟨C, 1, none⟩ (.slice (some ⟨g, 0, none⟩) l'.length k)) K R d0 s A C ts (.slice (some ⟨g, 0, none⟩) l'.length k) l' := by
  obtain ⟨l1, l2, l3⟩ := h.lt
  have hdC := h.b.d.2
  have hC0 : w0.heap.size ≤ C := by have := h.b.bS; simpa using this
  have hr : ∀ k, v.ownBlock = some k → C + 1 ≤ k := fun k hk => (h.own.lt k hk).1
  have ht : Tn v.ownBlock.toList w w' := (Tn.refl _ _).grown hg (fun k hk => .inl (by simp [hk]))
  have hS : ∀ b ∈ v.ownBlock.toList, C + 1 ≤ b := fun b hb => hr b (by simpa using hb)
  have hB : TkB [] w0 w' K R d0 s A C 24 #[.int .i64 0, .slice none 0 0] #[.int .i64 ts, v] := by
    refine ⟨h.b.tk.keep ht (fun hm => by have := hS _ hm; omega) (fun hm => by have := hS _ hm; omega) (fun b hb => by have := hS b hb; omega), h.b.a.tn ht (fun hm => by have := hS _ hm; omega), h.b.b.tn ht (fun hm => by have := hS _ hm; omega), h.b.tn.trans ht (fun x hx => .inr (by have := hS x hx; omega)), h.b.kS, h.b.rS, h.b.aS, h.b.bS, h.b.ne, h.b.d⟩
  refine ⟨hB.set 1 _, ho.keptN fun k hk => ?_, h.lt⟩
  refine Below.heap_setCell w' ⟨C, 1, none⟩ _ k ?_
  have := (ho.lt k hk).1
  show k ≠ C
  omega
end

/-- What a taker begins with. -/
theorem tk_new (w : World) (T : TypeId) (ca : Array Value) (p : Option Addr) (len cap : Nat) (xs : List Int) (hi : InB 9223372036854775807 w p len cap xs) (hl : xs.length ≤ 140737488355328) :
    Tk (((w.alloc (.cells ca T)).alloc (.cells #[.slice p len cap] 89)).alloc (.cells #[.pointer (some ⟨w.heap.size + 1, 0, none⟩), .int .i64 0] 91)) (w.heap.size + 2) (w.heap.size + 1) w.heap.size ⟨xs, 0⟩ ∧
    Bk (((w.alloc (.cells ca T)).alloc (.cells #[.slice p len cap] 89)).alloc (.cells #[.pointer (some ⟨w.heap.size + 1, 0, none⟩), .int .i64 0] 91)) w.heap.size T ca ∧
    Tn [] w (((w.alloc (.cells ca T)).alloc (.cells #[.slice p len cap] 89)).alloc (.cells #[.pointer (some ⟨w.heap.size + 1, 0, none⟩), .int .i64 0] 91)) := by
  have b1 := (Bk.new (w.alloc (.cells ca T)) 89 #[.slice p len cap]).alloc (.cells #[.pointer (some ⟨w.heap.size + 1, 0, none⟩), .int .i64 0] 91)
  have b2 := Bk.new ((w.alloc (.cells ca T)).alloc (.cells #[.slice p len cap] 89)) 91 #[.pointer (some ⟨w.heap.size + 1, 0, none⟩), .int .i64 0]
  rw [show (w.alloc (.cells ca T)).heap.size = w.heap.size + 1 by simp] at b1
  rw [show ((w.alloc (.cells ca T)).alloc (.cells #[.slice p len cap] 89)).heap.size = w.heap.size + 2 by simp] at b2
  have ht : Tn [] w (((w.alloc (.cells ca T)).alloc (.cells #[.slice p len cap] 89)).alloc (.cells #[.pointer (some ⟨w.heap.size + 1, 0, none⟩), .int .i64 0] 91)) := (((Tn.refl _ _).alloc _).alloc _).alloc _
  refine ⟨⟨b2, ⟨p, len, cap, b1, hi.tn ht (by simp), hl, fun hp ad had => ?_, by omega⟩, by omega, by omega⟩, ((Bk.new _ _ _).alloc _).alloc _, ht⟩
  obtain ⟨b, o, hpp, hc⟩ := hi.bys hp
  rw [hpp] at had
  cases had
  exact World.block_lt_of_cell? w _ (hc 0 hp)

set_option maxHeartbeats 4000000 in
theorem rtakeCommit_any (p : Option Addr) (len cap : Nat) (xs : List Int) (w : World) (hin : InB 9223372036854775807 w p len cap xs) (hl47 : xs.length ≤ 140737488355328) :
    Calls Try.prog 30 #[.slice p len cap] w fun x w' => ∃ v, x = .returned (.tuple #[.agg #[.int .i64 (Rc.takeCom xs).1, v], .int .i64 (Rc.takeCom xs).2.2]) ∧ OwnW w' w.heap.size v (Rc.takeCom xs).2.1 ∧ Below w.heap.size w w' := by
  obtain ⟨tk0, ba0, tn0⟩ := tk_new w 24 #[.int .i64 0, .slice none 0 0] p len cap xs hin hl47
  have H0 : Hid _ := tk0
  have HA0 : Hid _ := ba0
  have HT0 : Hid _ := tn0
  obtain ⟨i0, hi, hz0, hz1, hz2⟩ := info_parts wrinfo
  have HT : Hid (Rc.takeCom xs = if ((Rs.mk xs 0).commit.2.2.more.note (Rc.comE (Rs.mk xs 0).commit.1 (Rs.mk xs 0).commit.2.1)).e = 0 then ((Rs.mk xs 0).commit.1, (Rs.mk xs 0).commit.2.1, 0) else (0, [], ((Rs.mk xs 0).commit.2.2.more.note (Rc.comE (Rs.mk xs 0).commit.1 (Rs.mk xs 0).commit.2.1)).e)) := rfl
  have HCW : Hid ((Rs.mk xs 0).commit = ((Rs.mk xs 0).num.1, Rs.writes ((Rs.mk xs 0).num.2.count 64).1.toNat ((Rs.mk xs 0).num.2.count 64).2)) := rfl
  clear tk0 ba0 tn0 hin
  go_enter Try.func30, Try.ntmps30
  go_wp2_with fail
  refine (num_tk H0.out).mono ?_
  rintro e w1 ⟨rfl, h1, t1⟩
  obtain ⟨ts, s1, hN⟩ : ∃ n t, (Rs.mk xs 0).num = (n, t) := ⟨_, _, rfl⟩
  rw [hN] at h1 HCW ⊢
  simp only at h1 HCW ⊢
  have hs1 : w.heap.size + 3 ≤ w1.heap.size := by have := t1.size; simp at this; omega
  have H1 : Hid (TkB [] w (w1.alloc (.cells #[.int .i64 ts, .slice none 0 0] 24)) (w.heap.size + 2) (w.heap.size + 1) w.heap.size s1 w.heap.size w1.heap.size 24 #[.int .i64 0, .slice none 0 0] #[.int .i64 ts, .slice none 0 0]) :=
    ⟨h1.below ((Below.refl _ _).alloc (Nat.le_refl _) _), (Bk.tn HA0.out t1 (by simp)).alloc _, Bk.new _ _ _, (HT0.out.trans t1 (by simp)).alloc _, .inr (by omega), .inr (by omega), .inr (Nat.le_refl _), .inr (by omega), ⟨by omega, by omega, by omega, by omega, by omega⟩, ⟨Nat.le_refl _, by omega⟩⟩
  clear h1 t1 H0 HA0 HT0 hN
  go_wp2_with fail
  refine (count_tk H1.out.tk 64 (by omega)).mono ?_
  rintro e w2 ⟨rfl, h2, t2⟩
  have HC2 : Hid (TkC w w2 (w.heap.size + 2) (w.heap.size + 1) w.heap.size (s1.count 64).2 w.heap.size w1.heap.size ts (.slice none 0 0) []) := ⟨H1.out.step h2 t2, OwnW.nil _ _, ⟨by omega, by omega, by omega⟩⟩
  have hcn : 0 ≤ (s1.count 64).1 ∧ (s1.count 64).1 ≤ 64 := by
    unfold Rs.count
    split
    · rename_i hq
      exact Rc.inn_iff.1 hq
    · simp
  generalize (s1.count 64).2 = s2 at *
  generalize (s1.count 64).1 = cn at *
  obtain ⟨N, rfl⟩ := Int.eq_ofNat_of_zero_le hcn.1
  rw [Int.toNat_natCast] at HCW
  clear h2 t2 H1
  generalize hC : w1.heap.size = C at *
  go_wp2_with fail
  go_loopw [7] (fun i wr => ∃ (k : Nat) (v : Value) (l : List Wr) (t : Rs), k ≤ N ∧ i = .int .i64 k ∧ Hid (l.length = k) ∧ Hid (TkC w wr (w.heap.size + 2) (w.heap.size + 1) w.heap.size t w.heap.size C ts v l) ∧ Hid (∀ m, Rs.writes (k + m) s2 = (l ++ (Rs.writes m t).1, (Rs.writes m t).2))) (fun i _ => N - (intOf i).toNat)
  case atStart => exact ⟨0, .slice none 0 0, [], s2, Nat.zero_le _, rfl, rfl, HC2, by simp [Hid]⟩
  case round =>
    obtain ⟨k, v, l, t, hk, rfl, HL, HF, HQ⟩ := hrel
    clear HC2
    by_cases hlt : k < N
    · have hli : (k : Int) < (N : Int) := by omega
      have HD : Hid (TkC w wr.drew (w.heap.size + 2) (w.heap.size + 1) w.heap.size t w.heap.size C ts v l) := HF.out.below ((Below.refl _ _).drew)
      have c0 : wr.drew.cell? ⟨C, 1, none⟩ = some v := HD.out.b.b.cell 1
      have hll : l.length ≤ 64 := by have := HL.out; omega
      clear HF
      go_wp2_with fail
      go_region_law (first
        | (go_simp; go_at_call 57; refine (writeTC HD.out).mono ?_; rintro e w3 ⟨rfl, h3⟩; have c3 : w3.cell? ⟨C, 1, none⟩ = some v := h3.b.b.cell 1; have h4 := h3.below (w' := w3.alloc (.cells #[.string t.write.1.key, .string t.write.1.val, .bool t.write.1.del] 33)) ((Below.refl _ _).alloc (Nat.le_refl _) _); have c4 : (w3.alloc (.cells #[.string t.write.1.key, .string t.write.1.val, .bool t.write.1.del] 33)).cell? ⟨C, 1, none⟩ = some v := h4.b.b.cell 1; have b4 := Bk.new w3 33 #[.string t.write.1.key, .string t.write.1.val, .bool t.write.1.del])
        | (refine step_own rfl _ _ 22 rfl (C + 1) 33 i0 _ 3 40 Try.underlying22 hi hz0 hz1 hz2 rfl (by decide) v l.length (l.map Wr.cells).flatten (by go_simp) h4.own ⟨w3.heap.size, 0, none⟩ 1 1 t.write.1.cells (by go_simp) rfl (fun j u hj => by rw [Addr.add_lit, Nat.zero_add, b4.cell j]; simpa [Wr.cells] using hj) (wr_one _) (by unfold maxLen; omega) (by omega) (by have := h4.b.b.lt; omega) ?_; intro v5 w5 ho5 hg5 hv5; obtain ⟨g5, k5, rfl⟩ := own_some ho5 (by omega); have b5 := h4.b.b.grown hg5 h4.ne; have c5 := b5.cell 1; have f5 := b5.frozen 1; have h6 := h4.app hg5 (OwnW.snoc ho5)))
      all_goals
        have H6 : Hid (TkC w (w5.setCell ⟨C, 1, none⟩ (.slice (some ⟨g5, 0, none⟩) (l.length + 1) k5)) (w.heap.size + 2) (w.heap.size + 1) w.heap.size t.write.2 w.heap.size C ts (.slice (some ⟨g5, 0, none⟩) (l ++ [t.write.1]).length k5) (l ++ [t.write.1])) := by
          simpa [Hid] using h6
        have HQ6 : Hid _ := Rs.writes_snoc s2 t l k HQ.out
        have HL6 : Hid ((l ++ [t.write.1]).length = k + 1) := by have := HL.out; simp [Hid, this]
        clear h3 c3 h4 b4 c4 ho5 hg5 hv5 b5 c5 f5 h6 HD c0
        generalize w5.setCell ⟨C, 1, none⟩ (.slice (some ⟨g5, 0, none⟩) (l.length + 1) k5) = w6 at *
        go_wp2
        go_roundw
        case rel => exact ⟨k + 1, _, _, _, by omega, by go_num, HL6, H6, HQ6⟩
        case measure => simp [intOf]; omega
    · have hli : ¬ ((k : Int) < (N : Int)) := by omega
      have hkn : k = N := by omega
      obtain ⟨pv, cv, rfl⟩ := own_form HF.out.own
      have HW : Hid (Rs.writes N s2 = (l, t)) := by
        have := HQ.out 0
        simp only [Nat.add_zero, Rs.writes, List.append_nil] at this
        rw [hkn] at this
        exact this
      have HT2 : Hid (Rc.takeCom xs = if (t.more.note (Rc.comE ts l)).e = 0 then (ts, l, 0) else (0, [], (t.more.note (Rc.comE ts l)).e)) := by
        unfold Hid
        rw [HT.out, HCW.out, HW.out]
      clear hkn HQ HW HT HCW
      go_wp2_with fail
      refine (ends_tk HF.out.b.tk).mono ?_
      rintro e w7 ⟨rfl, h7, t7⟩
      obtain ⟨z, hz⟩ : ∃ z, t.more = z := ⟨_, rfl⟩
      rw [hz] at h7 HT2 ⊢
      have b7 := HF.out.b.step h7 t7
      have HO7 : Hid (OwnW w7 (C + 1) (.slice pv l.length cv) l) := HF.out.own.tn t7 (by have := HF.out.lt; simp; omega)
      have HB7 : Hid (TkB [] w w7 (w.heap.size + 2) (w.heap.size + 1) w.heap.size z w.heap.size C 24 #[.int .i64 0, .slice none 0 0] #[.int .i64 ts, .slice pv l.length cv]) := b7
      have m0 : w7.cell? ⟨C, 0, none⟩ = some (.int .i64 ts) := b7.b.cell 0
      have m1 : w7.cell? ⟨C, 1, none⟩ = some (.slice pv l.length cv) := b7.b.cell 1
      have hCA : w.heap.size + 3 ≤ C := hs1
      clear h7 t7 b7 hz HF
      by_cases hze : z.e = 0
      · have hzb : (z.e == 0) = true := by simpa using hze
        have HE : Hid ((z.note (Rc.comE ts l)).e = Rc.comE ts l) := by unfold Hid Rs.note; rw [if_pos hze]
        rw [HE.out] at HT2
        go_wp2_with fail
        refine (rcheckCommit_any ts pv l.length cv l _ HO7.out.inw).mono ?_
        rintro e w8 ⟨rfl, hb8⟩
        have b8 := HB7.out.below hb8
        have HO8 : Hid (OwnW w8 (C + 1) (.slice pv l.length cv) l) := HO7.out.below hb8
        have HB8 : Hid (TkB [] w w8 (w.heap.size + 2) (w.heap.size + 1) w.heap.size z w.heap.size C 24 #[.int .i64 0, .slice none 0 0] #[.int .i64 ts, .slice pv l.length cv]) := b8
        have m0 : w8.cell? ⟨C, 0, none⟩ = some (.int .i64 ts) := b8.b.cell 0
        have m1 : w8.cell? ⟨C, 1, none⟩ = some (.slice pv l.length cv) := b8.b.cell 1
        have k0 : w8.cell? ⟨w.heap.size, 0, none⟩ = some (.int .i64 0) := b8.a.cell 0
        have k1 : w8.cell? ⟨w.heap.size, 1, none⟩ = some (.slice none 0 0) := b8.a.cell 1
        have f0 : w8.frozen? ⟨w.heap.size, 0, none⟩ = false := b8.a.frozen 0
        have f1 : w8.frozen? ⟨w.heap.size, 1, none⟩ = false := b8.a.frozen 1
        clear hb8 b8 HO7 HB7 hze
        by_cases hc : Rc.comE ts l = 0
        · have hcb : (Rc.comE ts l != 0) = false := by simpa using hc
          rw [if_pos hc] at HT2
          clear hc
          go_wp2
          try simp only [Exit.inBlock, Exit.then]
          have hk := ((HB8.out.setA 0 (.int .i64 ts)).setA 1 (.slice pv l.length cv))
          refine bodyPost_ret (results_two (cs := [.int .i64 ts, .slice pv l.length cv]) rfl rfl cm_agg cm_size rfl hk.a) rfl ?_
          rw [HT2.out]
          refine ⟨_, rfl, ?_, hk.tn.below (Nat.le_refl _) (by simp)⟩
          refine OwnW.mono (base := C + 1) (HO8.out.keptN fun j hj => ?_) (by omega)
          have h5 := (HO8.out.lt j hj).1
          rw [Below.heap_setCell _ ⟨w.heap.size, 1, none⟩ _ j (by show j ≠ w.heap.size; omega), Below.heap_setCell _ ⟨w.heap.size, 0, none⟩ _ j (by show j ≠ w.heap.size; omega)]
        · have hcb : (Rc.comE ts l != 0) = true := by simpa using hc
          rw [if_neg hc] at HT2
          clear hc
          go_wp2
          try simp only [Exit.inBlock, Exit.then]
          have hk := ((HB8.out.setA 0 (.int .i64 0)).setA 1 (.slice none 0 0))
          refine bodyPost_ret (results_two (cs := [.int .i64 0, .slice none 0 0]) rfl rfl cm_agg cm_size rfl hk.a) rfl ?_
          rw [HT2.out]
          exact ⟨_, rfl, OwnW.nil _ _, hk.tn.below (Nat.le_refl _) (by simp)⟩
      · have hzb : (z.e == 0) = false := by simpa using hze
        have hzb2 : (z.e != 0) = true := by simpa using hze
        have HE : Hid ((z.note (Rc.comE ts l)).e = z.e) := by unfold Hid Rs.note; rw [if_neg hze]
        rw [HE.out, if_neg hze] at HT2
        have k0 : w7.cell? ⟨w.heap.size, 0, none⟩ = some (.int .i64 0) := HB7.out.a.cell 0
        have k1 : w7.cell? ⟨w.heap.size, 1, none⟩ = some (.slice none 0 0) := HB7.out.a.cell 1
        have f0 : w7.frozen? ⟨w.heap.size, 0, none⟩ = false := HB7.out.a.frozen 0
        have f1 : w7.frozen? ⟨w.heap.size, 1, none⟩ = false := HB7.out.a.frozen 1
        clear hze
        go_wp2
        try simp only [Exit.inBlock, Exit.then]
        have hk := ((HB7.out.setA 0 (.int .i64 0)).setA 1 (.slice none 0 0))
        refine bodyPost_ret (results_two (cs := [.int .i64 0, .slice none 0 0]) rfl rfl cm_agg cm_size rfl hk.a) rfl ?_
        rw [HT2.out]
        exact ⟨_, rfl, OwnW.nil _ _, hk.tn.below (Nat.le_refl _) (by simp)⟩

end Go.Proofs.Ytlfgclmgpbaenaa
