/- The document's chunks are read. -/
import Derived.Test.YtlfgclmgpbaenaaRcTkC
import Derived.Test.YtlfgclmgpbaenaaRcRdH
import Derived.Test.YtlfgclmgpbaenaaRcCh
import Derived.Test.YtlfgclmgpbaenaaRcEnd2
namespace Go.Proofs.Ytlfgclmgpbaenaa
open Go.RowKit
set_option linter.unusedVariables false
set_option maxRecDepth 100000

/-- A commit under way. -/
structure TkH (w0 w : World) (K R d0 : Nat) (s : Rs) (A C : Nat) (ts : Int) (d : Bool) (v : Value) (l : List St) : Prop where
  b : TkB [] w0 w K R d0 s A C 27 #[.int .i64 0, .slice none 0 0, .bool false] #[.int .i64 ts, v, .bool d]
  own : OwnS w (C + 1) v l
  lt : K < C ∧ R < C ∧ A < C

section
variable {w0 w : World} {K R d0 : Nat} {s : Rs} {A C : Nat} {ts : Int} {d : Bool} {v : Value} {l : List St}

theorem TkH.below {w' : World} (h : TkH w0 w K R d0 s A C ts d v l) (hb : Below w.heap.size w w') : TkH w0 w' K R d0 s A C ts d v l := ⟨h.b.below hb, h.own.below hb, h.lt⟩

theorem TkH.ne (h : TkH w0 w K R d0 s A C ts d v l) : v.ownBlock ≠ some C := fun e => by have := (h.own.lt _ e).1; omega

theorem TkH.step {w' : World} {s' : Rs} (h : TkH w0 w K R d0 s A C ts d v l) (hr : Tk w' K R d0 s') (ht : Tn [K, R] w w') : TkH w0 w' K R d0 s' A C ts d v l := ⟨h.b.step hr ht, h.own.tn ht (by have := h.lt; simp; omega), h.lt⟩

theorem TkH.other {w' : World} {X : Nat} (h : TkH w0 w K R d0 s A C ts d v l) (ht : Tn [X] w w') (hX : C < X) (ho : v.ownBlock ≠ some X) : TkH w0 w' K R d0 s A C ts d v l := by
  obtain ⟨l1, l2, l3⟩ := h.lt
  have hdC := h.b.d.2
  have hC0 : w0.heap.size ≤ C := by have := h.b.bS; simpa using this
  refine ⟨⟨h.b.tk.keep ht (by simp; omega) (by simp; omega) (by simp; omega), h.b.a.tn ht (by simp; omega), h.b.b.tn ht (by simp; omega), h.b.tn.trans ht (fun x hx => .inr (by simp at hx; omega)), h.b.kS, h.b.rS, h.b.aS, h.b.bS, h.b.ne, h.b.d⟩, h.own.keptN fun k hk => ht.block k (h.own.lt k hk).2 (fun hm => ?_), h.lt⟩
  simp only [List.mem_singleton] at hm
  subst hm
  exact ho hk

theorem TkH.app {w' : World} {g k : Nat} {l' : List St} (h : TkH w0 w K R d0 s A C ts d v l) (hg : w.grownBy w' v.ownBlock) (ho : OwnS w' (C + 1) (.slice (some ⟨g, 0, none⟩) l'.length k) l') :
    TkH w0 (w'.setCell ⟨C, 1, none⟩ (.slice (some ⟨g, 0, none⟩) l'.length k)) K R d0 s A C ts d (.slice (some ⟨g, 0, none⟩) l'.length k) l' := by
  obtain ⟨l1, l2, l3⟩ := h.lt
  have hdC := h.b.d.2
  have hC0 : w0.heap.size ≤ C := by have := h.b.bS; simpa using this
  have hr : ∀ k, v.ownBlock = some k → C + 1 ≤ k := fun k hk => (h.own.lt k hk).1
  have ht : Tn v.ownBlock.toList w w' := (Tn.refl _ _).grown hg (fun k hk => .inl (by simp [hk]))
  have hS : ∀ b ∈ v.ownBlock.toList, C + 1 ≤ b := fun b hb => hr b (by simpa using hb)
  have hB : TkB [] w0 w' K R d0 s A C 27 #[.int .i64 0, .slice none 0 0, .bool false] #[.int .i64 ts, v, .bool d] := by
    refine ⟨h.b.tk.keep ht (fun hm => by have := hS _ hm; omega) (fun hm => by have := hS _ hm; omega) (fun b hb => by have := hS b hb; omega), h.b.a.tn ht (fun hm => by have := hS _ hm; omega), h.b.b.tn ht (fun hm => by have := hS _ hm; omega), h.b.tn.trans ht (fun x hx => .inr (by have := hS x hx; omega)), h.b.kS, h.b.rS, h.b.aS, h.b.bS, h.b.ne, h.b.d⟩
  refine ⟨hB.set 1 _, ho.keptN fun k hk => ?_, h.lt⟩
  refine Below.heap_setCell w' ⟨C, 1, none⟩ _ k ?_
  have := (ho.lt k hk).1
  show k ≠ C
  omega
end

set_option maxHeartbeats 400000 in
theorem whole_any (n : Int) (w : World) : Calls Try.prog 60 #[.int .i64 n] w fun e w' => e = .returned (.int .i64 n) ∧ w' = w := by
  go_enter Try.func60, Try.ntmps60
  go_wp2
  go_ret
  exact ⟨rfl, rfl⟩

set_option maxHeartbeats 4000000 in
theorem rtakeChunk_any (p : Option Addr) (len cap : Nat) (xs : List Int) (w : World) (hin : InB 9223372036854775807 w p len cap xs) (hl47 : xs.length ≤ 140737488355328) :
    Calls Try.prog 32 #[.slice p len cap] w fun x w' => ∃ v, x = .returned (.tuple #[.agg #[.int .i64 (Rc.takeCh xs).1, v, .bool (Rc.takeCh xs).2.1], .int .i64 (Rc.takeCh xs).2.2.2]) ∧ OwnS w' w.heap.size v (Rc.takeCh xs).2.2.1 ∧ Below w.heap.size w w' := by
  obtain ⟨tk0, ba0, tn0⟩ := tk_new w 27 #[.int .i64 0, .slice none 0 0, .bool false] p len cap xs hin hl47
  have H0 : Hid _ := tk0
  have HA0 : Hid _ := ba0
  have HT0 : Hid _ := tn0
  obtain ⟨i0, hi, hz0, hz1, hz2⟩ := info_parts stinfo
  have HT : Hid (Rc.takeCh xs = if ((Rs.mk xs 0).chunk.2.2.2.more.note (Rc.chE (Rs.mk xs 0).chunk.1 (Rs.mk xs 0).chunk.2.2.1)).e = 0 then ((Rs.mk xs 0).chunk.1, (Rs.mk xs 0).chunk.2.1, (Rs.mk xs 0).chunk.2.2.1, 0) else (0, false, [], ((Rs.mk xs 0).chunk.2.2.2.more.note (Rc.chE (Rs.mk xs 0).chunk.1 (Rs.mk xs 0).chunk.2.2.1)).e)) := rfl
  have HCW : Hid ((Rs.mk xs 0).chunk = ((Rs.mk xs 0).num.1, (Rs.mk xs 0).num.2.flag.1, Rs.stampeds ((Rs.mk xs 0).num.2.flag.2.count 16).1.toNat ((Rs.mk xs 0).num.2.flag.2.count 16).2)) := rfl
  have HZZ : Hid (∀ g ∈ (Rs.mk xs 0).chunk.2.2.1, -9223372036854775808 ≤ g.ts ∧ g.ts ≤ 9223372036854775807) := Rs.chunk_fits xs hin.byte
  clear tk0 ba0 tn0 hin
  go_enter Try.func32, Try.ntmps32
  go_wp2_with fail
  refine (num_tk H0.out).mono ?_
  rintro e w1 ⟨rfl, h1, t1⟩
  obtain ⟨ts, s1, hN⟩ : ∃ n t, (Rs.mk xs 0).num = (n, t) := ⟨_, _, rfl⟩
  rw [hN] at h1 HCW ⊢
  simp only at h1 HCW ⊢
  have hs1 : w.heap.size + 3 ≤ w1.heap.size := by have := t1.size; simp at this; omega
  have H1 : Hid (TkB [] w (w1.alloc (.cells #[.int .i64 ts, .slice none 0 0, .bool false] 27)) (w.heap.size + 2) (w.heap.size + 1) w.heap.size s1 w.heap.size w1.heap.size 27 #[.int .i64 0, .slice none 0 0, .bool false] #[.int .i64 ts, .slice none 0 0, .bool false]) :=
    ⟨h1.below ((Below.refl _ _).alloc (Nat.le_refl _) _), (Bk.tn HA0.out t1 (by simp)).alloc _, Bk.new _ _ _, (HT0.out.trans t1 (by simp)).alloc _, .inr (by omega), .inr (by omega), .inr (Nat.le_refl _), .inr (by omega), ⟨by omega, by omega, by omega, by omega, by omega⟩, ⟨Nat.le_refl _, by omega⟩⟩
  clear h1 t1 H0 HA0 HT0 hN
  go_wp2_with fail
  refine (whole_any ts _).mono ?_
  rintro e w1b ⟨rfl, hw1b⟩
  subst hw1b
  go_wp2_with fail
  refine (flagT H1.out).mono ?_
  rintro e w1c ⟨rfl, h1c⟩
  obtain ⟨d, s1f, hF⟩ : ∃ n t, s1.flag = (n, t) := ⟨_, _, rfl⟩
  rw [hF] at h1c HCW ⊢
  simp only at h1c HCW ⊢
  have cc : w1c.cell? ⟨w1b.heap.size, 2, none⟩ = some (.bool false) := h1c.b.cell 2
  have cf : w1c.frozen? ⟨w1b.heap.size, 2, none⟩ = false := h1c.b.frozen 2
  have H1c : Hid (TkB [] w (w1c.setCell ⟨w1b.heap.size, 2, none⟩ (.bool d)) (w.heap.size + 2) (w.heap.size + 1) w.heap.size s1f w.heap.size w1b.heap.size 27 #[.int .i64 0, .slice none 0 0, .bool false] #[.int .i64 ts, .slice none 0 0, .bool d]) := h1c.set 2 _
  clear h1c hF H1
  go_wp2_with fail
  refine (count_tk H1c.out.tk 16 (by omega)).mono ?_
  rintro e w2 ⟨rfl, h2, t2⟩
  have HC2 : Hid (TkH w w2 (w.heap.size + 2) (w.heap.size + 1) w.heap.size (s1f.count 16).2 w.heap.size w1b.heap.size ts d (.slice none 0 0) []) := ⟨H1c.out.step h2 t2, OwnS.nil _ _, ⟨by omega, by omega, by omega⟩⟩
  have hcn : 0 ≤ (s1f.count 16).1 ∧ (s1f.count 16).1 ≤ 16 := by
    unfold Rs.count
    split
    · rename_i hq
      exact Rc.inn_iff.1 hq
    · simp
  generalize (s1f.count 16).2 = s2 at *
  generalize (s1f.count 16).1 = cn at *
  obtain ⟨N, rfl⟩ := Int.eq_ofNat_of_zero_le hcn.1
  rw [Int.toNat_natCast] at HCW
  clear h2 t2 H1c cc cf
  generalize hC : w1b.heap.size = C at *
  go_wp2_with fail
  go_loopw [7] (fun i wr => ∃ (k : Nat) (v : Value) (l : List St) (t : Rs), k ≤ N ∧ i = .int .i64 k ∧ Hid (l.length = k) ∧ Hid (TkH w wr (w.heap.size + 2) (w.heap.size + 1) w.heap.size t w.heap.size C ts d v l) ∧ Hid (∀ m, Rs.stampeds (k + m) s2 = (l ++ (Rs.stampeds m t).1, (Rs.stampeds m t).2))) (fun i _ => N - (intOf i).toNat)
  case atStart => exact ⟨0, .slice none 0 0, [], s2, Nat.zero_le _, rfl, rfl, HC2, by simp [Hid]⟩
  case round =>
    obtain ⟨k, v, l, t, hk, rfl, HL, HF, HQ⟩ := hrel
    clear HC2
    by_cases hlt : k < N
    · have hli : (k : Int) < (N : Int) := by omega
      have hll : l.length ≤ 64 := by have := HL.out; omega
      go_wp2_with fail
      refine (text_tk HF.out.b.tk).mono ?_
      rintro e w3 ⟨rfl, h3, t3⟩
      have h3b := HF.out.step h3 t3
      have hCX : C < w3.heap.size := by have := h3b.b.b.lt; omega
      have hoX : v.ownBlock ≠ some w3.heap.size := fun e => by have := (h3b.own.lt _ e).2; omega
      have H4 : Hid (TkH w (w3.alloc (.cells #[.string t.text.1, .string .empty, .int .i64 0] 70)) (w.heap.size + 2) (w.heap.size + 1) w.heap.size t.text.2 w.heap.size C ts d v l) := h3b.below ((Below.refl _ _).alloc (Nat.le_refl _) _)
      have X4 : Hid (Bk (w3.alloc (.cells #[.string t.text.1, .string .empty, .int .i64 0] 70)) w3.heap.size 70 #[.string t.text.1, .string .empty, .int .i64 0]) := Bk.new _ _ _
      have hKX : w.heap.size + 2 < C ∧ w.heap.size + 1 < C ∧ w.heap.size < C := h3b.lt
      clear h3 t3 h3b HF
      generalize hX : w3.heap.size = X at *
      go_wp2_with fail
      refine (text_tk H4.out.b.tk).mono ?_
      rintro e w5 ⟨rfl, h5, t5⟩
      have h5b := H4.out.step h5 t5
      have x5 := X4.out.tn t5 (by simp; omega)
      have c5 : w5.cell? ⟨X, 1, none⟩ = some (.string .empty) := x5.cell 1
      have f5 : w5.frozen? ⟨X, 1, none⟩ = false := x5.frozen 1
      have t6 : Tn [X] w5 (w5.setCell ⟨X, 1, none⟩ (.string t.text.2.text.1)) := (Tn.refl _ _).setCell (.inl (by simp)) _
      have H6 : Hid (TkH w (w5.setCell ⟨X, 1, none⟩ (.string t.text.2.text.1)) (w.heap.size + 2) (w.heap.size + 1) w.heap.size t.text.2.text.2 w.heap.size C ts d v l) := h5b.other t6 hCX hoX
      have X6 : Hid (Bk (w5.setCell ⟨X, 1, none⟩ (.string t.text.2.text.1)) X 70 #[.string t.text.1, .string t.text.2.text.1, .int .i64 0]) := x5.set 1 _
      clear h5 t5 h5b x5 t6 H4 X4
      go_wp2_with fail
      refine (num_tk H6.out.b.tk).mono ?_
      rintro e w7 ⟨rfl, h7, t7⟩
      have h7b := H6.out.step h7 t7
      have x7 := X6.out.tn t7 (by simp; omega)
      have c7 : w7.cell? ⟨X, 2, none⟩ = some (.int .i64 0) := x7.cell 2
      have f7 : w7.frozen? ⟨X, 2, none⟩ = false := x7.frozen 2
      have c70 : w7.cell? ⟨X, 0, none⟩ = some (.string t.text.1) := x7.cell 0
      have c71 : w7.cell? ⟨X, 1, none⟩ = some (.string t.text.2.text.1) := x7.cell 1
      have t8 : Tn [X] w7 (w7.setCell ⟨X, 2, none⟩ (.int .i64 t.text.2.text.2.num.1)) := (Tn.refl _ _).setCell (.inl (by simp)) _
      have h8 := h7b.other t8 hCX hoX
      have h9 := h8.below (w' := (w7.setCell ⟨X, 2, none⟩ (.int .i64 t.text.2.text.2.num.1)).alloc (.cells #[.string t.text.1, .string t.text.2.text.1, .int .i64 t.text.2.text.2.num.1] 70)) ((Below.refl _ _).alloc (Nat.le_refl _) _)
      have H9 : Hid (TkH w ((w7.setCell ⟨X, 2, none⟩ (.int .i64 t.text.2.text.2.num.1)).alloc (.cells #[.string t.text.1, .string t.text.2.text.1, .int .i64 t.text.2.text.2.num.1] 70)) (w.heap.size + 2) (w.heap.size + 1) w.heap.size t.stamped.2 w.heap.size C ts d v l) := h9
      have B9 : Hid (Bk ((w7.setCell ⟨X, 2, none⟩ (.int .i64 t.text.2.text.2.num.1)).alloc (.cells #[.string t.text.1, .string t.text.2.text.1, .int .i64 t.text.2.text.2.num.1] 70)) (w7.setCell ⟨X, 2, none⟩ (.int .i64 t.text.2.text.2.num.1)).heap.size 70 t.stamped.1.cells.toArray) := Bk.new _ _ _
      have e81 : (w7.setCell ⟨X, 2, none⟩ (.int .i64 t.text.2.text.2.num.1)).cell? ⟨C, 1, none⟩ = some v := h8.b.b.cell 1
      have e71 : w7.cell? ⟨C, 1, none⟩ = some v := h7b.b.b.cell 1
      have hs7 : (w7.setCell ⟨X, 2, none⟩ (.int .i64 t.text.2.text.2.num.1)).heap.size = w7.heap.size := by simp [World.setCell]
      rw [hs7] at B9
      have hXC : ¬ (X = C) := by omega
      have hXC2 : ¬ (C = X) := by omega
      clear h7 t7 h7b x7 t8 h8 h9 H6 X6
      go_wp2_with (at_builtin; refine wpList_append_own_at (P := Try.prog) _ rfl _ _ 25 rfl (C + 1) 70 i0 _ 3 40 Try.underlying25 hi hz0 hz1 hz2 rfl (by decide) v l.length (l.map St.cells).flatten rfl H9.out.own ⟨w7.heap.size, 0, none⟩ 1 1 t.stamped.1.cells rfl rfl (fun j u hj => by rw [Addr.add_lit, Nat.zero_add, B9.out.cell j]; simpa using hj) (st_one _) (by unfold maxLen; omega) (by omega) (by have := H9.out.b.b.lt; omega) ?_; intro v10 w10 ho10 hg10 _ hv10; refine Hid.out ?_)
      obtain ⟨g10, k10, rfl⟩ := own_some ho10 (by omega)
      have b10 := H9.out.b.b.grown hg10 H9.out.ne
      have c10 : w10.cell? ⟨C, 1, none⟩ = some v := b10.cell 1
      have f10 : w10.frozen? ⟨C, 1, none⟩ = false := b10.frozen 1
      have h11 := H9.out.app hg10 (OwnS.snoc ho10)
      have H11 : Hid (TkH w (w10.setCell ⟨C, 1, none⟩ (.slice (some ⟨g10, 0, none⟩) (l.length + 1) k10)) (w.heap.size + 2) (w.heap.size + 1) w.heap.size t.stamped.2 w.heap.size C ts d (.slice (some ⟨g10, 0, none⟩) (l ++ [t.stamped.1]).length k10) (l ++ [t.stamped.1])) := by
        simpa [Hid] using h11
      have HQ6 : Hid _ := Rs.stampeds_snoc s2 t l k HQ.out
      have HL6 : Hid ((l ++ [t.stamped.1]).length = k + 1) := by have := HL.out; simp [Hid, this]
      clear ho10 hg10 hv10 b10 h11 H9 B9 e81 e71 hs7 c7 f7 c70 c71 c5 f5
      unfold Hid
      go_wp2
      go_roundw
      case rel => exact ⟨k + 1, _, _, _, by omega, by go_num, HL6, H11, HQ6⟩
      case measure => simp [intOf]; omega
    · have hli : ¬ ((k : Int) < (N : Int)) := by omega
      have hkn : k = N := by omega
      obtain ⟨pv, cv, rfl⟩ := own_form HF.out.own
      have HW : Hid (Rs.stampeds N s2 = (l, t)) := by
        have := HQ.out 0
        simp only [Nat.add_zero, Rs.stampeds, List.append_nil] at this
        rw [hkn] at this
        exact this
      have HT2 : Hid (Rc.takeCh xs = if (t.more.note (Rc.chE ts l)).e = 0 then (ts, d, l, 0) else (0, false, [], (t.more.note (Rc.chE ts l)).e)) := by
        unfold Hid
        rw [HT.out, HCW.out, HW.out]
      have HZ2 : Hid (∀ g ∈ l, -9223372036854775808 ≤ g.ts ∧ g.ts ≤ 9223372036854775807) := by
        have := HZZ.out
        rw [HCW.out, HW.out] at this
        exact this
      clear hkn HQ HW HT HCW HZZ
      go_wp2_with fail
      refine (ends_tk HF.out.b.tk).mono ?_
      rintro e w7 ⟨rfl, h7, t7⟩
      obtain ⟨z, hz⟩ : ∃ z, t.more = z := ⟨_, rfl⟩
      rw [hz] at h7 HT2 ⊢
      have b7 := HF.out.b.step h7 t7
      have HO7 : Hid (OwnS w7 (C + 1) (.slice pv l.length cv) l) := HF.out.own.tn t7 (by have := HF.out.lt; simp; omega)
      have HB7 : Hid (TkB [] w w7 (w.heap.size + 2) (w.heap.size + 1) w.heap.size z w.heap.size C 27 #[.int .i64 0, .slice none 0 0, .bool false] #[.int .i64 ts, .slice pv l.length cv, .bool d]) := b7
      have m0 : w7.cell? ⟨C, 0, none⟩ = some (.int .i64 ts) := b7.b.cell 0
      have m1 : w7.cell? ⟨C, 1, none⟩ = some (.slice pv l.length cv) := b7.b.cell 1
      have m2 : w7.cell? ⟨C, 2, none⟩ = some (.bool d) := b7.b.cell 2
      have hCA : w.heap.size + 3 ≤ C := hs1
      clear h7 t7 b7 hz HF
      by_cases hze : z.e = 0
      · have hzb : (z.e == 0) = true := by simpa using hze
        have HE : Hid ((z.note (Rc.chE ts l)).e = Rc.chE ts l) := by unfold Hid Rs.note; rw [if_pos hze]
        rw [HE.out] at HT2
        go_wp2_with fail
        refine (rcheckChunk_any ts pv l.length cv l d _ (HO7.out.ins HZ2.out)).mono ?_
        rintro e w8 ⟨rfl, hb8⟩
        have b8 := HB7.out.below hb8
        have HO8 : Hid (OwnS w8 (C + 1) (.slice pv l.length cv) l) := HO7.out.below hb8
        have HB8 : Hid (TkB [] w w8 (w.heap.size + 2) (w.heap.size + 1) w.heap.size z w.heap.size C 27 #[.int .i64 0, .slice none 0 0, .bool false] #[.int .i64 ts, .slice pv l.length cv, .bool d]) := b8
        have m0 : w8.cell? ⟨C, 0, none⟩ = some (.int .i64 ts) := b8.b.cell 0
        have m1 : w8.cell? ⟨C, 1, none⟩ = some (.slice pv l.length cv) := b8.b.cell 1
        have m2 : w8.cell? ⟨C, 2, none⟩ = some (.bool d) := b8.b.cell 2
        have k0 : w8.cell? ⟨w.heap.size, 0, none⟩ = some (.int .i64 0) := b8.a.cell 0
        have k1 : w8.cell? ⟨w.heap.size, 1, none⟩ = some (.slice none 0 0) := b8.a.cell 1
        have f0 : w8.frozen? ⟨w.heap.size, 0, none⟩ = false := b8.a.frozen 0
        have f1 : w8.frozen? ⟨w.heap.size, 1, none⟩ = false := b8.a.frozen 1
        have k2 : w8.cell? ⟨w.heap.size, 2, none⟩ = some (.bool false) := b8.a.cell 2
        have f2 : w8.frozen? ⟨w.heap.size, 2, none⟩ = false := b8.a.frozen 2
        clear hb8 b8 HO7 HB7 hze
        by_cases hc : Rc.chE ts l = 0
        · have hcb : (Rc.chE ts l != 0) = false := by simpa using hc
          rw [if_pos hc] at HT2
          clear hc
          go_wp2
          try simp only [Exit.inBlock, Exit.then]
          have hk := (((HB8.out.setA 0 (.int .i64 ts)).setA 1 (.slice pv l.length cv)).setA 2 (.bool d))
          refine bodyPost_ret (results_two (cs := [.int .i64 ts, .slice pv l.length cv, .bool d]) rfl rfl ch_agg ch_size rfl hk.a) rfl ?_
          rw [HT2.out]
          refine ⟨_, rfl, ?_, hk.tn.below (Nat.le_refl _) (by simp)⟩
          refine OwnS.mono (base := C + 1) (HO8.out.keptN fun j hj => ?_) (by omega)
          have h5 := (HO8.out.lt j hj).1
          rw [Below.heap_setCell _ ⟨w.heap.size, 2, none⟩ _ j (by show j ≠ w.heap.size; omega), Below.heap_setCell _ ⟨w.heap.size, 1, none⟩ _ j (by show j ≠ w.heap.size; omega), Below.heap_setCell _ ⟨w.heap.size, 0, none⟩ _ j (by show j ≠ w.heap.size; omega)]
        · have hcb : (Rc.chE ts l != 0) = true := by simpa using hc
          rw [if_neg hc] at HT2
          clear hc
          go_wp2
          try simp only [Exit.inBlock, Exit.then]
          have hk := (((HB8.out.setA 0 (.int .i64 0)).setA 1 (.slice none 0 0)).setA 2 (.bool false))
          refine bodyPost_ret (results_two (cs := [.int .i64 0, .slice none 0 0, .bool false]) rfl rfl ch_agg ch_size rfl hk.a) rfl ?_
          rw [HT2.out]
          exact ⟨_, rfl, OwnS.nil _ _, hk.tn.below (Nat.le_refl _) (by simp)⟩
      · have hzb : (z.e == 0) = false := by simpa using hze
        have hzb2 : (z.e != 0) = true := by simpa using hze
        have HE : Hid ((z.note (Rc.chE ts l)).e = z.e) := by unfold Hid Rs.note; rw [if_neg hze]
        rw [HE.out, if_neg hze] at HT2
        have k0 : w7.cell? ⟨w.heap.size, 0, none⟩ = some (.int .i64 0) := HB7.out.a.cell 0
        have k1 : w7.cell? ⟨w.heap.size, 1, none⟩ = some (.slice none 0 0) := HB7.out.a.cell 1
        have f0 : w7.frozen? ⟨w.heap.size, 0, none⟩ = false := HB7.out.a.frozen 0
        have f1 : w7.frozen? ⟨w.heap.size, 1, none⟩ = false := HB7.out.a.frozen 1
        have k2 : w7.cell? ⟨w.heap.size, 2, none⟩ = some (.bool false) := HB7.out.a.cell 2
        have f2 : w7.frozen? ⟨w.heap.size, 2, none⟩ = false := HB7.out.a.frozen 2
        clear hze
        go_wp2
        try simp only [Exit.inBlock, Exit.then]
        have hk := (((HB7.out.setA 0 (.int .i64 0)).setA 1 (.slice none 0 0)).setA 2 (.bool false))
        refine bodyPost_ret (results_two (cs := [.int .i64 0, .slice none 0 0, .bool false]) rfl rfl ch_agg ch_size rfl hk.a) rfl ?_
        rw [HT2.out]
        exact ⟨_, rfl, OwnS.nil _ _, hk.tn.below (Nat.le_refl _) (by simp)⟩

end Go.Proofs.Ytlfgclmgpbaenaa
