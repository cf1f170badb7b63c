/- The draft's link. -/
import Derived.Test.YtlcbideongbmeaaGreatDrG
import Derived.Test.YtlcbideongbmeaaGreatStT
import Derived.Test.YtlcbideongbmeaaGreatDrA
import Derived.Test.YtlcbideongbmeaaGreatDrR
namespace Go.Proofs.YtlcbideongbmeaaGreat
open Go.RowKit Go.Lib Go.Shelf Dr
attribute [local go_sem] Oper.semAt_some
set_option linter.unusedVariables false
set_option maxRecDepth 100000

abbrev nilS : Value := .slice none 0 0

section
variable {w w' : World} {base B : Nat} {T : TypeId} {vals : Array Value} {rows : List Rs}

/-- A new row beside the others. -/
theorem Cl.add (h : Cl w base B T vals rows) (ht : Tn [] w w') {r : Rs} {g : Nat} (ho : w'.ownsRow base r.t r.sz r.v r.n r.xs) (hv : r.v.ownBlock = some g) (hg : w.heap.size ≤ g) : Cl w' base B T vals (rows ++ [r]) := by
  have h' := h.still ht
  have hold : ∀ (i : Nat) q k, rows[i]? = some q → q.v.ownBlock = some k → k < w.heap.size := fun i q k hi hk => ((h.row i q hi).lt k hk).2
  have key : ∀ (i : Nat) q, (rows ++ [r])[i]? = some q → rows[i]? = some q ∨ (i = rows.length ∧ q = r) := by
    intro i q hi
    by_cases hl : i < rows.length
    · rw [List.getElem?_append_left hl] at hi
      exact .inl hi
    · rw [List.getElem?_append_right (by omega)] at hi
      have : i - rows.length < 1 := by have := (List.getElem?_eq_some_iff.1 hi).1; simpa using this
      have h0 : i - rows.length = 0 := by omega
      rw [h0] at hi
      simp at hi
      exact .inr ⟨by omega, hi.symm⟩
  refine ⟨h'.blk, h'.ge, fun i q hi => ?_, fun i q hi => ?_, fun i j q p k hi hj h1 h2 => ?_⟩
  · rcases key i q hi with h1 | ⟨_, rfl⟩
    · exact h'.row i q h1
    · exact ho
  · rcases key i q hi with h1 | ⟨_, rfl⟩
    · exact h'.ne i q h1
    · rw [hv]
      have := h.blk.lt
      intro e
      cases e
      omega
  · rcases key i q hi with a1 | ⟨a1, rfl⟩
    · rcases key j p hj with b1 | ⟨b1, rfl⟩
      · exact h'.apart i j q p k a1 b1 h1 h2
      · have := hold i q k a1 h1
        rw [hv] at h2
        cases h2
        omega
    · rcases key j p hj with b1 | ⟨b1, rfl⟩
      · have := hold j p k b1 h2
        rw [hv] at h1
        cases h1
        omega
      · omega

theorem row_mono {base' : Nat} {e : TypeId} {size n : Nat} {v : Value} {xs : List Value} (h : w.ownsRow base e size v n xs) (hb : base' ≤ base) : w.ownsRow base' e size v n xs := by
  refine ⟨h.1, ?_⟩
  rcases h.2 with h1 | ⟨g, cap, cur, hv, hg, rest⟩
  · exact .inl h1
  · exact .inr ⟨g, cap, cur, hv, by omega, rest⟩

/-- A row of zeros is made. -/
theorem Cl.make (h : Cl w base B T vals rows) (t : TypeId) (ht : Tryz.prog.underlying t = some (.slice 3)) (n : Nat) (hn : n ≤ 35184372088832) :
    ∃ w1, (Instr.makeSlice t (.int .i64 (n : Int)) (.int .i64 (n : Int))).run Tryz.prog w.drew = .ok (.slice (some ⟨w.heap.size, 0, none⟩) n n) w1 ∧ Cl w1 base B T vals (rows ++ [⟨3, 1, sl w.heap.size n n, n, ints (List.replicate n 0)⟩]) ∧ Tn [] w w1 := by
  obtain ⟨w1, hmk, hI, hB⟩ := make_ints t ht n hn w.drew
  have ht1 : Tn [] w w1 := (Tn.drew (Tn.refl [] w)).trans (Tn.of_below hB []) (by simp)
  refine ⟨w1, hmk, ?_, ht1⟩
  refine h.add ht1 (r := ⟨3, 1, sl w.heap.size n n, n, ints (List.replicate n 0)⟩) (g := w.heap.size) ?_ rfl (Nat.le_refl _)
  have h1 := hI
  unfold Ir at h1
  rw [List.length_replicate] at h1
  exact row_mono h1 (by have := h.blk.lt; have := h.ge; show base ≤ w.heap.size; omega)

theorem row_kind {e : TypeId} {size n : Nat} {v : Value} {xs : List Value} (h : w.ownsRow base e size v n xs) {g : Nat} (hg : v.ownBlock = some g) : ∃ o : Obj, w.heap[g]? = some o ∧ o.isCells = true := by
  rcases h.2 with ⟨rfl, _⟩ | ⟨g', cap, cur, rfl, _, hb, _⟩
  · cases hg
  · cases hg
    exact ⟨_, hb, rfl⟩

/-- What is no block of cells may turn. -/
theorem Cl.abides (h : Cl w base B T vals rows) {row : Option Nat} {m : Nat} (hg : w.grownBy w' row) (hr : ∀ r, row = some r → m ≤ r ∧ ∃ o : Obj, w.heap[r]? = some o ∧ o.isCells = false) : Cl w' base B T vals rows := by
  refine ⟨bk_from h.blk hg hr, h.ge, fun i r hi => ?_, h.ne, h.apart⟩
  refine row_tn (h.row i r hi) (tn_grown hg) fun k hk hm => ?_
  obtain ⟨o, ho, hc⟩ := row_kind (h.row i r hi) hk
  have : row = some k := by
    cases row with
    | none => simp at hm
    | some x => simp at hm; rw [hm]
  obtain ⟨_, o', ho', hc'⟩ := hr k this
  rw [ho] at ho'
  cases ho'
  rw [hc] at hc'
  cases hc'
end

theorem bw_idx {l : List En} {pre : List (Nat × En)} {x : Nat × En} (h : pre ++ [x] <+: Pg.bw l) : x.1 + pre.length + 1 = l.length ∧ l[x.1]? = some x.2 := by
  obtain ⟨t, ht⟩ := h
  have hn : pre.length < l.length := by rw [← Pg.bw_len, ← ht]; simp
  have h0 : (Pg.bw l)[pre.length]? = some x := by rw [← ht]; simp
  have hx0 : l[l.length - 1 - pre.length]? = some l[l.length - 1 - pre.length] := List.getElem?_eq_getElem (by omega)
  have h1 := Pg.bw_at (k := l.length - 1 - pre.length) (by omega) hx0
  rw [show l.length - 1 - (l.length - 1 - pre.length) = pre.length by omega, h0] at h1
  cases h1
  exact ⟨by simp only; omega, hx0⟩

def lkVals (vK vR : Value) (gk gn gf R K : Nat) : Array Value := #[vK, vR, .int .i64 0, sl gk R R, sl gn R R, sl gf K K, nilS, nilS, nilS, nilS]
def lkRows (ks : List (List UInt8)) (row : List En) (vK vR : Value) (gk gn gf R K j : Nat) : List Rs := [⟨9, 1, vK, K, ks.map encStr⟩, ⟨30, 4, vR, R, flatE row⟩, ⟨3, 1, sl gk R R, R, ints (ofs (upFrom (knOf ks row) j))⟩, ⟨3, 1, sl gn R R, R, ints (ofs (upFrom (nxOf (knOf ks row)) j))⟩, ⟨3, 1, sl gf K K, K, ints (ofs (fsOf (knOf ks row) K j))⟩]

/-- Between the rounds of link. -/
structure Lnk (w W : World) (base B : Nat) (ks : List (List UInt8)) (row : List En) (vK vR : Value) (gk gn gf R K m j : Nat) : Prop where
  cl : Cl W base B 118 (lkVals vK vR gk gn gf R K) (lkRows ks row vK vR gk gn gf R K j)
  bx : Bk W w.heap.size 99 #[.pointer (some ⟨B, 0, none⟩)]
  below : Tn [B] w W
  sz : m ≤ W.heap.size

theorem Lnk.abides {w W W' : World} {base B : Nat} {ks : List (List UInt8)} {row : List En} {vK vR : Value} {gk gn gf R K m j : Nat} {rw' : Option Nat} {k : Nat} (h : Lnk w W base B ks row vK vR gk gn gf R K m j) (hm : w.heap.size ≤ k) (hg : W.grownBy W' rw') (hr : ∀ r, rw' = some r → k ≤ r ∧ ∃ o : Obj, W.heap[r]? = some o ∧ o.isCells = false) : Lnk w W' base B ks row vK vR gk gn gf R K m j where
  cl := h.cl.abides hg hr
  bx := bk_from h.bx hg hr
  below := h.below.grown hg (fun k hk => .inr (by have := (hr k hk).1; omega))
  sz := Nat.le_trans h.sz hg.size
theorem Lnk.still {w W W' : World} {base B : Nat} {ks : List (List UInt8)} {row : List En} {vK vR : Value} {gk gn gf R K m j : Nat} (h : Lnk w W base B ks row vK vR gk gn gf R K m j) (ht : Tn [] W W') : Lnk w W' base B ks row vK vR gk gn gf R K m j where
  cl := h.cl.still ht
  bx := h.bx.tn ht (by simp)
  below := h.below.trans ht (by simp)
  sz := Nat.le_trans h.sz ht.size

theorem up_all (l : List Nat) (R : Nat) (h : l.length = R) : ofs (upFrom l R) = List.replicate R 0 := by
  unfold upFrom ofs
  rw [List.drop_of_length_le (by omega), List.append_nil, List.map_replicate]
  rfl
theorem fs_all (kn : List Nat) (K R : Nat) (h : kn.length = R) : ofs (fsOf kn K R) = List.replicate K (R : Int) := by
  unfold fsOf ofs
  rw [List.map_map]
  apply List.ext_getElem?
  intro i
  by_cases hi : i < K
  · simp only [List.getElem?_map, List.getElem?_range hi, Option.map_some, List.getElem?_replicate, hi, if_true, Function.comp]
    unfold fsAt
    rw [List.drop_of_length_le (by omega)]
    simp
  · rw [List.getElem?_eq_none (by simp; omega), List.getElem?_eq_none (by simp; omega)]

section
variable {w : World} {base B : Nat} {ks : List (List UInt8)} {row : List En} {vK vR : Value}

set_option maxHeartbeats 8000000 in
theorem link_any {K R : Nat} (h : Cl w base B 118 #[vK, vR, .int .i64 0, nilS, nilS, nilS, nilS, nilS, nilS, nilS] [⟨9, 1, vK, K, ks.map encStr⟩, ⟨30, 4, vR, R, flatE row⟩]) (hK : ks.length = K) (hR : row.length = R) (hrise : Rise ks) (hkw : ∀ e ∈ row, kw ks e.key) (hbK : K ≤ 8796093022207) (hbR : R ≤ 4398046511104) :
    Calls Tryz.prog 96 #[.pointer (some ⟨B, 0, none⟩)] w fun e w' => e = .returned (.tuple #[]) ∧ (∃ gk gn gf, Cl w' base B 118 #[vK, vR, .int .i64 0, sl gk R R, sl gn R R, sl gf K K, nilS, nilS, nilS, nilS] [⟨9, 1, vK, K, ks.map encStr⟩, ⟨30, 4, vR, R, flatE row⟩, ⟨3, 1, sl gk R R, R, ints (ofs (knOf ks row))⟩, ⟨3, 1, sl gn R R, R, ints (ofs (nxOf (knOf ks row)))⟩, ⟨3, 1, sl gf K K, K, ints (ofs (fsOf (knOf ks row) K 0))⟩]) ∧ Tn [B] w w' := by
  obtain ⟨pR, cR, hvR⟩ : ∃ p c, vR = .slice p R c := by
    rcases (h.row 1 _ rfl).2 with ⟨hv, hn⟩ | ⟨g, cap, cur, hv, _⟩
    · exact ⟨none, 0, by simp only at hv hn; rw [hv, hn]⟩
    · exact ⟨_, cap, hv⟩
  obtain ⟨pK, cK, hvK⟩ : ∃ p c, vK = .slice p K c := by
    rcases (h.row 0 _ rfl).2 with ⟨hv, hn⟩ | ⟨g, cap, cur, hv, _⟩
    · exact ⟨none, 0, by simp only at hv hn; rw [hv, hn]⟩
    · exact ⟨_, cap, hv⟩
  have HVR : Hid (vR = .slice pR R cR) := hvR
  have HVK : Hid (vK = .slice pK K cK) := hvK
  have hbz : base ≤ w.heap.size := by have := h.blk.lt; have := h.ge; omega
  have HVB : Hid (∀ b, vR.ownBlock = some b → b < w.heap.size) := fun b hb => ((h.row 1 _ rfl).lt b hb).2
  refine calls_of_wpAt Tryz.func96 rfl ?_
  simp only [Tryz.ntmps96, List.size_toArray, List.length_cons, List.length_nil, Nat.reduceAdd, Nat.reduceSub, Array.replicate_succ, Array.replicate_zero, List.push_toArray, List.append_toArray, List.nil_append, List.cons_append]
  obtain ⟨w0, hw0⟩ : ∃ w0, w0 = w.alloc (.cells #[.pointer (some ⟨B, 0, none⟩)] 99) := ⟨_, rfl⟩
  have ht0 : Tn [] w w0 := by rw [hw0]; exact (Tn.refl [] w).alloc _
  have HP0 : Hid (Bk w0 w.heap.size 99 #[.pointer (some ⟨B, 0, none⟩)]) := by rw [hw0]; exact Bk.new _ _ _
  have HC0 : Hid (Cl w0 base B 118 #[vK, vR, .int .i64 0, nilS, nilS, nilS, nilS, nilS, nilS, nilS] [⟨9, 1, vK, K, ks.map encStr⟩, ⟨30, 4, vR, R, flatE row⟩]) := h.still ht0
  have HBw : Hid (Tn [B] w w0) := ht0.mono (by simp)
  have HPB : Hid (B < w.heap.size) := h.blk.lt
  clear h ht0
  refine wpAt_seq_k fun K2 hK2 => wpAt_of_wp ?_
  go_wp2
  rw [← hw0]
  clear hw0
  refine wpAt_seq_k fun K2 hK2 => wpAt_of_wp ?_
  have p0 : w0.cell? ⟨w.heap.size, 0, none⟩ = some (.pointer (some ⟨B, 0, none⟩)) := HP0.out.cell 0
  have x1 : w0.cell? ⟨B, 1, none⟩ = some (.slice pR R cR) := by rw [← HVR.out]; exact HC0.out.blk.cell 1
  obtain ⟨w1, hmk, hc1, ht1⟩ := HC0.out.make 115 Tryz.underlying115 R (by omega)
  have q0 : w1.cell? ⟨w.heap.size, 0, none⟩ = some (.pointer (some ⟨B, 0, none⟩)) := (HP0.out.tn ht1 (by simp)).cell 0
  have y3 : w1.cell? ⟨B, 3, none⟩ = some nilS := hc1.blk.cell 3
  have f3 : w1.frozen? ⟨B, 3, none⟩ = false := hc1.blk.frozen 3
  have y1 : w1.cell? ⟨B, 1, none⟩ = some (.slice pR R cR) := by rw [← HVR.out]; exact hc1.blk.cell 1
  go_wp2_with fail
  go_region
  obtain ⟨hc2, ht2⟩ := hc1.put 3 (sl w0.heap.size R R)
  have ht12 : Tn [B] w0 (w1.setCell ⟨B, 3, none⟩ (sl w0.heap.size R R)) := (ht1.mono (by simp)).trans ht2 (by simp)
  obtain ⟨gk, hgk⟩ : ∃ gk, gk = w0.heap.size := ⟨_, rfl⟩
  obtain ⟨w2, hw2⟩ : ∃ w2, w2 = w1.setCell ⟨B, 3, none⟩ (sl w0.heap.size R R) := ⟨_, rfl⟩
  rw [← hw2] at hc2 ht12 ⊢
  rw [← hgk] at hc2 ⊢
  have HC2 : Hid (Cl w2 base B 118 #[vK, vR, .int .i64 0, sl gk R R, nilS, nilS, nilS, nilS, nilS, nilS] [⟨9, 1, vK, K, ks.map encStr⟩, ⟨30, 4, vR, R, flatE row⟩, ⟨3, 1, sl gk R R, R, ints (List.replicate R 0)⟩]) := hc2
  have HP2 : Hid (Bk w2 w.heap.size 99 #[.pointer (some ⟨B, 0, none⟩)]) := HP0.out.tn ht12 (by have := HPB.out; simp; omega)
  have HB2 : Hid (Tn [B] w w2) := HBw.out.trans ht12 (fun x hx => .inl hx)
  have HNK : Hid (w.heap.size ≠ gk) := by have := HP0.out.lt; rw [Hid]; omega
  have hgek : w.heap.size ≤ gk := by have := HP0.out.lt; omega
  clear hc1 hc2 ht1 ht2 ht12 hw2 hgk hmk HC0 HP0 HBw p0 x1 q0 y3 f3 y1
  go_wp2
  refine wpAt_seq_k fun K2 hK2 => wpAt_of_wp ?_
  have p0 : w2.cell? ⟨w.heap.size, 0, none⟩ = some (.pointer (some ⟨B, 0, none⟩)) := HP2.out.cell 0
  have x1 : w2.cell? ⟨B, 1, none⟩ = some (.slice pR R cR) := by rw [← HVR.out]; exact HC2.out.blk.cell 1
  obtain ⟨w3, hmk, hc3, ht3⟩ := HC2.out.make 115 Tryz.underlying115 R (by omega)
  have q0 : w3.cell? ⟨w.heap.size, 0, none⟩ = some (.pointer (some ⟨B, 0, none⟩)) := (HP2.out.tn ht3 (by simp)).cell 0
  have y3 : w3.cell? ⟨B, 4, none⟩ = some nilS := hc3.blk.cell 4
  have f3 : w3.frozen? ⟨B, 4, none⟩ = false := hc3.blk.frozen 4
  have y1 : w3.cell? ⟨B, 1, none⟩ = some (.slice pR R cR) := by rw [← HVR.out]; exact hc3.blk.cell 1
  go_wp2_with fail
  go_region
  obtain ⟨hc4, ht4⟩ := hc3.put 4 (sl w2.heap.size R R)
  have ht34 : Tn [B] w2 (w3.setCell ⟨B, 4, none⟩ (sl w2.heap.size R R)) := (ht3.mono (by simp)).trans ht4 (by simp)
  obtain ⟨gn, hgn⟩ : ∃ gn, gn = w2.heap.size := ⟨_, rfl⟩
  obtain ⟨w4, hw4⟩ : ∃ w4, w4 = w3.setCell ⟨B, 4, none⟩ (sl w2.heap.size R R) := ⟨_, rfl⟩
  rw [← hw4] at hc4 ht34 ⊢
  rw [← hgn] at hc4 ⊢
  have HC4 : Hid (Cl w4 base B 118 #[vK, vR, .int .i64 0, sl gk R R, sl gn R R, nilS, nilS, nilS, nilS, nilS] [⟨9, 1, vK, K, ks.map encStr⟩, ⟨30, 4, vR, R, flatE row⟩, ⟨3, 1, sl gk R R, R, ints (List.replicate R 0)⟩, ⟨3, 1, sl gn R R, R, ints (List.replicate R 0)⟩]) := hc4
  have HP4 : Hid (Bk w4 w.heap.size 99 #[.pointer (some ⟨B, 0, none⟩)]) := HP2.out.tn ht34 (by have := HPB.out; simp; omega)
  have HB4 : Hid (Tn [B] w w4) := HB2.out.trans ht34 (fun x hx => .inl hx)
  have HNN : Hid (w.heap.size ≠ gn) := by have := HP2.out.lt; rw [Hid]; omega
  have hgen : w.heap.size ≤ gn := by have := HP2.out.lt; omega
  clear hc3 hc4 ht3 ht4 ht34 hw4 hgn hmk HC2 HP2 HB2 p0 x1 q0 y3 f3 y1
  go_wp2
  refine wpAt_seq_k fun K2 hK2 => wpAt_of_wp ?_
  have p0 : w4.cell? ⟨w.heap.size, 0, none⟩ = some (.pointer (some ⟨B, 0, none⟩)) := HP4.out.cell 0
  have x1 : w4.cell? ⟨B, 1, none⟩ = some (.slice pR R cR) := by rw [← HVR.out]; exact HC4.out.blk.cell 1
  have x0 : w4.cell? ⟨B, 0, none⟩ = some (.slice pK K cK) := by rw [← HVK.out]; exact HC4.out.blk.cell 0
  have hBl : B < w4.heap.size := HC4.out.blk.lt
  have hPl : w.heap.size < w4.heap.size := HP4.out.lt
  have HRP : Hid (∀ w5 w6, w5 = w4.drew.alloc (.cells #[.int .i64 (R : Int)] 3) → Below w5.heap.size w5 w6 → Ir w6 w5.heap.size (.slice (some ⟨w5.heap.size, 0, none⟩) K K) (List.replicate K (R : Int)) → Cl w6 base B 118 #[vK, vR, .int .i64 0, sl gk R R, sl gn R R, nilS, nilS, nilS, nilS, nilS] [⟨9, 1, vK, K, ks.map encStr⟩, ⟨30, 4, vR, R, flatE row⟩, ⟨3, 1, sl gk R R, R, ints (List.replicate R 0)⟩, ⟨3, 1, sl gn R R, R, ints (List.replicate R 0)⟩, ⟨3, 1, sl w5.heap.size K K, K, ints (List.replicate K (R : Int))⟩] ∧ Tn [] w4 w6) := by
    intro w5 w6 h5 hb6 hi6
    have ht5 : Tn [] w4 w5 := by rw [h5]; exact (Tn.drew (Tn.refl [] w4)).alloc _
    have ht6 : Tn [] w4 w6 := ht5.trans (Tn.of_below hb6 []) (by simp)
    refine ⟨HC4.out.add ht6 (r := ⟨3, 1, sl w5.heap.size K K, K, ints (List.replicate K (R : Int))⟩) (g := w5.heap.size) ?_ rfl ht5.size, ht6⟩
    have h1 := hi6
    unfold Ir at h1
    rw [List.length_replicate] at h1
    exact row_mono h1 (by have := HB4.out.size; have := ht5.size; show base ≤ w5.heap.size; omega)
  go_wp2_with fail
  go_region_held3 (fun w' => w'.cell? ⟨w.heap.size, 0, none⟩ = some (.pointer (some ⟨B, 0, none⟩)) ∧ w'.cell? ⟨B, 0, none⟩ = some (.slice pK K cK) ∧ w'.cell? ⟨B, 1, none⟩ = some (.slice pR R cR)) (go_keep) (first | (go_at_call 121; refine (repeat_any _ _ K (R : Int) _ (by simp) hbK).mono ?_; rintro e w6 ⟨rfl, hi6, hb6⟩; have hcl6 := HRP.out _ w6 rfl hb6 hi6; have q0 : w6.cell? ⟨w.heap.size, 0, none⟩ = some (.pointer (some ⟨B, 0, none⟩)) := (HP4.out.tn hcl6.2 (by simp)).cell 0; have q1 : w6.cell? ⟨B, 0, none⟩ = some (.slice pK K cK) := (by (rw [← HVK.out]; exact hcl6.1.blk.cell 0)); have q2 : w6.cell? ⟨B, 1, none⟩ = some (.slice pR R cR) := (by (rw [← HVR.out]; exact hcl6.1.blk.cell 1)); have q5 : w6.cell? ⟨B, 5, none⟩ = some nilS := hcl6.1.blk.cell 5; have f5 : w6.frozen? ⟨B, 5, none⟩ = false := hcl6.1.blk.frozen 5; have r0 : ∀ u, (w6.setCell ⟨B, 5, none⟩ u).cell? ⟨w.heap.size, 0, none⟩ = some (.pointer (some ⟨B, 0, none⟩)) := fun u => ((HP4.out.tn hcl6.2 (by simp)).other (p := ⟨B, 5, none⟩) (by have := HPB.out; simp; omega) u).cell 0; have r1 : ∀ u, (w6.setCell ⟨B, 5, none⟩ u).cell? ⟨B, 0, none⟩ = some (.slice pK K cK) := fun u => (by (rw [← HVK.out]; exact (hcl6.1.blk.set 5 u).cell 0)); have r2 : ∀ u, (w6.setCell ⟨B, 5, none⟩ u).cell? ⟨B, 1, none⟩ = some (.slice pR R cR) := fun u => (by (rw [← HVR.out]; exact (hcl6.1.blk.set 5 u).cell 1))))
  obtain ⟨hc7, ht7⟩ := hcl6.1.put 5 (sl (w4.heap.size + 1) K K)
  have ht67 : Tn [B] w4 (w6.setCell ⟨B, 5, none⟩ (sl (w4.heap.size + 1) K K)) := (hcl6.2.mono (by simp)).trans ht7 (by simp)
  obtain ⟨gf, hgf⟩ : ∃ gf, gf = w4.heap.size + 1 := ⟨_, rfl⟩
  have hgf2 : (w4.drew.alloc (.cells #[.int .i64 (R : Int)] 3)).heap.size = gf := by rw [hgf]; simp
  rw [hgf2] at hc7
  obtain ⟨w7, hw7⟩ : ∃ w7, w7 = w6.setCell ⟨B, 5, none⟩ (sl (w4.heap.size + 1) K K) := ⟨_, rfl⟩
  rw [← hw7] at hc7 ht67 ⊢
  rw [← hgf] at hc7 ⊢
  have hkn := knOf_len ks row
  have HU7 : Hid (Lnk w w7 base B ks row vK vR gk gn gf R K 0 R) := by
    refine ⟨?_, HP4.out.tn ht67 (by have := HPB.out; simp; omega), HB4.out.trans ht67 (fun x hx => .inl hx), Nat.zero_le _⟩
    unfold lkRows
    rw [up_all _ R (by omega), up_all _ R (by simp [nxOf]; omega), fs_all _ K R (by omega)]
    exact hc7
  have HNF : Hid (w.heap.size ≠ gf) := by rw [Hid]; omega
  have HGE : Hid (w.heap.size ≤ gk ∧ w.heap.size ≤ gn ∧ w.heap.size ≤ gf) := ⟨hgek, hgen, by omega⟩
  clear hc7 ht7 ht67 hw7 hgf hgf2 hcl6 hi6 hb6 q0 q1 q2 q5 f5 r0 r1 r2 HRP HC4 HP4 HB4 p0 x1 x0 hBl hPl
  go_wp2
  refine wpAt_seq_k fun K3 hK3 => wpAt_of_wp ?_
  have p0 : w7.cell? ⟨w.heap.size, 0, none⟩ = some (.pointer (some ⟨B, 0, none⟩)) := HU7.out.bx.cell 0
  have x1 : w7.cell? ⟨B, 1, none⟩ = some (.slice pR R cR) := by rw [← HVR.out]; exact HU7.out.cl.blk.cell 1
  go_wp2_with fail
  refine (back_any pR R cR w7).mono ?_
  rintro e w8 ⟨rfl, hw8⟩
  have ht8 : Tn [] w7 w8 := by rw [hw8]; exact (Tn.refl _ _).alloc _
  have hU8 : Lnk w w8 base B ks row vK vR gk gn gf R K w8.heap.size R := { HU7.out.still ht8 with sz := Nat.le_refl _ }
  have hk8 : Bk w8 w7.heap.size 22 #[.slice pR R cR] := by rw [hw8]; exact Bk.new _ _ _
  have hs8 : w7.heap.size < w8.heap.size := hk8.lt
  have hs7 : w.heap.size < w7.heap.size := HU7.out.bx.lt
  have hens : Ens w8 pR row := by
    have h1 : w8.ownsRow base 30 4 vR R (flatE row) := hU8.cl.row 1 _ rfl
    have h2 : OwnE w8 base vR row := by unfold OwnE; rw [hR]; exact h1
    rw [HVR.out] at h2
    obtain ⟨p', c', hv', he', _⟩ := h2.ens
    simp only [Value.slice.injEq] at hv'
    obtain ⟨rfl, _⟩ := hv'
    exact he'
  obtain ⟨S, hSm, hFm⟩ : ∃ S : List Nat, (∀ b ∈ S, b = w7.heap.size ∨ vR.ownBlock = some b) ∧ Fm w8 w7.heap.size S row := by
    rcases Nat.eq_zero_or_pos row.length with h0 | h0
    · exact ⟨[w7.heap.size], by simp, ⟨⟨pR, cR, by rw [hR]; exact hk8, hens, fun h => by omega⟩, by simp, by intro b hb; simp at hb; omega, by omega⟩⟩
    · obtain ⟨g, o, hp, _⟩ := hens h0
      refine ⟨[w7.heap.size, g], fun b hb => ?_, ⟨⟨pR, cR, by rw [hR]; exact hk8, hens, fun _ g' o' h => ?_⟩, by simp, fun b hb => ?_, by omega⟩⟩
      · simp only [List.mem_cons, List.not_mem_nil, or_false] at hb
        rcases hb with rfl | rfl
        · exact .inl rfl
        · right
          rw [HVR.out, hp]; rfl
      · rw [hp] at h
        cases h
        simp
      · simp only [List.mem_cons, List.not_mem_nil, or_false] at hb
        rcases hb with rfl | rfl
        · exact hs8
        · have h1 := ((hU8.cl.row 1 _ rfl).lt b (by show vR.ownBlock = some b; rw [HVR.out, hp]; rfl)).2
          exact h1
  have hseq := backE_stops hFm
  have HSL : Hid (∀ b ∈ S, b ≠ B ∧ b ≠ w.heap.size ∧ b < w8.heap.size ∧ b ≠ gk ∧ b ≠ gn ∧ b ≠ gf) := by
    intro b hb
    have hlt := hFm.lt b hb
    have hBl := hU8.cl.blk.lt
    have hrl : ∀ (i : Nat) r k, (lkRows ks row vK vR gk gn gf R K R)[i]? = some r → r.v.ownBlock = some k → k < w7.heap.size := fun i r k hi hk => ((HU7.out.cl.row i r hi).lt k hk).2
    rcases hSm b hb with rfl | h1
    · have h2 := hrl 2 _ gk rfl rfl
      have h3 := hrl 3 _ gn rfl rfl
      have h4 := hrl 4 _ gf rfl rfl
      have h5 := HU7.out.cl.blk.lt
      omega
    · refine ⟨fun e => hU8.cl.ne 1 _ rfl (by show vR.ownBlock = some B; rw [h1, e]), fun e => ?_, hlt, fun e => ?_, fun e => ?_, fun e => ?_⟩
      · have := HVB.out b h1
        omega
      · have := hU8.cl.apart 1 2 _ _ b rfl rfl h1 (by show some gk = some b; rw [e]); cases this
      · have := hU8.cl.apart 1 3 _ _ b rfl rfl h1 (by show some gn = some b; rw [e]); cases this
      · have := hU8.cl.apart 1 4 _ _ b rfl rfl h1 (by show some gf = some b; rw [e]); cases this
  clear hw8 ht8 hk8 hSm hFm hens p0 x1
  go_wp2
  refine wpAt_block ?_
  refine wpAt_boxed ?A Tryz.func96 (gf := 142) (lb := #[.pointer (some ⟨w7.heap.size, 0, none⟩)]) rfl (enters_of Tryz.func142 (by kernel_rfl) rfl)
    hseq KpP.t (fun W l o o' hl _ _ _ k hk => World.putObj_heap_other (fun e => by
      subst e
      have := (HSL.out _ hk).2.2.1
      omega)) (Below.refl _ _) (fun _ => rfl)
    (fun pre W => Lnk w W base B ks row vK vR gk gn gf R K w8.heap.size (R - pre.length))
    (fun _ _ _ => False)
    (fun _ _ _ => False)
    (fun s A B' row hs hg hr => hs.abides (k := w8.heap.size) (by omega) hg hr)
    (fun cc s A B row hs hg hr => hs.elim)
    hU8
    (fun x bx W => w8.heap.size ≤ bx ∧ Bk W bx 30 #[.string x.2.key, .int .i64 x.2.s, .int .i64 x.2.g, .int .i64 x.2.c])
    (fun x bx _ A B' row hs hg hr => ⟨hs.1, bk_from hs.2 hg hr⟩)
    ?assign ?body ?done (fun D cc pre W _ _ h _ => h.elim) (fun D cc pre W _ _ h _ => h.elim)
  case assign =>
    rintro l pre x W K hL hK
    gi_wp2
    have ht : Tn [] W (W.alloc (.cells #[.string x.2.key, .int .i64 x.2.s, .int .i64 x.2.g, .int .i64 x.2.c] 30)) := (Tn.refl _ _).alloc _
    obtain ⟨bx, hbx⟩ : ∃ bx, W.heap.size = bx := ⟨_, rfl⟩
    have kx : Bk (W.alloc (.cells #[.string x.2.key, .int .i64 x.2.s, .int .i64 x.2.g, .int .i64 x.2.c] 30)) bx 30 #[.string x.2.key, .int .i64 x.2.s, .int .i64 x.2.g, .int .i64 x.2.c] := by rw [← hbx]; exact Bk.new _ _ _
    have hle : w8.heap.size ≤ bx := by have := hL.sz; omega
    have hsl := HSL.out
    rw [hbx]
    refine hK bx _ ((keeps_tn ht (by simp)).from _) (KpP.of_tn ht (fun y hy => ⟨by have := (hsl y hy).2.2.1; omega, by simp⟩)) (hL.still ht) ⟨hle, kx⟩
  case done =>
    rintro D zs W hD rfl hT hK2
    rw [Pg.bw_len, hR, Nat.sub_self] at hT
    have HE : Hid (Lnk w W base B ks row vK vR gk gn gf R K w8.heap.size 0) := hT
    clear hT
    show bodyPostM Fence.wide 9 _ _ _ Exit.normal _ _
    refine ⟨by simp, .inl ⟨_, _, rfl, run_takeDeferred hK2, ?_⟩⟩
    have hg : W.grownBy (W.putObj D (.deferred none)) (some D) := ⟨rfl, rfl, rfl, by simp, fun k _ hk => World.putObj_heap_other (fun e => hk (by rw [e]))⟩
    have hL := HE.out.abides (k := w8.heap.size) (by omega) hg (fun r hr => by cases hr; exact ⟨hD, _, hK2, rfl⟩)
    refine ⟨_, results_none rfl _ _ _, rfl, ⟨gk, gn, gf, ?_⟩, hL.below⟩
    have e1 : ∀ l : List Nat, upFrom l 0 = l := fun l => by simp [upFrom]
    have h1 := hL.cl
    unfold lkRows at h1
    rw [e1, e1] at h1
    exact h1
  case body =>
    rintro l pre x bx W hl2 hT ⟨hbx, kx⟩ hpre
    obtain ⟨hxi, hxr⟩ := bw_idx hpre
    obtain ⟨xi, xe⟩ := x
    simp only at hxi hxr kx
    rw [hR] at hxi
    have hj : R - pre.length = xi + 1 := by omega
    rw [hj] at hT
    have hxR : xi < R := by omega
    have hkwx : kw ks xe.key := hkw xe (List.mem_of_getElem? hxr)
    have hnum : (knOf ks row).getD xi 0 = num ks xe.key := by
      rw [knOf_at (by omega)]
      simp [List.getD, hxr]
    obtain ⟨n, hn⟩ : ∃ n : Nat, num ks xe.key = n := ⟨_, rfl⟩
    have hnK : n < K := by rw [← hn, ← hK]; exact (num_nu hrise).lt _ hkwx
    rw [hn] at hnum
    have HT : Hid (Lnk w W base B ks row vK vR gk gn gf R K w8.heap.size (xi + 1)) := hT
    have HKX : Hid (Bk W bx 30 #[.string xe.key, .int .i64 xe.s, .int .i64 xe.g, .int .i64 xe.c]) := kx
    have p0 : W.cell? ⟨w.heap.size, 0, none⟩ = some (.pointer (some ⟨B, 0, none⟩)) := hT.bx.cell 0
    have e0 : W.cell? ⟨bx, 0, none⟩ = some (.string xe.key) := kx.cell 0
    clear hT kx
    gi_wp2_with fail
    refine ⟨trivial, ?_⟩
    refine (CallsIn.inRound l (callsIn_wide.2 (number_row (HT.out.cl.blk.cell 0) (HT.out.cl.row 0 _ rfl) hK hbK hrise xe.key))).mono ?_
    rintro e W2 ⟨rfl, ht2⟩
    rw [hn]
    have HT2 : Hid (Lnk w W2 base B ks row vK vR gk gn gf R K w8.heap.size (xi + 1)) := HT.out.still ht2
    have hkn2 : (upFrom (knOf ks row) (xi + 1)).length = R := by rw [upFrom_len _ _ (by omega)]; omega
    have kr := HT2.out.cl.row 2 _ rfl
    have kc := row_ints kr xi hxR
    have kf : W2.frozen? ⟨gk, xi, none⟩ = false := World.ownsRow.frozenAt kr xi
    have kst := World.ownsRow.stored kr xi (.int .i64 (n : Int))
    have ht3 := tn_grown kst.2
    have hc3 := HT2.out.cl.turn (i := 2) rfl rfl ht3 kst.1
    obtain ⟨W3, hW3⟩ : ∃ W3, W2.setCell ⟨gk, xi, none⟩ (.int .i64 (n : Int)) = W3 := ⟨_, rfl⟩
    rw [hW3] at ht3 hc3
    have hgkl : gk < W2.heap.size := (kr.lt gk rfl).2
    have p0' : W2.cell? ⟨w.heap.size, 0, none⟩ = some (.pointer (some ⟨B, 0, none⟩)) := HT2.out.bx.cell 0
    have y3 : W2.cell? ⟨B, 3, none⟩ = some (sl gk R R) := HT2.out.cl.blk.cell 3
    have ai : (xi : Int) < (R : Int) := by omega
    have a0 : (0 : Int) ≤ (xi : Int) := by omega
    have ni : (n : Int) < (K : Int) := by omega
    have n0 : (0 : Int) ≤ (n : Int) := by omega
    clear p0 e0
    -- next[at] = first[n]
    have hb3 : Bk W3 w.heap.size 99 #[.pointer (some ⟨B, 0, none⟩)] := HT2.out.bx.tn ht3 (by have := HNK.out; simp; exact this)
    have p1 : W3.cell? ⟨w.heap.size, 0, none⟩ = some (.pointer (some ⟨B, 0, none⟩)) := hb3.cell 0
    have z4 : W3.cell? ⟨B, 4, none⟩ = some (sl gn R R) := hc3.blk.cell 4
    have z5 : W3.cell? ⟨B, 5, none⟩ = some (sl gf K K) := hc3.blk.cell 5
    have nr := hc3.row 3 _ rfl
    have fr := hc3.row 4 _ rfl
    have fc : W3.cell? ⟨gf, n, none⟩ = some (.int .i64 ((fsAt (knOf ks row) (xi + 1) n : Nat) : Int)) := by
      rw [row_ints fr n hnK, ofs_at, fsOf_at hnK]
    have nc := row_ints nr xi hxR
    have nf : W3.frozen? ⟨gn, xi, none⟩ = false := World.ownsRow.frozenAt nr xi
    obtain ⟨fv, hfv⟩ : ∃ fv : Nat, fsAt (knOf ks row) (xi + 1) n = fv := ⟨_, rfl⟩
    rw [hfv] at fc
    have nst := World.ownsRow.stored nr xi (.int .i64 (fv : Int))
    have ht4 := tn_grown nst.2
    have hc4 := hc3.turn (i := 3) rfl rfl ht4 nst.1
    have hb4 := hb3.tn ht4 (by have := HNN.out; simp; exact this)
    obtain ⟨W4, hW4⟩ : ∃ W4, W3.setCell ⟨gn, xi, none⟩ (.int .i64 (fv : Int)) = W4 := ⟨_, rfl⟩
    rw [hW4] at ht4 hc4 hb4
    -- first[n] = at
    have hc4d := hc4.still (Tn.drew (Tn.refl [] W4))
    have hb4d := hb4.tn (Tn.drew (Tn.refl [] W4)) (by simp)
    have p2 : W4.cell? ⟨w.heap.size, 0, none⟩ = some (.pointer (some ⟨B, 0, none⟩)) := hb4.cell 0
    have u5 : W4.cell? ⟨B, 5, none⟩ = some (sl gf K K) := hc4.blk.cell 5
    have fr4 := hc4.row 4 _ rfl
    have fc4 := row_ints fr4 n hnK
    have ff4 : W4.frozen? ⟨gf, n, none⟩ = false := World.ownsRow.frozenAt fr4 n
    have fst := World.ownsRow.stored (hc4d.row 4 _ rfl) n (.int .i64 (xi : Int))
    have ht5 := tn_grown fst.2
    have hc5 := hc4d.turn (i := 4) rfl rfl ht5 fst.1
    have hb5 := hb4d.tn ht5 (by have := HNF.out; simp; exact this)
    have HE : Hid (Lnk w (W4.drew.setCell ⟨gf, n, none⟩ (.int .i64 (xi : Int))) base B ks row vK vR gk gn gf R K w8.heap.size xi ∧ Tn [gk, gn, gf] W (W4.drew.setCell ⟨gf, n, none⟩ (.int .i64 (xi : Int)))) := by
      have htt : Tn [gk, gn, gf] W (W4.drew.setCell ⟨gf, n, none⟩ (.int .i64 (xi : Int))) := by
        refine Tn.trans (ht2.mono (by simp)) (T := [gk, gn, gf]) ?_ (fun x hx => .inl hx)
        refine Tn.trans (ht3.mono (by simp)) (T := [gk, gn, gf]) ?_ (fun x hx => .inl hx)
        refine Tn.trans (ht4.mono (by simp)) (T := [gk, gn, gf]) ?_ (fun x hx => .inl hx)
        refine Tn.trans (Tn.drew (Tn.refl [] W4) |>.mono (by simp)) (T := [gk, gn, gf]) ?_ (fun x hx => .inl hx)
        exact ht5.mono (by simp)
      refine ⟨⟨?_, hb5, HT.out.below.trans htt ?_, Nat.le_trans HT.out.sz htt.size⟩, htt⟩
      · have e1 : ints (ofs (upFrom (knOf ks row) xi)) = (ints (ofs (upFrom (knOf ks row) (xi + 1)))).set xi (.int .i64 (n : Int)) := by
          rw [← upFrom_step (by omega), hnum, ofs_set]; simp [ints, List.map_set]
        have e2 : ints (ofs (upFrom (nxOf (knOf ks row)) xi)) = (ints (ofs (upFrom (nxOf (knOf ks row)) (xi + 1)))).set xi (.int .i64 (fv : Int)) := by
          have hl : xi < (nxOf (knOf ks row)).length := by simp [nxOf]; omega
          rw [← upFrom_step hl, nxOf_at (by omega), hnum, hfv, ofs_set]; simp [ints, List.map_set]
        have e3 : ints (ofs (fsOf (knOf ks row) K xi)) = (ints (ofs (fsOf (knOf ks row) K (xi + 1)))).set n (.int .i64 (xi : Int)) := by
          have := fsOf_step (kn := knOf ks row) (K := K) (j := xi) (by omega) (by rw [hnum]; exact hnK)
          rw [hnum] at this
          rw [← this, ofs_set]; simp [ints, List.map_set]
        unfold lkRows
        rw [e1, e2, e3]
        exact hc5
      · intro x hx
        simp only [List.mem_cons, List.not_mem_nil, or_false] at hx
        have h1 := HGE.out
        rcases hx with rfl | rfl | rfl
        · exact .inr (by omega)
        · exact .inr (by omega)
        · exact .inr (by omega)
    have HCK : Hid (∀ y ∈ [gk, gn, gf], ∃ o : Obj, W.heap[y]? = some o ∧ o.isCells = true) := by
      intro y hy
      simp only [List.mem_cons, List.not_mem_nil, or_false] at hy
      rcases hy with rfl | rfl | rfl
      · exact row_kind (HT.out.cl.row 2 _ rfl) rfl
      · exact row_kind (HT.out.cl.row 3 _ rfl) rfl
      · exact row_kind (HT.out.cl.row 4 _ rfl) rfl
    have HSZ : Hid (∀ y ∈ S, y < W.heap.size) := fun y hy => by have := (HSL.out y hy).2.2.1; have := HT.out.sz; omega
    generalize Pk.at' (ofs (upFrom (knOf ks row) (xi + 1))) xi = o1 at *
    generalize Pk.at' (ofs (upFrom (nxOf (knOf ks row)) (xi + 1))) xi = o2 at *
    generalize Pk.at' (ofs (fsOf (knOf ks row) K (xi + 1))) n = o3 at *
    clear hc3 hc4 hc5 hc4d hb3 hb4 hb4d hb5 ht3 ht4 ht5 kst nst fst kr nr fr fr4 hfv hkn2
    gi_wp2_with fail
    refine stt_region 12 (by kernel_rfl) (by kernel_rfl) (by rfl) ?_
    simp only [List.take_succ_cons, List.take_zero, List.drop_succ_cons, List.drop_zero]
    repeat still_step
    refine wpStill_nil ?_
    gi_wp2
    refine ⟨(keeps_tn HE.out.2 HCK.out).from _, KpP.of_tn HE.out.2 (fun y hy => ⟨HSZ.out y hy, ?_⟩), ?_⟩
    · have := HSL.out y hy
      simp only [List.mem_cons, List.not_mem_nil, or_false]
      omega
    · have e : R - (pre ++ [(xi, xe)]).length = xi := by simp; omega
      show Lnk w _ base B ks row vK vR gk gn gf R K w8.heap.size (R - (pre ++ [(xi, xe)]).length)
      rw [e]
      exact HE.out.1
end
end Go.Proofs.YtlcbideongbmeaaGreat
