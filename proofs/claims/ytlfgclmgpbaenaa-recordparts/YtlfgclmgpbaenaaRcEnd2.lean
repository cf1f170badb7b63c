/- Chunks and masters are read whole. -/
import Derived.Test.YtlfgclmgpbaenaaRcEnd
import Derived.Test.YtlfgclmgpbaenaaRcRdH
import Derived.Test.YtlfgclmgpbaenaaRcRdM
namespace Go.Proofs.Ytlfgclmgpbaenaa
open Go.RowKit
set_option linter.unusedVariables false
set_option maxRecDepth 100000

theorem OwnS.ins {w : World} {base : Nat} {p : Option Addr} {c : Nat} {l : List St} (h : OwnS w base (.slice p l.length c) l) (hz : ∀ g ∈ l, -9223372036854775808 ≤ g.ts ∧ g.ts ≤ 9223372036854775807) : InS w p l.length c l := by
  have h0 := h
  rcases h.2 with ⟨hv, hn⟩ | ⟨g, cap, cur, hv, hb, hg, hle, hcm, hcur, htake⟩
  · simp only [Value.slice.injEq] at hv
    obtain ⟨rfl, _, rfl⟩ := hv
    exact ⟨rfl, fun h => by omega, by omega, by omega, fun _ => ⟨hn, rfl⟩, hz⟩
  · simp only [Value.slice.injEq] at hv
    obtain ⟨rfl, _, rfl⟩ := hv
    refine ⟨rfl, fun _ => ⟨g, 0, rfl, fun i x hi j v hj => ?_⟩, hle, by unfold maxLen at hcm; omega, (fun e => by cases e), hz⟩
    have hj3 : j < 3 := by
      have := (List.getElem?_eq_some_iff.1 hj).1
      simpa [St.cells] using this
    have hf : (l.map St.cells).flatten[i * 3 + j]? = some v := by
      rw [flat3 (l.map St.cells) i j x.cells (by intro y hy; obtain ⟨z, _, rfl⟩ := List.mem_map.1 hy; rfl) (by rw [List.getElem?_map, hi]; rfl) hj3]
      exact hj
    have := World.ownsRow.cells h0 (g := g) rfl (i * 3 + j) v hf
    rw [Addr.add_lit, Nat.zero_add] at this
    rw [Nat.zero_add]
    exact this

theorem Rs.num_byte {s : Rs} (h : ∀ y ∈ s.xs, 0 ≤ y ∧ y < 256) : ∀ y ∈ s.num.2.xs, 0 ≤ y ∧ y < 256 := by
  unfold Rs.num
  split
  · exact fun y hy => h y (List.mem_of_mem_drop hy)
  · exact h
theorem Rs.text_byte {s : Rs} (h : ∀ y ∈ s.xs, 0 ≤ y ∧ y < 256) : ∀ y ∈ s.text.2.xs, 0 ≤ y ∧ y < 256 := by
  unfold Rs.text
  split
  · exact fun y hy => h y (List.mem_of_mem_drop hy)
  · exact h
theorem Rs.flag_byte {s : Rs} (h : ∀ y ∈ s.xs, 0 ≤ y ∧ y < 256) : ∀ y ∈ s.flag.2.xs, 0 ≤ y ∧ y < 256 := by
  unfold Rs.flag
  split
  · exact fun y hy => h y (List.mem_of_mem_drop hy)
  · exact h
theorem Rs.note_xs (s : Rs) (e : Int) : (s.note e).xs = s.xs := by unfold Rs.note; split <;> rfl
theorem Rs.count_byte {s : Rs} {m : Int} (h : ∀ y ∈ s.xs, 0 ≤ y ∧ y < 256) : ∀ y ∈ (s.count m).2.xs, 0 ≤ y ∧ y < 256 := by
  unfold Rs.count
  split
  · exact Rs.num_byte h
  · rw [Rs.note_xs]
    exact Rs.num_byte h
theorem Rs.num_fits {s : Rs} (h : ∀ y ∈ s.xs, 0 ≤ y ∧ y < 256) : -9223372036854775808 ≤ s.num.1 ∧ s.num.1 ≤ 9223372036854775807 := by
  have := Cd.dec_zero s.xs h
  unfold Rs.num
  split
  · exact ⟨this.2.2.1, this.2.2.2⟩
  · simp
theorem Rs.stampeds_fits : ∀ (n : Nat) (s : Rs), (∀ y ∈ s.xs, 0 ≤ y ∧ y < 256) → ∀ g ∈ (Rs.stampeds n s).1, -9223372036854775808 ≤ g.ts ∧ g.ts ≤ 9223372036854775807
  | 0, s, h, g, hg => by simp [Rs.stampeds] at hg
  | n + 1, s, h, g, hg => by
    rw [Rs.stampeds] at hg
    rcases List.mem_cons.1 hg with rfl | hg
    · exact Rs.num_fits (Rs.text_byte (Rs.text_byte h))
    · exact Rs.stampeds_fits n s.stamped.2 (Rs.num_byte (Rs.text_byte (Rs.text_byte h))) g hg
theorem Rs.chunk_fits (xs : List Int) (h : ∀ y ∈ xs, 0 ≤ y ∧ y < 256) : ∀ g ∈ (Rs.mk xs 0).chunk.2.2.1, -9223372036854775808 ≤ g.ts ∧ g.ts ≤ 9223372036854775807 := by
  unfold Rs.chunk
  exact Rs.stampeds_fits _ _ (Rs.count_byte (Rs.flag_byte (Rs.num_byte h)))

set_option maxHeartbeats 1000000 in
theorem end_chunk {w : World} {R lo : Nat} {s : Rs} (h : Rd w R lo s) (ts : Int) (d : Bool) (p : Option Addr) (len cap : Nat) (l : List St) (hin : ∀ w', Tn [R] w w' → InS w' p len cap l) :
    Calls Try.prog 54 #[.pointer (some ⟨R, 0, none⟩), .iface 77 (.agg #[.int .i64 ts, .slice p len cap, .bool d])] w fun x w' => x = .returned (.int .i64 (s.more.note (Rc.chE ts l)).e) ∧ Rd w' R lo (s.more.note (Rc.chE ts l)) ∧ Tn [R] w w' := by
  obtain ⟨q, ql, qc, c0, hql, c1⟩ := h.cell
  have H0 : Hid (Rd w R lo s) := h
  have HI : Hid (∀ w', Tn [R] w w' → InS w' p len cap l) := hin
  clear h hin c1
  go_enter Try.func54, Try.ntmps54
  by_cases hm : 0 < ql
  · have hmi : decide (0 < ql) = true := by simpa using hm
    have HM : Hid (s.more = s.note 13) := by unfold Hid Rs.more; rw [if_pos (by omega)]
    clear hm hql
    go_wp2_with fail
    refine (note_any H0.out 13).mono ?_
    rintro e w1 ⟨rfl, h1, t1⟩
    have H1 : Hid (Rd w1 R lo s.more) := by rw [HM.out]; exact h1
    have T1 : Hid (Tn [R] w w1) := t1
    have I1 : Hid (InS w1 p len cap l) := HI.out w1 t1
    clear h1 t1 c0
    go_wp2_with fail
    refine (hcheck_any ts d p len cap l _ I1.out).mono ?_
    rintro e w2 ⟨rfl, hb2⟩
    have H2 : Hid (Rd w2 R lo s.more) := H1.out.below (hb2.mono H1.out.le)
    have T2 : Hid (Tn [R] w w2) := T1.out.trans (Tn.of_below hb2 []) (by simp)
    clear hb2 H1 T1 I1
    go_wp2_with fail
    refine (note_any H2.out _).mono ?_
    rintro e w3 ⟨rfl, h3, t3⟩
    have H3 : Hid (Rd w3 R lo (s.more.note (Rc.chE ts l))) := h3
    have T3 : Hid (Tn [R] w w3) := T2.out.trans t3 (fun x hx => .inl hx)
    obtain ⟨-, -, -, -, -, c3⟩ := h3.cell
    clear h3 t3 H2 T2
    go_wp2
    go_ret
    exact ⟨rfl, H3.out, T3.out⟩
  · have hmi : decide (0 < ql) = false := by simpa using hm
    have HM : Hid (s.more = s) := by unfold Hid Rs.more; rw [if_neg (by omega)]
    have I1 : Hid (InS w p len cap l) := HI.out w (Tn.refl _ _)
    clear hm hql
    go_wp2_with fail
    refine (hcheck_any ts d p len cap l _ I1.out).mono ?_
    rintro e w2 ⟨rfl, hb2⟩
    have H2 : Hid (Rd w2 R lo s.more) := by rw [HM.out]; exact H0.out.below (hb2.mono H0.out.le)
    have T2 : Hid (Tn [R] w w2) := Tn.of_below hb2 _
    clear hb2 I1
    go_wp2_with fail
    refine (note_any H2.out _).mono ?_
    rintro e w3 ⟨rfl, h3, t3⟩
    have H3 : Hid (Rd w3 R lo (s.more.note (Rc.chE ts l))) := h3
    have T3 : Hid (Tn [R] w w3) := T2.out.trans t3 (fun x hx => .inl hx)
    obtain ⟨-, -, -, -, -, c3⟩ := h3.cell
    clear h3 t3 H2 T2
    go_wp2
    go_ret
    exact ⟨rfl, H3.out, T3.out⟩

set_option maxHeartbeats 1000000 in
theorem end_master {w : World} {R lo : Nat} {s : Rs} (h : Rd w R lo s) (m : Ms) :
    Calls Try.prog 54 #[.pointer (some ⟨R, 0, none⟩), .iface 81 (.agg m.cells.toArray)] w fun x w' => x = .returned (.int .i64 (s.more.note (Rc.msE m)).e) ∧ Rd w' R lo (s.more.note (Rc.msE m)) ∧ Tn [R] w w' := by
  obtain ⟨q, ql, qc, c0, hql, c1⟩ := h.cell
  have H0 : Hid (Rd w R lo s) := h
  clear h c1
  go_enter Try.func54, Try.ntmps54
  by_cases hm : 0 < ql
  · have hmi : decide (0 < ql) = true := by simpa using hm
    have HM : Hid (s.more = s.note 13) := by unfold Hid Rs.more; rw [if_pos (by omega)]
    clear hm hql
    go_wp2_with fail
    refine (note_any H0.out 13).mono ?_
    rintro e w1 ⟨rfl, h1, t1⟩
    have H1 : Hid (Rd w1 R lo s.more) := by rw [HM.out]; exact h1
    have T1 : Hid (Tn [R] w w1) := t1
    clear h1 t1 c0
    go_wp2_with fail
    refine (mcheck_any m _).mono ?_
    rintro e w2 ⟨rfl, hb2⟩
    have H2 : Hid (Rd w2 R lo s.more) := H1.out.below (hb2.mono H1.out.le)
    have T2 : Hid (Tn [R] w w2) := T1.out.trans (Tn.of_below hb2 []) (by simp)
    clear hb2 H1 T1
    go_wp2_with fail
    refine (note_any H2.out _).mono ?_
    rintro e w3 ⟨rfl, h3, t3⟩
    have H3 : Hid (Rd w3 R lo (s.more.note (Rc.msE m))) := h3
    have T3 : Hid (Tn [R] w w3) := T2.out.trans t3 (fun x hx => .inl hx)
    obtain ⟨-, -, -, -, -, c3⟩ := h3.cell
    clear h3 t3 H2 T2
    go_wp2
    go_ret
    exact ⟨rfl, H3.out, T3.out⟩
  · have hmi : decide (0 < ql) = false := by simpa using hm
    have HM : Hid (s.more = s) := by unfold Hid Rs.more; rw [if_neg (by omega)]
    clear hm hql
    go_wp2_with fail
    refine (mcheck_any m _).mono ?_
    rintro e w2 ⟨rfl, hb2⟩
    have H2 : Hid (Rd w2 R lo s.more) := by rw [HM.out]; exact H0.out.below (hb2.mono H0.out.le)
    have T2 : Hid (Tn [R] w w2) := Tn.of_below hb2 _
    clear hb2
    go_wp2_with fail
    refine (note_any H2.out _).mono ?_
    rintro e w3 ⟨rfl, h3, t3⟩
    have H3 : Hid (Rd w3 R lo (s.more.note (Rc.msE m))) := h3
    have T3 : Hid (Tn [R] w w3) := T2.out.trans t3 (fun x hx => .inl hx)
    obtain ⟨-, -, -, -, -, c3⟩ := h3.cell
    clear h3 t3 H2 T2
    go_wp2
    go_ret
    exact ⟨rfl, H3.out, T3.out⟩

set_option maxHeartbeats 1000000 in
theorem takeChunk_any (p : Option Addr) (len cap : Nat) (xs : List Int) (w : World) (hin : InB 9223372036854775807 w p len cap xs) :
    Calls Try.prog 31 #[.slice p len cap] w fun x w' => ∃ v, x = .returned (.tuple #[.agg #[.int .i64 (Rc.takeCh xs).1, v, .bool (Rc.takeCh xs).2.1], .int .i64 (Rc.takeCh xs).2.2.2]) ∧ OwnS w' w.heap.size v (Rc.takeCh xs).2.2.1 ∧ Below w.heap.size w w' := by
  have HI : Hid (InB 9223372036854775807 w p len cap xs) := hin
  have HLT : Hid (0 < xs.length → ∀ ad, p = some ad → ad.block < w.heap.size) := by
    intro hl ad had
    obtain ⟨b, o, hp, hc⟩ := hin.bys hl
    rw [hp] at had
    cases had
    exact World.block_lt_of_cell? w _ (hc 0 hl)
  clear hin
  have HR : Hid (Rd ((w.alloc (.cells #[.int .i64 0, .slice none 0 0, .bool false] 27)).alloc (.cells #[.slice p len cap, .int .i64 0] 83)) (w.heap.size + 1) (w.heap.size + 2) ⟨xs, 0⟩) := by
    have b2 := Bk.new (w.alloc (.cells #[.int .i64 0, .slice none 0 0, .bool false] 27)) 83 #[.slice p len cap, .int .i64 0]
    rw [show (w.alloc (.cells #[.int .i64 0, .slice none 0 0, .bool false] 27)).heap.size = w.heap.size + 1 by simp] at b2
    have hb : Below w.heap.size w ((w.alloc (.cells #[.int .i64 0, .slice none 0 0, .bool false] 27)).alloc (.cells #[.slice p len cap, .int .i64 0] 83)) := ((Below.refl _ _).alloc (Nat.le_refl _) _).alloc (by simp) _
    refine ⟨p, len, cap, b2, HI.out.below hb, fun hl ad had => ?_, by omega, by simp⟩
    have := HLT.out hl ad had
    omega
  go_enter Try.func31, Try.ntmps31
  have HA : Hid (Bk ((w.alloc (.cells #[.int .i64 0, .slice none 0 0, .bool false] 27)).alloc (.cells #[.slice p len cap, .int .i64 0] 83)) w.heap.size 27 #[.int .i64 0, .slice none 0 0, .bool false]) := (Bk.new _ _ _).alloc _
  have HB : Hid (Below w.heap.size w ((w.alloc (.cells #[.int .i64 0, .slice none 0 0, .bool false] 27)).alloc (.cells #[.slice p len cap, .int .i64 0] 83))) := ((Below.refl _ _).alloc (Nat.le_refl _) _).alloc (by simp) _
  have HT : Hid (Rc.takeCh xs = if ((Rs.mk xs 0).chunk.2.2.2.more.note (Rc.chE (Rs.mk xs 0).chunk.1 (Rs.mk xs 0).chunk.2.2.1)).e = 0 then ((Rs.mk xs 0).chunk.1, (Rs.mk xs 0).chunk.2.1, (Rs.mk xs 0).chunk.2.2.1, 0) else (0, false, [], ((Rs.mk xs 0).chunk.2.2.2.more.note (Rc.chE (Rs.mk xs 0).chunk.1 (Rs.mk xs 0).chunk.2.2.1)).e)) := rfl
  have HZZ : Hid (∀ g ∈ (Rs.mk xs 0).chunk.2.2.1, -9223372036854775808 ≤ g.ts ∧ g.ts ≤ 9223372036854775807) := Rs.chunk_fits xs HI.out.byte
  go_wp2_with fail
  refine (chunk_rd HR.out).mono ?_
  rintro e w1 ⟨v, rfl, ho, hr, ht⟩
  generalize (Rs.mk xs 0).chunk = C at *
  obtain ⟨ts, d, l, s⟩ := C
  simp only at ho hr HT HZZ ⊢
  obtain ⟨pv, cv, rfl⟩ := own_form ho
  rw [show ((w.alloc (.cells #[.int .i64 0, .slice none 0 0, .bool false] 27)).alloc (.cells #[.slice p len cap, .int .i64 0] 83)).heap.size = w.heap.size + 2 by simp] at ho
  have hs1 : w.heap.size + 2 ≤ w1.heap.size := by have := ht.size; simpa using this
  have HO1 : Hid (OwnS w1 (w.heap.size + 2) (.slice pv l.length cv) l) := ho
  have HR1 : Hid (Rd w1 (w.heap.size + 1) (w.heap.size + 2) s) := hr
  have HA1 : Hid (Bk w1 w.heap.size 27 #[.int .i64 0, .slice none 0 0, .bool false]) := HA.out.tn ht (by simp)
  have HB1 : Hid (Below w.heap.size w w1) := HB.out.trans (ht.below (by simp; omega) (by simp))
  clear ho hr ht HR HA HB
  have hb2 : Below w1.heap.size w1 (w1.alloc (.cells #[.int .i64 ts, .slice pv l.length cv, .bool d] 27)) := (Below.refl _ _).alloc (Nat.le_refl _) _
  have HO2 : Hid (OwnS (w1.alloc (.cells #[.int .i64 ts, .slice pv l.length cv, .bool d] 27)) (w.heap.size + 2) (.slice pv l.length cv) l) := HO1.out.below hb2
  have HR2 : Hid (Rd (w1.alloc (.cells #[.int .i64 ts, .slice pv l.length cv, .bool d] 27)) (w.heap.size + 1) (w.heap.size + 2) s) := HR1.out.below (hb2.mono hs1)
  have HA2 : Hid (Bk (w1.alloc (.cells #[.int .i64 ts, .slice pv l.length cv, .bool d] 27)) w.heap.size 27 #[.int .i64 0, .slice none 0 0, .bool false]) := HA1.out.alloc _
  have HC2 : Hid (Bk (w1.alloc (.cells #[.int .i64 ts, .slice pv l.length cv, .bool d] 27)) w1.heap.size 27 #[.int .i64 ts, .slice pv l.length cv, .bool d]) := Bk.new _ _ _
  have HB2 : Hid (Below w.heap.size w (w1.alloc (.cells #[.int .i64 ts, .slice pv l.length cv, .bool d] 27))) := HB1.out.trans (hb2.mono (by omega))
  clear hb2 HO1 HR1 HA1 HB1
  go_wp2_with fail
  refine (end_chunk HR2.out ts d pv l.length cv l (fun w' ht' => (HO2.out.tn ht' (by simp)).ins HZZ.out)).mono ?_
  rintro e w3 ⟨rfl, hr3, ht3⟩
  generalize (s.more.note (Rc.chE ts l)) = z at *
  have HO3 : Hid (OwnS w3 (w.heap.size + 2) (.slice pv l.length cv) l) := HO2.out.tn ht3 (by simp)
  have a3 := HA2.out.tn ht3 (by simp)
  have c3 := HC2.out.tn ht3 (by simp; omega)
  have HA3 : Hid (Bk w3 w.heap.size 27 #[.int .i64 0, .slice none 0 0, .bool false]) := a3
  have HB3 : Hid (Below w.heap.size w w3) := HB2.out.trans (ht3.below (by simp; omega) (by simp))
  have k0 : w3.cell? ⟨w.heap.size, 0, none⟩ = some (.int .i64 0) := a3.cell 0
  have k1 : w3.cell? ⟨w.heap.size, 1, none⟩ = some (.slice none 0 0) := a3.cell 1
  have f0 : w3.frozen? ⟨w.heap.size, 0, none⟩ = false := a3.frozen 0
  have k2 : w3.cell? ⟨w.heap.size, 2, none⟩ = some (.bool false) := a3.cell 2
  have f2 : w3.frozen? ⟨w.heap.size, 2, none⟩ = false := a3.frozen 2
  have m2 : w3.cell? ⟨w1.heap.size, 2, none⟩ = some (.bool d) := c3.cell 2
  have f1 : w3.frozen? ⟨w.heap.size, 1, none⟩ = false := a3.frozen 1
  have m0 : w3.cell? ⟨w1.heap.size, 0, none⟩ = some (.int .i64 ts) := c3.cell 0
  have m1 : w3.cell? ⟨w1.heap.size, 1, none⟩ = some (.slice pv l.length cv) := c3.cell 1
  clear hr3 ht3 a3 c3 HO2 HR2 HA2 HC2 HB2
  by_cases hz : z.e = 0
  · have hzb : (z.e != 0) = false := by simpa using hz
    have HT2 : Hid (Rc.takeCh xs = (ts, d, l, 0)) := by unfold Hid; rw [HT.out, if_pos hz]
    clear hz HT
    go_wp2
    try simp only [Exit.inBlock, Exit.then]
    have hk := ((HA3.out.set 0 (.int .i64 ts)).set 1 (.slice pv l.length cv)).set 2 (.bool d)
    refine bodyPost_ret (results_two (cs := [.int .i64 ts, .slice pv l.length cv, .bool d]) rfl rfl ch_agg ch_size rfl hk) rfl ?_
    rw [HT2.out]
    refine ⟨_, rfl, ?_, ((HB3.out.setCell (Nat.le_refl _) _).setCell (Nat.le_refl _) _).setCell (Nat.le_refl _) _⟩
    refine OwnS.mono (base := w.heap.size + 2) (HO3.out.keptN fun j hj => ?_) (by omega)
    have h5 := (HO3.out.lt j hj).1
    rw [Below.heap_setCell _ ⟨w.heap.size, 2, none⟩ _ j (by show j ≠ w.heap.size; omega), Below.heap_setCell _ ⟨w.heap.size, 1, none⟩ _ j (by show j ≠ w.heap.size; omega), Below.heap_setCell _ ⟨w.heap.size, 0, none⟩ _ j (by show j ≠ w.heap.size; omega)]
  · have hzb : (z.e != 0) = true := by simpa using hz
    have HT2 : Hid (Rc.takeCh xs = (0, false, [], z.e)) := by unfold Hid; rw [HT.out, if_neg hz]
    clear hz HT
    go_wp2
    try simp only [Exit.inBlock, Exit.then]
    have hk := ((HA3.out.set 0 (.int .i64 0)).set 1 (.slice none 0 0)).set 2 (.bool false)
    refine bodyPost_ret (results_two (cs := [.int .i64 0, .slice none 0 0, .bool false]) rfl rfl ch_agg ch_size rfl hk) rfl ?_
    rw [HT2.out]
    exact ⟨_, rfl, OwnS.nil _ _, ((HB3.out.setCell (Nat.le_refl _) _).setCell (Nat.le_refl _) _).setCell (Nat.le_refl _) _⟩

set_option maxHeartbeats 2000000 in
theorem takeMaster_any (p : Option Addr) (len cap : Nat) (xs : List Int) (w : World) (hin : InB 9223372036854775807 w p len cap xs) :
    Calls Try.prog 33 #[.slice p len cap] w fun x w' => x = .returned (.tuple #[.agg (Rc.takeMs xs).1.cells.toArray, .int .i64 (Rc.takeMs xs).2]) ∧ Below w.heap.size w w' := by
  have HI : Hid (InB 9223372036854775807 w p len cap xs) := hin
  have HLT : Hid (0 < xs.length → ∀ ad, p = some ad → ad.block < w.heap.size) := by
    intro hl ad had
    obtain ⟨b, o, hp, hc⟩ := hin.bys hl
    rw [hp] at had
    cases had
    exact World.block_lt_of_cell? w _ (hc 0 hl)
  clear hin
  have HR : Hid (Rd ((w.alloc (.cells #[.int .i64 0, .int .i64 0, .int .i64 0, .int .i64 0, .int .i64 0, .int .i64 0, .int .i64 0, .int .i64 0] 31)).alloc (.cells #[.slice p len cap, .int .i64 0] 83)) (w.heap.size + 1) (w.heap.size + 2) ⟨xs, 0⟩) := by
    have b2 := Bk.new (w.alloc (.cells #[.int .i64 0, .int .i64 0, .int .i64 0, .int .i64 0, .int .i64 0, .int .i64 0, .int .i64 0, .int .i64 0] 31)) 83 #[.slice p len cap, .int .i64 0]
    rw [show (w.alloc (.cells #[.int .i64 0, .int .i64 0, .int .i64 0, .int .i64 0, .int .i64 0, .int .i64 0, .int .i64 0, .int .i64 0] 31)).heap.size = w.heap.size + 1 by simp] at b2
    have hb : Below w.heap.size w ((w.alloc (.cells #[.int .i64 0, .int .i64 0, .int .i64 0, .int .i64 0, .int .i64 0, .int .i64 0, .int .i64 0, .int .i64 0] 31)).alloc (.cells #[.slice p len cap, .int .i64 0] 83)) := ((Below.refl _ _).alloc (Nat.le_refl _) _).alloc (by simp) _
    refine ⟨p, len, cap, b2, HI.out.below hb, fun hl ad had => ?_, by omega, by simp⟩
    have := HLT.out hl ad had
    omega
  have HA : Hid (Bk ((w.alloc (.cells #[.int .i64 0, .int .i64 0, .int .i64 0, .int .i64 0, .int .i64 0, .int .i64 0, .int .i64 0, .int .i64 0] 31)).alloc (.cells #[.slice p len cap, .int .i64 0] 83)) w.heap.size 31 #[.int .i64 0, .int .i64 0, .int .i64 0, .int .i64 0, .int .i64 0, .int .i64 0, .int .i64 0, .int .i64 0]) := (Bk.new _ _ _).alloc _
  have HB : Hid (Below w.heap.size w ((w.alloc (.cells #[.int .i64 0, .int .i64 0, .int .i64 0, .int .i64 0, .int .i64 0, .int .i64 0, .int .i64 0, .int .i64 0] 31)).alloc (.cells #[.slice p len cap, .int .i64 0] 83))) := ((Below.refl _ _).alloc (Nat.le_refl _) _).alloc (by simp) _
  have HT : Hid (Rc.takeMs xs = if ((Rs.mk xs 0).master.2.more.note (Rc.msE (Rs.mk xs 0).master.1)).e = 0 then ((Rs.mk xs 0).master.1, 0) else (⟨0, 0, 0, 0, 0, 0, 0, 0⟩, ((Rs.mk xs 0).master.2.more.note (Rc.msE (Rs.mk xs 0).master.1)).e)) := rfl
  go_enter Try.func33, Try.ntmps33
  go_wp2_with fail
  refine (master_rd HR.out).mono ?_
  rintro e w1 ⟨rfl, hr, ht⟩
  generalize (Rs.mk xs 0).master = C at *
  obtain ⟨m, s⟩ := C
  simp only at hr HT ⊢
  have hs1 : w.heap.size + 2 ≤ w1.heap.size := by have := ht.size; simpa using this
  have HR1 : Hid (Rd w1 (w.heap.size + 1) (w.heap.size + 2) s) := hr
  have HA1 : Hid (Bk w1 w.heap.size 31 #[.int .i64 0, .int .i64 0, .int .i64 0, .int .i64 0, .int .i64 0, .int .i64 0, .int .i64 0, .int .i64 0]) := HA.out.tn ht (by simp)
  have HB1 : Hid (Below w.heap.size w w1) := HB.out.trans (ht.below (by simp; omega) (by simp))
  clear hr ht HR HA HB
  have hb2 : Below w1.heap.size w1 (w1.alloc (.cells m.cells.toArray 31)) := (Below.refl _ _).alloc (Nat.le_refl _) _
  have HR2 : Hid (Rd (w1.alloc (.cells m.cells.toArray 31)) (w.heap.size + 1) (w.heap.size + 2) s) := HR1.out.below (hb2.mono hs1)
  have HA2 : Hid (Bk (w1.alloc (.cells m.cells.toArray 31)) w.heap.size 31 #[.int .i64 0, .int .i64 0, .int .i64 0, .int .i64 0, .int .i64 0, .int .i64 0, .int .i64 0, .int .i64 0]) := HA1.out.alloc _
  have HC2 : Hid (Bk (w1.alloc (.cells m.cells.toArray 31)) w1.heap.size 31 m.cells.toArray) := Bk.new _ _ _
  have HB2 : Hid (Below w.heap.size w (w1.alloc (.cells m.cells.toArray 31))) := HB1.out.trans (hb2.mono (by omega))
  clear hb2 HR1 HA1 HB1
  rw [show m.cells.toArray = #[.int .i64 m.seq, .int .i64 m.area, .int .i64 m.chunks, .int .i64 m.ts, .int .i64 m.sector, .int .i64 m.offset, .int .i64 m.number, .int .i64 m.run] from rfl] at HR2 HA2 HC2 HB2 ⊢
  go_wp2_with fail
  refine (end_master HR2.out m).mono ?_
  rintro e w3 ⟨rfl, hr3, ht3⟩
  generalize (s.more.note (Rc.msE m)) = z at *
  have a3 := HA2.out.tn ht3 (by simp)
  have c3 := HC2.out.tn ht3 (by simp; omega)
  have HA3 : Hid (Bk w3 w.heap.size 31 #[.int .i64 0, .int .i64 0, .int .i64 0, .int .i64 0, .int .i64 0, .int .i64 0, .int .i64 0, .int .i64 0]) := a3
  have HB3 : Hid (Below w.heap.size w w3) := HB2.out.trans (ht3.below (by simp; omega) (by simp))
  have k0 : w3.cell? ⟨w.heap.size, 0, none⟩ = some (.int .i64 0) := a3.cell 0
  have f0 : w3.frozen? ⟨w.heap.size, 0, none⟩ = false := a3.frozen 0
  have m0 : w3.cell? ⟨w1.heap.size, 0, none⟩ = some (.int .i64 m.seq) := c3.cell 0
  have k1 : w3.cell? ⟨w.heap.size, 1, none⟩ = some (.int .i64 0) := a3.cell 1
  have f1 : w3.frozen? ⟨w.heap.size, 1, none⟩ = false := a3.frozen 1
  have m1 : w3.cell? ⟨w1.heap.size, 1, none⟩ = some (.int .i64 m.area) := c3.cell 1
  have k2 : w3.cell? ⟨w.heap.size, 2, none⟩ = some (.int .i64 0) := a3.cell 2
  have f2 : w3.frozen? ⟨w.heap.size, 2, none⟩ = false := a3.frozen 2
  have m2 : w3.cell? ⟨w1.heap.size, 2, none⟩ = some (.int .i64 m.chunks) := c3.cell 2
  have k3 : w3.cell? ⟨w.heap.size, 3, none⟩ = some (.int .i64 0) := a3.cell 3
  have f3 : w3.frozen? ⟨w.heap.size, 3, none⟩ = false := a3.frozen 3
  have m3 : w3.cell? ⟨w1.heap.size, 3, none⟩ = some (.int .i64 m.ts) := c3.cell 3
  have k4 : w3.cell? ⟨w.heap.size, 4, none⟩ = some (.int .i64 0) := a3.cell 4
  have f4 : w3.frozen? ⟨w.heap.size, 4, none⟩ = false := a3.frozen 4
  have m4 : w3.cell? ⟨w1.heap.size, 4, none⟩ = some (.int .i64 m.sector) := c3.cell 4
  have k5 : w3.cell? ⟨w.heap.size, 5, none⟩ = some (.int .i64 0) := a3.cell 5
  have f5 : w3.frozen? ⟨w.heap.size, 5, none⟩ = false := a3.frozen 5
  have m5 : w3.cell? ⟨w1.heap.size, 5, none⟩ = some (.int .i64 m.offset) := c3.cell 5
  have k6 : w3.cell? ⟨w.heap.size, 6, none⟩ = some (.int .i64 0) := a3.cell 6
  have f6 : w3.frozen? ⟨w.heap.size, 6, none⟩ = false := a3.frozen 6
  have m6 : w3.cell? ⟨w1.heap.size, 6, none⟩ = some (.int .i64 m.number) := c3.cell 6
  have k7 : w3.cell? ⟨w.heap.size, 7, none⟩ = some (.int .i64 0) := a3.cell 7
  have f7 : w3.frozen? ⟨w.heap.size, 7, none⟩ = false := a3.frozen 7
  have m7 : w3.cell? ⟨w1.heap.size, 7, none⟩ = some (.int .i64 m.run) := c3.cell 7
  clear hr3 ht3 a3 c3 HR2 HA2 HC2 HB2
  by_cases hz : z.e = 0
  · have hzb : (z.e != 0) = false := by simpa using hz
    have HT2 : Hid (Rc.takeMs xs = (m, 0)) := by unfold Hid; rw [HT.out, if_pos hz]
    clear hz HT
    go_wp2
    try simp only [Exit.inBlock, Exit.then]
    have hk := ((((((((HA3.out.set 0 (.int .i64 m.seq)).set 1 (.int .i64 m.area)).set 2 (.int .i64 m.chunks)).set 3 (.int .i64 m.ts)).set 4 (.int .i64 m.sector)).set 5 (.int .i64 m.offset)).set 6 (.int .i64 m.number)).set 7 (.int .i64 m.run))
    refine bodyPost_ret (results_two (cs := m.cells) rfl rfl ms_agg ms_size rfl hk) rfl ?_
    rw [HT2.out]
    exact ⟨rfl, ((((((((HB3.out.setCell (Nat.le_refl _) _).setCell (Nat.le_refl _) _).setCell (Nat.le_refl _) _).setCell (Nat.le_refl _) _).setCell (Nat.le_refl _) _).setCell (Nat.le_refl _) _).setCell (Nat.le_refl _) _).setCell (Nat.le_refl _) _)⟩
  · have hzb : (z.e != 0) = true := by simpa using hz
    have HT2 : Hid (Rc.takeMs xs = (⟨0, 0, 0, 0, 0, 0, 0, 0⟩, z.e)) := by unfold Hid; rw [HT.out, if_neg hz]
    clear hz HT
    go_wp2
    try simp only [Exit.inBlock, Exit.then]
    have hk := ((((((((HA3.out.set 0 (.int .i64 0)).set 1 (.int .i64 0)).set 2 (.int .i64 0)).set 3 (.int .i64 0)).set 4 (.int .i64 0)).set 5 (.int .i64 0)).set 6 (.int .i64 0)).set 7 (.int .i64 0))
    refine bodyPost_ret (results_two (cs := [.int .i64 0, .int .i64 0, .int .i64 0, .int .i64 0, .int .i64 0, .int .i64 0, .int .i64 0, .int .i64 0]) rfl rfl ms_agg ms_size rfl hk) rfl ?_
    rw [HT2.out]
    exact ⟨rfl, ((((((((HB3.out.setCell (Nat.le_refl _) _).setCell (Nat.le_refl _) _).setCell (Nat.le_refl _) _).setCell (Nat.le_refl _) _).setCell (Nat.le_refl _) _).setCell (Nat.le_refl _) _).setCell (Nat.le_refl _) _).setCell (Nat.le_refl _) _)⟩

end Go.Proofs.Ytlfgclmgpbaenaa
