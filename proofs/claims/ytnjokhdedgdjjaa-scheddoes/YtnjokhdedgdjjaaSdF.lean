/- Schedulers: a number is struck; a fiber does a step, the one at a place, one is dropped, one is taken. -/
import Derived.Test.YtnjokhdedgdjjaaSdE
import Derived.Test.YtnjokhdedgdjjaaSdLay
import Derived.Lib.OwnBridge
import Derived.Sort.OwnSortedInts
namespace Go.Proofs.Ytnjokhdedgdjjaa
open Go.RowKit Go.Maps Go.Lib Go.Shelf Go.Sort
set_option linter.unusedVariables false
set_option maxRecDepth 100000

theorem ints_eq (l : List Nat) : ints l = (l.map fun (n : Nat) => (n : Int)).map (Value.int .i64) := by simp [ints, Function.comp_def]

theorem rising_idx : ∀ (l : List Nat) (x : Nat), l.Pairwise (· < ·) → x ∈ l → l.eraseIdx (l.countP fun y => decide (y < x)) = (l.filter fun y => y != x) ∧ (l.countP fun y => decide (y < x)) < l.length
  | [], x, _, h => by cases h
  | y :: r, x, hp, h => by
    rw [List.pairwise_cons] at hp
    rcases List.mem_cons.1 h with rfl | hm
    · have h0 : (r.countP fun y => decide (y < x)) = 0 := by
        rw [List.countP_eq_zero]
        intro z hz
        have := hp.1 z hz
        simp
        omega
      have h1 : (r.filter fun y => y != x) = r := by
        rw [List.filter_eq_self]
        intro z hz
        have := hp.1 z hz
        simp
        omega
      simp [h0, h1]
    · have hlt := hp.1 x hm
      obtain ⟨e1, e2⟩ := rising_idx r x hp.2 hm
      have hc : ((y :: r).countP fun z => decide (z < x)) = (r.countP fun z => decide (z < x)) + 1 := by
        rw [List.countP_cons_of_pos (by simpa using hlt)]
      rw [hc, List.eraseIdx_cons_succ, e1]
      have : (y != x) = true := by simp; omega
      simp [this]
      omega

theorem countP_int (l : List Nat) (x : Nat) : ((l.map fun (n : Nat) => (n : Int)).countP fun y => decide (y < (x : Int))) = l.countP fun y => decide (y < x) := by
  rw [List.countP_map]
  congr 1
  funext y
  simp

theorem search_any {w : World} {v : Value} {l : List Nat} (h : w.ownsRow 0 3 1 v l.length (ints l)) (hs : l.Pairwise (· < ·)) (hb : l.length ≤ 10000000000000) {x : Nat} (hx : x ∈ l) :
    Calls Try.prog 50 #[v, .int .i64 (x : Int)] w fun e w' => e = .returned (.tuple #[.int .i64 ((l.countP fun y => decide (y < x) : Nat) : Int), .bool true]) ∧ ∃ q, w' = w.drewN q := by
  obtain ⟨G, k, rfl⟩ := row_some h (by cases l with | nil => cases hx | cons a r => simp)
  have hc : ∀ j, j < (l.map fun (n : Nat) => (n : Int)).length → w.cell? ⟨G, 0 + j, none⟩ = some (.int .i64 ((l.map fun (n : Nat) => (n : Int)).getD j 0)) := by
    intro j hj
    rw [Nat.zero_add, h.cellAt j (by simpa using hj), ints_eq, List.getElem?_map, List.getElem?_eq_getElem hj]
    simp [List.getD, List.getElem?_eq_getElem (show j < l.length by simpa using hj)]
  have := AnyG.slices_BinarySearch_int Try.sdSearch G 0 l.length k (l.map fun (n : Nat) => (n : Int)) (x : Int) w (by simp) (by omega) hc (by
    rw [List.take_of_length_le (by simp)]
    rw [List.pairwise_map]
    exact hs.imp (fun h => by omega))
  rw [List.take_of_length_le (by simp), countP_int] at this
  have hcn : (l.map fun (n : Nat) => (n : Int)).contains (x : Int) = true := by
    rw [List.contains_iff_mem]
    exact List.mem_map.2 ⟨x, hx, rfl⟩
  rw [hcn] at this
  exact this

theorem delete_any {w : World} {v : Value} {l : List Nat} (h : w.ownsRow 0 3 1 v l.length (ints l)) {i : Nat} (hi : i < l.length) :
    Calls Try.prog 51 #[v, .int .i64 (i : Int), .int .i64 ((i + 1 : Nat) : Int)] w fun e w' => ∃ v', e = .returned v' ∧ w'.ownsRow 0 3 1 v' (l.eraseIdx i).length (ints (l.eraseIdx i)) ∧ Tn v.ownBlock.toList w w' ∧ v'.ownBlock = v.ownBlock := by
  rcases h.2 with ⟨hv, hn⟩ | ⟨G, cap, cur, hv, hbase, hbk, h1, h2, h3, h4⟩
  · omega
  · subst hv
    have hz : (l.map fun (n : Nat) => (n : Int)).length = l.length := by simp
    have hh : Holds (Value.int .i64) w G 0 (l.map fun (n : Nat) => (n : Int)).toArray := holds_of_blockI hbk (by rw [hz, ← ints_eq]; simpa using h4)
    have := AnyG.slices_Delete_int Try.sdDelete G 0 cap i (i + 1) (l.map fun (n : Nat) => (n : Int)) w hh (by rw [hz]; exact h1) h2 (by omega) (by rw [hz]; omega)
    rw [hz] at this
    refine Calls.mono this ?_
    rintro e w' ⟨rfl, q, rfl⟩
    have el : l.length - (i + 1 - i) = (l.eraseIdx i).length := by rw [List.length_eraseIdx_of_lt hi]; omega
    refine ⟨_, rfl, ?_, ?_, rfl⟩
    · have h' := h
      rw [ints_eq] at h'
      have := ownsRow_putRow (enc := Value.int .i64) (q := q) (k := (l.eraseIdx i).length) (ys := (l.map fun (n : Nat) => (n : Int)).take i ++ (l.map fun (n : Nat) => (n : Int)).drop (i + 1) ++ List.replicate (i + 1 - i) 0) h' (by simp; omega) (by rw [← el]; omega)
      rw [List.take_left' (by rw [← List.map_take, ← List.map_drop, ← List.map_append, List.length_map, ← List.eraseIdx_eq_take_drop_succ])] at this
      rw [← List.map_take, ← List.map_drop, ← List.map_append, ← List.eraseIdx_eq_take_drop_succ, ← ints_eq, ← el] at this
      rw [← el]
      rw [← List.map_take, ← List.map_drop, ← List.map_append, ← List.eraseIdx_eq_take_drop_succ]
      exact this
    · have := grownBy_sortedI (w := w) (g := G) (n := q) (os := #[]) ((l.map fun (n : Nat) => (n : Int)).take i ++ (l.map fun (n : Nat) => (n : Int)).drop (i + 1) ++ List.replicate (i + 1 - i) 0).toArray
      rw [grow_empty] at this
      exact grown_tn this

section
variable {w w' : World} {N : Nat} {g : Ge} {s : Sc}
theorem strike_any (h : Sd w N g s) {n : Nat} (hn : n ∈ s.al) (hs : s.al.Pairwise (· < ·)) (hl : s.al.length ≤ 10000000000000) :
    Calls Try.prog 39 #[.pointer (some ⟨g.S, 0, none⟩), .int .i64 (n : Int)] w fun e w' => e = .returned (.tuple #[]) ∧ ∃ g', Sd w' N g' { s with al := s.al.filter fun y => y != n } ∧ Aft w w' g g' s { s with al := s.al.filter fun y => y != n } := by
  have c1 := h.c1
  obtain ⟨he, hi⟩ := rising_idx s.al n hs hn
  generalize hii : (s.al.countP fun y => decide (y < n)) = i at he hi
  have HH : Hid (Sd w N g s ∧ n ∈ s.al ∧ s.al.Pairwise (· < ·) ∧ s.al.eraseIdx i = (s.al.filter fun y => y != n) ∧ i < s.al.length ∧ (s.al.countP fun y => decide (y < n)) = i) := ⟨h, hn, hs, he, hi, hii⟩
  have hil : (i : Int) + 1 = ((i + 1 : Nat) : Int) := by omega
  have hib : i < 10000000000000 := by omega
  clear h hn hs he hi hii
  go_enter Try.func39, Try.ntmps39
  go_wp2_with fail
  refine (search_any HH.out.1.al HH.out.2.2.1 hl HH.out.2.1).mono ?_
  rintro e w1 ⟨rfl, q, rfl⟩
  rw [HH.out.2.2.2.2.2]
  have h1 : Sd (w.drewN q) N g s := HH.out.1.drew q
  obtain ⟨w1, hw1⟩ : ∃ w1, w.drewN q = w1 := ⟨_, rfl⟩
  have t1 : Tn [] w w1 := hw1 ▸ ⟨rfl, rfl, rfl, Nat.le_refl _, fun _ _ _ => rfl⟩
  rw [hw1] at h1 ⊢
  clear hw1
  have d1 := h1.c1
  have H1 : Hid (Sd w1 N g s ∧ Tn [] w w1) := ⟨h1, t1⟩
  have hw2 : wrap64 ((i : Int) + 1) = ((i + 1 : Nat) : Int) := by unfold wrap64; omega
  clear h1 t1 hil
  go_wp2_with fail
  refine (delete_any H1.out.1.al HH.out.2.2.2.2.1).mono ?_
  rintro e w2 ⟨v', rfl, hr, t2, hv'⟩
  rw [HH.out.2.2.2.1] at hr
  have hS2 := H1.out.1.blk.tn t2 (by rw [opt_toList]; exact fun e => H1.out.1.s_ne.2.2.2.1 _ e rfl)
  have f1 := hS2.frozen 1
  have e1 : w2.cell? ⟨g.S, 1, none⟩ = some g.va := hS2.cell 1
  obtain ⟨h3, t3⟩ := H1.out.1.setAl t2 hr (fun b hb e => H1.out.1.d1 b hb (hv' ▸ e))
  have HE : Hid (∃ g', Sd (w2.setCell ⟨g.S, 1, none⟩ v') N g' { s with al := s.al.filter fun y => y != n } ∧ Aft w (w2.setCell ⟨g.S, 1, none⟩ v') g g' s { s with al := s.al.filter fun y => y != n }) := by
    refine ⟨_, h3, (H1.out.2.mono (by simp)).trans t3 (fun x hx => .inl ?_), ⟨rfl, rfl, rfl, rfl, rfl⟩, ?_, fun b hb => .inl hb⟩
    · rcases List.mem_cons.1 hx with rfl | hx
      · exact mem_ftS
      · exact mem_ftA (opt_toList.1 hx)
    · refine ft_sub (P := fun x => x ∈ ft g s ∨ w.heap.size ≤ x) (.inl mem_ftS) (.inl mem_ftM) (.inl mem_ftC) (fun k hk => .inl (mem_ftA (hv' ▸ hk))) (fun k hk => .inl (mem_ftD hk)) (fun y hy => .inl (mem_ftF hy)) (fun a ha => .inl (mem_ftN ha))
  obtain ⟨p, c, hvf, hc⟩ := row_form hr
  clear hr t2 hv' hS2 h3 t3
  subst hvf
  go_wp2
  go_end0
  exact ⟨rfl, HE.out⟩

/-- At rest the list has just who is alive. -/
def Sc.rest (s : Sc) : Prop := s.al = s.fl.map Fb.num
/-- A step of a fiber that is alive, and it is struck, if it has finished. -/
def Sc.step (s : Sc) (f : Fb) : Sc := { s.adv f with al := (s.adv f).fl.map Fb.num }

theorem filter_nums (fl : List Fb) (n : Nat) : (fl.map Fb.num).filter (fun y => y != n) = (fl.filter fun f => f.num != n).map Fb.num := by
  rw [List.filter_map]
  rfl

theorem Sd.len (h : Sd w N g s) (hr : s.rest) : s.al.length ≤ 4096 := by
  have := h.fits
  have := h.big
  rw [hr, List.length_map]
  omega

theorem step_no (h : Sd w N g s) (q : Int) (hq : (Lit.int .i64 q).wf = true) (hf : fat s.fl q = none) :
    Calls Try.prog 23 #[.pointer (some ⟨g.S, 0, none⟩), .int .i64 q] w fun e w' => e = .returned (.tuple #[.bool false, .int .i64 4]) ∧ w' = w := by
  have HH : Hid (Sd w N g s) := h
  have HC := check_any h q hq
  rw [hf] at HC
  simp only [Option.isSome_none, Bool.false_eq_true, if_false] at HC
  have HC' : Hid (Calls Try.prog 38 #[.pointer (some ⟨g.S, 0, none⟩), .int .i64 q] w fun e w' => e = .returned (.int .i64 4) ∧ w' = w) := HC
  clear h HC
  go_enter Try.func23, Try.ntmps23
  go_wp2_with fail
  refine HC'.out.mono ?_
  rintro e w1 ⟨rfl, rfl⟩
  go_wp2
  go_ret2
  exact ⟨rfl, rfl⟩

theorem step_any (h : Sd w N g s) (hr : s.rest) {f : Fb} (hf : f ∈ s.fl) (hl : f.left ≤ 9223372036854775807) (hdl : s.done.length ≤ 4611686018427387904) {ov : Bool} (hov : ov = decide (f.left ≤ 1)) {n : Nat} (hn : n = f.num) :
    Calls Try.prog 23 #[.pointer (some ⟨g.S, 0, none⟩), .int .i64 (n : Int)] w fun e w' => e = .returned (.tuple #[.bool ov, .int .i64 0]) ∧ ∃ g', Sd w' N g' (s.step f) ∧ Aft w w' g g' s (s.step f) := by
  have hlen := h.len hr
  have HC := check_any h (n : Int) (WalkArith.wf_i64 (by have := h.up f hf; have := h.hN; omega))
  rw [hn, fat_of_mem h.rs hf] at HC
  simp only [Option.isSome_some, if_true] at HC
  rw [← hn] at HC
  have HC' : Hid (Calls Try.prog 38 #[.pointer (some ⟨g.S, 0, none⟩), .int .i64 (n : Int)] w fun e w' => e = .returned (.int .i64 0) ∧ w' = w) := HC
  have HH : Hid (Sd w N g s ∧ s.rest ∧ f ∈ s.fl ∧ ov = decide (f.left ≤ 1) ∧ n = f.num ∧ s.al.length ≤ 4096 ∧ s.done.length ≤ 4611686018427387904 ∧ f.left ≤ 9223372036854775807) := ⟨h, hr, hf, hov, hn, hlen, hdl, hl⟩
  clear h hr hf hov hn hlen hdl hl HC
  go_enter Try.func23, Try.ntmps23
  go_wp2_with fail
  refine HC'.out.mono ?_
  rintro e w1 ⟨rfl, rfl⟩
  clear HC'
  go_wp2_with fail
  refine (advance_any HH.out.1 HH.out.2.2.1 HH.out.2.2.2.2.2.2.2 HH.out.2.2.2.2.2.2.1 HH.out.2.2.2.1 HH.out.2.2.2.2.1).mono ?_
  rintro e w2 ⟨rfl, g2, h2, t2⟩
  have hal : (s.adv f).al = s.fl.map Fb.num := HH.out.2.1
  cases hov : ov with
  | false =>
    have hlt : 1 < f.left := by have := HH.out.2.2.2.1; rw [hov] at this; simp at this; omega
    have es : s.adv f = s.step f := by
      unfold Sc.step
      have : (s.adv f).fl.map Fb.num = (s.adv f).al := by
        rw [hal]
        show ((if 1 < f.left then s.fl.map (less f.num) else _).map Fb.num) = _
        rw [if_pos hlt, less_nums]
      rw [this]
    rw [es] at h2 t2
    have HE : Hid (∃ g', Sd w2 N g' (s.step f) ∧ Aft w1 w2 g g' s (s.step f)) := ⟨g2, h2, t2⟩
    clear h2 t2 hal es
    go_wp2
    go_ret2
    exact ⟨by rw [hov]; rfl, HE.out⟩
  | true =>
    have hlt : ¬ 1 < f.left := by have := HH.out.2.2.2.1; rw [hov] at this; simp at this; omega
    have hst := strike_any h2 (n := n) (by rw [hal, HH.out.2.2.2.2.1]; exact List.mem_map_of_mem HH.out.2.2.1) (by rw [hal]; exact HH.out.1.rs) (by have := HH.out.2.2.2.2.2.1; show s.al.length ≤ _; omega)
    have es : { s.adv f with al := (s.adv f).al.filter fun y => y != n } = s.step f := by
      unfold Sc.step
      have : (s.adv f).fl.map Fb.num = (s.adv f).al.filter fun y => y != n := by
        rw [hal, filter_nums, HH.out.2.2.2.2.1]
        simp [Sc.adv, hlt]
      rw [this]
    rw [es] at hst
    have gS := t2.same.1
    rw [gS] at hst
    have HST : Hid _ := hst
    have H2 : Hid (Aft w1 w2 g g2 s (s.adv f)) := t2
    clear h2 t2 hal es hst gS
    go_wp2_with fail
    refine Calls.mono HST.out ?_
    rintro e w3 ⟨rfl, g3, h3, t3⟩
    have HE : Hid (∃ g', Sd w3 N g' (s.step f) ∧ Aft w1 w3 g g' s (s.step f)) := ⟨g3, h3, H2.out.trans t3⟩
    clear h3 t3 HST
    go_wp2
    go_ret2
    exact ⟨by rw [hov]; rfl, HE.out⟩

theorem pick_none (h : Sd w N g s) (k : Int) (hf : s.fl = []) :
    Calls Try.prog 22 #[.pointer (some ⟨g.S, 0, none⟩), .int .i64 k] w fun e w' => e = .returned (.tuple #[.int .i64 0, .bool false, .int .i64 4]) ∧ w' = w := by
  have c2 := h.c2
  have HH : Hid (Sd w N g s ∧ 0 = s.fl.length) := ⟨h, by rw [hf]; rfl⟩
  clear h hf
  go_enter Try.func22, Try.ntmps22
  go_wp2_with fail
  refine (made_any c2).mono ?_
  rintro e w1 ⟨rfl, rfl⟩
  go_wp2_with fail
  refine (count_any HH.out.1 0 HH.out.2).mono ?_
  rintro e w1 ⟨rfl, rfl⟩
  go_wp2
  go_ret3
  exact ⟨rfl, rfl⟩

theorem pick_any (h : Sd w N g s) (hr : s.rest) (k : Int) (hk : -9223372036854775808 ≤ k ∧ k ≤ 9223372036854775807) {i : Nat} {f : Fb} (hf : s.fl[i]? = some f) (hi : k % (s.fl.length : Int) = (i : Int)) (hl : f.left ≤ 9223372036854775807) (hdl : s.done.length ≤ 4611686018427387904) {ov : Bool} (hov : ov = decide (f.left ≤ 1)) :
    Calls Try.prog 22 #[.pointer (some ⟨g.S, 0, none⟩), .int .i64 k] w fun e w' => e = .returned (.tuple #[.int .i64 (f.num : Int), .bool ov, .int .i64 0]) ∧ ∃ g', Sd w' N g' (s.step f) ∧ Aft w w' g g' s (s.step f) := by
  have c2 := h.c2
  have c1 := h.c1
  have hlen := h.len hr
  have hil : i < s.fl.length := (List.getElem?_eq_some_iff.1 hf).1
  have hll : s.al.length = s.fl.length := by rw [hr, List.length_map]
  obtain ⟨G, K, hG⟩ := row_some h.al (by omega)
  have ci : w.cell? ⟨G, i, none⟩ = some (.int .i64 (f.num : Int)) := by
    have ha := h.al
    rw [hG] at ha
    rw [ha.cellAt i (by omega)]
    unfold ints
    rw [List.getElem?_map, hr, List.getElem?_map, hf]
    rfl
  rw [hG, hll] at c1
  obtain ⟨m, hm⟩ : ∃ m, m = s.fl.length := ⟨_, rfl⟩
  rw [← hm] at c1 hi hil
  have hm0 : ¬ (m : Int) = 0 := by omega
  have hmf : (m : Int) ≠ 0 := by omega
  have HH : Hid (Sd w N g s ∧ s.rest ∧ f ∈ s.fl ∧ ov = decide (f.left ≤ 1) ∧ m = s.fl.length ∧ s.done.length ≤ 4611686018427387904 ∧ f.left ≤ 9223372036854775807 ∧ k % (m : Int) = (i : Int) ∧ 0 < m ∧ m ≤ 4611686018427387904) := ⟨h, hr, List.mem_of_getElem? hf, hov, hm, hdl, hl, hi, by omega, by omega⟩
  clear h hr hf hov hdl hl hlen hll hG hm hi
  go_enter Try.func22, Try.ntmps22
  go_wp2_with fail
  refine (made_any c2).mono ?_
  rintro e w1 ⟨rfl, rfl⟩
  go_wp2_with fail
  refine (count_any HH.out.1 m HH.out.2.2.2.2.1).mono ?_
  rintro e w1 ⟨rfl, rfl⟩
  go_wp2_with fail
  have HP : Hid (∀ w', Calls Try.prog 40 #[.int .i64 k, .int .i64 (m : Int)] w' fun e w'' => e = .returned (.int .i64 (i : Int)) ∧ w'' = w') := fun w' => by
    have := place_any k hk m HH.out.2.2.2.2.2.2.2.2.1 HH.out.2.2.2.2.2.2.2.2.2 w'
    rw [HH.out.2.2.2.2.2.2.2.1] at this
    exact this
  go_quiet (first
    | (go_at_call 11; refine Calls.quiet_of_same (count_any (HH.out.1.drew _) m HH.out.2.2.2.2.1))
    | (go_at_call 40; refine Calls.quiet_of_same (HP.out _)))
  obtain ⟨wq, hwq⟩ : ∃ wq, w1.drewN nq = wq := ⟨_, rfl⟩
  have HQ : Hid (Sd wq N g s ∧ Aft w1 wq g g s s) := ⟨hwq ▸ HH.out.1.drew nq, ⟨hwq ▸ ⟨rfl, rfl, rfl, Nat.le_refl _, fun _ _ _ => rfl⟩, ⟨rfl, rfl, rfl, rfl, rfl⟩, fun x hx => .inl hx, fun x hx => .inl hx⟩⟩
  rw [hwq]
  clear hwq c1 c2 HP ci
  go_wp2_with fail
  refine (step_any HQ.out.1 HH.out.2.1 HH.out.2.2.1 HH.out.2.2.2.2.2.2.1 HH.out.2.2.2.2.2.1 HH.out.2.2.2.1 rfl).mono ?_
  rintro e w2 ⟨rfl, g2, h2, t2⟩
  have HE : Hid (∃ g', Sd w2 N g' (s.step f) ∧ Aft w1 w2 g g' s (s.step f)) := ⟨g2, h2, HQ.out.2.trans t2⟩
  clear h2 t2
  go_wp2
  go_ret3
  exact ⟨rfl, HE.out⟩

theorem drop_no (h : Sd w N g s) (q : Int) (hq : (Lit.int .i64 q).wf = true) (hf : fat s.fl q = none) :
    Calls Try.prog 21 #[.pointer (some ⟨g.S, 0, none⟩), .int .i64 q] w fun e w' => e = .returned (.int .i64 4) ∧ w' = w := by
  have HH : Hid (Sd w N g s) := h
  have HC := check_any h q hq
  rw [hf] at HC
  simp only [Option.isSome_none, Bool.false_eq_true, if_false] at HC
  have HC' : Hid (Calls Try.prog 38 #[.pointer (some ⟨g.S, 0, none⟩), .int .i64 q] w fun e w' => e = .returned (.int .i64 4) ∧ w' = w) := HC
  clear h HC
  go_enter Try.func21, Try.ntmps21
  go_wp2_with fail
  refine HC'.out.mono ?_
  rintro e w1 ⟨rfl, rfl⟩
  go_wp2
  go_ret
  exact ⟨rfl, rfl⟩

/-- Without a fiber. -/
def Sc.dropped (s : Sc) (n : Nat) : Sc := { s with fl := s.fl.filter fun x => x.num != n, al := (s.fl.filter fun x => x.num != n).map Fb.num }

theorem drop_any (h : Sd w N g s) (hr : s.rest) {f : Fb} (hf : f ∈ s.fl) {n : Nat} (hn : n = f.num) :
    Calls Try.prog 21 #[.pointer (some ⟨g.S, 0, none⟩), .int .i64 (n : Int)] w fun e w' => e = .returned (.int .i64 0) ∧ ∃ g', Sd w' N g' (s.dropped n) ∧ Aft w w' g g' s (s.dropped n) := by
  have hlen := h.len hr
  have hwf : (Lit.int .i64 (n : Int)).wf = true := WalkArith.wf_i64 (by have := h.up f hf; have := h.hN; omega)
  have HC := check_any h (n : Int) hwf
  rw [hn, fat_of_mem h.rs hf] at HC
  simp only [Option.isSome_some, if_true] at HC
  rw [← hn] at HC
  have HC' : Hid (Calls Try.prog 38 #[.pointer (some ⟨g.S, 0, none⟩), .int .i64 (n : Int)] w fun e w' => e = .returned (.int .i64 0) ∧ w' = w) := HC
  have c0 := h.c0
  obtain ⟨w4, hdel, hm4, t4⟩ := h.mp.del (t := 58) Try.underlying58 (n : Int) hwf 0
  rw [← fsome_rid] at hm4
  have hs := filter_short hf
  have h4 : Sd w4 N g { s with fl := s.fl.filter fun x => x.num != n } := by
    refine h.turnMap t4 hm4 (fun y hy => (List.mem_filter.1 hy).1) (h.nd.sublist ((List.filter_sublist).map _)) (h.rs.sublist ((List.filter_sublist).map _)) ?_
    rw [← hn] at hs
    omega
  have H4 : Hid (Sd w4 N g { s with fl := s.fl.filter fun x => x.num != n } ∧ Tn [g.M] w w4 ∧ n ∈ s.al ∧ s.al.Pairwise (· < ·) ∧ s.al.length ≤ 4096 ∧ (s.al.filter fun y => y != n) = (s.fl.filter fun x => x.num != n).map Fb.num) := ⟨h4, t4, by rw [hr, hn]; exact List.mem_map_of_mem hf, by rw [hr]; exact h.rs, hlen, by rw [hr, filter_nums]⟩
  clear h hr hf hn hlen HC hm4 t4 hs h4 hwf
  go_enter Try.func21, Try.ntmps21
  go_wp2_with fail
  refine HC'.out.mono ?_
  rintro e w1 ⟨rfl, rfl⟩
  clear HC'
  go_wp2_with fail
  refine (strike_any H4.out.1 (n := n) H4.out.2.2.1 H4.out.2.2.2.1 (by have := H4.out.2.2.2.2.1; show s.al.length ≤ _; omega)).mono ?_
  rintro e w3 ⟨rfl, g3, h3, t3⟩
  have es : ({ ({ s with fl := s.fl.filter fun x => x.num != n } : Sc) with al := ({ s with fl := s.fl.filter fun x => x.num != n } : Sc).al.filter fun y => y != n } : Sc) = s.dropped n := by
    unfold Sc.dropped
    rw [← H4.out.2.2.2.2.2]
  rw [es] at h3 t3
  have HE : Hid (∃ g', Sd w3 N g' (s.dropped n) ∧ Aft w1 w3 g g' s (s.dropped n)) := by
    have hsub : ∀ x ∈ ft g ({ s with fl := s.fl.filter fun x => x.num != n } : Sc), x ∈ ft g s := ft_sub (P := fun x => x ∈ ft g s) mem_ftS mem_ftM mem_ftC (fun _ => mem_ftA) (fun _ => mem_ftD) (fun y hy => mem_ftF (List.mem_filter.1 hy).1) (fun a ha => mem_ftN ha)
    have t0 : Aft w1 w4 g g s ({ s with fl := s.fl.filter fun x => x.num != n } : Sc) := ⟨H4.out.2.1.mono (fun x hx => by simp at hx; subst hx; exact mem_ftM), ⟨rfl, rfl, rfl, rfl, rfl⟩, fun x hx => .inl (hsub x hx), fun b hb => .inl hb⟩
    exact ⟨g3, h3, t0.trans t3⟩
  clear h3 t3 es
  go_wp2
  go_ret
  exact ⟨rfl, HE.out⟩

theorem finished_none (h : Sd w N g s) (hb : s.box = []) :
    Calls Try.prog 20 #[.pointer (some ⟨g.S, 0, none⟩)] w fun e w' => e = .returned (.tuple #[.int .i64 0, .bool false]) ∧ w' = w := by
  have c2 := h.c2
  have hx := h.bx
  rw [hb] at hx
  have HX : Hid (BxI w g.X g.C s.room g.bs []) := hx
  clear h hb hx
  go_enter Try.func20, Try.ntmps20
  go_wp2_with fail
  refine (made_any c2).mono ?_
  rintro e w1 ⟨rfl, rfl⟩
  go_wp2_with fail
  refine (take_noneI HX.out).mono ?_
  rintro e w1 ⟨rfl, rfl⟩
  go_wp2
  go_ret2
  exact ⟨rfl, rfl⟩

theorem finished_any (h : Sd w N g s) {n : Nat} {r : List Nat} (hb : s.box = n :: r) :
    Calls Try.prog 20 #[.pointer (some ⟨g.S, 0, none⟩)] w fun e w' => e = .returned (.tuple #[.int .i64 (n : Int), .bool true]) ∧ ∃ g', Sd w' N g' { s with box := r } ∧ Aft w w' g g' s { s with box := r } := by
  have c2 := h.c2
  have hx := h.bx
  rw [hb] at hx
  obtain ⟨b, bs', hbs⟩ : ∃ b bs', g.bs = b :: bs' := by
    cases hg : g.bs with
    | nil => have := hx.len; rw [hg] at this; simp at this
    | cons b bs' => exact ⟨b, bs', rfl⟩
  rw [hbs] at hx
  have HX : Hid (BxI w g.X g.C s.room (b :: bs') ((n : Int) :: r.map fun (n : Nat) => (n : Int)) ∧ Sd w N g s ∧ s.box = n :: r ∧ g.bs = b :: bs') := ⟨hx, h, hb, hbs⟩
  clear h hb hx hbs
  go_enter Try.func20, Try.ntmps20
  go_wp2_with fail
  refine (made_any c2).mono ?_
  rintro e w1 ⟨rfl, rfl⟩
  go_wp2_with fail
  refine (take_anyI HX.out.1).mono ?_
  rintro e w2 ⟨rfl, hb2, t2⟩
  have HE : Hid (∃ g', Sd w2 N g' { s with box := r } ∧ Aft w1 w2 g g' s { s with box := r }) := by
    have hfit := HX.out.2.1.fits
    rw [HX.out.2.2.1] at hfit
    have hsb : ∀ x ∈ bs', x ∈ g.bs := fun x hx => by rw [HX.out.2.2.2]; exact List.mem_cons_of_mem _ hx
    refine ⟨{ g with bs := bs' }, HX.out.2.1.turnBox t2 hb2 (fun x hx => .inl (hsb x hx)) (by simp at hfit; omega), t2.mono (fun x hx => by simp at hx; subst hx; exact mem_ftC), ⟨rfl, rfl, rfl, rfl, rfl⟩, fun x hx => .inl hx, fun x hx => .inl (hsb x hx)⟩
  clear hb2 t2
  go_wp2
  go_ret2
  exact ⟨rfl, HE.out⟩
end
end Go.Proofs.Ytnjokhdedgdjjaa
