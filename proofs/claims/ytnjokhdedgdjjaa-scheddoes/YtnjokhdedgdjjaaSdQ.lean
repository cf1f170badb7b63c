/- Schedulers: what is told is held against a row; those that no call made. -/
import Derived.Test.YtnjokhdedgdjjaaSdO
namespace Go.Proofs.Ytnjokhdedgdjjaa
open Go.RowKit Go.Maps Go.Shelf
attribute [local go_sem] Oper.semAt_some
set_option linter.unusedVariables false
set_option maxRecDepth 100000

/-- Between the rounds. -/
structure Tk (w W : World) (B0 : Nat) (q : Option Addr) (m c : Nat) (L pre : List Nat) : Prop where
  b0 : Boxed W w.heap.size 36 (.slice q m c)
  b1 : Boxed W (w.heap.size + 1) 4 (.bool false)
  b2 : Boxed W (w.heap.size + 1 + 1) 3 (.int .i64 (pre.length : Int))
  below : Below w.heap.size w W
  pf : pre <+: L
  sz : B0 ≤ W.heap.size

theorem Tk.abides {w W W' : World} {B0 : Nat} {q : Option Addr} {m c : Nat} {L pre : List Nat} {row : Option Nat} (h : Tk w W B0 q m c L pre) (hm : w.heap.size ≤ B0) (hg : W.grownBy W' row) (hr : ∀ r, row = some r → B0 ≤ r ∧ ∃ o : Obj, W.heap[r]? = some o ∧ o.isCells = false) : Tk w W' B0 q m c L pre where
  b0 := boxed_from h.b0 hg hr
  b1 := boxed_from h.b1 hg hr
  b2 := boxed_from h.b2 hg hr
  below := h.below.grown hg h.below.size (fun k hk => by have := (hr k hk).1; omega)
  pf := h.pf
  sz := Nat.le_trans h.sz hg.size

theorem pre_last {L pre : List Nat} {x : Nat} (h : pre ++ [x] <+: L) : L[pre.length]? = some x := by
  obtain ⟨t, rfl⟩ := h
  simp

set_option maxHeartbeats 4000000 in
theorem told_any {w : World} {b : Nat} {S : List Nat} {L : List Nat} (hF : Av w b S L) {q : Option Addr} {m c : Nat} (hm : L.length = m) (hx : ∀ (j x : Nat), L[j]? = some x → ∃ G, q = some ⟨G, 0, none⟩ ∧ G < w.heap.size ∧ w.cell? ⟨G, j, none⟩ = some (.int .i64 (x : Int))) :
    Calls Try.prog 24 #[.func (.func 43) #[] #[.pointer (some ⟨b, 0, none⟩)], .slice q m c] w fun r w' => r = .returned (.bool true) ∧ Below w.heap.size w w' := by
  refine calls_of_wpAt Try.func24 rfl ?_
  simp only [Try.ntmps24, List.size_toArray, List.length_cons, List.length_nil, Nat.reduceAdd, Nat.reduceSub, Array.replicate_succ, Array.replicate_zero, List.push_toArray, List.append_toArray, List.nil_append, List.cons_append]
  have HX : Hid (∀ W, Below w.heap.size w W → ∀ (j x : Nat), L[j]? = some x → ∃ G, q = some ⟨G, 0, none⟩ ∧ W.cell? ⟨G, j, none⟩ = some (.int .i64 (x : Int))) := fun W hb j x hj => by
    obtain ⟨G, rfl, hG, hc⟩ := hx j x hj
    exact ⟨G, rfl, by rw [← hc]; exact hb.cell (p := ⟨G, j, none⟩) hG⟩
  have HFM : Hid (Av w b S L ∧ L.length = m) := ⟨hF, hm⟩
  have HSL : Hid (∀ b ∈ S, b < w.heap.size) := hF.lt
  have hreach := hF.reach
  rw [hm] at hreach
  clear hF hx hm
  refine wpAt_seq_k fun K hK => wpAt_of_wp ?_
  go_wp2
  refine wpAt_seq_k fun K hK => wpAt_of_wp ?_
  go_wp2
  refine wpAt_seq_k fun K hK => ?_
  have HK : Hid _ := hK
  clear hK
  refine wpAt_seq_k fun K2 hK2 => wpAt_of_wp ?_
  go_wp2
  obtain ⟨w3, hw3⟩ : ∃ w3, ((w.alloc (.cells #[.slice q m c] 36)).alloc (.cells #[.bool false] 4)).alloc (.cells #[.int .i64 0] 3) = w3 := ⟨_, rfl⟩
  have HT3 : Hid (Tk w w3 w3.heap.size q m c L [] ∧ w3.heap.size = w.heap.size + 1 + 1 + 1) := by
    rw [← hw3]
    have k1 := Bk.new (w.alloc (.cells #[.slice q m c] 36)) 4 #[.bool false]
    have k2 := Bk.new ((w.alloc (.cells #[.slice q m c] 36)).alloc (.cells #[.bool false] 4)) 3 #[.int .i64 0]
    simp only [World.size_alloc] at k1 k2
    exact ⟨⟨((Bk.new w _ _).alloc _).alloc _, k1.alloc _, k2, (((Below.refl _ w).alloc (Nat.le_refl _) _).alloc (by simp) _).alloc (by simp; omega) _, List.nil_prefix, Nat.le_refl _⟩, by simp⟩
  rw [hw3]
  clear hw3
  have hws := HT3.out.2
  have hF3 : Av w3 b S L := HFM.out.1.kp (KpP.of_below HT3.out.1.below HSL.out)
  refine wpAt_blockE ?_
  refine wpAt_boxed ?A Try.func24 (gf := 43) (lb := #[.pointer (some ⟨b, 0, none⟩)]) rfl (enters_of Try.func43 (by kernel_rfl) rfl)
    (alive1_stopsP hF3) KpP.t (fun W l o o' hl _ _ _ k hk => World.putObj_heap_other (fun e => by
      subst e
      have := HSL.out _ hk
      omega)) (Below.refl _ _) (fun _ => rfl)
    (fun pre W => Tk w W w3.heap.size q m c L pre)
    (fun c xs W => False)
    (fun _ _ _ => False)
    (fun s A B' row hs hg hr => hs.abides (by omega) hg hr)
    (fun cc s A B row hs hg hr => hs.elim)
    HT3.out.1
    (fun x bx W => True)
    (fun x bx _ A B' row hs hg hr => trivial)
    ?assign ?body ?done (fun D cc pre W _ _ h _ => h.elim) (fun D chain pre W _ _ h _ => h.elim)
  case assign =>
    rintro l pre x W K hL hK
    obtain ⟨bx, hbx⟩ : ∃ bx : Nat, bx = 0 := ⟨_, rfl⟩
    gi_wp2
    exact hK bx W (KeepsFrom.refl _ _) (KpP.refl _ _) hL trivial
  case body =>
    rintro l pre x bx W hl hT _ hpre
    have c0 := hT.b0.cell
    have c2 := hT.b2.cell
    have f2 := hT.b2.frozen
    obtain ⟨G, rfl, hc⟩ := HX.out W hT.below _ _ (pre_last hpre)
    have hlen : pre.length < m := by
      have := hpre.length_le
      rw [HFM.out.2] at this
      simp at this
      omega
    obtain ⟨N1, hN1⟩ : ∃ N1, pre.length = N1 := ⟨_, rfl⟩
    rw [hN1] at c2 hc hlen
    have HT : Hid (Tk w W w3.heap.size (some ⟨G, 0, none⟩) m c L pre ∧ pre.length = N1) := ⟨hT, hN1⟩
    have hlt : (N1 : Int) < (m : Int) := by omega
    have h0N : (0 : Int) ≤ (N1 : Int) := by omega
    have hmN : ¬ m ≤ N1 := by omega
    have hmNi : ¬ (m : Int) ≤ (N1 : Int) := by omega
    have hw : wrap64 ((N1 : Int) + 1) = (N1 : Int) + 1 := by unfold wrap64; omega
    have HE : Hid (KeepsFrom w3.heap.size W (W.setCell ⟨w.heap.size + 1 + 1, 0, none⟩ (.int .i64 ((N1 : Int) + 1))) ∧ KpP S W (W.setCell ⟨w.heap.size + 1 + 1, 0, none⟩ (.int .i64 ((N1 : Int) + 1))) ∧ Tk w (W.setCell ⟨w.heap.size + 1 + 1, 0, none⟩ (.int .i64 ((N1 : Int) + 1))) w3.heap.size (some ⟨G, 0, none⟩) m c L (pre ++ [x])) := by
      have tp : Tn [w.heap.size + 1 + 1] W (W.setCell ⟨w.heap.size + 1 + 1, 0, none⟩ (.int .i64 ((N1 : Int) + 1))) := (Tn.refl _ W).setCell (.inl (by simp)) _
      refine ⟨(keeps_tn tp (fun y hy => ?_)).from _, KpP.of_tn tp (fun y hy => ?_), ⟨hT.b0.other (by omega) _, hT.b1.other (by omega) _, ?_, hT.below.trans (tp.below hT.below.size (by simp; omega)), hpre, Nat.le_trans hT.sz tp.size⟩⟩
      · simp at hy
        subst hy
        exact ⟨_, hT.b2, rfl⟩
      · have h1 := HSL.out y hy
        have h2 := hT.below.size
        simp
        omega
      · have := hT.b2.set (.int .i64 ((N1 : Int) + 1))
        rw [List.length_append, hN1, show ((N1 + [x].length : Nat) : Int) = (N1 : Int) + 1 by simp]
        exact this
    clear hT hN1 HK HX hpre
    gi_wp2
    have hE := HE.out
    rw [hws] at hE
    exact hE
  case done =>
    rintro D zs W hD rfl hT hK
    refine HK.out _ _ (wpAt_of_wp ?_)
    have HT : Hid (Tk w W w3.heap.size q m c zs zs) := hT
    have c0 := hT.b0.cell
    have c2 := hT.b2.cell
    have f1 := hT.b1.frozen
    have c1 := hT.b1.cell
    have hDn : D ≠ w.heap.size + 1 := by omega
    have hD2 : w.heap.size ≤ D := by omega
    rw [HFM.out.2] at c2
    have HKD : Hid (W.heap[D]? = some (.deferred (some []))) := hK
    clear hT HK HX hK
    go_wp2
    refine ⟨by simp, .inl ⟨_, _, rfl, run_takeDeferred ((Below.heap_setCell _ _ _ _ (by simpa using hDn)).trans HKD.out), ?_⟩⟩
    refine ⟨.bool true, ?_, rfl, ?_⟩
    · have c4 := res_true (W' := W.setCell ⟨w.heap.size + 1, 0, none⟩ (.bool true)) HT.out.b1 rfl hDn
      simp [results, Try.f24, go_sem, c4]
    · exact res_below (b := w.heap.size + 1) HT.out.below (by omega) hD2 rfl rfl rfl rfl

/-- One that no call made. -/
def Nm (w : World) (v : Value) : Prop := v = .pointer none ∨ ∃ S, v = .pointer (some ⟨S, 0, none⟩) ∧ Bk w S 61 #[.map none, .slice none 0 0, .pointer none, .slice none 0 0, .int .i64 0]

theorem Nm.below {w w' : World} {v : Value} (h : Nm w v) (hb : Below w.heap.size w w') : Nm w' v := by
  rcases h with h | ⟨S, h1, h2⟩
  · exact .inl h
  · exact .inr ⟨S, h1, h2.below hb h2.lt⟩

theorem made_no {w : World} {v : Value} (h : Nm w v) : Calls Try.prog 33 #[v] w fun e w' => e = .returned (.bool false) ∧ w' = w := by
  rcases h with rfl | ⟨S, rfl, hb⟩
  · go_enter Try.func33, Try.ntmps33
    go_wp2
    go_ret
    exact ⟨rfl, rfl⟩
  · have c2 : w.cell? ⟨S, 2, none⟩ = some (.pointer none) := hb.cell 2
    clear hb
    go_enter Try.func33, Try.ntmps33
    go_wp2
    go_ret
    exact ⟨rfl, rfl⟩

section
variable {w : World} {v : Value}
theorem check_not (h : Nm w v) (q : Int) : Calls Try.prog 38 #[v, .int .i64 q] w fun e w' => e = .returned (.int .i64 2) ∧ w' = w := by
  go_enter Try.func38, Try.ntmps38
  go_wp2_with fail
  refine (made_no h).mono ?_
  rintro e w1 ⟨rfl, rfl⟩
  go_wp2
  go_ret
  exact ⟨rfl, rfl⟩
theorem spawn_not (h : Nm w v) (f : Value) : Calls Try.prog 18 #[v, f] w fun e w' => e = .returned (.tuple #[.int .i64 0, .int .i64 2]) ∧ w' = w := by
  go_enter Try.func18, Try.ntmps18
  go_wp2_with fail
  refine (made_no h).mono ?_
  rintro e w1 ⟨rfl, rfl⟩
  go_wp2
  go_ret2
  exact ⟨rfl, rfl⟩
theorem step_not (h : Nm w v) (q : Int) : Calls Try.prog 23 #[v, .int .i64 q] w fun e w' => e = .returned (.tuple #[.bool false, .int .i64 2]) ∧ w' = w := by
  go_enter Try.func23, Try.ntmps23
  go_wp2_with fail
  refine (check_not h q).mono ?_
  rintro e w1 ⟨rfl, rfl⟩
  go_wp2
  go_ret2
  exact ⟨rfl, rfl⟩
theorem pick_not (h : Nm w v) (q : Int) : Calls Try.prog 22 #[v, .int .i64 q] w fun e w' => e = .returned (.tuple #[.int .i64 0, .bool false, .int .i64 2]) ∧ w' = w := by
  go_enter Try.func22, Try.ntmps22
  go_wp2_with fail
  refine (made_no h).mono ?_
  rintro e w1 ⟨rfl, rfl⟩
  go_wp2
  go_ret3
  exact ⟨rfl, rfl⟩
theorem run_not (h : Nm w v) (q : Int) : Calls Try.prog 19 #[v, .int .i64 q] w fun e w' => e = .returned (.tuple #[.int .i64 0, .bool false]) ∧ w' = w := by
  go_enter Try.func19, Try.ntmps19
  go_wp2_with fail
  refine (made_no h).mono ?_
  rintro e w1 ⟨rfl, rfl⟩
  go_wp2
  go_ret2
  exact ⟨rfl, rfl⟩
theorem finished_not (h : Nm w v) : Calls Try.prog 20 #[v] w fun e w' => e = .returned (.tuple #[.int .i64 0, .bool false]) ∧ w' = w := by
  go_enter Try.func20, Try.ntmps20
  go_wp2_with fail
  refine (made_no h).mono ?_
  rintro e w1 ⟨rfl, rfl⟩
  go_wp2
  go_ret2
  exact ⟨rfl, rfl⟩
theorem drop_not (h : Nm w v) (q : Int) : Calls Try.prog 21 #[v, .int .i64 q] w fun e w' => e = .returned (.int .i64 2) ∧ w' = w := by
  go_enter Try.func21, Try.ntmps21
  go_wp2_with fail
  refine (check_not h q).mono ?_
  rintro e w1 ⟨rfl, rfl⟩
  go_wp2
  go_ret
  exact ⟨rfl, rfl⟩
theorem count_not (h : Nm w v) : Calls Try.prog 11 #[v] w fun e w' => e = .returned (.int .i64 0) ∧ w' = w := by
  go_enter Try.func11, Try.ntmps11
  go_wp2_with fail
  refine (made_no h).mono ?_
  rintro e w1 ⟨rfl, rfl⟩
  go_wp2
  go_ret
  exact ⟨rfl, rfl⟩
theorem steps_not (h : Nm w v) : Calls Try.prog 13 #[v] w fun e w' => e = .returned (.int .i64 0) ∧ w' = w := by
  go_enter Try.func13, Try.ntmps13
  go_wp2_with fail
  refine (made_no h).mono ?_
  rintro e w1 ⟨rfl, rfl⟩
  go_wp2
  go_ret
  exact ⟨rfl, rfl⟩
theorem of_not (h : Nm w v) (q : Int) : Calls Try.prog 15 #[v, .int .i64 q] w fun e w' => e = .returned (.int .i64 0) ∧ w' = w := by
  go_enter Try.func15, Try.ntmps15
  go_wp2_with fail
  refine (made_no h).mono ?_
  rintro e w1 ⟨rfl, rfl⟩
  go_wp2
  go_ret
  exact ⟨rfl, rfl⟩
theorem alive_not (h : Nm w v) : Calls Try.prog 25 #[v] w fun e w' => ∃ b S, e = .returned (.func (.func 43) #[] #[.pointer (some ⟨b, 0, none⟩)]) ∧ Av w' b S [] ∧ Below w.heap.size w w' := by
  have hmf : ∀ (fn : Fn) (first cap : Array Value) (w : World), (Instr.makeFunc fn first cap).run Try.prog w = .ok (.func fn first cap) w := fun _ _ _ _ => rfl
  have hb0 : Below w.heap.size w (w.alloc (.cells #[.slice none 0 0] 36)) := (Below.refl _ w).alloc (Nat.le_refl _) _
  have h0 := h.below hb0
  have HE : Hid (Av (w.alloc (.cells #[.slice none 0 0] 36)) w.heap.size [w.heap.size] [] ∧ Below w.heap.size w (w.alloc (.cells #[.slice none 0 0] 36))) :=
    ⟨⟨⟨none, 0, Bk.new w _ _, by simp, by simp⟩, by simp, by simp, by simp⟩, hb0⟩
  have H0 : Hid (Nm (w.alloc (.cells #[.slice none 0 0] 36)) v) := h0
  clear h h0 hb0
  go_enter Try.func25, Try.ntmps25
  go_wp2_with fail
  refine (made_no H0.out).mono ?_
  rintro e w1 ⟨rfl, rfl⟩
  go_wp2
  go_ret
  exact ⟨_, _, rfl, HE.out⟩
end
end Go.Proofs.Ytnjokhdedgdjjaa
