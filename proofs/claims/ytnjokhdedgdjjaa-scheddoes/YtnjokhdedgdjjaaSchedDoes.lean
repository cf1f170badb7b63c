/- Whatever is spawned, stepped, picked, run, taken and dropped, in whatever order, each answer of a scheduler is the document's, each step that it counts was done, and at the end the same fibers are alive, told twice. -/
import Derived.Test.YtnjokhdedgdjjaaSdD6
import Derived.Test.YtnjokhdedgdjjaaSdOpen
namespace Go.Proofs.Ytnjokhdedgdjjaa
open Go.ChangeShapes Go.WideShapes Go.ChangeAt Go.RowKit Go.Maps
open Go.ChangeMaps (open_string shut_string)
set_option linter.unusedVariables false
set_option maxRecDepth 100000

theorem cells_below {w w' : World} {b : Nat} {u v : Value} (h : w.cell? ⟨b, 0, none⟩ = some u ∧ w.cell? ⟨b, 1, none⟩ = some v) (hb : Below w.heap.size w w') : w'.cell? ⟨b, 0, none⟩ = some u ∧ w'.cell? ⟨b, 1, none⟩ = some v := by
  have hlt : b < w.heap.size := by
    have h1 := h.1
    simp only [World.cell?] at h1
    cases h2 : w.heap[b]? with
    | none => rw [h2] at h1; cases h1
    | some o => exact (Array.getElem?_eq_some_iff.1 h2).1
  exact ⟨(World.cell?_of_block (a := ⟨b, 0, none⟩) (hb.block b hlt)).trans h.1, (World.cell?_of_block (a := ⟨b, 1, none⟩) (hb.block b hlt)).trans h.2⟩

theorem wf_of {n : Int} (h : -9223372036854775808 ≤ n ∧ n ≤ 9223372036854775807) : (Lit.int .i64 n).wf = true := by
  simp [Lit.wf, IntKind.min, IntKind.max, IntKind.signed, IntKind.bits]
  omega

/-- Both as they begin. -/
theorem Dq.start {w w1 w2 w3 : World} {N n : Nat} {g : Ge} {r : Gr} (h1 : Sd w1 N g (Sc.new n fun _ => 0)) (b1 : Below w.heap.size w w1) (hca : g.ca = []) (hbs : g.bs = []) (hfr : ∀ x ∈ ft g (Sc.new n fun _ => 0), w.heap.size ≤ x)
    (h2 : Rs w2 r (Sc.new n fun _ => 0)) (b2 : Below w1.heap.size w1 w2) (hrt : ∀ x ∈ rt r, w1.heap.size ≤ x) (b3 : Below w2.heap.size w2 w3) :
    ∃ g', g'.S = g.S ∧ Dq w (w3.alloc (.cells #[.int .i64 0] 2)) N w3.heap.size g' r (Sc.new n fun _ => 0) := by
  have b12 : Below w1.heap.size w1 w3 := b2.trans (b3.mono b2.size)
  have bw : Below w.heap.size w w3 := b1.trans (b12.mono b1.size)
  have b4 : Below w3.heap.size w3 (w3.alloc (.cells #[.int .i64 0] 2)) := (Below.refl _ w3).alloc (Nat.le_refl _) _
  have hlw : Lw w (w3.alloc (.cells #[.int .i64 0] 2)) N g (Sc.new n fun _ => 0) := ⟨(h1.below b12).below b4, hfr, bw.trans (b4.mono bw.size)⟩
  have hlt := h1.lts
  have s1 := b12.size
  have s2 := b2.size
  have s3 := b3.size
  have s4 := b1.size
  have hC := hlw.addC [⟨w3.heap.size, 0, none⟩] (fun a ha => by
    simp at ha
    subst ha
    refine ⟨by show w.heap.size ≤ w3.heap.size; omega, fun e => ?_, w3.heap.size, 0, _, rfl, Bk.new _ _ _, rfl⟩
    have := hlt.1 _ (mem_ftD e)
    have h5 : w3.heap.size < w1.heap.size := this
    omega)
  refine ⟨{ g with ca := g.ca ++ [⟨w3.heap.size, 0, none⟩] }, rfl, ⟨⟨hC.sd, (h2.tn (Tn.of_below b3 []) (by simp)).tn (Tn.of_below b4 []) (by simp), fun x hx => ?_, hC.fr, fun x hx => (by have := hrt x hx; omega), hC.below⟩, rfl, fun f hf => (by simp [Sc.new] at hf), (by rw [hca]; rfl), ⟨fun f hf => (by simp [Sc.new] at hf), rfl⟩⟩⟩
  have hx1 := hrt x hx
  have hx2 := h2.lt x hx
  refine ⟨fun hm => ?_, fun e => (by have h9 : x = g.X := e; have := hlt.2.1; omega), fun hm => (by have h9 : x ∈ g.bs := hm; rw [hbs] at h9; cases h9)⟩
  have : x < w1.heap.size ∨ x = w3.heap.size := by
    revert x
    refine fun x hx hx1 hx2 hm => ?_
    refine ft_sub (g' := { g with ca := g.ca ++ [⟨w3.heap.size, 0, none⟩] }) (s' := Sc.new n fun _ => 0) (P := fun x => x < w1.heap.size ∨ x = w3.heap.size) (.inl (hlt.1 _ mem_ftS)) (.inl (hlt.1 _ mem_ftM)) (.inl (hlt.1 _ mem_ftC)) (fun k hk => .inl (hlt.1 _ (mem_ftA hk))) (fun k hk => .inl (hlt.1 _ (mem_ftD hk))) (fun f hf => (by simp [Sc.new] at hf)) (fun a ha => ?_) x hm
    have ha' : a ∈ g.ca ++ [(⟨w3.heap.size, 0, none⟩ : Addr)] := ha
    rw [hca] at ha'
    simp at ha'
    subst ha'
    exact .inr rfl
  omega

set_option maxHeartbeats 8000000 in
theorem walk_schedDoes (room : Int) (p : Option Addr) (len cap : Nat) (l : List Sop) (w : World) (hroom : (Lit.int .i64 room).wf = true) (hU : InS w p len cap l) :
    Calls Try.prog 3 #[.int .i64 room, .slice p len cap] w fun e w' => e = .returned (.bool true) ∧ Below w.heap.size w w' := by
  have HU : Hid (InS w p len cap l) := hU
  have hlen : len ≤ 8796093021952 := Nat.le_trans hU.le hU.room
  clear hU hroom
  by_cases hbad : room < 1 ∨ 4096 < room
  · go_enter Try.func3, Try.ntmps3
    go_wp2_with fail
    refine (new_bad room hbad w).mono ?_
    rintro e w ⟨rfl, rfl⟩
    go_wp2_with fail
    refine (rnew_bad room hbad w).mono ?_
    rintro e w ⟨rfl, rfl⟩
    go_wp2_with fail
    refine (begun_any _).mono ?_
    rintro e w3 ⟨rfl, hb3⟩
    go_wp2
    go_ret
    exact ⟨rfl, hb3⟩
  · obtain ⟨n, rfl⟩ : ∃ n : Nat, room = (n : Int) := ⟨room.toNat, by omega⟩
    have hn1 : 1 ≤ n := by omega
    have hn2 : n ≤ 4096 := by omega
    clear hbad
    go_enter Try.func3, Try.ntmps3
    go_wp2_with fail
    refine (new_any n hn1 hn2 4611686018427387904 (Nat.le_refl _) (fun _ => 0) w).mono ?_
    rintro e w1 ⟨g1, rfl, h1, hb1, hca, hbs, hfr, hX⟩
    have H1 : Hid (Sd w1 4611686018427387904 g1 (Sc.new n fun _ => 0) ∧ Below w.heap.size w w1 ∧ g1.ca = [] ∧ g1.bs = [] ∧ ∀ x ∈ ft g1 (Sc.new n fun _ => 0), w.heap.size ≤ x) := ⟨h1, hb1, hca, hbs, hfr⟩
    clear h1 hb1 hca hbs hfr hX
    go_wp2_with fail
    refine (rnew_any n hn1 hn2 (fun _ => 0) w1).mono ?_
    rintro e w2 ⟨r0, rfl, h2, hb2, hrt⟩
    have H2 : Hid (Rs w2 r0 (Sc.new n fun _ => 0) ∧ Below w1.heap.size w1 w2 ∧ ∀ x ∈ rt r0, w1.heap.size ≤ x) := ⟨h2, hb2, hrt⟩
    clear h2 hb2 hrt
    go_wp2_with fail
    refine (begun_any _).mono ?_
    rintro e w3 ⟨rfl, hb3⟩
    obtain ⟨g0, hg0, hq0⟩ := Dq.start H1.out.1 H1.out.2.1 H1.out.2.2.1 H1.out.2.2.2.1 H1.out.2.2.2.2 H2.out.1 H2.out.2.1 H2.out.2.2 hb3
    have HD0 : Hid (Dq w (w3.alloc (.cells #[.int .i64 0] 2)) 4611686018427387904 w3.heap.size g0 r0 (Sc.new n fun _ => 0)) := hq0
    rw [← hg0]
    obtain ⟨C, hC⟩ : ∃ C, w3.heap.size = C := ⟨_, rfl⟩
    have HC : Hid (w3.heap.size = C) := hC
    rw [hC] at HD0
    clear hg0 hq0 hb3 H1 H2 hC
    go_wp2_with fail
    rw [HC.out]
    go_loopw [40] (fun iv wr => ∃ (j : Nat) (g : Ge) (r : Gr) (s : Sc), j ≤ len ∧ iv = .int .i64 (j : Int) ∧ Hid (Dq w wr 4611686018427387904 C g r s ∧ g.S = g0.S ∧ r.R = r0.R ∧ s.done.length ≤ j)) (fun iv _ => len - (intOf iv).toNat)
    case atStart => exact ⟨0, g0, r0, _, Nat.zero_le _, rfl, HD0.out, rfl, rfl, Nat.le_refl _⟩
    case round =>
      obtain ⟨j, g, r, s, hj, rfl, HP⟩ := hrel
      clear HD0 HC
      by_cases hlt : j < len
      · have hli : (j : Int) < (len : Int) := by omega
        obtain ⟨b, o, x, rfl, hx, hok, hcx⟩ := (HU.out.up HP.out.1.dh.below).at (j := j) hlt
        obtain ⟨dd, n⟩ := x
        have c0 : wr.cell? ⟨b, o + j * 2, none⟩ = some (.int .i64 dd) := by have := hcx 0 _ rfl; simpa using this
        have c1 : wr.cell? ⟨b, o + j * 2 + 1, none⟩ = some (.int .i64 n) := hcx 1 _ rfl
        have HNB : Hid (-9223372036854775808 ≤ n ∧ n ≤ 9223372036854775807) := hok.2
        have hwf : (Lit.int .i64 n).wf = true := wf_of HNB.out
        obtain ⟨wo, hwo⟩ : ∃ wo, wr.alloc (.cells #[.int .i64 dd, .int .i64 n] 32) = wo := ⟨_, rfl⟩
        have hbo : Below wr.heap.size wr wo := hwo ▸ (Below.refl _ wr).alloc (Nat.le_refl _) _
        have hko : Bk wo wr.heap.size 32 #[.int .i64 dd, .int .i64 n] := hwo ▸ Bk.new _ _ _
        have HQO : Hid (Dq w wo.drew 4611686018427387904 C g r s) := (HP.out.1.still hbo).still ⟨rfl, rfl, rfl, Nat.le_refl _, fun _ _ => rfl⟩
        have HS0 : Hid (wo.drew.cell? ⟨wr.heap.size, 0, none⟩ = some (.int .i64 dd) ∧ wo.drew.cell? ⟨wr.heap.size, 1, none⟩ = some (.int .i64 n)) := ⟨hko.cell 0, hko.cell 1⟩
        have HKC : Hid (∀ w4, Kp2 wo.drew w4 g r s → w4.cell? ⟨wr.heap.size, 0, none⟩ = some (.int .i64 dd) ∧ w4.cell? ⟨wr.heap.size, 1, none⟩ = some (.int .i64 n)) := fun w4 hk => by
          have e : w4.heap[wr.heap.size]? = wo.drew.heap[wr.heap.size]? := hk.2 _ hko.lt (fun hm => by have := HP.out.1.dh.sd.lts.1 _ hm; omega) (fun hm => by have := HP.out.1.dh.rs.lt _ hm; omega)
          exact ⟨(World.cell?_of_block (a := ⟨wr.heap.size, 0, none⟩) e).trans HS0.out.1, (World.cell?_of_block (a := ⟨wr.heap.size, 1, none⟩) e).trans HS0.out.2⟩
        have HST : Hid (Calls Try.prog 10 #[.pointer (some ⟨g0.S, 0, none⟩), .pointer (some ⟨r0.R, 0, none⟩), .agg #[.int .i64 dd, .int .i64 n], .pointer (some ⟨C, 0, none⟩)] wo.drew (To w wo.drew 4611686018427387904 C g r s)) := by
          have := step_all HQO.out (by have := HP.out.2.2.2; omega) (by decide) dd n hwf
          rw [HP.out.2.1, HP.out.2.2.1] at this
          exact this
        clear hbo hko hcx hok hx hwf
        go_wp2_with fail
        clear c0 c1 hwo
        refine wp_region_mid (S := (fun w' => w'.cell? ⟨wr.heap.size, 0, none⟩ = some (.int .i64 dd) ∧ w'.cell? ⟨wr.heap.size, 1, none⟩ = some (.int .i64 n))) 37 (by kernel_rfl) ?_
        refine wpAnyM_take (i := 0) [] (oi := { dst := some 44, op := Op.move (Operand.tmp 5), type := 23, pos := _, after := #[], guard := none }) (v := .pointer (some ⟨g0.S, 0, none⟩)) rfl (by kernel_rfl) (by kernel_rfl) (by kernel_rfl) (by kernel_rfl) (fun _ _ _ h => h) (Or.inl ⟨by rfl, ?_⟩) HS0.out ?_
        · (intro w' hSw; obtain ⟨m0, m1⟩ := hSw; go_simp; try with_reducible rfl)
        try simp only [Act.put, List.setIfInBounds_toArray, List.set_cons_zero, List.set_cons_succ]
        refine wpAnyM_take (i := 1) [] (oi := { dst := some 45, op := Op.move (Operand.tmp 7), type := 27, pos := _, after := #[], guard := none }) (v := .pointer (some ⟨r0.R, 0, none⟩)) rfl (by kernel_rfl) (by kernel_rfl) (by kernel_rfl) (by kernel_rfl) (fun _ _ _ h => h) (Or.inl ⟨by rfl, ?_⟩) HS0.out ?_
        · (intro w' hSw; obtain ⟨m0, m1⟩ := hSw; go_simp; try with_reducible rfl)
        try simp only [Act.put, List.setIfInBounds_toArray, List.set_cons_zero, List.set_cons_succ]
        refine wpAnyM_take (i := 2) [] (oi := { dst := some 46, op := Op.load 32 (Operand.tmp 11), type := 32, pos := _, after := #[], guard := none }) (v := .agg #[.int .i64 dd, .int .i64 n]) rfl (by kernel_rfl) (by kernel_rfl) (by kernel_rfl) (by kernel_rfl) (fun _ _ _ h => h) (Or.inl ⟨by rfl, ?_⟩) HS0.out ?_
        · (intro w' hSw; obtain ⟨m0, m1⟩ := hSw; go_simp; try with_reducible rfl)
        try simp only [Act.put, List.setIfInBounds_toArray, List.set_cons_zero, List.set_cons_succ]
        refine wpAnyM_ready (rs := [3]) (by kernel_rfl) (by simp) ?_
        refine AllReadyM.cons (o := { dst := some 47, op := Op.call { callee := Callee.value (Operand.func 10), args := #[Operand.tmp 44, Operand.tmp 45, Operand.tmp 46, Operand.tmp 9], argTypes := #[23, 27, 32, 34] }, type := 4, pos := _, after := #[{ on := 0, ground := Ground.data }, { on := 1, ground := Ground.data }, { on := 2, ground := Ground.data }], guard := none }) rfl (fun K hK => ?_) AllReadyM.nil
        have HK9 : Hid (∀ a w, _ → K a w) := hK
        clear hK
        go_simp
        refine Calls.mono HST.out ?_
        rintro e w4 ⟨rfl, g4, r4, s4, hq4, hS4, hR4, hd4, hk4⟩
        have HQ4 : Hid (Dq w w4 4611686018427387904 C g4 r4 s4 ∧ g4.S = g0.S ∧ r4.R = r0.R ∧ s4.done.length ≤ j + 1) := ⟨hq4, hS4.trans HP.out.2.1, hR4.trans HP.out.2.2.1, by have := HP.out.2.2.2; omega⟩
        have HS4 : Hid (w4.cell? ⟨wr.heap.size, 0, none⟩ = some (.int .i64 dd) ∧ w4.cell? ⟨wr.heap.size, 1, none⟩ = some (.int .i64 n)) := HKC.out w4 hk4
        have HC4 : Hid (s4.fl.length ≤ 4096 ∧ s4.done.length ≤ 4611686018427387904) := ⟨hq4.fll.1, by have := hd4; have := HP.out.2.2.2; omega⟩
        obtain ⟨nf, HNF⟩ : ∃ nf, Hid (s4.fl.length = nf) := ⟨_, rfl⟩
        have HCO : Hid (∀ W, Dq w W 4611686018427387904 C g4 r4 s4 → Calls Try.prog 11 #[.pointer (some ⟨g0.S, 0, none⟩)] W fun e w' => e = .returned (.int .i64 (nf : Int)) ∧ w' = W) := fun W hW => by
          have := count_any hW.dh.sd nf HNF.out.symm
          rw [HQ4.out.2.1] at this
          exact this
        have HAO : Hid (Calls Try.prog 12 #[.pointer (some ⟨r0.R, 0, none⟩)] w4 fun e w' => ∃ p c, e = .returned (.slice p nf c) ∧ Below w4.heap.size w4 w') := by
          have := ralive_any HQ4.out.1.dh.rs HC4.out.1
          rw [HQ4.out.2.2.1, HNF.out] at this
          refine this.mono ?_
          rintro e w' ⟨v, rfl, hv, hb⟩
          obtain ⟨p, c, rfl, -⟩ := row_form hv
          exact ⟨p, c, rfl, hb⟩
        obtain ⟨st, HSTP⟩ : ∃ st, Hid (s4.steps = st) := ⟨_, rfl⟩
        have HSO : Hid (∀ W, Dq w W 4611686018427387904 C g4 r4 s4 → Calls Try.prog 13 #[.pointer (some ⟨g0.S, 0, none⟩)] W fun e w' => e = .returned (.int .i64 st) ∧ w' = W) := fun W hW => by
          have := steps_any hW.dh.sd
          rw [HQ4.out.2.1, HSTP.out] at this
          exact this
        have HRO : Hid (∀ W, Dq w W 4611686018427387904 C g4 r4 s4 → Calls Try.prog 14 #[.pointer (some ⟨r0.R, 0, none⟩)] W fun e w' => e = .returned (.int .i64 st) ∧ w' = W) := fun W hW => by
          have := rsteps_any hW.dh.rs
          rw [HQ4.out.2.2.1, HSTP.out] at this
          exact this
        obtain ⟨of, HOF⟩ : ∃ of, Hid ((if 1 ≤ n ∧ n ≤ s4.done.length then s4.done.getD (n - 1).toNat 0 else 0) = of) := ⟨_, rfl⟩
        have HFO : Hid (∀ W, Dq w W 4611686018427387904 C g4 r4 s4 → Calls Try.prog 15 #[.pointer (some ⟨g0.S, 0, none⟩), .int .i64 n] W fun e w' => e = .returned (.int .i64 of) ∧ w' = W) := fun W hW => by
          have := of_eq hW.dh.sd n HNB.out HC4.out.2
          rw [HQ4.out.2.1, HOF.out] at this
          exact this
        have HGO : Hid (∀ W, Dq w W 4611686018427387904 C g4 r4 s4 → Calls Try.prog 16 #[.pointer (some ⟨r0.R, 0, none⟩), .int .i64 n] W fun e w' => e = .returned (.int .i64 of) ∧ w' = W) := fun W hW => by
          have := rof_any hW.dh.rs n HNB.out HC4.out.2
          rw [HQ4.out.2.2.1, HOF.out] at this
          exact this
        have nn0 : ((nf : Int) != (nf : Int)) = false := by simp
        have ss0 : (st != st) = false := by simp
        have oo0 : (of != of) = false := by simp
        clear hq4 hS4 hR4 hd4 hk4 HST
        refine HK9.out _ _ ⟨fun _ => HS4.out, ?_⟩
        clear HK9 K
        try simp only [Act.put, List.setIfInBounds_toArray, List.set_cons_zero, List.set_cons_succ]
        refine wpAnyM_take (i := 4) [] (oi := { dst := some 48, op := Op.unOp UnOp.not 4 (Operand.tmp 47), type := 4, pos := _, after := #[{ on := 3, ground := Ground.data }], guard := none }) (v := .bool false) rfl (by kernel_rfl) (by kernel_rfl) (by kernel_rfl) (by kernel_rfl) (fun _ _ _ h => h) (Or.inl ⟨by rfl, ?_⟩) HS4.out ?_
        · (intro w' hSw; obtain ⟨m0, m1⟩ := hSw; go_simp; try with_reducible rfl)
        try simp only [Act.put, List.setIfInBounds_toArray, List.set_cons_zero, List.set_cons_succ]
        refine wpAnyM_take (i := 5) [] (oi := { dst := some 49, op := Op.move (Operand.tmp 48), type := 4, pos := _, after := #[{ on := 4, ground := Ground.data }, { on := 3, ground := Ground.chain }], guard := none }) (v := .bool false) rfl (by kernel_rfl) (by kernel_rfl) (by kernel_rfl) (by kernel_rfl) (fun _ _ _ h => h) (Or.inl ⟨by rfl, ?_⟩) HS4.out ?_
        · (intro w' hSw; obtain ⟨m0, m1⟩ := hSw; go_simp; try with_reducible rfl)
        try simp only [Act.put, List.setIfInBounds_toArray, List.set_cons_zero, List.set_cons_succ]
        refine wpAnyM_take (i := 6) [] (oi := { dst := some 50, op := Op.move (Operand.tmp 5), type := 23, pos := _, after := #[{ on := 5, ground := Ground.guard }], guard := some (5, false) }) (v := .pointer (some ⟨g0.S, 0, none⟩)) rfl (by kernel_rfl) (by kernel_rfl) (by kernel_rfl) (by kernel_rfl) (fun _ _ _ h => h) (Or.inl ⟨by rfl, ?_⟩) HS4.out ?_
        · (intro w' hSw; obtain ⟨m0, m1⟩ := hSw; go_simp; try with_reducible rfl)
        try simp only [Act.put, List.setIfInBounds_toArray, List.set_cons_zero, List.set_cons_succ]
        refine wpAnyM_take (i := 8) [] (oi := { dst := some 52, op := Op.move (Operand.tmp 7), type := 27, pos := _, after := #[{ on := 5, ground := Ground.guard }], guard := some (5, false) }) (v := .pointer (some ⟨r0.R, 0, none⟩)) rfl (by kernel_rfl) (by kernel_rfl) (by kernel_rfl) (by kernel_rfl) (fun _ _ _ h => h) (Or.inl ⟨by rfl, ?_⟩) HS4.out ?_
        · (intro w' hSw; obtain ⟨m0, m1⟩ := hSw; go_simp; try with_reducible rfl)
        try simp only [Act.put, List.setIfInBounds_toArray, List.set_cons_zero, List.set_cons_succ]
        refine wpAnyM_ready (rs := [7]) (by kernel_rfl) (by simp) ?_
        refine AllReadyM.cons (o := { dst := some 51, op := Op.call { callee := Callee.value (Operand.func 11), args := #[Operand.tmp 50], argTypes := #[23] }, type := 3, pos := _, after := #[{ on := 6, ground := Ground.data }, { on := 5, ground := Ground.chain }, { on := 5, ground := Ground.guard }], guard := some (5, false) }) rfl (fun K hK => ?_) AllReadyM.nil
        have HK9 : Hid (∀ a w, _ → K a w) := hK
        clear hK
        go_simp
        refine Calls.mono (HCO.out _ HQ4.out.1) ?_
        rintro e w5 ⟨rfl, rfl⟩
        refine HK9.out _ _ ⟨fun _ => HS4.out, ?_⟩
        clear HK9 K
        try simp only [Act.put, List.setIfInBounds_toArray, List.set_cons_zero, List.set_cons_succ]
        refine wpAnyM_ready (rs := [9]) (by kernel_rfl) (by simp) ?_
        refine AllReadyM.cons (o := { dst := some 53, op := Op.call { callee := Callee.value (Operand.func 12), args := #[Operand.tmp 52], argTypes := #[27] }, type := 36, pos := _, after := #[{ on := 8, ground := Ground.data }, { on := 7, ground := Ground.chain }, { on := 5, ground := Ground.guard }], guard := some (5, false) }) rfl (fun K hK => ?_) AllReadyM.nil
        have HK9 : Hid (∀ a w, _ → K a w) := hK
        clear hK
        go_simp
        refine Calls.mono HAO.out ?_
        rintro e w5 ⟨pa, ca, rfl, hb5⟩
        have HQ5 : Hid (Dq w w5 4611686018427387904 C g4 r4 s4) := HQ4.out.1.still hb5
        have HS5 : Hid (w5.cell? ⟨wr.heap.size, 0, none⟩ = some (.int .i64 dd) ∧ w5.cell? ⟨wr.heap.size, 1, none⟩ = some (.int .i64 n)) := cells_below HS4.out hb5
        have k5 : w5.cell? ⟨C, 0, none⟩ = some (.int .i64 st) := by
          have := HQ5.out.cC
          rw [HSTP.out] at this
          exact this
        clear hb5 HAO HCO
        refine HK9.out _ _ ⟨fun _ => HS5.out, ?_⟩
        clear HK9 K
        try simp only [Act.put, List.setIfInBounds_toArray, List.set_cons_zero, List.set_cons_succ]
        refine wpAnyM_take (i := 10) [] (oi := { dst := some 54, op := Op.call { callee := Callee.builtin Builtin.len, args := #[Operand.tmp 53], argTypes := #[36] }, type := 3, pos := _, after := #[{ on := 9, ground := Ground.data }, { on := 5, ground := Ground.guard }], guard := some (5, false) }) (v := .int .i64 (nf : Int)) rfl (by kernel_rfl) (by kernel_rfl) (by kernel_rfl) (by kernel_rfl) (fun _ _ _ h => h) (Or.inl ⟨by rfl, ?_⟩) HS5.out ?_
        · (intro w' hSw; obtain ⟨m0, m1⟩ := hSw; go_simp; try with_reducible rfl)
        try simp only [Act.put, List.setIfInBounds_toArray, List.set_cons_zero, List.set_cons_succ]
        refine wpAnyM_take (i := 11) [] (oi := { dst := some 55, op := Op.binOp BinOp.neq 3 (Operand.tmp 51) (Operand.tmp 54) 3, type := 4, pos := _, after := #[{ on := 7, ground := Ground.data }, { on := 10, ground := Ground.data }, { on := 5, ground := Ground.guard }], guard := some (5, false) }) (v := .bool false) rfl (by kernel_rfl) (by kernel_rfl) (by kernel_rfl) (by kernel_rfl) (fun _ _ _ h => h) (Or.inl ⟨by rfl, ?_⟩) HS5.out ?_
        · (intro w' hSw; obtain ⟨m0, m1⟩ := hSw; go_simp; try with_reducible rfl)
        try simp only [Act.put, List.setIfInBounds_toArray, List.set_cons_zero, List.set_cons_succ]
        refine wpAnyM_take (i := 12) [] (oi := { dst := some 56, op := Op.pick (Operand.tmp 49) (Operand.const (Value.bool true)) (Operand.tmp 55), type := 4, pos := _, after := #[{ on := 5, ground := Ground.data }, { on := 11, ground := Ground.data }], guard := none }) (v := .bool false) rfl (by kernel_rfl) (by kernel_rfl) (by kernel_rfl) (by kernel_rfl) (fun _ _ _ h => h) (Or.inl ⟨by rfl, ?_⟩) HS5.out ?_
        · (intro w' hSw; obtain ⟨m0, m1⟩ := hSw; go_simp; try with_reducible rfl)
        try simp only [Act.put, List.setIfInBounds_toArray, List.set_cons_zero, List.set_cons_succ]
        refine wpAnyM_take (i := 13) [] (oi := { dst := some 57, op := Op.move (Operand.tmp 56), type := 4, pos := _, after := #[{ on := 12, ground := Ground.data }, { on := 9, ground := Ground.chain }], guard := none }) (v := .bool false) rfl (by kernel_rfl) (by kernel_rfl) (by kernel_rfl) (by kernel_rfl) (fun _ _ _ h => h) (Or.inl ⟨by rfl, ?_⟩) HS5.out ?_
        · (intro w' hSw; obtain ⟨m0, m1⟩ := hSw; go_simp; try with_reducible rfl)
        try simp only [Act.put, List.setIfInBounds_toArray, List.set_cons_zero, List.set_cons_succ]
        refine wpAnyM_take (i := 14) [] (oi := { dst := some 58, op := Op.move (Operand.tmp 5), type := 23, pos := _, after := #[{ on := 13, ground := Ground.guard }], guard := some (13, false) }) (v := .pointer (some ⟨g0.S, 0, none⟩)) rfl (by kernel_rfl) (by kernel_rfl) (by kernel_rfl) (by kernel_rfl) (fun _ _ _ h => h) (Or.inl ⟨by rfl, ?_⟩) HS5.out ?_
        · (intro w' hSw; obtain ⟨m0, m1⟩ := hSw; go_simp; try with_reducible rfl)
        try simp only [Act.put, List.setIfInBounds_toArray, List.set_cons_zero, List.set_cons_succ]
        refine wpAnyM_take (i := 16) [] (oi := { dst := some 60, op := Op.move (Operand.tmp 7), type := 27, pos := _, after := #[{ on := 13, ground := Ground.guard }], guard := some (13, false) }) (v := .pointer (some ⟨r0.R, 0, none⟩)) rfl (by kernel_rfl) (by kernel_rfl) (by kernel_rfl) (by kernel_rfl) (fun _ _ _ h => h) (Or.inl ⟨by rfl, ?_⟩) HS5.out ?_
        · (intro w' hSw; obtain ⟨m0, m1⟩ := hSw; go_simp; try with_reducible rfl)
        try simp only [Act.put, List.setIfInBounds_toArray, List.set_cons_zero, List.set_cons_succ]
        refine wpAnyM_ready (rs := [15]) (by kernel_rfl) (by simp) ?_
        refine AllReadyM.cons (o := { dst := some 59, op := Op.call { callee := Callee.value (Operand.func 13), args := #[Operand.tmp 58], argTypes := #[23] }, type := 2, pos := _, after := #[{ on := 14, ground := Ground.data }, { on := 13, ground := Ground.chain }, { on := 13, ground := Ground.guard }], guard := some (13, false) }) rfl (fun K hK => ?_) AllReadyM.nil
        have HK9 : Hid (∀ a w, _ → K a w) := hK
        clear hK
        go_simp
        refine Calls.mono (HSO.out _ HQ5.out) ?_
        rintro e w6 ⟨rfl, rfl⟩
        refine HK9.out _ _ ⟨fun _ => HS5.out, ?_⟩
        clear HK9 K
        try simp only [Act.put, List.setIfInBounds_toArray, List.set_cons_zero, List.set_cons_succ]
        refine wpAnyM_ready (rs := [17]) (by kernel_rfl) (by simp) ?_
        refine AllReadyM.cons (o := { dst := some 61, op := Op.call { callee := Callee.value (Operand.func 14), args := #[Operand.tmp 60], argTypes := #[27] }, type := 2, pos := _, after := #[{ on := 16, ground := Ground.data }, { on := 15, ground := Ground.chain }, { on := 13, ground := Ground.guard }], guard := some (13, false) }) rfl (fun K hK => ?_) AllReadyM.nil
        have HK9 : Hid (∀ a w, _ → K a w) := hK
        clear hK
        go_simp
        refine Calls.mono (HRO.out _ HQ5.out) ?_
        rintro e w6 ⟨rfl, rfl⟩
        refine HK9.out _ _ ⟨fun _ => HS5.out, ?_⟩
        clear HK9 K
        try simp only [Act.put, List.setIfInBounds_toArray, List.set_cons_zero, List.set_cons_succ]
        refine wpAnyM_take (i := 18) [] (oi := { dst := some 62, op := Op.binOp BinOp.neq 2 (Operand.tmp 59) (Operand.tmp 61) 2, type := 4, pos := _, after := #[{ on := 15, ground := Ground.data }, { on := 17, ground := Ground.data }, { on := 13, ground := Ground.guard }], guard := some (13, false) }) (v := .bool false) rfl (by kernel_rfl) (by kernel_rfl) (by kernel_rfl) (by kernel_rfl) (fun _ _ _ h => h) (Or.inl ⟨by rfl, ?_⟩) HS5.out ?_
        · (intro w' hSw; obtain ⟨m0, m1⟩ := hSw; go_simp; try with_reducible rfl)
        try simp only [Act.put, List.setIfInBounds_toArray, List.set_cons_zero, List.set_cons_succ]
        refine wpAnyM_take (i := 19) [] (oi := { dst := some 63, op := Op.pick (Operand.tmp 57) (Operand.const (Value.bool true)) (Operand.tmp 62), type := 4, pos := _, after := #[{ on := 13, ground := Ground.data }, { on := 18, ground := Ground.data }], guard := none }) (v := .bool false) rfl (by kernel_rfl) (by kernel_rfl) (by kernel_rfl) (by kernel_rfl) (fun _ _ _ h => h) (Or.inl ⟨by rfl, ?_⟩) HS5.out ?_
        · (intro w' hSw; obtain ⟨m0, m1⟩ := hSw; go_simp; try with_reducible rfl)
        try simp only [Act.put, List.setIfInBounds_toArray, List.set_cons_zero, List.set_cons_succ]
        refine wpAnyM_take (i := 20) [] (oi := { dst := some 64, op := Op.move (Operand.tmp 63), type := 4, pos := _, after := #[{ on := 19, ground := Ground.data }, { on := 17, ground := Ground.chain }], guard := none }) (v := .bool false) rfl (by kernel_rfl) (by kernel_rfl) (by kernel_rfl) (by kernel_rfl) (fun _ _ _ h => h) (Or.inl ⟨by rfl, ?_⟩) HS5.out ?_
        · (intro w' hSw; obtain ⟨m0, m1⟩ := hSw; go_simp; try with_reducible rfl)
        try simp only [Act.put, List.setIfInBounds_toArray, List.set_cons_zero, List.set_cons_succ]
        refine wpAnyM_take (i := 22) [] (oi := { dst := some 66, op := Op.move (Operand.tmp 5), type := 23, pos := _, after := #[{ on := 20, ground := Ground.guard }], guard := some (20, false) }) (v := .pointer (some ⟨g0.S, 0, none⟩)) rfl (by kernel_rfl) (by kernel_rfl) (by kernel_rfl) (by kernel_rfl) (fun _ _ _ h => h) (Or.inl ⟨by rfl, ?_⟩) HS5.out ?_
        · (intro w' hSw; obtain ⟨m0, m1⟩ := hSw; go_simp; try with_reducible rfl)
        try simp only [Act.put, List.setIfInBounds_toArray, List.set_cons_zero, List.set_cons_succ]
        refine wpAnyM_ready (rs := [21, 23]) (by kernel_rfl) (by simp) ?_
        refine AllReadyM.cons (o := { dst := some 65, op := Op.load 2 (Operand.tmp 9), type := 2, pos := _, after := #[{ on := 20, ground := Ground.guard }], guard := some (20, false) }) rfl (fun K hK => ?_) (AllReadyM.cons (o := { dst := some 67, op := Op.call { callee := Callee.value (Operand.func 13), args := #[Operand.tmp 66], argTypes := #[23] }, type := 2, pos := _, after := #[{ on := 22, ground := Ground.data }, { on := 20, ground := Ground.chain }, { on := 20, ground := Ground.guard }], guard := some (20, false) }) rfl (fun K hK => ?_) AllReadyM.nil)
        · as_aux_lemma =>
            have HK9 : Hid (∀ a w, _ → K a w) := hK
            clear hK
            go_simp
            refine HK9.out _ _ ⟨fun _ => HS5.out, ?_⟩
            clear HK9 K
            try simp only [Act.put, List.setIfInBounds_toArray, List.set_cons_zero, List.set_cons_succ]
            refine wpAnyM_ready (rs := [23]) (by kernel_rfl) (by simp) ?_
            refine AllReadyM.cons (o := { dst := some 67, op := Op.call { callee := Callee.value (Operand.func 13), args := #[Operand.tmp 66], argTypes := #[23] }, type := 2, pos := _, after := #[{ on := 22, ground := Ground.data }, { on := 20, ground := Ground.chain }, { on := 20, ground := Ground.guard }], guard := some (20, false) }) rfl (fun K hK => ?_) AllReadyM.nil
            have HK9 : Hid (∀ a w, _ → K a w) := hK
            clear hK
            go_simp
            refine Calls.mono (HSO.out _ HQ5.out) ?_
            rintro e w6 ⟨rfl, rfl⟩
            refine HK9.out _ _ ⟨fun _ => HS5.out, ?_⟩
            clear HK9 K
            try simp only [Act.put, List.setIfInBounds_toArray, List.set_cons_zero, List.set_cons_succ]
            refine wpAnyM_take (i := 24) [] (oi := { dst := some 68, op := Op.binOp BinOp.neq 2 (Operand.tmp 65) (Operand.tmp 67) 2, type := 4, pos := _, after := #[{ on := 21, ground := Ground.data }, { on := 23, ground := Ground.data }, { on := 20, ground := Ground.guard }], guard := some (20, false) }) (v := .bool false) rfl (by kernel_rfl) (by kernel_rfl) (by kernel_rfl) (by kernel_rfl) (fun _ _ _ h => h) (Or.inl ⟨by rfl, ?_⟩) HS5.out ?_
            · (intro w' hSw; obtain ⟨m0, m1⟩ := hSw; go_simp; try with_reducible rfl)
            try simp only [Act.put, List.setIfInBounds_toArray, List.set_cons_zero, List.set_cons_succ]
            refine wpAnyM_take (i := 25) [] (oi := { dst := some 69, op := Op.pick (Operand.tmp 64) (Operand.const (Value.bool true)) (Operand.tmp 68), type := 4, pos := _, after := #[{ on := 20, ground := Ground.data }, { on := 24, ground := Ground.data }], guard := none }) (v := .bool false) rfl (by kernel_rfl) (by kernel_rfl) (by kernel_rfl) (by kernel_rfl) (fun _ _ _ h => h) (Or.inl ⟨by rfl, ?_⟩) HS5.out ?_
            · (intro w' hSw; obtain ⟨m0, m1⟩ := hSw; go_simp; try with_reducible rfl)
            try simp only [Act.put, List.setIfInBounds_toArray, List.set_cons_zero, List.set_cons_succ]
            refine wpAnyM_take (i := 26) [] (oi := { dst := some 70, op := Op.move (Operand.tmp 69), type := 4, pos := _, after := #[{ on := 25, ground := Ground.data }, { on := 23, ground := Ground.chain }], guard := none }) (v := .bool false) rfl (by kernel_rfl) (by kernel_rfl) (by kernel_rfl) (by kernel_rfl) (fun _ _ _ h => h) (Or.inl ⟨by rfl, ?_⟩) HS5.out ?_
            · (intro w' hSw; obtain ⟨m0, m1⟩ := hSw; go_simp; try with_reducible rfl)
            try simp only [Act.put, List.setIfInBounds_toArray, List.set_cons_zero, List.set_cons_succ]
            refine wpAnyM_take (i := 27) [] (oi := { dst := some 71, op := Op.move (Operand.tmp 5), type := 23, pos := _, after := #[{ on := 26, ground := Ground.guard }], guard := some (26, false) }) (v := .pointer (some ⟨g0.S, 0, none⟩)) rfl (by kernel_rfl) (by kernel_rfl) (by kernel_rfl) (by kernel_rfl) (fun _ _ _ h => h) (Or.inl ⟨by rfl, ?_⟩) HS5.out ?_
            · (intro w' hSw; obtain ⟨m0, m1⟩ := hSw; go_simp; try with_reducible rfl)
            try simp only [Act.put, List.setIfInBounds_toArray, List.set_cons_zero, List.set_cons_succ]
            refine wpAnyM_take (i := 28) [] (oi := { dst := some 72, op := Op.fieldAddr 32 (Operand.tmp 11) 1, type := 0, pos := _, after := #[{ on := 26, ground := Ground.guard }], guard := some (26, false) }) (v := .pointer (some ⟨wr.heap.size, 1, none⟩)) rfl (by kernel_rfl) (by kernel_rfl) (by kernel_rfl) (by kernel_rfl) (fun _ _ _ h => h) (Or.inl ⟨by rfl, ?_⟩) HS5.out ?_
            · (intro w' hSw; obtain ⟨m0, m1⟩ := hSw; go_simp; try with_reducible rfl)
            try simp only [Act.put, List.setIfInBounds_toArray, List.set_cons_zero, List.set_cons_succ]
            refine wpAnyM_take (i := 29) [] (oi := { dst := some 73, op := Op.load 3 (Operand.tmp 72), type := 3, pos := _, after := #[{ on := 28, ground := Ground.data }, { on := 26, ground := Ground.guard }], guard := some (26, false) }) (v := .int .i64 n) rfl (by kernel_rfl) (by kernel_rfl) (by kernel_rfl) (by kernel_rfl) (fun _ _ _ h => h) (Or.inl ⟨by rfl, ?_⟩) HS5.out ?_
            · (intro w' hSw; obtain ⟨m0, m1⟩ := hSw; go_simp; try with_reducible rfl)
            try simp only [Act.put, List.setIfInBounds_toArray, List.set_cons_zero, List.set_cons_succ]
            refine wpAnyM_take (i := 31) [] (oi := { dst := some 75, op := Op.move (Operand.tmp 7), type := 27, pos := _, after := #[{ on := 26, ground := Ground.guard }], guard := some (26, false) }) (v := .pointer (some ⟨r0.R, 0, none⟩)) rfl (by kernel_rfl) (by kernel_rfl) (by kernel_rfl) (by kernel_rfl) (fun _ _ _ h => h) (Or.inl ⟨by rfl, ?_⟩) HS5.out ?_
            · (intro w' hSw; obtain ⟨m0, m1⟩ := hSw; go_simp; try with_reducible rfl)
            try simp only [Act.put, List.setIfInBounds_toArray, List.set_cons_zero, List.set_cons_succ]
            refine wpAnyM_take (i := 32) [] (oi := { dst := some 76, op := Op.fieldAddr 32 (Operand.tmp 11) 1, type := 0, pos := _, after := #[{ on := 26, ground := Ground.guard }], guard := some (26, false) }) (v := .pointer (some ⟨wr.heap.size, 1, none⟩)) rfl (by kernel_rfl) (by kernel_rfl) (by kernel_rfl) (by kernel_rfl) (fun _ _ _ h => h) (Or.inl ⟨by rfl, ?_⟩) HS5.out ?_
            · (intro w' hSw; obtain ⟨m0, m1⟩ := hSw; go_simp; try with_reducible rfl)
            try simp only [Act.put, List.setIfInBounds_toArray, List.set_cons_zero, List.set_cons_succ]
            refine wpAnyM_take (i := 33) [] (oi := { dst := some 77, op := Op.load 3 (Operand.tmp 76), type := 3, pos := _, after := #[{ on := 32, ground := Ground.data }, { on := 26, ground := Ground.guard }], guard := some (26, false) }) (v := .int .i64 n) rfl (by kernel_rfl) (by kernel_rfl) (by kernel_rfl) (by kernel_rfl) (fun _ _ _ h => h) (Or.inl ⟨by rfl, ?_⟩) HS5.out ?_
            · (intro w' hSw; obtain ⟨m0, m1⟩ := hSw; go_simp; try with_reducible rfl)
            try simp only [Act.put, List.setIfInBounds_toArray, List.set_cons_zero, List.set_cons_succ]
            refine wpAnyM_ready (rs := [30]) (by kernel_rfl) (by simp) ?_
            refine AllReadyM.cons (o := { dst := some 74, op := Op.call { callee := Callee.value (Operand.func 15), args := #[Operand.tmp 71, Operand.tmp 73], argTypes := #[23, 3] }, type := 2, pos := _, after := #[{ on := 27, ground := Ground.data }, { on := 29, ground := Ground.data }, { on := 26, ground := Ground.chain }, { on := 26, ground := Ground.guard }], guard := some (26, false) }) rfl (fun K hK => ?_) AllReadyM.nil
            have HK9 : Hid (∀ a w, _ → K a w) := hK
            clear hK
            go_simp
            refine Calls.mono (HFO.out _ HQ5.out) ?_
            rintro e w7 ⟨rfl, rfl⟩
            refine HK9.out _ _ ⟨fun _ => HS5.out, ?_⟩
            clear HK9 K
            try simp only [Act.put, List.setIfInBounds_toArray, List.set_cons_zero, List.set_cons_succ]
            refine wpAnyM_ready (rs := [34]) (by kernel_rfl) (by simp) ?_
            refine AllReadyM.cons (o := { dst := some 78, op := Op.call { callee := Callee.value (Operand.func 16), args := #[Operand.tmp 75, Operand.tmp 77], argTypes := #[27, 3] }, type := 2, pos := _, after := #[{ on := 31, ground := Ground.data }, { on := 33, ground := Ground.data }, { on := 30, ground := Ground.chain }, { on := 26, ground := Ground.guard }], guard := some (26, false) }) rfl (fun K hK => ?_) AllReadyM.nil
            have HK9 : Hid (∀ a w, _ → K a w) := hK
            clear hK
            go_simp
            refine Calls.mono (HGO.out _ HQ5.out) ?_
            rintro e w7 ⟨rfl, rfl⟩
            refine HK9.out _ _ ⟨fun _ => HS5.out, ?_⟩
            clear HK9 K
            try simp only [Act.put, List.setIfInBounds_toArray, List.set_cons_zero, List.set_cons_succ]
            refine wpAnyM_take (i := 35) [] (oi := { dst := some 79, op := Op.binOp BinOp.neq 2 (Operand.tmp 74) (Operand.tmp 78) 2, type := 4, pos := _, after := #[{ on := 30, ground := Ground.data }, { on := 34, ground := Ground.data }, { on := 26, ground := Ground.guard }], guard := some (26, false) }) (v := .bool false) rfl (by kernel_rfl) (by kernel_rfl) (by kernel_rfl) (by kernel_rfl) (fun _ _ _ h => h) (Or.inl ⟨by rfl, ?_⟩) HS5.out ?_
            · (intro w' hSw; obtain ⟨m0, m1⟩ := hSw; go_simp; try with_reducible rfl)
            try simp only [Act.put, List.setIfInBounds_toArray, List.set_cons_zero, List.set_cons_succ]
            refine wpAnyM_take (i := 36) [] (oi := { dst := some 80, op := Op.pick (Operand.tmp 70) (Operand.const (Value.bool true)) (Operand.tmp 79), type := 4, pos := _, after := #[{ on := 26, ground := Ground.data }, { on := 35, ground := Ground.data }], guard := none }) (v := .bool false) rfl (by kernel_rfl) (by kernel_rfl) (by kernel_rfl) (by kernel_rfl) (fun _ _ _ h => h) (Or.inl ⟨by rfl, ?_⟩) HS5.out ?_
            · (intro w' hSw; obtain ⟨m0, m1⟩ := hSw; go_simp; try with_reducible rfl)
            try simp only [Act.put, List.setIfInBounds_toArray, List.set_cons_zero, List.set_cons_succ]
            refine wpAnyM_done (by kernel_rfl) ?_ _
            have HN : Hid (Dq w w7 4611686018427387904 C g4 r4 s4 ∧ g4.S = g0.S ∧ r4.R = r0.R ∧ s4.done.length ≤ j + 1) := ⟨HQ5.out, HQ4.out.2⟩
            clear HQ4 HQ5 HS4 HS5 HSO HRO HFO HGO HKC
            go_wp2
            go_roundw
            case rel => exact ⟨j + 1, g4, r4, s4, by omega, by go_num, HN⟩
            case measure => simp [intOf]; omega
        · as_aux_lemma =>
            have HK9 : Hid (∀ a w, _ → K a w) := hK
            clear hK
            go_simp
            refine Calls.mono (HSO.out _ HQ5.out) ?_
            rintro e w6 ⟨rfl, rfl⟩
            refine HK9.out _ _ ⟨fun _ => HS5.out, ?_⟩
            clear HK9 K
            try simp only [Act.put, List.setIfInBounds_toArray, List.set_cons_zero, List.set_cons_succ]
            refine wpAnyM_ready (rs := [21]) (by kernel_rfl) (by simp) ?_
            refine AllReadyM.cons (o := { dst := some 65, op := Op.load 2 (Operand.tmp 9), type := 2, pos := _, after := #[{ on := 20, ground := Ground.guard }], guard := some (20, false) }) rfl (fun K hK => ?_) AllReadyM.nil
            have HK9 : Hid (∀ a w, _ → K a w) := hK
            clear hK
            go_simp
            refine HK9.out _ _ ⟨fun _ => HS5.out, ?_⟩
            clear HK9 K
            try simp only [Act.put, List.setIfInBounds_toArray, List.set_cons_zero, List.set_cons_succ]
            refine wpAnyM_take (i := 24) [] (oi := { dst := some 68, op := Op.binOp BinOp.neq 2 (Operand.tmp 65) (Operand.tmp 67) 2, type := 4, pos := _, after := #[{ on := 21, ground := Ground.data }, { on := 23, ground := Ground.data }, { on := 20, ground := Ground.guard }], guard := some (20, false) }) (v := .bool false) rfl (by kernel_rfl) (by kernel_rfl) (by kernel_rfl) (by kernel_rfl) (fun _ _ _ h => h) (Or.inl ⟨by rfl, ?_⟩) HS5.out ?_
            · (intro w' hSw; obtain ⟨m0, m1⟩ := hSw; go_simp; try with_reducible rfl)
            try simp only [Act.put, List.setIfInBounds_toArray, List.set_cons_zero, List.set_cons_succ]
            refine wpAnyM_take (i := 25) [] (oi := { dst := some 69, op := Op.pick (Operand.tmp 64) (Operand.const (Value.bool true)) (Operand.tmp 68), type := 4, pos := _, after := #[{ on := 20, ground := Ground.data }, { on := 24, ground := Ground.data }], guard := none }) (v := .bool false) rfl (by kernel_rfl) (by kernel_rfl) (by kernel_rfl) (by kernel_rfl) (fun _ _ _ h => h) (Or.inl ⟨by rfl, ?_⟩) HS5.out ?_
            · (intro w' hSw; obtain ⟨m0, m1⟩ := hSw; go_simp; try with_reducible rfl)
            try simp only [Act.put, List.setIfInBounds_toArray, List.set_cons_zero, List.set_cons_succ]
            refine wpAnyM_take (i := 26) [] (oi := { dst := some 70, op := Op.move (Operand.tmp 69), type := 4, pos := _, after := #[{ on := 25, ground := Ground.data }, { on := 23, ground := Ground.chain }], guard := none }) (v := .bool false) rfl (by kernel_rfl) (by kernel_rfl) (by kernel_rfl) (by kernel_rfl) (fun _ _ _ h => h) (Or.inl ⟨by rfl, ?_⟩) HS5.out ?_
            · (intro w' hSw; obtain ⟨m0, m1⟩ := hSw; go_simp; try with_reducible rfl)
            try simp only [Act.put, List.setIfInBounds_toArray, List.set_cons_zero, List.set_cons_succ]
            refine wpAnyM_take (i := 27) [] (oi := { dst := some 71, op := Op.move (Operand.tmp 5), type := 23, pos := _, after := #[{ on := 26, ground := Ground.guard }], guard := some (26, false) }) (v := .pointer (some ⟨g0.S, 0, none⟩)) rfl (by kernel_rfl) (by kernel_rfl) (by kernel_rfl) (by kernel_rfl) (fun _ _ _ h => h) (Or.inl ⟨by rfl, ?_⟩) HS5.out ?_
            · (intro w' hSw; obtain ⟨m0, m1⟩ := hSw; go_simp; try with_reducible rfl)
            try simp only [Act.put, List.setIfInBounds_toArray, List.set_cons_zero, List.set_cons_succ]
            refine wpAnyM_take (i := 28) [] (oi := { dst := some 72, op := Op.fieldAddr 32 (Operand.tmp 11) 1, type := 0, pos := _, after := #[{ on := 26, ground := Ground.guard }], guard := some (26, false) }) (v := .pointer (some ⟨wr.heap.size, 1, none⟩)) rfl (by kernel_rfl) (by kernel_rfl) (by kernel_rfl) (by kernel_rfl) (fun _ _ _ h => h) (Or.inl ⟨by rfl, ?_⟩) HS5.out ?_
            · (intro w' hSw; obtain ⟨m0, m1⟩ := hSw; go_simp; try with_reducible rfl)
            try simp only [Act.put, List.setIfInBounds_toArray, List.set_cons_zero, List.set_cons_succ]
            refine wpAnyM_take (i := 29) [] (oi := { dst := some 73, op := Op.load 3 (Operand.tmp 72), type := 3, pos := _, after := #[{ on := 28, ground := Ground.data }, { on := 26, ground := Ground.guard }], guard := some (26, false) }) (v := .int .i64 n) rfl (by kernel_rfl) (by kernel_rfl) (by kernel_rfl) (by kernel_rfl) (fun _ _ _ h => h) (Or.inl ⟨by rfl, ?_⟩) HS5.out ?_
            · (intro w' hSw; obtain ⟨m0, m1⟩ := hSw; go_simp; try with_reducible rfl)
            try simp only [Act.put, List.setIfInBounds_toArray, List.set_cons_zero, List.set_cons_succ]
            refine wpAnyM_take (i := 31) [] (oi := { dst := some 75, op := Op.move (Operand.tmp 7), type := 27, pos := _, after := #[{ on := 26, ground := Ground.guard }], guard := some (26, false) }) (v := .pointer (some ⟨r0.R, 0, none⟩)) rfl (by kernel_rfl) (by kernel_rfl) (by kernel_rfl) (by kernel_rfl) (fun _ _ _ h => h) (Or.inl ⟨by rfl, ?_⟩) HS5.out ?_
            · (intro w' hSw; obtain ⟨m0, m1⟩ := hSw; go_simp; try with_reducible rfl)
            try simp only [Act.put, List.setIfInBounds_toArray, List.set_cons_zero, List.set_cons_succ]
            refine wpAnyM_take (i := 32) [] (oi := { dst := some 76, op := Op.fieldAddr 32 (Operand.tmp 11) 1, type := 0, pos := _, after := #[{ on := 26, ground := Ground.guard }], guard := some (26, false) }) (v := .pointer (some ⟨wr.heap.size, 1, none⟩)) rfl (by kernel_rfl) (by kernel_rfl) (by kernel_rfl) (by kernel_rfl) (fun _ _ _ h => h) (Or.inl ⟨by rfl, ?_⟩) HS5.out ?_
            · (intro w' hSw; obtain ⟨m0, m1⟩ := hSw; go_simp; try with_reducible rfl)
            try simp only [Act.put, List.setIfInBounds_toArray, List.set_cons_zero, List.set_cons_succ]
            refine wpAnyM_take (i := 33) [] (oi := { dst := some 77, op := Op.load 3 (Operand.tmp 76), type := 3, pos := _, after := #[{ on := 32, ground := Ground.data }, { on := 26, ground := Ground.guard }], guard := some (26, false) }) (v := .int .i64 n) rfl (by kernel_rfl) (by kernel_rfl) (by kernel_rfl) (by kernel_rfl) (fun _ _ _ h => h) (Or.inl ⟨by rfl, ?_⟩) HS5.out ?_
            · (intro w' hSw; obtain ⟨m0, m1⟩ := hSw; go_simp; try with_reducible rfl)
            try simp only [Act.put, List.setIfInBounds_toArray, List.set_cons_zero, List.set_cons_succ]
            refine wpAnyM_ready (rs := [30]) (by kernel_rfl) (by simp) ?_
            refine AllReadyM.cons (o := { dst := some 74, op := Op.call { callee := Callee.value (Operand.func 15), args := #[Operand.tmp 71, Operand.tmp 73], argTypes := #[23, 3] }, type := 2, pos := _, after := #[{ on := 27, ground := Ground.data }, { on := 29, ground := Ground.data }, { on := 26, ground := Ground.chain }, { on := 26, ground := Ground.guard }], guard := some (26, false) }) rfl (fun K hK => ?_) AllReadyM.nil
            have HK9 : Hid (∀ a w, _ → K a w) := hK
            clear hK
            go_simp
            refine Calls.mono (HFO.out _ HQ5.out) ?_
            rintro e w7 ⟨rfl, rfl⟩
            refine HK9.out _ _ ⟨fun _ => HS5.out, ?_⟩
            clear HK9 K
            try simp only [Act.put, List.setIfInBounds_toArray, List.set_cons_zero, List.set_cons_succ]
            refine wpAnyM_ready (rs := [34]) (by kernel_rfl) (by simp) ?_
            refine AllReadyM.cons (o := { dst := some 78, op := Op.call { callee := Callee.value (Operand.func 16), args := #[Operand.tmp 75, Operand.tmp 77], argTypes := #[27, 3] }, type := 2, pos := _, after := #[{ on := 31, ground := Ground.data }, { on := 33, ground := Ground.data }, { on := 30, ground := Ground.chain }, { on := 26, ground := Ground.guard }], guard := some (26, false) }) rfl (fun K hK => ?_) AllReadyM.nil
            have HK9 : Hid (∀ a w, _ → K a w) := hK
            clear hK
            go_simp
            refine Calls.mono (HGO.out _ HQ5.out) ?_
            rintro e w7 ⟨rfl, rfl⟩
            refine HK9.out _ _ ⟨fun _ => HS5.out, ?_⟩
            clear HK9 K
            try simp only [Act.put, List.setIfInBounds_toArray, List.set_cons_zero, List.set_cons_succ]
            refine wpAnyM_take (i := 35) [] (oi := { dst := some 79, op := Op.binOp BinOp.neq 2 (Operand.tmp 74) (Operand.tmp 78) 2, type := 4, pos := _, after := #[{ on := 30, ground := Ground.data }, { on := 34, ground := Ground.data }, { on := 26, ground := Ground.guard }], guard := some (26, false) }) (v := .bool false) rfl (by kernel_rfl) (by kernel_rfl) (by kernel_rfl) (by kernel_rfl) (fun _ _ _ h => h) (Or.inl ⟨by rfl, ?_⟩) HS5.out ?_
            · (intro w' hSw; obtain ⟨m0, m1⟩ := hSw; go_simp; try with_reducible rfl)
            try simp only [Act.put, List.setIfInBounds_toArray, List.set_cons_zero, List.set_cons_succ]
            refine wpAnyM_take (i := 36) [] (oi := { dst := some 80, op := Op.pick (Operand.tmp 70) (Operand.const (Value.bool true)) (Operand.tmp 79), type := 4, pos := _, after := #[{ on := 26, ground := Ground.data }, { on := 35, ground := Ground.data }], guard := none }) (v := .bool false) rfl (by kernel_rfl) (by kernel_rfl) (by kernel_rfl) (by kernel_rfl) (fun _ _ _ h => h) (Or.inl ⟨by rfl, ?_⟩) HS5.out ?_
            · (intro w' hSw; obtain ⟨m0, m1⟩ := hSw; go_simp; try with_reducible rfl)
            try simp only [Act.put, List.setIfInBounds_toArray, List.set_cons_zero, List.set_cons_succ]
            refine wpAnyM_done (by kernel_rfl) ?_ _
            have HN : Hid (Dq w w7 4611686018427387904 C g4 r4 s4 ∧ g4.S = g0.S ∧ r4.R = r0.R ∧ s4.done.length ≤ j + 1) := ⟨HQ5.out, HQ4.out.2⟩
            clear HQ4 HQ5 HS4 HS5 HSO HRO HFO HGO HKC
            go_wp2
            go_roundw
            case rel => exact ⟨j + 1, g4, r4, s4, by omega, by go_num, HN⟩
            case measure => simp [intOf]; omega
      · have hjn : ¬ (j : Int) < (len : Int) := by omega
        have HEQ : Hid (Calls Try.prog 17 #[.pointer (some ⟨g0.S, 0, none⟩), .pointer (some ⟨r0.R, 0, none⟩)] wr fun e w' => e = .returned (.bool true) ∧ Below wr.heap.size wr w') := by
          have := equal_any HP.out.1
          rw [HP.out.2.1, HP.out.2.2.1] at this
          exact this
        go_wp2_with fail
        refine Calls.mono HEQ.out ?_
        rintro e w5 ⟨rfl, hb5⟩
        have HF : Hid (Below w.heap.size w w5) := HP.out.1.dh.below.trans (hb5.mono HP.out.1.dh.below.size)
        clear hb5 HEQ
        go_wp2
        go_ret
        exact ⟨rfl, HF.out⟩


set_option maxRecDepth 100000 in
set_option maxHeartbeats 2000000 in
theorem lifted_schedDoes (os : Os) (started : os.Started) (H : Type) (enc : TypeId × Value → H) :
    ReturnsInHanded {} Try.checked os 3 .any (Rows.schedDoesSpec.pre6 enc Try.prog Try.f3 Rows.schedDoesRow.domain false) (Rows.schedDoesSpec.post enc Try.prog Try.f3 false true false false) := by
  refine returnsInHanded_of_change_sized (C := Try.checked) own started (by kernel_rfl) Try.func3
    (ChangeSpec.witness6 (enc := enc) (C := Try.checked) false ⟨#[], #[.int .i64 0, .slice none 0 0], []⟩ 8 (by kernel_rfl) (by kernel_rfl) (by kernel_rfl) (by kernel_rfl)) ?_
  intro W base args ds gs before hval0 hW _ hsz0 _
  have hsz : (DataW.weightsEach Try.prog (Try.f3.params.toList ++ Rows.schedDoesSpec.plain.varTypes Try.prog) (ds ++ gs)).all (· ≤ reachBytes) = true := hsz0
  clear hsz0
  have hval : ∀ (j : Nat) t v, Try.f3.params[j]? = some t → args[j]? = some v → Value.okWide Try.prog W .any base t v := hval0
  have hW' := hW
  obtain ⟨p, q, hA0, hV, rfl, hfz, hnd⟩ := hW
  have hA : DataW.TrodAll enc Try.prog W 0 (fun _ => true) true Try.f3.params.toList args.toList ds p := hA0
  rw [Try.params3] at hA hval hsz
  obtain ⟨v0, vs0, d0, ds0, p0, q0, hargs, rfl, rfl, h0, r0⟩ := trodAll_cons hA
  obtain ⟨v1, vs1, d1, ds1, p1, q1, rfl, rfl, rfl, h1, r1⟩ := trodAll_cons r0
  obtain ⟨rfl, rfl, rfl⟩ := trodAll_nil r1
  obtain rfl : args = #[v0, v1] := by cases args; simp_all
  obtain ⟨rfl, rfl⟩ := trodVars_none hV
  obtain ⟨a0, rfl, rfl, rfl, w0⟩ := open_int Try.underlying3 (hval 0 3 v0 rfl rfl) h0
  obtain ⟨a1, len1, cap1, rfl⟩ := okWide_slice Try.underlying22 (hval 1 22 v1 rfl rfl)
  have k1 := h1
  have lt1 : ∀ x ∈ p1, x.block < W.heap.size := by obtain ⟨m, hm⟩ := k1; exact DataW.trod_lt m _ _ _ hm
  obtain ⟨z1, w1⟩ : ∃ l, InS W a1 len1 cap1 l := by
    refine in_sops h1 fun n hn => ?_
    have := of_decide_eq_true (List.all_eq_true.1 hsz _ (DataW.weights_mem_each (j := 1) (t := 22) rfl rfl n hn))
    simp only [reachBytes] at this
    omega
  clear hA0 hval0
  refine (walk_schedDoes a0 a1 len1 cap1 z1 W w0 w1).mono fun e W' ⟨he, bel⟩ => ?_
  subst he
  exact ⟨_, rfl, _, _, _, [], _, [], hW', trodAll_mk1 (shut_bool Try.underlying4 _), (trodAll_cons_mk (shut_int Try.underlying3 w0) (trodAll_cons_mk (Below.trod laidOut (by kernel_rfl) (of_decide_eq_true (by kernel_rfl)) k1 bel lt1) trodAll_mk0)), rfl, bel.frame _, fun h => by cases h⟩

/-- The statement. -/
theorem schedDoes_holds : Rows.SchedDoesSaid :=
  OpenClaim.holds_of_wide 3 Try.f3 rfl rfl rfl rfl rfl rfl rfl ⟨rfl, rfl, rfl, rfl, rfl⟩ rfl rfl rfl rfl rfl (by kernel_rfl) Try.func3 (by kernel_rfl)
    (of_decide_eq_true (by kernel_rfl)) (by unfold Func.isWrapper; first | (rw [if_pos (by decide +kernel)]; kernel_rfl) | (rw [if_neg (by decide +kernel)]; exact ⟨rfl, rfl⟩))
    (fun os started H enc _ => lifted_schedDoes os started H enc)
#print axioms schedDoes_holds
end Go.Proofs.Ytnjokhdedgdjjaa
