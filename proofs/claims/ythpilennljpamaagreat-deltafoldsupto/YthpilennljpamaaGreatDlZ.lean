/- Look: the face. -/
import Derived.Test.YthpilennljpamaaGreatDlX
namespace Go.Proofs.YthpilennljpamaaGreat
open Go.RowKit Go.Sort
set_option linter.unusedVariables false
set_option maxRecDepth 100000

theorem caughtS_idle (B : Nat) (w : World) :
    CallsD Tryz.prog 62 #[.pointer (some ⟨B, 0, none⟩)] .returning w fun e u' w' => e = .returned (.tuple #[]) ∧ u' = .returning ∧ w' = w := by
  refine callsD_of_wpS Tryz.func62 rfl fun c₀ cs hu => ?_
  apply wpS_seq
  apply wpS_region
  simp [wpOpsS, go_sem, recoverD, hu, Tryz.ntmps62, Exit.thenS]
  refine wpS_of_wp ?_
  simp only [Array.replicate_succ, Array.replicate_zero, List.push_toArray, List.append_toArray, List.setIfInBounds_toArray, List.set_cons_zero, List.set_cons_succ, List.nil_append, List.cons_append]
  go_wp2
  cases c₀
  simp_all [bodyPostS, results, Tryz.results62]

theorem caughtS_no (B : Nat) (k x : Int) (w : World) (hc : w.cell? ⟨B, 0, none⟩ = some (.int .i64 x)) (hz : w.frozen? ⟨B, 0, none⟩ = false) :
    CallsD Tryz.prog 62 #[.pointer (some ⟨B, 0, none⟩)] (.panicking [{ v := .iface 34 (.int .i64 k), recovered := false }]) w fun e u' w' => e = .returned (.tuple #[]) ∧ u' = .panicking [{ v := .iface 34 (.int .i64 k), recovered := true }] ∧ w' = w.setCell ⟨B, 0, none⟩ (.int .i64 k) := by
  refine callsD_of_wpS Tryz.func62 rfl fun c₀ cs hu => ?_
  apply wpS_seq
  apply wpS_region
  simp [wpOpsS, go_sem, recoverD, hu, Tryz.ntmps62, Exit.thenS]
  refine wpS_of_wp ?_
  simp only [Array.replicate_succ, Array.replicate_zero, List.push_toArray, List.append_toArray, List.setIfInBounds_toArray, List.set_cons_zero, List.set_cons_succ, List.nil_append, List.cons_append]
  go_wp2_with fail
  refine (refusal_any k _).mono ?_
  rintro e w1 ⟨rfl, rfl⟩
  go_wp2
  simp [bodyPostS, results, Tryz.results62]


theorem results_se {fn : Func} {t u : Tmp} {T1 T2 : TypeId} (h : fn.results = #[.cell t 44, .cell u 34]) {tmps : Array Value} {w : World} {b c : Nat} (ht : tmps.getD t undef = .pointer (some ⟨b, 0, none⟩)) (hu : tmps.getD u undef = .pointer (some ⟨c, 0, none⟩)) {cs : List Value} {i : Int} (hn : cs.length = 6) (hk : Bk w b T1 cs.toArray) (hk2 : Bk w c T2 #[.int .i64 i]) :
    (results fn tmps).run Tryz.prog w = .ok (.tuple #[.agg cs.toArray, .int .i64 i]) w := by
  have c1 : w.cell? ⟨c, 0, none⟩ = some (.int .i64 i) := hk2.cell 0
  have hy : ∀ w : World, (loadVar 34 ⟨c, 0, none⟩).run Tryz.prog w = (load ⟨c, 0, none⟩).run Tryz.prog w := fun w => by kernel_rfl
  have ht' : tmps[t]?.getD undef = .pointer (some ⟨b, 0, none⟩) := by simpa using ht
  have hu' : tmps[u]?.getD undef = .pointer (some ⟨c, 0, none⟩) := by simpa using hu
  simp [results, h, ht', hu', asAddr, run_loadVar_cells sp_agg sp_size hn hk, hy, c1]

set_option maxHeartbeats 1000000 in
theorem caughtS_any (g : Nat) (lb : Array Value) (eg : ∀ args w, (callFunc g args).run Tryz.prog w = .ok (.enter g args) w) (out : Sp × Int) (hz : out.2 ≠ 0 → out.1 = Sp.zero) (w : World)
    (h : Calls Tryz.prog g lb ((w.alloc (.cells #[.string ⟨#[]⟩, .int .i64 0, .int .i64 0, .int .i64 0, .bool false, .int .i64 0] 44)).alloc (.cells #[.int .i64 0] 34)) fun e w' => DoneS ((w.alloc (.cells #[.string ⟨#[]⟩, .int .i64 0, .int .i64 0, .int .i64 0, .bool false, .int .i64 0] 44)).alloc (.cells #[.int .i64 0] 34)) out e w') :
    Calls Tryz.prog 35 #[.func (.func g) #[] lb] w fun e w' => e = .returned (.tuple #[spv out.1.e out.1.f out.1.g, .int .i64 out.2]) ∧ Below w.heap.size w w' := by
  have hmf : ∀ (fn : Fn) (first cap : Array Value) (w : World), (Instr.makeFunc fn first cap).run Tryz.prog w = .ok (.func fn first cap) w := fun _ _ _ _ => rfl
  have H : Hid _ := h
  have HB0 : Hid (Below w.heap.size w ((w.alloc (.cells #[.string ⟨#[]⟩, .int .i64 0, .int .i64 0, .int .i64 0, .bool false, .int .i64 0] 44)).alloc (.cells #[.int .i64 0] 34))) := ((Below.refl _ _).alloc (Nat.le_refl _) _).alloc (by simp) _
  have HK0 : Hid (Bk ((w.alloc (.cells #[.string ⟨#[]⟩, .int .i64 0, .int .i64 0, .int .i64 0, .bool false, .int .i64 0] 44)).alloc (.cells #[.int .i64 0] 34)) w.heap.size 44 #[.string ⟨#[]⟩, .int .i64 0, .int .i64 0, .int .i64 0, .bool false, .int .i64 0]) := (Bk.new _ _ _).alloc _
  have HE0 : Hid (Bk ((w.alloc (.cells #[.string ⟨#[]⟩, .int .i64 0, .int .i64 0, .int .i64 0, .bool false, .int .i64 0] 44)).alloc (.cells #[.int .i64 0] 34)) (w.heap.size + 1) 34 #[.int .i64 0]) := Bk.new1 _ _ _ _
  obtain ⟨⟨⟨xk, xs, xg, xc⟩, xf, xgo⟩, kk⟩ := out
  simp only at hz
  clear h
  go_enter_defers Tryz.func35, Tryz.ntmps35
  go_wp2_with fail
  refine Calls.mono H.out ?_
  rintro e w2 ⟨hd, hb⟩
  have HK2 : Hid (Bk w2 w.heap.size 44 #[.string ⟨#[]⟩, .int .i64 0, .int .i64 0, .int .i64 0, .bool false, .int .i64 0]) := HK0.out.below hb HK0.out.lt
  have HE2 : Hid (Bk w2 (w.heap.size + 1) 34 #[.int .i64 0]) := HE0.out.below hb HE0.out.lt
  have HB2 : Hid (Below w.heap.size w w2) := HB0.out.trans (hb.mono HB0.out.size)
  clear hb H
  simp only at hd
  rcases hd with ⟨h0, rfl⟩ | ⟨h0, rfl⟩
  · subst h0
    have b0 : w2.cell? ⟨w.heap.size, 0, none⟩ = some (.string ⟨#[]⟩) := HK2.out.cell 0
    have bf0 : w2.frozen? ⟨w.heap.size, 0, none⟩ = false := HK2.out.frozen 0
    have b1 : w2.cell? ⟨w.heap.size, 1, none⟩ = some (.int .i64 0) := HK2.out.cell 1
    have bf1 : w2.frozen? ⟨w.heap.size, 1, none⟩ = false := HK2.out.frozen 1
    have b2 : w2.cell? ⟨w.heap.size, 2, none⟩ = some (.int .i64 0) := HK2.out.cell 2
    have bf2 : w2.frozen? ⟨w.heap.size, 2, none⟩ = false := HK2.out.frozen 2
    have b3 : w2.cell? ⟨w.heap.size, 3, none⟩ = some (.int .i64 0) := HK2.out.cell 3
    have bf3 : w2.frozen? ⟨w.heap.size, 3, none⟩ = false := HK2.out.frozen 3
    have b4 : w2.cell? ⟨w.heap.size, 4, none⟩ = some (.bool false) := HK2.out.cell 4
    have bf4 : w2.frozen? ⟨w.heap.size, 4, none⟩ = false := HK2.out.frozen 4
    have b5 : w2.cell? ⟨w.heap.size, 5, none⟩ = some (.int .i64 0) := HK2.out.cell 5
    have bf5 : w2.frozen? ⟨w.heap.size, 5, none⟩ = false := HK2.out.frozen 5
    have d0 : w2.cell? ⟨w.heap.size + 1, 0, none⟩ = some (.int .i64 0) := HE2.out.cell 0
    have g0 : w2.frozen? ⟨w.heap.size + 1, 0, none⟩ = false := HE2.out.frozen 0
    go_wp2
    refine leaves_cons (f := 62) (args := #[.pointer (some ⟨w.heap.size + 1, 0, none⟩)]) (by simp) (by simp [go_sem]) ?_
    refine (caughtS_idle (w.heap.size + 1) _).mono ?_
    rintro e u' w'' ⟨rfl, rfl, rfl⟩
    clear b0 bf0 b1 bf1 b2 bf2 b3 bf3 b4 bf4 b5 bf5
    clear d0 g0
    have k1 := (HK2.out.six (.string xk) (.int .i64 xs) (.int .i64 xg) (.int .i64 xc) (.bool xf) (.int .i64 xgo)).other (p := ⟨w.heap.size + 1, 0, none⟩) (by simp) (.int .i64 0)
    have k2 := (HE2.out.sixO (R := w.heap.size) (by omega) (.string xk) (.int .i64 xs) (.int .i64 xg) (.int .i64 xc) (.bool xf) (.int .i64 xgo)).set 0 (.int .i64 0)
    have ht : Tn [w.heap.size, w.heap.size + 1] w2 _ := ((Tn.refl _ w2).six (R := w.heap.size) (.inl (by simp)) (.string xk) (.int .i64 xs) (.int .i64 xg) (.int .i64 xc) (.bool xf) (.int .i64 xgo)).setCell (p := ⟨w.heap.size + 1, 0, none⟩) (.inl (by simp)) (.int .i64 0)
    refine ⟨_, results_se (cs := [.string xk, .int .i64 xs, .int .i64 xg, .int .i64 xc, .bool xf, .int .i64 xgo]) rfl rfl rfl rfl k1 k2, ?_⟩
    exact ⟨rfl, HB2.out.trans (ht.below HB2.out.size (by simp))⟩
  · have hzz := hz h0
    simp only [Sp.mk.injEq, En.mk.injEq] at hzz
    obtain ⟨⟨rfl, rfl, rfl, rfl⟩, rfl, rfl⟩ := hzz
    refine leaves_cons (f := 62) (args := #[.pointer (some ⟨w.heap.size + 1, 0, none⟩)]) (by simp) (by simp [go_sem]) ?_
    refine (caughtS_no (w.heap.size + 1) kk 0 _ (HE2.out.cell 0) (HE2.out.frozen 0)).mono ?_
    rintro e u' w'' ⟨rfl, rfl, rfl⟩
    have k1 := HK2.out.other (p := ⟨w.heap.size + 1, 0, none⟩) (by simp) (.int .i64 kk)
    have k2 := HE2.out.set 0 (.int .i64 kk)
    have ht : Tn [w.heap.size + 1] w2 _ := (Tn.refl _ w2).setCell (p := ⟨w.heap.size + 1, 0, none⟩) (.inl (by simp)) (.int .i64 kk)
    refine ⟨_, results_se (cs := [.string ⟨#[]⟩, .int .i64 0, .int .i64 0, .int .i64 0, .bool false, .int .i64 0]) rfl rfl rfl rfl k1 k2, ?_⟩
    exact ⟨rfl, HB2.out.trans (ht.below HB2.out.size (by simp))⟩

theorem Dl.look_zero (g : Pp) (key : ByteArray) (ds : List De) (EL : List En) (h : (Dl.look g key ds EL).2 ≠ 0) : (Dl.look g key ds EL).1 = Sp.zero := by
  unfold Dl.look at h ⊢
  split
  · rename_i n hn
    rw [hn] at h
    exact absurd rfl h
  · rename_i hn
    rw [hn] at h
    simp only at h
    unfold Dl.says at h ⊢
    split
    · rfl
    · rename_i h1
      rw [if_neg h1] at h
      split
      · rename_i h2
        rw [if_pos h2] at h
        split
        · rfl
        · rename_i h3
          rw [if_neg h3] at h
          exact absurd rfl h
      · rename_i h2
        rw [if_neg h2] at h
        split
        · rename_i h3
          rw [if_pos h3] at h
          cases hf : Pg.fnd false EL key with
          | none => rfl
          | some x => rw [hf] at h; exact absurd rfl h
        · rename_i h3
          rw [if_neg h3] at h
          cases hf : Pg.find true (Dl.among g key ds EL) key with
          | none => rfl
          | some x => rw [hf] at h; exact absurd rfl h

set_option maxHeartbeats 2000000 in
theorem look_any (pf : Bool) (plo phi : ByteArray) (pr : Int) (pp : Option Addr) (pn pc : Nat) (pl : List En) (key : ByteArray) (p : Option Addr) (len cap : Nat) (L : List Dm) (EL : List En) (w : World) (hlen : pl.length = pn) (hx : Ens w pp pl) (hl : pn ≤ 3518437208780) (hL : L.length = len) (hll : len ≤ 4398046511104) (hD : Des w p L)
    (hE : (Dl.outl ⟨pf, plo, phi, pr, pl⟩ (L.map (·.d)).reverse).2 = 0 → ((Dl.outl ⟨pf, plo, phi, pr, pl⟩ (L.map (·.d)).reverse).1.leaf = false ∨ Pg.may pf ⟨plo, phi⟩ pr pl = false) → ∀ W, Below w.heap.size w W → Calls Tryz.prog 54 #[pgv pf plo phi pr pp pn pc, .slice p len cap] W fun e w' => Led W EL e w') :
    Calls Tryz.prog 18 #[pgv pf plo phi pr pp pn pc, .string key, .slice p len cap] w fun e w' => e = .returned (.tuple #[spv (Dl.look ⟨pf, plo, phi, pr, pl⟩ key (L.map (·.d)) EL).1.e (Dl.look ⟨pf, plo, phi, pr, pl⟩ key (L.map (·.d)) EL).1.f (Dl.look ⟨pf, plo, phi, pr, pl⟩ key (L.map (·.d)) EL).1.g, .int .i64 (Dl.look ⟨pf, plo, phi, pr, pl⟩ key (L.map (·.d)) EL).2]) ∧ Below w.heap.size w w' := by
  have hmf : ∀ (fn : Fn) (first cap : Array Value) (w : World), (Instr.makeFunc fn first cap).run Tryz.prog w = .ok (.func fn first cap) w := fun _ _ _ _ => rfl
  have eg : ∀ args w, (callFunc 36 args).run Tryz.prog w = .ok (.enter 36 args) w := enters_of Tryz.func36 (by kernel_rfl) rfl
  have hz := Dl.look_zero ⟨pf, plo, phi, pr, pl⟩ key (L.map (·.d)) EL
  have hq := fun (W : World) (hW : Below w.heap.size w W) => looked_any pf plo phi pr pp pn pc pl key p len cap L EL W hlen (hx.below hW (Nat.le_refl _)) hl hL hll (hD.below hW (Nat.le_refl _)) (fun h1 h2 W' hW' => hE h1 h2 W' (hW.trans (hW'.mono hW.size)))
  obtain ⟨out, HO⟩ : ∃ out, Hid (Dl.look ⟨pf, plo, phi, pr, pl⟩ key (L.map (·.d)) EL = out) := ⟨_, rfl⟩
  rw [HO.out] at hz
  simp only [HO.out] at hq
  rw [HO.out]
  clear HO hE hD hx hlen hL
  have HQ : Hid _ := hq
  clear hq
  obtain ⟨w0, hw0⟩ : ∃ w0, (((w.alloc (.cells #[.bool pf, .string plo, .string phi, .int .i64 pr, .slice pp pn pc] 24)).alloc (.cells #[.string key] 9)).alloc (.cells #[.slice p len cap] 25)).alloc (.cells #[.string ⟨#[]⟩, .int .i64 0, .int .i64 0, .int .i64 0, .bool false, .int .i64 0] 44) = w0 := ⟨_, rfl⟩
  have HB0 : Hid (Below w.heap.size w w0) := by rw [← hw0]; exact ((((Below.refl _ _).alloc (Nat.le_refl _) _).alloc (by simp) _).alloc (by simp; omega) _).alloc (by simp; omega) _
  have hk0 : Bk w0 w.heap.size 24 #[.bool pf, .string plo, .string phi, .int .i64 pr, .slice pp pn pc] := by rw [← hw0]; exact (((Bk.new _ _ _).alloc _).alloc _).alloc _
  have hk1 : Bk w0 (w.heap.size + 1) 9 #[.string key] := by rw [← hw0]; exact ((Bk.new1 _ _ _ _).alloc _).alloc _
  have hk2 : Bk w0 (w.heap.size + 1 + 1) 25 #[.slice p len cap] := by rw [← hw0]; exact (Bk.new2 _ _ _ _ _).alloc _
  have HR0 : Hid (Bk w0 (w.heap.size + 1 + 1 + 1) 44 #[.string ⟨#[]⟩, .int .i64 0, .int .i64 0, .int .i64 0, .bool false, .int .i64 0]) := by
    rw [← hw0]
    unfold Hid
    have := Bk.new (((w.alloc (.cells #[.bool pf, .string plo, .string phi, .int .i64 pr, .slice pp pn pc] 24)).alloc (.cells #[.string key] 9)).alloc (.cells #[.slice p len cap] 25)) 44 #[.string ⟨#[]⟩, .int .i64 0, .int .i64 0, .int .i64 0, .bool false, .int .i64 0]
    simpa using this
  have hl1 : ∀ (W : World), Below w0.heap.size w0 W → Calls Tryz.prog 36 #[.pointer (some ⟨w.heap.size, 0, none⟩), .pointer (some ⟨w.heap.size + 1, 0, none⟩), .pointer (some ⟨w.heap.size + 1 + 1, 0, none⟩)] W fun e w' => DoneS W out e w' := by
    intro W hW
    have HA : Hid (Bk W w.heap.size 24 #[.bool pf, .string plo, .string phi, .int .i64 pr, .slice pp pn pc]) := hk0.below hW hk0.lt
    have HY : Hid (Bk W (w.heap.size + 1) 9 #[.string key]) := hk1.below hW hk1.lt
    have HZ : Hid (Bk W (w.heap.size + 1 + 1) 25 #[.slice p len cap]) := hk2.below hW hk2.lt
    have HWW : Hid (Below w.heap.size w W) := HB0.out.trans (hW.mono HB0.out.size)
    clear hk0 hk1 hk2 hW hw0 hz
    obtain ⟨w1, hw1⟩ : ∃ w1, W.alloc (.cells #[.string ⟨#[]⟩, .int .i64 0, .int .i64 0, .int .i64 0, .bool false, .int .i64 0] 44) = w1 := ⟨_, rfl⟩
    have HB1 : Hid (Below W.heap.size W w1) := by rw [← hw1]; exact (Below.refl _ _).alloc (Nat.le_refl _) _
    have HR1 : Hid (Bk w1 W.heap.size 44 #[.string ⟨#[]⟩, .int .i64 0, .int .i64 0, .int .i64 0, .bool false, .int .i64 0]) := by rw [← hw1]; exact Bk.new _ _ _
    have hka : Bk w1 w.heap.size 24 #[.bool pf, .string plo, .string phi, .int .i64 pr, .slice pp pn pc] := HA.out.below HB1.out HA.out.lt
    have hkb : Bk w1 (w.heap.size + 1) 9 #[.string key] := HY.out.below HB1.out HY.out.lt
    have hkc : Bk w1 (w.heap.size + 1 + 1) 25 #[.slice p len cap] := HZ.out.below HB1.out HZ.out.lt
    have a0 : w1.cell? ⟨w.heap.size, 0, none⟩ = some (.bool pf) := hka.cell 0
    have a1 : w1.cell? ⟨w.heap.size, 1, none⟩ = some (.string plo) := hka.cell 1
    have a2 : w1.cell? ⟨w.heap.size, 2, none⟩ = some (.string phi) := hka.cell 2
    have a3 : w1.cell? ⟨w.heap.size, 3, none⟩ = some (.int .i64 pr) := hka.cell 3
    have a4 : w1.cell? ⟨w.heap.size, 4, none⟩ = some (.slice pp pn pc) := hka.cell 4
    have y0 : w1.cell? ⟨w.heap.size + 1, 0, none⟩ = some (.string key) := hkb.cell 0
    have y1 : w1.cell? ⟨w.heap.size + 1 + 1, 0, none⟩ = some (.slice p len cap) := hkc.cell 0
    clear hka hkb hkc
    go_enter Tryz.func36, Tryz.ntmps36
    go_wp2_with fail
    clear hw1 y0 y1
    clear a0 a1 a2 a3 a4
    refine (HQ.out _ (HWW.out.trans (HB1.out.mono HWW.out.size))).mono ?_
    rintro e w2 ⟨hd, hb2⟩
    have HB2 : Hid (Below W.heap.size W w2) := HB1.out.trans (hb2.mono HB1.out.size)
    have HR2 : Hid (Bk w2 W.heap.size 44 #[.string ⟨#[]⟩, .int .i64 0, .int .i64 0, .int .i64 0, .bool false, .int .i64 0]) := HR1.out.below hb2 HR1.out.lt
    clear hb2
    rcases hd with ⟨h0, rfl⟩ | ⟨h0, rfl⟩
    · obtain ⟨⟨⟨xk, xs, xg, xc⟩, xf, xgo⟩, kk⟩ := out
      simp only at h0
      subst h0
      have b0 : w2.cell? ⟨W.heap.size, 0, none⟩ = some (.string ⟨#[]⟩) := HR2.out.cell 0
      have bf0 : w2.frozen? ⟨W.heap.size, 0, none⟩ = false := HR2.out.frozen 0
      have b1 : w2.cell? ⟨W.heap.size, 1, none⟩ = some (.int .i64 0) := HR2.out.cell 1
      have bf1 : w2.frozen? ⟨W.heap.size, 1, none⟩ = false := HR2.out.frozen 1
      have b2 : w2.cell? ⟨W.heap.size, 2, none⟩ = some (.int .i64 0) := HR2.out.cell 2
      have bf2 : w2.frozen? ⟨W.heap.size, 2, none⟩ = false := HR2.out.frozen 2
      have b3 : w2.cell? ⟨W.heap.size, 3, none⟩ = some (.int .i64 0) := HR2.out.cell 3
      have bf3 : w2.frozen? ⟨W.heap.size, 3, none⟩ = false := HR2.out.frozen 3
      have b4 : w2.cell? ⟨W.heap.size, 4, none⟩ = some (.bool false) := HR2.out.cell 4
      have bf4 : w2.frozen? ⟨W.heap.size, 4, none⟩ = false := HR2.out.frozen 4
      have b5 : w2.cell? ⟨W.heap.size, 5, none⟩ = some (.int .i64 0) := HR2.out.cell 5
      have bf5 : w2.frozen? ⟨W.heap.size, 5, none⟩ = false := HR2.out.frozen 5
      go_wp2
      clear b0 bf0 b1 bf1 b2 bf2 b3 bf3 b4 bf4 b5 bf5
      have k1 := HR2.out.six (.string xk) (.int .i64 xs) (.int .i64 xg) (.int .i64 xc) (.bool xf) (.int .i64 xgo)
      have ht : Tn [W.heap.size] w2 _ := (Tn.refl _ w2).six (R := W.heap.size) (.inl (by simp)) (.string xk) (.int .i64 xs) (.int .i64 xg) (.int .i64 xc) (.bool xf) (.int .i64 xgo)
      refine bodyPost_ret (results_one (T' := 44) (cs := [.string xk, .int .i64 xs, .int .i64 xg, .int .i64 xc, .bool xf, .int .i64 xgo]) rfl rfl sp_agg sp_size rfl k1) rfl ?_
      exact ⟨.inl ⟨rfl, rfl⟩, HB2.out.trans (ht.below HB2.out.size (by simp))⟩
    · refine ⟨rfl, ?_⟩
      exact ⟨.inr ⟨h0, rfl⟩, HB2.out⟩
  have hcc := caughtS_any 36 #[.pointer (some ⟨w.heap.size, 0, none⟩), .pointer (some ⟨w.heap.size + 1, 0, none⟩), .pointer (some ⟨w.heap.size + 1 + 1, 0, none⟩)] eg out hz w0 (hl1 _ (((Below.refl _ _).alloc (Nat.le_refl _) _).alloc (by simp) _))
  have HC : Hid _ := hcc
  obtain ⟨⟨⟨xk, xs, xg, xc⟩, xf, xgo⟩, kk⟩ := out
  clear hcc hl1 hk0 hk1 hk2 hz
  go_enter Tryz.func18, Tryz.ntmps18
  go_wp2_with fail
  clear hw0
  refine Calls.mono HC.out ?_
  rintro e w1 ⟨rfl, hb1⟩
  have HB1 : Hid (Below w.heap.size w w1) := HB0.out.trans (hb1.mono HB0.out.size)
  have HR1 : Hid (Bk w1 (w.heap.size + 1 + 1 + 1) 44 #[.string ⟨#[]⟩, .int .i64 0, .int .i64 0, .int .i64 0, .bool false, .int .i64 0]) := HR0.out.below hb1 HR0.out.lt
  clear hb1
  have b0 : w1.cell? ⟨w.heap.size + 1 + 1 + 1, 0, none⟩ = some (.string ⟨#[]⟩) := HR1.out.cell 0
  have bf0 : w1.frozen? ⟨w.heap.size + 1 + 1 + 1, 0, none⟩ = false := HR1.out.frozen 0
  have b1 : w1.cell? ⟨w.heap.size + 1 + 1 + 1, 1, none⟩ = some (.int .i64 0) := HR1.out.cell 1
  have bf1 : w1.frozen? ⟨w.heap.size + 1 + 1 + 1, 1, none⟩ = false := HR1.out.frozen 1
  have b2 : w1.cell? ⟨w.heap.size + 1 + 1 + 1, 2, none⟩ = some (.int .i64 0) := HR1.out.cell 2
  have bf2 : w1.frozen? ⟨w.heap.size + 1 + 1 + 1, 2, none⟩ = false := HR1.out.frozen 2
  have b3 : w1.cell? ⟨w.heap.size + 1 + 1 + 1, 3, none⟩ = some (.int .i64 0) := HR1.out.cell 3
  have bf3 : w1.frozen? ⟨w.heap.size + 1 + 1 + 1, 3, none⟩ = false := HR1.out.frozen 3
  have b4 : w1.cell? ⟨w.heap.size + 1 + 1 + 1, 4, none⟩ = some (.bool false) := HR1.out.cell 4
  have bf4 : w1.frozen? ⟨w.heap.size + 1 + 1 + 1, 4, none⟩ = false := HR1.out.frozen 4
  have b5 : w1.cell? ⟨w.heap.size + 1 + 1 + 1, 5, none⟩ = some (.int .i64 0) := HR1.out.cell 5
  have bf5 : w1.frozen? ⟨w.heap.size + 1 + 1 + 1, 5, none⟩ = false := HR1.out.frozen 5
  go_wp2
  clear b0 bf0 b1 bf1 b2 bf2 b3 bf3 b4 bf4 b5 bf5
  have k1 := HR1.out.six (.string xk) (.int .i64 xs) (.int .i64 xg) (.int .i64 xc) (.bool xf) (.int .i64 xgo)
  have ht : Tn [w.heap.size + 1 + 1 + 1] w1 _ := (Tn.refl _ w1).six (R := w.heap.size + 1 + 1 + 1) (.inl (by simp)) (.string xk) (.int .i64 xs) (.int .i64 xg) (.int .i64 xc) (.bool xf) (.int .i64 xgo)
  refine bodyPost_ret (results_two (T' := 44) (cs := [.string xk, .int .i64 xs, .int .i64 xg, .int .i64 xc, .bool xf, .int .i64 xgo]) rfl rfl sp_agg sp_size rfl k1) rfl ?_
  exact ⟨rfl, HB1.out.trans (ht.below HB1.out.size (by simp; omega))⟩

end Go.Proofs.YthpilennljpamaaGreat
