/- PageAsks: which pages may be, which keys they have, what is found, what stands from a key on: as the document has it. -/
import Derived.Test.YtakibndjmhadnaaPgFu
import Derived.Test.YtakibndjmhadnaaPgCr
import Derived.Test.YtakibndjmhadnaaPgLive
import Derived.Test.YtakibndjmhadnaaPgBulk
import Derived.Deep.RegionHeld3
namespace Go.Proofs.Ytakibndjmhadnaa
open Go.ChangeShapes Go.WideShapes Go.ChangeAt Go.RowKit Go.Sort
open Go.ChangeMaps (open_string shut_string)
set_option linter.unusedVariables false
set_option maxRecDepth 100000

theorem own_at {w : World} {base : Nat} {p : Option Addr} {len cap : Nat} {l : List En} (h : OwnE w base (.slice p len cap) l) : Ens w p l := by
  obtain ⟨q, c, hv, he, -⟩ := h.ens
  cases hv
  exact he

set_option maxHeartbeats 8000000 in
theorem walk_pageAsks (pf : Bool) (plo phi : ByteArray) (pr : Int) (pp : Option Addr) (pn pc : Nat) (pl : List En) (key : ByteArray) (stop : Int) (w : World) (hp : InE 3518437208780 w pp pn pc pl) (_hk : key.size ≤ 140737488351232) (_hs : (Lit.int .i64 stop).wf = true) :
    Calls Try.prog 3 #[pgv pf plo phi pr pp pn pc, .string key, .int .i64 stop] w fun e w' => e = .returned (.bool true) ∧ Below w.heap.size w w' := by
  have HP : Hid (InE 3518437208780 w pp pn pc pl) := hp
  have hpn : pn ≤ 3518437208780 := hp.room
  clear hp _hk _hs
  have HN : Hid (pl.length = pn) := HP.out.lenq
  obtain ⟨w0, hw0⟩ : ∃ w0, w.alloc (.cells #[.bool pf, .string plo, .string phi, .int .i64 pr, .slice pp pn pc] 24) = w0 := ⟨_, rfl⟩
  have BW : Hid (Below w.heap.size w w0) := by rw [← hw0]; exact (Below.refl _ _).alloc (Nat.le_refl _) _
  have HXp : Hid (Bk w0 w.heap.size 24 #[.bool pf, .string plo, .string phi, .int .i64 pr, .slice pp pn pc]) := by rw [← hw0]; exact Bk.new _ _ _
  have p0 : w0.cell? ⟨w.heap.size, 0, none⟩ = some (.bool pf) := HXp.out.cell 0
  have p1 : w0.cell? ⟨w.heap.size, 1, none⟩ = some (.string plo) := HXp.out.cell 1
  have p2 : w0.cell? ⟨w.heap.size, 2, none⟩ = some (.string phi) := HXp.out.cell 2
  have p3 : w0.cell? ⟨w.heap.size, 3, none⟩ = some (.int .i64 pr) := HXp.out.cell 3
  have p4 : w0.cell? ⟨w.heap.size, 4, none⟩ = some (.slice pp pn pc) := HXp.out.cell 4
  go_enter Try.func3, Try.ntmps3
  go_wp2_with fail
  refine (find_any pf plo phi pr pp pn pc pl key _ HN.out (HP.out.ens.below BW.out (Nat.le_refl _)) (by omega)).mono ?_
  rintro e w1 ⟨⟨out, rfl, hfn⟩, hb1⟩
  have HFN : Hid (Pg.Fnd pf pl key out) := hfn
  obtain ⟨x, hxo⟩ : ∃ x, out.getD En.zero = x := ⟨_, rfl⟩
  obtain ⟨sb, hsb⟩ : ∃ sb, out.isSome = sb := ⟨_, rfl⟩
  have HFV : Hid (out.getD En.zero = x ∧ out.isSome = sb) := ⟨hxo, hsb⟩
  unfold fv
  rw [hxo, hsb]
  obtain ⟨xk, xs, xg, xc⟩ := x
  have BW1 : Hid (Below w.heap.size w w1) := BW.out.trans (hb1.mono BW.out.size)
  have HX1 : Hid (Bk w1 w.heap.size 24 #[.bool pf, .string plo, .string phi, .int .i64 pr, .slice pp pn pc]) := HXp.out.below hb1 HXp.out.lt
  clear p0 p1 p2 p3 p4 hw0 hb1 hfn hxo hsb HXp BW
  obtain ⟨w2, hw2⟩ : ∃ w2, w1.alloc (.cells #[.string xk, .int .i64 xs, .int .i64 xg, .int .i64 xc] 28) = w2 := ⟨_, rfl⟩
  have BW2 : Hid (Below w.heap.size w w2) := by rw [← hw2]; exact BW1.out.alloc BW1.out.size _
  have HX2 : Hid (Bk w2 w.heap.size 24 #[.bool pf, .string plo, .string phi, .int .i64 pr, .slice pp pn pc]) := by rw [← hw2]; exact HX1.out.alloc _
  have HY2 : Hid (Bk w2 w1.heap.size 28 #[.string xk, .int .i64 xs, .int .i64 xg, .int .i64 xc]) := by rw [← hw2]; exact Bk.new _ _ _
  have p0 : w2.cell? ⟨w.heap.size, 0, none⟩ = some (.bool pf) := HX2.out.cell 0
  have p1 : w2.cell? ⟨w.heap.size, 1, none⟩ = some (.string plo) := HX2.out.cell 1
  have p2 : w2.cell? ⟨w.heap.size, 2, none⟩ = some (.string phi) := HX2.out.cell 2
  have p3 : w2.cell? ⟨w.heap.size, 3, none⟩ = some (.int .i64 pr) := HX2.out.cell 3
  have p4 : w2.cell? ⟨w.heap.size, 4, none⟩ = some (.slice pp pn pc) := HX2.out.cell 4
  go_wp2_with fail
  refine (rfind_any pf plo phi pr pp pn pc pl key _ HN.out (HP.out.ens.below BW2.out (Nat.le_refl _)) (by omega)).mono ?_
  rintro e w3 ⟨⟨out2, rfl, hfn2⟩, hb3⟩
  obtain rfl := hfn2.one HFN.out
  unfold fv
  rw [HFV.out.1, HFV.out.2]
  have BW3 : Hid (Below w.heap.size w w3) := BW2.out.trans (hb3.mono BW2.out.size)
  have HX3 : Hid (Bk w3 w.heap.size 24 #[.bool pf, .string plo, .string phi, .int .i64 pr, .slice pp pn pc]) := HX2.out.below hb3 HX2.out.lt
  have HY3 : Hid (Bk w3 w1.heap.size 28 #[.string xk, .int .i64 xs, .int .i64 xg, .int .i64 xc]) := HY2.out.below hb3 HY2.out.lt
  clear p0 p1 p2 p3 p4 hw2 hb3 hfn2 HX2 HY2 BW2 HFV HFN
  obtain ⟨w4, hw4⟩ : ∃ w4, w3.alloc (.cells #[.string xk, .int .i64 xs, .int .i64 xg, .int .i64 xc] 28) = w4 := ⟨_, rfl⟩
  have BW4 : Hid (Below w.heap.size w w4) := by rw [← hw4]; exact BW3.out.alloc BW3.out.size _
  have HX4 : Hid (Bk w4 w.heap.size 24 #[.bool pf, .string plo, .string phi, .int .i64 pr, .slice pp pn pc]) := by rw [← hw4]; exact HX3.out.alloc _
  have HY4 : Hid (Bk w4 w1.heap.size 28 #[.string xk, .int .i64 xs, .int .i64 xg, .int .i64 xc]) := by rw [← hw4]; exact HY3.out.alloc _
  have HZ4 : Hid (Bk w4 w3.heap.size 28 #[.string xk, .int .i64 xs, .int .i64 xg, .int .i64 xc]) := by rw [← hw4]; exact Bk.new _ _ _
  have p0 := cell_regrown (show w4.cell? ⟨w.heap.size, 0, none⟩ = some (.bool pf) from HX4.out.cell 0)
  have p1 := cell_regrown (show w4.cell? ⟨w.heap.size, 1, none⟩ = some (.string plo) from HX4.out.cell 1)
  have p2 := cell_regrown (show w4.cell? ⟨w.heap.size, 2, none⟩ = some (.string phi) from HX4.out.cell 2)
  have p3 := cell_regrown (show w4.cell? ⟨w.heap.size, 3, none⟩ = some (.int .i64 pr) from HX4.out.cell 3)
  have p4 := cell_regrown (show w4.cell? ⟨w.heap.size, 4, none⟩ = some (.slice pp pn pc) from HX4.out.cell 4)
  have y0 := cell_regrown (show w4.cell? ⟨w1.heap.size, 0, none⟩ = some (.string xk) from HY4.out.cell 0)
  have y1 := cell_regrown (show w4.cell? ⟨w1.heap.size, 1, none⟩ = some (.int .i64 xs) from HY4.out.cell 1)
  have y2 := cell_regrown (show w4.cell? ⟨w1.heap.size, 2, none⟩ = some (.int .i64 xg) from HY4.out.cell 2)
  have y3 := cell_regrown (show w4.cell? ⟨w1.heap.size, 3, none⟩ = some (.int .i64 xc) from HY4.out.cell 3)
  have z0 := cell_regrown (show w4.cell? ⟨w3.heap.size, 0, none⟩ = some (.string xk) from HZ4.out.cell 0)
  have z1 := cell_regrown (show w4.cell? ⟨w3.heap.size, 1, none⟩ = some (.int .i64 xs) from HZ4.out.cell 1)
  have z2 := cell_regrown (show w4.cell? ⟨w3.heap.size, 2, none⟩ = some (.int .i64 xg) from HZ4.out.cell 2)
  have z3 := cell_regrown (show w4.cell? ⟨w3.heap.size, 3, none⟩ = some (.int .i64 xc) from HZ4.out.cell 3)
  have HEQ : Hid (∀ d os, Below w4.heap.size w4 (grow (redrawn w4 d) os)) := below_regrown w4
  have HEp : Hid (Ens w4 pp pl) := HP.out.ens.below BW4.out (Nat.le_refl _)
  obtain ⟨kc, HKC⟩ : ∃ kc : Int, Hid ((if Pg.may pf ⟨plo, phi⟩ pr pl then 0 else 70 : Int) = kc) := ⟨_, rfl⟩
  obtain ⟨t, HT⟩ : ∃ t, Hid (Ky.inn ⟨plo, phi⟩ key = t) := ⟨_, rfl⟩
  have cL : ∀ d os, Calls Try.prog 11 #[] (grow (redrawn w4 d) os) fun e w'' => e = .returned (.bool true) ∧ ∃ p : Regrown, w'' = grow (redrawn w4 p.d) p.os := fun d os => Calls.regrown_of (live_any _)
  have cC : ∀ d os, Calls Try.prog 12 #[.agg #[.bool pf, .string plo, .string phi, .int .i64 pr, .slice pp pn pc]] (grow (redrawn w4 d) os) fun e w'' => e = .returned (.int .i64 kc) ∧ ∃ p : Regrown, w'' = grow (redrawn w4 p.d) p.os := fun d os => Calls.regrown_of (by have := check_any pf plo phi pr pp pn pc pl (grow (redrawn w4 d) os) HN.out (HEp.out.below (HEQ.out d os) (Nat.le_refl _)) (by omega); rw [HKC.out] at this; exact this)
  have cD : ∀ d os, Calls Try.prog 13 #[.agg #[.bool pf, .string plo, .string phi, .int .i64 pr, .slice pp pn pc]] (grow (redrawn w4 d) os) fun e w'' => e = .returned (.int .i64 kc) ∧ ∃ p : Regrown, w'' = grow (redrawn w4 p.d) p.os := fun d os => Calls.regrown_of (by have := rcheck_any pf plo phi pr pp pn pc pl (grow (redrawn w4 d) os) HN.out (HEp.out.below (HEQ.out d os) (Nat.le_refl _)) (by omega); rw [HKC.out] at this; exact this)
  have cH : ∀ d os, Calls Try.prog 14 #[.agg #[.bool pf, .string plo, .string phi, .int .i64 pr, .slice pp pn pc], .string key] (grow (redrawn w4 d) os) fun e w'' => e = .returned (.bool t) ∧ ∃ p : Regrown, w'' = grow (redrawn w4 p.d) p.os := fun d os => Calls.regrown_of (by have := has_any pf plo phi pr pp pn pc (grow (redrawn w4 d) os) key; rw [HT.out] at this; exact this)
  have cI : ∀ d os, Calls Try.prog 15 #[.agg #[.bool pf, .string plo, .string phi, .int .i64 pr, .slice pp pn pc], .string key] (grow (redrawn w4 d) os) fun e w'' => e = .returned (.bool t) ∧ ∃ p : Regrown, w'' = grow (redrawn w4 p.d) p.os := fun d os => Calls.regrown_of (by have := rhas_any pf plo phi pr pp pn pc (grow (redrawn w4 d) os) key; rw [HT.out] at this; exact this)
  have kk1 : (kc == kc) = true := by simp
  have tt1 : (t == t) = true := by simp
  have ss1 : (sb == sb) = true := by simp
  have xx0 : (xk.toList == xk.toList) = true := by simp
  have xx1 : (xs == xs) = true := by simp
  have xx2 : (xg == xg) = true := by simp
  have xx3 : (xc == xc) = true := by simp
  clear HKC HT HEQ HEp HY4 HZ4 HX3 HY3 HX1 BW3 BW1
  go_wp2_with fail
  clear hw4
  refine wp_region_quiet_below (by kernel_rfl) (by kernel_rfl) ?_
  repeat (go_big_quiet_step (first | (go_at_call 11; exact cL _ _) | (go_at_call 12; exact cC _ _) | (go_at_call 13; exact cD _ _) | (go_at_call 14; exact cH _ _) | (go_at_call 15; exact cI _ _)))
  refine wpQuiet_nil ?_
  intro _ hw'
  obtain ⟨⟨dq, osq⟩, hw''⟩ := hw'
  subst hw''
  clear cL cC cD cH cI p0 p1 p2 p3 p4 y0 y1 y2 y3 z0 z1 z2 z3 kk1 tt1 ss1 xx0 xx1 xx2 xx3
  have BW5 : Hid (Below w.heap.size w (grow (redrawn w4 dq) osq)) := BW4.out.trans ((below_regrown w4 dq osq).mono BW4.out.size)
  have HX5 : Hid (Bk (grow (redrawn w4 dq) osq) w.heap.size 24 #[.bool pf, .string plo, .string phi, .int .i64 pr, .slice pp pn pc]) := HX4.out.below (below_regrown w4 dq osq) HX4.out.lt
  generalize grow (redrawn w4 dq) osq = w5 at *
  clear HX4 BW4
  have p0 : w5.cell? ⟨w.heap.size, 0, none⟩ = some (.bool pf) := HX5.out.cell 0
  have p1 : w5.cell? ⟨w.heap.size, 1, none⟩ = some (.string plo) := HX5.out.cell 1
  have p2 : w5.cell? ⟨w.heap.size, 2, none⟩ = some (.string phi) := HX5.out.cell 2
  have p3 : w5.cell? ⟨w.heap.size, 3, none⟩ = some (.int .i64 pr) := HX5.out.cell 3
  have p4 : w5.cell? ⟨w.heap.size, 4, none⟩ = some (.slice pp pn pc) := HX5.out.cell 4
  go_wp2_with fail
  refine (rfrom_any pf plo phi pr pp pn pc pl key _ HN.out (HP.out.ens.below BW5.out (Nat.le_refl _)) (by omega) HP.out.le (fun h => (HP.out.nil h).1)).mono ?_
  rintro e w6 ⟨⟨q, c, rfl, hE6⟩, hb6⟩
  obtain ⟨L, HLD⟩ : ∃ L, Hid (pl.drop (pl.findIdx (Pg.ge key)) = L) := ⟨_, rfl⟩
  rw [HLD.out] at hE6
  rw [HLD.out]
  obtain ⟨m, hm⟩ : ∃ m, L.length = m := ⟨_, rfl⟩
  have HM : Hid (L.length = m) := hm
  rw [hm]
  clear hm
  have HE6 : Hid (Ens w6 q L) := hE6
  have BW6 : Hid (Below w.heap.size w w6) := BW5.out.trans (hb6.mono BW5.out.size)
  have HX6 : Hid (Bk w6 w.heap.size 24 #[.bool pf, .string plo, .string phi, .int .i64 pr, .slice pp pn pc]) := HX5.out.below hb6 HX5.out.lt
  clear p0 p1 p2 p3 p4 hE6 hb6 HX5 BW5
  have p0 : w6.cell? ⟨w.heap.size, 0, none⟩ = some (.bool pf) := HX6.out.cell 0
  have p1 : w6.cell? ⟨w.heap.size, 1, none⟩ = some (.string plo) := HX6.out.cell 1
  have p2 : w6.cell? ⟨w.heap.size, 2, none⟩ = some (.string phi) := HX6.out.cell 2
  have p3 : w6.cell? ⟨w.heap.size, 3, none⟩ = some (.int .i64 pr) := HX6.out.cell 3
  have p4 : w6.cell? ⟨w.heap.size, 4, none⟩ = some (.slice pp pn pc) := HX6.out.cell 4
  go_wp2_with fail
  refine (from_any pf plo phi pr pp pn pc pl key _ HN.out (HP.out.ens.below BW6.out (Nat.le_refl _)) (by omega) HP.out.le (fun h => (HP.out.nil h).1)).mono ?_
  rintro e w7 ⟨fb, S, rfl, hF7, hS7, hb7⟩
  rw [HLD.out] at hF7
  have HF7 : Hid (Fm w7 fb S L) := hF7
  have HE7 : Hid (Ens w7 q L) := HE6.out.below hb7 (Nat.le_refl _)
  have BW7 : Hid (Below w.heap.size w w7) := BW6.out.trans (hb7.mono BW6.out.size)
  have HX7 : Hid (Bk w7 w.heap.size 24 #[.bool pf, .string plo, .string phi, .int .i64 pr, .slice pp pn pc]) := HX6.out.below hb7 HX6.out.lt
  clear p0 p1 p2 p3 p4 hF7 hS7 hb7 HX6 BW6 HE6
  go_wp2_with fail
  refine (tells_any HF7.out HM.out HE7.out stop).mono ?_
  rintro e w8 ⟨rfl, hb8⟩
  have HF8 : Hid (Fm w8 fb S L) := HF7.out.kp (KpP.of_below hb8 HF7.out.lt)
  have HE8 : Hid (Ens w8 q L) := HE7.out.below hb8 (Nat.le_refl _)
  have BW8 : Hid (Below w.heap.size w w8) := BW7.out.trans (hb8.mono BW7.out.size)
  have HX8 : Hid (Bk w8 w.heap.size 24 #[.bool pf, .string plo, .string phi, .int .i64 pr, .slice pp pn pc]) := HX7.out.below hb8 HX7.out.lt
  clear hb8 HF7 HE7 HX7 BW7
  go_wp2_with fail
  refine (tells_any HF8.out HM.out HE8.out 0).mono ?_
  rintro e w9 ⟨rfl, hb9⟩
  have BW9 : Hid (Below w.heap.size w w9) := BW8.out.trans (hb9.mono BW8.out.size)
  have HX9 : Hid (Bk w9 w.heap.size 24 #[.bool pf, .string plo, .string phi, .int .i64 pr, .slice pp pn pc]) := HX8.out.below hb9 HX8.out.lt
  clear hb9 HF8 HE8 HX8 BW8
  have HPC : Hid (∀ W, Tn [] w9 W → W.cell? ⟨w.heap.size, 0, none⟩ = some (.bool pf) ∧ W.cell? ⟨w.heap.size, 1, none⟩ = some (.string plo) ∧ W.cell? ⟨w.heap.size, 2, none⟩ = some (.string phi) ∧ W.cell? ⟨w.heap.size, 3, none⟩ = some (.int .i64 pr) ∧ W.cell? ⟨w.heap.size, 4, none⟩ = some (.slice pp pn pc)) := fun W ht => by
    have h := HX9.out.tn ht (by simp)
    exact ⟨h.cell 0, h.cell 1, h.cell 2, h.cell 3, h.cell 4⟩
  have HPE : Hid (∀ W, Tn [] w9 W → Ens W pp pl) := fun W ht => HP.out.ens.below (BW9.out.trans (ht.below BW9.out.size (by simp))) (Nat.le_refl _)
  have HFI : Hid (∀ W, Tn [] w9 W → Below w.heap.size w W) := fun W ht => BW9.out.trans (ht.below BW9.out.size (by simp))
  obtain ⟨p0, p1, p2, p3, p4⟩ := HPC.out w9 (Tn.refl _ _)
  obtain ⟨t1, ht1⟩ : ∃ t1, decide ((pn : Int) > 8) = t1 := ⟨_, rfl⟩
  obtain ⟨t2, ht2⟩ : ∃ t2, decide ((pn : Int) < 2) = t2 := ⟨_, rfl⟩
  have tq1 : (t1 == t1) = true := by simp
  have tq2 : (t2 == t2) = true := by simp
  clear HX9 BW9
  go_wp2_with fail
  go_region_held3 (fun w' => w'.cell? ⟨w.heap.size, 0, none⟩ = some (.bool pf) ∧ w'.cell? ⟨w.heap.size, 1, none⟩ = some (.string plo) ∧ w'.cell? ⟨w.heap.size, 2, none⟩ = some (.string phi) ∧ w'.cell? ⟨w.heap.size, 3, none⟩ = some (.int .i64 pr) ∧ w'.cell? ⟨w.heap.size, 4, none⟩ = some (.slice pp pn pc)) (go_keep) (first
    | (go_at_call 19; refine (full_any pf plo phi pr pp pn pc _).mono ?_; rintro e wA ⟨rfl, hbA⟩; have tA : Tn [] w9 wA := ((Tn.refl _ _).drew).trans (Tn.of_below hbA []) (by simp); obtain ⟨a0, a1, a2, a3, a4⟩ := HPC.out wA tA)
    | (go_at_call 20; refine (small_any pf plo phi pr pp pn pc _).mono ?_; rintro e wB ⟨rfl, hbB⟩; have tB : Tn [] w9 wB := tA.trans (Tn.of_below hbB []) (by simp); obtain ⟨b0, b1, b2, b3, b4⟩ := HPC.out wB tB)
    | (go_at_call 22; refine (pclone_any pf plo phi pr pp pn pc pl _ HN.out (HPE.out _ tC) (by omega) (fun h => (HP.out.nil h).1)).mono ?_; rintro e wD ⟨cp, cc, rfl, hown, hbD⟩; have tD : Tn [] w9 wD := tC.trans (Tn.of_below hbD []) (by simp); have eD : Ens wD cp pl := own_at hown; obtain ⟨d0, d1, d2, d3, d4⟩ := HPC.out wD tD)
    | (go_at_call 21; refine (same_any ⟨pf, plo, phi, pr, pl⟩ ⟨pf, plo, phi, pr, pl⟩ cp pp pn pn cc pc _ HN.out HN.out eD (HPE.out _ tD) (by omega)).mono ?_; rw [Pg.same_self]; rintro e wE ⟨rfl, hbE⟩; have tE : Tn [] w9 wE := tD.trans (Tn.of_below hbE []) (by simp); obtain ⟨e0, e1, e2, e3, e4⟩ := HPC.out wE tE)
    | (go_at_call 21; refine (same_any ⟨pf, plo, phi, pr, pl⟩ ⟨pf, plo, phi, pr, pl⟩ pp pp pn pn pc pc _ HN.out HN.out (HPE.out _ tB) (HPE.out _ tB) (by omega)).mono ?_; rw [Pg.same_self]; rintro e wC ⟨rfl, hbC⟩; have tC : Tn [] w9 wC := tB.trans (Tn.of_below hbC []) (by simp); obtain ⟨c0, c1, c2, c3, c4⟩ := HPC.out wC tC))
  go_wp2
  go_ret
  exact ⟨rfl, HFI.out _ tE⟩


set_option maxRecDepth 100000 in
set_option maxHeartbeats 2000000 in
theorem lifted_pageAsks (os : Os) (started : os.Started) (H : Type) (enc : TypeId × Value → H) :
    ReturnsInHanded {} Try.checked os 3 .any (Rows.pageAsksSpec.pre6 enc Try.prog Try.f3 Rows.pageAsksRow.domain false) (Rows.pageAsksSpec.post enc Try.prog Try.f3 false true false false) := by
  refine returnsInHanded_of_change_sized (C := Try.checked) own started (by kernel_rfl) Try.func3
    (ChangeSpec.witness6 (enc := enc) (C := Try.checked) false ⟨#[], #[.agg #[.bool false, .string .empty, .string .empty, .int .i64 0, .slice none 0 0], .string .empty, .int .i64 0], []⟩ 8 (by kernel_rfl) (by kernel_rfl) (by kernel_rfl) (by kernel_rfl)) ?_
  intro W base args ds gs before hval0 hW _ hsz0 _
  have hsz : (DataW.weightsEach Try.prog (Try.f3.params.toList ++ Rows.pageAsksSpec.plain.varTypes Try.prog) (ds ++ gs)).all (· ≤ reachBytes) = true := hsz0
  clear hsz0
  have hval : ∀ (j : Nat) t v, Try.f3.params[j]? = some t → args[j]? = some v → Value.okWide Try.prog W .any base t v := hval0
  have hW' := hW
  obtain ⟨p, q, hA0, hV, rfl, hfz, hnd⟩ := hW
  have hA : DataW.TrodAll enc Try.prog W 0 (fun _ => true) true Try.f3.params.toList args.toList ds p := hA0
  rw [Try.params3] at hA hval hsz
  obtain ⟨v0, vs0, d0, ds0, p0, q0, hargs, rfl, rfl, h0, r0⟩ := trodAll_cons hA
  obtain ⟨v1, vs1, d1, ds1, p1, q1, rfl, rfl, rfl, h1, r1⟩ := trodAll_cons r0
  obtain ⟨v2, vs2, d2, ds2, p2, q2, rfl, rfl, rfl, h2, r2⟩ := trodAll_cons r1
  obtain ⟨rfl, rfl, rfl⟩ := trodAll_nil r2
  obtain rfl : args = #[v0, v1, v2] := by cases args; simp_all
  obtain ⟨rfl, rfl⟩ := trodVars_none hV
  have k0 := h0
  have lt0 : ∀ x ∈ p0, x.block < W.heap.size := by obtain ⟨m, hm⟩ := k0; exact DataW.trod_lt m _ _ _ hm
  obtain ⟨b0, lo0, hi0, r0', a0, len0, cap0, l0, e0, w0⟩ : ∃ leaf lo hi r a len cap l, v0 = .agg #[.bool leaf, .string lo, .string hi, .int .i64 r, .slice a len cap] ∧ InE 3518437208780 W a len cap l := by
    obtain ⟨cs, hcs, _⟩ := okWide_struct Try.underlying24 (hval 0 24 v0 rfl rfl)
    obtain ⟨fuel, hf⟩ := h0
    obtain ⟨b, lo, hi, r, a, len, cap, l, hg, ho⟩ := in_page (M := 3518437208780) hf (page_said (x := (d0, p0)) (Nat.le_refl _) (fun n hn => by
      have := of_decide_eq_true (List.all_eq_true.1 hsz _ (DataW.weights_mem_each (j := 0) (t := 24) rfl rfl n hn))
      simp only [reachBytes] at this
      omega))
    refine ⟨b, lo, hi, r, a, len, cap, l, ?_, ho⟩
    rw [hcs] at hg ⊢
    congr 1
    apply Array.ext'
    simpa [Value.cells] using hg
  subst e0
  obtain ⟨a1, rfl, rfl, rfl, w1⟩ := open_string Try.underlying9 (hval 1 9 v1 rfl rfl) h1
  have s1 : a1.size ≤ 140737488351232 := by
    have := sized_string hsz (j := 1) (t := 9) rfl rfl
    have e : a1.data.toList.length = a1.size := by rw [Array.length_toList]; rfl
    simp only [reachBytes] at this
    omega
  obtain ⟨a2, rfl, rfl, rfl, w2⟩ := open_int Try.underlying3 (hval 2 3 v2 rfl rfl) h2
  clear hA0 hval0
  refine (walk_pageAsks b0 lo0 hi0 r0' a0 len0 cap0 l0 a1 a2 W w0 s1 w2).mono fun e W' ⟨he, bel⟩ => ?_
  subst he
  exact ⟨_, rfl, _, _, _, [], _, [], hW', trodAll_mk1 (shut_bool Try.underlying4 _), (trodAll_cons_mk (Below.trod laidOut (by kernel_rfl) (of_decide_eq_true (by kernel_rfl)) k0 bel lt0) (trodAll_cons_mk (shut_string Try.underlying9 w1) (trodAll_cons_mk (shut_int Try.underlying3 w2) trodAll_mk0))), rfl, bel.frame _, fun h => by cases h⟩

/-- The statement. -/
theorem pageAsks_holds : Rows.PageAsksSaid :=
  OpenClaim.holds_of_wide 3 Try.f3 rfl rfl rfl rfl rfl rfl rfl ⟨rfl, rfl, rfl, rfl, rfl⟩ rfl rfl rfl rfl rfl (by kernel_rfl) Try.func3 (by kernel_rfl)
    (of_decide_eq_true (by kernel_rfl)) (by unfold Func.isWrapper; first | (rw [if_pos (by decide +kernel)]; kernel_rfl) | (rw [if_neg (by decide +kernel)]; exact ⟨rfl, rfl⟩))
    (fun os started H enc _ => lifted_pageAsks os started H enc)
#print axioms pageAsks_holds
end Go.Proofs.Ytakibndjmhadnaa
