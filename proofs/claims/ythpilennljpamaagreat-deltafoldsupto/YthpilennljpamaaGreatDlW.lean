/- What the page by the deltas says of a key (looked): the parts. -/
import Derived.Test.YthpilennljpamaaGreatDlK
namespace Go.Proofs.YthpilennljpamaaGreat
open Go.RowKit Go.Sort
set_option linter.unusedVariables false
set_option maxRecDepth 100000

/-- A spot. -/
structure Sp where
  e : En
  f : Bool
  g : Int

abbrev spv (e : En) (f : Bool) (g : Int) : Value := .agg #[.string e.key, .int .i64 e.s, .int .i64 e.g, .int .i64 e.c, .bool f, .int .i64 g]
abbrev Sp.zero : Sp := ⟨En.zero, false, 0⟩
theorem sp_agg (w : World) : (isAgg 44).run Tryz.prog w = .ok true w := by kernel_rfl
theorem sp_size (w : World) : (sizeOf 44).run Tryz.prog w = .ok 6 w := by kernel_rfl

/-- Six cells of a block written. -/
abbrev put6 (w : World) (R : Nat) (a b c d e f : Value) : World := (((((w.setCell ⟨R, 0, none⟩ a).setCell ⟨R, 1, none⟩ b).setCell ⟨R, 2, none⟩ c).setCell ⟨R, 3, none⟩ d).setCell ⟨R, 4, none⟩ e).setCell ⟨R, 5, none⟩ f
theorem Bk.six {w : World} {R : Nat} {T : TypeId} {x0 x1 x2 x3 x4 x5 : Value} (h : Bk w R T #[x0, x1, x2, x3, x4, x5]) (a b c d e f : Value) : Bk (put6 w R a b c d e f) R T #[a, b, c, d, e, f] := by
  have := (((((h.set 0 a).set 1 b).set 2 c).set 3 d).set 4 e).set 5 f
  simpa using this
theorem Bk.sixO {w : World} {R k : Nat} {T : TypeId} {cs : Array Value} (h : Bk w k T cs) (hne : k ≠ R) (a b c d e f : Value) : Bk (put6 w R a b c d e f) k T cs :=
  (((((h.other (p := ⟨R, 0, none⟩) hne a).other (p := ⟨R, 1, none⟩) hne b).other (p := ⟨R, 2, none⟩) hne c).other (p := ⟨R, 3, none⟩) hne d).other (p := ⟨R, 4, none⟩) hne e).other (p := ⟨R, 5, none⟩) hne f
theorem Tn.six {S : List Nat} {a0 w : World} (h : Tn S a0 w) {R : Nat} (hp : R ∈ S ∨ a0.heap.size ≤ R) (a b c d e f : Value) : Tn S a0 (put6 w R a b c d e f) :=
  (((((h.setCell (p := ⟨R, 0, none⟩) hp a).setCell (p := ⟨R, 1, none⟩) hp b).setCell (p := ⟨R, 2, none⟩) hp c).setCell (p := ⟨R, 3, none⟩) hp d).setCell (p := ⟨R, 4, none⟩) hp e).setCell (p := ⟨R, 5, none⟩) hp f

/-- What is found of a key, in entries in whatever order, as a function. -/
def Pg.fnd (leaf : Bool) (l : List En) (key : ByteArray) : Option En := if leaf then Pg.find true l key else l.reverse.find? fun e => !Ky.lt key e.key

theorem Pg.fnd_is (leaf : Bool) (l : List En) (key : ByteArray) : Pg.Fnd leaf l key (Pg.fnd leaf l key) := by
  refine ⟨fun h => by subst h; rfl, fun h => ?_⟩
  subst h
  unfold Pg.fnd
  simp only [Bool.false_eq_true, if_false]
  cases hf : l.reverse.find? fun e => !Ky.lt key e.key with
  | none =>
    refine .inr ⟨rfl, fun j y hy => ?_⟩
    rw [List.find?_eq_none] at hf
    have := hf y (by simp; exact List.mem_of_getElem? hy)
    simpa using this
  | some x =>
    obtain ⟨hp, us, bs, hl, hn⟩ := List.find?_eq_some_iff_append.1 hf
    have hl2 : l = bs.reverse ++ x :: us.reverse := by
      have := congrArg List.reverse hl
      simpa using this
    refine .inl ⟨bs.length, x, rfl, by rw [hl2]; simp, by simpa using hp, fun j y hj hy => ?_⟩
    rw [hl2, show bs.reverse ++ x :: us.reverse = (bs.reverse ++ [x]) ++ us.reverse by simp, List.getElem?_append_right (by simp; omega)] at hy
    have hm := List.mem_of_getElem? hy
    have := hn y (by simpa using hm)
    simpa using this

/-- What comes of a call that may refuse: a spot, or the panic that tells the error. -/
def DoneS (w : World) (out : Sp × Int) (e : Ending) (w' : World) : Prop :=
  ((out.2 = 0 ∧ e = .returned (spv out.1.e out.1.f out.1.g)) ∨ (out.2 ≠ 0 ∧ e = pan out.2)) ∧ Below w.heap.size w w'

/-- What an inner page says by the entry that was found. -/
def Dl.hitI : Option En → Sp × Int
  | some x => (⟨x, true, x.c⟩, 0)
  | none => (Sp.zero, 73)
/-- What a leaf says by the entry that was found. -/
def Dl.hitL : Option En → Sp × Int
  | some x => (⟨x, true, 0⟩, 0)
  | none => (Sp.zero, 0)

/-- The page to the right. -/
def Dl.beside (g : Pp) (key : ByteArray) : Int × Int := if Ky.lt key g.lo || g.r == 0 then (0, 73) else (g.r, 0)

theorem beside_any (pf : Bool) (plo phi : ByteArray) (pr : Int) (pp : Option Addr) (pn pc : Nat) (key : ByteArray) (w : World) :
    Calls Tryz.prog 64 #[pgv pf plo phi pr pp pn pc, .string key] w fun e w' => ((((Ky.lt key plo || pr == 0) = false) ∧ e = .returned (.int .i64 pr)) ∨ ((Ky.lt key plo || pr == 0) = true ∧ e = pan 73)) ∧ Below w.heap.size w w' := by
  have HB0 : Hid (Below w.heap.size w (w.alloc (.cells (pgc pf plo phi pr pp pn pc) 24))) := (Below.refl _ _).alloc (Nat.le_refl _) _
  cases h1 : Ky.lt key plo with
  | true =>
    have h1' : Op.bytesLess key.toList plo.toList = true := h1
    go_enter Tryz.func64, Tryz.ntmps64
    go_wp2
    refine ⟨rfl, ?_⟩
    exact ⟨.inr ⟨rfl, rfl⟩, HB0.out⟩
  | false =>
    have h1' : Op.bytesLess key.toList plo.toList = false := h1
    by_cases h2 : pr = 0
    · subst h2
      go_enter Tryz.func64, Tryz.ntmps64
      go_wp2
      refine ⟨rfl, ?_⟩
      exact ⟨.inr ⟨rfl, rfl⟩, HB0.out⟩
    · have k2 : (pr == 0) = false := by simp [h2]
      go_enter Tryz.func64, Tryz.ntmps64
      go_wp2
      go_ret
      exact ⟨.inl ⟨by simp [k2], rfl⟩, HB0.out⟩

set_option maxHeartbeats 2000000 in
theorem below_any (pf : Bool) (plo phi : ByteArray) (pr : Int) (pp : Option Addr) (pn pc : Nat) (pl : List En) (key : ByteArray) (w : World) (hlen : pl.length = pn) (hx : Ens w pp pl) (hl : pn ≤ 3518437208780) :
    Calls Tryz.prog 65 #[pgv pf plo phi pr pp pn pc, .string key] w fun e w' => DoneS w (Dl.hitI (Pg.fnd pf pl key)) e w' := by
  obtain ⟨out, HO⟩ : ∃ out : Sp × Int, Hid (Dl.hitI (Pg.fnd pf pl key) = out) := ⟨_, rfl⟩
  rw [HO.out]
  have HX : Hid (Ens w pp pl) := hx
  have HN : Hid (pl.length = pn) := hlen
  clear hx hlen
  obtain ⟨w0, hw0⟩ : ∃ w0, (w.alloc (.cells #[.bool pf, .string plo, .string phi, .int .i64 pr, .slice pp pn pc] 24)).alloc (.cells #[.string ⟨#[]⟩, .int .i64 0, .int .i64 0, .int .i64 0, .bool false, .int .i64 0] 44) = w0 := ⟨_, rfl⟩
  have HB0 : Hid (Below w.heap.size w w0) := by rw [← hw0]; exact ((Below.refl _ _).alloc (Nat.le_refl _) _).alloc (by simp) _
  have HK0 : Hid (Bk w0 w.heap.size 24 #[.bool pf, .string plo, .string phi, .int .i64 pr, .slice pp pn pc]) := by rw [← hw0]; exact (Bk.new _ _ _).alloc _
  have HR0 : Hid (Bk w0 (w.heap.size + 1) 44 #[.string ⟨#[]⟩, .int .i64 0, .int .i64 0, .int .i64 0, .bool false, .int .i64 0]) := by rw [← hw0]; exact Bk.new1 _ _ _ _
  have a0 : w0.cell? ⟨w.heap.size, 0, none⟩ = some (.bool pf) := HK0.out.cell 0
  have a1 : w0.cell? ⟨w.heap.size, 1, none⟩ = some (.string plo) := HK0.out.cell 1
  have a2 : w0.cell? ⟨w.heap.size, 2, none⟩ = some (.string phi) := HK0.out.cell 2
  have a3 : w0.cell? ⟨w.heap.size, 3, none⟩ = some (.int .i64 pr) := HK0.out.cell 3
  have a4 : w0.cell? ⟨w.heap.size, 4, none⟩ = some (.slice pp pn pc) := HK0.out.cell 4
  go_enter Tryz.func65, Tryz.ntmps65
  go_wp2_with fail
  clear hw0
  refine (find_any pf plo phi pr pp pn pc pl key _ HN.out (HX.out.below HB0.out (Nat.le_refl _)) (by omega)).mono ?_
  rintro e w1 ⟨⟨fo, rfl, hfn⟩, hb1⟩
  clear a0 a1 a2 a3 a4
  have HFO : Hid (Pg.fnd pf pl key = fo) := (Pg.fnd_is pf pl key).one hfn
  have HB1 : Hid (Below w.heap.size w w1) := HB0.out.trans (hb1.mono HB0.out.size)
  have HR1 : Hid (Bk w1 (w.heap.size + 1) 44 #[.string ⟨#[]⟩, .int .i64 0, .int .i64 0, .int .i64 0, .bool false, .int .i64 0]) := HR0.out.below hb1 HR0.out.lt
  clear hfn hb1
  cases fo with
  | none =>
    have HF : Hid (out = (Sp.zero, 73)) := by rw [Hid, ← HO.out, HFO.out]; rfl
    have HB2 : Hid (Below w.heap.size w (w1.alloc (.cells #[.string ⟨#[]⟩, .int .i64 0, .int .i64 0, .int .i64 0] 30))) := HB1.out.alloc HB1.out.size _
    unfold fv
    simp only
    go_wp2
    refine ⟨rfl, ?_⟩
    rw [HF.out]
    exact ⟨.inr ⟨by decide, rfl⟩, HB2.out⟩
  | some x =>
    have HF : Hid (out = (⟨x, true, x.c⟩, 0)) := by rw [Hid, ← HO.out, HFO.out]; rfl
    obtain ⟨xk, xs, xg, xc⟩ := x
    unfold fv
    simp only
    obtain ⟨w2, hw2⟩ : ∃ w2, w1.alloc (.cells #[.string xk, .int .i64 xs, .int .i64 xg, .int .i64 xc] 30) = w2 := ⟨_, rfl⟩
    have HB2 : Hid (Below w.heap.size w w2) := by rw [← hw2]; exact HB1.out.alloc HB1.out.size _
    have HR2 : Hid (Bk w2 (w.heap.size + 1) 44 #[.string ⟨#[]⟩, .int .i64 0, .int .i64 0, .int .i64 0, .bool false, .int .i64 0]) := by rw [← hw2]; exact HR1.out.alloc _
    have HE2 : Hid (Bk w2 w1.heap.size 30 #[.string xk, .int .i64 xs, .int .i64 xg, .int .i64 xc]) := by rw [← hw2]; exact Bk.new _ _ _
    have q0 : w2.cell? ⟨w1.heap.size, 0, none⟩ = some (.string xk) := HE2.out.cell 0
    have q1 : w2.cell? ⟨w1.heap.size, 1, none⟩ = some (.int .i64 xs) := HE2.out.cell 1
    have q2 : w2.cell? ⟨w1.heap.size, 2, none⟩ = some (.int .i64 xg) := HE2.out.cell 2
    have q3 : w2.cell? ⟨w1.heap.size, 3, none⟩ = some (.int .i64 xc) := HE2.out.cell 3
    have b0 : w2.cell? ⟨w.heap.size + 1, 0, none⟩ = some (.string ⟨#[]⟩) := HR2.out.cell 0
    have bf0 : w2.frozen? ⟨w.heap.size + 1, 0, none⟩ = false := HR2.out.frozen 0
    have b1 : w2.cell? ⟨w.heap.size + 1, 1, none⟩ = some (.int .i64 0) := HR2.out.cell 1
    have bf1 : w2.frozen? ⟨w.heap.size + 1, 1, none⟩ = false := HR2.out.frozen 1
    have b2 : w2.cell? ⟨w.heap.size + 1, 2, none⟩ = some (.int .i64 0) := HR2.out.cell 2
    have bf2 : w2.frozen? ⟨w.heap.size + 1, 2, none⟩ = false := HR2.out.frozen 2
    have b3 : w2.cell? ⟨w.heap.size + 1, 3, none⟩ = some (.int .i64 0) := HR2.out.cell 3
    have bf3 : w2.frozen? ⟨w.heap.size + 1, 3, none⟩ = false := HR2.out.frozen 3
    have b4 : w2.cell? ⟨w.heap.size + 1, 4, none⟩ = some (.bool false) := HR2.out.cell 4
    have bf4 : w2.frozen? ⟨w.heap.size + 1, 4, none⟩ = false := HR2.out.frozen 4
    have b5 : w2.cell? ⟨w.heap.size + 1, 5, none⟩ = some (.int .i64 0) := HR2.out.cell 5
    have bf5 : w2.frozen? ⟨w.heap.size + 1, 5, none⟩ = false := HR2.out.frozen 5
    go_wp2
    clear q0 q1 q2 q3
    clear b0 bf0 b1 bf1 b2 bf2 b3 bf3 b4 bf4 b5 bf5
    have k1 := HR2.out.six (.string xk) (.int .i64 xs) (.int .i64 xg) (.int .i64 xc) (.bool true) (.int .i64 xc)
    have ht : Tn [w.heap.size + 1] w2 _ := (Tn.refl _ w2).six (R := w.heap.size + 1) (.inl (by simp)) (.string xk) (.int .i64 xs) (.int .i64 xg) (.int .i64 xc) (.bool true) (.int .i64 xc)
    refine bodyPost_ret (results_one (T' := 44) (cs := [.string xk, .int .i64 xs, .int .i64 xg, .int .i64 xc, .bool true, .int .i64 xc]) rfl rfl sp_agg sp_size rfl k1) rfl ?_
    rw [HF.out]
    exact ⟨.inl ⟨rfl, rfl⟩, HB2.out.trans (ht.below HB2.out.size (by simp))⟩

/-- A slice that is written where a slice lies leaves the entries as they lie. -/
theorem Ens.putSlice {w : World} {p : Option Addr} {l : List En} (h : Ens w p l) {R k : Nat} {a : Option Addr} {n c : Nat} (hc : w.cell? ⟨R, k, none⟩ = some (.slice a n c)) (v : Value) : Ens (w.setCell ⟨R, k, none⟩ v) p l := by
  intro hl
  obtain ⟨b, o, rfl, hh⟩ := h hl
  refine ⟨b, o, rfl, fun i g hi => ?_⟩
  obtain ⟨h0, h1, h2, h3⟩ := hh i g hi
  have key : ∀ (t : Nat) (u : Value), w.cell? ⟨b, t, none⟩ = some u → (∀ a n c, u ≠ .slice a n c) → (w.setCell ⟨R, k, none⟩ v).cell? ⟨b, t, none⟩ = some u := fun t u hu hn => by
    rw [World.cell?_setCell_other (h := fun e => by
      rw [e, hu] at hc
      exact hn _ _ _ (Option.some.inj hc))]
    exact hu
  exact ⟨key _ _ h0 (by simp), key _ _ h1 (by simp), key _ _ h2 (by simp), key _ _ h3 (by simp)⟩

/-- The entries among which a key of a leaf is looked for. -/
def Dl.among (g : Pp) (key : ByteArray) (ds : List De) (EL : List En) : List En := if Pg.may g.leaf ⟨g.lo, g.hi⟩ g.r g.l then Dl.say g.l key ds else EL

set_option maxHeartbeats 2000000 in
theorem inLeaf_any (pf : Bool) (plo phi : ByteArray) (pr : Int) (pp : Option Addr) (pn pc : Nat) (pl : List En) (key : ByteArray) (p : Option Addr) (len cap : Nat) (L : List Dm) (EL : List En) (w : World) (hlen : pl.length = pn) (hx : Ens w pp pl) (hl : pn ≤ 3518437208780) (hL : L.length = len) (hll : len ≤ 4398046511104) (hD : Des w p L)
    (hE : Pg.may pf ⟨plo, phi⟩ pr pl = false → ∀ W, Below w.heap.size w W → Calls Tryz.prog 54 #[pgv pf plo phi pr pp pn pc, .slice p len cap] W fun e w' => Led W EL e w') :
    Calls Tryz.prog 66 #[pgv pf plo phi pr pp pn pc, .string key, .slice p len cap] w fun e w' => e = .returned (fv (Pg.find true (Dl.among ⟨pf, plo, phi, pr, pl⟩ key (L.map (·.d)) EL) key)) ∧ Below w.heap.size w w' := by
  obtain ⟨lst, HO⟩ : ∃ lst, Hid (Dl.among ⟨pf, plo, phi, pr, pl⟩ key (L.map (·.d)) EL = lst) := ⟨_, rfl⟩
  rw [HO.out]
  obtain ⟨fo, HFO⟩ : ∃ fo, Hid (Pg.find true lst key = fo) := ⟨_, rfl⟩
  rw [HFO.out]
  have HX : Hid (Ens w pp pl) := hx
  have HN : Hid (pl.length = pn) := hlen
  have HL : Hid (L.length = len) := hL
  have HD : Hid (Des w p L) := hD
  have HE : Hid _ := hE
  clear hx hlen hL hD hE
  obtain ⟨w0, hw0⟩ : ∃ w0, ((w.alloc (.cells #[.bool pf, .string plo, .string phi, .int .i64 pr, .slice pp pn pc] 24)).alloc (.cells #[.string ⟨#[]⟩, .int .i64 0, .int .i64 0, .int .i64 0] 30)).alloc (.cells #[.bool true, .string ⟨#[]⟩, .string ⟨#[]⟩, .int .i64 0, .slice none 0 0] 24) = w0 := ⟨_, rfl⟩
  replace hw0 := hw0.symm
  have HB0 : Hid (Below w.heap.size w w0) := by rw [hw0]; exact (((Below.refl _ _).alloc (Nat.le_refl _) _).alloc (by simp) _).alloc (by simp; omega) _
  have HK0 : Hid (Bk w0 w.heap.size 24 #[.bool pf, .string plo, .string phi, .int .i64 pr, .slice pp pn pc]) := by rw [hw0]; exact ((Bk.new _ _ _).alloc _).alloc _
  have HR0 : Hid (Bk w0 (w.heap.size + 1) 30 #[.string ⟨#[]⟩, .int .i64 0, .int .i64 0, .int .i64 0]) := by rw [hw0]; exact (Bk.new1 _ _ _ _).alloc _
  have HP0 : Hid (Bk w0 (w.heap.size + 1 + 1) 24 #[.bool true, .string ⟨#[]⟩, .string ⟨#[]⟩, .int .i64 0, .slice none 0 0]) := by rw [hw0]; exact Bk.new2 _ _ _ _ _
  go_enter Tryz.func66, Tryz.ntmps66
  go_wp2_with fail
  rw [← hw0]
  clear hw0
  refine (check_any pf plo phi pr pp pn pc pl _ HN.out (HX.out.below HB0.out (Nat.le_refl _)) (by omega)).mono ?_
  have hcont : ∀ (K : Prop), True := fun _ => trivial
  cases hm : Pg.may pf ⟨plo, phi⟩ pr pl with
  | true =>
    have HF : Hid (Dl.say pl key (L.map (·.d)) = lst) := by rw [Hid, ← HO.out]; unfold Dl.among; simp only [hm, if_true]
    simp only [if_true]
    rintro e w1 ⟨rfl, hb1⟩
    have HB1 : Hid (Below w.heap.size w w1) := HB0.out.trans (hb1.mono HB0.out.size)
    have HK1 : Hid (Bk w1 w.heap.size 24 #[.bool pf, .string plo, .string phi, .int .i64 pr, .slice pp pn pc]) := HK0.out.below hb1 HK0.out.lt
    have HR1 : Hid (Bk w1 (w.heap.size + 1) 30 #[.string ⟨#[]⟩, .int .i64 0, .int .i64 0, .int .i64 0]) := HR0.out.below hb1 HR0.out.lt
    have HP1 : Hid (Bk w1 (w.heap.size + 1 + 1) 24 #[.bool true, .string ⟨#[]⟩, .string ⟨#[]⟩, .int .i64 0, .slice none 0 0]) := HP0.out.below hb1 HP0.out.lt
    clear hb1 hm
    have a0 : w1.cell? ⟨w.heap.size, 0, none⟩ = some (.bool pf) := HK1.out.cell 0
    have a1 : w1.cell? ⟨w.heap.size, 1, none⟩ = some (.string plo) := HK1.out.cell 1
    have a2 : w1.cell? ⟨w.heap.size, 2, none⟩ = some (.string phi) := HK1.out.cell 2
    have a3 : w1.cell? ⟨w.heap.size, 3, none⟩ = some (.int .i64 pr) := HK1.out.cell 3
    have a4 : w1.cell? ⟨w.heap.size, 4, none⟩ = some (.slice pp pn pc) := HK1.out.cell 4
    go_wp2_with fail
    refine (saying_any pf plo phi pr pp pn pc pl key p len cap L _ HN.out (HX.out.below HB1.out (Nat.le_refl _)) hl HL.out hll (HD.out.below HB1.out (Nat.le_refl _))).mono ?_
    rw [HF.out]
    rintro e w2 ⟨⟨q, m, c, rfl, hlm, hle, hmr⟩, hb2⟩
    clear a0 a1 a2 a3 a4
    have HB2 : Hid (Below w.heap.size w w2) := HB1.out.trans (hb2.mono HB1.out.size)
    have HR2 : Hid (Bk w2 (w.heap.size + 1) 30 #[.string ⟨#[]⟩, .int .i64 0, .int .i64 0, .int .i64 0]) := HR1.out.below hb2 HR1.out.lt
    have HP2 : Hid (Bk w2 (w.heap.size + 1 + 1) 24 #[.bool true, .string ⟨#[]⟩, .string ⟨#[]⟩, .int .i64 0, .slice none 0 0]) := HP1.out.below hb2 HP1.out.lt
    have HLM : Hid (lst.length = m) := hlm
    have HLE : Hid (Ens w2 q lst) := hle
    clear hb2 hlm hle
    have b0 : w2.cell? ⟨w.heap.size + 1 + 1, 0, none⟩ = some (.bool true) := HP2.out.cell 0
    have bf0 : w2.frozen? ⟨w.heap.size + 1 + 1, 0, none⟩ = false := HP2.out.frozen 0
    have b1 : w2.cell? ⟨w.heap.size + 1 + 1, 1, none⟩ = some (.string ⟨#[]⟩) := HP2.out.cell 1
    have bf1 : w2.frozen? ⟨w.heap.size + 1 + 1, 1, none⟩ = false := HP2.out.frozen 1
    have b2 : w2.cell? ⟨w.heap.size + 1 + 1, 2, none⟩ = some (.string ⟨#[]⟩) := HP2.out.cell 2
    have bf2 : w2.frozen? ⟨w.heap.size + 1 + 1, 2, none⟩ = false := HP2.out.frozen 2
    have b3 : w2.cell? ⟨w.heap.size + 1 + 1, 3, none⟩ = some (.int .i64 0) := HP2.out.cell 3
    have bf3 : w2.frozen? ⟨w.heap.size + 1 + 1, 3, none⟩ = false := HP2.out.frozen 3
    have b4 : w2.cell? ⟨w.heap.size + 1 + 1, 4, none⟩ = some (.slice none 0 0) := HP2.out.cell 4
    have bf4 : w2.frozen? ⟨w.heap.size + 1 + 1, 4, none⟩ = false := HP2.out.frozen 4
    obtain ⟨w3, hw3⟩ : ∃ w3, w2.setCell ⟨w.heap.size + 1 + 1, 4, none⟩ (.slice q m c) = w3 := ⟨_, rfl⟩
    have ht3 : Tn [w.heap.size + 1 + 1] w2 w3 := by rw [← hw3]; exact (Tn.refl _ w2).setCell (.inl (by simp)) _
    have HP3 : Hid (Bk w3 (w.heap.size + 1 + 1) 24 #[.bool true, .string ⟨#[]⟩, .string ⟨#[]⟩, .int .i64 0, .slice q m c]) := by rw [← hw3]; exact HP2.out.set 4 _
    have HR3 : Hid (Bk w3 (w.heap.size + 1) 30 #[.string ⟨#[]⟩, .int .i64 0, .int .i64 0, .int .i64 0]) := HR2.out.tn ht3 (by simp; try omega)
    have HB3 : Hid (Below w.heap.size w w3) := HB2.out.trans (ht3.below HB2.out.size (by simp; omega))
    have HL3 : Hid (Ens w3 q lst) := by rw [← hw3]; exact HLE.out.putSlice b4 _
    have d0 : w3.cell? ⟨w.heap.size + 1 + 1, 0, none⟩ = some (.bool true) := HP3.out.cell 0
    have d1 : w3.cell? ⟨w.heap.size + 1 + 1, 1, none⟩ = some (.string ⟨#[]⟩) := HP3.out.cell 1
    have d2 : w3.cell? ⟨w.heap.size + 1 + 1, 2, none⟩ = some (.string ⟨#[]⟩) := HP3.out.cell 2
    have d3 : w3.cell? ⟨w.heap.size + 1 + 1, 3, none⟩ = some (.int .i64 0) := HP3.out.cell 3
    have d4 : w3.cell? ⟨w.heap.size + 1 + 1, 4, none⟩ = some (.slice q m c) := HP3.out.cell 4
    go_wp2_with fail
    clear hw3
    clear b0 bf0 b1 bf1 b2 bf2 b3 bf3 b4 bf4
    clear d0 d1 d2 d3 d4
    refine (find_any true ⟨#[]⟩ ⟨#[]⟩ 0 q m c lst key _ HLM.out HL3.out (by omega)).mono ?_
    rintro e w4 ⟨⟨fo', rfl, hfn⟩, hb4⟩
    obtain rfl : fo' = fo := (hfn.1 rfl).trans HFO.out
    have HB4 : Hid (Below w.heap.size w w4) := HB3.out.trans (hb4.mono HB3.out.size)
    have HR4 : Hid (Bk w4 (w.heap.size + 1) 30 #[.string ⟨#[]⟩, .int .i64 0, .int .i64 0, .int .i64 0]) := HR3.out.below hb4 HR3.out.lt
    clear hfn hb4
    have b0 : w4.cell? ⟨w.heap.size + 1, 0, none⟩ = some (.string ⟨#[]⟩) := HR4.out.cell 0
    have bf0 : w4.frozen? ⟨w.heap.size + 1, 0, none⟩ = false := HR4.out.frozen 0
    have b1 : w4.cell? ⟨w.heap.size + 1, 1, none⟩ = some (.int .i64 0) := HR4.out.cell 1
    have bf1 : w4.frozen? ⟨w.heap.size + 1, 1, none⟩ = false := HR4.out.frozen 1
    have b2 : w4.cell? ⟨w.heap.size + 1, 2, none⟩ = some (.int .i64 0) := HR4.out.cell 2
    have bf2 : w4.frozen? ⟨w.heap.size + 1, 2, none⟩ = false := HR4.out.frozen 2
    have b3 : w4.cell? ⟨w.heap.size + 1, 3, none⟩ = some (.int .i64 0) := HR4.out.cell 3
    have bf3 : w4.frozen? ⟨w.heap.size + 1, 3, none⟩ = false := HR4.out.frozen 3
    cases fo' with
    | none =>
      unfold fv
      simp only
      go_wp2
      clear b0 bf0 b1 bf1 b2 bf2 b3 bf3
      have k1 := HR4.out.four (.string ⟨#[]⟩) (.int .i64 0) (.int .i64 0) (.int .i64 0)
      have ht : Tn [w.heap.size + 1] w4 _ := (Tn.refl _ w4).four (R := w.heap.size + 1) (.inl (by simp)) (.string ⟨#[]⟩) (.int .i64 0) (.int .i64 0) (.int .i64 0)
      refine bodyPost_ret (results_two (T' := 30) (cs := [.string ⟨#[]⟩, .int .i64 0, .int .i64 0, .int .i64 0]) rfl rfl en_agg en_size rfl k1) rfl ?_
      exact ⟨rfl, HB4.out.trans (ht.below HB4.out.size (by simp))⟩
    | some x =>
      obtain ⟨xk, xs, xg, xc⟩ := x
      unfold fv
      simp only
      go_wp2
      clear b0 bf0 b1 bf1 b2 bf2 b3 bf3
      have k1 := HR4.out.four (.string xk) (.int .i64 xs) (.int .i64 xg) (.int .i64 xc)
      have ht : Tn [w.heap.size + 1] w4 _ := (Tn.refl _ w4).four (R := w.heap.size + 1) (.inl (by simp)) (.string xk) (.int .i64 xs) (.int .i64 xg) (.int .i64 xc)
      refine bodyPost_ret (results_two (T' := 30) (cs := [.string xk, .int .i64 xs, .int .i64 xg, .int .i64 xc]) rfl rfl en_agg en_size rfl k1) rfl ?_
      exact ⟨rfl, HB4.out.trans (ht.below HB4.out.size (by simp))⟩
  | false =>
    have HF : Hid (EL = lst) := by rw [Hid, ← HO.out]; unfold Dl.among; simp only [hm]; rfl
    have hE2 := HE.out hm
    rw [HF.out] at hE2
    have HE2 : Hid _ := hE2
    clear hE2
    simp only [Bool.false_eq_true, if_false]
    rintro e w1 ⟨rfl, hb1⟩
    have HB1 : Hid (Below w.heap.size w w1) := HB0.out.trans (hb1.mono HB0.out.size)
    have HK1 : Hid (Bk w1 w.heap.size 24 #[.bool pf, .string plo, .string phi, .int .i64 pr, .slice pp pn pc]) := HK0.out.below hb1 HK0.out.lt
    have HR1 : Hid (Bk w1 (w.heap.size + 1) 30 #[.string ⟨#[]⟩, .int .i64 0, .int .i64 0, .int .i64 0]) := HR0.out.below hb1 HR0.out.lt
    have HP1 : Hid (Bk w1 (w.heap.size + 1 + 1) 24 #[.bool true, .string ⟨#[]⟩, .string ⟨#[]⟩, .int .i64 0, .slice none 0 0]) := HP0.out.below hb1 HP0.out.lt
    clear hb1 hm
    have a0 : w1.cell? ⟨w.heap.size, 0, none⟩ = some (.bool pf) := HK1.out.cell 0
    have a1 : w1.cell? ⟨w.heap.size, 1, none⟩ = some (.string plo) := HK1.out.cell 1
    have a2 : w1.cell? ⟨w.heap.size, 2, none⟩ = some (.string phi) := HK1.out.cell 2
    have a3 : w1.cell? ⟨w.heap.size, 3, none⟩ = some (.int .i64 pr) := HK1.out.cell 3
    have a4 : w1.cell? ⟨w.heap.size, 4, none⟩ = some (.slice pp pn pc) := HK1.out.cell 4
    go_wp2_with fail
    refine (HE2.out _ HB1.out).mono ?_
    rintro e w2 ⟨⟨q, m, c, rfl, hlm, hle, hmr⟩, hb2⟩
    clear a0 a1 a2 a3 a4
    have HB2 : Hid (Below w.heap.size w w2) := HB1.out.trans (hb2.mono HB1.out.size)
    have HR2 : Hid (Bk w2 (w.heap.size + 1) 30 #[.string ⟨#[]⟩, .int .i64 0, .int .i64 0, .int .i64 0]) := HR1.out.below hb2 HR1.out.lt
    have HP2 : Hid (Bk w2 (w.heap.size + 1 + 1) 24 #[.bool true, .string ⟨#[]⟩, .string ⟨#[]⟩, .int .i64 0, .slice none 0 0]) := HP1.out.below hb2 HP1.out.lt
    have HLM : Hid (lst.length = m) := hlm
    have HLE : Hid (Ens w2 q lst) := hle
    clear hb2 hlm hle
    have b0 : w2.cell? ⟨w.heap.size + 1 + 1, 0, none⟩ = some (.bool true) := HP2.out.cell 0
    have bf0 : w2.frozen? ⟨w.heap.size + 1 + 1, 0, none⟩ = false := HP2.out.frozen 0
    have b1 : w2.cell? ⟨w.heap.size + 1 + 1, 1, none⟩ = some (.string ⟨#[]⟩) := HP2.out.cell 1
    have bf1 : w2.frozen? ⟨w.heap.size + 1 + 1, 1, none⟩ = false := HP2.out.frozen 1
    have b2 : w2.cell? ⟨w.heap.size + 1 + 1, 2, none⟩ = some (.string ⟨#[]⟩) := HP2.out.cell 2
    have bf2 : w2.frozen? ⟨w.heap.size + 1 + 1, 2, none⟩ = false := HP2.out.frozen 2
    have b3 : w2.cell? ⟨w.heap.size + 1 + 1, 3, none⟩ = some (.int .i64 0) := HP2.out.cell 3
    have bf3 : w2.frozen? ⟨w.heap.size + 1 + 1, 3, none⟩ = false := HP2.out.frozen 3
    have b4 : w2.cell? ⟨w.heap.size + 1 + 1, 4, none⟩ = some (.slice none 0 0) := HP2.out.cell 4
    have bf4 : w2.frozen? ⟨w.heap.size + 1 + 1, 4, none⟩ = false := HP2.out.frozen 4
    obtain ⟨w3, hw3⟩ : ∃ w3, w2.setCell ⟨w.heap.size + 1 + 1, 4, none⟩ (.slice q m c) = w3 := ⟨_, rfl⟩
    have ht3 : Tn [w.heap.size + 1 + 1] w2 w3 := by rw [← hw3]; exact (Tn.refl _ w2).setCell (.inl (by simp)) _
    have HP3 : Hid (Bk w3 (w.heap.size + 1 + 1) 24 #[.bool true, .string ⟨#[]⟩, .string ⟨#[]⟩, .int .i64 0, .slice q m c]) := by rw [← hw3]; exact HP2.out.set 4 _
    have HR3 : Hid (Bk w3 (w.heap.size + 1) 30 #[.string ⟨#[]⟩, .int .i64 0, .int .i64 0, .int .i64 0]) := HR2.out.tn ht3 (by simp; try omega)
    have HB3 : Hid (Below w.heap.size w w3) := HB2.out.trans (ht3.below HB2.out.size (by simp; omega))
    have HL3 : Hid (Ens w3 q lst) := by rw [← hw3]; exact HLE.out.putSlice b4 _
    have d0 : w3.cell? ⟨w.heap.size + 1 + 1, 0, none⟩ = some (.bool true) := HP3.out.cell 0
    have d1 : w3.cell? ⟨w.heap.size + 1 + 1, 1, none⟩ = some (.string ⟨#[]⟩) := HP3.out.cell 1
    have d2 : w3.cell? ⟨w.heap.size + 1 + 1, 2, none⟩ = some (.string ⟨#[]⟩) := HP3.out.cell 2
    have d3 : w3.cell? ⟨w.heap.size + 1 + 1, 3, none⟩ = some (.int .i64 0) := HP3.out.cell 3
    have d4 : w3.cell? ⟨w.heap.size + 1 + 1, 4, none⟩ = some (.slice q m c) := HP3.out.cell 4
    go_wp2_with fail
    clear hw3
    clear b0 bf0 b1 bf1 b2 bf2 b3 bf3 b4 bf4
    clear d0 d1 d2 d3 d4
    refine (find_any true ⟨#[]⟩ ⟨#[]⟩ 0 q m c lst key _ HLM.out HL3.out (by omega)).mono ?_
    rintro e w4 ⟨⟨fo', rfl, hfn⟩, hb4⟩
    obtain rfl : fo' = fo := (hfn.1 rfl).trans HFO.out
    have HB4 : Hid (Below w.heap.size w w4) := HB3.out.trans (hb4.mono HB3.out.size)
    have HR4 : Hid (Bk w4 (w.heap.size + 1) 30 #[.string ⟨#[]⟩, .int .i64 0, .int .i64 0, .int .i64 0]) := HR3.out.below hb4 HR3.out.lt
    clear hfn hb4
    have b0 : w4.cell? ⟨w.heap.size + 1, 0, none⟩ = some (.string ⟨#[]⟩) := HR4.out.cell 0
    have bf0 : w4.frozen? ⟨w.heap.size + 1, 0, none⟩ = false := HR4.out.frozen 0
    have b1 : w4.cell? ⟨w.heap.size + 1, 1, none⟩ = some (.int .i64 0) := HR4.out.cell 1
    have bf1 : w4.frozen? ⟨w.heap.size + 1, 1, none⟩ = false := HR4.out.frozen 1
    have b2 : w4.cell? ⟨w.heap.size + 1, 2, none⟩ = some (.int .i64 0) := HR4.out.cell 2
    have bf2 : w4.frozen? ⟨w.heap.size + 1, 2, none⟩ = false := HR4.out.frozen 2
    have b3 : w4.cell? ⟨w.heap.size + 1, 3, none⟩ = some (.int .i64 0) := HR4.out.cell 3
    have bf3 : w4.frozen? ⟨w.heap.size + 1, 3, none⟩ = false := HR4.out.frozen 3
    cases fo' with
    | none =>
      unfold fv
      simp only
      go_wp2
      clear b0 bf0 b1 bf1 b2 bf2 b3 bf3
      have k1 := HR4.out.four (.string ⟨#[]⟩) (.int .i64 0) (.int .i64 0) (.int .i64 0)
      have ht : Tn [w.heap.size + 1] w4 _ := (Tn.refl _ w4).four (R := w.heap.size + 1) (.inl (by simp)) (.string ⟨#[]⟩) (.int .i64 0) (.int .i64 0) (.int .i64 0)
      refine bodyPost_ret (results_two (T' := 30) (cs := [.string ⟨#[]⟩, .int .i64 0, .int .i64 0, .int .i64 0]) rfl rfl en_agg en_size rfl k1) rfl ?_
      exact ⟨rfl, HB4.out.trans (ht.below HB4.out.size (by simp))⟩
    | some x =>
      obtain ⟨xk, xs, xg, xc⟩ := x
      unfold fv
      simp only
      go_wp2
      clear b0 bf0 b1 bf1 b2 bf2 b3 bf3
      have k1 := HR4.out.four (.string xk) (.int .i64 xs) (.int .i64 xg) (.int .i64 xc)
      have ht : Tn [w.heap.size + 1] w4 _ := (Tn.refl _ w4).four (R := w.heap.size + 1) (.inl (by simp)) (.string xk) (.int .i64 xs) (.int .i64 xg) (.int .i64 xc)
      refine bodyPost_ret (results_two (T' := 30) (cs := [.string xk, .int .i64 xs, .int .i64 xg, .int .i64 xc]) rfl rfl en_agg en_size rfl k1) rfl ?_
      exact ⟨rfl, HB4.out.trans (ht.below HB4.out.size (by simp))⟩

end Go.Proofs.YthpilennljpamaaGreat
