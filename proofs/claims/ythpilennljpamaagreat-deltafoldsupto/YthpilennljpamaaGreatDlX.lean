/- What the page by the deltas says of a key (looked). -/
import Derived.Test.YthpilennljpamaaGreatDlW
namespace Go.Proofs.YthpilennljpamaaGreat
open Go.RowKit Go.Sort
set_option linter.unusedVariables false
set_option maxRecDepth 100000

/-- Where a page is that the newest delta says is gone. -/
def Dl.gone : List De → Option Int
  | [] => none
  | d :: _ => if (d.k == 5) && Dl.may d then some d.pg else none

/-- What the folded page says of a key: o is its outline, EL its entries. -/
def Dl.says (g : Pp) (key : ByteArray) (ds : List De) (EL : List En) (o : Pp × Int) : Sp × Int :=
  if o.2 ≠ 0 then (Sp.zero, o.2)
  else if Ky.inn ⟨o.1.lo, o.1.hi⟩ key = false then (if (Ky.lt key o.1.lo || o.1.r == 0) = true then (Sp.zero, 73) else (⟨En.zero, false, o.1.r⟩, 0))
  else if o.1.leaf = false then Dl.hitI (Pg.fnd false EL key)
  else Dl.hitL (Pg.find true (Dl.among g key ds EL) key)

def Dl.look (g : Pp) (key : ByteArray) (ds : List De) (EL : List En) : Sp × Int :=
  match Dl.gone ds with
  | some n => (⟨En.zero, false, n⟩, 0)
  | none => Dl.says g key ds EL (Dl.outl g ds.reverse)

theorem Led.own {w W : World} {l : List En} {e : Ending} {w' : World} (h : Led W l e w') (hb : Below w.heap.size w W) : Led w l e w' := ⟨h.1, hb.trans (h.2.mono hb.size)⟩

/-- The part behind the outline. -/
structure Lk (w W : World) (pf : Bool) (plo phi : ByteArray) (pr : Int) (pp : Option Addr) (pn pc : Nat) : Prop where
  below : Below w.heap.size w W
  b0 : Bk W w.heap.size 24 #[.bool pf, .string plo, .string phi, .int .i64 pr, .slice pp pn pc]
  b1 : Bk W (w.heap.size + 1) 44 #[.string ⟨#[]⟩, .int .i64 0, .int .i64 0, .int .i64 0, .bool false, .int .i64 0]

theorem Lk.on {w W W' : World} {pf : Bool} {plo phi : ByteArray} {pr : Int} {pp : Option Addr} {pn pc : Nat} (h : Lk w W pf plo phi pr pp pn pc) (hb : Below W.heap.size W W') : Lk w W' pf plo phi pr pp pn pc :=
  ⟨h.below.trans (hb.mono h.below.size), h.b0.below hb h.b0.lt, h.b1.below hb h.b1.lt⟩

set_option maxHeartbeats 8000000 in
theorem looked_any (pf : Bool) (plo phi : ByteArray) (pr : Int) (pp : Option Addr) (pn pc : Nat) (pl : List En) (key : ByteArray) (p : Option Addr) (len cap : Nat) (L : List Dm) (EL : List En) (w : World) (hlen : pl.length = pn) (hx : Ens w pp pl) (hl : pn ≤ 3518437208780) (hL : L.length = len) (hll : len ≤ 4398046511104) (hD : Des w p L)
    (hE : (Dl.outl ⟨pf, plo, phi, pr, pl⟩ (L.map (·.d)).reverse).2 = 0 → ((Dl.outl ⟨pf, plo, phi, pr, pl⟩ (L.map (·.d)).reverse).1.leaf = false ∨ Pg.may pf ⟨plo, phi⟩ pr pl = false) → ∀ W, Below w.heap.size w W → Calls Tryz.prog 54 #[pgv pf plo phi pr pp pn pc, .slice p len cap] W fun e w' => Led W EL e w') :
    Calls Tryz.prog 37 #[pgv pf plo phi pr pp pn pc, .string key, .slice p len cap] w fun e w' => DoneS w (Dl.look ⟨pf, plo, phi, pr, pl⟩ key (L.map (·.d)) EL) e w' := by
  obtain ⟨out, HO⟩ : ∃ out, Hid (Dl.look ⟨pf, plo, phi, pr, pl⟩ key (L.map (·.d)) EL = out) := ⟨_, rfl⟩
  rw [HO.out]
  have HX : Hid (Ens w pp pl) := hx
  have HN : Hid (pl.length = pn) := hlen
  have HL : Hid (L.length = len) := hL
  have HD : Hid (Des w p L) := hD
  have HE : Hid _ := hE
  clear hx hlen hL hD hE
  obtain ⟨w0, hw0⟩ : ∃ w0, (w.alloc (.cells #[.bool pf, .string plo, .string phi, .int .i64 pr, .slice pp pn pc] 24)).alloc (.cells #[.string ⟨#[]⟩, .int .i64 0, .int .i64 0, .int .i64 0, .bool false, .int .i64 0] 44) = w0 := ⟨_, rfl⟩
  have HK0 : Hid (Lk w w0 pf plo phi pr pp pn pc) := by rw [← hw0]; exact ⟨((Below.refl _ _).alloc (Nat.le_refl _) _).alloc (by simp) _, (Bk.new _ _ _).alloc _, Bk.new1 _ _ _ _⟩
  -- what is behind the first test, where it is not met
  have HREST : Hid (∀ (W : World) (Q : Exit → Act → World → Prop) (u : Nat → Value) (a : Act), True) := fun _ _ _ _ => trivial
  clear HREST
  go_enter Tryz.func37, Tryz.ntmps37
  have a0 : w0.cell? ⟨w.heap.size, 0, none⟩ = some (.bool pf) := HK0.out.b0.cell 0
  have a1 : w0.cell? ⟨w.heap.size, 1, none⟩ = some (.string plo) := HK0.out.b0.cell 1
  have a2 : w0.cell? ⟨w.heap.size, 2, none⟩ = some (.string phi) := HK0.out.b0.cell 2
  have a3 : w0.cell? ⟨w.heap.size, 3, none⟩ = some (.int .i64 pr) := HK0.out.b0.cell 3
  have a4 : w0.cell? ⟨w.heap.size, 4, none⟩ = some (.slice pp pn pc) := HK0.out.b0.cell 4
  have b0 : w0.cell? ⟨w.heap.size + 1, 0, none⟩ = some (.string ⟨#[]⟩) := HK0.out.b1.cell 0
  have bf0 : w0.frozen? ⟨w.heap.size + 1, 0, none⟩ = false := HK0.out.b1.frozen 0
  have b1 : w0.cell? ⟨w.heap.size + 1, 1, none⟩ = some (.int .i64 0) := HK0.out.b1.cell 1
  have bf1 : w0.frozen? ⟨w.heap.size + 1, 1, none⟩ = false := HK0.out.b1.frozen 1
  have b2 : w0.cell? ⟨w.heap.size + 1, 2, none⟩ = some (.int .i64 0) := HK0.out.b1.cell 2
  have bf2 : w0.frozen? ⟨w.heap.size + 1, 2, none⟩ = false := HK0.out.b1.frozen 2
  have b3 : w0.cell? ⟨w.heap.size + 1, 3, none⟩ = some (.int .i64 0) := HK0.out.b1.cell 3
  have bf3 : w0.frozen? ⟨w.heap.size + 1, 3, none⟩ = false := HK0.out.b1.frozen 3
  have b4 : w0.cell? ⟨w.heap.size + 1, 4, none⟩ = some (.bool false) := HK0.out.b1.cell 4
  have bf4 : w0.frozen? ⟨w.heap.size + 1, 4, none⟩ = false := HK0.out.b1.frozen 4
  have b5 : w0.cell? ⟨w.heap.size + 1, 5, none⟩ = some (.int .i64 0) := HK0.out.b1.cell 5
  have bf5 : w0.frozen? ⟨w.heap.size + 1, 5, none⟩ = false := HK0.out.b1.frozen 5
  cases hg : Dl.gone (L.map (·.d)) with
  | some n =>
    have HF : Hid (out = (⟨En.zero, false, n⟩, 0)) := by rw [Hid, ← HO.out]; unfold Dl.look; rw [hg]
    clear HO HE
    cases L with
    | nil => simp [Dl.gone] at hg
    | cons m r =>
      obtain ⟨b, o, rfl, hc⟩ := HD.out.below HK0.out.below (Nat.le_refl _) (by simp)
      obtain ⟨hcx, hOk⟩ := hc 0 m rfl
      simp only [List.map_cons, Dl.gone] at hg
      cases h5 : ((m.d.k == 5) && Dl.may m.d) with
      | false => rw [h5] at hg; simp at hg
      | true =>
        rw [h5] at hg
        simp only [if_true, Option.some.injEq] at hg
        rw [Bool.and_eq_true] at h5
        obtain ⟨h5, hmay⟩ := h5
        have h5' : m.d.k = 5 := by simpa using h5
        obtain ⟨⟨dk, ⟨dek, des, deg, dec⟩, dkey, dpg, ⟨dleaf, dlo, dhi, dr, dl⟩⟩, dp, dn, dc⟩ := m
        simp only at h5' hg
        subst h5' hg
        have hlen1 : (0 : Int) < (len : Int) := by have := HL.out; simp at this; omega
        have hlen2 : decide ((len : Int) > 0) = true := decide_eq_true hlen1
        have hlen3 : 0 < len := by omega
        have z0 := hcx 0 _ rfl
        have z1 := hcx 1 _ rfl
        have z2 := hcx 2 _ rfl
        have z3 := hcx 3 _ rfl
        have z4 := hcx 4 _ rfl
        have z5 := hcx 5 _ rfl
        have z6 := hcx 6 _ rfl
        have z7 := hcx 7 _ rfl
        have z8 := hcx 8 _ rfl
        have z9 := hcx 9 _ rfl
        have z10 := hcx 10 _ rfl
        have z11 := hcx 11 _ rfl
        simp only [Nat.zero_mul, Nat.add_zero] at z0 z1 z2 z3 z4 z5 z6 z7 z8 z9 z10 z11
        have HOK : Hid (Dm.Ok w0 ⟨⟨5, ⟨dek, des, deg, dec⟩, dkey, dpg, ⟨dleaf, dlo, dhi, dr, dl⟩⟩, dp, dn, dc⟩) := hOk
        have HM : Hid (Dl.may ⟨5, ⟨dek, des, deg, dec⟩, dkey, dpg, ⟨dleaf, dlo, dhi, dr, dl⟩⟩ = true) := hmay
        clear hcx hc hOk hmay
        have hz0 : w0.cell? ⟨b, o, none⟩ = some (.int .i64 5) := z0
        go_wp2_with fail
        refine (dcheck_any ⟨5, ⟨dek, des, deg, dec⟩, dkey, dpg, ⟨dleaf, dlo, dhi, dr, dl⟩⟩ dp dn dc _ HOK.out.len HOK.out.ens (by have := HOK.out.room; simp only at this; omega)).mono ?_
        rw [HM.out]
        rintro e w1 ⟨rfl, hb1⟩
        have HK1 : Hid (Lk w w1 pf plo phi pr pp pn pc) := HK0.out.on hb1
        have hz6 : w1.cell? ⟨b, o + 6, none⟩ = some (.int .i64 dpg) := by rw [hb1.cell (World.block_lt_of_cell? w0 _ z6)]; exact z6
        clear a0 a1 a2 a3 a4
        clear b0 bf0 b1 bf1 b2 bf2 b3 bf3 b4 bf4 b5 bf5
        clear hb1 hz0 z0 z1 z2 z3 z4 z5 z6 z7 z8 z9 z10 z11 hw0
        simp only [if_true]
        have b0 : w1.cell? ⟨w.heap.size + 1, 0, none⟩ = some (.string ⟨#[]⟩) := HK1.out.b1.cell 0
        have bf0 : w1.frozen? ⟨w.heap.size + 1, 0, none⟩ = false := HK1.out.b1.frozen 0
        have b1 : w1.cell? ⟨w.heap.size + 1, 1, none⟩ = some (.int .i64 0) := HK1.out.b1.cell 1
        have bf1 : w1.frozen? ⟨w.heap.size + 1, 1, none⟩ = false := HK1.out.b1.frozen 1
        have b2 : w1.cell? ⟨w.heap.size + 1, 2, none⟩ = some (.int .i64 0) := HK1.out.b1.cell 2
        have bf2 : w1.frozen? ⟨w.heap.size + 1, 2, none⟩ = false := HK1.out.b1.frozen 2
        have b3 : w1.cell? ⟨w.heap.size + 1, 3, none⟩ = some (.int .i64 0) := HK1.out.b1.cell 3
        have bf3 : w1.frozen? ⟨w.heap.size + 1, 3, none⟩ = false := HK1.out.b1.frozen 3
        have b4 : w1.cell? ⟨w.heap.size + 1, 4, none⟩ = some (.bool false) := HK1.out.b1.cell 4
        have bf4 : w1.frozen? ⟨w.heap.size + 1, 4, none⟩ = false := HK1.out.b1.frozen 4
        have b5 : w1.cell? ⟨w.heap.size + 1, 5, none⟩ = some (.int .i64 0) := HK1.out.b1.cell 5
        have bf5 : w1.frozen? ⟨w.heap.size + 1, 5, none⟩ = false := HK1.out.b1.frozen 5
        go_wp2
        clear b0 bf0 b1 bf1 b2 bf2 b3 bf3 b4 bf4 b5 bf5
        have k1 := HK1.out.b1.six (.string ⟨#[]⟩) (.int .i64 0) (.int .i64 0) (.int .i64 0) (.bool false) (.int .i64 dpg)
        have ht : Tn [w.heap.size + 1] w1 _ := (Tn.refl _ w1).six (R := w.heap.size + 1) (.inl (by simp)) (.string ⟨#[]⟩) (.int .i64 0) (.int .i64 0) (.int .i64 0) (.bool false) (.int .i64 dpg)
        refine bodyPost_ret (results_one (T' := 44) (cs := [.string ⟨#[]⟩, .int .i64 0, .int .i64 0, .int .i64 0, .bool false, .int .i64 dpg]) rfl rfl sp_agg sp_size rfl k1) rfl ?_
        rw [HF.out]
        exact ⟨.inl ⟨rfl, rfl⟩, HK1.out.below.trans (ht.below HK1.out.below.size (by simp))⟩
  | none =>
    have HSAY : Hid (Dl.says ⟨pf, plo, phi, pr, pl⟩ key (L.map (·.d)) EL (Dl.outl ⟨pf, plo, phi, pr, pl⟩ (L.map (·.d)).reverse) = out) := by rw [Hid, ← HO.out]; unfold Dl.look; rw [hg]
    clear HO
    by_cases hz : len = 0
    · have hlen1 : ¬ (len : Int) > 0 := by omega
      have hlen2 : decide ((len : Int) > 0) = false := decide_eq_false hlen1
      have hlen3 : decide ((0 : Int) < (len : Int)) = false := decide_eq_false (by omega)
      have hlen4 : ¬ 0 < len := by omega
      have HZ : Hid (len = 0) := hz
      clear hz
      go_wp2_with fail
      clear hw0
      clear a0 a1 a2 a3 a4
      clear b0 bf0 b1 bf1 b2 bf2 b3 bf3 b4 bf4 b5 bf5
      refine (outline_any ⟨pf, plo, phi, pr, pl⟩ pp pn pc p len cap L _ HL.out hll (HD.out.below HK0.out.below (Nat.le_refl _))).mono ?_
      have HS : Hid (Dl.says ⟨pf, plo, phi, pr, pl⟩ key (L.map (·.d)) EL (Dl.outl ⟨pf, plo, phi, pr, pl⟩ (L.map (·.d)).reverse) = out) := HSAY.out
      have HE1 : Hid _ := HE.out
      obtain ⟨⟨⟨qf, qlo, qhi, qr, ql⟩, kk⟩, hO⟩ : ∃ o, Dl.outl ⟨pf, plo, phi, pr, pl⟩ (L.map (·.d)).reverse = o := ⟨_, rfl⟩
      rw [hO] at HS HE1
      rw [hO]
      rintro e w2 ⟨hd, hb2⟩
      have HK2 : Hid (Lk w w2 pf plo phi pr pp pn pc) := HK0.out.on hb2
      clear hb2 hO
      simp only at hd
      rcases hd with ⟨h0, rfl⟩ | ⟨h0, rfl⟩
      · subst h0
        obtain ⟨w3, hw3⟩ : ∃ w3, w3 = w2.alloc (.cells #[.bool qf, .string qlo, .string qhi, .int .i64 qr, .slice none 0 0] 24) := ⟨_, rfl⟩
        have HK3 : Hid (Lk w w3 pf plo phi pr pp pn pc) := by rw [hw3]; exact HK2.out.on ((Below.refl _ _).alloc (Nat.le_refl _) _)
        have HP3 : Hid (Bk w3 w2.heap.size 24 #[.bool qf, .string qlo, .string qhi, .int .i64 qr, .slice none 0 0]) := by rw [hw3]; exact Bk.new _ _ _
        have HPW : Hid (w.heap.size + 1 < w2.heap.size) := HK2.out.b1.lt
        go_wp2_with fail
        rw [← hw3]
        clear hw3
        refine (has_any qf qlo qhi qr none 0 0 _ key).mono ?_
        cases hin : Ky.inn ⟨qlo, qhi⟩ key with
        | false =>
          have HS2 : Hid ((if (Ky.lt key qlo || qr == 0) = true then (Sp.zero, 73) else (⟨En.zero, false, qr⟩, 0)) = out) := by rw [Hid, ← HS.out]; unfold Dl.says; simp only [hin]; rfl
          rintro e w4 ⟨rfl, hb4⟩
          have HK4 : Hid (Lk w w4 pf plo phi pr pp pn pc) := HK3.out.on hb4
          have HP4 : Hid (Bk w4 w2.heap.size 24 #[.bool qf, .string qlo, .string qhi, .int .i64 qr, .slice none 0 0]) := HP3.out.below hb4 HP3.out.lt
          clear hb4 hin
          have q0 : w4.cell? ⟨w2.heap.size, 0, none⟩ = some (.bool qf) := HP4.out.cell 0
          have q1 : w4.cell? ⟨w2.heap.size, 1, none⟩ = some (.string qlo) := HP4.out.cell 1
          have q2 : w4.cell? ⟨w2.heap.size, 2, none⟩ = some (.string qhi) := HP4.out.cell 2
          have q3 : w4.cell? ⟨w2.heap.size, 3, none⟩ = some (.int .i64 qr) := HP4.out.cell 3
          have q4 : w4.cell? ⟨w2.heap.size, 4, none⟩ = some (.slice none 0 0) := HP4.out.cell 4
          go_wp2_with fail
          clear q0 q1 q2 q3 q4
          refine (beside_any qf qlo qhi qr none 0 0 key _).mono ?_
          rintro e w5 ⟨hbs, hb5⟩
          have HK5 : Hid (Lk w w5 pf plo phi pr pp pn pc) := HK4.out.on hb5
          clear hb5
          rcases hbs with ⟨hc, rfl⟩ | ⟨hc, rfl⟩
          · have HF : Hid (out = (⟨En.zero, false, qr⟩, 0)) := by rw [Hid, ← HS2.out, hc]; rfl
            clear hc
            have b0 : w5.cell? ⟨w.heap.size + 1, 0, none⟩ = some (.string ⟨#[]⟩) := HK5.out.b1.cell 0
            have bf0 : w5.frozen? ⟨w.heap.size + 1, 0, none⟩ = false := HK5.out.b1.frozen 0
            have b1 : w5.cell? ⟨w.heap.size + 1, 1, none⟩ = some (.int .i64 0) := HK5.out.b1.cell 1
            have bf1 : w5.frozen? ⟨w.heap.size + 1, 1, none⟩ = false := HK5.out.b1.frozen 1
            have b2 : w5.cell? ⟨w.heap.size + 1, 2, none⟩ = some (.int .i64 0) := HK5.out.b1.cell 2
            have bf2 : w5.frozen? ⟨w.heap.size + 1, 2, none⟩ = false := HK5.out.b1.frozen 2
            have b3 : w5.cell? ⟨w.heap.size + 1, 3, none⟩ = some (.int .i64 0) := HK5.out.b1.cell 3
            have bf3 : w5.frozen? ⟨w.heap.size + 1, 3, none⟩ = false := HK5.out.b1.frozen 3
            have b4 : w5.cell? ⟨w.heap.size + 1, 4, none⟩ = some (.bool false) := HK5.out.b1.cell 4
            have bf4 : w5.frozen? ⟨w.heap.size + 1, 4, none⟩ = false := HK5.out.b1.frozen 4
            have b5 : w5.cell? ⟨w.heap.size + 1, 5, none⟩ = some (.int .i64 0) := HK5.out.b1.cell 5
            have bf5 : w5.frozen? ⟨w.heap.size + 1, 5, none⟩ = false := HK5.out.b1.frozen 5
            go_wp2
            clear b0 bf0 b1 bf1 b2 bf2 b3 bf3 b4 bf4 b5 bf5
            have k1 := HK5.out.b1.six (.string ⟨#[]⟩) (.int .i64 0) (.int .i64 0) (.int .i64 0) (.bool false) (.int .i64 qr)
            have ht : Tn [w.heap.size + 1] w5 _ := (Tn.refl _ w5).six (R := w.heap.size + 1) (.inl (by simp)) (.string ⟨#[]⟩) (.int .i64 0) (.int .i64 0) (.int .i64 0) (.bool false) (.int .i64 qr)
            refine bodyPost_ret (results_one (T' := 44) (cs := [.string ⟨#[]⟩, .int .i64 0, .int .i64 0, .int .i64 0, .bool false, .int .i64 qr]) rfl rfl sp_agg sp_size rfl k1) rfl ?_
            rw [HF.out]
            exact ⟨.inl ⟨rfl, rfl⟩, HK5.out.below.trans (ht.below HK5.out.below.size (by simp))⟩
          · have HF : Hid (out = (Sp.zero, 73)) := by rw [Hid, ← HS2.out, hc]; rfl
            refine ⟨rfl, ?_⟩
            rw [HF.out]
            exact ⟨.inr ⟨by decide, rfl⟩, HK5.out.below⟩
        | true =>
          rintro e w4 ⟨rfl, hb4⟩
          have HK4 : Hid (Lk w w4 pf plo phi pr pp pn pc) := HK3.out.on hb4
          have HP4 : Hid (Bk w4 w2.heap.size 24 #[.bool qf, .string qlo, .string qhi, .int .i64 qr, .slice none 0 0]) := HP3.out.below hb4 HP3.out.lt
          clear hb4
          have q0 : w4.cell? ⟨w2.heap.size, 0, none⟩ = some (.bool qf) := HP4.out.cell 0
          have qf0 : w4.frozen? ⟨w2.heap.size, 0, none⟩ = false := HP4.out.frozen 0
          have q1 : w4.cell? ⟨w2.heap.size, 1, none⟩ = some (.string qlo) := HP4.out.cell 1
          have qf1 : w4.frozen? ⟨w2.heap.size, 1, none⟩ = false := HP4.out.frozen 1
          have q2 : w4.cell? ⟨w2.heap.size, 2, none⟩ = some (.string qhi) := HP4.out.cell 2
          have qf2 : w4.frozen? ⟨w2.heap.size, 2, none⟩ = false := HP4.out.frozen 2
          have q3 : w4.cell? ⟨w2.heap.size, 3, none⟩ = some (.int .i64 qr) := HP4.out.cell 3
          have qf3 : w4.frozen? ⟨w2.heap.size, 3, none⟩ = false := HP4.out.frozen 3
          have q4 : w4.cell? ⟨w2.heap.size, 4, none⟩ = some (.slice none 0 0) := HP4.out.cell 4
          have qf4 : w4.frozen? ⟨w2.heap.size, 4, none⟩ = false := HP4.out.frozen 4
          have a0 : w4.cell? ⟨w.heap.size, 0, none⟩ = some (.bool pf) := HK4.out.b0.cell 0
          have a1 : w4.cell? ⟨w.heap.size, 1, none⟩ = some (.string plo) := HK4.out.b0.cell 1
          have a2 : w4.cell? ⟨w.heap.size, 2, none⟩ = some (.string phi) := HK4.out.b0.cell 2
          have a3 : w4.cell? ⟨w.heap.size, 3, none⟩ = some (.int .i64 pr) := HK4.out.b0.cell 3
          have a4 : w4.cell? ⟨w.heap.size, 4, none⟩ = some (.slice pp pn pc) := HK4.out.b0.cell 4
          cases qf with
          | false =>
            have HS2 : Hid (Dl.hitI (Pg.fnd false EL key) = out) := by rw [Hid, ← HS.out]; unfold Dl.says; simp only [hin]; rfl
            have HE2 : Hid _ := HE1.out (by simp) (by simp)
            go_wp2_with fail
            refine Calls.mono (HE2.out _ HK4.out.below) ?_
            rintro e w5 ⟨⟨q, m, c, rfl, hlm, hle, hmr⟩, hb5⟩
            have HK5 : Hid (Lk w w5 pf plo phi pr pp pn pc) := HK4.out.on hb5
            have HP5 : Hid (Bk w5 w2.heap.size 24 #[.bool false, .string qlo, .string qhi, .int .i64 qr, .slice none 0 0]) := HP4.out.below hb5 HP4.out.lt
            have HLM : Hid (EL.length = m) := hlm
            have HLE : Hid (Ens w5 q EL) := hle
            clear hb5 hlm hle
            clear q0 qf0 q1 qf1 q2 qf2 q3 qf3 q4 qf4
            clear a0 a1 a2 a3 a4
            have q0 : w5.cell? ⟨w2.heap.size, 0, none⟩ = some (.bool false) := HP5.out.cell 0
            have qf0 : w5.frozen? ⟨w2.heap.size, 0, none⟩ = false := HP5.out.frozen 0
            have q1 : w5.cell? ⟨w2.heap.size, 1, none⟩ = some (.string qlo) := HP5.out.cell 1
            have qf1 : w5.frozen? ⟨w2.heap.size, 1, none⟩ = false := HP5.out.frozen 1
            have q2 : w5.cell? ⟨w2.heap.size, 2, none⟩ = some (.string qhi) := HP5.out.cell 2
            have qf2 : w5.frozen? ⟨w2.heap.size, 2, none⟩ = false := HP5.out.frozen 2
            have q3 : w5.cell? ⟨w2.heap.size, 3, none⟩ = some (.int .i64 qr) := HP5.out.cell 3
            have qf3 : w5.frozen? ⟨w2.heap.size, 3, none⟩ = false := HP5.out.frozen 3
            have q4 : w5.cell? ⟨w2.heap.size, 4, none⟩ = some (.slice none 0 0) := HP5.out.cell 4
            have qf4 : w5.frozen? ⟨w2.heap.size, 4, none⟩ = false := HP5.out.frozen 4
            obtain ⟨w6, hw6⟩ : ∃ w6, w5.setCell ⟨w2.heap.size, 4, none⟩ (.slice q m c) = w6 := ⟨_, rfl⟩
            have ht6 : Tn [w2.heap.size] w5 w6 := by rw [← hw6]; exact (Tn.refl _ w5).setCell (.inl (by simp)) _
            have HP6 : Hid (Bk w6 w2.heap.size 24 #[.bool false, .string qlo, .string qhi, .int .i64 qr, .slice q m c]) := by rw [← hw6]; exact HP5.out.set 4 _
            have HK6 : Hid (Lk w w6 pf plo phi pr pp pn pc) := ⟨HK5.out.below.trans (ht6.below HK5.out.below.size (by have := HPW.out; simp; omega)), HK5.out.b0.tn ht6 (by have := HPW.out; simp; omega), HK5.out.b1.tn ht6 (by have := HPW.out; simp; omega)⟩
            have HL6 : Hid (Ens w6 q EL) := by rw [← hw6]; exact HLE.out.putSlice q4 _
            have y0 : w6.cell? ⟨w2.heap.size, 0, none⟩ = some (.bool false) := HP6.out.cell 0
            have y1 : w6.cell? ⟨w2.heap.size, 1, none⟩ = some (.string qlo) := HP6.out.cell 1
            have y2 : w6.cell? ⟨w2.heap.size, 2, none⟩ = some (.string qhi) := HP6.out.cell 2
            have y3 : w6.cell? ⟨w2.heap.size, 3, none⟩ = some (.int .i64 qr) := HP6.out.cell 3
            have y4 : w6.cell? ⟨w2.heap.size, 4, none⟩ = some (.slice q m c) := HP6.out.cell 4
            go_wp2_with fail
            clear hw6 ht6
            clear q0 qf0 q1 qf1 q2 qf2 q3 qf3 q4 qf4
            clear y0 y1 y2 y3 y4
            refine (below_any false qlo qhi qr q m c EL key _ HLM.out HL6.out hmr).mono ?_
            rw [HS2.out]
            rintro e w7 ⟨hd7, hb7⟩
            have HK7 : Hid (Lk w w7 pf plo phi pr pp pn pc) := HK6.out.on hb7
            clear hb7
            rcases hd7 with ⟨h0, rfl⟩ | ⟨h0, rfl⟩
            · obtain ⟨⟨⟨xk, xs, xg, xc⟩, xf, xgo⟩, kk⟩ := out
              simp only at h0
              subst h0
              have b0 : w7.cell? ⟨w.heap.size + 1, 0, none⟩ = some (.string ⟨#[]⟩) := HK7.out.b1.cell 0
              have bf0 : w7.frozen? ⟨w.heap.size + 1, 0, none⟩ = false := HK7.out.b1.frozen 0
              have b1 : w7.cell? ⟨w.heap.size + 1, 1, none⟩ = some (.int .i64 0) := HK7.out.b1.cell 1
              have bf1 : w7.frozen? ⟨w.heap.size + 1, 1, none⟩ = false := HK7.out.b1.frozen 1
              have b2 : w7.cell? ⟨w.heap.size + 1, 2, none⟩ = some (.int .i64 0) := HK7.out.b1.cell 2
              have bf2 : w7.frozen? ⟨w.heap.size + 1, 2, none⟩ = false := HK7.out.b1.frozen 2
              have b3 : w7.cell? ⟨w.heap.size + 1, 3, none⟩ = some (.int .i64 0) := HK7.out.b1.cell 3
              have bf3 : w7.frozen? ⟨w.heap.size + 1, 3, none⟩ = false := HK7.out.b1.frozen 3
              have b4 : w7.cell? ⟨w.heap.size + 1, 4, none⟩ = some (.bool false) := HK7.out.b1.cell 4
              have bf4 : w7.frozen? ⟨w.heap.size + 1, 4, none⟩ = false := HK7.out.b1.frozen 4
              have b5 : w7.cell? ⟨w.heap.size + 1, 5, none⟩ = some (.int .i64 0) := HK7.out.b1.cell 5
              have bf5 : w7.frozen? ⟨w.heap.size + 1, 5, none⟩ = false := HK7.out.b1.frozen 5
              go_wp2
              clear b0 bf0 b1 bf1 b2 bf2 b3 bf3 b4 bf4 b5 bf5
              have k1 := HK7.out.b1.six (.string xk) (.int .i64 xs) (.int .i64 xg) (.int .i64 xc) (.bool xf) (.int .i64 xgo)
              have ht : Tn [w.heap.size + 1] w7 _ := (Tn.refl _ w7).six (R := w.heap.size + 1) (.inl (by simp)) (.string xk) (.int .i64 xs) (.int .i64 xg) (.int .i64 xc) (.bool xf) (.int .i64 xgo)
              refine bodyPost_ret (results_one (T' := 44) (cs := [.string xk, .int .i64 xs, .int .i64 xg, .int .i64 xc, .bool xf, .int .i64 xgo]) rfl rfl sp_agg sp_size rfl k1) rfl ?_
              skip
              exact ⟨.inl ⟨rfl, rfl⟩, HK7.out.below.trans (ht.below HK7.out.below.size (by simp))⟩
            · refine ⟨rfl, ?_⟩
              exact ⟨.inr ⟨h0, rfl⟩, HK7.out.below⟩
          | true =>
            obtain ⟨fo, HFO⟩ : ∃ fo, Hid (Pg.find true (Dl.among ⟨pf, plo, phi, pr, pl⟩ key (L.map (·.d)) EL) key = fo) := ⟨_, rfl⟩
            have HS2 : Hid (Dl.hitL fo = out) := by rw [Hid, ← HS.out, ← HFO.out]; unfold Dl.says; simp only [hin]; rfl
            go_wp2_with fail
            refine (inLeaf_any pf plo phi pr pp pn pc pl key p len cap L EL _ HN.out (HX.out.below HK4.out.below (Nat.le_refl _)) hl HL.out hll (HD.out.below HK4.out.below (Nat.le_refl _)) (fun hm W hW => HE1.out (by simp) (by simp [hm]) W (HK4.out.below.trans (hW.mono HK4.out.below.size)))).mono ?_
            rw [HFO.out]
            rintro e w5 ⟨rfl, hb5⟩
            have HK5 : Hid (Lk w w5 pf plo phi pr pp pn pc) := HK4.out.on hb5
            clear hb5
            clear q0 qf0 q1 qf1 q2 qf2 q3 qf3 q4 qf4
            clear a0 a1 a2 a3 a4
            cases fo with
            | none =>
              have HF : Hid (out = (Sp.zero, 0)) := HS2.out.symm
              unfold fv
              simp only
              have HK6 : Hid (Lk w (w5.alloc (.cells #[.string ⟨#[]⟩, .int .i64 0, .int .i64 0, .int .i64 0] 30)) pf plo phi pr pp pn pc) := HK5.out.on ((Below.refl _ _).alloc (Nat.le_refl _) _)
              have b0 : (w5.alloc (.cells #[.string ⟨#[]⟩, .int .i64 0, .int .i64 0, .int .i64 0] 30)).cell? ⟨w.heap.size + 1, 0, none⟩ = some (.string ⟨#[]⟩) := HK6.out.b1.cell 0
              have bf0 : (w5.alloc (.cells #[.string ⟨#[]⟩, .int .i64 0, .int .i64 0, .int .i64 0] 30)).frozen? ⟨w.heap.size + 1, 0, none⟩ = false := HK6.out.b1.frozen 0
              have b1 : (w5.alloc (.cells #[.string ⟨#[]⟩, .int .i64 0, .int .i64 0, .int .i64 0] 30)).cell? ⟨w.heap.size + 1, 1, none⟩ = some (.int .i64 0) := HK6.out.b1.cell 1
              have bf1 : (w5.alloc (.cells #[.string ⟨#[]⟩, .int .i64 0, .int .i64 0, .int .i64 0] 30)).frozen? ⟨w.heap.size + 1, 1, none⟩ = false := HK6.out.b1.frozen 1
              have b2 : (w5.alloc (.cells #[.string ⟨#[]⟩, .int .i64 0, .int .i64 0, .int .i64 0] 30)).cell? ⟨w.heap.size + 1, 2, none⟩ = some (.int .i64 0) := HK6.out.b1.cell 2
              have bf2 : (w5.alloc (.cells #[.string ⟨#[]⟩, .int .i64 0, .int .i64 0, .int .i64 0] 30)).frozen? ⟨w.heap.size + 1, 2, none⟩ = false := HK6.out.b1.frozen 2
              have b3 : (w5.alloc (.cells #[.string ⟨#[]⟩, .int .i64 0, .int .i64 0, .int .i64 0] 30)).cell? ⟨w.heap.size + 1, 3, none⟩ = some (.int .i64 0) := HK6.out.b1.cell 3
              have bf3 : (w5.alloc (.cells #[.string ⟨#[]⟩, .int .i64 0, .int .i64 0, .int .i64 0] 30)).frozen? ⟨w.heap.size + 1, 3, none⟩ = false := HK6.out.b1.frozen 3
              have b4 : (w5.alloc (.cells #[.string ⟨#[]⟩, .int .i64 0, .int .i64 0, .int .i64 0] 30)).cell? ⟨w.heap.size + 1, 4, none⟩ = some (.bool false) := HK6.out.b1.cell 4
              have bf4 : (w5.alloc (.cells #[.string ⟨#[]⟩, .int .i64 0, .int .i64 0, .int .i64 0] 30)).frozen? ⟨w.heap.size + 1, 4, none⟩ = false := HK6.out.b1.frozen 4
              have b5 : (w5.alloc (.cells #[.string ⟨#[]⟩, .int .i64 0, .int .i64 0, .int .i64 0] 30)).cell? ⟨w.heap.size + 1, 5, none⟩ = some (.int .i64 0) := HK6.out.b1.cell 5
              have bf5 : (w5.alloc (.cells #[.string ⟨#[]⟩, .int .i64 0, .int .i64 0, .int .i64 0] 30)).frozen? ⟨w.heap.size + 1, 5, none⟩ = false := HK6.out.b1.frozen 5
              go_wp2
              clear b0 bf0 b1 bf1 b2 bf2 b3 bf3 b4 bf4 b5 bf5
              have k1 := HK6.out.b1.six (.string ⟨#[]⟩) (.int .i64 0) (.int .i64 0) (.int .i64 0) (.bool false) (.int .i64 0)
              have ht : Tn [w.heap.size + 1] (w5.alloc (.cells #[.string ⟨#[]⟩, .int .i64 0, .int .i64 0, .int .i64 0] 30)) _ := (Tn.refl _ (w5.alloc (.cells #[.string ⟨#[]⟩, .int .i64 0, .int .i64 0, .int .i64 0] 30))).six (R := w.heap.size + 1) (.inl (by simp)) (.string ⟨#[]⟩) (.int .i64 0) (.int .i64 0) (.int .i64 0) (.bool false) (.int .i64 0)
              refine bodyPost_ret (results_one (T' := 44) (cs := [.string ⟨#[]⟩, .int .i64 0, .int .i64 0, .int .i64 0, .bool false, .int .i64 0]) rfl rfl sp_agg sp_size rfl k1) rfl ?_
              rw [HF.out]
              exact ⟨.inl ⟨rfl, rfl⟩, HK6.out.below.trans (ht.below HK6.out.below.size (by simp))⟩
            | some x =>
              obtain ⟨xk, xs, xg, xc⟩ := x
              have HF : Hid (out = (⟨⟨xk, xs, xg, xc⟩, true, 0⟩, 0)) := HS2.out.symm
              unfold fv
              simp only
              have HK6 : Hid (Lk w (w5.alloc (.cells #[.string xk, .int .i64 xs, .int .i64 xg, .int .i64 xc] 30)) pf plo phi pr pp pn pc) := HK5.out.on ((Below.refl _ _).alloc (Nat.le_refl _) _)
              have b0 : (w5.alloc (.cells #[.string xk, .int .i64 xs, .int .i64 xg, .int .i64 xc] 30)).cell? ⟨w.heap.size + 1, 0, none⟩ = some (.string ⟨#[]⟩) := HK6.out.b1.cell 0
              have bf0 : (w5.alloc (.cells #[.string xk, .int .i64 xs, .int .i64 xg, .int .i64 xc] 30)).frozen? ⟨w.heap.size + 1, 0, none⟩ = false := HK6.out.b1.frozen 0
              have b1 : (w5.alloc (.cells #[.string xk, .int .i64 xs, .int .i64 xg, .int .i64 xc] 30)).cell? ⟨w.heap.size + 1, 1, none⟩ = some (.int .i64 0) := HK6.out.b1.cell 1
              have bf1 : (w5.alloc (.cells #[.string xk, .int .i64 xs, .int .i64 xg, .int .i64 xc] 30)).frozen? ⟨w.heap.size + 1, 1, none⟩ = false := HK6.out.b1.frozen 1
              have b2 : (w5.alloc (.cells #[.string xk, .int .i64 xs, .int .i64 xg, .int .i64 xc] 30)).cell? ⟨w.heap.size + 1, 2, none⟩ = some (.int .i64 0) := HK6.out.b1.cell 2
              have bf2 : (w5.alloc (.cells #[.string xk, .int .i64 xs, .int .i64 xg, .int .i64 xc] 30)).frozen? ⟨w.heap.size + 1, 2, none⟩ = false := HK6.out.b1.frozen 2
              have b3 : (w5.alloc (.cells #[.string xk, .int .i64 xs, .int .i64 xg, .int .i64 xc] 30)).cell? ⟨w.heap.size + 1, 3, none⟩ = some (.int .i64 0) := HK6.out.b1.cell 3
              have bf3 : (w5.alloc (.cells #[.string xk, .int .i64 xs, .int .i64 xg, .int .i64 xc] 30)).frozen? ⟨w.heap.size + 1, 3, none⟩ = false := HK6.out.b1.frozen 3
              have b4 : (w5.alloc (.cells #[.string xk, .int .i64 xs, .int .i64 xg, .int .i64 xc] 30)).cell? ⟨w.heap.size + 1, 4, none⟩ = some (.bool false) := HK6.out.b1.cell 4
              have bf4 : (w5.alloc (.cells #[.string xk, .int .i64 xs, .int .i64 xg, .int .i64 xc] 30)).frozen? ⟨w.heap.size + 1, 4, none⟩ = false := HK6.out.b1.frozen 4
              have b5 : (w5.alloc (.cells #[.string xk, .int .i64 xs, .int .i64 xg, .int .i64 xc] 30)).cell? ⟨w.heap.size + 1, 5, none⟩ = some (.int .i64 0) := HK6.out.b1.cell 5
              have bf5 : (w5.alloc (.cells #[.string xk, .int .i64 xs, .int .i64 xg, .int .i64 xc] 30)).frozen? ⟨w.heap.size + 1, 5, none⟩ = false := HK6.out.b1.frozen 5
              go_wp2
              clear b0 bf0 b1 bf1 b2 bf2 b3 bf3 b4 bf4 b5 bf5
              have k1 := HK6.out.b1.six (.string xk) (.int .i64 xs) (.int .i64 xg) (.int .i64 xc) (.bool true) (.int .i64 0)
              have ht : Tn [w.heap.size + 1] (w5.alloc (.cells #[.string xk, .int .i64 xs, .int .i64 xg, .int .i64 xc] 30)) _ := (Tn.refl _ (w5.alloc (.cells #[.string xk, .int .i64 xs, .int .i64 xg, .int .i64 xc] 30))).six (R := w.heap.size + 1) (.inl (by simp)) (.string xk) (.int .i64 xs) (.int .i64 xg) (.int .i64 xc) (.bool true) (.int .i64 0)
              refine bodyPost_ret (results_one (T' := 44) (cs := [.string xk, .int .i64 xs, .int .i64 xg, .int .i64 xc, .bool true, .int .i64 0]) rfl rfl sp_agg sp_size rfl k1) rfl ?_
              rw [HF.out]
              exact ⟨.inl ⟨rfl, rfl⟩, HK6.out.below.trans (ht.below HK6.out.below.size (by simp))⟩
      · have HF : Hid (out = (Sp.zero, kk)) := by rw [Hid, ← HS.out]; unfold Dl.says; rw [if_pos h0]
        refine ⟨rfl, ?_⟩
        rw [HF.out]
        exact ⟨.inr ⟨h0, rfl⟩, HK2.out.below⟩
    · obtain ⟨m, hm⟩ : ∃ m, L[0]? = some m := ⟨_, List.getElem?_eq_getElem (by have := HL.out; omega)⟩
      obtain ⟨b, o, rfl, hc⟩ := HD.out.below HK0.out.below (Nat.le_refl _) (by have := HL.out; omega)
      obtain ⟨hcx, hOk⟩ := hc 0 m hm
      have hgm : ((m.d.k == 5) && Dl.may m.d) = false := by
        cases L with
        | nil => simp at hm
        | cons x r =>
          simp only [List.getElem?_cons_zero, Option.some.injEq] at hm
          subst hm
          simp only [List.map_cons, Dl.gone] at hg
          cases h5 : ((x.d.k == 5) && Dl.may x.d) with
          | false => rfl
          | true => rw [h5] at hg; simp at hg
      obtain ⟨⟨dk, ⟨dek, des, deg, dec⟩, dkey, dpg, ⟨dleaf, dlo, dhi, dr, dl⟩⟩, dp, dn, dc⟩ := m
      simp only at hgm
      have hlen1 : (0 : Int) < (len : Int) := by omega
      have hlen2 : decide ((len : Int) > 0) = true := decide_eq_true hlen1
      have hlen3 : 0 < len := by omega
      have z0 := hcx 0 _ rfl
      have z1 := hcx 1 _ rfl
      have z2 := hcx 2 _ rfl
      have z3 := hcx 3 _ rfl
      have z4 := hcx 4 _ rfl
      have z5 := hcx 5 _ rfl
      have z6 := hcx 6 _ rfl
      have z7 := hcx 7 _ rfl
      have z8 := hcx 8 _ rfl
      have z9 := hcx 9 _ rfl
      have z10 := hcx 10 _ rfl
      have z11 := hcx 11 _ rfl
      simp only [Nat.zero_mul, Nat.add_zero] at z0 z1 z2 z3 z4 z5 z6 z7 z8 z9 z10 z11
      have HOK : Hid (Dm.Ok w0 ⟨⟨dk, ⟨dek, des, deg, dec⟩, dkey, dpg, ⟨dleaf, dlo, dhi, dr, dl⟩⟩, dp, dn, dc⟩) := hOk
      clear hcx hc hOk hm hg
      obtain ⟨p, hp⟩ : ∃ p, p = some (⟨b, o, none⟩ : Addr) := ⟨_, rfl⟩
      by_cases h5 : dk = 5
      · subst h5
        have HM : Hid (Dl.may ⟨5, ⟨dek, des, deg, dec⟩, dkey, dpg, ⟨dleaf, dlo, dhi, dr, dl⟩⟩ = false) := by unfold Hid; simpa using hgm
        go_wp2_with fail
        refine (dcheck_any ⟨5, ⟨dek, des, deg, dec⟩, dkey, dpg, ⟨dleaf, dlo, dhi, dr, dl⟩⟩ dp dn dc _ HOK.out.len HOK.out.ens (by have := HOK.out.room; simp only at this; omega)).mono ?_
        rw [HM.out]
        rintro e w1 ⟨rfl, hb1⟩
        have HK1 : Hid (Lk w w1 pf plo phi pr pp pn pc) := HK0.out.on hb1
        clear a0 a1 a2 a3 a4
        clear b0 bf0 b1 bf1 b2 bf2 b3 bf3 b4 bf4 b5 bf5
        clear hb1 z0 z1 z2 z3 z4 z5 z6 z7 z8 z9 z10 z11 hw0 hgm
        simp only [Bool.false_eq_true, if_false]
        have a0 : w1.cell? ⟨w.heap.size, 0, none⟩ = some (.bool pf) := HK1.out.b0.cell 0
        have a1 : w1.cell? ⟨w.heap.size, 1, none⟩ = some (.string plo) := HK1.out.b0.cell 1
        have a2 : w1.cell? ⟨w.heap.size, 2, none⟩ = some (.string phi) := HK1.out.b0.cell 2
        have a3 : w1.cell? ⟨w.heap.size, 3, none⟩ = some (.int .i64 pr) := HK1.out.b0.cell 3
        have a4 : w1.cell? ⟨w.heap.size, 4, none⟩ = some (.slice pp pn pc) := HK1.out.b0.cell 4
        go_wp2_with fail
        clear a0 a1 a2 a3 a4
        rw [← hp] at HD HE ⊢
        clear hp
        refine (outline_any ⟨pf, plo, phi, pr, pl⟩ pp pn pc p len cap L _ HL.out hll (HD.out.below HK1.out.below (Nat.le_refl _))).mono ?_
        have HS : Hid (Dl.says ⟨pf, plo, phi, pr, pl⟩ key (L.map (·.d)) EL (Dl.outl ⟨pf, plo, phi, pr, pl⟩ (L.map (·.d)).reverse) = out) := HSAY.out
        have HE1 : Hid _ := HE.out
        obtain ⟨⟨⟨qf, qlo, qhi, qr, ql⟩, kk⟩, hO⟩ : ∃ o, Dl.outl ⟨pf, plo, phi, pr, pl⟩ (L.map (·.d)).reverse = o := ⟨_, rfl⟩
        rw [hO] at HS HE1
        rw [hO]
        rintro e w2 ⟨hd, hb2⟩
        have HK2 : Hid (Lk w w2 pf plo phi pr pp pn pc) := HK1.out.on hb2
        clear hb2 hO
        simp only at hd
        rcases hd with ⟨h0, rfl⟩ | ⟨h0, rfl⟩
        · subst h0
          obtain ⟨w3, hw3⟩ : ∃ w3, w3 = w2.alloc (.cells #[.bool qf, .string qlo, .string qhi, .int .i64 qr, .slice none 0 0] 24) := ⟨_, rfl⟩
          have HK3 : Hid (Lk w w3 pf plo phi pr pp pn pc) := by rw [hw3]; exact HK2.out.on ((Below.refl _ _).alloc (Nat.le_refl _) _)
          have HP3 : Hid (Bk w3 w2.heap.size 24 #[.bool qf, .string qlo, .string qhi, .int .i64 qr, .slice none 0 0]) := by rw [hw3]; exact Bk.new _ _ _
          have HPW : Hid (w.heap.size + 1 < w2.heap.size) := HK2.out.b1.lt
          go_wp2_with fail
          rw [← hw3]
          clear hw3
          refine (has_any qf qlo qhi qr none 0 0 _ key).mono ?_
          cases hin : Ky.inn ⟨qlo, qhi⟩ key with
          | false =>
            have HS2 : Hid ((if (Ky.lt key qlo || qr == 0) = true then (Sp.zero, 73) else (⟨En.zero, false, qr⟩, 0)) = out) := by rw [Hid, ← HS.out]; unfold Dl.says; simp only [hin]; rfl
            rintro e w4 ⟨rfl, hb4⟩
            have HK4 : Hid (Lk w w4 pf plo phi pr pp pn pc) := HK3.out.on hb4
            have HP4 : Hid (Bk w4 w2.heap.size 24 #[.bool qf, .string qlo, .string qhi, .int .i64 qr, .slice none 0 0]) := HP3.out.below hb4 HP3.out.lt
            clear hb4 hin
            have q0 : w4.cell? ⟨w2.heap.size, 0, none⟩ = some (.bool qf) := HP4.out.cell 0
            have q1 : w4.cell? ⟨w2.heap.size, 1, none⟩ = some (.string qlo) := HP4.out.cell 1
            have q2 : w4.cell? ⟨w2.heap.size, 2, none⟩ = some (.string qhi) := HP4.out.cell 2
            have q3 : w4.cell? ⟨w2.heap.size, 3, none⟩ = some (.int .i64 qr) := HP4.out.cell 3
            have q4 : w4.cell? ⟨w2.heap.size, 4, none⟩ = some (.slice none 0 0) := HP4.out.cell 4
            go_wp2_with fail
            clear q0 q1 q2 q3 q4
            refine (beside_any qf qlo qhi qr none 0 0 key _).mono ?_
            rintro e w5 ⟨hbs, hb5⟩
            have HK5 : Hid (Lk w w5 pf plo phi pr pp pn pc) := HK4.out.on hb5
            clear hb5
            rcases hbs with ⟨hc, rfl⟩ | ⟨hc, rfl⟩
            · have HF : Hid (out = (⟨En.zero, false, qr⟩, 0)) := by rw [Hid, ← HS2.out, hc]; rfl
              clear hc
              have b0 : w5.cell? ⟨w.heap.size + 1, 0, none⟩ = some (.string ⟨#[]⟩) := HK5.out.b1.cell 0
              have bf0 : w5.frozen? ⟨w.heap.size + 1, 0, none⟩ = false := HK5.out.b1.frozen 0
              have b1 : w5.cell? ⟨w.heap.size + 1, 1, none⟩ = some (.int .i64 0) := HK5.out.b1.cell 1
              have bf1 : w5.frozen? ⟨w.heap.size + 1, 1, none⟩ = false := HK5.out.b1.frozen 1
              have b2 : w5.cell? ⟨w.heap.size + 1, 2, none⟩ = some (.int .i64 0) := HK5.out.b1.cell 2
              have bf2 : w5.frozen? ⟨w.heap.size + 1, 2, none⟩ = false := HK5.out.b1.frozen 2
              have b3 : w5.cell? ⟨w.heap.size + 1, 3, none⟩ = some (.int .i64 0) := HK5.out.b1.cell 3
              have bf3 : w5.frozen? ⟨w.heap.size + 1, 3, none⟩ = false := HK5.out.b1.frozen 3
              have b4 : w5.cell? ⟨w.heap.size + 1, 4, none⟩ = some (.bool false) := HK5.out.b1.cell 4
              have bf4 : w5.frozen? ⟨w.heap.size + 1, 4, none⟩ = false := HK5.out.b1.frozen 4
              have b5 : w5.cell? ⟨w.heap.size + 1, 5, none⟩ = some (.int .i64 0) := HK5.out.b1.cell 5
              have bf5 : w5.frozen? ⟨w.heap.size + 1, 5, none⟩ = false := HK5.out.b1.frozen 5
              go_wp2
              clear b0 bf0 b1 bf1 b2 bf2 b3 bf3 b4 bf4 b5 bf5
              have k1 := HK5.out.b1.six (.string ⟨#[]⟩) (.int .i64 0) (.int .i64 0) (.int .i64 0) (.bool false) (.int .i64 qr)
              have ht : Tn [w.heap.size + 1] w5 _ := (Tn.refl _ w5).six (R := w.heap.size + 1) (.inl (by simp)) (.string ⟨#[]⟩) (.int .i64 0) (.int .i64 0) (.int .i64 0) (.bool false) (.int .i64 qr)
              refine bodyPost_ret (results_one (T' := 44) (cs := [.string ⟨#[]⟩, .int .i64 0, .int .i64 0, .int .i64 0, .bool false, .int .i64 qr]) rfl rfl sp_agg sp_size rfl k1) rfl ?_
              rw [HF.out]
              exact ⟨.inl ⟨rfl, rfl⟩, HK5.out.below.trans (ht.below HK5.out.below.size (by simp))⟩
            · have HF : Hid (out = (Sp.zero, 73)) := by rw [Hid, ← HS2.out, hc]; rfl
              refine ⟨rfl, ?_⟩
              rw [HF.out]
              exact ⟨.inr ⟨by decide, rfl⟩, HK5.out.below⟩
          | true =>
            rintro e w4 ⟨rfl, hb4⟩
            have HK4 : Hid (Lk w w4 pf plo phi pr pp pn pc) := HK3.out.on hb4
            have HP4 : Hid (Bk w4 w2.heap.size 24 #[.bool qf, .string qlo, .string qhi, .int .i64 qr, .slice none 0 0]) := HP3.out.below hb4 HP3.out.lt
            clear hb4
            have q0 : w4.cell? ⟨w2.heap.size, 0, none⟩ = some (.bool qf) := HP4.out.cell 0
            have qf0 : w4.frozen? ⟨w2.heap.size, 0, none⟩ = false := HP4.out.frozen 0
            have q1 : w4.cell? ⟨w2.heap.size, 1, none⟩ = some (.string qlo) := HP4.out.cell 1
            have qf1 : w4.frozen? ⟨w2.heap.size, 1, none⟩ = false := HP4.out.frozen 1
            have q2 : w4.cell? ⟨w2.heap.size, 2, none⟩ = some (.string qhi) := HP4.out.cell 2
            have qf2 : w4.frozen? ⟨w2.heap.size, 2, none⟩ = false := HP4.out.frozen 2
            have q3 : w4.cell? ⟨w2.heap.size, 3, none⟩ = some (.int .i64 qr) := HP4.out.cell 3
            have qf3 : w4.frozen? ⟨w2.heap.size, 3, none⟩ = false := HP4.out.frozen 3
            have q4 : w4.cell? ⟨w2.heap.size, 4, none⟩ = some (.slice none 0 0) := HP4.out.cell 4
            have qf4 : w4.frozen? ⟨w2.heap.size, 4, none⟩ = false := HP4.out.frozen 4
            have a0 : w4.cell? ⟨w.heap.size, 0, none⟩ = some (.bool pf) := HK4.out.b0.cell 0
            have a1 : w4.cell? ⟨w.heap.size, 1, none⟩ = some (.string plo) := HK4.out.b0.cell 1
            have a2 : w4.cell? ⟨w.heap.size, 2, none⟩ = some (.string phi) := HK4.out.b0.cell 2
            have a3 : w4.cell? ⟨w.heap.size, 3, none⟩ = some (.int .i64 pr) := HK4.out.b0.cell 3
            have a4 : w4.cell? ⟨w.heap.size, 4, none⟩ = some (.slice pp pn pc) := HK4.out.b0.cell 4
            cases qf with
            | false =>
              have HS2 : Hid (Dl.hitI (Pg.fnd false EL key) = out) := by rw [Hid, ← HS.out]; unfold Dl.says; simp only [hin]; rfl
              have HE2 : Hid _ := HE1.out (by simp) (by simp)
              go_wp2_with fail
              refine Calls.mono (HE2.out _ HK4.out.below) ?_
              rintro e w5 ⟨⟨q, m, c, rfl, hlm, hle, hmr⟩, hb5⟩
              have HK5 : Hid (Lk w w5 pf plo phi pr pp pn pc) := HK4.out.on hb5
              have HP5 : Hid (Bk w5 w2.heap.size 24 #[.bool false, .string qlo, .string qhi, .int .i64 qr, .slice none 0 0]) := HP4.out.below hb5 HP4.out.lt
              have HLM : Hid (EL.length = m) := hlm
              have HLE : Hid (Ens w5 q EL) := hle
              clear hb5 hlm hle
              clear q0 qf0 q1 qf1 q2 qf2 q3 qf3 q4 qf4
              clear a0 a1 a2 a3 a4
              have q0 : w5.cell? ⟨w2.heap.size, 0, none⟩ = some (.bool false) := HP5.out.cell 0
              have qf0 : w5.frozen? ⟨w2.heap.size, 0, none⟩ = false := HP5.out.frozen 0
              have q1 : w5.cell? ⟨w2.heap.size, 1, none⟩ = some (.string qlo) := HP5.out.cell 1
              have qf1 : w5.frozen? ⟨w2.heap.size, 1, none⟩ = false := HP5.out.frozen 1
              have q2 : w5.cell? ⟨w2.heap.size, 2, none⟩ = some (.string qhi) := HP5.out.cell 2
              have qf2 : w5.frozen? ⟨w2.heap.size, 2, none⟩ = false := HP5.out.frozen 2
              have q3 : w5.cell? ⟨w2.heap.size, 3, none⟩ = some (.int .i64 qr) := HP5.out.cell 3
              have qf3 : w5.frozen? ⟨w2.heap.size, 3, none⟩ = false := HP5.out.frozen 3
              have q4 : w5.cell? ⟨w2.heap.size, 4, none⟩ = some (.slice none 0 0) := HP5.out.cell 4
              have qf4 : w5.frozen? ⟨w2.heap.size, 4, none⟩ = false := HP5.out.frozen 4
              obtain ⟨w6, hw6⟩ : ∃ w6, w5.setCell ⟨w2.heap.size, 4, none⟩ (.slice q m c) = w6 := ⟨_, rfl⟩
              have ht6 : Tn [w2.heap.size] w5 w6 := by rw [← hw6]; exact (Tn.refl _ w5).setCell (.inl (by simp)) _
              have HP6 : Hid (Bk w6 w2.heap.size 24 #[.bool false, .string qlo, .string qhi, .int .i64 qr, .slice q m c]) := by rw [← hw6]; exact HP5.out.set 4 _
              have HK6 : Hid (Lk w w6 pf plo phi pr pp pn pc) := ⟨HK5.out.below.trans (ht6.below HK5.out.below.size (by have := HPW.out; simp; omega)), HK5.out.b0.tn ht6 (by have := HPW.out; simp; omega), HK5.out.b1.tn ht6 (by have := HPW.out; simp; omega)⟩
              have HL6 : Hid (Ens w6 q EL) := by rw [← hw6]; exact HLE.out.putSlice q4 _
              have y0 : w6.cell? ⟨w2.heap.size, 0, none⟩ = some (.bool false) := HP6.out.cell 0
              have y1 : w6.cell? ⟨w2.heap.size, 1, none⟩ = some (.string qlo) := HP6.out.cell 1
              have y2 : w6.cell? ⟨w2.heap.size, 2, none⟩ = some (.string qhi) := HP6.out.cell 2
              have y3 : w6.cell? ⟨w2.heap.size, 3, none⟩ = some (.int .i64 qr) := HP6.out.cell 3
              have y4 : w6.cell? ⟨w2.heap.size, 4, none⟩ = some (.slice q m c) := HP6.out.cell 4
              go_wp2_with fail
              clear hw6 ht6
              clear q0 qf0 q1 qf1 q2 qf2 q3 qf3 q4 qf4
              clear y0 y1 y2 y3 y4
              refine (below_any false qlo qhi qr q m c EL key _ HLM.out HL6.out hmr).mono ?_
              rw [HS2.out]
              rintro e w7 ⟨hd7, hb7⟩
              have HK7 : Hid (Lk w w7 pf plo phi pr pp pn pc) := HK6.out.on hb7
              clear hb7
              rcases hd7 with ⟨h0, rfl⟩ | ⟨h0, rfl⟩
              · obtain ⟨⟨⟨xk, xs, xg, xc⟩, xf, xgo⟩, kk⟩ := out
                simp only at h0
                subst h0
                have b0 : w7.cell? ⟨w.heap.size + 1, 0, none⟩ = some (.string ⟨#[]⟩) := HK7.out.b1.cell 0
                have bf0 : w7.frozen? ⟨w.heap.size + 1, 0, none⟩ = false := HK7.out.b1.frozen 0
                have b1 : w7.cell? ⟨w.heap.size + 1, 1, none⟩ = some (.int .i64 0) := HK7.out.b1.cell 1
                have bf1 : w7.frozen? ⟨w.heap.size + 1, 1, none⟩ = false := HK7.out.b1.frozen 1
                have b2 : w7.cell? ⟨w.heap.size + 1, 2, none⟩ = some (.int .i64 0) := HK7.out.b1.cell 2
                have bf2 : w7.frozen? ⟨w.heap.size + 1, 2, none⟩ = false := HK7.out.b1.frozen 2
                have b3 : w7.cell? ⟨w.heap.size + 1, 3, none⟩ = some (.int .i64 0) := HK7.out.b1.cell 3
                have bf3 : w7.frozen? ⟨w.heap.size + 1, 3, none⟩ = false := HK7.out.b1.frozen 3
                have b4 : w7.cell? ⟨w.heap.size + 1, 4, none⟩ = some (.bool false) := HK7.out.b1.cell 4
                have bf4 : w7.frozen? ⟨w.heap.size + 1, 4, none⟩ = false := HK7.out.b1.frozen 4
                have b5 : w7.cell? ⟨w.heap.size + 1, 5, none⟩ = some (.int .i64 0) := HK7.out.b1.cell 5
                have bf5 : w7.frozen? ⟨w.heap.size + 1, 5, none⟩ = false := HK7.out.b1.frozen 5
                go_wp2
                clear b0 bf0 b1 bf1 b2 bf2 b3 bf3 b4 bf4 b5 bf5
                have k1 := HK7.out.b1.six (.string xk) (.int .i64 xs) (.int .i64 xg) (.int .i64 xc) (.bool xf) (.int .i64 xgo)
                have ht : Tn [w.heap.size + 1] w7 _ := (Tn.refl _ w7).six (R := w.heap.size + 1) (.inl (by simp)) (.string xk) (.int .i64 xs) (.int .i64 xg) (.int .i64 xc) (.bool xf) (.int .i64 xgo)
                refine bodyPost_ret (results_one (T' := 44) (cs := [.string xk, .int .i64 xs, .int .i64 xg, .int .i64 xc, .bool xf, .int .i64 xgo]) rfl rfl sp_agg sp_size rfl k1) rfl ?_
                skip
                exact ⟨.inl ⟨rfl, rfl⟩, HK7.out.below.trans (ht.below HK7.out.below.size (by simp))⟩
              · refine ⟨rfl, ?_⟩
                exact ⟨.inr ⟨h0, rfl⟩, HK7.out.below⟩
            | true =>
              obtain ⟨fo, HFO⟩ : ∃ fo, Hid (Pg.find true (Dl.among ⟨pf, plo, phi, pr, pl⟩ key (L.map (·.d)) EL) key = fo) := ⟨_, rfl⟩
              have HS2 : Hid (Dl.hitL fo = out) := by rw [Hid, ← HS.out, ← HFO.out]; unfold Dl.says; simp only [hin]; rfl
              go_wp2_with fail
              refine (inLeaf_any pf plo phi pr pp pn pc pl key p len cap L EL _ HN.out (HX.out.below HK4.out.below (Nat.le_refl _)) hl HL.out hll (HD.out.below HK4.out.below (Nat.le_refl _)) (fun hm W hW => HE1.out (by simp) (by simp [hm]) W (HK4.out.below.trans (hW.mono HK4.out.below.size)))).mono ?_
              rw [HFO.out]
              rintro e w5 ⟨rfl, hb5⟩
              have HK5 : Hid (Lk w w5 pf plo phi pr pp pn pc) := HK4.out.on hb5
              clear hb5
              clear q0 qf0 q1 qf1 q2 qf2 q3 qf3 q4 qf4
              clear a0 a1 a2 a3 a4
              cases fo with
              | none =>
                have HF : Hid (out = (Sp.zero, 0)) := HS2.out.symm
                unfold fv
                simp only
                have HK6 : Hid (Lk w (w5.alloc (.cells #[.string ⟨#[]⟩, .int .i64 0, .int .i64 0, .int .i64 0] 30)) pf plo phi pr pp pn pc) := HK5.out.on ((Below.refl _ _).alloc (Nat.le_refl _) _)
                have b0 : (w5.alloc (.cells #[.string ⟨#[]⟩, .int .i64 0, .int .i64 0, .int .i64 0] 30)).cell? ⟨w.heap.size + 1, 0, none⟩ = some (.string ⟨#[]⟩) := HK6.out.b1.cell 0
                have bf0 : (w5.alloc (.cells #[.string ⟨#[]⟩, .int .i64 0, .int .i64 0, .int .i64 0] 30)).frozen? ⟨w.heap.size + 1, 0, none⟩ = false := HK6.out.b1.frozen 0
                have b1 : (w5.alloc (.cells #[.string ⟨#[]⟩, .int .i64 0, .int .i64 0, .int .i64 0] 30)).cell? ⟨w.heap.size + 1, 1, none⟩ = some (.int .i64 0) := HK6.out.b1.cell 1
                have bf1 : (w5.alloc (.cells #[.string ⟨#[]⟩, .int .i64 0, .int .i64 0, .int .i64 0] 30)).frozen? ⟨w.heap.size + 1, 1, none⟩ = false := HK6.out.b1.frozen 1
                have b2 : (w5.alloc (.cells #[.string ⟨#[]⟩, .int .i64 0, .int .i64 0, .int .i64 0] 30)).cell? ⟨w.heap.size + 1, 2, none⟩ = some (.int .i64 0) := HK6.out.b1.cell 2
                have bf2 : (w5.alloc (.cells #[.string ⟨#[]⟩, .int .i64 0, .int .i64 0, .int .i64 0] 30)).frozen? ⟨w.heap.size + 1, 2, none⟩ = false := HK6.out.b1.frozen 2
                have b3 : (w5.alloc (.cells #[.string ⟨#[]⟩, .int .i64 0, .int .i64 0, .int .i64 0] 30)).cell? ⟨w.heap.size + 1, 3, none⟩ = some (.int .i64 0) := HK6.out.b1.cell 3
                have bf3 : (w5.alloc (.cells #[.string ⟨#[]⟩, .int .i64 0, .int .i64 0, .int .i64 0] 30)).frozen? ⟨w.heap.size + 1, 3, none⟩ = false := HK6.out.b1.frozen 3
                have b4 : (w5.alloc (.cells #[.string ⟨#[]⟩, .int .i64 0, .int .i64 0, .int .i64 0] 30)).cell? ⟨w.heap.size + 1, 4, none⟩ = some (.bool false) := HK6.out.b1.cell 4
                have bf4 : (w5.alloc (.cells #[.string ⟨#[]⟩, .int .i64 0, .int .i64 0, .int .i64 0] 30)).frozen? ⟨w.heap.size + 1, 4, none⟩ = false := HK6.out.b1.frozen 4
                have b5 : (w5.alloc (.cells #[.string ⟨#[]⟩, .int .i64 0, .int .i64 0, .int .i64 0] 30)).cell? ⟨w.heap.size + 1, 5, none⟩ = some (.int .i64 0) := HK6.out.b1.cell 5
                have bf5 : (w5.alloc (.cells #[.string ⟨#[]⟩, .int .i64 0, .int .i64 0, .int .i64 0] 30)).frozen? ⟨w.heap.size + 1, 5, none⟩ = false := HK6.out.b1.frozen 5
                go_wp2
                clear b0 bf0 b1 bf1 b2 bf2 b3 bf3 b4 bf4 b5 bf5
                have k1 := HK6.out.b1.six (.string ⟨#[]⟩) (.int .i64 0) (.int .i64 0) (.int .i64 0) (.bool false) (.int .i64 0)
                have ht : Tn [w.heap.size + 1] (w5.alloc (.cells #[.string ⟨#[]⟩, .int .i64 0, .int .i64 0, .int .i64 0] 30)) _ := (Tn.refl _ (w5.alloc (.cells #[.string ⟨#[]⟩, .int .i64 0, .int .i64 0, .int .i64 0] 30))).six (R := w.heap.size + 1) (.inl (by simp)) (.string ⟨#[]⟩) (.int .i64 0) (.int .i64 0) (.int .i64 0) (.bool false) (.int .i64 0)
                refine bodyPost_ret (results_one (T' := 44) (cs := [.string ⟨#[]⟩, .int .i64 0, .int .i64 0, .int .i64 0, .bool false, .int .i64 0]) rfl rfl sp_agg sp_size rfl k1) rfl ?_
                rw [HF.out]
                exact ⟨.inl ⟨rfl, rfl⟩, HK6.out.below.trans (ht.below HK6.out.below.size (by simp))⟩
              | some x =>
                obtain ⟨xk, xs, xg, xc⟩ := x
                have HF : Hid (out = (⟨⟨xk, xs, xg, xc⟩, true, 0⟩, 0)) := HS2.out.symm
                unfold fv
                simp only
                have HK6 : Hid (Lk w (w5.alloc (.cells #[.string xk, .int .i64 xs, .int .i64 xg, .int .i64 xc] 30)) pf plo phi pr pp pn pc) := HK5.out.on ((Below.refl _ _).alloc (Nat.le_refl _) _)
                have b0 : (w5.alloc (.cells #[.string xk, .int .i64 xs, .int .i64 xg, .int .i64 xc] 30)).cell? ⟨w.heap.size + 1, 0, none⟩ = some (.string ⟨#[]⟩) := HK6.out.b1.cell 0
                have bf0 : (w5.alloc (.cells #[.string xk, .int .i64 xs, .int .i64 xg, .int .i64 xc] 30)).frozen? ⟨w.heap.size + 1, 0, none⟩ = false := HK6.out.b1.frozen 0
                have b1 : (w5.alloc (.cells #[.string xk, .int .i64 xs, .int .i64 xg, .int .i64 xc] 30)).cell? ⟨w.heap.size + 1, 1, none⟩ = some (.int .i64 0) := HK6.out.b1.cell 1
                have bf1 : (w5.alloc (.cells #[.string xk, .int .i64 xs, .int .i64 xg, .int .i64 xc] 30)).frozen? ⟨w.heap.size + 1, 1, none⟩ = false := HK6.out.b1.frozen 1
                have b2 : (w5.alloc (.cells #[.string xk, .int .i64 xs, .int .i64 xg, .int .i64 xc] 30)).cell? ⟨w.heap.size + 1, 2, none⟩ = some (.int .i64 0) := HK6.out.b1.cell 2
                have bf2 : (w5.alloc (.cells #[.string xk, .int .i64 xs, .int .i64 xg, .int .i64 xc] 30)).frozen? ⟨w.heap.size + 1, 2, none⟩ = false := HK6.out.b1.frozen 2
                have b3 : (w5.alloc (.cells #[.string xk, .int .i64 xs, .int .i64 xg, .int .i64 xc] 30)).cell? ⟨w.heap.size + 1, 3, none⟩ = some (.int .i64 0) := HK6.out.b1.cell 3
                have bf3 : (w5.alloc (.cells #[.string xk, .int .i64 xs, .int .i64 xg, .int .i64 xc] 30)).frozen? ⟨w.heap.size + 1, 3, none⟩ = false := HK6.out.b1.frozen 3
                have b4 : (w5.alloc (.cells #[.string xk, .int .i64 xs, .int .i64 xg, .int .i64 xc] 30)).cell? ⟨w.heap.size + 1, 4, none⟩ = some (.bool false) := HK6.out.b1.cell 4
                have bf4 : (w5.alloc (.cells #[.string xk, .int .i64 xs, .int .i64 xg, .int .i64 xc] 30)).frozen? ⟨w.heap.size + 1, 4, none⟩ = false := HK6.out.b1.frozen 4
                have b5 : (w5.alloc (.cells #[.string xk, .int .i64 xs, .int .i64 xg, .int .i64 xc] 30)).cell? ⟨w.heap.size + 1, 5, none⟩ = some (.int .i64 0) := HK6.out.b1.cell 5
                have bf5 : (w5.alloc (.cells #[.string xk, .int .i64 xs, .int .i64 xg, .int .i64 xc] 30)).frozen? ⟨w.heap.size + 1, 5, none⟩ = false := HK6.out.b1.frozen 5
                go_wp2
                clear b0 bf0 b1 bf1 b2 bf2 b3 bf3 b4 bf4 b5 bf5
                have k1 := HK6.out.b1.six (.string xk) (.int .i64 xs) (.int .i64 xg) (.int .i64 xc) (.bool true) (.int .i64 0)
                have ht : Tn [w.heap.size + 1] (w5.alloc (.cells #[.string xk, .int .i64 xs, .int .i64 xg, .int .i64 xc] 30)) _ := (Tn.refl _ (w5.alloc (.cells #[.string xk, .int .i64 xs, .int .i64 xg, .int .i64 xc] 30))).six (R := w.heap.size + 1) (.inl (by simp)) (.string xk) (.int .i64 xs) (.int .i64 xg) (.int .i64 xc) (.bool true) (.int .i64 0)
                refine bodyPost_ret (results_one (T' := 44) (cs := [.string xk, .int .i64 xs, .int .i64 xg, .int .i64 xc, .bool true, .int .i64 0]) rfl rfl sp_agg sp_size rfl k1) rfl ?_
                rw [HF.out]
                exact ⟨.inl ⟨rfl, rfl⟩, HK6.out.below.trans (ht.below HK6.out.below.size (by simp))⟩
        · have HF : Hid (out = (Sp.zero, kk)) := by rw [Hid, ← HS.out]; unfold Dl.says; rw [if_pos h0]
          refine ⟨rfl, ?_⟩
          rw [HF.out]
          exact ⟨.inr ⟨h0, rfl⟩, HK2.out.below⟩
      · have k5 : (dk == 5) = false := by simp [h5]
        go_wp2_with fail
        clear z0 z1 z2 z3 z4 z5 z6 z7 z8 z9 z10 z11 hw0 hgm
        clear a0 a1 a2 a3 a4
        clear b0 bf0 b1 bf1 b2 bf2 b3 bf3 b4 bf4 b5 bf5
        rw [← hp] at HD HE ⊢
        clear hp
        refine (outline_any ⟨pf, plo, phi, pr, pl⟩ pp pn pc p len cap L _ HL.out hll (HD.out.below HK0.out.below (Nat.le_refl _))).mono ?_
        have HS : Hid (Dl.says ⟨pf, plo, phi, pr, pl⟩ key (L.map (·.d)) EL (Dl.outl ⟨pf, plo, phi, pr, pl⟩ (L.map (·.d)).reverse) = out) := HSAY.out
        have HE1 : Hid _ := HE.out
        obtain ⟨⟨⟨qf, qlo, qhi, qr, ql⟩, kk⟩, hO⟩ : ∃ o, Dl.outl ⟨pf, plo, phi, pr, pl⟩ (L.map (·.d)).reverse = o := ⟨_, rfl⟩
        rw [hO] at HS HE1
        rw [hO]
        rintro e w2 ⟨hd, hb2⟩
        have HK2 : Hid (Lk w w2 pf plo phi pr pp pn pc) := HK0.out.on hb2
        clear hb2 hO
        simp only at hd
        rcases hd with ⟨h0, rfl⟩ | ⟨h0, rfl⟩
        · subst h0
          obtain ⟨w3, hw3⟩ : ∃ w3, w3 = w2.alloc (.cells #[.bool qf, .string qlo, .string qhi, .int .i64 qr, .slice none 0 0] 24) := ⟨_, rfl⟩
          have HK3 : Hid (Lk w w3 pf plo phi pr pp pn pc) := by rw [hw3]; exact HK2.out.on ((Below.refl _ _).alloc (Nat.le_refl _) _)
          have HP3 : Hid (Bk w3 w2.heap.size 24 #[.bool qf, .string qlo, .string qhi, .int .i64 qr, .slice none 0 0]) := by rw [hw3]; exact Bk.new _ _ _
          have HPW : Hid (w.heap.size + 1 < w2.heap.size) := HK2.out.b1.lt
          go_wp2_with fail
          rw [← hw3]
          clear hw3
          refine (has_any qf qlo qhi qr none 0 0 _ key).mono ?_
          cases hin : Ky.inn ⟨qlo, qhi⟩ key with
          | false =>
            have HS2 : Hid ((if (Ky.lt key qlo || qr == 0) = true then (Sp.zero, 73) else (⟨En.zero, false, qr⟩, 0)) = out) := by rw [Hid, ← HS.out]; unfold Dl.says; simp only [hin]; rfl
            rintro e w4 ⟨rfl, hb4⟩
            have HK4 : Hid (Lk w w4 pf plo phi pr pp pn pc) := HK3.out.on hb4
            have HP4 : Hid (Bk w4 w2.heap.size 24 #[.bool qf, .string qlo, .string qhi, .int .i64 qr, .slice none 0 0]) := HP3.out.below hb4 HP3.out.lt
            clear hb4 hin
            have q0 : w4.cell? ⟨w2.heap.size, 0, none⟩ = some (.bool qf) := HP4.out.cell 0
            have q1 : w4.cell? ⟨w2.heap.size, 1, none⟩ = some (.string qlo) := HP4.out.cell 1
            have q2 : w4.cell? ⟨w2.heap.size, 2, none⟩ = some (.string qhi) := HP4.out.cell 2
            have q3 : w4.cell? ⟨w2.heap.size, 3, none⟩ = some (.int .i64 qr) := HP4.out.cell 3
            have q4 : w4.cell? ⟨w2.heap.size, 4, none⟩ = some (.slice none 0 0) := HP4.out.cell 4
            go_wp2_with fail
            clear q0 q1 q2 q3 q4
            refine (beside_any qf qlo qhi qr none 0 0 key _).mono ?_
            rintro e w5 ⟨hbs, hb5⟩
            have HK5 : Hid (Lk w w5 pf plo phi pr pp pn pc) := HK4.out.on hb5
            clear hb5
            rcases hbs with ⟨hc, rfl⟩ | ⟨hc, rfl⟩
            · have HF : Hid (out = (⟨En.zero, false, qr⟩, 0)) := by rw [Hid, ← HS2.out, hc]; rfl
              clear hc
              have b0 : w5.cell? ⟨w.heap.size + 1, 0, none⟩ = some (.string ⟨#[]⟩) := HK5.out.b1.cell 0
              have bf0 : w5.frozen? ⟨w.heap.size + 1, 0, none⟩ = false := HK5.out.b1.frozen 0
              have b1 : w5.cell? ⟨w.heap.size + 1, 1, none⟩ = some (.int .i64 0) := HK5.out.b1.cell 1
              have bf1 : w5.frozen? ⟨w.heap.size + 1, 1, none⟩ = false := HK5.out.b1.frozen 1
              have b2 : w5.cell? ⟨w.heap.size + 1, 2, none⟩ = some (.int .i64 0) := HK5.out.b1.cell 2
              have bf2 : w5.frozen? ⟨w.heap.size + 1, 2, none⟩ = false := HK5.out.b1.frozen 2
              have b3 : w5.cell? ⟨w.heap.size + 1, 3, none⟩ = some (.int .i64 0) := HK5.out.b1.cell 3
              have bf3 : w5.frozen? ⟨w.heap.size + 1, 3, none⟩ = false := HK5.out.b1.frozen 3
              have b4 : w5.cell? ⟨w.heap.size + 1, 4, none⟩ = some (.bool false) := HK5.out.b1.cell 4
              have bf4 : w5.frozen? ⟨w.heap.size + 1, 4, none⟩ = false := HK5.out.b1.frozen 4
              have b5 : w5.cell? ⟨w.heap.size + 1, 5, none⟩ = some (.int .i64 0) := HK5.out.b1.cell 5
              have bf5 : w5.frozen? ⟨w.heap.size + 1, 5, none⟩ = false := HK5.out.b1.frozen 5
              go_wp2
              clear b0 bf0 b1 bf1 b2 bf2 b3 bf3 b4 bf4 b5 bf5
              have k1 := HK5.out.b1.six (.string ⟨#[]⟩) (.int .i64 0) (.int .i64 0) (.int .i64 0) (.bool false) (.int .i64 qr)
              have ht : Tn [w.heap.size + 1] w5 _ := (Tn.refl _ w5).six (R := w.heap.size + 1) (.inl (by simp)) (.string ⟨#[]⟩) (.int .i64 0) (.int .i64 0) (.int .i64 0) (.bool false) (.int .i64 qr)
              refine bodyPost_ret (results_one (T' := 44) (cs := [.string ⟨#[]⟩, .int .i64 0, .int .i64 0, .int .i64 0, .bool false, .int .i64 qr]) rfl rfl sp_agg sp_size rfl k1) rfl ?_
              rw [HF.out]
              exact ⟨.inl ⟨rfl, rfl⟩, HK5.out.below.trans (ht.below HK5.out.below.size (by simp))⟩
            · have HF : Hid (out = (Sp.zero, 73)) := by rw [Hid, ← HS2.out, hc]; rfl
              refine ⟨rfl, ?_⟩
              rw [HF.out]
              exact ⟨.inr ⟨by decide, rfl⟩, HK5.out.below⟩
          | true =>
            rintro e w4 ⟨rfl, hb4⟩
            have HK4 : Hid (Lk w w4 pf plo phi pr pp pn pc) := HK3.out.on hb4
            have HP4 : Hid (Bk w4 w2.heap.size 24 #[.bool qf, .string qlo, .string qhi, .int .i64 qr, .slice none 0 0]) := HP3.out.below hb4 HP3.out.lt
            clear hb4
            have q0 : w4.cell? ⟨w2.heap.size, 0, none⟩ = some (.bool qf) := HP4.out.cell 0
            have qf0 : w4.frozen? ⟨w2.heap.size, 0, none⟩ = false := HP4.out.frozen 0
            have q1 : w4.cell? ⟨w2.heap.size, 1, none⟩ = some (.string qlo) := HP4.out.cell 1
            have qf1 : w4.frozen? ⟨w2.heap.size, 1, none⟩ = false := HP4.out.frozen 1
            have q2 : w4.cell? ⟨w2.heap.size, 2, none⟩ = some (.string qhi) := HP4.out.cell 2
            have qf2 : w4.frozen? ⟨w2.heap.size, 2, none⟩ = false := HP4.out.frozen 2
            have q3 : w4.cell? ⟨w2.heap.size, 3, none⟩ = some (.int .i64 qr) := HP4.out.cell 3
            have qf3 : w4.frozen? ⟨w2.heap.size, 3, none⟩ = false := HP4.out.frozen 3
            have q4 : w4.cell? ⟨w2.heap.size, 4, none⟩ = some (.slice none 0 0) := HP4.out.cell 4
            have qf4 : w4.frozen? ⟨w2.heap.size, 4, none⟩ = false := HP4.out.frozen 4
            have a0 : w4.cell? ⟨w.heap.size, 0, none⟩ = some (.bool pf) := HK4.out.b0.cell 0
            have a1 : w4.cell? ⟨w.heap.size, 1, none⟩ = some (.string plo) := HK4.out.b0.cell 1
            have a2 : w4.cell? ⟨w.heap.size, 2, none⟩ = some (.string phi) := HK4.out.b0.cell 2
            have a3 : w4.cell? ⟨w.heap.size, 3, none⟩ = some (.int .i64 pr) := HK4.out.b0.cell 3
            have a4 : w4.cell? ⟨w.heap.size, 4, none⟩ = some (.slice pp pn pc) := HK4.out.b0.cell 4
            cases qf with
            | false =>
              have HS2 : Hid (Dl.hitI (Pg.fnd false EL key) = out) := by rw [Hid, ← HS.out]; unfold Dl.says; simp only [hin]; rfl
              have HE2 : Hid _ := HE1.out (by simp) (by simp)
              go_wp2_with fail
              refine Calls.mono (HE2.out _ HK4.out.below) ?_
              rintro e w5 ⟨⟨q, m, c, rfl, hlm, hle, hmr⟩, hb5⟩
              have HK5 : Hid (Lk w w5 pf plo phi pr pp pn pc) := HK4.out.on hb5
              have HP5 : Hid (Bk w5 w2.heap.size 24 #[.bool false, .string qlo, .string qhi, .int .i64 qr, .slice none 0 0]) := HP4.out.below hb5 HP4.out.lt
              have HLM : Hid (EL.length = m) := hlm
              have HLE : Hid (Ens w5 q EL) := hle
              clear hb5 hlm hle
              clear q0 qf0 q1 qf1 q2 qf2 q3 qf3 q4 qf4
              clear a0 a1 a2 a3 a4
              have q0 : w5.cell? ⟨w2.heap.size, 0, none⟩ = some (.bool false) := HP5.out.cell 0
              have qf0 : w5.frozen? ⟨w2.heap.size, 0, none⟩ = false := HP5.out.frozen 0
              have q1 : w5.cell? ⟨w2.heap.size, 1, none⟩ = some (.string qlo) := HP5.out.cell 1
              have qf1 : w5.frozen? ⟨w2.heap.size, 1, none⟩ = false := HP5.out.frozen 1
              have q2 : w5.cell? ⟨w2.heap.size, 2, none⟩ = some (.string qhi) := HP5.out.cell 2
              have qf2 : w5.frozen? ⟨w2.heap.size, 2, none⟩ = false := HP5.out.frozen 2
              have q3 : w5.cell? ⟨w2.heap.size, 3, none⟩ = some (.int .i64 qr) := HP5.out.cell 3
              have qf3 : w5.frozen? ⟨w2.heap.size, 3, none⟩ = false := HP5.out.frozen 3
              have q4 : w5.cell? ⟨w2.heap.size, 4, none⟩ = some (.slice none 0 0) := HP5.out.cell 4
              have qf4 : w5.frozen? ⟨w2.heap.size, 4, none⟩ = false := HP5.out.frozen 4
              obtain ⟨w6, hw6⟩ : ∃ w6, w5.setCell ⟨w2.heap.size, 4, none⟩ (.slice q m c) = w6 := ⟨_, rfl⟩
              have ht6 : Tn [w2.heap.size] w5 w6 := by rw [← hw6]; exact (Tn.refl _ w5).setCell (.inl (by simp)) _
              have HP6 : Hid (Bk w6 w2.heap.size 24 #[.bool false, .string qlo, .string qhi, .int .i64 qr, .slice q m c]) := by rw [← hw6]; exact HP5.out.set 4 _
              have HK6 : Hid (Lk w w6 pf plo phi pr pp pn pc) := ⟨HK5.out.below.trans (ht6.below HK5.out.below.size (by have := HPW.out; simp; omega)), HK5.out.b0.tn ht6 (by have := HPW.out; simp; omega), HK5.out.b1.tn ht6 (by have := HPW.out; simp; omega)⟩
              have HL6 : Hid (Ens w6 q EL) := by rw [← hw6]; exact HLE.out.putSlice q4 _
              have y0 : w6.cell? ⟨w2.heap.size, 0, none⟩ = some (.bool false) := HP6.out.cell 0
              have y1 : w6.cell? ⟨w2.heap.size, 1, none⟩ = some (.string qlo) := HP6.out.cell 1
              have y2 : w6.cell? ⟨w2.heap.size, 2, none⟩ = some (.string qhi) := HP6.out.cell 2
              have y3 : w6.cell? ⟨w2.heap.size, 3, none⟩ = some (.int .i64 qr) := HP6.out.cell 3
              have y4 : w6.cell? ⟨w2.heap.size, 4, none⟩ = some (.slice q m c) := HP6.out.cell 4
              go_wp2_with fail
              clear hw6 ht6
              clear q0 qf0 q1 qf1 q2 qf2 q3 qf3 q4 qf4
              clear y0 y1 y2 y3 y4
              refine (below_any false qlo qhi qr q m c EL key _ HLM.out HL6.out hmr).mono ?_
              rw [HS2.out]
              rintro e w7 ⟨hd7, hb7⟩
              have HK7 : Hid (Lk w w7 pf plo phi pr pp pn pc) := HK6.out.on hb7
              clear hb7
              rcases hd7 with ⟨h0, rfl⟩ | ⟨h0, rfl⟩
              · obtain ⟨⟨⟨xk, xs, xg, xc⟩, xf, xgo⟩, kk⟩ := out
                simp only at h0
                subst h0
                have b0 : w7.cell? ⟨w.heap.size + 1, 0, none⟩ = some (.string ⟨#[]⟩) := HK7.out.b1.cell 0
                have bf0 : w7.frozen? ⟨w.heap.size + 1, 0, none⟩ = false := HK7.out.b1.frozen 0
                have b1 : w7.cell? ⟨w.heap.size + 1, 1, none⟩ = some (.int .i64 0) := HK7.out.b1.cell 1
                have bf1 : w7.frozen? ⟨w.heap.size + 1, 1, none⟩ = false := HK7.out.b1.frozen 1
                have b2 : w7.cell? ⟨w.heap.size + 1, 2, none⟩ = some (.int .i64 0) := HK7.out.b1.cell 2
                have bf2 : w7.frozen? ⟨w.heap.size + 1, 2, none⟩ = false := HK7.out.b1.frozen 2
                have b3 : w7.cell? ⟨w.heap.size + 1, 3, none⟩ = some (.int .i64 0) := HK7.out.b1.cell 3
                have bf3 : w7.frozen? ⟨w.heap.size + 1, 3, none⟩ = false := HK7.out.b1.frozen 3
                have b4 : w7.cell? ⟨w.heap.size + 1, 4, none⟩ = some (.bool false) := HK7.out.b1.cell 4
                have bf4 : w7.frozen? ⟨w.heap.size + 1, 4, none⟩ = false := HK7.out.b1.frozen 4
                have b5 : w7.cell? ⟨w.heap.size + 1, 5, none⟩ = some (.int .i64 0) := HK7.out.b1.cell 5
                have bf5 : w7.frozen? ⟨w.heap.size + 1, 5, none⟩ = false := HK7.out.b1.frozen 5
                go_wp2
                clear b0 bf0 b1 bf1 b2 bf2 b3 bf3 b4 bf4 b5 bf5
                have k1 := HK7.out.b1.six (.string xk) (.int .i64 xs) (.int .i64 xg) (.int .i64 xc) (.bool xf) (.int .i64 xgo)
                have ht : Tn [w.heap.size + 1] w7 _ := (Tn.refl _ w7).six (R := w.heap.size + 1) (.inl (by simp)) (.string xk) (.int .i64 xs) (.int .i64 xg) (.int .i64 xc) (.bool xf) (.int .i64 xgo)
                refine bodyPost_ret (results_one (T' := 44) (cs := [.string xk, .int .i64 xs, .int .i64 xg, .int .i64 xc, .bool xf, .int .i64 xgo]) rfl rfl sp_agg sp_size rfl k1) rfl ?_
                skip
                exact ⟨.inl ⟨rfl, rfl⟩, HK7.out.below.trans (ht.below HK7.out.below.size (by simp))⟩
              · refine ⟨rfl, ?_⟩
                exact ⟨.inr ⟨h0, rfl⟩, HK7.out.below⟩
            | true =>
              obtain ⟨fo, HFO⟩ : ∃ fo, Hid (Pg.find true (Dl.among ⟨pf, plo, phi, pr, pl⟩ key (L.map (·.d)) EL) key = fo) := ⟨_, rfl⟩
              have HS2 : Hid (Dl.hitL fo = out) := by rw [Hid, ← HS.out, ← HFO.out]; unfold Dl.says; simp only [hin]; rfl
              go_wp2_with fail
              refine (inLeaf_any pf plo phi pr pp pn pc pl key p len cap L EL _ HN.out (HX.out.below HK4.out.below (Nat.le_refl _)) hl HL.out hll (HD.out.below HK4.out.below (Nat.le_refl _)) (fun hm W hW => HE1.out (by simp) (by simp [hm]) W (HK4.out.below.trans (hW.mono HK4.out.below.size)))).mono ?_
              rw [HFO.out]
              rintro e w5 ⟨rfl, hb5⟩
              have HK5 : Hid (Lk w w5 pf plo phi pr pp pn pc) := HK4.out.on hb5
              clear hb5
              clear q0 qf0 q1 qf1 q2 qf2 q3 qf3 q4 qf4
              clear a0 a1 a2 a3 a4
              cases fo with
              | none =>
                have HF : Hid (out = (Sp.zero, 0)) := HS2.out.symm
                unfold fv
                simp only
                have HK6 : Hid (Lk w (w5.alloc (.cells #[.string ⟨#[]⟩, .int .i64 0, .int .i64 0, .int .i64 0] 30)) pf plo phi pr pp pn pc) := HK5.out.on ((Below.refl _ _).alloc (Nat.le_refl _) _)
                have b0 : (w5.alloc (.cells #[.string ⟨#[]⟩, .int .i64 0, .int .i64 0, .int .i64 0] 30)).cell? ⟨w.heap.size + 1, 0, none⟩ = some (.string ⟨#[]⟩) := HK6.out.b1.cell 0
                have bf0 : (w5.alloc (.cells #[.string ⟨#[]⟩, .int .i64 0, .int .i64 0, .int .i64 0] 30)).frozen? ⟨w.heap.size + 1, 0, none⟩ = false := HK6.out.b1.frozen 0
                have b1 : (w5.alloc (.cells #[.string ⟨#[]⟩, .int .i64 0, .int .i64 0, .int .i64 0] 30)).cell? ⟨w.heap.size + 1, 1, none⟩ = some (.int .i64 0) := HK6.out.b1.cell 1
                have bf1 : (w5.alloc (.cells #[.string ⟨#[]⟩, .int .i64 0, .int .i64 0, .int .i64 0] 30)).frozen? ⟨w.heap.size + 1, 1, none⟩ = false := HK6.out.b1.frozen 1
                have b2 : (w5.alloc (.cells #[.string ⟨#[]⟩, .int .i64 0, .int .i64 0, .int .i64 0] 30)).cell? ⟨w.heap.size + 1, 2, none⟩ = some (.int .i64 0) := HK6.out.b1.cell 2
                have bf2 : (w5.alloc (.cells #[.string ⟨#[]⟩, .int .i64 0, .int .i64 0, .int .i64 0] 30)).frozen? ⟨w.heap.size + 1, 2, none⟩ = false := HK6.out.b1.frozen 2
                have b3 : (w5.alloc (.cells #[.string ⟨#[]⟩, .int .i64 0, .int .i64 0, .int .i64 0] 30)).cell? ⟨w.heap.size + 1, 3, none⟩ = some (.int .i64 0) := HK6.out.b1.cell 3
                have bf3 : (w5.alloc (.cells #[.string ⟨#[]⟩, .int .i64 0, .int .i64 0, .int .i64 0] 30)).frozen? ⟨w.heap.size + 1, 3, none⟩ = false := HK6.out.b1.frozen 3
                have b4 : (w5.alloc (.cells #[.string ⟨#[]⟩, .int .i64 0, .int .i64 0, .int .i64 0] 30)).cell? ⟨w.heap.size + 1, 4, none⟩ = some (.bool false) := HK6.out.b1.cell 4
                have bf4 : (w5.alloc (.cells #[.string ⟨#[]⟩, .int .i64 0, .int .i64 0, .int .i64 0] 30)).frozen? ⟨w.heap.size + 1, 4, none⟩ = false := HK6.out.b1.frozen 4
                have b5 : (w5.alloc (.cells #[.string ⟨#[]⟩, .int .i64 0, .int .i64 0, .int .i64 0] 30)).cell? ⟨w.heap.size + 1, 5, none⟩ = some (.int .i64 0) := HK6.out.b1.cell 5
                have bf5 : (w5.alloc (.cells #[.string ⟨#[]⟩, .int .i64 0, .int .i64 0, .int .i64 0] 30)).frozen? ⟨w.heap.size + 1, 5, none⟩ = false := HK6.out.b1.frozen 5
                go_wp2
                clear b0 bf0 b1 bf1 b2 bf2 b3 bf3 b4 bf4 b5 bf5
                have k1 := HK6.out.b1.six (.string ⟨#[]⟩) (.int .i64 0) (.int .i64 0) (.int .i64 0) (.bool false) (.int .i64 0)
                have ht : Tn [w.heap.size + 1] (w5.alloc (.cells #[.string ⟨#[]⟩, .int .i64 0, .int .i64 0, .int .i64 0] 30)) _ := (Tn.refl _ (w5.alloc (.cells #[.string ⟨#[]⟩, .int .i64 0, .int .i64 0, .int .i64 0] 30))).six (R := w.heap.size + 1) (.inl (by simp)) (.string ⟨#[]⟩) (.int .i64 0) (.int .i64 0) (.int .i64 0) (.bool false) (.int .i64 0)
                refine bodyPost_ret (results_one (T' := 44) (cs := [.string ⟨#[]⟩, .int .i64 0, .int .i64 0, .int .i64 0, .bool false, .int .i64 0]) rfl rfl sp_agg sp_size rfl k1) rfl ?_
                rw [HF.out]
                exact ⟨.inl ⟨rfl, rfl⟩, HK6.out.below.trans (ht.below HK6.out.below.size (by simp))⟩
              | some x =>
                obtain ⟨xk, xs, xg, xc⟩ := x
                have HF : Hid (out = (⟨⟨xk, xs, xg, xc⟩, true, 0⟩, 0)) := HS2.out.symm
                unfold fv
                simp only
                have HK6 : Hid (Lk w (w5.alloc (.cells #[.string xk, .int .i64 xs, .int .i64 xg, .int .i64 xc] 30)) pf plo phi pr pp pn pc) := HK5.out.on ((Below.refl _ _).alloc (Nat.le_refl _) _)
                have b0 : (w5.alloc (.cells #[.string xk, .int .i64 xs, .int .i64 xg, .int .i64 xc] 30)).cell? ⟨w.heap.size + 1, 0, none⟩ = some (.string ⟨#[]⟩) := HK6.out.b1.cell 0
                have bf0 : (w5.alloc (.cells #[.string xk, .int .i64 xs, .int .i64 xg, .int .i64 xc] 30)).frozen? ⟨w.heap.size + 1, 0, none⟩ = false := HK6.out.b1.frozen 0
                have b1 : (w5.alloc (.cells #[.string xk, .int .i64 xs, .int .i64 xg, .int .i64 xc] 30)).cell? ⟨w.heap.size + 1, 1, none⟩ = some (.int .i64 0) := HK6.out.b1.cell 1
                have bf1 : (w5.alloc (.cells #[.string xk, .int .i64 xs, .int .i64 xg, .int .i64 xc] 30)).frozen? ⟨w.heap.size + 1, 1, none⟩ = false := HK6.out.b1.frozen 1
                have b2 : (w5.alloc (.cells #[.string xk, .int .i64 xs, .int .i64 xg, .int .i64 xc] 30)).cell? ⟨w.heap.size + 1, 2, none⟩ = some (.int .i64 0) := HK6.out.b1.cell 2
                have bf2 : (w5.alloc (.cells #[.string xk, .int .i64 xs, .int .i64 xg, .int .i64 xc] 30)).frozen? ⟨w.heap.size + 1, 2, none⟩ = false := HK6.out.b1.frozen 2
                have b3 : (w5.alloc (.cells #[.string xk, .int .i64 xs, .int .i64 xg, .int .i64 xc] 30)).cell? ⟨w.heap.size + 1, 3, none⟩ = some (.int .i64 0) := HK6.out.b1.cell 3
                have bf3 : (w5.alloc (.cells #[.string xk, .int .i64 xs, .int .i64 xg, .int .i64 xc] 30)).frozen? ⟨w.heap.size + 1, 3, none⟩ = false := HK6.out.b1.frozen 3
                have b4 : (w5.alloc (.cells #[.string xk, .int .i64 xs, .int .i64 xg, .int .i64 xc] 30)).cell? ⟨w.heap.size + 1, 4, none⟩ = some (.bool false) := HK6.out.b1.cell 4
                have bf4 : (w5.alloc (.cells #[.string xk, .int .i64 xs, .int .i64 xg, .int .i64 xc] 30)).frozen? ⟨w.heap.size + 1, 4, none⟩ = false := HK6.out.b1.frozen 4
                have b5 : (w5.alloc (.cells #[.string xk, .int .i64 xs, .int .i64 xg, .int .i64 xc] 30)).cell? ⟨w.heap.size + 1, 5, none⟩ = some (.int .i64 0) := HK6.out.b1.cell 5
                have bf5 : (w5.alloc (.cells #[.string xk, .int .i64 xs, .int .i64 xg, .int .i64 xc] 30)).frozen? ⟨w.heap.size + 1, 5, none⟩ = false := HK6.out.b1.frozen 5
                go_wp2
                clear b0 bf0 b1 bf1 b2 bf2 b3 bf3 b4 bf4 b5 bf5
                have k1 := HK6.out.b1.six (.string xk) (.int .i64 xs) (.int .i64 xg) (.int .i64 xc) (.bool true) (.int .i64 0)
                have ht : Tn [w.heap.size + 1] (w5.alloc (.cells #[.string xk, .int .i64 xs, .int .i64 xg, .int .i64 xc] 30)) _ := (Tn.refl _ (w5.alloc (.cells #[.string xk, .int .i64 xs, .int .i64 xg, .int .i64 xc] 30))).six (R := w.heap.size + 1) (.inl (by simp)) (.string xk) (.int .i64 xs) (.int .i64 xg) (.int .i64 xc) (.bool true) (.int .i64 0)
                refine bodyPost_ret (results_one (T' := 44) (cs := [.string xk, .int .i64 xs, .int .i64 xg, .int .i64 xc, .bool true, .int .i64 0]) rfl rfl sp_agg sp_size rfl k1) rfl ?_
                rw [HF.out]
                exact ⟨.inl ⟨rfl, rfl⟩, HK6.out.below.trans (ht.below HK6.out.below.size (by simp))⟩
        · have HF : Hid (out = (Sp.zero, kk)) := by rw [Hid, ← HS.out]; unfold Dl.says; rw [if_pos h0]
          refine ⟨rfl, ?_⟩
          rw [HF.out]
          exact ⟨.inr ⟨h0, rfl⟩, HK2.out.below⟩

end Go.Proofs.YthpilennljpamaaGreat
