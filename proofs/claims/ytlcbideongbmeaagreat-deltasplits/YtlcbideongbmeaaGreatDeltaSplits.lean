/- DeltaSplits: behind a split the page has the keys below what parts it, and says of the others where they are. -/
import Derived.Test.YtlcbideongbmeaaGreatDeltaSplitsB
import Derived.Test.YtlcbideongbmeaaGreatPgM
import Derived.ProofKit
import Derived.OpenShut
import Derived.ShutString
import Derived.ChangeOld
import Derived.SizedLaws
import Derived.JoinedCond
import Derived.Deep.Slices
import Derived.Test.YtlcbideongbmeaaGreatDlM
import Derived.Laws.Concat
namespace Go.Proofs.YtlcbideongbmeaaGreat
open Go.RowKit Go.Sort
set_option linter.unusedVariables false
set_option maxRecDepth 100000

/-- Where a page is that the newest delta says is gone. -/
def Dl.gone : List De → Option Int
  | [] => none
  | d :: _ => if (d.k == 5) && Dl.may d then some d.pg else none

/-- What the folded page says of a key: o is its outline, EL its entries. -/
def Dl.says (g : Pp) (key : ByteArray) (ds : List De) (EL : List En) (o : Pp × Int) : Sp × Int :=
  if o.2 ≠ 0 then (Sp.zero, o.2)
  else if Ky.inn ⟨o.1.lo, o.1.hi⟩ key = false then (if (Ky.lt key o.1.lo || o.1.r == 0) = true then (Sp.zero, 73) else (⟨En.zero, false, o.1.r⟩, 0))
  else if o.1.leaf = false then Dl.hitI (Pg.fnd false EL key)
  else Dl.hitL (Pg.find true (Dl.among g key ds EL) key)

def Dl.look (g : Pp) (key : ByteArray) (ds : List De) (EL : List En) : Sp × Int :=
  match Dl.gone ds with
  | some n => (⟨En.zero, false, n⟩, 0)
  | none => Dl.says g key ds EL (Dl.outl g ds.reverse)

theorem Led.own {w W : World} {l : List En} {e : Ending} {w' : World} (h : Led W l e w') (hb : Below w.heap.size w W) : Led w l e w' := ⟨h.1, hb.trans (h.2.mono hb.size)⟩

/-- The part behind the outline. -/
structure Lk (w W : World) (pf : Bool) (plo phi : ByteArray) (pr : Int) (pp : Option Addr) (pn pc : Nat) : Prop where
  below : Below w.heap.size w W
  b0 : Bk W w.heap.size 24 #[.bool pf, .string plo, .string phi, .int .i64 pr, .slice pp pn pc]
  b1 : Bk W (w.heap.size + 1) 44 #[.string ⟨#[]⟩, .int .i64 0, .int .i64 0, .int .i64 0, .bool false, .int .i64 0]

theorem Lk.on {w W W' : World} {pf : Bool} {plo phi : ByteArray} {pr : Int} {pp : Option Addr} {pn pc : Nat} (h : Lk w W pf plo phi pr pp pn pc) (hb : Below W.heap.size W W') : Lk w W' pf plo phi pr pp pn pc :=
  ⟨h.below.trans (hb.mono h.below.size), h.b0.below hb h.b0.lt, h.b1.below hb h.b1.lt⟩

set_option maxHeartbeats 8000000 in
theorem looked_any (pf : Bool) (plo phi : ByteArray) (pr : Int) (pp : Option Addr) (pn pc : Nat) (pl : List En) (key : ByteArray) (p : Option Addr) (len cap : Nat) (L : List Dm) (EL : List En) (w : World) (hlen : pl.length = pn) (hx : Ens w pp pl) (hl : pn ≤ 3518437208780) (hL : L.length = len) (hll : len ≤ 4398046511104) (hD : Des w p L)
    (hE : (Dl.outl ⟨pf, plo, phi, pr, pl⟩ (L.map (·.d)).reverse).2 = 0 → ((Dl.outl ⟨pf, plo, phi, pr, pl⟩ (L.map (·.d)).reverse).1.leaf = false ∨ Pg.may pf ⟨plo, phi⟩ pr pl = false) → ∀ W, Below w.heap.size w W → Calls Tryz.prog 54 #[pgv pf plo phi pr pp pn pc, .slice p len cap] W fun e w' => Led W EL e w') :
    Calls Tryz.prog 37 #[pgv pf plo phi pr pp pn pc, .string key, .slice p len cap] w fun e w' => DoneS w (Dl.look ⟨pf, plo, phi, pr, pl⟩ key (L.map (·.d)) EL) e w' := by
  obtain ⟨out, HO⟩ : ∃ out, Hid (Dl.look ⟨pf, plo, phi, pr, pl⟩ key (L.map (·.d)) EL = out) := ⟨_, rfl⟩
  rw [HO.out]
  have HX : Hid (Ens w pp pl) := hx
  have HN : Hid (pl.length = pn) := hlen
  have HL : Hid (L.length = len) := hL
  have HD : Hid (Des w p L) := hD
  have HE : Hid _ := hE
  clear hx hlen hL hD hE
  obtain ⟨w0, hw0⟩ : ∃ w0, (w.alloc (.cells #[.bool pf, .string plo, .string phi, .int .i64 pr, .slice pp pn pc] 24)).alloc (.cells #[.string ⟨#[]⟩, .int .i64 0, .int .i64 0, .int .i64 0, .bool false, .int .i64 0] 44) = w0 := ⟨_, rfl⟩
  have HK0 : Hid (Lk w w0 pf plo phi pr pp pn pc) := by rw [← hw0]; exact ⟨((Below.refl _ _).alloc (Nat.le_refl _) _).alloc (by simp) _, (Bk.new _ _ _).alloc _, Bk.new1 _ _ _ _⟩
  -- what is behind the first test, where it is not met
  have HREST : Hid (∀ (W : World) (Q : Exit → Act → World → Prop) (u : Nat → Value) (a : Act), True) := fun _ _ _ _ => trivial
  clear HREST
  go_enter Tryz.func37, Tryz.ntmps37
  have a0 : w0.cell? ⟨w.heap.size, 0, none⟩ = some (.bool pf) := HK0.out.b0.cell 0
  have a1 : w0.cell? ⟨w.heap.size, 1, none⟩ = some (.string plo) := HK0.out.b0.cell 1
  have a2 : w0.cell? ⟨w.heap.size, 2, none⟩ = some (.string phi) := HK0.out.b0.cell 2
  have a3 : w0.cell? ⟨w.heap.size, 3, none⟩ = some (.int .i64 pr) := HK0.out.b0.cell 3
  have a4 : w0.cell? ⟨w.heap.size, 4, none⟩ = some (.slice pp pn pc) := HK0.out.b0.cell 4
  have b0 : w0.cell? ⟨w.heap.size + 1, 0, none⟩ = some (.string ⟨#[]⟩) := HK0.out.b1.cell 0
  have bf0 : w0.frozen? ⟨w.heap.size + 1, 0, none⟩ = false := HK0.out.b1.frozen 0
  have b1 : w0.cell? ⟨w.heap.size + 1, 1, none⟩ = some (.int .i64 0) := HK0.out.b1.cell 1
  have bf1 : w0.frozen? ⟨w.heap.size + 1, 1, none⟩ = false := HK0.out.b1.frozen 1
  have b2 : w0.cell? ⟨w.heap.size + 1, 2, none⟩ = some (.int .i64 0) := HK0.out.b1.cell 2
  have bf2 : w0.frozen? ⟨w.heap.size + 1, 2, none⟩ = false := HK0.out.b1.frozen 2
  have b3 : w0.cell? ⟨w.heap.size + 1, 3, none⟩ = some (.int .i64 0) := HK0.out.b1.cell 3
  have bf3 : w0.frozen? ⟨w.heap.size + 1, 3, none⟩ = false := HK0.out.b1.frozen 3
  have b4 : w0.cell? ⟨w.heap.size + 1, 4, none⟩ = some (.bool false) := HK0.out.b1.cell 4
  have bf4 : w0.frozen? ⟨w.heap.size + 1, 4, none⟩ = false := HK0.out.b1.frozen 4
  have b5 : w0.cell? ⟨w.heap.size + 1, 5, none⟩ = some (.int .i64 0) := HK0.out.b1.cell 5
  have bf5 : w0.frozen? ⟨w.heap.size + 1, 5, none⟩ = false := HK0.out.b1.frozen 5
  cases hg : Dl.gone (L.map (·.d)) with
  | some n =>
    have HF : Hid (out = (⟨En.zero, false, n⟩, 0)) := by rw [Hid, ← HO.out]; unfold Dl.look; rw [hg]
    clear HO HE
    cases L with
    | nil => simp [Dl.gone] at hg
    | cons m r =>
      obtain ⟨b, o, rfl, hc⟩ := HD.out.below HK0.out.below (Nat.le_refl _) (by simp)
      obtain ⟨hcx, hOk⟩ := hc 0 m rfl
      simp only [List.map_cons, Dl.gone] at hg
      cases h5 : ((m.d.k == 5) && Dl.may m.d) with
      | false => rw [h5] at hg; simp at hg
      | true =>
        rw [h5] at hg
        simp only [if_true, Option.some.injEq] at hg
        rw [Bool.and_eq_true] at h5
        obtain ⟨h5, hmay⟩ := h5
        have h5' : m.d.k = 5 := by simpa using h5
        obtain ⟨⟨dk, ⟨dek, des, deg, dec⟩, dkey, dpg, ⟨dleaf, dlo, dhi, dr, dl⟩⟩, dp, dn, dc⟩ := m
        simp only at h5' hg
        subst h5' hg
        have hlen1 : (0 : Int) < (len : Int) := by have := HL.out; simp at this; omega
        have hlen2 : decide ((len : Int) > 0) = true := decide_eq_true hlen1
        have hlen3 : 0 < len := by omega
        have z0 := hcx 0 _ rfl
        have z1 := hcx 1 _ rfl
        have z2 := hcx 2 _ rfl
        have z3 := hcx 3 _ rfl
        have z4 := hcx 4 _ rfl
        have z5 := hcx 5 _ rfl
        have z6 := hcx 6 _ rfl
        have z7 := hcx 7 _ rfl
        have z8 := hcx 8 _ rfl
        have z9 := hcx 9 _ rfl
        have z10 := hcx 10 _ rfl
        have z11 := hcx 11 _ rfl
        simp only [Nat.zero_mul, Nat.add_zero] at z0 z1 z2 z3 z4 z5 z6 z7 z8 z9 z10 z11
        have HOK : Hid (Dm.Ok w0 ⟨⟨5, ⟨dek, des, deg, dec⟩, dkey, dpg, ⟨dleaf, dlo, dhi, dr, dl⟩⟩, dp, dn, dc⟩) := hOk
        have HM : Hid (Dl.may ⟨5, ⟨dek, des, deg, dec⟩, dkey, dpg, ⟨dleaf, dlo, dhi, dr, dl⟩⟩ = true) := hmay
        clear hcx hc hOk hmay
        have hz0 : w0.cell? ⟨b, o, none⟩ = some (.int .i64 5) := z0
        go_wp2_with fail
        refine (dcheck_any ⟨5, ⟨dek, des, deg, dec⟩, dkey, dpg, ⟨dleaf, dlo, dhi, dr, dl⟩⟩ dp dn dc _ HOK.out.len HOK.out.ens (by have := HOK.out.room; simp only at this; omega)).mono ?_
        rw [HM.out]
        rintro e w1 ⟨rfl, hb1⟩
        have HK1 : Hid (Lk w w1 pf plo phi pr pp pn pc) := HK0.out.on hb1
        have hz6 : w1.cell? ⟨b, o + 6, none⟩ = some (.int .i64 dpg) := by rw [hb1.cell (World.block_lt_of_cell? w0 _ z6)]; exact z6
        clear a0 a1 a2 a3 a4
        clear b0 bf0 b1 bf1 b2 bf2 b3 bf3 b4 bf4 b5 bf5
        clear hb1 hz0 z0 z1 z2 z3 z4 z5 z6 z7 z8 z9 z10 z11 hw0
        simp only [if_true]
        have b0 : w1.cell? ⟨w.heap.size + 1, 0, none⟩ = some (.string ⟨#[]⟩) := HK1.out.b1.cell 0
        have bf0 : w1.frozen? ⟨w.heap.size + 1, 0, none⟩ = false := HK1.out.b1.frozen 0
        have b1 : w1.cell? ⟨w.heap.size + 1, 1, none⟩ = some (.int .i64 0) := HK1.out.b1.cell 1
        have bf1 : w1.frozen? ⟨w.heap.size + 1, 1, none⟩ = false := HK1.out.b1.frozen 1
        have b2 : w1.cell? ⟨w.heap.size + 1, 2, none⟩ = some (.int .i64 0) := HK1.out.b1.cell 2
        have bf2 : w1.frozen? ⟨w.heap.size + 1, 2, none⟩ = false := HK1.out.b1.frozen 2
        have b3 : w1.cell? ⟨w.heap.size + 1, 3, none⟩ = some (.int .i64 0) := HK1.out.b1.cell 3
        have bf3 : w1.frozen? ⟨w.heap.size + 1, 3, none⟩ = false := HK1.out.b1.frozen 3
        have b4 : w1.cell? ⟨w.heap.size + 1, 4, none⟩ = some (.bool false) := HK1.out.b1.cell 4
        have bf4 : w1.frozen? ⟨w.heap.size + 1, 4, none⟩ = false := HK1.out.b1.frozen 4
        have b5 : w1.cell? ⟨w.heap.size + 1, 5, none⟩ = some (.int .i64 0) := HK1.out.b1.cell 5
        have bf5 : w1.frozen? ⟨w.heap.size + 1, 5, none⟩ = false := HK1.out.b1.frozen 5
        go_wp2
        clear b0 bf0 b1 bf1 b2 bf2 b3 bf3 b4 bf4 b5 bf5
        have k1 := HK1.out.b1.six (.string ⟨#[]⟩) (.int .i64 0) (.int .i64 0) (.int .i64 0) (.bool false) (.int .i64 dpg)
        have ht : Tn [w.heap.size + 1] w1 _ := (Tn.refl _ w1).six (R := w.heap.size + 1) (.inl (by simp)) (.string ⟨#[]⟩) (.int .i64 0) (.int .i64 0) (.int .i64 0) (.bool false) (.int .i64 dpg)
        refine bodyPost_ret (results_one (T' := 44) (cs := [.string ⟨#[]⟩, .int .i64 0, .int .i64 0, .int .i64 0, .bool false, .int .i64 dpg]) rfl rfl sp_agg sp_size rfl k1) rfl ?_
        rw [HF.out]
        exact ⟨.inl ⟨rfl, rfl⟩, HK1.out.below.trans (ht.below HK1.out.below.size (by simp))⟩
  | none =>
    have HSAY : Hid (Dl.says ⟨pf, plo, phi, pr, pl⟩ key (L.map (·.d)) EL (Dl.outl ⟨pf, plo, phi, pr, pl⟩ (L.map (·.d)).reverse) = out) := by rw [Hid, ← HO.out]; unfold Dl.look; rw [hg]
    clear HO
    by_cases hz : len = 0
    · have hlen1 : ¬ (len : Int) > 0 := by omega
      have hlen2 : decide ((len : Int) > 0) = false := decide_eq_false hlen1
      have hlen3 : decide ((0 : Int) < (len : Int)) = false := decide_eq_false (by omega)
      have hlen4 : ¬ 0 < len := by omega
      have HZ : Hid (len = 0) := hz
      clear hz
      go_wp2_with fail
      clear hw0
      clear a0 a1 a2 a3 a4
      clear b0 bf0 b1 bf1 b2 bf2 b3 bf3 b4 bf4 b5 bf5
      refine (outline_any ⟨pf, plo, phi, pr, pl⟩ pp pn pc p len cap L _ HL.out hll (HD.out.below HK0.out.below (Nat.le_refl _))).mono ?_
      have HS : Hid (Dl.says ⟨pf, plo, phi, pr, pl⟩ key (L.map (·.d)) EL (Dl.outl ⟨pf, plo, phi, pr, pl⟩ (L.map (·.d)).reverse) = out) := HSAY.out
      have HE1 : Hid _ := HE.out
      obtain ⟨⟨⟨qf, qlo, qhi, qr, ql⟩, kk⟩, hO⟩ : ∃ o, Dl.outl ⟨pf, plo, phi, pr, pl⟩ (L.map (·.d)).reverse = o := ⟨_, rfl⟩
      rw [hO] at HS HE1
      rw [hO]
      rintro e w2 ⟨hd, hb2⟩
      have HK2 : Hid (Lk w w2 pf plo phi pr pp pn pc) := HK0.out.on hb2
      clear hb2 hO
      simp only at hd
      rcases hd with ⟨h0, rfl⟩ | ⟨h0, rfl⟩
      · subst h0
        obtain ⟨w3, hw3⟩ : ∃ w3, w3 = w2.alloc (.cells #[.bool qf, .string qlo, .string qhi, .int .i64 qr, .slice none 0 0] 24) := ⟨_, rfl⟩
        have HK3 : Hid (Lk w w3 pf plo phi pr pp pn pc) := by rw [hw3]; exact HK2.out.on ((Below.refl _ _).alloc (Nat.le_refl _) _)
        have HP3 : Hid (Bk w3 w2.heap.size 24 #[.bool qf, .string qlo, .string qhi, .int .i64 qr, .slice none 0 0]) := by rw [hw3]; exact Bk.new _ _ _
        have HPW : Hid (w.heap.size + 1 < w2.heap.size) := HK2.out.b1.lt
        go_wp2_with fail
        rw [← hw3]
        clear hw3
        refine (has_any qf qlo qhi qr none 0 0 _ key).mono ?_
        cases hin : Ky.inn ⟨qlo, qhi⟩ key with
        | false =>
          have HS2 : Hid ((if (Ky.lt key qlo || qr == 0) = true then (Sp.zero, 73) else (⟨En.zero, false, qr⟩, 0)) = out) := by rw [Hid, ← HS.out]; unfold Dl.says; simp only [hin]; rfl
          rintro e w4 ⟨rfl, hb4⟩
          have HK4 : Hid (Lk w w4 pf plo phi pr pp pn pc) := HK3.out.on hb4
          have HP4 : Hid (Bk w4 w2.heap.size 24 #[.bool qf, .string qlo, .string qhi, .int .i64 qr, .slice none 0 0]) := HP3.out.below hb4 HP3.out.lt
          clear hb4 hin
          have q0 : w4.cell? ⟨w2.heap.size, 0, none⟩ = some (.bool qf) := HP4.out.cell 0
          have q1 : w4.cell? ⟨w2.heap.size, 1, none⟩ = some (.string qlo) := HP4.out.cell 1
          have q2 : w4.cell? ⟨w2.heap.size, 2, none⟩ = some (.string qhi) := HP4.out.cell 2
          have q3 : w4.cell? ⟨w2.heap.size, 3, none⟩ = some (.int .i64 qr) := HP4.out.cell 3
          have q4 : w4.cell? ⟨w2.heap.size, 4, none⟩ = some (.slice none 0 0) := HP4.out.cell 4
          go_wp2_with fail
          clear q0 q1 q2 q3 q4
          refine (beside_any qf qlo qhi qr none 0 0 key _).mono ?_
          rintro e w5 ⟨hbs, hb5⟩
          have HK5 : Hid (Lk w w5 pf plo phi pr pp pn pc) := HK4.out.on hb5
          clear hb5
          rcases hbs with ⟨hc, rfl⟩ | ⟨hc, rfl⟩
          · have HF : Hid (out = (⟨En.zero, false, qr⟩, 0)) := by rw [Hid, ← HS2.out, hc]; rfl
            clear hc
            have b0 : w5.cell? ⟨w.heap.size + 1, 0, none⟩ = some (.string ⟨#[]⟩) := HK5.out.b1.cell 0
            have bf0 : w5.frozen? ⟨w.heap.size + 1, 0, none⟩ = false := HK5.out.b1.frozen 0
            have b1 : w5.cell? ⟨w.heap.size + 1, 1, none⟩ = some (.int .i64 0) := HK5.out.b1.cell 1
            have bf1 : w5.frozen? ⟨w.heap.size + 1, 1, none⟩ = false := HK5.out.b1.frozen 1
            have b2 : w5.cell? ⟨w.heap.size + 1, 2, none⟩ = some (.int .i64 0) := HK5.out.b1.cell 2
            have bf2 : w5.frozen? ⟨w.heap.size + 1, 2, none⟩ = false := HK5.out.b1.frozen 2
            have b3 : w5.cell? ⟨w.heap.size + 1, 3, none⟩ = some (.int .i64 0) := HK5.out.b1.cell 3
            have bf3 : w5.frozen? ⟨w.heap.size + 1, 3, none⟩ = false := HK5.out.b1.frozen 3
            have b4 : w5.cell? ⟨w.heap.size + 1, 4, none⟩ = some (.bool false) := HK5.out.b1.cell 4
            have bf4 : w5.frozen? ⟨w.heap.size + 1, 4, none⟩ = false := HK5.out.b1.frozen 4
            have b5 : w5.cell? ⟨w.heap.size + 1, 5, none⟩ = some (.int .i64 0) := HK5.out.b1.cell 5
            have bf5 : w5.frozen? ⟨w.heap.size + 1, 5, none⟩ = false := HK5.out.b1.frozen 5
            go_wp2
            clear b0 bf0 b1 bf1 b2 bf2 b3 bf3 b4 bf4 b5 bf5
            have k1 := HK5.out.b1.six (.string ⟨#[]⟩) (.int .i64 0) (.int .i64 0) (.int .i64 0) (.bool false) (.int .i64 qr)
            have ht : Tn [w.heap.size + 1] w5 _ := (Tn.refl _ w5).six (R := w.heap.size + 1) (.inl (by simp)) (.string ⟨#[]⟩) (.int .i64 0) (.int .i64 0) (.int .i64 0) (.bool false) (.int .i64 qr)
            refine bodyPost_ret (results_one (T' := 44) (cs := [.string ⟨#[]⟩, .int .i64 0, .int .i64 0, .int .i64 0, .bool false, .int .i64 qr]) rfl rfl sp_agg sp_size rfl k1) rfl ?_
            rw [HF.out]
            exact ⟨.inl ⟨rfl, rfl⟩, HK5.out.below.trans (ht.below HK5.out.below.size (by simp))⟩
          · have HF : Hid (out = (Sp.zero, 73)) := by rw [Hid, ← HS2.out, hc]; rfl
            refine ⟨rfl, ?_⟩
            rw [HF.out]
            exact ⟨.inr ⟨by decide, rfl⟩, HK5.out.below⟩
        | true =>
          rintro e w4 ⟨rfl, hb4⟩
          have HK4 : Hid (Lk w w4 pf plo phi pr pp pn pc) := HK3.out.on hb4
          have HP4 : Hid (Bk w4 w2.heap.size 24 #[.bool qf, .string qlo, .string qhi, .int .i64 qr, .slice none 0 0]) := HP3.out.below hb4 HP3.out.lt
          clear hb4
          have q0 : w4.cell? ⟨w2.heap.size, 0, none⟩ = some (.bool qf) := HP4.out.cell 0
          have qf0 : w4.frozen? ⟨w2.heap.size, 0, none⟩ = false := HP4.out.frozen 0
          have q1 : w4.cell? ⟨w2.heap.size, 1, none⟩ = some (.string qlo) := HP4.out.cell 1
          have qf1 : w4.frozen? ⟨w2.heap.size, 1, none⟩ = false := HP4.out.frozen 1
          have q2 : w4.cell? ⟨w2.heap.size, 2, none⟩ = some (.string qhi) := HP4.out.cell 2
          have qf2 : w4.frozen? ⟨w2.heap.size, 2, none⟩ = false := HP4.out.frozen 2
          have q3 : w4.cell? ⟨w2.heap.size, 3, none⟩ = some (.int .i64 qr) := HP4.out.cell 3
          have qf3 : w4.frozen? ⟨w2.heap.size, 3, none⟩ = false := HP4.out.frozen 3
          have q4 : w4.cell? ⟨w2.heap.size, 4, none⟩ = some (.slice none 0 0) := HP4.out.cell 4
          have qf4 : w4.frozen? ⟨w2.heap.size, 4, none⟩ = false := HP4.out.frozen 4
          have a0 : w4.cell? ⟨w.heap.size, 0, none⟩ = some (.bool pf) := HK4.out.b0.cell 0
          have a1 : w4.cell? ⟨w.heap.size, 1, none⟩ = some (.string plo) := HK4.out.b0.cell 1
          have a2 : w4.cell? ⟨w.heap.size, 2, none⟩ = some (.string phi) := HK4.out.b0.cell 2
          have a3 : w4.cell? ⟨w.heap.size, 3, none⟩ = some (.int .i64 pr) := HK4.out.b0.cell 3
          have a4 : w4.cell? ⟨w.heap.size, 4, none⟩ = some (.slice pp pn pc) := HK4.out.b0.cell 4
          cases qf with
          | false =>
            have HS2 : Hid (Dl.hitI (Pg.fnd false EL key) = out) := by rw [Hid, ← HS.out]; unfold Dl.says; simp only [hin]; rfl
            have HE2 : Hid _ := HE1.out (by simp) (by simp)
            go_wp2_with fail
            refine Calls.mono (HE2.out _ HK4.out.below) ?_
            rintro e w5 ⟨⟨q, m, c, rfl, hlm, hle, hmr⟩, hb5⟩
            have HK5 : Hid (Lk w w5 pf plo phi pr pp pn pc) := HK4.out.on hb5
            have HP5 : Hid (Bk w5 w2.heap.size 24 #[.bool false, .string qlo, .string qhi, .int .i64 qr, .slice none 0 0]) := HP4.out.below hb5 HP4.out.lt
            have HLM : Hid (EL.length = m) := hlm
            have HLE : Hid (Ens w5 q EL) := hle
            clear hb5 hlm hle
            clear q0 qf0 q1 qf1 q2 qf2 q3 qf3 q4 qf4
            clear a0 a1 a2 a3 a4
            have q0 : w5.cell? ⟨w2.heap.size, 0, none⟩ = some (.bool false) := HP5.out.cell 0
            have qf0 : w5.frozen? ⟨w2.heap.size, 0, none⟩ = false := HP5.out.frozen 0
            have q1 : w5.cell? ⟨w2.heap.size, 1, none⟩ = some (.string qlo) := HP5.out.cell 1
            have qf1 : w5.frozen? ⟨w2.heap.size, 1, none⟩ = false := HP5.out.frozen 1
            have q2 : w5.cell? ⟨w2.heap.size, 2, none⟩ = some (.string qhi) := HP5.out.cell 2
            have qf2 : w5.frozen? ⟨w2.heap.size, 2, none⟩ = false := HP5.out.frozen 2
            have q3 : w5.cell? ⟨w2.heap.size, 3, none⟩ = some (.int .i64 qr) := HP5.out.cell 3
            have qf3 : w5.frozen? ⟨w2.heap.size, 3, none⟩ = false := HP5.out.frozen 3
            have q4 : w5.cell? ⟨w2.heap.size, 4, none⟩ = some (.slice none 0 0) := HP5.out.cell 4
            have qf4 : w5.frozen? ⟨w2.heap.size, 4, none⟩ = false := HP5.out.frozen 4
            obtain ⟨w6, hw6⟩ : ∃ w6, w5.setCell ⟨w2.heap.size, 4, none⟩ (.slice q m c) = w6 := ⟨_, rfl⟩
            have ht6 : Tn [w2.heap.size] w5 w6 := by rw [← hw6]; exact (Tn.refl _ w5).setCell (.inl (by simp)) _
            have HP6 : Hid (Bk w6 w2.heap.size 24 #[.bool false, .string qlo, .string qhi, .int .i64 qr, .slice q m c]) := by rw [← hw6]; exact HP5.out.set 4 _
            have HK6 : Hid (Lk w w6 pf plo phi pr pp pn pc) := ⟨HK5.out.below.trans (ht6.below HK5.out.below.size (by have := HPW.out; simp; omega)), HK5.out.b0.tn ht6 (by have := HPW.out; simp; omega), HK5.out.b1.tn ht6 (by have := HPW.out; simp; omega)⟩
            have HL6 : Hid (Ens w6 q EL) := by rw [← hw6]; exact HLE.out.putSlice q4 _
            have y0 : w6.cell? ⟨w2.heap.size, 0, none⟩ = some (.bool false) := HP6.out.cell 0
            have y1 : w6.cell? ⟨w2.heap.size, 1, none⟩ = some (.string qlo) := HP6.out.cell 1
            have y2 : w6.cell? ⟨w2.heap.size, 2, none⟩ = some (.string qhi) := HP6.out.cell 2
            have y3 : w6.cell? ⟨w2.heap.size, 3, none⟩ = some (.int .i64 qr) := HP6.out.cell 3
            have y4 : w6.cell? ⟨w2.heap.size, 4, none⟩ = some (.slice q m c) := HP6.out.cell 4
            go_wp2_with fail
            clear hw6 ht6
            clear q0 qf0 q1 qf1 q2 qf2 q3 qf3 q4 qf4
            clear y0 y1 y2 y3 y4
            refine (below_any false qlo qhi qr q m c EL key _ HLM.out HL6.out hmr).mono ?_
            rw [HS2.out]
            rintro e w7 ⟨hd7, hb7⟩
            have HK7 : Hid (Lk w w7 pf plo phi pr pp pn pc) := HK6.out.on hb7
            clear hb7
            rcases hd7 with ⟨h0, rfl⟩ | ⟨h0, rfl⟩
            · obtain ⟨⟨⟨xk, xs, xg, xc⟩, xf, xgo⟩, kk⟩ := out
              simp only at h0
              subst h0
              have b0 : w7.cell? ⟨w.heap.size + 1, 0, none⟩ = some (.string ⟨#[]⟩) := HK7.out.b1.cell 0
              have bf0 : w7.frozen? ⟨w.heap.size + 1, 0, none⟩ = false := HK7.out.b1.frozen 0
              have b1 : w7.cell? ⟨w.heap.size + 1, 1, none⟩ = some (.int .i64 0) := HK7.out.b1.cell 1
              have bf1 : w7.frozen? ⟨w.heap.size + 1, 1, none⟩ = false := HK7.out.b1.frozen 1
              have b2 : w7.cell? ⟨w.heap.size + 1, 2, none⟩ = some (.int .i64 0) := HK7.out.b1.cell 2
              have bf2 : w7.frozen? ⟨w.heap.size + 1, 2, none⟩ = false := HK7.out.b1.frozen 2
              have b3 : w7.cell? ⟨w.heap.size + 1, 3, none⟩ = some (.int .i64 0) := HK7.out.b1.cell 3
              have bf3 : w7.frozen? ⟨w.heap.size + 1, 3, none⟩ = false := HK7.out.b1.frozen 3
              have b4 : w7.cell? ⟨w.heap.size + 1, 4, none⟩ = some (.bool false) := HK7.out.b1.cell 4
              have bf4 : w7.frozen? ⟨w.heap.size + 1, 4, none⟩ = false := HK7.out.b1.frozen 4
              have b5 : w7.cell? ⟨w.heap.size + 1, 5, none⟩ = some (.int .i64 0) := HK7.out.b1.cell 5
              have bf5 : w7.frozen? ⟨w.heap.size + 1, 5, none⟩ = false := HK7.out.b1.frozen 5
              go_wp2
              clear b0 bf0 b1 bf1 b2 bf2 b3 bf3 b4 bf4 b5 bf5
              have k1 := HK7.out.b1.six (.string xk) (.int .i64 xs) (.int .i64 xg) (.int .i64 xc) (.bool xf) (.int .i64 xgo)
              have ht : Tn [w.heap.size + 1] w7 _ := (Tn.refl _ w7).six (R := w.heap.size + 1) (.inl (by simp)) (.string xk) (.int .i64 xs) (.int .i64 xg) (.int .i64 xc) (.bool xf) (.int .i64 xgo)
              refine bodyPost_ret (results_one (T' := 44) (cs := [.string xk, .int .i64 xs, .int .i64 xg, .int .i64 xc, .bool xf, .int .i64 xgo]) rfl rfl sp_agg sp_size rfl k1) rfl ?_
              skip
              exact ⟨.inl ⟨rfl, rfl⟩, HK7.out.below.trans (ht.below HK7.out.below.size (by simp))⟩
            · refine ⟨rfl, ?_⟩
              exact ⟨.inr ⟨h0, rfl⟩, HK7.out.below⟩
          | true =>
            obtain ⟨fo, HFO⟩ : ∃ fo, Hid (Pg.find true (Dl.among ⟨pf, plo, phi, pr, pl⟩ key (L.map (·.d)) EL) key = fo) := ⟨_, rfl⟩
            have HS2 : Hid (Dl.hitL fo = out) := by rw [Hid, ← HS.out, ← HFO.out]; unfold Dl.says; simp only [hin]; rfl
            go_wp2_with fail
            refine (inLeaf_any pf plo phi pr pp pn pc pl key p len cap L EL _ HN.out (HX.out.below HK4.out.below (Nat.le_refl _)) hl HL.out hll (HD.out.below HK4.out.below (Nat.le_refl _)) (fun hm W hW => HE1.out (by simp) (by simp [hm]) W (HK4.out.below.trans (hW.mono HK4.out.below.size)))).mono ?_
            rw [HFO.out]
            rintro e w5 ⟨rfl, hb5⟩
            have HK5 : Hid (Lk w w5 pf plo phi pr pp pn pc) := HK4.out.on hb5
            clear hb5
            clear q0 qf0 q1 qf1 q2 qf2 q3 qf3 q4 qf4
            clear a0 a1 a2 a3 a4
            cases fo with
            | none =>
              have HF : Hid (out = (Sp.zero, 0)) := HS2.out.symm
              unfold fv
              simp only
              have HK6 : Hid (Lk w (w5.alloc (.cells #[.string ⟨#[]⟩, .int .i64 0, .int .i64 0, .int .i64 0] 30)) pf plo phi pr pp pn pc) := HK5.out.on ((Below.refl _ _).alloc (Nat.le_refl _) _)
              have b0 : (w5.alloc (.cells #[.string ⟨#[]⟩, .int .i64 0, .int .i64 0, .int .i64 0] 30)).cell? ⟨w.heap.size + 1, 0, none⟩ = some (.string ⟨#[]⟩) := HK6.out.b1.cell 0
              have bf0 : (w5.alloc (.cells #[.string ⟨#[]⟩, .int .i64 0, .int .i64 0, .int .i64 0] 30)).frozen? ⟨w.heap.size + 1, 0, none⟩ = false := HK6.out.b1.frozen 0
              have b1 : (w5.alloc (.cells #[.string ⟨#[]⟩, .int .i64 0, .int .i64 0, .int .i64 0] 30)).cell? ⟨w.heap.size + 1, 1, none⟩ = some (.int .i64 0) := HK6.out.b1.cell 1
              have bf1 : (w5.alloc (.cells #[.string ⟨#[]⟩, .int .i64 0, .int .i64 0, .int .i64 0] 30)).frozen? ⟨w.heap.size + 1, 1, none⟩ = false := HK6.out.b1.frozen 1
              have b2 : (w5.alloc (.cells #[.string ⟨#[]⟩, .int .i64 0, .int .i64 0, .int .i64 0] 30)).cell? ⟨w.heap.size + 1, 2, none⟩ = some (.int .i64 0) := HK6.out.b1.cell 2
              have bf2 : (w5.alloc (.cells #[.string ⟨#[]⟩, .int .i64 0, .int .i64 0, .int .i64 0] 30)).frozen? ⟨w.heap.size + 1, 2, none⟩ = false := HK6.out.b1.frozen 2
              have b3 : (w5.alloc (.cells #[.string ⟨#[]⟩, .int .i64 0, .int .i64 0, .int .i64 0] 30)).cell? ⟨w.heap.size + 1, 3, none⟩ = some (.int .i64 0) := HK6.out.b1.cell 3
              have bf3 : (w5.alloc (.cells #[.string ⟨#[]⟩, .int .i64 0, .int .i64 0, .int .i64 0] 30)).frozen? ⟨w.heap.size + 1, 3, none⟩ = false := HK6.out.b1.frozen 3
              have b4 : (w5.alloc (.cells #[.string ⟨#[]⟩, .int .i64 0, .int .i64 0, .int .i64 0] 30)).cell? ⟨w.heap.size + 1, 4, none⟩ = some (.bool false) := HK6.out.b1.cell 4
              have bf4 : (w5.alloc (.cells #[.string ⟨#[]⟩, .int .i64 0, .int .i64 0, .int .i64 0] 30)).frozen? ⟨w.heap.size + 1, 4, none⟩ = false := HK6.out.b1.frozen 4
              have b5 : (w5.alloc (.cells #[.string ⟨#[]⟩, .int .i64 0, .int .i64 0, .int .i64 0] 30)).cell? ⟨w.heap.size + 1, 5, none⟩ = some (.int .i64 0) := HK6.out.b1.cell 5
              have bf5 : (w5.alloc (.cells #[.string ⟨#[]⟩, .int .i64 0, .int .i64 0, .int .i64 0] 30)).frozen? ⟨w.heap.size + 1, 5, none⟩ = false := HK6.out.b1.frozen 5
              go_wp2
              clear b0 bf0 b1 bf1 b2 bf2 b3 bf3 b4 bf4 b5 bf5
              have k1 := HK6.out.b1.six (.string ⟨#[]⟩) (.int .i64 0) (.int .i64 0) (.int .i64 0) (.bool false) (.int .i64 0)
              have ht : Tn [w.heap.size + 1] (w5.alloc (.cells #[.string ⟨#[]⟩, .int .i64 0, .int .i64 0, .int .i64 0] 30)) _ := (Tn.refl _ (w5.alloc (.cells #[.string ⟨#[]⟩, .int .i64 0, .int .i64 0, .int .i64 0] 30))).six (R := w.heap.size + 1) (.inl (by simp)) (.string ⟨#[]⟩) (.int .i64 0) (.int .i64 0) (.int .i64 0) (.bool false) (.int .i64 0)
              refine bodyPost_ret (results_one (T' := 44) (cs := [.string ⟨#[]⟩, .int .i64 0, .int .i64 0, .int .i64 0, .bool false, .int .i64 0]) rfl rfl sp_agg sp_size rfl k1) rfl ?_
              rw [HF.out]
              exact ⟨.inl ⟨rfl, rfl⟩, HK6.out.below.trans (ht.below HK6.out.below.size (by simp))⟩
            | some x =>
              obtain ⟨xk, xs, xg, xc⟩ := x
              have HF : Hid (out = (⟨⟨xk, xs, xg, xc⟩, true, 0⟩, 0)) := HS2.out.symm
              unfold fv
              simp only
              have HK6 : Hid (Lk w (w5.alloc (.cells #[.string xk, .int .i64 xs, .int .i64 xg, .int .i64 xc] 30)) pf plo phi pr pp pn pc) := HK5.out.on ((Below.refl _ _).alloc (Nat.le_refl _) _)
              have b0 : (w5.alloc (.cells #[.string xk, .int .i64 xs, .int .i64 xg, .int .i64 xc] 30)).cell? ⟨w.heap.size + 1, 0, none⟩ = some (.string ⟨#[]⟩) := HK6.out.b1.cell 0
              have bf0 : (w5.alloc (.cells #[.string xk, .int .i64 xs, .int .i64 xg, .int .i64 xc] 30)).frozen? ⟨w.heap.size + 1, 0, none⟩ = false := HK6.out.b1.frozen 0
              have b1 : (w5.alloc (.cells #[.string xk, .int .i64 xs, .int .i64 xg, .int .i64 xc] 30)).cell? ⟨w.heap.size + 1, 1, none⟩ = some (.int .i64 0) := HK6.out.b1.cell 1
              have bf1 : (w5.alloc (.cells #[.string xk, .int .i64 xs, .int .i64 xg, .int .i64 xc] 30)).frozen? ⟨w.heap.size + 1, 1, none⟩ = false := HK6.out.b1.frozen 1
              have b2 : (w5.alloc (.cells #[.string xk, .int .i64 xs, .int .i64 xg, .int .i64 xc] 30)).cell? ⟨w.heap.size + 1, 2, none⟩ = some (.int .i64 0) := HK6.out.b1.cell 2
              have bf2 : (w5.alloc (.cells #[.string xk, .int .i64 xs, .int .i64 xg, .int .i64 xc] 30)).frozen? ⟨w.heap.size + 1, 2, none⟩ = false := HK6.out.b1.frozen 2
              have b3 : (w5.alloc (.cells #[.string xk, .int .i64 xs, .int .i64 xg, .int .i64 xc] 30)).cell? ⟨w.heap.size + 1, 3, none⟩ = some (.int .i64 0) := HK6.out.b1.cell 3
              have bf3 : (w5.alloc (.cells #[.string xk, .int .i64 xs, .int .i64 xg, .int .i64 xc] 30)).frozen? ⟨w.heap.size + 1, 3, none⟩ = false := HK6.out.b1.frozen 3
              have b4 : (w5.alloc (.cells #[.string xk, .int .i64 xs, .int .i64 xg, .int .i64 xc] 30)).cell? ⟨w.heap.size + 1, 4, none⟩ = some (.bool false) := HK6.out.b1.cell 4
              have bf4 : (w5.alloc (.cells #[.string xk, .int .i64 xs, .int .i64 xg, .int .i64 xc] 30)).frozen? ⟨w.heap.size + 1, 4, none⟩ = false := HK6.out.b1.frozen 4
              have b5 : (w5.alloc (.cells #[.string xk, .int .i64 xs, .int .i64 xg, .int .i64 xc] 30)).cell? ⟨w.heap.size + 1, 5, none⟩ = some (.int .i64 0) := HK6.out.b1.cell 5
              have bf5 : (w5.alloc (.cells #[.string xk, .int .i64 xs, .int .i64 xg, .int .i64 xc] 30)).frozen? ⟨w.heap.size + 1, 5, none⟩ = false := HK6.out.b1.frozen 5
              go_wp2
              clear b0 bf0 b1 bf1 b2 bf2 b3 bf3 b4 bf4 b5 bf5
              have k1 := HK6.out.b1.six (.string xk) (.int .i64 xs) (.int .i64 xg) (.int .i64 xc) (.bool true) (.int .i64 0)
              have ht : Tn [w.heap.size + 1] (w5.alloc (.cells #[.string xk, .int .i64 xs, .int .i64 xg, .int .i64 xc] 30)) _ := (Tn.refl _ (w5.alloc (.cells #[.string xk, .int .i64 xs, .int .i64 xg, .int .i64 xc] 30))).six (R := w.heap.size + 1) (.inl (by simp)) (.string xk) (.int .i64 xs) (.int .i64 xg) (.int .i64 xc) (.bool true) (.int .i64 0)
              refine bodyPost_ret (results_one (T' := 44) (cs := [.string xk, .int .i64 xs, .int .i64 xg, .int .i64 xc, .bool true, .int .i64 0]) rfl rfl sp_agg sp_size rfl k1) rfl ?_
              rw [HF.out]
              exact ⟨.inl ⟨rfl, rfl⟩, HK6.out.below.trans (ht.below HK6.out.below.size (by simp))⟩
      · have HF : Hid (out = (Sp.zero, kk)) := by rw [Hid, ← HS.out]; unfold Dl.says; rw [if_pos h0]
        refine ⟨rfl, ?_⟩
        rw [HF.out]
        exact ⟨.inr ⟨h0, rfl⟩, HK2.out.below⟩
    · obtain ⟨m, hm⟩ : ∃ m, L[0]? = some m := ⟨_, List.getElem?_eq_getElem (by have := HL.out; omega)⟩
      obtain ⟨b, o, rfl, hc⟩ := HD.out.below HK0.out.below (Nat.le_refl _) (by have := HL.out; omega)
      obtain ⟨hcx, hOk⟩ := hc 0 m hm
      have hgm : ((m.d.k == 5) && Dl.may m.d) = false := by
        cases L with
        | nil => simp at hm
        | cons x r =>
          simp only [List.getElem?_cons_zero, Option.some.injEq] at hm
          subst hm
          simp only [List.map_cons, Dl.gone] at hg
          cases h5 : ((x.d.k == 5) && Dl.may x.d) with
          | false => rfl
          | true => rw [h5] at hg; simp at hg
      obtain ⟨⟨dk, ⟨dek, des, deg, dec⟩, dkey, dpg, ⟨dleaf, dlo, dhi, dr, dl⟩⟩, dp, dn, dc⟩ := m
      simp only at hgm
      have hlen1 : (0 : Int) < (len : Int) := by omega
      have hlen2 : decide ((len : Int) > 0) = true := decide_eq_true hlen1
      have hlen3 : 0 < len := by omega
      have z0 := hcx 0 _ rfl
      have z1 := hcx 1 _ rfl
      have z2 := hcx 2 _ rfl
      have z3 := hcx 3 _ rfl
      have z4 := hcx 4 _ rfl
      have z5 := hcx 5 _ rfl
      have z6 := hcx 6 _ rfl
      have z7 := hcx 7 _ rfl
      have z8 := hcx 8 _ rfl
      have z9 := hcx 9 _ rfl
      have z10 := hcx 10 _ rfl
      have z11 := hcx 11 _ rfl
      simp only [Nat.zero_mul, Nat.add_zero] at z0 z1 z2 z3 z4 z5 z6 z7 z8 z9 z10 z11
      have HOK : Hid (Dm.Ok w0 ⟨⟨dk, ⟨dek, des, deg, dec⟩, dkey, dpg, ⟨dleaf, dlo, dhi, dr, dl⟩⟩, dp, dn, dc⟩) := hOk
      clear hcx hc hOk hm hg
      obtain ⟨p, hp⟩ : ∃ p, p = some (⟨b, o, none⟩ : Addr) := ⟨_, rfl⟩
      by_cases h5 : dk = 5
      · subst h5
        have HM : Hid (Dl.may ⟨5, ⟨dek, des, deg, dec⟩, dkey, dpg, ⟨dleaf, dlo, dhi, dr, dl⟩⟩ = false) := by unfold Hid; simpa using hgm
        go_wp2_with fail
        refine (dcheck_any ⟨5, ⟨dek, des, deg, dec⟩, dkey, dpg, ⟨dleaf, dlo, dhi, dr, dl⟩⟩ dp dn dc _ HOK.out.len HOK.out.ens (by have := HOK.out.room; simp only at this; omega)).mono ?_
        rw [HM.out]
        rintro e w1 ⟨rfl, hb1⟩
        have HK1 : Hid (Lk w w1 pf plo phi pr pp pn pc) := HK0.out.on hb1
        clear a0 a1 a2 a3 a4
        clear b0 bf0 b1 bf1 b2 bf2 b3 bf3 b4 bf4 b5 bf5
        clear hb1 z0 z1 z2 z3 z4 z5 z6 z7 z8 z9 z10 z11 hw0 hgm
        simp only [Bool.false_eq_true, if_false]
        have a0 : w1.cell? ⟨w.heap.size, 0, none⟩ = some (.bool pf) := HK1.out.b0.cell 0
        have a1 : w1.cell? ⟨w.heap.size, 1, none⟩ = some (.string plo) := HK1.out.b0.cell 1
        have a2 : w1.cell? ⟨w.heap.size, 2, none⟩ = some (.string phi) := HK1.out.b0.cell 2
        have a3 : w1.cell? ⟨w.heap.size, 3, none⟩ = some (.int .i64 pr) := HK1.out.b0.cell 3
        have a4 : w1.cell? ⟨w.heap.size, 4, none⟩ = some (.slice pp pn pc) := HK1.out.b0.cell 4
        go_wp2_with fail
        clear a0 a1 a2 a3 a4
        rw [← hp] at HD HE ⊢
        clear hp
        refine (outline_any ⟨pf, plo, phi, pr, pl⟩ pp pn pc p len cap L _ HL.out hll (HD.out.below HK1.out.below (Nat.le_refl _))).mono ?_
        have HS : Hid (Dl.says ⟨pf, plo, phi, pr, pl⟩ key (L.map (·.d)) EL (Dl.outl ⟨pf, plo, phi, pr, pl⟩ (L.map (·.d)).reverse) = out) := HSAY.out
        have HE1 : Hid _ := HE.out
        obtain ⟨⟨⟨qf, qlo, qhi, qr, ql⟩, kk⟩, hO⟩ : ∃ o, Dl.outl ⟨pf, plo, phi, pr, pl⟩ (L.map (·.d)).reverse = o := ⟨_, rfl⟩
        rw [hO] at HS HE1
        rw [hO]
        rintro e w2 ⟨hd, hb2⟩
        have HK2 : Hid (Lk w w2 pf plo phi pr pp pn pc) := HK1.out.on hb2
        clear hb2 hO
        simp only at hd
        rcases hd with ⟨h0, rfl⟩ | ⟨h0, rfl⟩
        · subst h0
          obtain ⟨w3, hw3⟩ : ∃ w3, w3 = w2.alloc (.cells #[.bool qf, .string qlo, .string qhi, .int .i64 qr, .slice none 0 0] 24) := ⟨_, rfl⟩
          have HK3 : Hid (Lk w w3 pf plo phi pr pp pn pc) := by rw [hw3]; exact HK2.out.on ((Below.refl _ _).alloc (Nat.le_refl _) _)
          have HP3 : Hid (Bk w3 w2.heap.size 24 #[.bool qf, .string qlo, .string qhi, .int .i64 qr, .slice none 0 0]) := by rw [hw3]; exact Bk.new _ _ _
          have HPW : Hid (w.heap.size + 1 < w2.heap.size) := HK2.out.b1.lt
          go_wp2_with fail
          rw [← hw3]
          clear hw3
          refine (has_any qf qlo qhi qr none 0 0 _ key).mono ?_
          cases hin : Ky.inn ⟨qlo, qhi⟩ key with
          | false =>
            have HS2 : Hid ((if (Ky.lt key qlo || qr == 0) = true then (Sp.zero, 73) else (⟨En.zero, false, qr⟩, 0)) = out) := by rw [Hid, ← HS.out]; unfold Dl.says; simp only [hin]; rfl
            rintro e w4 ⟨rfl, hb4⟩
            have HK4 : Hid (Lk w w4 pf plo phi pr pp pn pc) := HK3.out.on hb4
            have HP4 : Hid (Bk w4 w2.heap.size 24 #[.bool qf, .string qlo, .string qhi, .int .i64 qr, .slice none 0 0]) := HP3.out.below hb4 HP3.out.lt
            clear hb4 hin
            have q0 : w4.cell? ⟨w2.heap.size, 0, none⟩ = some (.bool qf) := HP4.out.cell 0
            have q1 : w4.cell? ⟨w2.heap.size, 1, none⟩ = some (.string qlo) := HP4.out.cell 1
            have q2 : w4.cell? ⟨w2.heap.size, 2, none⟩ = some (.string qhi) := HP4.out.cell 2
            have q3 : w4.cell? ⟨w2.heap.size, 3, none⟩ = some (.int .i64 qr) := HP4.out.cell 3
            have q4 : w4.cell? ⟨w2.heap.size, 4, none⟩ = some (.slice none 0 0) := HP4.out.cell 4
            go_wp2_with fail
            clear q0 q1 q2 q3 q4
            refine (beside_any qf qlo qhi qr none 0 0 key _).mono ?_
            rintro e w5 ⟨hbs, hb5⟩
            have HK5 : Hid (Lk w w5 pf plo phi pr pp pn pc) := HK4.out.on hb5
            clear hb5
            rcases hbs with ⟨hc, rfl⟩ | ⟨hc, rfl⟩
            · have HF : Hid (out = (⟨En.zero, false, qr⟩, 0)) := by rw [Hid, ← HS2.out, hc]; rfl
              clear hc
              have b0 : w5.cell? ⟨w.heap.size + 1, 0, none⟩ = some (.string ⟨#[]⟩) := HK5.out.b1.cell 0
              have bf0 : w5.frozen? ⟨w.heap.size + 1, 0, none⟩ = false := HK5.out.b1.frozen 0
              have b1 : w5.cell? ⟨w.heap.size + 1, 1, none⟩ = some (.int .i64 0) := HK5.out.b1.cell 1
              have bf1 : w5.frozen? ⟨w.heap.size + 1, 1, none⟩ = false := HK5.out.b1.frozen 1
              have b2 : w5.cell? ⟨w.heap.size + 1, 2, none⟩ = some (.int .i64 0) := HK5.out.b1.cell 2
              have bf2 : w5.frozen? ⟨w.heap.size + 1, 2, none⟩ = false := HK5.out.b1.frozen 2
              have b3 : w5.cell? ⟨w.heap.size + 1, 3, none⟩ = some (.int .i64 0) := HK5.out.b1.cell 3
              have bf3 : w5.frozen? ⟨w.heap.size + 1, 3, none⟩ = false := HK5.out.b1.frozen 3
              have b4 : w5.cell? ⟨w.heap.size + 1, 4, none⟩ = some (.bool false) := HK5.out.b1.cell 4
              have bf4 : w5.frozen? ⟨w.heap.size + 1, 4, none⟩ = false := HK5.out.b1.frozen 4
              have b5 : w5.cell? ⟨w.heap.size + 1, 5, none⟩ = some (.int .i64 0) := HK5.out.b1.cell 5
              have bf5 : w5.frozen? ⟨w.heap.size + 1, 5, none⟩ = false := HK5.out.b1.frozen 5
              go_wp2
              clear b0 bf0 b1 bf1 b2 bf2 b3 bf3 b4 bf4 b5 bf5
              have k1 := HK5.out.b1.six (.string ⟨#[]⟩) (.int .i64 0) (.int .i64 0) (.int .i64 0) (.bool false) (.int .i64 qr)
              have ht : Tn [w.heap.size + 1] w5 _ := (Tn.refl _ w5).six (R := w.heap.size + 1) (.inl (by simp)) (.string ⟨#[]⟩) (.int .i64 0) (.int .i64 0) (.int .i64 0) (.bool false) (.int .i64 qr)
              refine bodyPost_ret (results_one (T' := 44) (cs := [.string ⟨#[]⟩, .int .i64 0, .int .i64 0, .int .i64 0, .bool false, .int .i64 qr]) rfl rfl sp_agg sp_size rfl k1) rfl ?_
              rw [HF.out]
              exact ⟨.inl ⟨rfl, rfl⟩, HK5.out.below.trans (ht.below HK5.out.below.size (by simp))⟩
            · have HF : Hid (out = (Sp.zero, 73)) := by rw [Hid, ← HS2.out, hc]; rfl
              refine ⟨rfl, ?_⟩
              rw [HF.out]
              exact ⟨.inr ⟨by decide, rfl⟩, HK5.out.below⟩
          | true =>
            rintro e w4 ⟨rfl, hb4⟩
            have HK4 : Hid (Lk w w4 pf plo phi pr pp pn pc) := HK3.out.on hb4
            have HP4 : Hid (Bk w4 w2.heap.size 24 #[.bool qf, .string qlo, .string qhi, .int .i64 qr, .slice none 0 0]) := HP3.out.below hb4 HP3.out.lt
            clear hb4
            have q0 : w4.cell? ⟨w2.heap.size, 0, none⟩ = some (.bool qf) := HP4.out.cell 0
            have qf0 : w4.frozen? ⟨w2.heap.size, 0, none⟩ = false := HP4.out.frozen 0
            have q1 : w4.cell? ⟨w2.heap.size, 1, none⟩ = some (.string qlo) := HP4.out.cell 1
            have qf1 : w4.frozen? ⟨w2.heap.size, 1, none⟩ = false := HP4.out.frozen 1
            have q2 : w4.cell? ⟨w2.heap.size, 2, none⟩ = some (.string qhi) := HP4.out.cell 2
            have qf2 : w4.frozen? ⟨w2.heap.size, 2, none⟩ = false := HP4.out.frozen 2
            have q3 : w4.cell? ⟨w2.heap.size, 3, none⟩ = some (.int .i64 qr) := HP4.out.cell 3
            have qf3 : w4.frozen? ⟨w2.heap.size, 3, none⟩ = false := HP4.out.frozen 3
            have q4 : w4.cell? ⟨w2.heap.size, 4, none⟩ = some (.slice none 0 0) := HP4.out.cell 4
            have qf4 : w4.frozen? ⟨w2.heap.size, 4, none⟩ = false := HP4.out.frozen 4
            have a0 : w4.cell? ⟨w.heap.size, 0, none⟩ = some (.bool pf) := HK4.out.b0.cell 0
            have a1 : w4.cell? ⟨w.heap.size, 1, none⟩ = some (.string plo) := HK4.out.b0.cell 1
            have a2 : w4.cell? ⟨w.heap.size, 2, none⟩ = some (.string phi) := HK4.out.b0.cell 2
            have a3 : w4.cell? ⟨w.heap.size, 3, none⟩ = some (.int .i64 pr) := HK4.out.b0.cell 3
            have a4 : w4.cell? ⟨w.heap.size, 4, none⟩ = some (.slice pp pn pc) := HK4.out.b0.cell 4
            cases qf with
            | false =>
              have HS2 : Hid (Dl.hitI (Pg.fnd false EL key) = out) := by rw [Hid, ← HS.out]; unfold Dl.says; simp only [hin]; rfl
              have HE2 : Hid _ := HE1.out (by simp) (by simp)
              go_wp2_with fail
              refine Calls.mono (HE2.out _ HK4.out.below) ?_
              rintro e w5 ⟨⟨q, m, c, rfl, hlm, hle, hmr⟩, hb5⟩
              have HK5 : Hid (Lk w w5 pf plo phi pr pp pn pc) := HK4.out.on hb5
              have HP5 : Hid (Bk w5 w2.heap.size 24 #[.bool false, .string qlo, .string qhi, .int .i64 qr, .slice none 0 0]) := HP4.out.below hb5 HP4.out.lt
              have HLM : Hid (EL.length = m) := hlm
              have HLE : Hid (Ens w5 q EL) := hle
              clear hb5 hlm hle
              clear q0 qf0 q1 qf1 q2 qf2 q3 qf3 q4 qf4
              clear a0 a1 a2 a3 a4
              have q0 : w5.cell? ⟨w2.heap.size, 0, none⟩ = some (.bool false) := HP5.out.cell 0
              have qf0 : w5.frozen? ⟨w2.heap.size, 0, none⟩ = false := HP5.out.frozen 0
              have q1 : w5.cell? ⟨w2.heap.size, 1, none⟩ = some (.string qlo) := HP5.out.cell 1
              have qf1 : w5.frozen? ⟨w2.heap.size, 1, none⟩ = false := HP5.out.frozen 1
              have q2 : w5.cell? ⟨w2.heap.size, 2, none⟩ = some (.string qhi) := HP5.out.cell 2
              have qf2 : w5.frozen? ⟨w2.heap.size, 2, none⟩ = false := HP5.out.frozen 2
              have q3 : w5.cell? ⟨w2.heap.size, 3, none⟩ = some (.int .i64 qr) := HP5.out.cell 3
              have qf3 : w5.frozen? ⟨w2.heap.size, 3, none⟩ = false := HP5.out.frozen 3
              have q4 : w5.cell? ⟨w2.heap.size, 4, none⟩ = some (.slice none 0 0) := HP5.out.cell 4
              have qf4 : w5.frozen? ⟨w2.heap.size, 4, none⟩ = false := HP5.out.frozen 4
              obtain ⟨w6, hw6⟩ : ∃ w6, w5.setCell ⟨w2.heap.size, 4, none⟩ (.slice q m c) = w6 := ⟨_, rfl⟩
              have ht6 : Tn [w2.heap.size] w5 w6 := by rw [← hw6]; exact (Tn.refl _ w5).setCell (.inl (by simp)) _
              have HP6 : Hid (Bk w6 w2.heap.size 24 #[.bool false, .string qlo, .string qhi, .int .i64 qr, .slice q m c]) := by rw [← hw6]; exact HP5.out.set 4 _
              have HK6 : Hid (Lk w w6 pf plo phi pr pp pn pc) := ⟨HK5.out.below.trans (ht6.below HK5.out.below.size (by have := HPW.out; simp; omega)), HK5.out.b0.tn ht6 (by have := HPW.out; simp; omega), HK5.out.b1.tn ht6 (by have := HPW.out; simp; omega)⟩
              have HL6 : Hid (Ens w6 q EL) := by rw [← hw6]; exact HLE.out.putSlice q4 _
              have y0 : w6.cell? ⟨w2.heap.size, 0, none⟩ = some (.bool false) := HP6.out.cell 0
              have y1 : w6.cell? ⟨w2.heap.size, 1, none⟩ = some (.string qlo) := HP6.out.cell 1
              have y2 : w6.cell? ⟨w2.heap.size, 2, none⟩ = some (.string qhi) := HP6.out.cell 2
              have y3 : w6.cell? ⟨w2.heap.size, 3, none⟩ = some (.int .i64 qr) := HP6.out.cell 3
              have y4 : w6.cell? ⟨w2.heap.size, 4, none⟩ = some (.slice q m c) := HP6.out.cell 4
              go_wp2_with fail
              clear hw6 ht6
              clear q0 qf0 q1 qf1 q2 qf2 q3 qf3 q4 qf4
              clear y0 y1 y2 y3 y4
              refine (below_any false qlo qhi qr q m c EL key _ HLM.out HL6.out hmr).mono ?_
              rw [HS2.out]
              rintro e w7 ⟨hd7, hb7⟩
              have HK7 : Hid (Lk w w7 pf plo phi pr pp pn pc) := HK6.out.on hb7
              clear hb7
              rcases hd7 with ⟨h0, rfl⟩ | ⟨h0, rfl⟩
              · obtain ⟨⟨⟨xk, xs, xg, xc⟩, xf, xgo⟩, kk⟩ := out
                simp only at h0
                subst h0
                have b0 : w7.cell? ⟨w.heap.size + 1, 0, none⟩ = some (.string ⟨#[]⟩) := HK7.out.b1.cell 0
                have bf0 : w7.frozen? ⟨w.heap.size + 1, 0, none⟩ = false := HK7.out.b1.frozen 0
                have b1 : w7.cell? ⟨w.heap.size + 1, 1, none⟩ = some (.int .i64 0) := HK7.out.b1.cell 1
                have bf1 : w7.frozen? ⟨w.heap.size + 1, 1, none⟩ = false := HK7.out.b1.frozen 1
                have b2 : w7.cell? ⟨w.heap.size + 1, 2, none⟩ = some (.int .i64 0) := HK7.out.b1.cell 2
                have bf2 : w7.frozen? ⟨w.heap.size + 1, 2, none⟩ = false := HK7.out.b1.frozen 2
                have b3 : w7.cell? ⟨w.heap.size + 1, 3, none⟩ = some (.int .i64 0) := HK7.out.b1.cell 3
                have bf3 : w7.frozen? ⟨w.heap.size + 1, 3, none⟩ = false := HK7.out.b1.frozen 3
                have b4 : w7.cell? ⟨w.heap.size + 1, 4, none⟩ = some (.bool false) := HK7.out.b1.cell 4
                have bf4 : w7.frozen? ⟨w.heap.size + 1, 4, none⟩ = false := HK7.out.b1.frozen 4
                have b5 : w7.cell? ⟨w.heap.size + 1, 5, none⟩ = some (.int .i64 0) := HK7.out.b1.cell 5
                have bf5 : w7.frozen? ⟨w.heap.size + 1, 5, none⟩ = false := HK7.out.b1.frozen 5
                go_wp2
                clear b0 bf0 b1 bf1 b2 bf2 b3 bf3 b4 bf4 b5 bf5
                have k1 := HK7.out.b1.six (.string xk) (.int .i64 xs) (.int .i64 xg) (.int .i64 xc) (.bool xf) (.int .i64 xgo)
                have ht : Tn [w.heap.size + 1] w7 _ := (Tn.refl _ w7).six (R := w.heap.size + 1) (.inl (by simp)) (.string xk) (.int .i64 xs) (.int .i64 xg) (.int .i64 xc) (.bool xf) (.int .i64 xgo)
                refine bodyPost_ret (results_one (T' := 44) (cs := [.string xk, .int .i64 xs, .int .i64 xg, .int .i64 xc, .bool xf, .int .i64 xgo]) rfl rfl sp_agg sp_size rfl k1) rfl ?_
                skip
                exact ⟨.inl ⟨rfl, rfl⟩, HK7.out.below.trans (ht.below HK7.out.below.size (by simp))⟩
              · refine ⟨rfl, ?_⟩
                exact ⟨.inr ⟨h0, rfl⟩, HK7.out.below⟩
            | true =>
              obtain ⟨fo, HFO⟩ : ∃ fo, Hid (Pg.find true (Dl.among ⟨pf, plo, phi, pr, pl⟩ key (L.map (·.d)) EL) key = fo) := ⟨_, rfl⟩
              have HS2 : Hid (Dl.hitL fo = out) := by rw [Hid, ← HS.out, ← HFO.out]; unfold Dl.says; simp only [hin]; rfl
              go_wp2_with fail
              refine (inLeaf_any pf plo phi pr pp pn pc pl key p len cap L EL _ HN.out (HX.out.below HK4.out.below (Nat.le_refl _)) hl HL.out hll (HD.out.below HK4.out.below (Nat.le_refl _)) (fun hm W hW => HE1.out (by simp) (by simp [hm]) W (HK4.out.below.trans (hW.mono HK4.out.below.size)))).mono ?_
              rw [HFO.out]
              rintro e w5 ⟨rfl, hb5⟩
              have HK5 : Hid (Lk w w5 pf plo phi pr pp pn pc) := HK4.out.on hb5
              clear hb5
              clear q0 qf0 q1 qf1 q2 qf2 q3 qf3 q4 qf4
              clear a0 a1 a2 a3 a4
              cases fo with
              | none =>
                have HF : Hid (out = (Sp.zero, 0)) := HS2.out.symm
                unfold fv
                simp only
                have HK6 : Hid (Lk w (w5.alloc (.cells #[.string ⟨#[]⟩, .int .i64 0, .int .i64 0, .int .i64 0] 30)) pf plo phi pr pp pn pc) := HK5.out.on ((Below.refl _ _).alloc (Nat.le_refl _) _)
                have b0 : (w5.alloc (.cells #[.string ⟨#[]⟩, .int .i64 0, .int .i64 0, .int .i64 0] 30)).cell? ⟨w.heap.size + 1, 0, none⟩ = some (.string ⟨#[]⟩) := HK6.out.b1.cell 0
                have bf0 : (w5.alloc (.cells #[.string ⟨#[]⟩, .int .i64 0, .int .i64 0, .int .i64 0] 30)).frozen? ⟨w.heap.size + 1, 0, none⟩ = false := HK6.out.b1.frozen 0
                have b1 : (w5.alloc (.cells #[.string ⟨#[]⟩, .int .i64 0, .int .i64 0, .int .i64 0] 30)).cell? ⟨w.heap.size + 1, 1, none⟩ = some (.int .i64 0) := HK6.out.b1.cell 1
                have bf1 : (w5.alloc (.cells #[.string ⟨#[]⟩, .int .i64 0, .int .i64 0, .int .i64 0] 30)).frozen? ⟨w.heap.size + 1, 1, none⟩ = false := HK6.out.b1.frozen 1
                have b2 : (w5.alloc (.cells #[.string ⟨#[]⟩, .int .i64 0, .int .i64 0, .int .i64 0] 30)).cell? ⟨w.heap.size + 1, 2, none⟩ = some (.int .i64 0) := HK6.out.b1.cell 2
                have bf2 : (w5.alloc (.cells #[.string ⟨#[]⟩, .int .i64 0, .int .i64 0, .int .i64 0] 30)).frozen? ⟨w.heap.size + 1, 2, none⟩ = false := HK6.out.b1.frozen 2
                have b3 : (w5.alloc (.cells #[.string ⟨#[]⟩, .int .i64 0, .int .i64 0, .int .i64 0] 30)).cell? ⟨w.heap.size + 1, 3, none⟩ = some (.int .i64 0) := HK6.out.b1.cell 3
                have bf3 : (w5.alloc (.cells #[.string ⟨#[]⟩, .int .i64 0, .int .i64 0, .int .i64 0] 30)).frozen? ⟨w.heap.size + 1, 3, none⟩ = false := HK6.out.b1.frozen 3
                have b4 : (w5.alloc (.cells #[.string ⟨#[]⟩, .int .i64 0, .int .i64 0, .int .i64 0] 30)).cell? ⟨w.heap.size + 1, 4, none⟩ = some (.bool false) := HK6.out.b1.cell 4
                have bf4 : (w5.alloc (.cells #[.string ⟨#[]⟩, .int .i64 0, .int .i64 0, .int .i64 0] 30)).frozen? ⟨w.heap.size + 1, 4, none⟩ = false := HK6.out.b1.frozen 4
                have b5 : (w5.alloc (.cells #[.string ⟨#[]⟩, .int .i64 0, .int .i64 0, .int .i64 0] 30)).cell? ⟨w.heap.size + 1, 5, none⟩ = some (.int .i64 0) := HK6.out.b1.cell 5
                have bf5 : (w5.alloc (.cells #[.string ⟨#[]⟩, .int .i64 0, .int .i64 0, .int .i64 0] 30)).frozen? ⟨w.heap.size + 1, 5, none⟩ = false := HK6.out.b1.frozen 5
                go_wp2
                clear b0 bf0 b1 bf1 b2 bf2 b3 bf3 b4 bf4 b5 bf5
                have k1 := HK6.out.b1.six (.string ⟨#[]⟩) (.int .i64 0) (.int .i64 0) (.int .i64 0) (.bool false) (.int .i64 0)
                have ht : Tn [w.heap.size + 1] (w5.alloc (.cells #[.string ⟨#[]⟩, .int .i64 0, .int .i64 0, .int .i64 0] 30)) _ := (Tn.refl _ (w5.alloc (.cells #[.string ⟨#[]⟩, .int .i64 0, .int .i64 0, .int .i64 0] 30))).six (R := w.heap.size + 1) (.inl (by simp)) (.string ⟨#[]⟩) (.int .i64 0) (.int .i64 0) (.int .i64 0) (.bool false) (.int .i64 0)
                refine bodyPost_ret (results_one (T' := 44) (cs := [.string ⟨#[]⟩, .int .i64 0, .int .i64 0, .int .i64 0, .bool false, .int .i64 0]) rfl rfl sp_agg sp_size rfl k1) rfl ?_
                rw [HF.out]
                exact ⟨.inl ⟨rfl, rfl⟩, HK6.out.below.trans (ht.below HK6.out.below.size (by simp))⟩
              | some x =>
                obtain ⟨xk, xs, xg, xc⟩ := x
                have HF : Hid (out = (⟨⟨xk, xs, xg, xc⟩, true, 0⟩, 0)) := HS2.out.symm
                unfold fv
                simp only
                have HK6 : Hid (Lk w (w5.alloc (.cells #[.string xk, .int .i64 xs, .int .i64 xg, .int .i64 xc] 30)) pf plo phi pr pp pn pc) := HK5.out.on ((Below.refl _ _).alloc (Nat.le_refl _) _)
                have b0 : (w5.alloc (.cells #[.string xk, .int .i64 xs, .int .i64 xg, .int .i64 xc] 30)).cell? ⟨w.heap.size + 1, 0, none⟩ = some (.string ⟨#[]⟩) := HK6.out.b1.cell 0
                have bf0 : (w5.alloc (.cells #[.string xk, .int .i64 xs, .int .i64 xg, .int .i64 xc] 30)).frozen? ⟨w.heap.size + 1, 0, none⟩ = false := HK6.out.b1.frozen 0
                have b1 : (w5.alloc (.cells #[.string xk, .int .i64 xs, .int .i64 xg, .int .i64 xc] 30)).cell? ⟨w.heap.size + 1, 1, none⟩ = some (.int .i64 0) := HK6.out.b1.cell 1
                have bf1 : (w5.alloc (.cells #[.string xk, .int .i64 xs, .int .i64 xg, .int .i64 xc] 30)).frozen? ⟨w.heap.size + 1, 1, none⟩ = false := HK6.out.b1.frozen 1
                have b2 : (w5.alloc (.cells #[.string xk, .int .i64 xs, .int .i64 xg, .int .i64 xc] 30)).cell? ⟨w.heap.size + 1, 2, none⟩ = some (.int .i64 0) := HK6.out.b1.cell 2
                have bf2 : (w5.alloc (.cells #[.string xk, .int .i64 xs, .int .i64 xg, .int .i64 xc] 30)).frozen? ⟨w.heap.size + 1, 2, none⟩ = false := HK6.out.b1.frozen 2
                have b3 : (w5.alloc (.cells #[.string xk, .int .i64 xs, .int .i64 xg, .int .i64 xc] 30)).cell? ⟨w.heap.size + 1, 3, none⟩ = some (.int .i64 0) := HK6.out.b1.cell 3
                have bf3 : (w5.alloc (.cells #[.string xk, .int .i64 xs, .int .i64 xg, .int .i64 xc] 30)).frozen? ⟨w.heap.size + 1, 3, none⟩ = false := HK6.out.b1.frozen 3
                have b4 : (w5.alloc (.cells #[.string xk, .int .i64 xs, .int .i64 xg, .int .i64 xc] 30)).cell? ⟨w.heap.size + 1, 4, none⟩ = some (.bool false) := HK6.out.b1.cell 4
                have bf4 : (w5.alloc (.cells #[.string xk, .int .i64 xs, .int .i64 xg, .int .i64 xc] 30)).frozen? ⟨w.heap.size + 1, 4, none⟩ = false := HK6.out.b1.frozen 4
                have b5 : (w5.alloc (.cells #[.string xk, .int .i64 xs, .int .i64 xg, .int .i64 xc] 30)).cell? ⟨w.heap.size + 1, 5, none⟩ = some (.int .i64 0) := HK6.out.b1.cell 5
                have bf5 : (w5.alloc (.cells #[.string xk, .int .i64 xs, .int .i64 xg, .int .i64 xc] 30)).frozen? ⟨w.heap.size + 1, 5, none⟩ = false := HK6.out.b1.frozen 5
                go_wp2
                clear b0 bf0 b1 bf1 b2 bf2 b3 bf3 b4 bf4 b5 bf5
                have k1 := HK6.out.b1.six (.string xk) (.int .i64 xs) (.int .i64 xg) (.int .i64 xc) (.bool true) (.int .i64 0)
                have ht : Tn [w.heap.size + 1] (w5.alloc (.cells #[.string xk, .int .i64 xs, .int .i64 xg, .int .i64 xc] 30)) _ := (Tn.refl _ (w5.alloc (.cells #[.string xk, .int .i64 xs, .int .i64 xg, .int .i64 xc] 30))).six (R := w.heap.size + 1) (.inl (by simp)) (.string xk) (.int .i64 xs) (.int .i64 xg) (.int .i64 xc) (.bool true) (.int .i64 0)
                refine bodyPost_ret (results_one (T' := 44) (cs := [.string xk, .int .i64 xs, .int .i64 xg, .int .i64 xc, .bool true, .int .i64 0]) rfl rfl sp_agg sp_size rfl k1) rfl ?_
                rw [HF.out]
                exact ⟨.inl ⟨rfl, rfl⟩, HK6.out.below.trans (ht.below HK6.out.below.size (by simp))⟩
        · have HF : Hid (out = (Sp.zero, kk)) := by rw [Hid, ← HS.out]; unfold Dl.says; rw [if_pos h0]
          refine ⟨rfl, ?_⟩
          rw [HF.out]
          exact ⟨.inr ⟨h0, rfl⟩, HK2.out.below⟩
      · have k5 : (dk == 5) = false := by simp [h5]
        go_wp2_with fail
        clear z0 z1 z2 z3 z4 z5 z6 z7 z8 z9 z10 z11 hw0 hgm
        clear a0 a1 a2 a3 a4
        clear b0 bf0 b1 bf1 b2 bf2 b3 bf3 b4 bf4 b5 bf5
        rw [← hp] at HD HE ⊢
        clear hp
        refine (outline_any ⟨pf, plo, phi, pr, pl⟩ pp pn pc p len cap L _ HL.out hll (HD.out.below HK0.out.below (Nat.le_refl _))).mono ?_
        have HS : Hid (Dl.says ⟨pf, plo, phi, pr, pl⟩ key (L.map (·.d)) EL (Dl.outl ⟨pf, plo, phi, pr, pl⟩ (L.map (·.d)).reverse) = out) := HSAY.out
        have HE1 : Hid _ := HE.out
        obtain ⟨⟨⟨qf, qlo, qhi, qr, ql⟩, kk⟩, hO⟩ : ∃ o, Dl.outl ⟨pf, plo, phi, pr, pl⟩ (L.map (·.d)).reverse = o := ⟨_, rfl⟩
        rw [hO] at HS HE1
        rw [hO]
        rintro e w2 ⟨hd, hb2⟩
        have HK2 : Hid (Lk w w2 pf plo phi pr pp pn pc) := HK0.out.on hb2
        clear hb2 hO
        simp only at hd
        rcases hd with ⟨h0, rfl⟩ | ⟨h0, rfl⟩
        · subst h0
          obtain ⟨w3, hw3⟩ : ∃ w3, w3 = w2.alloc (.cells #[.bool qf, .string qlo, .string qhi, .int .i64 qr, .slice none 0 0] 24) := ⟨_, rfl⟩
          have HK3 : Hid (Lk w w3 pf plo phi pr pp pn pc) := by rw [hw3]; exact HK2.out.on ((Below.refl _ _).alloc (Nat.le_refl _) _)
          have HP3 : Hid (Bk w3 w2.heap.size 24 #[.bool qf, .string qlo, .string qhi, .int .i64 qr, .slice none 0 0]) := by rw [hw3]; exact Bk.new _ _ _
          have HPW : Hid (w.heap.size + 1 < w2.heap.size) := HK2.out.b1.lt
          go_wp2_with fail
          rw [← hw3]
          clear hw3
          refine (has_any qf qlo qhi qr none 0 0 _ key).mono ?_
          cases hin : Ky.inn ⟨qlo, qhi⟩ key with
          | false =>
            have HS2 : Hid ((if (Ky.lt key qlo || qr == 0) = true then (Sp.zero, 73) else (⟨En.zero, false, qr⟩, 0)) = out) := by rw [Hid, ← HS.out]; unfold Dl.says; simp only [hin]; rfl
            rintro e w4 ⟨rfl, hb4⟩
            have HK4 : Hid (Lk w w4 pf plo phi pr pp pn pc) := HK3.out.on hb4
            have HP4 : Hid (Bk w4 w2.heap.size 24 #[.bool qf, .string qlo, .string qhi, .int .i64 qr, .slice none 0 0]) := HP3.out.below hb4 HP3.out.lt
            clear hb4 hin
            have q0 : w4.cell? ⟨w2.heap.size, 0, none⟩ = some (.bool qf) := HP4.out.cell 0
            have q1 : w4.cell? ⟨w2.heap.size, 1, none⟩ = some (.string qlo) := HP4.out.cell 1
            have q2 : w4.cell? ⟨w2.heap.size, 2, none⟩ = some (.string qhi) := HP4.out.cell 2
            have q3 : w4.cell? ⟨w2.heap.size, 3, none⟩ = some (.int .i64 qr) := HP4.out.cell 3
            have q4 : w4.cell? ⟨w2.heap.size, 4, none⟩ = some (.slice none 0 0) := HP4.out.cell 4
            go_wp2_with fail
            clear q0 q1 q2 q3 q4
            refine (beside_any qf qlo qhi qr none 0 0 key _).mono ?_
            rintro e w5 ⟨hbs, hb5⟩
            have HK5 : Hid (Lk w w5 pf plo phi pr pp pn pc) := HK4.out.on hb5
            clear hb5
            rcases hbs with ⟨hc, rfl⟩ | ⟨hc, rfl⟩
            · have HF : Hid (out = (⟨En.zero, false, qr⟩, 0)) := by rw [Hid, ← HS2.out, hc]; rfl
              clear hc
              have b0 : w5.cell? ⟨w.heap.size + 1, 0, none⟩ = some (.string ⟨#[]⟩) := HK5.out.b1.cell 0
              have bf0 : w5.frozen? ⟨w.heap.size + 1, 0, none⟩ = false := HK5.out.b1.frozen 0
              have b1 : w5.cell? ⟨w.heap.size + 1, 1, none⟩ = some (.int .i64 0) := HK5.out.b1.cell 1
              have bf1 : w5.frozen? ⟨w.heap.size + 1, 1, none⟩ = false := HK5.out.b1.frozen 1
              have b2 : w5.cell? ⟨w.heap.size + 1, 2, none⟩ = some (.int .i64 0) := HK5.out.b1.cell 2
              have bf2 : w5.frozen? ⟨w.heap.size + 1, 2, none⟩ = false := HK5.out.b1.frozen 2
              have b3 : w5.cell? ⟨w.heap.size + 1, 3, none⟩ = some (.int .i64 0) := HK5.out.b1.cell 3
              have bf3 : w5.frozen? ⟨w.heap.size + 1, 3, none⟩ = false := HK5.out.b1.frozen 3
              have b4 : w5.cell? ⟨w.heap.size + 1, 4, none⟩ = some (.bool false) := HK5.out.b1.cell 4
              have bf4 : w5.frozen? ⟨w.heap.size + 1, 4, none⟩ = false := HK5.out.b1.frozen 4
              have b5 : w5.cell? ⟨w.heap.size + 1, 5, none⟩ = some (.int .i64 0) := HK5.out.b1.cell 5
              have bf5 : w5.frozen? ⟨w.heap.size + 1, 5, none⟩ = false := HK5.out.b1.frozen 5
              go_wp2
              clear b0 bf0 b1 bf1 b2 bf2 b3 bf3 b4 bf4 b5 bf5
              have k1 := HK5.out.b1.six (.string ⟨#[]⟩) (.int .i64 0) (.int .i64 0) (.int .i64 0) (.bool false) (.int .i64 qr)
              have ht : Tn [w.heap.size + 1] w5 _ := (Tn.refl _ w5).six (R := w.heap.size + 1) (.inl (by simp)) (.string ⟨#[]⟩) (.int .i64 0) (.int .i64 0) (.int .i64 0) (.bool false) (.int .i64 qr)
              refine bodyPost_ret (results_one (T' := 44) (cs := [.string ⟨#[]⟩, .int .i64 0, .int .i64 0, .int .i64 0, .bool false, .int .i64 qr]) rfl rfl sp_agg sp_size rfl k1) rfl ?_
              rw [HF.out]
              exact ⟨.inl ⟨rfl, rfl⟩, HK5.out.below.trans (ht.below HK5.out.below.size (by simp))⟩
            · have HF : Hid (out = (Sp.zero, 73)) := by rw [Hid, ← HS2.out, hc]; rfl
              refine ⟨rfl, ?_⟩
              rw [HF.out]
              exact ⟨.inr ⟨by decide, rfl⟩, HK5.out.below⟩
          | true =>
            rintro e w4 ⟨rfl, hb4⟩
            have HK4 : Hid (Lk w w4 pf plo phi pr pp pn pc) := HK3.out.on hb4
            have HP4 : Hid (Bk w4 w2.heap.size 24 #[.bool qf, .string qlo, .string qhi, .int .i64 qr, .slice none 0 0]) := HP3.out.below hb4 HP3.out.lt
            clear hb4
            have q0 : w4.cell? ⟨w2.heap.size, 0, none⟩ = some (.bool qf) := HP4.out.cell 0
            have qf0 : w4.frozen? ⟨w2.heap.size, 0, none⟩ = false := HP4.out.frozen 0
            have q1 : w4.cell? ⟨w2.heap.size, 1, none⟩ = some (.string qlo) := HP4.out.cell 1
            have qf1 : w4.frozen? ⟨w2.heap.size, 1, none⟩ = false := HP4.out.frozen 1
            have q2 : w4.cell? ⟨w2.heap.size, 2, none⟩ = some (.string qhi) := HP4.out.cell 2
            have qf2 : w4.frozen? ⟨w2.heap.size, 2, none⟩ = false := HP4.out.frozen 2
            have q3 : w4.cell? ⟨w2.heap.size, 3, none⟩ = some (.int .i64 qr) := HP4.out.cell 3
            have qf3 : w4.frozen? ⟨w2.heap.size, 3, none⟩ = false := HP4.out.frozen 3
            have q4 : w4.cell? ⟨w2.heap.size, 4, none⟩ = some (.slice none 0 0) := HP4.out.cell 4
            have qf4 : w4.frozen? ⟨w2.heap.size, 4, none⟩ = false := HP4.out.frozen 4
            have a0 : w4.cell? ⟨w.heap.size, 0, none⟩ = some (.bool pf) := HK4.out.b0.cell 0
            have a1 : w4.cell? ⟨w.heap.size, 1, none⟩ = some (.string plo) := HK4.out.b0.cell 1
            have a2 : w4.cell? ⟨w.heap.size, 2, none⟩ = some (.string phi) := HK4.out.b0.cell 2
            have a3 : w4.cell? ⟨w.heap.size, 3, none⟩ = some (.int .i64 pr) := HK4.out.b0.cell 3
            have a4 : w4.cell? ⟨w.heap.size, 4, none⟩ = some (.slice pp pn pc) := HK4.out.b0.cell 4
            cases qf with
            | false =>
              have HS2 : Hid (Dl.hitI (Pg.fnd false EL key) = out) := by rw [Hid, ← HS.out]; unfold Dl.says; simp only [hin]; rfl
              have HE2 : Hid _ := HE1.out (by simp) (by simp)
              go_wp2_with fail
              refine Calls.mono (HE2.out _ HK4.out.below) ?_
              rintro e w5 ⟨⟨q, m, c, rfl, hlm, hle, hmr⟩, hb5⟩
              have HK5 : Hid (Lk w w5 pf plo phi pr pp pn pc) := HK4.out.on hb5
              have HP5 : Hid (Bk w5 w2.heap.size 24 #[.bool false, .string qlo, .string qhi, .int .i64 qr, .slice none 0 0]) := HP4.out.below hb5 HP4.out.lt
              have HLM : Hid (EL.length = m) := hlm
              have HLE : Hid (Ens w5 q EL) := hle
              clear hb5 hlm hle
              clear q0 qf0 q1 qf1 q2 qf2 q3 qf3 q4 qf4
              clear a0 a1 a2 a3 a4
              have q0 : w5.cell? ⟨w2.heap.size, 0, none⟩ = some (.bool false) := HP5.out.cell 0
              have qf0 : w5.frozen? ⟨w2.heap.size, 0, none⟩ = false := HP5.out.frozen 0
              have q1 : w5.cell? ⟨w2.heap.size, 1, none⟩ = some (.string qlo) := HP5.out.cell 1
              have qf1 : w5.frozen? ⟨w2.heap.size, 1, none⟩ = false := HP5.out.frozen 1
              have q2 : w5.cell? ⟨w2.heap.size, 2, none⟩ = some (.string qhi) := HP5.out.cell 2
              have qf2 : w5.frozen? ⟨w2.heap.size, 2, none⟩ = false := HP5.out.frozen 2
              have q3 : w5.cell? ⟨w2.heap.size, 3, none⟩ = some (.int .i64 qr) := HP5.out.cell 3
              have qf3 : w5.frozen? ⟨w2.heap.size, 3, none⟩ = false := HP5.out.frozen 3
              have q4 : w5.cell? ⟨w2.heap.size, 4, none⟩ = some (.slice none 0 0) := HP5.out.cell 4
              have qf4 : w5.frozen? ⟨w2.heap.size, 4, none⟩ = false := HP5.out.frozen 4
              obtain ⟨w6, hw6⟩ : ∃ w6, w5.setCell ⟨w2.heap.size, 4, none⟩ (.slice q m c) = w6 := ⟨_, rfl⟩
              have ht6 : Tn [w2.heap.size] w5 w6 := by rw [← hw6]; exact (Tn.refl _ w5).setCell (.inl (by simp)) _
              have HP6 : Hid (Bk w6 w2.heap.size 24 #[.bool false, .string qlo, .string qhi, .int .i64 qr, .slice q m c]) := by rw [← hw6]; exact HP5.out.set 4 _
              have HK6 : Hid (Lk w w6 pf plo phi pr pp pn pc) := ⟨HK5.out.below.trans (ht6.below HK5.out.below.size (by have := HPW.out; simp; omega)), HK5.out.b0.tn ht6 (by have := HPW.out; simp; omega), HK5.out.b1.tn ht6 (by have := HPW.out; simp; omega)⟩
              have HL6 : Hid (Ens w6 q EL) := by rw [← hw6]; exact HLE.out.putSlice q4 _
              have y0 : w6.cell? ⟨w2.heap.size, 0, none⟩ = some (.bool false) := HP6.out.cell 0
              have y1 : w6.cell? ⟨w2.heap.size, 1, none⟩ = some (.string qlo) := HP6.out.cell 1
              have y2 : w6.cell? ⟨w2.heap.size, 2, none⟩ = some (.string qhi) := HP6.out.cell 2
              have y3 : w6.cell? ⟨w2.heap.size, 3, none⟩ = some (.int .i64 qr) := HP6.out.cell 3
              have y4 : w6.cell? ⟨w2.heap.size, 4, none⟩ = some (.slice q m c) := HP6.out.cell 4
              go_wp2_with fail
              clear hw6 ht6
              clear q0 qf0 q1 qf1 q2 qf2 q3 qf3 q4 qf4
              clear y0 y1 y2 y3 y4
              refine (below_any false qlo qhi qr q m c EL key _ HLM.out HL6.out hmr).mono ?_
              rw [HS2.out]
              rintro e w7 ⟨hd7, hb7⟩
              have HK7 : Hid (Lk w w7 pf plo phi pr pp pn pc) := HK6.out.on hb7
              clear hb7
              rcases hd7 with ⟨h0, rfl⟩ | ⟨h0, rfl⟩
              · obtain ⟨⟨⟨xk, xs, xg, xc⟩, xf, xgo⟩, kk⟩ := out
                simp only at h0
                subst h0
                have b0 : w7.cell? ⟨w.heap.size + 1, 0, none⟩ = some (.string ⟨#[]⟩) := HK7.out.b1.cell 0
                have bf0 : w7.frozen? ⟨w.heap.size + 1, 0, none⟩ = false := HK7.out.b1.frozen 0
                have b1 : w7.cell? ⟨w.heap.size + 1, 1, none⟩ = some (.int .i64 0) := HK7.out.b1.cell 1
                have bf1 : w7.frozen? ⟨w.heap.size + 1, 1, none⟩ = false := HK7.out.b1.frozen 1
                have b2 : w7.cell? ⟨w.heap.size + 1, 2, none⟩ = some (.int .i64 0) := HK7.out.b1.cell 2
                have bf2 : w7.frozen? ⟨w.heap.size + 1, 2, none⟩ = false := HK7.out.b1.frozen 2
                have b3 : w7.cell? ⟨w.heap.size + 1, 3, none⟩ = some (.int .i64 0) := HK7.out.b1.cell 3
                have bf3 : w7.frozen? ⟨w.heap.size + 1, 3, none⟩ = false := HK7.out.b1.frozen 3
                have b4 : w7.cell? ⟨w.heap.size + 1, 4, none⟩ = some (.bool false) := HK7.out.b1.cell 4
                have bf4 : w7.frozen? ⟨w.heap.size + 1, 4, none⟩ = false := HK7.out.b1.frozen 4
                have b5 : w7.cell? ⟨w.heap.size + 1, 5, none⟩ = some (.int .i64 0) := HK7.out.b1.cell 5
                have bf5 : w7.frozen? ⟨w.heap.size + 1, 5, none⟩ = false := HK7.out.b1.frozen 5
                go_wp2
                clear b0 bf0 b1 bf1 b2 bf2 b3 bf3 b4 bf4 b5 bf5
                have k1 := HK7.out.b1.six (.string xk) (.int .i64 xs) (.int .i64 xg) (.int .i64 xc) (.bool xf) (.int .i64 xgo)
                have ht : Tn [w.heap.size + 1] w7 _ := (Tn.refl _ w7).six (R := w.heap.size + 1) (.inl (by simp)) (.string xk) (.int .i64 xs) (.int .i64 xg) (.int .i64 xc) (.bool xf) (.int .i64 xgo)
                refine bodyPost_ret (results_one (T' := 44) (cs := [.string xk, .int .i64 xs, .int .i64 xg, .int .i64 xc, .bool xf, .int .i64 xgo]) rfl rfl sp_agg sp_size rfl k1) rfl ?_
                skip
                exact ⟨.inl ⟨rfl, rfl⟩, HK7.out.below.trans (ht.below HK7.out.below.size (by simp))⟩
              · refine ⟨rfl, ?_⟩
                exact ⟨.inr ⟨h0, rfl⟩, HK7.out.below⟩
            | true =>
              obtain ⟨fo, HFO⟩ : ∃ fo, Hid (Pg.find true (Dl.among ⟨pf, plo, phi, pr, pl⟩ key (L.map (·.d)) EL) key = fo) := ⟨_, rfl⟩
              have HS2 : Hid (Dl.hitL fo = out) := by rw [Hid, ← HS.out, ← HFO.out]; unfold Dl.says; simp only [hin]; rfl
              go_wp2_with fail
              refine (inLeaf_any pf plo phi pr pp pn pc pl key p len cap L EL _ HN.out (HX.out.below HK4.out.below (Nat.le_refl _)) hl HL.out hll (HD.out.below HK4.out.below (Nat.le_refl _)) (fun hm W hW => HE1.out (by simp) (by simp [hm]) W (HK4.out.below.trans (hW.mono HK4.out.below.size)))).mono ?_
              rw [HFO.out]
              rintro e w5 ⟨rfl, hb5⟩
              have HK5 : Hid (Lk w w5 pf plo phi pr pp pn pc) := HK4.out.on hb5
              clear hb5
              clear q0 qf0 q1 qf1 q2 qf2 q3 qf3 q4 qf4
              clear a0 a1 a2 a3 a4
              cases fo with
              | none =>
                have HF : Hid (out = (Sp.zero, 0)) := HS2.out.symm
                unfold fv
                simp only
                have HK6 : Hid (Lk w (w5.alloc (.cells #[.string ⟨#[]⟩, .int .i64 0, .int .i64 0, .int .i64 0] 30)) pf plo phi pr pp pn pc) := HK5.out.on ((Below.refl _ _).alloc (Nat.le_refl _) _)
                have b0 : (w5.alloc (.cells #[.string ⟨#[]⟩, .int .i64 0, .int .i64 0, .int .i64 0] 30)).cell? ⟨w.heap.size + 1, 0, none⟩ = some (.string ⟨#[]⟩) := HK6.out.b1.cell 0
                have bf0 : (w5.alloc (.cells #[.string ⟨#[]⟩, .int .i64 0, .int .i64 0, .int .i64 0] 30)).frozen? ⟨w.heap.size + 1, 0, none⟩ = false := HK6.out.b1.frozen 0
                have b1 : (w5.alloc (.cells #[.string ⟨#[]⟩, .int .i64 0, .int .i64 0, .int .i64 0] 30)).cell? ⟨w.heap.size + 1, 1, none⟩ = some (.int .i64 0) := HK6.out.b1.cell 1
                have bf1 : (w5.alloc (.cells #[.string ⟨#[]⟩, .int .i64 0, .int .i64 0, .int .i64 0] 30)).frozen? ⟨w.heap.size + 1, 1, none⟩ = false := HK6.out.b1.frozen 1
                have b2 : (w5.alloc (.cells #[.string ⟨#[]⟩, .int .i64 0, .int .i64 0, .int .i64 0] 30)).cell? ⟨w.heap.size + 1, 2, none⟩ = some (.int .i64 0) := HK6.out.b1.cell 2
                have bf2 : (w5.alloc (.cells #[.string ⟨#[]⟩, .int .i64 0, .int .i64 0, .int .i64 0] 30)).frozen? ⟨w.heap.size + 1, 2, none⟩ = false := HK6.out.b1.frozen 2
                have b3 : (w5.alloc (.cells #[.string ⟨#[]⟩, .int .i64 0, .int .i64 0, .int .i64 0] 30)).cell? ⟨w.heap.size + 1, 3, none⟩ = some (.int .i64 0) := HK6.out.b1.cell 3
                have bf3 : (w5.alloc (.cells #[.string ⟨#[]⟩, .int .i64 0, .int .i64 0, .int .i64 0] 30)).frozen? ⟨w.heap.size + 1, 3, none⟩ = false := HK6.out.b1.frozen 3
                have b4 : (w5.alloc (.cells #[.string ⟨#[]⟩, .int .i64 0, .int .i64 0, .int .i64 0] 30)).cell? ⟨w.heap.size + 1, 4, none⟩ = some (.bool false) := HK6.out.b1.cell 4
                have bf4 : (w5.alloc (.cells #[.string ⟨#[]⟩, .int .i64 0, .int .i64 0, .int .i64 0] 30)).frozen? ⟨w.heap.size + 1, 4, none⟩ = false := HK6.out.b1.frozen 4
                have b5 : (w5.alloc (.cells #[.string ⟨#[]⟩, .int .i64 0, .int .i64 0, .int .i64 0] 30)).cell? ⟨w.heap.size + 1, 5, none⟩ = some (.int .i64 0) := HK6.out.b1.cell 5
                have bf5 : (w5.alloc (.cells #[.string ⟨#[]⟩, .int .i64 0, .int .i64 0, .int .i64 0] 30)).frozen? ⟨w.heap.size + 1, 5, none⟩ = false := HK6.out.b1.frozen 5
                go_wp2
                clear b0 bf0 b1 bf1 b2 bf2 b3 bf3 b4 bf4 b5 bf5
                have k1 := HK6.out.b1.six (.string ⟨#[]⟩) (.int .i64 0) (.int .i64 0) (.int .i64 0) (.bool false) (.int .i64 0)
                have ht : Tn [w.heap.size + 1] (w5.alloc (.cells #[.string ⟨#[]⟩, .int .i64 0, .int .i64 0, .int .i64 0] 30)) _ := (Tn.refl _ (w5.alloc (.cells #[.string ⟨#[]⟩, .int .i64 0, .int .i64 0, .int .i64 0] 30))).six (R := w.heap.size + 1) (.inl (by simp)) (.string ⟨#[]⟩) (.int .i64 0) (.int .i64 0) (.int .i64 0) (.bool false) (.int .i64 0)
                refine bodyPost_ret (results_one (T' := 44) (cs := [.string ⟨#[]⟩, .int .i64 0, .int .i64 0, .int .i64 0, .bool false, .int .i64 0]) rfl rfl sp_agg sp_size rfl k1) rfl ?_
                rw [HF.out]
                exact ⟨.inl ⟨rfl, rfl⟩, HK6.out.below.trans (ht.below HK6.out.below.size (by simp))⟩
              | some x =>
                obtain ⟨xk, xs, xg, xc⟩ := x
                have HF : Hid (out = (⟨⟨xk, xs, xg, xc⟩, true, 0⟩, 0)) := HS2.out.symm
                unfold fv
                simp only
                have HK6 : Hid (Lk w (w5.alloc (.cells #[.string xk, .int .i64 xs, .int .i64 xg, .int .i64 xc] 30)) pf plo phi pr pp pn pc) := HK5.out.on ((Below.refl _ _).alloc (Nat.le_refl _) _)
                have b0 : (w5.alloc (.cells #[.string xk, .int .i64 xs, .int .i64 xg, .int .i64 xc] 30)).cell? ⟨w.heap.size + 1, 0, none⟩ = some (.string ⟨#[]⟩) := HK6.out.b1.cell 0
                have bf0 : (w5.alloc (.cells #[.string xk, .int .i64 xs, .int .i64 xg, .int .i64 xc] 30)).frozen? ⟨w.heap.size + 1, 0, none⟩ = false := HK6.out.b1.frozen 0
                have b1 : (w5.alloc (.cells #[.string xk, .int .i64 xs, .int .i64 xg, .int .i64 xc] 30)).cell? ⟨w.heap.size + 1, 1, none⟩ = some (.int .i64 0) := HK6.out.b1.cell 1
                have bf1 : (w5.alloc (.cells #[.string xk, .int .i64 xs, .int .i64 xg, .int .i64 xc] 30)).frozen? ⟨w.heap.size + 1, 1, none⟩ = false := HK6.out.b1.frozen 1
                have b2 : (w5.alloc (.cells #[.string xk, .int .i64 xs, .int .i64 xg, .int .i64 xc] 30)).cell? ⟨w.heap.size + 1, 2, none⟩ = some (.int .i64 0) := HK6.out.b1.cell 2
                have bf2 : (w5.alloc (.cells #[.string xk, .int .i64 xs, .int .i64 xg, .int .i64 xc] 30)).frozen? ⟨w.heap.size + 1, 2, none⟩ = false := HK6.out.b1.frozen 2
                have b3 : (w5.alloc (.cells #[.string xk, .int .i64 xs, .int .i64 xg, .int .i64 xc] 30)).cell? ⟨w.heap.size + 1, 3, none⟩ = some (.int .i64 0) := HK6.out.b1.cell 3
                have bf3 : (w5.alloc (.cells #[.string xk, .int .i64 xs, .int .i64 xg, .int .i64 xc] 30)).frozen? ⟨w.heap.size + 1, 3, none⟩ = false := HK6.out.b1.frozen 3
                have b4 : (w5.alloc (.cells #[.string xk, .int .i64 xs, .int .i64 xg, .int .i64 xc] 30)).cell? ⟨w.heap.size + 1, 4, none⟩ = some (.bool false) := HK6.out.b1.cell 4
                have bf4 : (w5.alloc (.cells #[.string xk, .int .i64 xs, .int .i64 xg, .int .i64 xc] 30)).frozen? ⟨w.heap.size + 1, 4, none⟩ = false := HK6.out.b1.frozen 4
                have b5 : (w5.alloc (.cells #[.string xk, .int .i64 xs, .int .i64 xg, .int .i64 xc] 30)).cell? ⟨w.heap.size + 1, 5, none⟩ = some (.int .i64 0) := HK6.out.b1.cell 5
                have bf5 : (w5.alloc (.cells #[.string xk, .int .i64 xs, .int .i64 xg, .int .i64 xc] 30)).frozen? ⟨w.heap.size + 1, 5, none⟩ = false := HK6.out.b1.frozen 5
                go_wp2
                clear b0 bf0 b1 bf1 b2 bf2 b3 bf3 b4 bf4 b5 bf5
                have k1 := HK6.out.b1.six (.string xk) (.int .i64 xs) (.int .i64 xg) (.int .i64 xc) (.bool true) (.int .i64 0)
                have ht : Tn [w.heap.size + 1] (w5.alloc (.cells #[.string xk, .int .i64 xs, .int .i64 xg, .int .i64 xc] 30)) _ := (Tn.refl _ (w5.alloc (.cells #[.string xk, .int .i64 xs, .int .i64 xg, .int .i64 xc] 30))).six (R := w.heap.size + 1) (.inl (by simp)) (.string xk) (.int .i64 xs) (.int .i64 xg) (.int .i64 xc) (.bool true) (.int .i64 0)
                refine bodyPost_ret (results_one (T' := 44) (cs := [.string xk, .int .i64 xs, .int .i64 xg, .int .i64 xc, .bool true, .int .i64 0]) rfl rfl sp_agg sp_size rfl k1) rfl ?_
                rw [HF.out]
                exact ⟨.inl ⟨rfl, rfl⟩, HK6.out.below.trans (ht.below HK6.out.below.size (by simp))⟩
        · have HF : Hid (out = (Sp.zero, kk)) := by rw [Hid, ← HS.out]; unfold Dl.says; rw [if_pos h0]
          refine ⟨rfl, ?_⟩
          rw [HF.out]
          exact ⟨.inr ⟨h0, rfl⟩, HK2.out.below⟩

end Go.Proofs.YtlcbideongbmeaaGreat

namespace Go.Proofs.YtlcbideongbmeaaGreat
open Go.RowKit
set_option linter.unusedVariables false

namespace Dl
abbrev spl (sep : ByteArray) (id : Int) : De := ⟨3, En.zero, sep, id, Pg.zero⟩

theorem spl_ok {g : Pp} {sep : ByteArray} {id : Int} (h : (apply g (spl sep id)).2 = 0) :
    Ky.lt g.lo sep = true ∧ Ky.inn ⟨g.lo, g.hi⟩ sep = true ∧ Ky.nil sep = false ∧ 1 ≤ id ∧ apply g (spl sep id) = (⟨g.leaf, g.lo, sep, id, g.l.filter fun e => Ky.lt e.key sep⟩, 0) := by
  have hm := (apply_ok h).1
  have h3 := apply_3 (g := g) hm
  rw [h3] at h ⊢
  by_cases hc : (Ky.lt g.lo sep && Ky.inn ⟨g.lo, g.hi⟩ sep) = true
  · rw [if_pos hc]
    rw [Bool.and_eq_true] at hc
    have hf : fits (spl sep id) = true := by
      unfold may at hm
      rw [Bool.and_eq_true] at hm
      exact hm.2
    have hf2 : (!sep.toList.isEmpty && decide (1 ≤ id)) = true := hf
    simp only [Bool.and_eq_true, decide_eq_true_eq] at hf2
    refine ⟨hc.1, hc.2, ?_, hf2.2, rfl⟩
    unfold Ky.nil
    simpa using hf2.1
  · rw [if_neg hc] at h
    simp at h

theorem spl_outl {g : Pp} {sep : ByteArray} {id : Int} (h : (apply g (spl sep id)).2 = 0) : outl g [spl sep id] = (⟨g.leaf, g.lo, sep, id, []⟩, 0) := by
  have h1 : fo g [spl sep id] = apply g (spl sep id) := rfl
  rw [outl_fo, h1, (spl_ok h).2.2.2.2]
  rfl

theorem rev_find (l : List En) (p q : En → Bool) (h : ∀ x ∈ l, q x = true → p x = true) : (l.filter p).reverse.find? q = l.reverse.find? q := by
  rw [← List.filter_reverse]
  have h' : ∀ x ∈ l.reverse, q x = true → p x = true := fun x hx => h x (by simpa using hx)
  revert h'
  generalize l.reverse = m
  intro h'
  induction m with
  | nil => rfl
  | cons x t ih =>
    have iht := ih (fun y hy => h' y (by simp [hy]))
    cases hp : p x with
    | true =>
      rw [List.filter_cons_of_pos hp, List.find?_cons, List.find?_cons, iht]
    | false =>
      rw [List.filter_cons_of_neg (by simp [hp]), iht, List.find?_cons]
      have : q x = false := by
        cases hq : q x with
        | false => rfl
        | true => have := h' x (by simp) hq; rw [hp] at this; cases this
      rw [this]

theorem look_right {g : Pp} {sep key : ByteArray} {id : Int} (h : (apply g (spl sep id)).2 = 0) (h1 : Ky.lt key sep = false) (h2 : Ky.lt key g.lo = false) (EL : List En) :
    look g key [spl sep id] EL = (⟨En.zero, false, id⟩, 0) ∧ Ky.inn ⟨g.lo, sep⟩ key = false := by
  obtain ⟨a1, a2, a3, a4, a5⟩ := spl_ok h
  have hi : Ky.inn ⟨g.lo, sep⟩ key = false := by
    unfold Ky.inn Ky.below
    simp [h1, h2, a3]
  refine ⟨?_, hi⟩
  unfold look
  rw [show gone [spl sep id] = none from rfl]
  simp only [List.reverse_cons, List.reverse_nil, List.nil_append]
  rw [spl_outl h]
  unfold says
  have hid : (id == 0) = false := by
    rw [beq_eq_false_iff_ne]
    omega
  simp only [ne_eq, not_true_eq_false, if_false, hi, if_true, h2, hid, Bool.or_self, Bool.false_eq_true]

theorem look_left {g : Pp} {sep key : ByteArray} {id : Int} (hm : Pg.may g.leaf ⟨g.lo, g.hi⟩ g.r g.l = true) (h : (apply g (spl sep id)).2 = 0) (h1 : Ky.lt key sep = true ∨ Ky.lt key g.lo = true) :
    look g key [spl sep id] (g.l.filter fun e => Ky.lt e.key sep) = look g key [] g.l := by
  obtain ⟨a1, a2, a3, a4, a5⟩ := spl_ok h
  unfold look
  rw [show gone [spl sep id] = none from rfl, show gone [] = none from rfl]
  simp only [List.reverse_cons, List.reverse_nil, List.nil_append]
  rw [spl_outl h, show outl g [] = (hd g, 0) from rfl]
  cases hlo : Ky.lt key g.lo with
  | true =>
    have i1 : ∀ hi, Ky.inn ⟨g.lo, hi⟩ key = false := fun hi => by
      unfold Ky.inn
      simp [hlo]
    unfold says
    simp only [hd, ne_eq, not_true_eq_false, if_false, i1, if_true, hlo, Bool.true_or]
  | false =>
    have h2 : Ky.lt key sep = true := by
      rcases h1 with h1 | h1
      · exact h1
      · rw [hlo] at h1; cases h1
    have i1 : Ky.inn ⟨g.lo, sep⟩ key = true := by
      unfold Ky.inn Ky.below
      simp [hlo, h2]
    have i2 : Ky.inn ⟨g.lo, g.hi⟩ key = true := by
      unfold Ky.inn Ky.below at a2 ⊢
      simp only [Bool.and_eq_true, Bool.not_eq_true', Bool.or_eq_true] at a2 ⊢
      refine ⟨hlo, ?_⟩
      rcases a2.2 with a | a
      · exact .inl a
      · exact .inr (Ky.lt_trans h2 a)
    have hf : Pg.fnd false (g.l.filter fun e => Ky.lt e.key sep) key = Pg.fnd false g.l key := by
      unfold Pg.fnd
      simp only [Bool.false_eq_true, if_false]
      refine rev_find _ _ _ fun x hx hq => ?_
      have hq2 : Ky.lt key x.key = false := by simpa using hq
      cases hx2 : Ky.lt x.key sep with
      | true => rfl
      | false =>
        by_cases he : x.key = key
        · rw [he, h2] at hx2; cases hx2
        · exfalso
          have h5 : Ky.lt x.key key = true := by
            cases hq3 : Ky.lt x.key key with
            | true => rfl
            | false => exact absurd (Ky.lt_total hq3 hq2) he
          rw [Ky.lt_trans h5 h2] at hx2
          cases hx2
    have ha : ∀ ds EL, among g key ds EL = say g.l key ds := fun ds EL => by
      unfold among
      rw [if_pos hm]
    unfold says
    simp only [hd, ne_eq, not_true_eq_false, if_false, i1, i2, Bool.true_eq_false, hf, ha]
    rfl
end Dl
end Go.Proofs.YtlcbideongbmeaaGreat

namespace Go.Proofs.YtlcbideongbmeaaGreat
open Go.RowKit Go.Sort
set_option linter.unusedVariables false
set_option maxRecDepth 100000

theorem caughtS_idle (B : Nat) (w : World) :
    CallsD Tryz.prog 62 #[.pointer (some ⟨B, 0, none⟩)] .returning w fun e u' w' => e = .returned (.tuple #[]) ∧ u' = .returning ∧ w' = w := by
  refine callsD_of_wpS Tryz.func62 rfl fun c₀ cs hu => ?_
  apply wpS_seq
  apply wpS_region
  simp [wpOpsS, go_sem, recoverD, hu, Tryz.ntmps62, Exit.thenS]
  refine wpS_of_wp ?_
  simp only [Array.replicate_succ, Array.replicate_zero, List.push_toArray, List.append_toArray, List.setIfInBounds_toArray, List.set_cons_zero, List.set_cons_succ, List.nil_append, List.cons_append]
  go_wp2
  cases c₀
  simp_all [bodyPostS, results, Tryz.results62]

theorem caughtS_no (B : Nat) (k x : Int) (w : World) (hc : w.cell? ⟨B, 0, none⟩ = some (.int .i64 x)) (hz : w.frozen? ⟨B, 0, none⟩ = false) :
    CallsD Tryz.prog 62 #[.pointer (some ⟨B, 0, none⟩)] (.panicking [{ v := .iface 34 (.int .i64 k), recovered := false }]) w fun e u' w' => e = .returned (.tuple #[]) ∧ u' = .panicking [{ v := .iface 34 (.int .i64 k), recovered := true }] ∧ w' = w.setCell ⟨B, 0, none⟩ (.int .i64 k) := by
  refine callsD_of_wpS Tryz.func62 rfl fun c₀ cs hu => ?_
  apply wpS_seq
  apply wpS_region
  simp [wpOpsS, go_sem, recoverD, hu, Tryz.ntmps62, Exit.thenS]
  refine wpS_of_wp ?_
  simp only [Array.replicate_succ, Array.replicate_zero, List.push_toArray, List.append_toArray, List.setIfInBounds_toArray, List.set_cons_zero, List.set_cons_succ, List.nil_append, List.cons_append]
  go_wp2_with fail
  refine (refusal_any k _).mono ?_
  rintro e w1 ⟨rfl, rfl⟩
  go_wp2
  simp [bodyPostS, results, Tryz.results62]


theorem results_se {fn : Func} {t u : Tmp} {T1 T2 : TypeId} (h : fn.results = #[.cell t 44, .cell u 34]) {tmps : Array Value} {w : World} {b c : Nat} (ht : tmps.getD t undef = .pointer (some ⟨b, 0, none⟩)) (hu : tmps.getD u undef = .pointer (some ⟨c, 0, none⟩)) {cs : List Value} {i : Int} (hn : cs.length = 6) (hk : Bk w b T1 cs.toArray) (hk2 : Bk w c T2 #[.int .i64 i]) :
    (results fn tmps).run Tryz.prog w = .ok (.tuple #[.agg cs.toArray, .int .i64 i]) w := by
  have c1 : w.cell? ⟨c, 0, none⟩ = some (.int .i64 i) := hk2.cell 0
  have hy : ∀ w : World, (loadVar 34 ⟨c, 0, none⟩).run Tryz.prog w = (load ⟨c, 0, none⟩).run Tryz.prog w := fun w => by kernel_rfl
  have ht' : tmps[t]?.getD undef = .pointer (some ⟨b, 0, none⟩) := by simpa using ht
  have hu' : tmps[u]?.getD undef = .pointer (some ⟨c, 0, none⟩) := by simpa using hu
  simp [results, h, ht', hu', asAddr, run_loadVar_cells sp_agg sp_size hn hk, hy, c1]

set_option maxHeartbeats 1000000 in
theorem caughtS_any (g : Nat) (lb : Array Value) (eg : ∀ args w, (callFunc g args).run Tryz.prog w = .ok (.enter g args) w) (out : Sp × Int) (hz : out.2 ≠ 0 → out.1 = Sp.zero) (w : World)
    (h : Calls Tryz.prog g lb ((w.alloc (.cells #[.string ⟨#[]⟩, .int .i64 0, .int .i64 0, .int .i64 0, .bool false, .int .i64 0] 44)).alloc (.cells #[.int .i64 0] 34)) fun e w' => DoneS ((w.alloc (.cells #[.string ⟨#[]⟩, .int .i64 0, .int .i64 0, .int .i64 0, .bool false, .int .i64 0] 44)).alloc (.cells #[.int .i64 0] 34)) out e w') :
    Calls Tryz.prog 35 #[.func (.func g) #[] lb] w fun e w' => e = .returned (.tuple #[spv out.1.e out.1.f out.1.g, .int .i64 out.2]) ∧ Below w.heap.size w w' := by
  have hmf : ∀ (fn : Fn) (first cap : Array Value) (w : World), (Instr.makeFunc fn first cap).run Tryz.prog w = .ok (.func fn first cap) w := fun _ _ _ _ => rfl
  have H : Hid _ := h
  have HB0 : Hid (Below w.heap.size w ((w.alloc (.cells #[.string ⟨#[]⟩, .int .i64 0, .int .i64 0, .int .i64 0, .bool false, .int .i64 0] 44)).alloc (.cells #[.int .i64 0] 34))) := ((Below.refl _ _).alloc (Nat.le_refl _) _).alloc (by simp) _
  have HK0 : Hid (Bk ((w.alloc (.cells #[.string ⟨#[]⟩, .int .i64 0, .int .i64 0, .int .i64 0, .bool false, .int .i64 0] 44)).alloc (.cells #[.int .i64 0] 34)) w.heap.size 44 #[.string ⟨#[]⟩, .int .i64 0, .int .i64 0, .int .i64 0, .bool false, .int .i64 0]) := (Bk.new _ _ _).alloc _
  have HE0 : Hid (Bk ((w.alloc (.cells #[.string ⟨#[]⟩, .int .i64 0, .int .i64 0, .int .i64 0, .bool false, .int .i64 0] 44)).alloc (.cells #[.int .i64 0] 34)) (w.heap.size + 1) 34 #[.int .i64 0]) := Bk.new1 _ _ _ _
  obtain ⟨⟨⟨xk, xs, xg, xc⟩, xf, xgo⟩, kk⟩ := out
  simp only at hz
  clear h
  go_enter_defers Tryz.func35, Tryz.ntmps35
  go_wp2_with fail
  refine Calls.mono H.out ?_
  rintro e w2 ⟨hd, hb⟩
  have HK2 : Hid (Bk w2 w.heap.size 44 #[.string ⟨#[]⟩, .int .i64 0, .int .i64 0, .int .i64 0, .bool false, .int .i64 0]) := HK0.out.below hb HK0.out.lt
  have HE2 : Hid (Bk w2 (w.heap.size + 1) 34 #[.int .i64 0]) := HE0.out.below hb HE0.out.lt
  have HB2 : Hid (Below w.heap.size w w2) := HB0.out.trans (hb.mono HB0.out.size)
  clear hb H
  simp only at hd
  rcases hd with ⟨h0, rfl⟩ | ⟨h0, rfl⟩
  · subst h0
    have b0 : w2.cell? ⟨w.heap.size, 0, none⟩ = some (.string ⟨#[]⟩) := HK2.out.cell 0
    have bf0 : w2.frozen? ⟨w.heap.size, 0, none⟩ = false := HK2.out.frozen 0
    have b1 : w2.cell? ⟨w.heap.size, 1, none⟩ = some (.int .i64 0) := HK2.out.cell 1
    have bf1 : w2.frozen? ⟨w.heap.size, 1, none⟩ = false := HK2.out.frozen 1
    have b2 : w2.cell? ⟨w.heap.size, 2, none⟩ = some (.int .i64 0) := HK2.out.cell 2
    have bf2 : w2.frozen? ⟨w.heap.size, 2, none⟩ = false := HK2.out.frozen 2
    have b3 : w2.cell? ⟨w.heap.size, 3, none⟩ = some (.int .i64 0) := HK2.out.cell 3
    have bf3 : w2.frozen? ⟨w.heap.size, 3, none⟩ = false := HK2.out.frozen 3
    have b4 : w2.cell? ⟨w.heap.size, 4, none⟩ = some (.bool false) := HK2.out.cell 4
    have bf4 : w2.frozen? ⟨w.heap.size, 4, none⟩ = false := HK2.out.frozen 4
    have b5 : w2.cell? ⟨w.heap.size, 5, none⟩ = some (.int .i64 0) := HK2.out.cell 5
    have bf5 : w2.frozen? ⟨w.heap.size, 5, none⟩ = false := HK2.out.frozen 5
    have d0 : w2.cell? ⟨w.heap.size + 1, 0, none⟩ = some (.int .i64 0) := HE2.out.cell 0
    have g0 : w2.frozen? ⟨w.heap.size + 1, 0, none⟩ = false := HE2.out.frozen 0
    go_wp2
    refine leaves_cons (f := 62) (args := #[.pointer (some ⟨w.heap.size + 1, 0, none⟩)]) (by simp) (by simp [go_sem]) ?_
    refine (caughtS_idle (w.heap.size + 1) _).mono ?_
    rintro e u' w'' ⟨rfl, rfl, rfl⟩
    clear b0 bf0 b1 bf1 b2 bf2 b3 bf3 b4 bf4 b5 bf5
    clear d0 g0
    have k1 := (HK2.out.six (.string xk) (.int .i64 xs) (.int .i64 xg) (.int .i64 xc) (.bool xf) (.int .i64 xgo)).other (p := ⟨w.heap.size + 1, 0, none⟩) (by simp) (.int .i64 0)
    have k2 := (HE2.out.sixO (R := w.heap.size) (by omega) (.string xk) (.int .i64 xs) (.int .i64 xg) (.int .i64 xc) (.bool xf) (.int .i64 xgo)).set 0 (.int .i64 0)
    have ht : Tn [w.heap.size, w.heap.size + 1] w2 _ := ((Tn.refl _ w2).six (R := w.heap.size) (.inl (by simp)) (.string xk) (.int .i64 xs) (.int .i64 xg) (.int .i64 xc) (.bool xf) (.int .i64 xgo)).setCell (p := ⟨w.heap.size + 1, 0, none⟩) (.inl (by simp)) (.int .i64 0)
    refine ⟨_, results_se (cs := [.string xk, .int .i64 xs, .int .i64 xg, .int .i64 xc, .bool xf, .int .i64 xgo]) rfl rfl rfl rfl k1 k2, ?_⟩
    exact ⟨rfl, HB2.out.trans (ht.below HB2.out.size (by simp))⟩
  · have hzz := hz h0
    simp only [Sp.mk.injEq, En.mk.injEq] at hzz
    obtain ⟨⟨rfl, rfl, rfl, rfl⟩, rfl, rfl⟩ := hzz
    refine leaves_cons (f := 62) (args := #[.pointer (some ⟨w.heap.size + 1, 0, none⟩)]) (by simp) (by simp [go_sem]) ?_
    refine (caughtS_no (w.heap.size + 1) kk 0 _ (HE2.out.cell 0) (HE2.out.frozen 0)).mono ?_
    rintro e u' w'' ⟨rfl, rfl, rfl⟩
    have k1 := HK2.out.other (p := ⟨w.heap.size + 1, 0, none⟩) (by simp) (.int .i64 kk)
    have k2 := HE2.out.set 0 (.int .i64 kk)
    have ht : Tn [w.heap.size + 1] w2 _ := (Tn.refl _ w2).setCell (p := ⟨w.heap.size + 1, 0, none⟩) (.inl (by simp)) (.int .i64 kk)
    refine ⟨_, results_se (cs := [.string ⟨#[]⟩, .int .i64 0, .int .i64 0, .int .i64 0, .bool false, .int .i64 0]) rfl rfl rfl rfl k1 k2, ?_⟩
    exact ⟨rfl, HB2.out.trans (ht.below HB2.out.size (by simp))⟩

theorem Dl.look_zero (g : Pp) (key : ByteArray) (ds : List De) (EL : List En) (h : (Dl.look g key ds EL).2 ≠ 0) : (Dl.look g key ds EL).1 = Sp.zero := by
  unfold Dl.look at h ⊢
  split
  · rename_i n hn
    rw [hn] at h
    exact absurd rfl h
  · rename_i hn
    rw [hn] at h
    simp only at h
    unfold Dl.says at h ⊢
    split
    · rfl
    · rename_i h1
      rw [if_neg h1] at h
      split
      · rename_i h2
        rw [if_pos h2] at h
        split
        · rfl
        · rename_i h3
          rw [if_neg h3] at h
          exact absurd rfl h
      · rename_i h2
        rw [if_neg h2] at h
        split
        · rename_i h3
          rw [if_pos h3] at h
          cases hf : Pg.fnd false EL key with
          | none => rfl
          | some x => rw [hf] at h; exact absurd rfl h
        · rename_i h3
          rw [if_neg h3] at h
          cases hf : Pg.find true (Dl.among g key ds EL) key with
          | none => rfl
          | some x => rw [hf] at h; exact absurd rfl h

set_option maxHeartbeats 2000000 in
theorem look_any (pf : Bool) (plo phi : ByteArray) (pr : Int) (pp : Option Addr) (pn pc : Nat) (pl : List En) (key : ByteArray) (p : Option Addr) (len cap : Nat) (L : List Dm) (EL : List En) (w : World) (hlen : pl.length = pn) (hx : Ens w pp pl) (hl : pn ≤ 3518437208780) (hL : L.length = len) (hll : len ≤ 4398046511104) (hD : Des w p L)
    (hE : (Dl.outl ⟨pf, plo, phi, pr, pl⟩ (L.map (·.d)).reverse).2 = 0 → ((Dl.outl ⟨pf, plo, phi, pr, pl⟩ (L.map (·.d)).reverse).1.leaf = false ∨ Pg.may pf ⟨plo, phi⟩ pr pl = false) → ∀ W, Below w.heap.size w W → Calls Tryz.prog 54 #[pgv pf plo phi pr pp pn pc, .slice p len cap] W fun e w' => Led W EL e w') :
    Calls Tryz.prog 18 #[pgv pf plo phi pr pp pn pc, .string key, .slice p len cap] w fun e w' => e = .returned (.tuple #[spv (Dl.look ⟨pf, plo, phi, pr, pl⟩ key (L.map (·.d)) EL).1.e (Dl.look ⟨pf, plo, phi, pr, pl⟩ key (L.map (·.d)) EL).1.f (Dl.look ⟨pf, plo, phi, pr, pl⟩ key (L.map (·.d)) EL).1.g, .int .i64 (Dl.look ⟨pf, plo, phi, pr, pl⟩ key (L.map (·.d)) EL).2]) ∧ Below w.heap.size w w' := by
  have hmf : ∀ (fn : Fn) (first cap : Array Value) (w : World), (Instr.makeFunc fn first cap).run Tryz.prog w = .ok (.func fn first cap) w := fun _ _ _ _ => rfl
  have eg : ∀ args w, (callFunc 36 args).run Tryz.prog w = .ok (.enter 36 args) w := enters_of Tryz.func36 (by kernel_rfl) rfl
  have hz := Dl.look_zero ⟨pf, plo, phi, pr, pl⟩ key (L.map (·.d)) EL
  have hq := fun (W : World) (hW : Below w.heap.size w W) => looked_any pf plo phi pr pp pn pc pl key p len cap L EL W hlen (hx.below hW (Nat.le_refl _)) hl hL hll (hD.below hW (Nat.le_refl _)) (fun h1 h2 W' hW' => hE h1 h2 W' (hW.trans (hW'.mono hW.size)))
  obtain ⟨out, HO⟩ : ∃ out, Hid (Dl.look ⟨pf, plo, phi, pr, pl⟩ key (L.map (·.d)) EL = out) := ⟨_, rfl⟩
  rw [HO.out] at hz
  simp only [HO.out] at hq
  rw [HO.out]
  clear HO hE hD hx hlen hL
  have HQ : Hid _ := hq
  clear hq
  obtain ⟨w0, hw0⟩ : ∃ w0, (((w.alloc (.cells #[.bool pf, .string plo, .string phi, .int .i64 pr, .slice pp pn pc] 24)).alloc (.cells #[.string key] 9)).alloc (.cells #[.slice p len cap] 25)).alloc (.cells #[.string ⟨#[]⟩, .int .i64 0, .int .i64 0, .int .i64 0, .bool false, .int .i64 0] 44) = w0 := ⟨_, rfl⟩
  have HB0 : Hid (Below w.heap.size w w0) := by rw [← hw0]; exact ((((Below.refl _ _).alloc (Nat.le_refl _) _).alloc (by simp) _).alloc (by simp; omega) _).alloc (by simp; omega) _
  have hk0 : Bk w0 w.heap.size 24 #[.bool pf, .string plo, .string phi, .int .i64 pr, .slice pp pn pc] := by rw [← hw0]; exact (((Bk.new _ _ _).alloc _).alloc _).alloc _
  have hk1 : Bk w0 (w.heap.size + 1) 9 #[.string key] := by rw [← hw0]; exact ((Bk.new1 _ _ _ _).alloc _).alloc _
  have hk2 : Bk w0 (w.heap.size + 1 + 1) 25 #[.slice p len cap] := by rw [← hw0]; exact (Bk.new2 _ _ _ _ _).alloc _
  have HR0 : Hid (Bk w0 (w.heap.size + 1 + 1 + 1) 44 #[.string ⟨#[]⟩, .int .i64 0, .int .i64 0, .int .i64 0, .bool false, .int .i64 0]) := by
    rw [← hw0]
    unfold Hid
    have := Bk.new (((w.alloc (.cells #[.bool pf, .string plo, .string phi, .int .i64 pr, .slice pp pn pc] 24)).alloc (.cells #[.string key] 9)).alloc (.cells #[.slice p len cap] 25)) 44 #[.string ⟨#[]⟩, .int .i64 0, .int .i64 0, .int .i64 0, .bool false, .int .i64 0]
    simpa using this
  have hl1 : ∀ (W : World), Below w0.heap.size w0 W → Calls Tryz.prog 36 #[.pointer (some ⟨w.heap.size, 0, none⟩), .pointer (some ⟨w.heap.size + 1, 0, none⟩), .pointer (some ⟨w.heap.size + 1 + 1, 0, none⟩)] W fun e w' => DoneS W out e w' := by
    intro W hW
    have HA : Hid (Bk W w.heap.size 24 #[.bool pf, .string plo, .string phi, .int .i64 pr, .slice pp pn pc]) := hk0.below hW hk0.lt
    have HY : Hid (Bk W (w.heap.size + 1) 9 #[.string key]) := hk1.below hW hk1.lt
    have HZ : Hid (Bk W (w.heap.size + 1 + 1) 25 #[.slice p len cap]) := hk2.below hW hk2.lt
    have HWW : Hid (Below w.heap.size w W) := HB0.out.trans (hW.mono HB0.out.size)
    clear hk0 hk1 hk2 hW hw0 hz
    obtain ⟨w1, hw1⟩ : ∃ w1, W.alloc (.cells #[.string ⟨#[]⟩, .int .i64 0, .int .i64 0, .int .i64 0, .bool false, .int .i64 0] 44) = w1 := ⟨_, rfl⟩
    have HB1 : Hid (Below W.heap.size W w1) := by rw [← hw1]; exact (Below.refl _ _).alloc (Nat.le_refl _) _
    have HR1 : Hid (Bk w1 W.heap.size 44 #[.string ⟨#[]⟩, .int .i64 0, .int .i64 0, .int .i64 0, .bool false, .int .i64 0]) := by rw [← hw1]; exact Bk.new _ _ _
    have hka : Bk w1 w.heap.size 24 #[.bool pf, .string plo, .string phi, .int .i64 pr, .slice pp pn pc] := HA.out.below HB1.out HA.out.lt
    have hkb : Bk w1 (w.heap.size + 1) 9 #[.string key] := HY.out.below HB1.out HY.out.lt
    have hkc : Bk w1 (w.heap.size + 1 + 1) 25 #[.slice p len cap] := HZ.out.below HB1.out HZ.out.lt
    have a0 : w1.cell? ⟨w.heap.size, 0, none⟩ = some (.bool pf) := hka.cell 0
    have a1 : w1.cell? ⟨w.heap.size, 1, none⟩ = some (.string plo) := hka.cell 1
    have a2 : w1.cell? ⟨w.heap.size, 2, none⟩ = some (.string phi) := hka.cell 2
    have a3 : w1.cell? ⟨w.heap.size, 3, none⟩ = some (.int .i64 pr) := hka.cell 3
    have a4 : w1.cell? ⟨w.heap.size, 4, none⟩ = some (.slice pp pn pc) := hka.cell 4
    have y0 : w1.cell? ⟨w.heap.size + 1, 0, none⟩ = some (.string key) := hkb.cell 0
    have y1 : w1.cell? ⟨w.heap.size + 1 + 1, 0, none⟩ = some (.slice p len cap) := hkc.cell 0
    clear hka hkb hkc
    go_enter Tryz.func36, Tryz.ntmps36
    go_wp2_with fail
    clear hw1 y0 y1
    clear a0 a1 a2 a3 a4
    refine (HQ.out _ (HWW.out.trans (HB1.out.mono HWW.out.size))).mono ?_
    rintro e w2 ⟨hd, hb2⟩
    have HB2 : Hid (Below W.heap.size W w2) := HB1.out.trans (hb2.mono HB1.out.size)
    have HR2 : Hid (Bk w2 W.heap.size 44 #[.string ⟨#[]⟩, .int .i64 0, .int .i64 0, .int .i64 0, .bool false, .int .i64 0]) := HR1.out.below hb2 HR1.out.lt
    clear hb2
    rcases hd with ⟨h0, rfl⟩ | ⟨h0, rfl⟩
    · obtain ⟨⟨⟨xk, xs, xg, xc⟩, xf, xgo⟩, kk⟩ := out
      simp only at h0
      subst h0
      have b0 : w2.cell? ⟨W.heap.size, 0, none⟩ = some (.string ⟨#[]⟩) := HR2.out.cell 0
      have bf0 : w2.frozen? ⟨W.heap.size, 0, none⟩ = false := HR2.out.frozen 0
      have b1 : w2.cell? ⟨W.heap.size, 1, none⟩ = some (.int .i64 0) := HR2.out.cell 1
      have bf1 : w2.frozen? ⟨W.heap.size, 1, none⟩ = false := HR2.out.frozen 1
      have b2 : w2.cell? ⟨W.heap.size, 2, none⟩ = some (.int .i64 0) := HR2.out.cell 2
      have bf2 : w2.frozen? ⟨W.heap.size, 2, none⟩ = false := HR2.out.frozen 2
      have b3 : w2.cell? ⟨W.heap.size, 3, none⟩ = some (.int .i64 0) := HR2.out.cell 3
      have bf3 : w2.frozen? ⟨W.heap.size, 3, none⟩ = false := HR2.out.frozen 3
      have b4 : w2.cell? ⟨W.heap.size, 4, none⟩ = some (.bool false) := HR2.out.cell 4
      have bf4 : w2.frozen? ⟨W.heap.size, 4, none⟩ = false := HR2.out.frozen 4
      have b5 : w2.cell? ⟨W.heap.size, 5, none⟩ = some (.int .i64 0) := HR2.out.cell 5
      have bf5 : w2.frozen? ⟨W.heap.size, 5, none⟩ = false := HR2.out.frozen 5
      go_wp2
      clear b0 bf0 b1 bf1 b2 bf2 b3 bf3 b4 bf4 b5 bf5
      have k1 := HR2.out.six (.string xk) (.int .i64 xs) (.int .i64 xg) (.int .i64 xc) (.bool xf) (.int .i64 xgo)
      have ht : Tn [W.heap.size] w2 _ := (Tn.refl _ w2).six (R := W.heap.size) (.inl (by simp)) (.string xk) (.int .i64 xs) (.int .i64 xg) (.int .i64 xc) (.bool xf) (.int .i64 xgo)
      refine bodyPost_ret (results_one (T' := 44) (cs := [.string xk, .int .i64 xs, .int .i64 xg, .int .i64 xc, .bool xf, .int .i64 xgo]) rfl rfl sp_agg sp_size rfl k1) rfl ?_
      exact ⟨.inl ⟨rfl, rfl⟩, HB2.out.trans (ht.below HB2.out.size (by simp))⟩
    · refine ⟨rfl, ?_⟩
      exact ⟨.inr ⟨h0, rfl⟩, HB2.out⟩
  have hcc := caughtS_any 36 #[.pointer (some ⟨w.heap.size, 0, none⟩), .pointer (some ⟨w.heap.size + 1, 0, none⟩), .pointer (some ⟨w.heap.size + 1 + 1, 0, none⟩)] eg out hz w0 (hl1 _ (((Below.refl _ _).alloc (Nat.le_refl _) _).alloc (by simp) _))
  have HC : Hid _ := hcc
  obtain ⟨⟨⟨xk, xs, xg, xc⟩, xf, xgo⟩, kk⟩ := out
  clear hcc hl1 hk0 hk1 hk2 hz
  go_enter Tryz.func18, Tryz.ntmps18
  go_wp2_with fail
  clear hw0
  refine Calls.mono HC.out ?_
  rintro e w1 ⟨rfl, hb1⟩
  have HB1 : Hid (Below w.heap.size w w1) := HB0.out.trans (hb1.mono HB0.out.size)
  have HR1 : Hid (Bk w1 (w.heap.size + 1 + 1 + 1) 44 #[.string ⟨#[]⟩, .int .i64 0, .int .i64 0, .int .i64 0, .bool false, .int .i64 0]) := HR0.out.below hb1 HR0.out.lt
  clear hb1
  have b0 : w1.cell? ⟨w.heap.size + 1 + 1 + 1, 0, none⟩ = some (.string ⟨#[]⟩) := HR1.out.cell 0
  have bf0 : w1.frozen? ⟨w.heap.size + 1 + 1 + 1, 0, none⟩ = false := HR1.out.frozen 0
  have b1 : w1.cell? ⟨w.heap.size + 1 + 1 + 1, 1, none⟩ = some (.int .i64 0) := HR1.out.cell 1
  have bf1 : w1.frozen? ⟨w.heap.size + 1 + 1 + 1, 1, none⟩ = false := HR1.out.frozen 1
  have b2 : w1.cell? ⟨w.heap.size + 1 + 1 + 1, 2, none⟩ = some (.int .i64 0) := HR1.out.cell 2
  have bf2 : w1.frozen? ⟨w.heap.size + 1 + 1 + 1, 2, none⟩ = false := HR1.out.frozen 2
  have b3 : w1.cell? ⟨w.heap.size + 1 + 1 + 1, 3, none⟩ = some (.int .i64 0) := HR1.out.cell 3
  have bf3 : w1.frozen? ⟨w.heap.size + 1 + 1 + 1, 3, none⟩ = false := HR1.out.frozen 3
  have b4 : w1.cell? ⟨w.heap.size + 1 + 1 + 1, 4, none⟩ = some (.bool false) := HR1.out.cell 4
  have bf4 : w1.frozen? ⟨w.heap.size + 1 + 1 + 1, 4, none⟩ = false := HR1.out.frozen 4
  have b5 : w1.cell? ⟨w.heap.size + 1 + 1 + 1, 5, none⟩ = some (.int .i64 0) := HR1.out.cell 5
  have bf5 : w1.frozen? ⟨w.heap.size + 1 + 1 + 1, 5, none⟩ = false := HR1.out.frozen 5
  go_wp2
  clear b0 bf0 b1 bf1 b2 bf2 b3 bf3 b4 bf4 b5 bf5
  have k1 := HR1.out.six (.string xk) (.int .i64 xs) (.int .i64 xg) (.int .i64 xc) (.bool xf) (.int .i64 xgo)
  have ht : Tn [w.heap.size + 1 + 1 + 1] w1 _ := (Tn.refl _ w1).six (R := w.heap.size + 1 + 1 + 1) (.inl (by simp)) (.string xk) (.int .i64 xs) (.int .i64 xg) (.int .i64 xc) (.bool xf) (.int .i64 xgo)
  refine bodyPost_ret (results_two (T' := 44) (cs := [.string xk, .int .i64 xs, .int .i64 xg, .int .i64 xc, .bool xf, .int .i64 xgo]) rfl rfl sp_agg sp_size rfl k1) rfl ?_
  exact ⟨rfl, HB1.out.trans (ht.below HB1.out.size (by simp; omega))⟩

end Go.Proofs.YtlcbideongbmeaaGreat

namespace Go.Proofs.YtlcbideongbmeaaGreat
open Go.RowKit Go.Sort
set_option linter.unusedVariables false
set_option maxRecDepth 100000

theorem Dl.list_mk (a : Array UInt8) : (ByteArray.mk a).toList = a.toList := ByteArray.toList_eq _

abbrev lvB : Pp := ⟨true, ⟨#[]⟩, ⟨#[]⟩, 0, [⟨⟨#[97]⟩, 0, 0, 0⟩]⟩
abbrev lvS : De := ⟨3, En.zero, ⟨#[98]⟩, 4, Pg.zero⟩
abbrev lvP : De := ⟨1, ⟨⟨#[99]⟩, 0, 0, 0⟩, ⟨#[]⟩, 0, Pg.zero⟩

theorem lv_inn (k : ByteArray) : Ky.inn ⟨⟨#[]⟩, ⟨#[]⟩⟩ k = true := by
  have e : Ky.nil ⟨#[]⟩ = true := by unfold Ky.nil; rw [Dl.list_mk]; rfl
  have l0 : ∀ a, Ky.lt a ⟨#[]⟩ = false := fun a => Ky.lt_empty a
  unfold Ky.inn Ky.below; simp only [e, l0]; rfl

theorem lv_mayS : Dl.may lvS = true := by
  have h1 : Dl.fits lvS = true := by
    unfold Dl.fits
    rw [if_neg (by decide), if_neg (by decide), if_pos rfl, Dl.list_mk]
    rfl
  have h2 : Dl.named lvS = lvS := rfl
  unfold Dl.may
  rw [h1, h2, Dl.same_self]
  rfl

theorem lv_mayP : Dl.may lvP = true := by
  have h1 : Dl.fits lvP = true := rfl
  have h2 : Dl.named lvP = lvP := rfl
  unfold Dl.may
  rw [h1, h2, Dl.same_self]
  rfl

theorem lv_outl : Dl.outl lvB [lvP, lvS] = (⟨true, ⟨#[]⟩, ⟨#[98]⟩, 4, []⟩, 0) := by
  have h1 : Dl.apply (Dl.hd lvB) lvP = (⟨true, ⟨#[]⟩, ⟨#[]⟩, 0, Pg.putL [] ⟨⟨#[99]⟩, 0, 0, 0⟩⟩, 0) := by
    unfold Dl.apply
    rw [if_pos lv_mayP, if_pos rfl]
    unfold Pg.put
    refine (if_pos (lv_inn _)).trans ?_
    rfl
  have hlt : Ky.lt ⟨#[]⟩ ⟨#[98]⟩ = true := by unfold Ky.lt; rw [Dl.list_mk, Dl.list_mk]; rfl
  have h2 : Dl.apply ⟨true, ⟨#[]⟩, ⟨#[]⟩, 0, []⟩ lvS = (⟨true, ⟨#[]⟩, ⟨#[98]⟩, 4, []⟩, 0) := by
    unfold Dl.apply
    rw [if_pos lv_mayS, if_neg (by decide), if_neg (by decide), if_pos rfl, if_pos (by rw [hlt, lv_inn]; rfl)]
    rfl
  show Dl.stp (Dl.stp (Dl.hd lvB, 0) lvP) lvS = _
  have h3 : Dl.stp (Dl.hd lvB, 0) lvP = (⟨true, ⟨#[]⟩, ⟨#[]⟩, 0, []⟩, 0) := by
    unfold Dl.stp
    rw [if_pos rfl, h1]
    rfl
  rw [h3]
  unfold Dl.stp
  rw [if_pos rfl, h2]
  rfl

theorem lv_pgmay : Pg.may true ⟨⟨#[]⟩, ⟨#[]⟩⟩ 0 [⟨⟨#[97]⟩, 0, 0, 0⟩] = true := by
  have e : Ky.nil ⟨#[]⟩ = true := by unfold Ky.nil; rw [Dl.list_mk]; rfl
  unfold Pg.may
  have a : Ky.emp ⟨⟨#[]⟩, ⟨#[]⟩⟩ = false := by unfold Ky.emp Ky.below; simp only [e]; rfl
  rw [a]
  have f : Pg.fits true ⟨⟨#[]⟩, ⟨#[]⟩⟩ [⟨⟨#[97]⟩, 0, 0, 0⟩] = true := by
    refine Pg.fits_all fun j hj => ?_
    match j, hj with
    | 0, _ => rw [Pg.good_first (e := ⟨⟨#[97]⟩, 0, 0, 0⟩) rfl, lv_inn]; rfl
    | n + 1, h => exact absurd h (by simp)
  rw [f]
  rfl

theorem lv_lookc (EL : List En) : Dl.look lvB ⟨#[99]⟩ [lvS, lvP] EL = (⟨En.zero, false, 4⟩, 0) := by
  show Dl.says lvB ⟨#[99]⟩ [lvS, lvP] EL (Dl.outl lvB [lvP, lvS]) = _
  rw [lv_outl]
  unfold Dl.says
  have i : Ky.inn ⟨⟨#[]⟩, ⟨#[98]⟩⟩ ⟨#[99]⟩ = false := by unfold Ky.inn Ky.below Ky.nil Ky.lt; simp only [Dl.list_mk]; rfl
  rw [if_neg (by decide), if_pos i, if_neg (by show ¬ (Ky.lt ⟨#[99]⟩ ⟨#[]⟩ || (4 : Int) == 0) = true; rw [show Ky.lt ⟨#[99]⟩ ⟨#[]⟩ = false from Ky.lt_empty _]; decide)]

theorem lv_looka (EL : List En) : Dl.look lvB ⟨#[97]⟩ [lvS, lvP] EL = (⟨⟨⟨#[97]⟩, 0, 0, 0⟩, true, 0⟩, 0) := by
  show Dl.says lvB ⟨#[97]⟩ [lvS, lvP] EL (Dl.outl lvB [lvP, lvS]) = _
  rw [lv_outl]
  unfold Dl.says
  have i : Ky.inn ⟨⟨#[]⟩, ⟨#[98]⟩⟩ ⟨#[97]⟩ = true := by unfold Ky.inn Ky.below Ky.nil Ky.lt; simp only [Dl.list_mk]; rfl
  rw [if_neg (by decide), if_neg (by rw [i]; decide), if_neg (by decide)]
  have h1 : Dl.among lvB ⟨#[97]⟩ [lvS, lvP] EL = [⟨⟨#[97]⟩, 0, 0, 0⟩] := by
    unfold Dl.among
    rw [if_pos lv_pgmay]
    have h2 : ((⟨#[99]⟩ : ByteArray).toList == (⟨#[97]⟩ : ByteArray).toList) = false := by rw [Dl.list_mk, Dl.list_mk]; rfl
    show (if ((1 : Int) == 1) && ((⟨#[99]⟩ : ByteArray).toList == (⟨#[97]⟩ : ByteArray).toList) then _ else _) = _
    rw [h2]
    rfl
  rw [h1]
  have h3 : Pg.find true [⟨⟨#[97]⟩, 0, 0, 0⟩] ⟨#[97]⟩ = some ⟨⟨#[97]⟩, 0, 0, 0⟩ := by
    simp [Pg.find, Pg.is, Dl.list_mk]
  rw [h3]
  rfl

abbrev lvE : Array Value := #[.string ⟨#[97]⟩, .int .i64 0, .int .i64 0, .int .i64 0]
abbrev lvD : Array Value := #[.int .i64 3, .string ⟨#[]⟩, .int .i64 0, .int .i64 0, .int .i64 0, .string ⟨#[98]⟩, .int .i64 4, .bool false, .string ⟨#[]⟩, .string ⟨#[]⟩, .int .i64 0, .slice none 0 0, .int .i64 1, .string ⟨#[99]⟩, .int .i64 0, .int .i64 0, .int .i64 0, .string ⟨#[]⟩, .int .i64 0, .bool false, .string ⟨#[]⟩, .string ⟨#[]⟩, .int .i64 0, .slice none 0 0]
abbrev lvL : List Dm := [⟨lvS, none, 0, 0⟩, ⟨lvP, none, 0, 0⟩]

theorem lv_ens {w : World} {b : Nat} {T : TypeId} (hk : Bk w b T lvE) : Ens w (some ⟨b, 0, none⟩) [⟨⟨#[97]⟩, 0, 0, 0⟩] := by
  intro _
  refine ⟨b, 0, rfl, fun i g hi => ?_⟩
  match i, hi with
  | 0, hi => simp at hi; subst hi; exact ⟨hk.cell 0, hk.cell 1, hk.cell 2, hk.cell 3⟩
  | n + 1, hi => simp at hi

theorem lv_ok (w : World) (d : De) (h : d.rt.l = []) : Dm.Ok w ⟨d, none, 0, 0⟩ := ⟨by rw [h]; rfl, by rw [h]; exact Ens.nil _ _, fun _ => ⟨rfl, rfl⟩, Nat.le_refl _, Nat.zero_le _⟩

theorem lv_des {w : World} {b : Nat} {T : TypeId} (hk : Bk w b T lvD) : Des w (some ⟨b, 0, none⟩) lvL := by
  intro _
  refine ⟨b, 0, rfl, fun i m hi => ?_⟩
  match i, hi with
  | 0, hi =>
    simp at hi; subst hi
    refine ⟨fun t v ht => ?_, lv_ok _ _ rfl⟩
    have hc := hk.cell t
    rw [show 0 + 0 * 12 + t = t by omega]
    match t, ht with
    | 0, ht => simp [Dm.cells] at ht; subst ht; exact hc
    | 1, ht => simp [Dm.cells] at ht; subst ht; exact hc
    | 2, ht => simp [Dm.cells] at ht; subst ht; exact hc
    | 3, ht => simp [Dm.cells] at ht; subst ht; exact hc
    | 4, ht => simp [Dm.cells] at ht; subst ht; exact hc
    | 5, ht => simp [Dm.cells] at ht; subst ht; exact hc
    | 6, ht => simp [Dm.cells] at ht; subst ht; exact hc
    | 7, ht => simp [Dm.cells] at ht; subst ht; exact hc
    | 8, ht => simp [Dm.cells] at ht; subst ht; exact hc
    | 9, ht => simp [Dm.cells] at ht; subst ht; exact hc
    | 10, ht => simp [Dm.cells] at ht; subst ht; exact hc
    | 11, ht => simp [Dm.cells] at ht; subst ht; exact hc
    | n + 12, ht => simp [Dm.cells] at ht
  | 1, hi =>
    simp at hi; subst hi
    refine ⟨fun t v ht => ?_, lv_ok _ _ rfl⟩
    have hc := hk.cell (12 + t)
    rw [show 0 + 1 * 12 + t = 12 + t by omega]
    match t, ht with
    | 0, ht => simp [Dm.cells] at ht; subst ht; exact hc
    | 1, ht => simp [Dm.cells] at ht; subst ht; exact hc
    | 2, ht => simp [Dm.cells] at ht; subst ht; exact hc
    | 3, ht => simp [Dm.cells] at ht; subst ht; exact hc
    | 4, ht => simp [Dm.cells] at ht; subst ht; exact hc
    | 5, ht => simp [Dm.cells] at ht; subst ht; exact hc
    | 6, ht => simp [Dm.cells] at ht; subst ht; exact hc
    | 7, ht => simp [Dm.cells] at ht; subst ht; exact hc
    | 8, ht => simp [Dm.cells] at ht; subst ht; exact hc
    | 9, ht => simp [Dm.cells] at ht; subst ht; exact hc
    | 10, ht => simp [Dm.cells] at ht; subst ht; exact hc
    | 11, ht => simp [Dm.cells] at ht; subst ht; exact hc
    | n + 12, ht => simp [Dm.cells] at ht
  | n + 2, hi => simp at hi

set_option maxHeartbeats 2000000 in
theorem live_any (w : World) : Calls Tryz.prog 15 #[] w fun r w' => r = .returned (.bool true) ∧ Below w.heap.size w w' := by
  obtain ⟨w0, hw0⟩ : ∃ w0, ((w.alloc (.cells lvE 30)).alloc (.cells (pgc true ⟨#[]⟩ ⟨#[]⟩ 0 (some ⟨w.heap.size, 0, none⟩) 1 1) 24)).alloc (.cells lvD 32) = w0 := ⟨_, rfl⟩
  have HB0 : Hid (Below w.heap.size w w0) := by rw [← hw0]; exact (((Below.refl _ _).alloc (Nat.le_refl _) _).alloc (by simp) _).alloc (by simp; omega) _
  have HE0 : Hid (Bk w0 w.heap.size 30 lvE) := by rw [← hw0]; exact ((Bk.new _ _ _).alloc _).alloc _
  have HK0 : Hid (Bk w0 (w.heap.size + 1) 24 (pgc true ⟨#[]⟩ ⟨#[]⟩ 0 (some ⟨w.heap.size, 0, none⟩) 1 1)) := by rw [← hw0]; exact (Bk.new1 _ _ _ _).alloc _
  have HD0 : Hid (Bk w0 (w.heap.size + 1 + 1) 32 lvD) := by rw [← hw0]; exact Bk.new2 _ _ _ _ _
  have a0 : w0.cell? ⟨w.heap.size + 1, 0, none⟩ = some (.bool true) := HK0.out.cell 0
  have a1 : w0.cell? ⟨w.heap.size + 1, 1, none⟩ = some (.string ⟨#[]⟩) := HK0.out.cell 1
  have a2 : w0.cell? ⟨w.heap.size + 1, 2, none⟩ = some (.string ⟨#[]⟩) := HK0.out.cell 2
  have a3 : w0.cell? ⟨w.heap.size + 1, 3, none⟩ = some (.int .i64 0) := HK0.out.cell 3
  have a4 : w0.cell? ⟨w.heap.size + 1, 4, none⟩ = some (.slice (some ⟨w.heap.size, 0, none⟩) 1 1) := HK0.out.cell 4
  go_enter Tryz.func15, Tryz.ntmps15
  go_wp2_with fail
  refine (look_any true ⟨#[]⟩ ⟨#[]⟩ 0 (some ⟨w.heap.size, 0, none⟩) 1 1 [⟨⟨#[97]⟩, 0, 0, 0⟩] ⟨#[99]⟩ (some ⟨w.heap.size + 1 + 1, 0, none⟩) 2 2 lvL [] _ rfl (lv_ens HE0.out) (by decide) rfl (by decide) (lv_des HD0.out) (fun _ h => ?_)).mono ?_
  · exfalso
    rcases h with h | h
    · rw [show (List.map (·.d) lvL).reverse = [lvP, lvS] from rfl, lv_outl] at h
      cases h
    · rw [lv_pgmay] at h; cases h
  rw [show List.map (·.d) lvL = [lvS, lvP] from rfl, lv_lookc]
  rintro e w1 ⟨he, hb1⟩
  simp only [spv] at he
  subst he
  have HB1 : Hid (Below w.heap.size w w1) := HB0.out.trans (hb1.mono HB0.out.size)
  have HE1 : Hid (Bk w1 w.heap.size 30 lvE) := HE0.out.below hb1 HE0.out.lt
  have HK1 : Hid (Bk w1 (w.heap.size + 1) 24 (pgc true ⟨#[]⟩ ⟨#[]⟩ 0 (some ⟨w.heap.size, 0, none⟩) 1 1)) := HK0.out.below hb1 HK0.out.lt
  have HD1 : Hid (Bk w1 (w.heap.size + 1 + 1) 32 lvD) := HD0.out.below hb1 HD0.out.lt
  clear hb1 a0 a1 a2 a3 a4 HE0 HK0 HB0 HD0 hw0
  obtain ⟨w2, hw2⟩ : ∃ w2, w1.alloc (.cells #[.string ⟨#[]⟩, .int .i64 0, .int .i64 0, .int .i64 0, .bool false, .int .i64 4] 44) = w2 := ⟨_, rfl⟩
  have hb2 : Below w1.heap.size w1 w2 := by rw [← hw2]; exact (Below.refl _ _).alloc (Nat.le_refl _) _
  have HX2 : Hid (Bk w2 w1.heap.size 44 #[.string ⟨#[]⟩, .int .i64 0, .int .i64 0, .int .i64 0, .bool false, .int .i64 4]) := by rw [← hw2]; exact Bk.new _ _ _
  have HB2 : Hid (Below w.heap.size w w2) := HB1.out.trans (hb2.mono HB1.out.size)
  have HE2 : Hid (Bk w2 w.heap.size 30 lvE) := HE1.out.below hb2 HE1.out.lt
  have HK2 : Hid (Bk w2 (w.heap.size + 1) 24 (pgc true ⟨#[]⟩ ⟨#[]⟩ 0 (some ⟨w.heap.size, 0, none⟩) 1 1)) := HK1.out.below hb2 HK1.out.lt
  have HD2 : Hid (Bk w2 (w.heap.size + 1 + 1) 32 lvD) := HD1.out.below hb2 HD1.out.lt
  clear hb2 HB1 HK1 HE1 HD1
  have a0 : w2.cell? ⟨w.heap.size + 1, 0, none⟩ = some (.bool true) := HK2.out.cell 0
  have a1 : w2.cell? ⟨w.heap.size + 1, 1, none⟩ = some (.string ⟨#[]⟩) := HK2.out.cell 1
  have a2 : w2.cell? ⟨w.heap.size + 1, 2, none⟩ = some (.string ⟨#[]⟩) := HK2.out.cell 2
  have a3 : w2.cell? ⟨w.heap.size + 1, 3, none⟩ = some (.int .i64 0) := HK2.out.cell 3
  have a4 : w2.cell? ⟨w.heap.size + 1, 4, none⟩ = some (.slice (some ⟨w.heap.size, 0, none⟩) 1 1) := HK2.out.cell 4
  go_wp2_with fail
  refine (look_any true ⟨#[]⟩ ⟨#[]⟩ 0 (some ⟨w.heap.size, 0, none⟩) 1 1 [⟨⟨#[97]⟩, 0, 0, 0⟩] ⟨#[97]⟩ (some ⟨w.heap.size + 1 + 1, 0, none⟩) 2 2 lvL [] _ rfl (lv_ens HE2.out) (by decide) rfl (by decide) (lv_des HD2.out) (fun _ h => ?_)).mono ?_
  · exfalso
    rcases h with h | h
    · rw [show (List.map (·.d) lvL).reverse = [lvP, lvS] from rfl, lv_outl] at h
      cases h
    · rw [lv_pgmay] at h; cases h
  rw [show List.map (·.d) lvL = [lvS, lvP] from rfl, lv_looka]
  rintro e w3 ⟨he, hb3⟩
  simp only [spv] at he
  subst he
  have HB3 : Hid (Below w.heap.size w w3) := HB2.out.trans (hb3.mono HB2.out.size)
  have HX3 : Hid (Bk w3 w1.heap.size 44 #[.string ⟨#[]⟩, .int .i64 0, .int .i64 0, .int .i64 0, .bool false, .int .i64 4]) := HX2.out.below hb3 HX2.out.lt
  clear hb3 a0 a1 a2 a3 a4 HE2 HK2 HB2 HD2 HX2
  have hb4 : Below w3.heap.size w3 (w3.alloc (.cells #[.string ⟨#[97]⟩, .int .i64 0, .int .i64 0, .int .i64 0, .bool true, .int .i64 0] 44)) := (Below.refl _ _).alloc (Nat.le_refl _) _
  have HY4 : Hid (Bk (w3.alloc (.cells #[.string ⟨#[97]⟩, .int .i64 0, .int .i64 0, .int .i64 0, .bool true, .int .i64 0] 44)) w3.heap.size 44 #[.string ⟨#[97]⟩, .int .i64 0, .int .i64 0, .int .i64 0, .bool true, .int .i64 0]) := Bk.new _ _ _
  have HX4 : Hid (Bk (w3.alloc (.cells #[.string ⟨#[97]⟩, .int .i64 0, .int .i64 0, .int .i64 0, .bool true, .int .i64 0] 44)) w1.heap.size 44 #[.string ⟨#[]⟩, .int .i64 0, .int .i64 0, .int .i64 0, .bool false, .int .i64 4]) := HX3.out.below hb4 HX3.out.lt
  have HB4 : Hid (Below w.heap.size w (w3.alloc (.cells #[.string ⟨#[97]⟩, .int .i64 0, .int .i64 0, .int .i64 0, .bool true, .int .i64 0] 44))) := HB3.out.trans (hb4.mono HB3.out.size)
  clear hb4 HB3 HX3
  have x1 : (w3.alloc (.cells #[.string ⟨#[97]⟩, .int .i64 0, .int .i64 0, .int .i64 0, .bool true, .int .i64 0] 44)).cell? ⟨w1.heap.size, 4, none⟩ = some (.bool false) := HX4.out.cell 4
  have x2 : (w3.alloc (.cells #[.string ⟨#[97]⟩, .int .i64 0, .int .i64 0, .int .i64 0, .bool true, .int .i64 0] 44)).cell? ⟨w1.heap.size, 5, none⟩ = some (.int .i64 4) := HX4.out.cell 5
  have y0 : (w3.alloc (.cells #[.string ⟨#[97]⟩, .int .i64 0, .int .i64 0, .int .i64 0, .bool true, .int .i64 0] 44)).cell? ⟨w3.heap.size, 0, none⟩ = some (.string ⟨#[97]⟩) := HY4.out.cell 0
  have y1 : (w3.alloc (.cells #[.string ⟨#[97]⟩, .int .i64 0, .int .i64 0, .int .i64 0, .bool true, .int .i64 0] 44)).cell? ⟨w3.heap.size, 4, none⟩ = some (.bool true) := HY4.out.cell 4
  go_wp2
  go_ret
  exact ⟨rfl, HB4.out⟩

end Go.Proofs.YtlcbideongbmeaaGreat

namespace Go.Proofs.YtlcbideongbmeaaGreat
open Go.ChangeShapes Go.WideShapes Go.ChangeAt Go.RowKit
open Go.ChangeMaps (open_string shut_string)
set_option linter.unusedVariables false
set_option maxRecDepth 100000

theorem own : ownKnob Tryz.prog.godebug = none := by kernel_rfl
theorem laidOut : laidOutB Tryz.prog = true := by kernel_rfl

theorem list2 {α : Type} {l : List α} (h : l.length = 2) : ∃ a b, l = [a, b] := by
  match l, h with
  | [a, b], _ => exact ⟨a, b, rfl⟩
theorem list3 {α : Type} {l : List α} (h : l.length = 3) : ∃ a b c, l = [a, b, c] := by
  match l, h with
  | [a, b, c], _ => exact ⟨a, b, c, rfl⟩
theorem list4 {α : Type} {l : List α} (h : l.length = 4) : ∃ a b c d, l = [a, b, c, d] := by
  match l, h with
  | [a, b, c, d], _ => exact ⟨a, b, c, d, rfl⟩
theorem list5 {α : Type} {l : List α} (h : l.length = 5) : ∃ a b c d e, l = [a, b, c, d, e] := by
  match l, h with
  | [a, b, c, d, e], _ => exact ⟨a, b, c, d, e, rfl⟩

theorem rcells_at {W : World} {a : Addr} {n : Nat} {cs : List Value} (h : W.cells? 0 a n = some cs) : ∀ j v, cs[j]? = some v → W.cell? (a.add j) = some v := by
  obtain ⟨_, hl, hc⟩ := World.cells?_some h
  intro j v hv
  have hj : j < n := by
    have := (List.getElem?_eq_some_iff.1 hv).1
    omega
  exact (hc j hj).trans hv

/-- A slice of entries that came in. -/
structure InE (M : Nat) (w : World) (p : Option Addr) (len cap : Nat) (l : List En) : Prop where
  lenq : l.length = len
  ens : Ens w p l
  room : len ≤ M
  nil : p = none → len = 0 ∧ cap = 0
  keys : ∀ e ∈ l, e.key.size ≤ 140737488351232
  le : len ≤ cap

section
variable {H : Type} {enc : TypeId × Value → H} {W : World} {fuel : Nat} {cs : List Value} {x : DataW H × List MemPlace}

theorem in_hnd (hf : DataW.trod enc Tryz.prog W 0 (fun _ => true) true fuel 28 cs = some x) : ∃ s g : Int, cs = [.int .i64 s, .int .i64 g] := by
  obtain ⟨ys, n, -, rfl, hlen, hys, hall⟩ := DataW.trod_struct Tryz.underlying28 hf
  have eT : Tryz.prog.cellsOf 28 = 2 := by kernel_rfl
  rw [eT] at hlen
  obtain ⟨c0, c1, rfl⟩ := list2 hlen
  obtain ⟨y0, y1, rfl⟩ := list2 (l := ys) hys
  have h0 : DataW.trod enc Tryz.prog W 0 (fun _ => true) true n 3 [c0] = some y0 := by
    have h : DataW.trod enc Tryz.prog W 0 (fun _ => true) true n 3 (List.take (Tryz.prog.cellsOf 3) (List.drop 0 [c0, c1])) = some y0 := hall 0 _ rfl
    rw [show Tryz.prog.cellsOf 3 = 1 by kernel_rfl] at h
    exact h
  have h1 : DataW.trod enc Tryz.prog W 0 (fun _ => true) true n 2 [c1] = some y1 := by
    have h : DataW.trod enc Tryz.prog W 0 (fun _ => true) true n 2 (List.take (Tryz.prog.cellsOf 2) (List.drop 1 [c0, c1])) = some y1 := hall 1 _ rfl
    rw [show Tryz.prog.cellsOf 2 = 1 by kernel_rfl] at h
    exact h
  obtain ⟨v0, q0, _, w0⟩ := DataW.trod_int Tryz.underlying3 h0
  obtain ⟨v1, q1, _, w1⟩ := DataW.trod_int Tryz.underlying2 h1
  simp only [List.cons.injEq, and_true] at q0 q1
  subst q0 q1
  exact ⟨v0, v1, rfl⟩

theorem in_en (hf : DataW.trod enc Tryz.prog W 0 (fun _ => true) true fuel 30 cs = some x) : ∃ e : En, cs = e.cells ∧ ∃ r, x.1 = .agg (.lit (.string e.key.data.toList) :: r) := by
  obtain ⟨ys, n, -, rfl, hlen, hys, hall⟩ := DataW.trod_struct Tryz.underlying30 hf
  have eT : Tryz.prog.cellsOf 30 = 4 := by kernel_rfl
  rw [eT] at hlen
  obtain ⟨c0, c1, c2, c3, rfl⟩ := list4 hlen
  obtain ⟨y0, y1, y2, rfl⟩ := list3 (l := ys) hys
  have h0 : DataW.trod enc Tryz.prog W 0 (fun _ => true) true n 9 [c0] = some y0 := by
    have h : DataW.trod enc Tryz.prog W 0 (fun _ => true) true n 9 (List.take (Tryz.prog.cellsOf 9) (List.drop 0 [c0, c1, c2, c3])) = some y0 := hall 0 _ rfl
    rw [show Tryz.prog.cellsOf 9 = 1 by kernel_rfl] at h
    exact h
  have h1 : DataW.trod enc Tryz.prog W 0 (fun _ => true) true n 28 [c1, c2] = some y1 := by
    have h : DataW.trod enc Tryz.prog W 0 (fun _ => true) true n 28 (List.take (Tryz.prog.cellsOf 28) (List.drop 1 [c0, c1, c2, c3])) = some y1 := hall 1 _ rfl
    rw [show Tryz.prog.cellsOf 28 = 2 by kernel_rfl] at h
    exact h
  have h2 : DataW.trod enc Tryz.prog W 0 (fun _ => true) true n 3 [c3] = some y2 := by
    have h : DataW.trod enc Tryz.prog W 0 (fun _ => true) true n 3 (List.take (Tryz.prog.cellsOf 3) (List.drop 3 [c0, c1, c2, c3])) = some y2 := hall 2 _ rfl
    rw [show Tryz.prog.cellsOf 3 = 1 by kernel_rfl] at h
    exact h
  obtain ⟨v0, q0, e0, _⟩ := DataW.trod_string Tryz.underlying9 h0
  obtain ⟨s, g, q1⟩ := in_hnd h1
  obtain ⟨v2, q2, _, _⟩ := DataW.trod_int Tryz.underlying3 h2
  simp only [List.cons.injEq, and_true] at q0 q1 q2
  obtain ⟨rfl, rfl⟩ := q1
  subst q0 q2
  refine ⟨⟨v0, s, g, v2⟩, rfl, [y1.1, y2.1], ?_⟩
  rw [e0]
  rfl

theorem in_ens {M : Nat} {a : Option Addr} {len cap : Nat} (hf : DataW.trod enc Tryz.prog W 0 (fun _ => true) true fuel 22 [.slice a len cap] = some x)
    (hB : ∀ elems spare, x.1 = .slice elems spare → elems.length + spare.length ≤ M ∧ ∀ y ∈ elems, ∀ k r, y = .agg (.lit (.string k) :: r) → k.length ≤ 140737488351232) : ∃ l, InE M W a len cap l := by
  have e2 : Tryz.prog.cellsOf 30 = 4 := by kernel_rfl
  rcases Go.Deep.open_slice Tryz.underlying22 hf with ⟨hcs, _⟩ | ⟨x', l, c, m, n, D, Pl, hcs, _, hl, hm, hmm, hx, hall⟩
  · simp at hcs
    obtain ⟨rfl, rfl, rfl⟩ := hcs
    exact ⟨[], rfl, Ens.nil _ _, Nat.zero_le _, fun _ => ⟨rfl, rfl⟩, by simp, Nat.le_refl _⟩
  · simp at hcs
    obtain ⟨rfl, rfl, rfl⟩ := hcs
    simp only [if_true] at hmm
    subst hmm
    rw [e2] at hall
    have hx1 := congrArg Prod.fst hx
    simp only at hx1
    obtain ⟨hr1, hr2⟩ := hB _ _ hx1
    have hroom : len ≤ M := by
      simp at hr1
      omega
    haveI : Inhabited En := ⟨En.zero⟩
    obtain ⟨G, hG⟩ := Go.Deep.choose_lt (n := len) (α := En) (p := fun i g => W.cells? 0 (x'.add (i * 4)) 4 = some g.cells ∧ g.key.size ≤ 140737488351232) (fun i hi => by
      obtain ⟨cs, h1, h2⟩ := hall i (by omega)
      obtain ⟨g, rfl, r, hr⟩ := in_en h2
      refine ⟨g, h1, ?_⟩
      have := hr2 (D i) (List.mem_map.2 ⟨i, List.mem_range.2 hi, rfl⟩) _ _ hr
      rwa [Array.length_toList] at this)
    refine ⟨(List.range len).map G, by simp, fun hpos => ?_, hroom, (fun h => by cases h), ?_, hl⟩
    · have hpos' : 0 < len := by simpa using hpos
      have h0 := rcells_at (hG 0 hpos').1 0 _ rfl
      obtain ⟨b, off, spot⟩ := x'
      have hspot : spot = none := by
        have := World.cell?_spot h0
        simpa [Addr.add] using this
      subst hspot
      refine ⟨b, off, rfl, fun i g hi => ?_⟩
      have hil : i < len := by
        have := (List.getElem?_eq_some_iff.1 hi).1
        simpa using this
      have hg : g = G i := by simpa [hil] using hi.symm
      subst hg
      have c0 := rcells_at (hG i hil).1 0 _ rfl
      have c1 := rcells_at (hG i hil).1 1 _ rfl
      have c2 := rcells_at (hG i hil).1 2 _ rfl
      have c3 := rcells_at (hG i hil).1 3 _ rfl
      rw [Addr.add_lit, Addr.add_lit] at c0 c1 c2 c3
      exact ⟨c0, c1, c2, c3⟩
    · intro g hg
      obtain ⟨i, hi, rfl⟩ := List.mem_map.1 hg
      exact (hG i (List.mem_range.1 hi)).2

theorem weights_all {e : TypeId} {d : DataW H} {n : Nat} : ∀ {l : List (DataW H)}, d ∈ l → n ∈ d.weights Tryz.prog e → n ∈ DataW.weightsAll Tryz.prog e l
  | y :: r, hd, hn => by
    simp only [DataW.weightsAll, List.mem_append]
    rcases List.mem_cons.1 hd with rfl | hd
    · exact .inl hn
    · exact .inr (weights_all hd hn)

theorem in_page {M : Nat} (hf : DataW.trod enc Tryz.prog W 0 (fun _ => true) true fuel 24 cs = some x)
    (hB : ∀ y0 y1 y2 y3 elems spare, x.1 = .agg [y0, y1, y2, y3, .slice elems spare] → elems.length + spare.length ≤ M ∧ ∀ y ∈ elems, ∀ k r, y = .agg (.lit (.string k) :: r) → k.length ≤ 140737488351232) :
    ∃ leaf lo hi r a len cap l, cs = [.bool leaf, .string lo, .string hi, .int .i64 r, .slice a len cap] ∧ InE M W a len cap l := by
  obtain ⟨ys, n, -, rfl, hlen, hys, hall⟩ := DataW.trod_struct Tryz.underlying24 hf
  have eT : Tryz.prog.cellsOf 24 = 5 := by kernel_rfl
  rw [eT] at hlen
  obtain ⟨c0, c1, c2, c3, c4, rfl⟩ := list5 hlen
  obtain ⟨y0, y1, y2, y3, y4, rfl⟩ := list5 (l := ys) hys
  have h0 : DataW.trod enc Tryz.prog W 0 (fun _ => true) true n 4 [c0] = some y0 := by
    have h : DataW.trod enc Tryz.prog W 0 (fun _ => true) true n 4 (List.take (Tryz.prog.cellsOf 4) (List.drop 0 [c0, c1, c2, c3, c4])) = some y0 := hall 0 _ rfl
    rw [show Tryz.prog.cellsOf 4 = 1 by kernel_rfl] at h
    exact h
  have h1 : DataW.trod enc Tryz.prog W 0 (fun _ => true) true n 9 [c1] = some y1 := by
    have h : DataW.trod enc Tryz.prog W 0 (fun _ => true) true n 9 (List.take (Tryz.prog.cellsOf 9) (List.drop 1 [c0, c1, c2, c3, c4])) = some y1 := hall 1 _ rfl
    rw [show Tryz.prog.cellsOf 9 = 1 by kernel_rfl] at h
    exact h
  have h2 : DataW.trod enc Tryz.prog W 0 (fun _ => true) true n 9 [c2] = some y2 := by
    have h : DataW.trod enc Tryz.prog W 0 (fun _ => true) true n 9 (List.take (Tryz.prog.cellsOf 9) (List.drop 2 [c0, c1, c2, c3, c4])) = some y2 := hall 2 _ rfl
    rw [show Tryz.prog.cellsOf 9 = 1 by kernel_rfl] at h
    exact h
  have h3 : DataW.trod enc Tryz.prog W 0 (fun _ => true) true n 3 [c3] = some y3 := by
    have h : DataW.trod enc Tryz.prog W 0 (fun _ => true) true n 3 (List.take (Tryz.prog.cellsOf 3) (List.drop 3 [c0, c1, c2, c3, c4])) = some y3 := hall 3 _ rfl
    rw [show Tryz.prog.cellsOf 3 = 1 by kernel_rfl] at h
    exact h
  have h4 : DataW.trod enc Tryz.prog W 0 (fun _ => true) true n 22 [c4] = some y4 := by
    have h : DataW.trod enc Tryz.prog W 0 (fun _ => true) true n 22 (List.take (Tryz.prog.cellsOf 22) (List.drop 4 [c0, c1, c2, c3, c4])) = some y4 := hall 4 _ rfl
    rw [show Tryz.prog.cellsOf 22 = 1 by kernel_rfl] at h
    exact h
  obtain ⟨v0, q0, _⟩ := DataW.trod_bool Tryz.underlying4 h0
  obtain ⟨v1, q1, _, _⟩ := DataW.trod_string Tryz.underlying9 h1
  obtain ⟨v2, q2, _, _⟩ := DataW.trod_string Tryz.underlying9 h2
  obtain ⟨v3, q3, _, _⟩ := DataW.trod_int Tryz.underlying3 h3
  obtain ⟨a, len, cap, q4⟩ : ∃ a len cap, c4 = .slice a len cap := by
    rcases Go.Deep.open_slice Tryz.underlying22 h4 with ⟨hcs, _⟩ | ⟨x', l, c, m, n, D, Pl, hcs, _⟩
    · simp at hcs; exact ⟨_, _, _, hcs⟩
    · simp at hcs; exact ⟨_, _, _, hcs⟩
  simp only [List.cons.injEq, and_true] at q0 q1 q2 q3
  subst q0 q1 q2 q3 q4
  obtain ⟨l, hl⟩ := in_ens (M := M) h4 (fun elems spare he => hB y0.1 y1.1 y2.1 y3.1 elems spare (by simp [he]))
  exact ⟨v0, v1, v2, v3, a, len, cap, l, rfl, hl⟩

theorem page_said {M : Nat} (hM : 3518437208780 ≤ M) (hW : ∀ n ∈ x.1.weights Tryz.prog 24, n ≤ 140737488351232) :
    ∀ y0 y1 y2 y3 elems spare, x.1 = .agg [y0, y1, y2, y3, .slice elems spare] → elems.length + spare.length ≤ M ∧ ∀ y ∈ elems, ∀ k r, y = .agg (.lit (.string k) :: r) → k.length ≤ 140737488351232 := by
  intro y0 y1 y2 y3 elems spare e
  have e40 : Tryz.prog.bytesOf 30 = 40 := by kernel_rfl
  have hin : ∀ n ∈ DataW.weights Tryz.prog 22 (.slice elems spare), n ∈ x.1.weights Tryz.prog 24 := by
    intro n hn
    rw [e, DataW.weights, Tryz.underlying24]
    simp [DataW.weightsEach]
    simp [hn]
  refine ⟨?_, fun y hy k r hk => ?_⟩
  · have := hW _ (hin ((elems.length + spare.length) * Tryz.prog.bytesOf 30) (by rw [DataW.weights, Tryz.underlying22]; simp))
    rw [e40] at this
    omega
  · refine hW _ (hin k.length ?_)
    rw [DataW.weights, Tryz.underlying22]
    simp only [List.mem_cons, List.mem_append]
    refine .inr (.inl (weights_all hy ?_))
    rw [hk, DataW.weights, Tryz.underlying30]
    simp [DataW.weightsEach, DataW.weights]
end

end Go.Proofs.YtlcbideongbmeaaGreat

namespace Go.Proofs.YtlcbideongbmeaaGreat
open Go.ChangeShapes Go.WideShapes Go.ChangeAt Go.RowKit
open Go.ChangeMaps (open_string shut_string)
set_option linter.unusedVariables false
set_option maxRecDepth 100000

theorem list12 {α : Type} {l : List α} (h : l.length = 12) : ∃ c0 c1 c2 c3 c4 c5 c6 c7 c8 c9 c10 c11, l = [c0, c1, c2, c3, c4, c5, c6, c7, c8, c9, c10, c11] := by
  match l, h with
  | [c0, c1, c2, c3, c4, c5, c6, c7, c8, c9, c10, c11], _ => exact ⟨c0, c1, c2, c3, c4, c5, c6, c7, c8, c9, c10, c11, rfl⟩

/-- A delta that came in. -/
structure InD (M : Nat) (w : World) (d : De) (p : Option Addr) (n c : Nat) : Prop where
  right : InE M w p n c d.rt.l

section
variable {H : Type} {enc : TypeId × Value → H} {W : World} {fuel : Nat} {cs : List Value} {x : DataW H × List MemPlace}

theorem in_delta {M : Nat} (hf : DataW.trod enc Tryz.prog W 0 (fun _ => true) true fuel 32 cs = some x)
    (hB : ∀ y0 y1 y2 y3 z0 z1 z2 z3 elems spare, x.1 = .agg [y0, y1, y2, y3, .agg [z0, z1, z2, z3, .slice elems spare]] → elems.length + spare.length ≤ M ∧ ∀ y ∈ elems, ∀ k r, y = .agg (.lit (.string k) :: r) → k.length ≤ 140737488351232) :
    ∃ (d : De) (a : Option Addr) (len cap : Nat), cs = [.int .i64 d.k, .string d.e.key, .int .i64 d.e.s, .int .i64 d.e.g, .int .i64 d.e.c, .string d.key, .int .i64 d.pg, .bool d.rt.leaf, .string d.rt.lo, .string d.rt.hi, .int .i64 d.rt.r, .slice a len cap] ∧ InD M W d a len cap := by
  obtain ⟨ys, n, -, rfl, hlen, hys, hall⟩ := DataW.trod_struct Tryz.underlying32 hf
  have eT : Tryz.prog.cellsOf 32 = 12 := by kernel_rfl
  rw [eT] at hlen
  obtain ⟨c0, c1, c2, c3, c4, c5, c6, c7, c8, c9, c10, c11, rfl⟩ := list12 hlen
  obtain ⟨y0, y1, y2, y3, y4, rfl⟩ := list5 (l := ys) hys
  have h0 : DataW.trod enc Tryz.prog W 0 (fun _ => true) true n 3 [c0] = some y0 := by
    have h : DataW.trod enc Tryz.prog W 0 (fun _ => true) true n 3 (List.take (Tryz.prog.cellsOf 3) (List.drop 0 [c0, c1, c2, c3, c4, c5, c6, c7, c8, c9, c10, c11])) = some y0 := hall 0 _ rfl
    rw [show Tryz.prog.cellsOf 3 = 1 by kernel_rfl] at h
    exact h
  have h1 : DataW.trod enc Tryz.prog W 0 (fun _ => true) true n 30 [c1, c2, c3, c4] = some y1 := by
    have h : DataW.trod enc Tryz.prog W 0 (fun _ => true) true n 30 (List.take (Tryz.prog.cellsOf 30) (List.drop 1 [c0, c1, c2, c3, c4, c5, c6, c7, c8, c9, c10, c11])) = some y1 := hall 1 _ rfl
    rw [show Tryz.prog.cellsOf 30 = 4 by kernel_rfl] at h
    exact h
  have h2 : DataW.trod enc Tryz.prog W 0 (fun _ => true) true n 9 [c5] = some y2 := by
    have h : DataW.trod enc Tryz.prog W 0 (fun _ => true) true n 9 (List.take (Tryz.prog.cellsOf 9) (List.drop 5 [c0, c1, c2, c3, c4, c5, c6, c7, c8, c9, c10, c11])) = some y2 := hall 2 _ rfl
    rw [show Tryz.prog.cellsOf 9 = 1 by kernel_rfl] at h
    exact h
  have h3 : DataW.trod enc Tryz.prog W 0 (fun _ => true) true n 3 [c6] = some y3 := by
    have h : DataW.trod enc Tryz.prog W 0 (fun _ => true) true n 3 (List.take (Tryz.prog.cellsOf 3) (List.drop 6 [c0, c1, c2, c3, c4, c5, c6, c7, c8, c9, c10, c11])) = some y3 := hall 3 _ rfl
    rw [show Tryz.prog.cellsOf 3 = 1 by kernel_rfl] at h
    exact h
  have h4 : DataW.trod enc Tryz.prog W 0 (fun _ => true) true n 24 [c7, c8, c9, c10, c11] = some y4 := by
    have h : DataW.trod enc Tryz.prog W 0 (fun _ => true) true n 24 (List.take (Tryz.prog.cellsOf 24) (List.drop 7 [c0, c1, c2, c3, c4, c5, c6, c7, c8, c9, c10, c11])) = some y4 := hall 4 _ rfl
    rw [show Tryz.prog.cellsOf 24 = 5 by kernel_rfl] at h
    exact h
  obtain ⟨v0, q0, _, _⟩ := DataW.trod_int Tryz.underlying3 h0
  obtain ⟨e, q1, _⟩ := in_en h1
  obtain ⟨v2, q2, _, _⟩ := DataW.trod_string Tryz.underlying9 h2
  obtain ⟨v3, q3, _, _⟩ := DataW.trod_int Tryz.underlying3 h3
  obtain ⟨leaf, lo, hi, r, a, len, cap, l, q4, hl⟩ := in_page (M := M) h4 (fun z0 z1 z2 z3 elems spare he => hB y0.1 y1.1 y2.1 y3.1 z0 z1 z2 z3 elems spare (by simp [he]))
  simp only [List.cons.injEq, and_true] at q0 q1 q2 q3 q4
  obtain ⟨rfl, rfl, rfl, rfl, rfl⟩ := q4
  simp only [En.cells, List.cons.injEq, and_true] at q1
  obtain ⟨rfl, rfl, rfl, rfl⟩ := q1
  subst q0 q2 q3
  exact ⟨⟨v0, e, v2, v3, ⟨leaf, lo, hi, r, l⟩⟩, a, len, cap, rfl, ⟨hl⟩⟩

theorem delta_said {M : Nat} (hM : 3518437208780 ≤ M) (hW : ∀ n ∈ x.1.weights Tryz.prog 32, n ≤ 140737488351232) :
    ∀ y0 y1 y2 y3 z0 z1 z2 z3 elems spare, x.1 = .agg [y0, y1, y2, y3, .agg [z0, z1, z2, z3, .slice elems spare]] → elems.length + spare.length ≤ M ∧ ∀ y ∈ elems, ∀ k r, y = .agg (.lit (.string k) :: r) → k.length ≤ 140737488351232 := by
  intro y0 y1 y2 y3 z0 z1 z2 z3 elems spare e
  refine page_said (x := ((.agg [z0, z1, z2, z3, .slice elems spare] : DataW H), [])) hM (fun n hn => hW n ?_) z0 z1 z2 z3 elems spare rfl
  rw [e, DataW.weights, Tryz.underlying32]
  simp [DataW.weightsEach]
  simp only at hn
  simp [hn]
end

end Go.Proofs.YtlcbideongbmeaaGreat

namespace Go.Proofs.YtlcbideongbmeaaGreat
open Go.RowKit Go.Lib Go.Shelf
set_option linter.unusedVariables false
set_option maxRecDepth 100000

/-- What bounds the deltas that are folded. -/
structure Fit (pl : List En) (ds : List De) : Prop where
  row : (pl ++ rowsOf ds).length ≤ 3518437208782
  texts : (allTexts pl ds).length ≤ 7036874417766
  ents : (entsL pl ds).length ≤ 3518437208783

set_option maxHeartbeats 4000000 in
theorem folded_any (pf : Bool) (plo phi : ByteArray) (pr : Int) (pp : Option Addr) (pn pc : Nat) (pl : List En) (p : Option Addr) (len cap : Nat) (L : List Dm) (w : World) (hlen : pl.length = pn) (hx : Ens w pp pl) (hp : pp = none → pn = 0) (hL : L.length = len) (hll : len ≤ 4398046511104) (hD : Des w p L) (hF : (Dl.fo ⟨pf, plo, phi, pr, pl⟩ (L.map (·.d)).reverse).2 = 0 → Fit pl (L.map (·.d)).reverse) :
    Calls Tryz.prog 30 #[pgv pf plo phi pr pp pn pc, .slice p len cap] w fun e w' => Done w (Dl.fo ⟨pf, plo, phi, pr, pl⟩ (L.map (·.d)).reverse) e w' := by
  have hO := fun (W : World) (h : Below w.heap.size w W) => outline_any ⟨pf, plo, phi, pr, pl⟩ pp pn pc p len cap L W hL hll (hD.below h (Nat.le_refl _))
  rw [Dl.outl_fo] at hO
  have hE := fun (h0 : (Dl.fo ⟨pf, plo, phi, pr, pl⟩ (L.map (·.d)).reverse).2 = 0) (W : World) (h : Below w.heap.size w W) => entries_any pf plo phi pr pp pn pc pl p len cap L W hlen (hx.below h (Nat.le_refl _)) hp hL (hD.below h (Nat.le_refl _)) (hF h0).row (hF h0).texts (hF h0).ents (fun d hd => Dl.may_rt ((Dl.fo_ok _ _ h0).2 d hd).1)
  have hel := fun h0 => (Dl.fo_ok ⟨pf, plo, phi, pr, pl⟩ (L.map (·.d)).reverse h0).1
  revert hO hE hel hF
  generalize Dl.fo ⟨pf, plo, phi, pr, pl⟩ (L.map (·.d)).reverse = out
  generalize entsL pl (L.map (·.d)).reverse = EL
  intro hF hO hE hel
  have HO : Hid _ := hO
  have HE : Hid (out.2 = 0 → ∀ W, Below w.heap.size w W → Calls Tryz.prog 54 #[pgv pf plo phi pr pp pn pc, .slice p len cap] W fun e w' => ∃ v, e = .returned v ∧ OwnE w' W.heap.size v EL ∧ Below W.heap.size W w') := hE
  have HEL : Hid (out.2 = 0 → out.1.l = EL) := hel
  clear hO hE hel hx hD hF hL hlen
  obtain ⟨w0, hw0⟩ : ∃ w0, (w.alloc (.cells #[.bool pf, .string plo, .string phi, .int .i64 pr, .slice pp pn pc] 24)).alloc (.cells #[.bool false, .string ⟨#[]⟩, .string ⟨#[]⟩, .int .i64 0, .slice none 0 0] 24) = w0 := ⟨_, rfl⟩
  have HB0 : Hid (Below w.heap.size w w0) := by rw [← hw0]; exact ((Below.refl _ _).alloc (Nat.le_refl _) _).alloc (by simp) _
  have HK0 : Hid (Bk w0 w.heap.size 24 #[.bool pf, .string plo, .string phi, .int .i64 pr, .slice pp pn pc]) := by rw [← hw0]; exact (Bk.new _ _ _).alloc _
  have HR0 : Hid (Bk w0 (w.heap.size + 1) 24 #[.bool false, .string ⟨#[]⟩, .string ⟨#[]⟩, .int .i64 0, .slice none 0 0]) := by rw [← hw0]; exact Bk.new1 _ _ _ _
  have HS0 : Hid (w.heap.size + 1 < w0.heap.size) := HR0.out.lt
  have a0 : w0.cell? ⟨w.heap.size, 0, none⟩ = some (.bool pf) := HK0.out.cell 0
  have a1 : w0.cell? ⟨w.heap.size, 1, none⟩ = some (.string plo) := HK0.out.cell 1
  have a2 : w0.cell? ⟨w.heap.size, 2, none⟩ = some (.string phi) := HK0.out.cell 2
  have a3 : w0.cell? ⟨w.heap.size, 3, none⟩ = some (.int .i64 pr) := HK0.out.cell 3
  have a4 : w0.cell? ⟨w.heap.size, 4, none⟩ = some (.slice pp pn pc) := HK0.out.cell 4
  go_enter Tryz.func30, Tryz.ntmps30
  go_wp2_with fail
  clear hw0
  refine (HO.out w0 HB0.out).mono ?_
  rintro e w1 ⟨hdone, hb1⟩
  clear a0 a1 a2 a3 a4
  have HB1 : Hid (Below w.heap.size w w1) := HB0.out.trans (hb1.mono HB0.out.size)
  have HK1 : Hid (Bk w1 w.heap.size 24 #[.bool pf, .string plo, .string phi, .int .i64 pr, .slice pp pn pc]) := HK0.out.below hb1 HK0.out.lt
  have HR1 : Hid (Bk w1 (w.heap.size + 1) 24 #[.bool false, .string ⟨#[]⟩, .string ⟨#[]⟩, .int .i64 0, .slice none 0 0]) := HR0.out.below hb1 HR0.out.lt
  clear hb1
  rcases hdone with ⟨hk0, rfl⟩ | ⟨hk0, rfl⟩
  · obtain ⟨⟨Gf, Glo, Ghi, Gr, Gl⟩, kk⟩ := out
    simp only at hk0
    subst hk0
    have hGl : Gl = EL := HEL.out rfl
    subst hGl
    have HE1 := HE.out rfl
    have HE2 : Hid _ := HE1
    clear HE1
    simp only [Dl.hd]
    obtain ⟨w2, hw2⟩ : ∃ w2, w1.alloc (.cells #[.bool Gf, .string Glo, .string Ghi, .int .i64 Gr, .slice none 0 0] 24) = w2 := ⟨_, rfl⟩
    have HB2 : Hid (Below w.heap.size w w2) := by rw [← hw2]; exact HB1.out.alloc HB1.out.size _
    have HK2 : Hid (Bk w2 w.heap.size 24 #[.bool pf, .string plo, .string phi, .int .i64 pr, .slice pp pn pc]) := by rw [← hw2]; exact HK1.out.alloc _
    have HR2 : Hid (Bk w2 (w.heap.size + 1) 24 #[.bool false, .string ⟨#[]⟩, .string ⟨#[]⟩, .int .i64 0, .slice none 0 0]) := by rw [← hw2]; exact HR1.out.alloc _
    have HP2 : Hid (Bk w2 w1.heap.size 24 #[.bool Gf, .string Glo, .string Ghi, .int .i64 Gr, .slice none 0 0]) := by rw [← hw2]; exact Bk.new _ _ _
    have HPP : Hid (w.heap.size + 1 < w1.heap.size) := HR1.out.lt
    have a0 : (w1.alloc (.cells #[.bool Gf, .string Glo, .string Ghi, .int .i64 Gr, .slice none 0 0] 24)).cell? ⟨w.heap.size, 0, none⟩ = some (.bool pf) := (HK1.out.alloc _).cell 0
    have a1 : (w1.alloc (.cells #[.bool Gf, .string Glo, .string Ghi, .int .i64 Gr, .slice none 0 0] 24)).cell? ⟨w.heap.size, 1, none⟩ = some (.string plo) := (HK1.out.alloc _).cell 1
    have a2 : (w1.alloc (.cells #[.bool Gf, .string Glo, .string Ghi, .int .i64 Gr, .slice none 0 0] 24)).cell? ⟨w.heap.size, 2, none⟩ = some (.string phi) := (HK1.out.alloc _).cell 2
    have a3 : (w1.alloc (.cells #[.bool Gf, .string Glo, .string Ghi, .int .i64 Gr, .slice none 0 0] 24)).cell? ⟨w.heap.size, 3, none⟩ = some (.int .i64 pr) := (HK1.out.alloc _).cell 3
    have a4 : (w1.alloc (.cells #[.bool Gf, .string Glo, .string Ghi, .int .i64 Gr, .slice none 0 0] 24)).cell? ⟨w.heap.size, 4, none⟩ = some (.slice pp pn pc) := (HK1.out.alloc _).cell 4
    have hne1 : w.heap.size ≠ w1.heap.size := by have := HPP.out; omega
    replace hw2 := hw2.symm
    go_wp2_with fail
    rw [← hw2]
    generalize w1.heap.size = P at *
    clear hw2
    refine (HE2.out w2 HB2.out).mono ?_
    rintro e w3 ⟨v3, rfl, ho3, hb3⟩
    clear a0 a1 a2 a3 a4
    obtain ⟨q, c, rfl, -⟩ := ho3.ens
    have HO3 : Hid (OwnE w3 w2.heap.size (.slice q Gl.length c) Gl) := ho3
    have HB3 : Hid (Below w.heap.size w w3) := HB2.out.trans (hb3.mono HB2.out.size)
    have HR3 : Hid (Bk w3 (w.heap.size + 1) 24 #[.bool false, .string ⟨#[]⟩, .string ⟨#[]⟩, .int .i64 0, .slice none 0 0]) := HR2.out.below hb3 HR2.out.lt
    have HP3 : Hid (Bk w3 P 24 #[.bool Gf, .string Glo, .string Ghi, .int .i64 Gr, .slice none 0 0]) := HP2.out.below hb3 HP2.out.lt
    have HPS : Hid (P < w2.heap.size) := HP2.out.lt
    clear ho3 hb3
    obtain ⟨Gn, HGn⟩ : ∃ Gn, Hid (Gl.length = Gn) := ⟨_, rfl⟩
    rw [HGn.out] at HO3 ⊢
    have p4 : w3.cell? ⟨P, 4, none⟩ = some (.slice none 0 0) := HP3.out.cell 4
    have pf4 : w3.frozen? ⟨P, 4, none⟩ = false := HP3.out.frozen 4
    have HP4 : Hid (Bk (w3.setCell ⟨P, 4, none⟩ (.slice q Gn c)) P 24 #[.bool Gf, .string Glo, .string Ghi, .int .i64 Gr, .slice q Gn c]) := HP3.out.set 4 _
    have hne : w.heap.size + 1 ≠ P := by have := HPP.out; omega
    have HT4 : Hid (Tn [P] w3 (w3.setCell ⟨P, 4, none⟩ (.slice q Gn c))) := (Tn.refl _ _).setCell (p := ⟨P, 4, none⟩) (.inl (by simp)) _
    have HR4 : Hid (Bk (w3.setCell ⟨P, 4, none⟩ (.slice q Gn c)) (w.heap.size + 1) 24 #[.bool false, .string ⟨#[]⟩, .string ⟨#[]⟩, .int .i64 0, .slice none 0 0]) := HR3.out.tn HT4.out (by simp; exact hne)
    generalize hw4 : w3.setCell ⟨P, 4, none⟩ (.slice q Gn c) = w4 at HP4 HR4 HT4
    have b0 : w4.cell? ⟨P, 0, none⟩ = some (.bool Gf) := HP4.out.cell 0
    have b1 : w4.cell? ⟨P, 1, none⟩ = some (.string Glo) := HP4.out.cell 1
    have b2 : w4.cell? ⟨P, 2, none⟩ = some (.string Ghi) := HP4.out.cell 2
    have b3 : w4.cell? ⟨P, 3, none⟩ = some (.int .i64 Gr) := HP4.out.cell 3
    have b4 : w4.cell? ⟨P, 4, none⟩ = some (.slice q Gn c) := HP4.out.cell 4
    have c0 : w4.cell? ⟨w.heap.size + 1, 0, none⟩ = some (.bool false) := HR4.out.cell 0
    have cf0 : w4.frozen? ⟨w.heap.size + 1, 0, none⟩ = false := HR4.out.frozen 0
    have c1 : w4.cell? ⟨w.heap.size + 1, 1, none⟩ = some (.string ⟨#[]⟩) := HR4.out.cell 1
    have cf1 : w4.frozen? ⟨w.heap.size + 1, 1, none⟩ = false := HR4.out.frozen 1
    have c2 : w4.cell? ⟨w.heap.size + 1, 2, none⟩ = some (.string ⟨#[]⟩) := HR4.out.cell 2
    have cf2 : w4.frozen? ⟨w.heap.size + 1, 2, none⟩ = false := HR4.out.frozen 2
    have c3 : w4.cell? ⟨w.heap.size + 1, 3, none⟩ = some (.int .i64 0) := HR4.out.cell 3
    have cf3 : w4.frozen? ⟨w.heap.size + 1, 3, none⟩ = false := HR4.out.frozen 3
    have c4 : w4.cell? ⟨w.heap.size + 1, 4, none⟩ = some (.slice none 0 0) := HR4.out.cell 4
    have cf4 : w4.frozen? ⟨w.heap.size + 1, 4, none⟩ = false := HR4.out.frozen 4
    go_wp2
    clear b0 b1 b2 b3 b4 c0 cf0 c1 cf1 c2 cf2 c3 cf3 c4 cf4 p4 pf4
    have k1 := HR4.out.five (.bool Gf) (.string Glo) (.string Ghi) (.int .i64 Gr) (.slice q Gn c)
    have ht : Tn [w.heap.size + 1] w4 _ := (Tn.refl _ w4).five (R := w.heap.size + 1) (.inl (by simp)) (.bool Gf) (.string Glo) (.string Ghi) (.int .i64 Gr) (.slice q Gn c)
    refine bodyPost_ret (results_one (T' := 24) (cs := [.bool Gf, .string Glo, .string Ghi, .int .i64 Gr, .slice q Gn c]) rfl rfl pg_agg pg_size rfl k1) rfl ?_
    have h1 := HPP.out
    have h2 := HPS.out
    have h3 := HB3.out.size
    have ho4 := HO3.out.tn HT4.out (by simp; omega)
    have ho5 := ho4.tn ht (by simp; omega)
    have hb4 := HB3.out.trans (HT4.out.below h3 (by simp; omega))
    exact ⟨.inl ⟨rfl, _, rfl, PgAt.own HGn.out (ho5.mono HB2.out.size)⟩, hb4.trans (ht.below hb4.size (by simp))⟩
  · refine ⟨rfl, ?_⟩
    exact ⟨.inr ⟨hk0, rfl⟩, HB1.out⟩

end Go.Proofs.YtlcbideongbmeaaGreat

namespace Go.Proofs.YtlcbideongbmeaaGreat
open Go.RowKit Go.Lib Go.Shelf
set_option linter.unusedVariables false
set_option maxRecDepth 100000

set_option maxHeartbeats 2000000 in
theorem fold1_any (pf : Bool) (plo phi : ByteArray) (pr : Int) (pp : Option Addr) (pn pc : Nat) (pl : List En) (p : Option Addr) (len cap : Nat) (L : List Dm) (B C : Nat) (w : World) (hB : Bk w B 24 (pgc pf plo phi pr pp pn pc)) (hC : Bk w C 25 #[.slice p len cap])
    (hlen : pl.length = pn) (hx : Ens w pp pl) (hp : pp = none → pn = 0) (hL : L.length = len) (hll : len ≤ 4398046511104) (hD : Des w p L) (hF : (Dl.fo ⟨pf, plo, phi, pr, pl⟩ (L.map (·.d)).reverse).2 = 0 → Fit pl (L.map (·.d)).reverse) :
    Calls Tryz.prog 29 #[.pointer (some ⟨B, 0, none⟩), .pointer (some ⟨C, 0, none⟩)] w fun e w' => Done w (Dl.fo ⟨pf, plo, phi, pr, pl⟩ (L.map (·.d)).reverse) e w' := by
  have hq := fun (W : World) (h : Below w.heap.size w W) => folded_any pf plo phi pr pp pn pc pl p len cap L W hlen (hx.below h (Nat.le_refl _)) hp hL hll (hD.below h (Nat.le_refl _)) hF
  revert hq hF
  generalize (Dl.fo ⟨pf, plo, phi, pr, pl⟩ (L.map (·.d)).reverse) = out
  intro hF hq
  have HQ : Hid _ := hq
  clear hq hlen hx hL hD hF
  obtain ⟨w0, hw0⟩ : ∃ w0, w.alloc (.cells #[.bool false, .string ⟨#[]⟩, .string ⟨#[]⟩, .int .i64 0, .slice none 0 0] 24) = w0 := ⟨_, rfl⟩
  have HB0 : Hid (Below w.heap.size w w0) := by rw [← hw0]; exact (Below.refl _ _).alloc (Nat.le_refl _) _
  have HK0 : Hid (Bk w0 B 24 #[.bool pf, .string plo, .string phi, .int .i64 pr, .slice pp pn pc]) := by rw [← hw0]; exact hB.alloc _
  have HD0 : Hid (Bk w0 C 25 #[.slice p len cap]) := by rw [← hw0]; exact hC.alloc _
  have HR0 : Hid (Bk w0 w.heap.size 24 #[.bool false, .string ⟨#[]⟩, .string ⟨#[]⟩, .int .i64 0, .slice none 0 0]) := by rw [← hw0]; exact Bk.new _ _ _
  have HS0 : Hid (w.heap.size < w0.heap.size) := HR0.out.lt
  clear hB hC
  have a0 : w0.cell? ⟨B, 0, none⟩ = some (.bool pf) := HK0.out.cell 0
  have a1 : w0.cell? ⟨B, 1, none⟩ = some (.string plo) := HK0.out.cell 1
  have a2 : w0.cell? ⟨B, 2, none⟩ = some (.string phi) := HK0.out.cell 2
  have a3 : w0.cell? ⟨B, 3, none⟩ = some (.int .i64 pr) := HK0.out.cell 3
  have a4 : w0.cell? ⟨B, 4, none⟩ = some (.slice pp pn pc) := HK0.out.cell 4
  have x0 : w0.cell? ⟨C, 0, none⟩ = some (.slice p len cap) := HD0.out.cell 0
  go_enter Tryz.func29, Tryz.ntmps29
  go_wp2_with fail
  clear hw0
  refine (HQ.out _ HB0.out).mono ?_
  rintro e w1 ⟨hdone, hb1⟩
  clear a0 a1 a2 a3 a4
  clear x0
  have HB1 : Hid (Below w.heap.size w w1) := HB0.out.trans (hb1.mono HB0.out.size)
  have HR1 : Hid (Bk w1 w.heap.size 24 #[.bool false, .string ⟨#[]⟩, .string ⟨#[]⟩, .int .i64 0, .slice none 0 0]) := HR0.out.below hb1 HR0.out.lt
  clear hb1
  rcases hdone with ⟨hk0, v3, rfl, hg3⟩ | ⟨hk0, rfl⟩
  · obtain ⟨⟨Gf, Glo, Ghi, Gr, Gl⟩, kk⟩ := out
    simp only at hk0 hg3
    subst hk0
    obtain ⟨Gp, Gc, rfl, hg4⟩ := hg3.pv
    simp only at hg4 ⊢
    obtain ⟨Gn, hGn⟩ : ∃ Gn, Gl.length = Gn := ⟨_, rfl⟩
    rw [hGn] at hg4 ⊢
    have HG3 : Hid (PgAt w1 w0.heap.size (pgv Gf Glo Ghi Gr Gp Gn Gc) ⟨Gf, Glo, Ghi, Gr, Gl⟩) := hg4
    clear hg3 hg4 hGn
    have b0 : w1.cell? ⟨w.heap.size, 0, none⟩ = some (.bool false) := HR1.out.cell 0
    have bf0 : w1.frozen? ⟨w.heap.size, 0, none⟩ = false := HR1.out.frozen 0
    have b1 : w1.cell? ⟨w.heap.size, 1, none⟩ = some (.string ⟨#[]⟩) := HR1.out.cell 1
    have bf1 : w1.frozen? ⟨w.heap.size, 1, none⟩ = false := HR1.out.frozen 1
    have b2 : w1.cell? ⟨w.heap.size, 2, none⟩ = some (.string ⟨#[]⟩) := HR1.out.cell 2
    have bf2 : w1.frozen? ⟨w.heap.size, 2, none⟩ = false := HR1.out.frozen 2
    have b3 : w1.cell? ⟨w.heap.size, 3, none⟩ = some (.int .i64 0) := HR1.out.cell 3
    have bf3 : w1.frozen? ⟨w.heap.size, 3, none⟩ = false := HR1.out.frozen 3
    have b4 : w1.cell? ⟨w.heap.size, 4, none⟩ = some (.slice none 0 0) := HR1.out.cell 4
    have bf4 : w1.frozen? ⟨w.heap.size, 4, none⟩ = false := HR1.out.frozen 4
    go_wp2
    clear b0 bf0 b1 bf1 b2 bf2 b3 bf3 b4 bf4
    have k1 := HR1.out.five (.bool Gf) (.string Glo) (.string Ghi) (.int .i64 Gr) (.slice Gp Gn Gc)
    have ht : Tn [w.heap.size] w1 _ := (Tn.refl _ w1).five (R := w.heap.size) (.inl (by simp)) (.bool Gf) (.string Glo) (.string Ghi) (.int .i64 Gr) (.slice Gp Gn Gc)
    refine bodyPost_ret (results_one (T' := 24) (cs := [.bool Gf, .string Glo, .string Ghi, .int .i64 Gr, .slice Gp Gn Gc]) rfl rfl pg_agg pg_size rfl k1) rfl ?_
    exact ⟨.inl ⟨rfl, _, rfl, (HG3.out.tn ht (by have := HS0.out; simp; omega)).mono HB0.out.size⟩, HB1.out.trans (ht.below HB1.out.size (by simp))⟩
  · refine ⟨rfl, ?_⟩
    exact ⟨.inr ⟨hk0, rfl⟩, HB1.out⟩

set_option maxHeartbeats 2000000 in
theorem fold_any (pf : Bool) (plo phi : ByteArray) (pr : Int) (pp : Option Addr) (pn pc : Nat) (pl : List En) (p : Option Addr) (len cap : Nat) (L : List Dm) (w : World) (hlen : pl.length = pn) (hx : Ens w pp pl) (hp : pp = none → pn = 0) (hL : L.length = len) (hll : len ≤ 4398046511104) (hD : Des w p L) (hF : (Dl.fo ⟨pf, plo, phi, pr, pl⟩ (L.map (·.d)).reverse).2 = 0 → Fit pl (L.map (·.d)).reverse) :
    Calls Tryz.prog 11 #[pgv pf plo phi pr pp pn pc, .slice p len cap] w fun e w' => ∃ v, e = .returned (.tuple #[v, .int .i64 (Dl.fo ⟨pf, plo, phi, pr, pl⟩ (L.map (·.d)).reverse).2]) ∧ PgAt w' w.heap.size v (Dl.fo ⟨pf, plo, phi, pr, pl⟩ (L.map (·.d)).reverse).1 ∧ Below w.heap.size w w' := by
  have hmf : ∀ (fn : Fn) (first cap : Array Value) (w : World), (Instr.makeFunc fn first cap).run Tryz.prog w = .ok (.func fn first cap) w := fun _ _ _ _ => rfl
  have eg : ∀ args w, (callFunc 29 args).run Tryz.prog w = .ok (.enter 29 args) w := enters_of Tryz.func29 (by kernel_rfl) rfl
  obtain ⟨w0, hw0⟩ : ∃ w0, ((w.alloc (.cells (pgc pf plo phi pr pp pn pc) 24)).alloc (.cells #[.slice p len cap] 25)).alloc (.cells #[.bool false, .string ⟨#[]⟩, .string ⟨#[]⟩, .int .i64 0, .slice none 0 0] 24) = w0 := ⟨_, rfl⟩
  have HB0 : Hid (Below w.heap.size w w0) := by rw [← hw0]; exact (((Below.refl _ _).alloc (Nat.le_refl _) _).alloc (by simp) _).alloc (by simp; omega) _
  have HR0 : Hid (Bk w0 (w.heap.size + 1 + 1) 24 #[.bool false, .string ⟨#[]⟩, .string ⟨#[]⟩, .int .i64 0, .slice none 0 0]) := by rw [← hw0]; exact Bk.new2 _ _ _ _ _
  have HS0 : Hid (w.heap.size + 1 + 1 < w0.heap.size) := HR0.out.lt
  have hk0 : Bk w0 w.heap.size 24 (pgc pf plo phi pr pp pn pc) := by rw [← hw0]; exact ((Bk.new _ _ _).alloc _).alloc _
  have hd0 : Bk w0 (w.heap.size + 1) 25 #[.slice p len cap] := by rw [← hw0]; exact (Bk.new1 _ _ _ _).alloc _
  have hbb : Below w.heap.size w ((w0.alloc (.cells zc 24)).alloc (.cells #[.int .i64 0] 34)) := (HB0.out.alloc HB0.out.size _).alloc (by have := HB0.out.size; simp; omega) _
  have hq := fold1_any pf plo phi pr pp pn pc pl p len cap L w.heap.size (w.heap.size + 1) ((w0.alloc (.cells zc 24)).alloc (.cells #[.int .i64 0] 34)) ((hk0.alloc _).alloc _) ((hd0.alloc _).alloc _) hlen (hx.below hbb (Nat.le_refl _)) hp hL hll (hD.below hbb (Nat.le_refl _)) hF
  have hz := Dl.fo_zero ⟨pf, plo, phi, pr, pl⟩ (L.map (·.d)).reverse
  have hcc : Calls Tryz.prog 28 #[.func (.func 29) #[] #[.pointer (some ⟨w.heap.size, 0, none⟩), .pointer (some ⟨w.heap.size + 1, 0, none⟩)]] w0 fun e w' => ∃ v, e = .returned (.tuple #[v, .int .i64 (Dl.fo ⟨pf, plo, phi, pr, pl⟩ (L.map (·.d)).reverse).2]) ∧ PgAt w' w0.heap.size v (Dl.fo ⟨pf, plo, phi, pr, pl⟩ (L.map (·.d)).reverse).1 ∧ Below w0.heap.size w0 w' := by
    by_cases h0 : (Dl.fo ⟨pf, plo, phi, pr, pl⟩ (L.map (·.d)).reverse).2 = 0
    · rw [h0]
      refine caughtP_ok _ _ eg (Dl.fo ⟨pf, plo, phi, pr, pl⟩ (L.map (·.d)).reverse).1 w0 (hq.mono ?_)
      rintro e w' ⟨hdone, hb⟩
      rcases hdone with ⟨-, v, rfl, hg⟩ | ⟨h1, -⟩
      · exact ⟨v, rfl, by simpa using hg, by simpa using hb⟩
      · exact absurd h0 h1
    · rw [hz h0]
      refine (caughtP_err _ _ eg (Dl.fo ⟨pf, plo, phi, pr, pl⟩ (L.map (·.d)).reverse).2 w0 (hq.mono ?_)).mono ?_
      · rintro e w' ⟨hdone, hb⟩
        rcases hdone with ⟨h1, -⟩ | ⟨-, rfl⟩
        · exact absurd h1 h0
        · exact ⟨rfl, by simpa using hb⟩
      · rintro e w' ⟨rfl, hb⟩
        exact ⟨_, rfl, PgAt.zero _ _, hb⟩
  have HQ : Hid _ := hcc
  obtain ⟨⟨⟨Gf, Glo, Ghi, Gr, Gl⟩, kk⟩, HO⟩ : ∃ out : Pp × Int, Hid (Dl.fo ⟨pf, plo, phi, pr, pl⟩ (L.map (·.d)).reverse = out) := ⟨_, rfl⟩
  rw [HO.out] at HQ
  rw [HO.out]
  clear hq hz hcc hlen hx hL hD hF HO hk0 hd0 hbb
  go_enter Tryz.func11, Tryz.ntmps11
  go_wp2_with fail
  clear hw0
  refine Calls.mono HQ.out ?_
  rintro e w1 ⟨v, rfl, hg3, hb1⟩
  obtain ⟨Gp, Gc, rfl, hg4⟩ := hg3.pv
  simp only at hg4 ⊢
  obtain ⟨Gn, hGn⟩ : ∃ Gn, Gl.length = Gn := ⟨_, rfl⟩
  rw [hGn] at hg4 ⊢
  have HG3 : Hid (PgAt w1 w0.heap.size (pgv Gf Glo Ghi Gr Gp Gn Gc) ⟨Gf, Glo, Ghi, Gr, Gl⟩) := hg4
  have HB1 : Hid (Below w.heap.size w w1) := HB0.out.trans (hb1.mono HB0.out.size)
  have HR1 : Hid (Bk w1 (w.heap.size + 1 + 1) 24 #[.bool false, .string ⟨#[]⟩, .string ⟨#[]⟩, .int .i64 0, .slice none 0 0]) := HR0.out.below hb1 HR0.out.lt
  clear hg3 hg4 hb1 hGn
  have b0 : w1.cell? ⟨w.heap.size + 1 + 1, 0, none⟩ = some (.bool false) := HR1.out.cell 0
  have bf0 : w1.frozen? ⟨w.heap.size + 1 + 1, 0, none⟩ = false := HR1.out.frozen 0
  have b1 : w1.cell? ⟨w.heap.size + 1 + 1, 1, none⟩ = some (.string ⟨#[]⟩) := HR1.out.cell 1
  have bf1 : w1.frozen? ⟨w.heap.size + 1 + 1, 1, none⟩ = false := HR1.out.frozen 1
  have b2 : w1.cell? ⟨w.heap.size + 1 + 1, 2, none⟩ = some (.string ⟨#[]⟩) := HR1.out.cell 2
  have bf2 : w1.frozen? ⟨w.heap.size + 1 + 1, 2, none⟩ = false := HR1.out.frozen 2
  have b3 : w1.cell? ⟨w.heap.size + 1 + 1, 3, none⟩ = some (.int .i64 0) := HR1.out.cell 3
  have bf3 : w1.frozen? ⟨w.heap.size + 1 + 1, 3, none⟩ = false := HR1.out.frozen 3
  have b4 : w1.cell? ⟨w.heap.size + 1 + 1, 4, none⟩ = some (.slice none 0 0) := HR1.out.cell 4
  have bf4 : w1.frozen? ⟨w.heap.size + 1 + 1, 4, none⟩ = false := HR1.out.frozen 4
  go_wp2
  clear b0 bf0 b1 bf1 b2 bf2 b3 bf3 b4 bf4
  have k1 := HR1.out.five (.bool Gf) (.string Glo) (.string Ghi) (.int .i64 Gr) (.slice Gp Gn Gc)
  have ht : Tn [w.heap.size + 1 + 1] w1 _ := (Tn.refl _ w1).five (R := w.heap.size + 1 + 1) (.inl (by simp)) (.bool Gf) (.string Glo) (.string Ghi) (.int .i64 Gr) (.slice Gp Gn Gc)
  refine bodyPost_ret (results_two (T' := 24) (cs := [.bool Gf, .string Glo, .string Ghi, .int .i64 Gr, .slice Gp Gn Gc]) rfl rfl pg_agg pg_size rfl k1) rfl ?_
  exact ⟨_, rfl, (HG3.out.tn ht (by have := HS0.out; simp; omega)).mono HB0.out.size, HB1.out.trans (ht.below HB1.out.size (by simp; omega))⟩

end Go.Proofs.YtlcbideongbmeaaGreat

namespace Go.Proofs.YtlcbideongbmeaaGreat
open Go.RowKit
set_option linter.unusedVariables false
set_option maxRecDepth 100000

theorem cells_at {w : World} {b : Nat} {T : TypeId} {cs : List Value} (hk : Bk w b T cs.toArray) {i : Nat} {v : Value} (h : cs[i]? = some v) : w.cell? ⟨b, i, none⟩ = some v := by
  have hk' : w.heap[b]? = some (.cells cs.toArray T) := hk
  simp [World.cell?, hk', h]

theorem des_two {w : World} {b : Nat} {T : TypeId} {m n : Dm} (hk : Bk w b T (m.cells ++ n.cells).toArray) (hm : m.Ok w) (hn : n.Ok w) : Des w (some ⟨b, 0, none⟩) [m, n] := by
  intro _
  refine ⟨b, 0, rfl, fun i x hi => ?_⟩
  have hl : m.cells.length = 12 := rfl
  match i, hi with
  | 0, hi =>
    simp at hi; subst hi
    refine ⟨fun t v ht => ?_, hm⟩
    have ht2 := (List.getElem?_eq_some_iff.1 ht).1
    rw [show 0 + 0 * 12 + t = t by omega]
    exact cells_at hk (by rw [List.getElem?_append_left ht2]; exact ht)
  | 1, hi =>
    simp at hi; subst hi
    refine ⟨fun t v ht => ?_, hn⟩
    rw [show 0 + 1 * 12 + t = 12 + t by omega]
    exact cells_at hk (by rw [List.getElem?_append_right (by omega), hl, Nat.add_sub_cancel_left]; exact ht)
  | n + 2, hi => simp at hi

theorem cat_list (a b : ByteArray) : (a ++ b).toList = a.toList ++ b.toList := by
  rw [ByteArray.toList_eq, ByteArray.toList_eq, ByteArray.toList_eq]
  simp

/-- A delta that came in. -/
structure InDk (M : Nat) (w : World) (d : De) (p : Option Addr) (n c : Nat) : Prop where
  right : InE M w p n c d.rt.l
  k1 : d.e.key.size ≤ 140737488351232
  k2 : d.key.size ≤ 140737488351232

section
variable {H : Type} {enc : TypeId × Value → H} {W : World} {fuel : Nat} {cs : List Value} {x : DataW H × List MemPlace}

theorem in_deltak {M : Nat} (hf : DataW.trod enc Tryz.prog W 0 (fun _ => true) true fuel 32 cs = some x)
    (hW : ∀ n ∈ x.1.weights Tryz.prog 32, n ≤ 140737488351232) (hB : ∀ y0 y1 y2 y3 z0 z1 z2 z3 elems spare, x.1 = .agg [y0, y1, y2, y3, .agg [z0, z1, z2, z3, .slice elems spare]] → elems.length + spare.length ≤ M ∧ ∀ y ∈ elems, ∀ k r, y = .agg (.lit (.string k) :: r) → k.length ≤ 140737488351232) :
    ∃ (d : De) (a : Option Addr) (len cap : Nat), cs = [.int .i64 d.k, .string d.e.key, .int .i64 d.e.s, .int .i64 d.e.g, .int .i64 d.e.c, .string d.key, .int .i64 d.pg, .bool d.rt.leaf, .string d.rt.lo, .string d.rt.hi, .int .i64 d.rt.r, .slice a len cap] ∧ InDk M W d a len cap := by
  obtain ⟨ys, n, -, rfl, hlen, hys, hall⟩ := DataW.trod_struct Tryz.underlying32 hf
  have eT : Tryz.prog.cellsOf 32 = 12 := by kernel_rfl
  rw [eT] at hlen
  obtain ⟨c0, c1, c2, c3, c4, c5, c6, c7, c8, c9, c10, c11, rfl⟩ := list12 hlen
  obtain ⟨y0, y1, y2, y3, y4, rfl⟩ := list5 (l := ys) hys
  have h0 : DataW.trod enc Tryz.prog W 0 (fun _ => true) true n 3 [c0] = some y0 := by
    have h : DataW.trod enc Tryz.prog W 0 (fun _ => true) true n 3 (List.take (Tryz.prog.cellsOf 3) (List.drop 0 [c0, c1, c2, c3, c4, c5, c6, c7, c8, c9, c10, c11])) = some y0 := hall 0 _ rfl
    rw [show Tryz.prog.cellsOf 3 = 1 by kernel_rfl] at h
    exact h
  have h1 : DataW.trod enc Tryz.prog W 0 (fun _ => true) true n 30 [c1, c2, c3, c4] = some y1 := by
    have h : DataW.trod enc Tryz.prog W 0 (fun _ => true) true n 30 (List.take (Tryz.prog.cellsOf 30) (List.drop 1 [c0, c1, c2, c3, c4, c5, c6, c7, c8, c9, c10, c11])) = some y1 := hall 1 _ rfl
    rw [show Tryz.prog.cellsOf 30 = 4 by kernel_rfl] at h
    exact h
  have h2 : DataW.trod enc Tryz.prog W 0 (fun _ => true) true n 9 [c5] = some y2 := by
    have h : DataW.trod enc Tryz.prog W 0 (fun _ => true) true n 9 (List.take (Tryz.prog.cellsOf 9) (List.drop 5 [c0, c1, c2, c3, c4, c5, c6, c7, c8, c9, c10, c11])) = some y2 := hall 2 _ rfl
    rw [show Tryz.prog.cellsOf 9 = 1 by kernel_rfl] at h
    exact h
  have h3 : DataW.trod enc Tryz.prog W 0 (fun _ => true) true n 3 [c6] = some y3 := by
    have h : DataW.trod enc Tryz.prog W 0 (fun _ => true) true n 3 (List.take (Tryz.prog.cellsOf 3) (List.drop 6 [c0, c1, c2, c3, c4, c5, c6, c7, c8, c9, c10, c11])) = some y3 := hall 3 _ rfl
    rw [show Tryz.prog.cellsOf 3 = 1 by kernel_rfl] at h
    exact h
  have h4 : DataW.trod enc Tryz.prog W 0 (fun _ => true) true n 24 [c7, c8, c9, c10, c11] = some y4 := by
    have h : DataW.trod enc Tryz.prog W 0 (fun _ => true) true n 24 (List.take (Tryz.prog.cellsOf 24) (List.drop 7 [c0, c1, c2, c3, c4, c5, c6, c7, c8, c9, c10, c11])) = some y4 := hall 4 _ rfl
    rw [show Tryz.prog.cellsOf 24 = 5 by kernel_rfl] at h
    exact h
  obtain ⟨v0, q0, _, _⟩ := DataW.trod_int Tryz.underlying3 h0
  obtain ⟨e, q1, re, hre⟩ := in_en h1
  obtain ⟨v2, q2, hv2, _⟩ := DataW.trod_string Tryz.underlying9 h2
  obtain ⟨v3, q3, _, _⟩ := DataW.trod_int Tryz.underlying3 h3
  obtain ⟨leaf, lo, hi, r, a, len, cap, l, q4, hl⟩ := in_page (M := M) h4 (fun z0 z1 z2 z3 elems spare he => hB y0.1 y1.1 y2.1 y3.1 z0 z1 z2 z3 elems spare (by simp [he]))
  have hin1 : e.key.data.toList.length ∈ DataW.weights Tryz.prog 30 y1.1 := by
    rw [hre, DataW.weights, Tryz.underlying30]
    simp [DataW.weightsEach, DataW.weights]
  have hin2 : v2.data.toList.length ∈ DataW.weights Tryz.prog 9 y2.1 := by
    rw [hv2]
    simp [DataW.weights]
  have hk1 : e.key.size ≤ 140737488351232 := by
    have := hW e.key.data.toList.length (by
      simp only [List.map_cons]
      rw [DataW.weights, Tryz.underlying32]
      simp only [DataW.weightsEach, List.map_cons, List.map_nil, List.mem_append]
      exact .inr (.inl hin1))
    simpa using this
  have hk2 : v2.size ≤ 140737488351232 := by
    have := hW v2.data.toList.length (by
      simp only [List.map_cons]
      rw [DataW.weights, Tryz.underlying32]
      simp only [DataW.weightsEach, List.map_cons, List.map_nil, List.mem_append]
      exact .inr (.inr (.inl hin2)))
    simpa using this
  simp only [List.cons.injEq, and_true] at q0 q1 q2 q3 q4
  obtain ⟨rfl, rfl, rfl, rfl, rfl⟩ := q4
  simp only [En.cells, List.cons.injEq, and_true] at q1
  obtain ⟨rfl, rfl, rfl, rfl⟩ := q1
  subst q0 q2 q3
  exact ⟨⟨v0, e, v2, v3, ⟨leaf, lo, hi, r, l⟩⟩, a, len, cap, rfl, ⟨hl, hk1, hk2⟩⟩

end
end Go.Proofs.YtlcbideongbmeaaGreat

namespace Go.Proofs.YtlcbideongbmeaaGreat
open Go.ChangeShapes Go.WideShapes Go.ChangeAt Go.RowKit Go.Sort
open Go.ChangeMaps (open_string shut_string)
set_option linter.unusedVariables false
set_option linter.unusedSimpArgs false
set_option maxRecDepth 100000

/-- Where a page is split, as it came in. -/
theorem in_cut {H : Type} {enc : TypeId × Value → H} {W : World} {fuel : Nat} {cs : List Value} {x : DataW H × List MemPlace} (hf : DataW.trod enc Tryz.prog W 0 (fun _ => true) true fuel 56 cs = some x) : ∃ (s : ByteArray) (i : Int) (k : ByteArray), cs = [.string s, .int .i64 i, .string k] := by
  obtain ⟨ys, n, -, rfl, hlen, hys, hall⟩ := DataW.trod_struct Tryz.underlying56 hf
  have eT : Tryz.prog.cellsOf 56 = 3 := by kernel_rfl
  rw [eT] at hlen
  obtain ⟨c0, c1, c2, rfl⟩ := list3 hlen
  obtain ⟨y0, y1, y2, rfl⟩ := list3 (l := ys) hys
  have h0 : DataW.trod enc Tryz.prog W 0 (fun _ => true) true n 9 [c0] = some y0 := by
    have h : DataW.trod enc Tryz.prog W 0 (fun _ => true) true n 9 (List.take (Tryz.prog.cellsOf 9) (List.drop 0 [c0, c1, c2])) = some y0 := hall 0 _ rfl
    rw [show Tryz.prog.cellsOf 9 = 1 by kernel_rfl] at h
    exact h
  have h1 : DataW.trod enc Tryz.prog W 0 (fun _ => true) true n 3 [c1] = some y1 := by
    have h : DataW.trod enc Tryz.prog W 0 (fun _ => true) true n 3 (List.take (Tryz.prog.cellsOf 3) (List.drop 1 [c0, c1, c2])) = some y1 := hall 1 _ rfl
    rw [show Tryz.prog.cellsOf 3 = 1 by kernel_rfl] at h
    exact h
  have h2 : DataW.trod enc Tryz.prog W 0 (fun _ => true) true n 9 [c2] = some y2 := by
    have h : DataW.trod enc Tryz.prog W 0 (fun _ => true) true n 9 (List.take (Tryz.prog.cellsOf 9) (List.drop 2 [c0, c1, c2])) = some y2 := hall 2 _ rfl
    rw [show Tryz.prog.cellsOf 9 = 1 by kernel_rfl] at h
    exact h
  obtain ⟨v0, q0, _, _⟩ := DataW.trod_string Tryz.underlying9 h0
  obtain ⟨v1, q1, _, _⟩ := DataW.trod_int Tryz.underlying3 h1
  obtain ⟨v2, q2, _, _⟩ := DataW.trod_string Tryz.underlying9 h2
  simp only [List.cons.injEq, and_true] at q0 q1 q2
  subst q0 q1 q2
  exact ⟨v0, v1, v2, rfl⟩

theorem eq_boolD (d : Nat) (x y : Bool) (w : World) : (Op.equalIn (d + 1) 4 (.bool x) (.bool y)).run Tryz.prog w = .ok (x == y) w := by
  simp [Op.equalIn, run_underlying Tryz.underlying4]

theorem eq_spD (m : Nat) (xk : ByteArray) (xs xg xc : Int) (xf : Bool) (xo : Int)
    (e0 : ∀ w, (Op.equalIn m 30 (.agg #[.string xk, .int .i64 xs, .int .i64 xg, .int .i64 xc]) (.agg #[.string xk, .int .i64 xs, .int .i64 xg, .int .i64 xc])).run Tryz.prog w = .ok true w)
    (e1 : ∀ w, (Op.equalIn m 4 (.bool xf) (.bool xf)).run Tryz.prog w = .ok true w) (e2 : ∀ w, (Op.equalIn m 3 (.int .i64 xo) (.int .i64 xo)).run Tryz.prog w = .ok true w) (w : World) :
    (Op.equalIn (m + 1) 44 (.agg #[.string xk, .int .i64 xs, .int .i64 xg, .int .i64 xc, .bool xf, .int .i64 xo]) (.agg #[.string xk, .int .i64 xs, .int .i64 xg, .int .i64 xc, .bool xf, .int .i64 xo])).run Tryz.prog w = .ok true w := by
  have p0 : ∀ w, (part 30 #[.string xk, .int .i64 xs, .int .i64 xg, .int .i64 xc, .bool xf, .int .i64 xo] 0).run Tryz.prog w = .ok (.agg #[.string xk, .int .i64 xs, .int .i64 xg, .int .i64 xc]) w := fun w => by kernel_rfl
  have p1 : ∀ w, (part 4 #[.string xk, .int .i64 xs, .int .i64 xg, .int .i64 xc, .bool xf, .int .i64 xo] 4).run Tryz.prog w = .ok (.bool xf) w := fun w => by kernel_rfl
  have p2 : ∀ w, (part 3 #[.string xk, .int .i64 xs, .int .i64 xg, .int .i64 xc, .bool xf, .int .i64 xo] 5).run Tryz.prog w = .ok (.int .i64 xo) w := fun w => by kernel_rfl
  have hs : Tryz.prog.stoodInHeld 44 = false := by kernel_rfl
  simp [Op.equalIn, run_underlying Tryz.underlying44, p0, p1, p2, e0, e1, e2, hs]
theorem eqIn_sp (xk : ByteArray) (xs xg xc : Int) (xf : Bool) (xo : Int) (w : World) : (Op.equalIn 10000 44 (.agg #[.string xk, .int .i64 xs, .int .i64 xg, .int .i64 xc, .bool xf, .int .i64 xo]) (.agg #[.string xk, .int .i64 xs, .int .i64 xg, .int .i64 xc, .bool xf, .int .i64 xo])).run Tryz.prog w = .ok true w :=
  eq_spD 9999 xk xs xg xc xf xo (fun w => by
    have := eq_enD 9998 (fun x y w => eq_intD 9997 x y w) (fun x y w => eq_strD 9997 x y w) (fun s g s' g' w => eq_hndD 9997 (fun x y w => eq_intD 9996 x y w) (fun x y w => eq_int64D 9996 x y w) s g s' g' w) ⟨xk, xs, xg, xc⟩ ⟨xk, xs, xg, xc⟩ w
    rw [(En.eqb_iff _ _).2 rfl] at this
    exact this) (fun w => by have := eq_boolD 9998 xf xf w; rw [beq_self_eq_true] at this; exact this) (fun w => by have := eq_intD 9998 xo xo w; rw [beq_self_eq_true] at this; exact this) w

set_option maxHeartbeats 16000000 in
theorem walkd_deltaSplits (pf : Bool) (plo phi : ByteArray) (pr : Int) (pp : Option Addr) (pn pc : Nat) (pl : List En) (sep : ByteArray) (id : Int) (key : ByteArray) (w : World) (hp : InE 3518437208780 w pp pn pc pl) :
    Calls Tryz.prog 7 #[.agg #[.bool pf, .string plo, .string phi, .int .i64 pr, .slice pp pn pc], .agg #[.string sep, .int .i64 id, .string key]] w fun e w' => e = .returned (.bool true) ∧ Below w.heap.size w w' := by
  have hr1 := hp.room
  have hA := fun (W : World) (h : Below w.heap.size w W) => apply_any ⟨pf, plo, phi, pr, pl⟩ (Dl.spl sep id) pp none pn pc 0 0 W hp.lenq (hp.ens.below h (Nat.le_refl _)) (by omega) hp.nil rfl (Ens.nil _ _) (by omega) (fun _ => ⟨rfl, rfl⟩)
  have hC := fun (W : World) (h : Below w.heap.size w W) => rcheck_any pf plo phi pr pp pn pc pl W hp.lenq (hp.ens.below h (Nat.le_refl _)) (by omega)
  have hL1 : (Dl.apply ⟨pf, plo, phi, pr, pl⟩ (Dl.spl sep id)).2 = 0 → ∀ (W : World) (b : Nat), Below w.heap.size w W → Bk W b 32 (⟨Dl.spl sep id, none, 0, 0⟩ : Dm).cells.toArray →
      Calls Tryz.prog 18 #[pgv pf plo phi pr pp pn pc, .string key, .slice (some ⟨b, 0, none⟩) 1 1] W fun e w' => e = .returned (.tuple #[spv (Dl.look ⟨pf, plo, phi, pr, pl⟩ key [Dl.spl sep id] (pl.filter fun e => Ky.lt e.key sep)).1.e (Dl.look ⟨pf, plo, phi, pr, pl⟩ key [Dl.spl sep id] (pl.filter fun e => Ky.lt e.key sep)).1.f (Dl.look ⟨pf, plo, phi, pr, pl⟩ key [Dl.spl sep id] (pl.filter fun e => Ky.lt e.key sep)).1.g, .int .i64 (Dl.look ⟨pf, plo, phi, pr, pl⟩ key [Dl.spl sep id] (pl.filter fun e => Ky.lt e.key sep)).2]) ∧ Below W.heap.size W w' := by
    intro h0 W b hW hk
    have hdes : Des W (some ⟨b, 0, none⟩) [⟨Dl.spl sep id, none, 0, 0⟩] := by
      intro _
      refine ⟨b, 0, rfl, fun i x hi => ?_⟩
      match i, hi with
      | 0, hi =>
        simp at hi; subst hi
        refine ⟨fun t v ht => ?_, lv_ok _ _ rfl⟩
        rw [show 0 + 0 * 12 + t = t by omega]
        exact cells_at hk ht
      | n + 1, hi => simp at hi
    have hel : entsL pl [Dl.spl sep id] = pl.filter fun e => Ky.lt e.key sep := rfl
    have hfl := List.length_filter_le (fun e : En => Ky.lt e.key sep) pl
    have hlq := hp.lenq
    refine look_any pf plo phi pr pp pn pc pl key (some ⟨b, 0, none⟩) 1 1 [⟨Dl.spl sep id, none, 0, 0⟩] _ W hp.lenq (hp.ens.below hW (Nat.le_refl _)) (by omega) rfl (by decide) hdes (fun _ _ W' hW' => ?_)
    have hWW : Below w.heap.size w W' := hW.trans (hW'.mono hW.size)
    have := entries_any pf plo phi pr pp pn pc pl (some ⟨b, 0, none⟩) 1 1 [⟨Dl.spl sep id, none, 0, 0⟩] W' hp.lenq (hp.ens.below hWW (Nat.le_refl _)) (fun h => (hp.nil h).1) rfl (hdes.below hW' (Nat.le_refl _)) ?_ ?_ ?_ ?_
    · refine this.mono ?_
      rintro e w' ⟨v, rfl, ho, hb⟩
      obtain ⟨q, c, rfl, he, -⟩ := ho.ens
      exact ⟨⟨q, _, c, rfl, rfl, he, by show (pl.filter fun e => Ky.lt e.key sep).length ≤ _; omega⟩, hb⟩
    · show (pl ++ rowsOf [Dl.spl sep id]).length ≤ _
      simp [rowsOf]
      omega
    · show (allTexts pl [Dl.spl sep id]).length ≤ _
      unfold allTexts
      simp [rowsOf, textsOf]
      omega
    · show (pl.filter fun e => Ky.lt e.key sep).length ≤ _
      omega
    · intro d hd _
      simp at hd
      rw [hd]
  have hL0 := fun (W : World) (h : Below w.heap.size w W) => look_any pf plo phi pr pp pn pc pl key none 0 0 [] pl W hp.lenq (hp.ens.below h (Nat.le_refl _)) (by omega) rfl (by decide) (fun h => absurd h (by decide)) (fun _ _ W' hW' => by
    have hWW : Below w.heap.size w W' := h.trans (hW'.mono h.size)
    have hlq := hp.lenq
    have := entries_any pf plo phi pr pp pn pc pl none 0 0 [] W' hp.lenq (hp.ens.below hWW (Nat.le_refl _)) (fun h => (hp.nil h).1) rfl (fun h => absurd h (by decide)) (by simp [rowsOf]; omega) (by simp [allTexts, rowsOf, textsOf]; omega) (by simp [entsL]; omega) (by simp)
    refine this.mono ?_
    rintro e w' ⟨v, rfl, ho, hb⟩
    obtain ⟨q, c, rfl, he, -⟩ := ho.ens
    exact ⟨⟨q, _, c, rfl, rfl, he, by show pl.length ≤ _; omega⟩, hb⟩)
  simp only [List.map_nil] at hL0
  have hRt := fun h0 h1 h2 => Dl.look_right (g := ⟨pf, plo, phi, pr, pl⟩) (key := key) (sep := sep) (id := id) h0 h1 h2 (pl.filter fun e => Ky.lt e.key sep)
  have hLt := fun hm h0 h1 => Dl.look_left (g := ⟨pf, plo, phi, pr, pl⟩) (key := key) (sep := sep) (id := id) hm h0 h1
  have hsp := fun h0 => Dl.spl_ok (g := ⟨pf, plo, phi, pr, pl⟩) (sep := sep) (id := id) h0
  generalize Dl.apply ⟨pf, plo, phi, pr, pl⟩ (Dl.spl sep id) = out at hA hL1 hRt hLt hsp
  generalize Dl.look ⟨pf, plo, phi, pr, pl⟩ key [Dl.spl sep id] (pl.filter fun e => Ky.lt e.key sep) = X at hL1 hRt hLt
  generalize Dl.look ⟨pf, plo, phi, pr, pl⟩ key [] pl = Y at hL0 hLt
  obtain ⟨⟨Gf, Glo, Ghi, Gr, Gl⟩, kk⟩ := out
  obtain ⟨⟨⟨xk, xs, xg, xc⟩, xf, xo⟩, xe⟩ := X
  simp only at hA hL1 hRt hLt hsp
  have HA : Hid (∀ W, Below w.heap.size w W → Calls Tryz.prog 13 #[pgv pf plo phi pr pp pn pc, .agg #[.int .i64 3, .string ⟨#[]⟩, .int .i64 0, .int .i64 0, .int .i64 0, .string sep, .int .i64 id, .bool false, .string ⟨#[]⟩, .string ⟨#[]⟩, .int .i64 0, .slice none 0 0]] W fun e w' => ∃ v, e = .returned (.tuple #[v, .int .i64 kk]) ∧ PgAt w' W.heap.size v ⟨Gf, Glo, Ghi, Gr, Gl⟩ ∧ Below W.heap.size W w') := hA
  have HCK : Hid (∀ W, Below w.heap.size w W → Calls Tryz.prog 21 #[pgv pf plo phi pr pp pn pc] W fun e w' => e = .returned (.int .i64 (if Pg.may pf ⟨plo, phi⟩ pr pl then 0 else 70)) ∧ Below W.heap.size W w') := hC
  have HL1 : Hid (kk = 0 → ∀ (W : World) (b : Nat), Below w.heap.size w W → Bk W b 32 #[.int .i64 3, .string ⟨#[]⟩, .int .i64 0, .int .i64 0, .int .i64 0, .string sep, .int .i64 id, .bool false, .string ⟨#[]⟩, .string ⟨#[]⟩, .int .i64 0, .slice none 0 0] → Calls Tryz.prog 18 #[pgv pf plo phi pr pp pn pc, .string key, .slice (some ⟨b, 0, none⟩) 1 1] W fun e w' => e = .returned (.tuple #[.agg #[.string xk, .int .i64 xs, .int .i64 xg, .int .i64 xc, .bool xf, .int .i64 xo], .int .i64 xe]) ∧ Below W.heap.size W w') := hL1
  have HL0 : Hid _ := hL0
  have HRT : Hid _ := hRt
  have HLT : Hid _ := hLt
  have HSP : Hid _ := hsp
  clear hA hC hL1 hL0 hRt hLt hsp hp hr1
  obtain ⟨w0, hw0⟩ : ∃ w0, (w.alloc (.cells #[.bool pf, .string plo, .string phi, .int .i64 pr, .slice pp pn pc] 24)).alloc (.cells #[.string sep, .int .i64 id, .string key] 56) = w0 := ⟨_, rfl⟩
  have HB0 : Hid (Below w.heap.size w w0) := by rw [← hw0]; exact ((Below.refl _ _).alloc (Nat.le_refl _) _).alloc (by simp) _
  have HP0 : Hid (Bk w0 w.heap.size 24 #[.bool pf, .string plo, .string phi, .int .i64 pr, .slice pp pn pc]) := by rw [← hw0]; exact (Bk.new _ _ _).alloc _
  have HC0 : Hid (Bk w0 (w.heap.size + 1) 56 #[.string sep, .int .i64 id, .string key]) := by rw [← hw0]; exact Bk.new1 _ _ _ _
  go_enter Tryz.func7, Tryz.ntmps7
  have y0 : w0.cell? ⟨w.heap.size + 1, 0, none⟩ = some (.string sep) := HC0.out.cell 0
  have y1 : w0.cell? ⟨w.heap.size + 1, 1, none⟩ = some (.int .i64 id) := HC0.out.cell 1
  have y2 : w0.cell? ⟨w.heap.size + 1, 2, none⟩ = some (.string key) := HC0.out.cell 2
  go_wp2_with fail
  go_quiet (fail)
  have HB1' : Hid (Below w.heap.size w (w0.drewN nq)) := below_dn HB0.out nq
  have HP1' : Hid (Bk (w0.drewN nq) w.heap.size 24 #[.bool pf, .string plo, .string phi, .int .i64 pr, .slice pp pn pc]) := HP0.out
  clear y0 y1 y2
  clear hw0 HB0 HP0 HC0
  generalize w0.drewN nq = w1 at HB1' HP1' ⊢
  have HB2 : Hid (Below w.heap.size w (w1.alloc (.cells #[.int .i64 3, .string ⟨#[]⟩, .int .i64 0, .int .i64 0, .int .i64 0, .string sep, .int .i64 id, .bool false, .string ⟨#[]⟩, .string ⟨#[]⟩, .int .i64 0, .slice none 0 0] 32))) := HB1'.out.alloc HB1'.out.size _
  have HP2 : Hid (Bk (w1.alloc (.cells #[.int .i64 3, .string ⟨#[]⟩, .int .i64 0, .int .i64 0, .int .i64 0, .string sep, .int .i64 id, .bool false, .string ⟨#[]⟩, .string ⟨#[]⟩, .int .i64 0, .slice none 0 0] 32)) w.heap.size 24 #[.bool pf, .string plo, .string phi, .int .i64 pr, .slice pp pn pc]) := HP1'.out.alloc _
  have HD2 : Hid (Bk (w1.alloc (.cells #[.int .i64 3, .string ⟨#[]⟩, .int .i64 0, .int .i64 0, .int .i64 0, .string sep, .int .i64 id, .bool false, .string ⟨#[]⟩, .string ⟨#[]⟩, .int .i64 0, .slice none 0 0] 32)) w1.heap.size 32 #[.int .i64 3, .string ⟨#[]⟩, .int .i64 0, .int .i64 0, .int .i64 0, .string sep, .int .i64 id, .bool false, .string ⟨#[]⟩, .string ⟨#[]⟩, .int .i64 0, .slice none 0 0]) := Bk.new _ _ _
  have hne1 : w.heap.size ≠ w1.heap.size := by have := HP1'.out.lt; omega
  have a0 : (w1.alloc (.cells #[.int .i64 3, .string ⟨#[]⟩, .int .i64 0, .int .i64 0, .int .i64 0, .string sep, .int .i64 id, .bool false, .string ⟨#[]⟩, .string ⟨#[]⟩, .int .i64 0, .slice none 0 0] 32)).cell? ⟨w.heap.size, 0, none⟩ = some (.bool pf) := HP2.out.cell 0
  have a1 : (w1.alloc (.cells #[.int .i64 3, .string ⟨#[]⟩, .int .i64 0, .int .i64 0, .int .i64 0, .string sep, .int .i64 id, .bool false, .string ⟨#[]⟩, .string ⟨#[]⟩, .int .i64 0, .slice none 0 0] 32)).cell? ⟨w.heap.size, 1, none⟩ = some (.string plo) := HP2.out.cell 1
  have a2 : (w1.alloc (.cells #[.int .i64 3, .string ⟨#[]⟩, .int .i64 0, .int .i64 0, .int .i64 0, .string sep, .int .i64 id, .bool false, .string ⟨#[]⟩, .string ⟨#[]⟩, .int .i64 0, .slice none 0 0] 32)).cell? ⟨w.heap.size, 2, none⟩ = some (.string phi) := HP2.out.cell 2
  have a3 : (w1.alloc (.cells #[.int .i64 3, .string ⟨#[]⟩, .int .i64 0, .int .i64 0, .int .i64 0, .string sep, .int .i64 id, .bool false, .string ⟨#[]⟩, .string ⟨#[]⟩, .int .i64 0, .slice none 0 0] 32)).cell? ⟨w.heap.size, 3, none⟩ = some (.int .i64 pr) := HP2.out.cell 3
  have a4 : (w1.alloc (.cells #[.int .i64 3, .string ⟨#[]⟩, .int .i64 0, .int .i64 0, .int .i64 0, .string sep, .int .i64 id, .bool false, .string ⟨#[]⟩, .string ⟨#[]⟩, .int .i64 0, .slice none 0 0] 32)).cell? ⟨w.heap.size, 4, none⟩ = some (.slice pp pn pc) := HP2.out.cell 4
  have d0 : (w1.alloc (.cells #[.int .i64 3, .string ⟨#[]⟩, .int .i64 0, .int .i64 0, .int .i64 0, .string sep, .int .i64 id, .bool false, .string ⟨#[]⟩, .string ⟨#[]⟩, .int .i64 0, .slice none 0 0] 32)).cell? ⟨w1.heap.size, 0, none⟩ = some (.int .i64 3) := HD2.out.cell 0
  have d1 : (w1.alloc (.cells #[.int .i64 3, .string ⟨#[]⟩, .int .i64 0, .int .i64 0, .int .i64 0, .string sep, .int .i64 id, .bool false, .string ⟨#[]⟩, .string ⟨#[]⟩, .int .i64 0, .slice none 0 0] 32)).cell? ⟨w1.heap.size, 1, none⟩ = some (.string ⟨#[]⟩) := HD2.out.cell 1
  have d2 : (w1.alloc (.cells #[.int .i64 3, .string ⟨#[]⟩, .int .i64 0, .int .i64 0, .int .i64 0, .string sep, .int .i64 id, .bool false, .string ⟨#[]⟩, .string ⟨#[]⟩, .int .i64 0, .slice none 0 0] 32)).cell? ⟨w1.heap.size, 2, none⟩ = some (.int .i64 0) := HD2.out.cell 2
  have d3 : (w1.alloc (.cells #[.int .i64 3, .string ⟨#[]⟩, .int .i64 0, .int .i64 0, .int .i64 0, .string sep, .int .i64 id, .bool false, .string ⟨#[]⟩, .string ⟨#[]⟩, .int .i64 0, .slice none 0 0] 32)).cell? ⟨w1.heap.size, 3, none⟩ = some (.int .i64 0) := HD2.out.cell 3
  have d4 : (w1.alloc (.cells #[.int .i64 3, .string ⟨#[]⟩, .int .i64 0, .int .i64 0, .int .i64 0, .string sep, .int .i64 id, .bool false, .string ⟨#[]⟩, .string ⟨#[]⟩, .int .i64 0, .slice none 0 0] 32)).cell? ⟨w1.heap.size, 4, none⟩ = some (.int .i64 0) := HD2.out.cell 4
  have d5 : (w1.alloc (.cells #[.int .i64 3, .string ⟨#[]⟩, .int .i64 0, .int .i64 0, .int .i64 0, .string sep, .int .i64 id, .bool false, .string ⟨#[]⟩, .string ⟨#[]⟩, .int .i64 0, .slice none 0 0] 32)).cell? ⟨w1.heap.size, 5, none⟩ = some (.string sep) := HD2.out.cell 5
  have d6 : (w1.alloc (.cells #[.int .i64 3, .string ⟨#[]⟩, .int .i64 0, .int .i64 0, .int .i64 0, .string sep, .int .i64 id, .bool false, .string ⟨#[]⟩, .string ⟨#[]⟩, .int .i64 0, .slice none 0 0] 32)).cell? ⟨w1.heap.size, 6, none⟩ = some (.int .i64 id) := HD2.out.cell 6
  have d7 : (w1.alloc (.cells #[.int .i64 3, .string ⟨#[]⟩, .int .i64 0, .int .i64 0, .int .i64 0, .string sep, .int .i64 id, .bool false, .string ⟨#[]⟩, .string ⟨#[]⟩, .int .i64 0, .slice none 0 0] 32)).cell? ⟨w1.heap.size, 7, none⟩ = some (.bool false) := HD2.out.cell 7
  have d8 : (w1.alloc (.cells #[.int .i64 3, .string ⟨#[]⟩, .int .i64 0, .int .i64 0, .int .i64 0, .string sep, .int .i64 id, .bool false, .string ⟨#[]⟩, .string ⟨#[]⟩, .int .i64 0, .slice none 0 0] 32)).cell? ⟨w1.heap.size, 8, none⟩ = some (.string ⟨#[]⟩) := HD2.out.cell 8
  have d9 : (w1.alloc (.cells #[.int .i64 3, .string ⟨#[]⟩, .int .i64 0, .int .i64 0, .int .i64 0, .string sep, .int .i64 id, .bool false, .string ⟨#[]⟩, .string ⟨#[]⟩, .int .i64 0, .slice none 0 0] 32)).cell? ⟨w1.heap.size, 9, none⟩ = some (.string ⟨#[]⟩) := HD2.out.cell 9
  have d10 : (w1.alloc (.cells #[.int .i64 3, .string ⟨#[]⟩, .int .i64 0, .int .i64 0, .int .i64 0, .string sep, .int .i64 id, .bool false, .string ⟨#[]⟩, .string ⟨#[]⟩, .int .i64 0, .slice none 0 0] 32)).cell? ⟨w1.heap.size, 10, none⟩ = some (.int .i64 0) := HD2.out.cell 10
  have d11 : (w1.alloc (.cells #[.int .i64 3, .string ⟨#[]⟩, .int .i64 0, .int .i64 0, .int .i64 0, .string sep, .int .i64 id, .bool false, .string ⟨#[]⟩, .string ⟨#[]⟩, .int .i64 0, .slice none 0 0] 32)).cell? ⟨w1.heap.size, 11, none⟩ = some (.slice none 0 0) := HD2.out.cell 11
  go_wp2_with fail
  refine (HA.out _ HB2.out).mono ?_
  rintro e w3 ⟨v, rfl, hv, hb⟩
  clear a0 a1 a2 a3 a4
  clear d0 d1 d2 d3 d4 d5 d6 d7 d8 d9 d10 d11
  obtain ⟨gp, gc, rfl, -⟩ := hv
  simp only
  generalize Gl.length = Gn
  have HB3 : Hid (Below w.heap.size w w3) := HB2.out.trans (hb.mono HB2.out.size)
  have HP3 : Hid (Bk w3 w.heap.size 24 #[.bool pf, .string plo, .string phi, .int .i64 pr, .slice pp pn pc]) := HP2.out.below hb HP2.out.lt
  have HD3 : Hid (Bk w3 w1.heap.size 32 #[.int .i64 3, .string ⟨#[]⟩, .int .i64 0, .int .i64 0, .int .i64 0, .string sep, .int .i64 id, .bool false, .string ⟨#[]⟩, .string ⟨#[]⟩, .int .i64 0, .slice none 0 0]) := HD2.out.below hb HD2.out.lt
  clear hb HB2 HP2 HD2 hne1 HB1' HP1' HA
  have HB4 : Hid (Below w.heap.size w (w3.alloc (.cells #[.bool Gf, .string Glo, .string Ghi, .int .i64 Gr, .slice gp Gn gc] 24))) := HB3.out.alloc HB3.out.size _
  have HP4 : Hid (Bk (w3.alloc (.cells #[.bool Gf, .string Glo, .string Ghi, .int .i64 Gr, .slice gp Gn gc] 24)) w.heap.size 24 #[.bool pf, .string plo, .string phi, .int .i64 pr, .slice pp pn pc]) := HP3.out.alloc _
  have HD4 : Hid (Bk (w3.alloc (.cells #[.bool Gf, .string Glo, .string Ghi, .int .i64 Gr, .slice gp Gn gc] 24)) w1.heap.size 32 #[.int .i64 3, .string ⟨#[]⟩, .int .i64 0, .int .i64 0, .int .i64 0, .string sep, .int .i64 id, .bool false, .string ⟨#[]⟩, .string ⟨#[]⟩, .int .i64 0, .slice none 0 0]) := HD3.out.alloc _
  have HQ4 : Hid (Bk (w3.alloc (.cells #[.bool Gf, .string Glo, .string Ghi, .int .i64 Gr, .slice gp Gn gc] 24)) w3.heap.size 24 #[.bool Gf, .string Glo, .string Ghi, .int .i64 Gr, .slice gp Gn gc]) := Bk.new _ _ _
  have hne1 : w.heap.size ≠ w3.heap.size := by have := HP3.out.lt; omega
  have a0 : (w3.alloc (.cells #[.bool Gf, .string Glo, .string Ghi, .int .i64 Gr, .slice gp Gn gc] 24)).cell? ⟨w.heap.size, 0, none⟩ = some (.bool pf) := HP4.out.cell 0
  have a1 : (w3.alloc (.cells #[.bool Gf, .string Glo, .string Ghi, .int .i64 Gr, .slice gp Gn gc] 24)).cell? ⟨w.heap.size, 1, none⟩ = some (.string plo) := HP4.out.cell 1
  have a2 : (w3.alloc (.cells #[.bool Gf, .string Glo, .string Ghi, .int .i64 Gr, .slice gp Gn gc] 24)).cell? ⟨w.heap.size, 2, none⟩ = some (.string phi) := HP4.out.cell 2
  have a3 : (w3.alloc (.cells #[.bool Gf, .string Glo, .string Ghi, .int .i64 Gr, .slice gp Gn gc] 24)).cell? ⟨w.heap.size, 3, none⟩ = some (.int .i64 pr) := HP4.out.cell 3
  have a4 : (w3.alloc (.cells #[.bool Gf, .string Glo, .string Ghi, .int .i64 Gr, .slice gp Gn gc] 24)).cell? ⟨w.heap.size, 4, none⟩ = some (.slice pp pn pc) := HP4.out.cell 4
  by_cases hkk : kk = 0
  · subst hkk
    have HLK := HL1.out rfl
    have HLK1 : Hid _ := HLK
    have HRT1 := HRT.out rfl
    have HSP1 := (HSP.out rfl).2.2.2.2
    clear HL1 HRT HSP HLK
    simp only [Prod.mk.injEq, Pp.mk.injEq, and_true] at HSP1
    have HSP2 : Hid (Glo = plo ∧ Ghi = sep) := ⟨HSP1.2.1, HSP1.2.2.1⟩
    clear HSP1
    have HRT2 : Hid _ := HRT1
    clear HRT1
    go_wp2_with fail
    refine (HCK.out _ HB4.out).mono ?_
    rintro e w5 ⟨rfl, hb⟩
    clear a0 a1 a2 a3 a4
    clear hne1
    have HB5 : Hid (Below w.heap.size w w5) := HB4.out.trans (hb.mono HB4.out.size)
    have HP5 : Hid (Bk w5 w.heap.size 24 #[.bool pf, .string plo, .string phi, .int .i64 pr, .slice pp pn pc]) := HP4.out.below hb HP4.out.lt
    have HD5 : Hid (Bk w5 w1.heap.size 32 #[.int .i64 3, .string ⟨#[]⟩, .int .i64 0, .int .i64 0, .int .i64 0, .string sep, .int .i64 id, .bool false, .string ⟨#[]⟩, .string ⟨#[]⟩, .int .i64 0, .slice none 0 0]) := HD4.out.below hb HD4.out.lt
    have HQ5 : Hid (Bk w5 w3.heap.size 24 #[.bool Gf, .string Glo, .string Ghi, .int .i64 Gr, .slice gp Gn gc]) := HQ4.out.below hb HQ4.out.lt
    clear hb HB4 HP4 HD4 HQ4
    cases hm : Pg.may pf ⟨plo, phi⟩ pr pl with
    | false =>
      clear HLK1 HRT2 HLT HL0 HCK
      simp only [Bool.false_eq_true, if_false]
      go_wp2_with fail
      refine (live_any _).mono ?_
      rintro e wl ⟨rfl, hbl⟩
      have hBl : Below w.heap.size w wl := HB5.out.trans (hbl.mono HB5.out.size)
      go_wp2
      go_ret
      exact ⟨rfl, hBl⟩
    | true =>
    have HLT1 := HLT.out hm (by first | rfl | trivial)
    have HLT2 : Hid _ := HLT1
    clear HLT HLT1 hm HCK
    simp only [if_true]
    go_wp2_with fail
    refine (live_any _).mono ?_
    rintro e w6 ⟨rfl, hb⟩
    have HB6 : Hid (Below w.heap.size w w6) := HB5.out.trans (hb.mono HB5.out.size)
    have HP6 : Hid (Bk w6 w.heap.size 24 #[.bool pf, .string plo, .string phi, .int .i64 pr, .slice pp pn pc]) := HP5.out.below hb HP5.out.lt
    have HD6 : Hid (Bk w6 w1.heap.size 32 #[.int .i64 3, .string ⟨#[]⟩, .int .i64 0, .int .i64 0, .int .i64 0, .string sep, .int .i64 id, .bool false, .string ⟨#[]⟩, .string ⟨#[]⟩, .int .i64 0, .slice none 0 0]) := HD5.out.below hb HD5.out.lt
    have HQ6 : Hid (Bk w6 w3.heap.size 24 #[.bool Gf, .string Glo, .string Ghi, .int .i64 Gr, .slice gp Gn gc]) := HQ5.out.below hb HQ5.out.lt
    clear hb HB5 HP5 HD5 HQ5
    have HB7 : Hid (Below w.heap.size w (w6.alloc (.cells #[.int .i64 3, .string ⟨#[]⟩, .int .i64 0, .int .i64 0, .int .i64 0, .string sep, .int .i64 id, .bool false, .string ⟨#[]⟩, .string ⟨#[]⟩, .int .i64 0, .slice none 0 0] 32))) := HB6.out.alloc HB6.out.size _
    have HP7 : Hid (Bk (w6.alloc (.cells #[.int .i64 3, .string ⟨#[]⟩, .int .i64 0, .int .i64 0, .int .i64 0, .string sep, .int .i64 id, .bool false, .string ⟨#[]⟩, .string ⟨#[]⟩, .int .i64 0, .slice none 0 0] 32)) w.heap.size 24 #[.bool pf, .string plo, .string phi, .int .i64 pr, .slice pp pn pc]) := HP6.out.alloc _
    have HD7 : Hid (Bk (w6.alloc (.cells #[.int .i64 3, .string ⟨#[]⟩, .int .i64 0, .int .i64 0, .int .i64 0, .string sep, .int .i64 id, .bool false, .string ⟨#[]⟩, .string ⟨#[]⟩, .int .i64 0, .slice none 0 0] 32)) w1.heap.size 32 #[.int .i64 3, .string ⟨#[]⟩, .int .i64 0, .int .i64 0, .int .i64 0, .string sep, .int .i64 id, .bool false, .string ⟨#[]⟩, .string ⟨#[]⟩, .int .i64 0, .slice none 0 0]) := HD6.out.alloc _
    have HQ7 : Hid (Bk (w6.alloc (.cells #[.int .i64 3, .string ⟨#[]⟩, .int .i64 0, .int .i64 0, .int .i64 0, .string sep, .int .i64 id, .bool false, .string ⟨#[]⟩, .string ⟨#[]⟩, .int .i64 0, .slice none 0 0] 32)) w3.heap.size 24 #[.bool Gf, .string Glo, .string Ghi, .int .i64 Gr, .slice gp Gn gc]) := HQ6.out.alloc _
    have HE7 : Hid (Bk (w6.alloc (.cells #[.int .i64 3, .string ⟨#[]⟩, .int .i64 0, .int .i64 0, .int .i64 0, .string sep, .int .i64 id, .bool false, .string ⟨#[]⟩, .string ⟨#[]⟩, .int .i64 0, .slice none 0 0] 32)) w6.heap.size 32 #[.int .i64 3, .string ⟨#[]⟩, .int .i64 0, .int .i64 0, .int .i64 0, .string sep, .int .i64 id, .bool false, .string ⟨#[]⟩, .string ⟨#[]⟩, .int .i64 0, .slice none 0 0]) := Bk.new _ _ _
    have a0 : w6.cell? ⟨w.heap.size, 0, none⟩ = some (.bool pf) := HP6.out.cell 0
    have a1 : w6.cell? ⟨w.heap.size, 1, none⟩ = some (.string plo) := HP6.out.cell 1
    have a2 : w6.cell? ⟨w.heap.size, 2, none⟩ = some (.string phi) := HP6.out.cell 2
    have a3 : w6.cell? ⟨w.heap.size, 3, none⟩ = some (.int .i64 pr) := HP6.out.cell 3
    have a4 : w6.cell? ⟨w.heap.size, 4, none⟩ = some (.slice pp pn pc) := HP6.out.cell 4
    have d0 : w6.cell? ⟨w1.heap.size, 0, none⟩ = some (.int .i64 3) := HD6.out.cell 0
    have d1 : w6.cell? ⟨w1.heap.size, 1, none⟩ = some (.string ⟨#[]⟩) := HD6.out.cell 1
    have d2 : w6.cell? ⟨w1.heap.size, 2, none⟩ = some (.int .i64 0) := HD6.out.cell 2
    have d3 : w6.cell? ⟨w1.heap.size, 3, none⟩ = some (.int .i64 0) := HD6.out.cell 3
    have d4 : w6.cell? ⟨w1.heap.size, 4, none⟩ = some (.int .i64 0) := HD6.out.cell 4
    have d5 : w6.cell? ⟨w1.heap.size, 5, none⟩ = some (.string sep) := HD6.out.cell 5
    have d6 : w6.cell? ⟨w1.heap.size, 6, none⟩ = some (.int .i64 id) := HD6.out.cell 6
    have d7 : w6.cell? ⟨w1.heap.size, 7, none⟩ = some (.bool false) := HD6.out.cell 7
    have d8 : w6.cell? ⟨w1.heap.size, 8, none⟩ = some (.string ⟨#[]⟩) := HD6.out.cell 8
    have d9 : w6.cell? ⟨w1.heap.size, 9, none⟩ = some (.string ⟨#[]⟩) := HD6.out.cell 9
    have d10 : w6.cell? ⟨w1.heap.size, 10, none⟩ = some (.int .i64 0) := HD6.out.cell 10
    have d11 : w6.cell? ⟨w1.heap.size, 11, none⟩ = some (.slice none 0 0) := HD6.out.cell 11
    go_wp2_with fail
    refine (HLK1.out _ _ HB7.out HE7.out).mono ?_
    rintro e w8 ⟨rfl, hb⟩
    clear a0 a1 a2 a3 a4
    clear d0 d1 d2 d3 d4 d5 d6 d7 d8 d9 d10 d11
    clear HE7 HB6 HP6 HD6 HQ6 HLK1
    have HB8 : Hid (Below w.heap.size w w8) := HB7.out.trans (hb.mono HB7.out.size)
    have HP8 : Hid (Bk w8 w.heap.size 24 #[.bool pf, .string plo, .string phi, .int .i64 pr, .slice pp pn pc]) := HP7.out.below hb HP7.out.lt
    have HD8 : Hid (Bk w8 w1.heap.size 32 #[.int .i64 3, .string ⟨#[]⟩, .int .i64 0, .int .i64 0, .int .i64 0, .string sep, .int .i64 id, .bool false, .string ⟨#[]⟩, .string ⟨#[]⟩, .int .i64 0, .slice none 0 0]) := HD7.out.below hb HD7.out.lt
    have HQ8 : Hid (Bk w8 w3.heap.size 24 #[.bool Gf, .string Glo, .string Ghi, .int .i64 Gr, .slice gp Gn gc]) := HQ7.out.below hb HQ7.out.lt
    clear hb HB7 HP7 HD7 HQ7
    have HB9 : Hid (Below w.heap.size w (w8.alloc (.cells #[.string xk, .int .i64 xs, .int .i64 xg, .int .i64 xc, .bool xf, .int .i64 xo] 44))) := HB8.out.alloc HB8.out.size _
    have HP9 : Hid (Bk (w8.alloc (.cells #[.string xk, .int .i64 xs, .int .i64 xg, .int .i64 xc, .bool xf, .int .i64 xo] 44)) w.heap.size 24 #[.bool pf, .string plo, .string phi, .int .i64 pr, .slice pp pn pc]) := HP8.out.alloc _
    have HQ9 : Hid (Bk (w8.alloc (.cells #[.string xk, .int .i64 xs, .int .i64 xg, .int .i64 xc, .bool xf, .int .i64 xo] 44)) w3.heap.size 24 #[.bool Gf, .string Glo, .string Ghi, .int .i64 Gr, .slice gp Gn gc]) := HQ8.out.alloc _
    have HX9 : Hid (Bk (w8.alloc (.cells #[.string xk, .int .i64 xs, .int .i64 xg, .int .i64 xc, .bool xf, .int .i64 xo] 44)) w8.heap.size 44 #[.string xk, .int .i64 xs, .int .i64 xg, .int .i64 xc, .bool xf, .int .i64 xo]) := Bk.new _ _ _
    have hne1 : w.heap.size ≠ w8.heap.size := by have := HP8.out.lt; omega
    have hne2 : w3.heap.size ≠ w8.heap.size := by have := HQ8.out.lt; omega
    have heq := eqIn_sp xk xs xg xc xf xo
    have a0 : (w8.alloc (.cells #[.string xk, .int .i64 xs, .int .i64 xg, .int .i64 xc, .bool xf, .int .i64 xo] 44)).cell? ⟨w.heap.size, 0, none⟩ = some (.bool pf) := HP9.out.cell 0
    have a1 : (w8.alloc (.cells #[.string xk, .int .i64 xs, .int .i64 xg, .int .i64 xc, .bool xf, .int .i64 xo] 44)).cell? ⟨w.heap.size, 1, none⟩ = some (.string plo) := HP9.out.cell 1
    have a2 : (w8.alloc (.cells #[.string xk, .int .i64 xs, .int .i64 xg, .int .i64 xc, .bool xf, .int .i64 xo] 44)).cell? ⟨w.heap.size, 2, none⟩ = some (.string phi) := HP9.out.cell 2
    have a3 : (w8.alloc (.cells #[.string xk, .int .i64 xs, .int .i64 xg, .int .i64 xc, .bool xf, .int .i64 xo] 44)).cell? ⟨w.heap.size, 3, none⟩ = some (.int .i64 pr) := HP9.out.cell 3
    have a4 : (w8.alloc (.cells #[.string xk, .int .i64 xs, .int .i64 xg, .int .i64 xc, .bool xf, .int .i64 xo] 44)).cell? ⟨w.heap.size, 4, none⟩ = some (.slice pp pn pc) := HP9.out.cell 4
    have q0 : (w8.alloc (.cells #[.string xk, .int .i64 xs, .int .i64 xg, .int .i64 xc, .bool xf, .int .i64 xo] 44)).cell? ⟨w3.heap.size, 0, none⟩ = some (.bool Gf) := HQ9.out.cell 0
    have q1 : (w8.alloc (.cells #[.string xk, .int .i64 xs, .int .i64 xg, .int .i64 xc, .bool xf, .int .i64 xo] 44)).cell? ⟨w3.heap.size, 1, none⟩ = some (.string Glo) := HQ9.out.cell 1
    have q2 : (w8.alloc (.cells #[.string xk, .int .i64 xs, .int .i64 xg, .int .i64 xc, .bool xf, .int .i64 xo] 44)).cell? ⟨w3.heap.size, 2, none⟩ = some (.string Ghi) := HQ9.out.cell 2
    have q3 : (w8.alloc (.cells #[.string xk, .int .i64 xs, .int .i64 xg, .int .i64 xc, .bool xf, .int .i64 xo] 44)).cell? ⟨w3.heap.size, 3, none⟩ = some (.int .i64 Gr) := HQ9.out.cell 3
    have q4 : (w8.alloc (.cells #[.string xk, .int .i64 xs, .int .i64 xg, .int .i64 xc, .bool xf, .int .i64 xo] 44)).cell? ⟨w3.heap.size, 4, none⟩ = some (.slice gp Gn gc) := HQ9.out.cell 4
    have x0 : (w8.alloc (.cells #[.string xk, .int .i64 xs, .int .i64 xg, .int .i64 xc, .bool xf, .int .i64 xo] 44)).cell? ⟨w8.heap.size, 0, none⟩ = some (.string xk) := HX9.out.cell 0
    have x1 : (w8.alloc (.cells #[.string xk, .int .i64 xs, .int .i64 xg, .int .i64 xc, .bool xf, .int .i64 xo] 44)).cell? ⟨w8.heap.size, 1, none⟩ = some (.int .i64 xs) := HX9.out.cell 1
    have x2 : (w8.alloc (.cells #[.string xk, .int .i64 xs, .int .i64 xg, .int .i64 xc, .bool xf, .int .i64 xo] 44)).cell? ⟨w8.heap.size, 2, none⟩ = some (.int .i64 xg) := HX9.out.cell 2
    have x3 : (w8.alloc (.cells #[.string xk, .int .i64 xs, .int .i64 xg, .int .i64 xc, .bool xf, .int .i64 xo] 44)).cell? ⟨w8.heap.size, 3, none⟩ = some (.int .i64 xc) := HX9.out.cell 3
    have x4 : (w8.alloc (.cells #[.string xk, .int .i64 xs, .int .i64 xg, .int .i64 xc, .bool xf, .int .i64 xo] 44)).cell? ⟨w8.heap.size, 4, none⟩ = some (.bool xf) := HX9.out.cell 4
    have x5 : (w8.alloc (.cells #[.string xk, .int .i64 xs, .int .i64 xg, .int .i64 xc, .bool xf, .int .i64 xo] 44)).cell? ⟨w8.heap.size, 5, none⟩ = some (.int .i64 xo) := HX9.out.cell 5
    cases h1 : Ky.lt key sep with
    | false =>
      have h1' : Op.bytesLess key.toList sep.toList = false := h1
      cases h2 : Ky.lt key plo with
      | false =>
        have h2' : Op.bytesLess key.toList plo.toList = false := h2
        obtain ⟨hx, hin⟩ := HRT2.out h1 h2
        simp only [Prod.mk.injEq, Sp.mk.injEq, En.mk.injEq, En.zero] at hx
        obtain ⟨⟨⟨rfl, rfl, rfl, rfl⟩, rfl, rfl⟩, rfl⟩ := hx
        obtain ⟨rfl, rfl⟩ := HSP2.out
        clear HRT2 HLT2 HL0
        go_wp2_with fail
        refine (rhas_any _ _ _ _ _ _ _ _ key).mono ?_
        rw [hin]
        rintro e wa ⟨rfl, hb⟩
        have hBa : Below w.heap.size w wa := HB9.out.trans (hb.mono HB9.out.size)
        go_wp2
        go_ret
        exact ⟨rfl, hBa⟩
      | true =>
        have h2' : Op.bytesLess key.toList plo.toList = true := h2
        have hY := HLT2.out (.inr h2)
        subst hY
        clear HRT2 HLT2
        go_wp2_with fail
        refine (HL0.out _ HB9.out).mono ?_
        rintro e wa ⟨rfl, hb⟩
        have HBa : Hid (Below w.heap.size w wa) := HB9.out.trans (hb.mono HB9.out.size)
        have HXa : Hid (Bk wa w8.heap.size 44 #[.string xk, .int .i64 xs, .int .i64 xg, .int .i64 xc, .bool xf, .int .i64 xo]) := HX9.out.below hb HX9.out.lt
        clear a0 a1 a2 a3 a4
        clear q0 q1 q2 q3 q4
        clear x0 x1 x2 x3 x4 x5
        clear hb hne1 hne2
        have HBb : Hid (Below w.heap.size w (wa.alloc (.cells #[.string xk, .int .i64 xs, .int .i64 xg, .int .i64 xc, .bool xf, .int .i64 xo] 44))) := HBa.out.alloc HBa.out.size _
        have HXb : Hid (Bk (wa.alloc (.cells #[.string xk, .int .i64 xs, .int .i64 xg, .int .i64 xc, .bool xf, .int .i64 xo] 44)) w8.heap.size 44 #[.string xk, .int .i64 xs, .int .i64 xg, .int .i64 xc, .bool xf, .int .i64 xo]) := HXa.out.alloc _
        have HYb : Hid (Bk (wa.alloc (.cells #[.string xk, .int .i64 xs, .int .i64 xg, .int .i64 xc, .bool xf, .int .i64 xo] 44)) wa.heap.size 44 #[.string xk, .int .i64 xs, .int .i64 xg, .int .i64 xc, .bool xf, .int .i64 xo]) := Bk.new _ _ _
        have hne1 : w8.heap.size ≠ wa.heap.size := by have := HXa.out.lt; omega
        have x0 : (wa.alloc (.cells #[.string xk, .int .i64 xs, .int .i64 xg, .int .i64 xc, .bool xf, .int .i64 xo] 44)).cell? ⟨w8.heap.size, 0, none⟩ = some (.string xk) := HXb.out.cell 0
        have x1 : (wa.alloc (.cells #[.string xk, .int .i64 xs, .int .i64 xg, .int .i64 xc, .bool xf, .int .i64 xo] 44)).cell? ⟨w8.heap.size, 1, none⟩ = some (.int .i64 xs) := HXb.out.cell 1
        have x2 : (wa.alloc (.cells #[.string xk, .int .i64 xs, .int .i64 xg, .int .i64 xc, .bool xf, .int .i64 xo] 44)).cell? ⟨w8.heap.size, 2, none⟩ = some (.int .i64 xg) := HXb.out.cell 2
        have x3 : (wa.alloc (.cells #[.string xk, .int .i64 xs, .int .i64 xg, .int .i64 xc, .bool xf, .int .i64 xo] 44)).cell? ⟨w8.heap.size, 3, none⟩ = some (.int .i64 xc) := HXb.out.cell 3
        have x4 : (wa.alloc (.cells #[.string xk, .int .i64 xs, .int .i64 xg, .int .i64 xc, .bool xf, .int .i64 xo] 44)).cell? ⟨w8.heap.size, 4, none⟩ = some (.bool xf) := HXb.out.cell 4
        have x5 : (wa.alloc (.cells #[.string xk, .int .i64 xs, .int .i64 xg, .int .i64 xc, .bool xf, .int .i64 xo] 44)).cell? ⟨w8.heap.size, 5, none⟩ = some (.int .i64 xo) := HXb.out.cell 5
        have z0 : (wa.alloc (.cells #[.string xk, .int .i64 xs, .int .i64 xg, .int .i64 xc, .bool xf, .int .i64 xo] 44)).cell? ⟨wa.heap.size, 0, none⟩ = some (.string xk) := HYb.out.cell 0
        have z1 : (wa.alloc (.cells #[.string xk, .int .i64 xs, .int .i64 xg, .int .i64 xc, .bool xf, .int .i64 xo] 44)).cell? ⟨wa.heap.size, 1, none⟩ = some (.int .i64 xs) := HYb.out.cell 1
        have z2 : (wa.alloc (.cells #[.string xk, .int .i64 xs, .int .i64 xg, .int .i64 xc, .bool xf, .int .i64 xo] 44)).cell? ⟨wa.heap.size, 2, none⟩ = some (.int .i64 xg) := HYb.out.cell 2
        have z3 : (wa.alloc (.cells #[.string xk, .int .i64 xs, .int .i64 xg, .int .i64 xc, .bool xf, .int .i64 xo] 44)).cell? ⟨wa.heap.size, 3, none⟩ = some (.int .i64 xc) := HYb.out.cell 3
        have z4 : (wa.alloc (.cells #[.string xk, .int .i64 xs, .int .i64 xg, .int .i64 xc, .bool xf, .int .i64 xo] 44)).cell? ⟨wa.heap.size, 4, none⟩ = some (.bool xf) := HYb.out.cell 4
        have z5 : (wa.alloc (.cells #[.string xk, .int .i64 xs, .int .i64 xg, .int .i64 xc, .bool xf, .int .i64 xo] 44)).cell? ⟨wa.heap.size, 5, none⟩ = some (.int .i64 xo) := HYb.out.cell 5
        go_wp2
        go_ret
        exact ⟨rfl, HBb.out⟩
    | true =>
      have h1' : Op.bytesLess key.toList sep.toList = true := h1
      have hY := HLT2.out (.inl h1)
      subst hY
      clear HRT2 HLT2
      go_wp2_with fail
      refine (HL0.out _ HB9.out).mono ?_
      rintro e wa ⟨rfl, hb⟩
      have HBa : Hid (Below w.heap.size w wa) := HB9.out.trans (hb.mono HB9.out.size)
      have HXa : Hid (Bk wa w8.heap.size 44 #[.string xk, .int .i64 xs, .int .i64 xg, .int .i64 xc, .bool xf, .int .i64 xo]) := HX9.out.below hb HX9.out.lt
      clear a0 a1 a2 a3 a4
      clear q0 q1 q2 q3 q4
      clear x0 x1 x2 x3 x4 x5
      clear hb hne1 hne2
      have HBb : Hid (Below w.heap.size w (wa.alloc (.cells #[.string xk, .int .i64 xs, .int .i64 xg, .int .i64 xc, .bool xf, .int .i64 xo] 44))) := HBa.out.alloc HBa.out.size _
      have HXb : Hid (Bk (wa.alloc (.cells #[.string xk, .int .i64 xs, .int .i64 xg, .int .i64 xc, .bool xf, .int .i64 xo] 44)) w8.heap.size 44 #[.string xk, .int .i64 xs, .int .i64 xg, .int .i64 xc, .bool xf, .int .i64 xo]) := HXa.out.alloc _
      have HYb : Hid (Bk (wa.alloc (.cells #[.string xk, .int .i64 xs, .int .i64 xg, .int .i64 xc, .bool xf, .int .i64 xo] 44)) wa.heap.size 44 #[.string xk, .int .i64 xs, .int .i64 xg, .int .i64 xc, .bool xf, .int .i64 xo]) := Bk.new _ _ _
      have hne1 : w8.heap.size ≠ wa.heap.size := by have := HXa.out.lt; omega
      have x0 : (wa.alloc (.cells #[.string xk, .int .i64 xs, .int .i64 xg, .int .i64 xc, .bool xf, .int .i64 xo] 44)).cell? ⟨w8.heap.size, 0, none⟩ = some (.string xk) := HXb.out.cell 0
      have x1 : (wa.alloc (.cells #[.string xk, .int .i64 xs, .int .i64 xg, .int .i64 xc, .bool xf, .int .i64 xo] 44)).cell? ⟨w8.heap.size, 1, none⟩ = some (.int .i64 xs) := HXb.out.cell 1
      have x2 : (wa.alloc (.cells #[.string xk, .int .i64 xs, .int .i64 xg, .int .i64 xc, .bool xf, .int .i64 xo] 44)).cell? ⟨w8.heap.size, 2, none⟩ = some (.int .i64 xg) := HXb.out.cell 2
      have x3 : (wa.alloc (.cells #[.string xk, .int .i64 xs, .int .i64 xg, .int .i64 xc, .bool xf, .int .i64 xo] 44)).cell? ⟨w8.heap.size, 3, none⟩ = some (.int .i64 xc) := HXb.out.cell 3
      have x4 : (wa.alloc (.cells #[.string xk, .int .i64 xs, .int .i64 xg, .int .i64 xc, .bool xf, .int .i64 xo] 44)).cell? ⟨w8.heap.size, 4, none⟩ = some (.bool xf) := HXb.out.cell 4
      have x5 : (wa.alloc (.cells #[.string xk, .int .i64 xs, .int .i64 xg, .int .i64 xc, .bool xf, .int .i64 xo] 44)).cell? ⟨w8.heap.size, 5, none⟩ = some (.int .i64 xo) := HXb.out.cell 5
      have z0 : (wa.alloc (.cells #[.string xk, .int .i64 xs, .int .i64 xg, .int .i64 xc, .bool xf, .int .i64 xo] 44)).cell? ⟨wa.heap.size, 0, none⟩ = some (.string xk) := HYb.out.cell 0
      have z1 : (wa.alloc (.cells #[.string xk, .int .i64 xs, .int .i64 xg, .int .i64 xc, .bool xf, .int .i64 xo] 44)).cell? ⟨wa.heap.size, 1, none⟩ = some (.int .i64 xs) := HYb.out.cell 1
      have z2 : (wa.alloc (.cells #[.string xk, .int .i64 xs, .int .i64 xg, .int .i64 xc, .bool xf, .int .i64 xo] 44)).cell? ⟨wa.heap.size, 2, none⟩ = some (.int .i64 xg) := HYb.out.cell 2
      have z3 : (wa.alloc (.cells #[.string xk, .int .i64 xs, .int .i64 xg, .int .i64 xc, .bool xf, .int .i64 xo] 44)).cell? ⟨wa.heap.size, 3, none⟩ = some (.int .i64 xc) := HYb.out.cell 3
      have z4 : (wa.alloc (.cells #[.string xk, .int .i64 xs, .int .i64 xg, .int .i64 xc, .bool xf, .int .i64 xo] 44)).cell? ⟨wa.heap.size, 4, none⟩ = some (.bool xf) := HYb.out.cell 4
      have z5 : (wa.alloc (.cells #[.string xk, .int .i64 xs, .int .i64 xg, .int .i64 xc, .bool xf, .int .i64 xo] 44)).cell? ⟨wa.heap.size, 5, none⟩ = some (.int .i64 xo) := HYb.out.cell 5
      go_wp2
      go_ret
      exact ⟨rfl, HBb.out⟩
  · have hk1 : (kk != 0) = true := by simpa using hkk
    clear HL1 HRT HSP HLT HL0 HCK
    go_wp2_with fail
    refine (live_any _).mono ?_
    rintro e wl ⟨rfl, hbl⟩
    have hBl : Below w.heap.size w wl := HB4.out.trans (hbl.mono HB4.out.size)
    go_wp2
    go_ret
    exact ⟨rfl, hBl⟩

theorem walk_deltaSplits (pf : Bool) (plo phi : ByteArray) (pr : Int) (pp : Option Addr) (pn pc : Nat) (pl : List En) (sep : ByteArray) (id : Int) (key : ByteArray) (w : World) (hp : InE 3518437208780 w pp pn pc pl) :
    Calls Tryz.prog 7 #[.agg #[.bool pf, .string plo, .string phi, .int .i64 pr, .slice pp pn pc], .agg #[.string sep, .int .i64 id, .string key]] w fun e w' => e = .returned (.bool true) ∧ Below w.heap.size w w' :=
  walkd_deltaSplits pf plo phi pr pp pn pc pl sep id key w hp


set_option maxRecDepth 100000 in
set_option maxHeartbeats 2000000 in
theorem lifted_deltaSplits (os : Os) (started : os.Started) (H : Type) (enc : TypeId × Value → H) :
    ReturnsInHanded {} Tryz.checked os 7 .any (Rows.deltaSplitsSpec.pre6 enc Tryz.prog Tryz.f7 Rows.deltaSplitsRow.domain false) (Rows.deltaSplitsSpec.post enc Tryz.prog Tryz.f7 false true false false) := by
  refine returnsInHanded_of_change_sized (C := Tryz.checked) own started (by kernel_rfl) Tryz.func7
    (ChangeSpec.witness6 (enc := enc) (C := Tryz.checked) false ⟨#[], #[.agg #[.bool false, .string .empty, .string .empty, .int .i64 0, .slice none 0 0], .agg #[.string .empty, .int .i64 0, .string .empty]], []⟩ 8 (by kernel_rfl) (by kernel_rfl) (by kernel_rfl) (by kernel_rfl)) ?_
  intro W base args ds gs before hval0 hW _ hsz0 _
  have hsz : (DataW.weightsEach Tryz.prog (Tryz.f7.params.toList ++ Rows.deltaSplitsSpec.plain.varTypes Tryz.prog) (ds ++ gs)).all (· ≤ reachBytes) = true := hsz0
  clear hsz0
  have hval : ∀ (j : Nat) t v, Tryz.f7.params[j]? = some t → args[j]? = some v → Value.okWide Tryz.prog W .any base t v := hval0
  have hW' := hW
  obtain ⟨p, q, hA0, hV, rfl, hfz, hnd⟩ := hW
  have hA : DataW.TrodAll enc Tryz.prog W 0 (fun _ => true) true Tryz.f7.params.toList args.toList ds p := hA0
  rw [Tryz.params7] at hA hval hsz
  obtain ⟨v0, vs0, d0, ds0, p0, q0, hargs, rfl, rfl, h0, r0⟩ := trodAll_cons hA
  obtain ⟨v1, vs1, d1, ds1, p1, q1, rfl, rfl, rfl, h1, r1⟩ := trodAll_cons r0
  obtain ⟨rfl, rfl, rfl⟩ := trodAll_nil r1
  obtain rfl : args = #[v0, v1] := by cases args; simp_all
  obtain ⟨rfl, rfl⟩ := trodVars_none hV
  have k0 := h0
  have lt0 : ∀ x ∈ p0, x.block < W.heap.size := by obtain ⟨m, hm⟩ := k0; exact DataW.trod_lt m _ _ _ hm
  obtain ⟨b0, lo0, hi0, r0', a0, len0, cap0, l0, e0, w0⟩ : ∃ leaf lo hi r a len cap l, v0 = .agg #[.bool leaf, .string lo, .string hi, .int .i64 r, .slice a len cap] ∧ InE 3518437208780 W a len cap l := by
    obtain ⟨cs, hcs, _⟩ := okWide_struct Tryz.underlying24 (hval 0 24 v0 rfl rfl)
    obtain ⟨fuel, hf⟩ := h0
    obtain ⟨b, lo, hi, r, a, len, cap, l, hg, ho⟩ := in_page (M := 3518437208780) hf (page_said (x := (d0, p0)) (Nat.le_refl _) (fun n hn => by
      have := of_decide_eq_true (List.all_eq_true.1 hsz _ (DataW.weights_mem_each (j := 0) (t := 24) rfl rfl n hn))
      simp only [reachBytes] at this
      omega))
    refine ⟨b, lo, hi, r, a, len, cap, l, ?_, ho⟩
    rw [hcs] at hg ⊢
    congr 1
    apply Array.ext'
    simpa [Value.cells] using hg
  subst e0
  have k1 := h1
  have lt1 : ∀ x ∈ p1, x.block < W.heap.size := by obtain ⟨m, hm⟩ := k1; exact DataW.trod_lt m _ _ _ hm
  obtain ⟨s1, n1, t1, e1⟩ : ∃ (s : ByteArray) (n : Int) (t : ByteArray), v1 = .agg #[.string s, .int .i64 n, .string t] := by
    obtain ⟨cs, hcs, _⟩ := okWide_struct Tryz.underlying56 (hval 1 56 v1 rfl rfl)
    obtain ⟨fuel, hf⟩ := h1
    obtain ⟨s, n, t, hg⟩ := in_cut hf
    refine ⟨s, n, t, ?_⟩
    rw [hcs] at hg ⊢
    congr 1
    apply Array.ext'
    simpa [Value.cells] using hg
  subst e1
  clear hA0 hval0
  refine (walk_deltaSplits b0 lo0 hi0 r0' a0 len0 cap0 l0 s1 n1 t1 W w0).mono fun e W' ⟨he, bel⟩ => ?_
  subst he
  exact ⟨_, rfl, _, _, _, [], _, [], hW', trodAll_mk1 (shut_bool Tryz.underlying4 _), (trodAll_cons_mk (Below.trod laidOut (by kernel_rfl) (of_decide_eq_true (by kernel_rfl)) k0 bel lt0) (trodAll_cons_mk (Below.trod laidOut (by kernel_rfl) (of_decide_eq_true (by kernel_rfl)) k1 bel lt1) trodAll_mk0)), rfl, bel.frame _, fun h => by cases h⟩

/-- The statement. -/
theorem deltaSplits_holds : Rows.DeltaSplitsSaid :=
  OpenClaim.holds_of_wide 7 Tryz.f7 rfl rfl rfl rfl rfl rfl rfl ⟨rfl, rfl, rfl, rfl, rfl⟩ rfl rfl rfl rfl rfl (by kernel_rfl) Tryz.func7 (by kernel_rfl)
    (of_decide_eq_true (by kernel_rfl)) (by unfold Func.isWrapper; first | (rw [if_pos (by decide +kernel)]; kernel_rfl) | (rw [if_neg (by decide +kernel)]; exact ⟨rfl, rfl⟩))
    (fun os started H enc _ => lifted_deltaSplits os started H enc)
#print axioms deltaSplits_holds
end Go.Proofs.YtlcbideongbmeaaGreat
