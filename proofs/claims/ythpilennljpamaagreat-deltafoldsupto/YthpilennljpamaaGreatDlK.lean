/- What the newest delta that says enough says of a key in a leaf. -/
import Derived.Test.YthpilennljpamaaGreatDlO
import Derived.Test.YthpilennljpamaaGreatPgFu
import Derived.Test.YthpilennljpamaaGreatPgCr
import Derived.WalkMore
namespace Go.Proofs.YthpilennljpamaaGreat
open Go.RowKit Go.Sort
set_option linter.unusedVariables false
set_option maxRecDepth 100000

/-- The entries that say enough of a key. -/
def Dl.say (bl : List En) (key : ByteArray) : List De → List En
  | [] => bl
  | d :: r => if (d.k == 1) && (d.e.key.toList == key.toList) then [d.e] else if (d.k == 2) && (d.key.toList == key.toList) then [] else if (d.k == 4) && Ky.inn ⟨d.rt.lo, d.rt.hi⟩ key then d.rt.l else Dl.say bl key r

theorem Dl.say_at {bl : List En} {key : ByteArray} {L : List Dm} {k : Nat} {m : Dm} (h : L[k]? = some m) : Dl.say bl key ((L.drop k).map (·.d)) = if (m.d.k == 1) && (m.d.e.key.toList == key.toList) then [m.d.e] else if (m.d.k == 2) && (m.d.key.toList == key.toList) then [] else if (m.d.k == 4) && Ky.inn ⟨m.d.rt.lo, m.d.rt.hi⟩ key then m.d.rt.l else Dl.say bl key ((L.drop (k + 1)).map (·.d)) := by
  obtain ⟨hk, rfl⟩ := List.getElem?_eq_some_iff.1 h
  rw [List.drop_eq_getElem_cons hk]
  rfl

/-- A slice that is answered leads to entries. -/
def Led (w : World) (l : List En) (e : Ending) (w' : World) : Prop := (∃ q m c, e = .returned (.slice q m c) ∧ l.length = m ∧ Ens w' q l ∧ m ≤ 3518437208780) ∧ Below w.heap.size w w'

set_option maxHeartbeats 4000000 in
theorem saying_any (pf : Bool) (plo phi : ByteArray) (pr : Int) (pp : Option Addr) (pn pc : Nat) (pl : List En) (key : ByteArray) (p : Option Addr) (len cap : Nat) (L : List Dm) (w : World) (hlen : pl.length = pn) (hx : Ens w pp pl) (hl : pn ≤ 3518437208780) (hL : L.length = len) (hll : len ≤ 4398046511104) (hD : Des w p L) :
    Calls Tryz.prog 89 #[pgv pf plo phi pr pp pn pc, .string key, .slice p len cap] w fun e w' => Led w (Dl.say pl key (L.map (·.d))) e w' := by
  obtain ⟨out, HO⟩ : ∃ out, Hid (Dl.say pl key (L.map (·.d)) = out) := ⟨_, rfl⟩
  rw [HO.out]
  have HX : Hid (Ens w pp pl) := hx
  have HN : Hid (pl.length = pn) := hlen
  have HL : Hid (L.length = len) := hL
  have HD : Hid (Des w p L) := hD
  clear hx hlen hL hD
  obtain ⟨w0, hw0⟩ : ∃ w0, w.alloc (.cells #[.bool pf, .string plo, .string phi, .int .i64 pr, .slice pp pn pc] 24) = w0 := ⟨_, rfl⟩
  have HB0 : Hid (Below w.heap.size w w0) := by rw [← hw0]; exact (Below.refl _ _).alloc (Nat.le_refl _) _
  have HK0 : Hid (Bk w0 w.heap.size 24 #[.bool pf, .string plo, .string phi, .int .i64 pr, .slice pp pn pc]) := by rw [← hw0]; exact Bk.new _ _ _
  have a0 : w0.cell? ⟨w.heap.size, 0, none⟩ = some (.bool pf) := HK0.out.cell 0
  have a1 : w0.cell? ⟨w.heap.size, 1, none⟩ = some (.string plo) := HK0.out.cell 1
  have a2 : w0.cell? ⟨w.heap.size, 2, none⟩ = some (.string phi) := HK0.out.cell 2
  have a3 : w0.cell? ⟨w.heap.size, 3, none⟩ = some (.int .i64 pr) := HK0.out.cell 3
  have a4 : w0.cell? ⟨w.heap.size, 4, none⟩ = some (.slice pp pn pc) := HK0.out.cell 4
  go_enter Tryz.func89, Tryz.ntmps89
  go_wp2_with fail
  go_step3
  go_wp2_with fail
  go_step3
  go_wp2_with fail
  clear hw0
  clear a0 a1 a2 a3 a4
  go_loopw [7, 14] (fun s i wr => ∃ k : Nat, k ≤ len ∧ i = .int .i64 k ∧ s = .slice pp pn pc ∧ Hid (out = Dl.say pl key ((L.drop k).map (·.d))) ∧ Hid (Below w.heap.size w wr)) (fun _ i _ => len - (intOf i).toNat)
  case atStart => exact ⟨0, Nat.zero_le _, rfl, rfl, HO.out.symm, HB0⟩
  case round =>
    obtain ⟨k, hk, rfl, rfl, HQ, HW⟩ := hrel
    by_cases hlt : k < len
    · have hli : (k : Int) < (len : Int) := by omega
      have hk0 : (0 : Int) ≤ (k : Int) := by omega
      have hkL : k < L.length := by have := HL.out; omega
      obtain ⟨m, hm⟩ : ∃ m, L[k]? = some m := ⟨_, List.getElem?_eq_getElem hkL⟩
      obtain ⟨b, o, rfl, hc⟩ := HD.out.below HW.out (Nat.le_refl _) (by omega)
      obtain ⟨hcx, hOk⟩ := hc k m hm
      have hQ := HQ.out
      rw [Dl.say_at hm] at hQ
      obtain ⟨⟨dk, ⟨dek, des, deg, dec⟩, dkey, dpg, ⟨dleaf, dlo, dhi, dr, dl⟩⟩, dp, dn, dc⟩ := m
      simp only at hQ
      have HQ2 : Hid (out = if (dk == 1) && (dek.toList == key.toList) then [⟨dek, des, deg, dec⟩] else if (dk == 2) && (dkey.toList == key.toList) then [] else if (dk == 4) && Ky.inn ⟨dlo, dhi⟩ key then dl else Dl.say pl key ((L.drop (k + 1)).map (·.d))) := hQ
      have HOK : Hid (Dm.Ok wr ⟨⟨dk, ⟨dek, des, deg, dec⟩, dkey, dpg, ⟨dleaf, dlo, dhi, dr, dl⟩⟩, dp, dn, dc⟩) := hOk
      have z0 := hcx 0 _ rfl
      have z1 := hcx 1 _ rfl
      have z2 := hcx 2 _ rfl
      have z3 := hcx 3 _ rfl
      have z4 := hcx 4 _ rfl
      have z5 := hcx 5 _ rfl
      have z6 := hcx 6 _ rfl
      have z7 := hcx 7 _ rfl
      have z8 := hcx 8 _ rfl
      have z9 := hcx 9 _ rfl
      have z10 := hcx 10 _ rfl
      have z11 := hcx 11 _ rfl
      simp only [Nat.add_zero] at z0
      clear hQ hm hcx hc hOk HQ
      obtain ⟨w2, hw2⟩ : ∃ w2, wr.alloc (.cells #[.int .i64 dk, .string dek, .int .i64 des, .int .i64 deg, .int .i64 dec, .string dkey, .int .i64 dpg, .bool dleaf, .string dlo, .string dhi, .int .i64 dr, .slice dp dn dc] 32) = w2 := ⟨_, rfl⟩
      have HW2 : Hid (Below w.heap.size w w2) := by rw [← hw2]; exact HW.out.alloc HW.out.size _
      have HK2 : Hid (Bk w2 wr.heap.size 32 #[.int .i64 dk, .string dek, .int .i64 des, .int .i64 deg, .int .i64 dec, .string dkey, .int .i64 dpg, .bool dleaf, .string dlo, .string dhi, .int .i64 dr, .slice dp dn dc]) := by rw [← hw2]; exact Bk.new _ _ _
      have HE2 : Hid (Ens w2 dp dl) := by rw [← hw2]; exact HOK.out.ens.below ((Below.refl _ _).alloc (Nat.le_refl _) _) (Nat.le_refl _)
      have x0 : w2.cell? ⟨wr.heap.size, 0, none⟩ = some (.int .i64 dk) := HK2.out.cell 0
      have x1 : w2.cell? ⟨wr.heap.size, 1, none⟩ = some (.string dek) := HK2.out.cell 1
      have x2 : w2.cell? ⟨wr.heap.size, 2, none⟩ = some (.int .i64 des) := HK2.out.cell 2
      have x3 : w2.cell? ⟨wr.heap.size, 3, none⟩ = some (.int .i64 deg) := HK2.out.cell 3
      have x4 : w2.cell? ⟨wr.heap.size, 4, none⟩ = some (.int .i64 dec) := HK2.out.cell 4
      have x5 : w2.cell? ⟨wr.heap.size, 5, none⟩ = some (.string dkey) := HK2.out.cell 5
      have x6 : w2.cell? ⟨wr.heap.size, 6, none⟩ = some (.int .i64 dpg) := HK2.out.cell 6
      have x7 : w2.cell? ⟨wr.heap.size, 7, none⟩ = some (.bool dleaf) := HK2.out.cell 7
      have x8 : w2.cell? ⟨wr.heap.size, 8, none⟩ = some (.string dlo) := HK2.out.cell 8
      have x9 : w2.cell? ⟨wr.heap.size, 9, none⟩ = some (.string dhi) := HK2.out.cell 9
      have x10 : w2.cell? ⟨wr.heap.size, 10, none⟩ = some (.int .i64 dr) := HK2.out.cell 10
      have x11 : w2.cell? ⟨wr.heap.size, 11, none⟩ = some (.slice dp dn dc) := HK2.out.cell 11
      by_cases h1 : dk = 1
      · subst h1
        cases hb : (dek.toList == key.toList) with
        | true =>
          have HF : Hid (out = [⟨dek, des, deg, dec⟩]) := by rw [Hid, HQ2.out, hb]; rfl
          go_wp2
          go_ret
          rw [HF.out]
          exact ⟨⟨_, 1, _, rfl, rfl, ens_one w2 ⟨dek, des, deg, dec⟩, by decide⟩, HW2.out.alloc HW2.out.size _⟩
        | false =>
          have HF : Hid (out = Dl.say pl key ((L.drop (k + 1)).map (·.d))) := by rw [Hid, HQ2.out, hb]; rfl
          go_wp2
          go_roundw
          case rel => exact ⟨k + 1, by omega, by go_num, rfl, HF, HW2⟩
          case measure => simp [intOf]; omega
      · have k1 : (dk == 1) = false := by simp [h1]
        by_cases h2 : dk = 2
        · subst h2
          cases hb : (dkey.toList == key.toList) with
          | true =>
            have HF : Hid (out = []) := by rw [Hid, HQ2.out, hb]; rfl
            go_wp2
            go_ret
            rw [HF.out]
            exact ⟨⟨_, 0, _, rfl, rfl, Ens.nil _ _, by decide⟩, HW2.out⟩
          | false =>
            have HF : Hid (out = Dl.say pl key ((L.drop (k + 1)).map (·.d))) := by rw [Hid, HQ2.out, hb]; rfl
            go_wp2
            go_roundw
            case rel => exact ⟨k + 1, by omega, by go_num, rfl, HF, HW2⟩
            case measure => simp [intOf]; omega
        · have k2 : (dk == 2) = false := by simp [h2]
          by_cases h4 : dk = 4
          · subst h4
            go_wp2_with fail
            clear hw2
            refine (has_any dleaf dlo dhi dr dp dn dc _ key).mono ?_
            cases hin : Ky.inn ⟨dlo, dhi⟩ key with
            | true =>
              have HF : Hid (out = dl) := by rw [Hid, HQ2.out, hin]; rfl
              rintro e w3 ⟨rfl, hb3⟩
              have HW3 : Hid (Below w.heap.size w w3) := HW2.out.trans (hb3.mono HW2.out.size)
              have HE3 : Hid (Ens w3 dp dl) := HE2.out.below hb3 (Nat.le_refl _)
              have HK3 : Hid (Bk w3 wr.heap.size 32 #[.int .i64 4, .string dek, .int .i64 des, .int .i64 deg, .int .i64 dec, .string dkey, .int .i64 dpg, .bool dleaf, .string dlo, .string dhi, .int .i64 dr, .slice dp dn dc]) := HK2.out.below hb3 HK2.out.lt
              clear hb3
              clear x0 x1 x2 x3 x4 x5 x6 x7 x8 x9 x10 x11
              have x11 : w3.cell? ⟨wr.heap.size, 11, none⟩ = some (.slice dp dn dc) := HK3.out.cell 11
              go_wp2
              go_ret
              rw [HF.out]
              exact ⟨⟨_, dn, _, rfl, HOK.out.len, HE3.out, HOK.out.room⟩, HW3.out⟩
            | false =>
              have HF : Hid (out = Dl.say pl key ((L.drop (k + 1)).map (·.d))) := by rw [Hid, HQ2.out, hin]; rfl
              rintro e w3 ⟨rfl, hb3⟩
              have HW3 : Hid (Below w.heap.size w w3) := HW2.out.trans (hb3.mono HW2.out.size)
              clear hb3
              clear x0 x1 x2 x3 x4 x5 x6 x7 x8 x9 x10 x11
              go_wp2
              go_roundw
              case rel => exact ⟨k + 1, by omega, by go_num, rfl, HF, HW3⟩
              case measure => simp [intOf]; omega
          · have k4 : (dk == 4) = false := by simp [h4]
            have HF : Hid (out = Dl.say pl key ((L.drop (k + 1)).map (·.d))) := by rw [Hid, HQ2.out, k1, k2, k4]; rfl
            go_wp2
            go_roundw
            case rel => exact ⟨k + 1, by omega, by go_num, rfl, HF, HW2⟩
            case measure => simp [intOf]; omega
    · have hkn : k = len := by omega
      have hli : ¬ (k : Int) < (len : Int) := by omega
      have HF : Hid (out = pl) := by
        rw [Hid, HQ.out, List.drop_of_length_le (by have := HL.out; omega)]
        rfl
      go_wp2
      go_ret
      rw [HF.out]
      exact ⟨⟨_, pn, _, rfl, HN.out, HX.out.below HW.out (Nat.le_refl _), hl⟩, HW.out⟩

end Go.Proofs.YthpilennljpamaaGreat
