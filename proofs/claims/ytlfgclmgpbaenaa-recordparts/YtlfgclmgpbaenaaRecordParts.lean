/- One write alone: behind other bytes, and from the beginning of any. -/
import Derived.Test.YtlfgclmgpbaenaaText
import Derived.Test.YtlfgclmgpbaenaaRefParse
import Derived.Test.YtlfgclmgpbaenaaRefInt
import Derived.Test.YtlfgclmgpbaenaaApp
import Derived.Test.YtlfgclmgpbaenaaRcRd
import Derived.Test.YtlfgclmgpbaenaaFlag
import Derived.Test.YtlfgclmgpbaenaaRcCom
import Derived.Test.YtlfgclmgpbaenaaRcEnd
import Derived.Test.YtlfgclmgpbaenaaRcCom2
import Derived.RegionTactic
import Derived.ChangeAlike
import Derived.Test.YtlfgclmgpbaenaaPutText
import Derived.Laws.IdiomStrings
import Derived.Test.YtlfgclmgpbaenaaRcFill2
import Derived.Test.YtlfgclmgpbaenaaRcBytes
import Derived.Test.YtlfgclmgpbaenaaRcOne
import Derived.Deep.RegionHeld3
import Derived.Test.YtlfgclmgpbaenaaRcM
import Derived.Deep.Slices
import Derived.Test.YtlfgclmgpbaenaaRcPx
import Derived.Deep.RegionHeldLaw
import Derived.OwnWalk
namespace Go.Proofs.Ytlfgclmgpbaenaa
open Go.RowKit
set_option linter.unusedVariables false
set_option maxRecDepth 100000

set_option maxHeartbeats 1000000 in
/-- cressetref01.ParseBytes. -/
theorem parseBytes_len (p : Option Addr) (c len : Nat) (xs : List Int) (w : World) (hlen : xs.length = len) (hx : Bys w p xs) (hcap : len ≤ c) (hl47 : len ≤ 140737488355328) (hm : c ≤ 9223372036854775807) (hy : ∀ y ∈ xs, 0 ≤ y ∧ y < 256) :
    Calls Try.prog 89 #[.slice p len c] w fun e w' => ∃ v, e = .returned (.tuple #[v, .int .i64 (Cd.decT xs).2.1, .int .i64 (Cd.decT xs).2.2]) ∧ Own w' w.heap.size v (Cd.decT xs).1.length (Cd.decT xs).1 ∧ Below w.heap.size w w' := by
  have HX : Hid (Bys w p xs) := hx
  have HL : Hid (xs.length = len) := hlen
  have HY : Hid (∀ y ∈ xs, 0 ≤ y ∧ y < 256) := hy
  have hf := Cd.dec_facts xs hy
  obtain ⟨T, hT⟩ : ∃ T, T = Cd.decT xs := ⟨_, rfl⟩
  have HT : Hid (T = Cd.decT xs) := hT
  unfold Cd.decT at HT
  rw [← hT]
  clear hT
  obtain ⟨D, hD⟩ : ∃ D, Cd.dec xs = D := ⟨_, rfl⟩
  rw [hD] at HT hf
  have HD : Hid (Cd.dec xs = D) := hD
  obtain ⟨d1, d2, d3⟩ := D
  simp only at HT hf
  rw [hlen] at hf HT
  clear hx hlen hy hD
  by_cases h3 : d3 = 0
  · subst h3
    have hf1 : 1 ≤ d2 ∧ d2 ≤ 9 ∧ d2 ≤ (len : Int) ∧ -9223372036854775808 ≤ d1 ∧ d1 ≤ 9223372036854775807 := by omega
    clear hf
    by_cases hneg : d1 < 0
    · have HR : Hid (T = ([], 0, 11)) := by
        have := HT.out
        simpa [Hid, hneg] using this
      clear HT
      go_enter Try.func89, Try.ntmps89
      go_wp2_with fail
      refine (parse_any p c len xs _ HL.out HX.out hcap (by omega) HY.out).mono ?_
      rintro e w1 ⟨rfl, hw1⟩
      subst hw1
      rw [HD.out]
      unfold three
      go_wp2
      go_ret3
      rw [HR.out]
      exact ⟨_, rfl, World.ownsRow_nil _ _ _ _, Below.refl _ _⟩
    · by_cases hlong : d1 > (len : Int) - d2
      · have HR : Hid (T = ([], 0, 10)) := by
          have := HT.out
          simpa [Hid, hneg, hlong] using this
        clear HT
        go_enter Try.func89, Try.ntmps89
        go_wp2_with fail
        refine (parse_any p c len xs _ HL.out HX.out hcap (by omega) HY.out).mono ?_
        rintro e w1 ⟨rfl, hw1⟩
        subst hw1
        rw [HD.out]
        unfold three
        go_wp2
        go_ret3
        rw [HR.out]
        exact ⟨_, rfl, World.ownsRow_nil _ _ _ _, Below.refl _ _⟩
      · obtain ⟨s, rfl⟩ := Int.eq_ofNat_of_zero_le (show 0 ≤ d2 by omega)
        obtain ⟨n, rfl⟩ := Int.eq_ofNat_of_zero_le (show 0 ≤ d1 by omega)
        have HR : Hid (T = ((xs.drop s).take n, (s : Int) + n, 0)) := by
          have := HT.out
          simpa [Hid, hneg, hlong] using this
        clear HT
        obtain ⟨b, o, rfl, hc0⟩ := HX.out (by rw [HL.out]; omega)
        clear hc0
        by_cases hcs : c = s
        · subst hcs
          obtain rfl : n = 0 := by omega
          go_enter Try.func89, Try.ntmps89
          go_wp2_with fail
          refine (parse_any (some ⟨b, o, none⟩) c len xs _ HL.out HX.out hcap (by omega) HY.out).mono ?_
          rintro e w1 ⟨rfl, hw1⟩
          subst hw1
          rw [HD.out]
          unfold three
          go_wp2_with (at_builtin; refine app8 _ rfl _ _ rfl w1.heap.size (.slice none 0 0) 0 [] rfl (World.ownsRow_nil _ _ _ _) (some ⟨b, o, none⟩) 0 0 [] rfl (Bys.nil _ _) rfl (fun h => by cases h) (by omega) (Nat.le_refl _) ?_)
          intro v2 w2 HO2 hb2
          go_wp2
          go_ret3
          rw [HR.out]
          exact ⟨_, rfl, by simpa using HO2, hb2⟩
        · have hcs' : s < c := by omega
          have HCS : Hid _ := hcs
          clear hcs
          go_enter Try.func89, Try.ntmps89
          go_wp2_with fail
          refine (parse_any (some ⟨b, o, none⟩) c len xs _ HL.out HX.out hcap (by omega) HY.out).mono ?_
          rintro e w1 ⟨rfl, hw1⟩
          subst hw1
          rw [HD.out]
          unfold three
          go_wp2_with (at_builtin; refine app8 _ rfl _ _ rfl w1.heap.size (.slice none 0 0) 0 [] rfl (World.ownsRow_nil _ _ _ _) (some ⟨b, o + s, none⟩) (s + n - s) (c - s) ((xs.drop s).take n) rfl (bys_part HX.out s n (by rw [HL.out]; omega)) (by simp [HL.out]; omega) (fun h => by cases h) (by omega) (Nat.le_refl _) ?_)
          intro v2 w2 HO2 hb2
          go_wp2
          go_ret3
          rw [HR.out]
          refine ⟨_, rfl, ?_, hb2⟩
          have hl := HO2.len
          rw [hl]
          exact HO2
  · have hf1 : d1 = 0 ∧ d2 = 0 ∧ (d3 = 10 ∨ d3 = 11) := by omega
    obtain ⟨rfl, rfl, h4⟩ := hf1
    have HR : Hid (T = ([], 0, d3)) := by
      have := HT.out
      simpa [Hid, h3] using this
    have hb : (d3 != 0) = true := by simpa using h3
    clear hf HT h3
    have h5 : 1 ≤ d3 := by omega
    have H4 : Hid _ := h4
    clear h4
    go_enter Try.func89, Try.ntmps89
    go_wp2_with fail
    refine (parse_any p c len xs _ HL.out HX.out hcap (by omega) HY.out).mono ?_
    rintro e w1 ⟨rfl, hw1⟩
    subst hw1
    rw [HD.out]
    unfold three
    go_wp2
    go_ret3
    rw [HR.out]
    exact ⟨_, rfl, World.ownsRow_nil _ _ _ _, Below.refl _ _⟩

theorem parseBytes_any (p : Option Addr) (c len : Nat) (xs : List Int) (w : World) (hlen : xs.length = len) (hx : Bys w p xs) (hcap : len ≤ c) (hm : c ≤ 140737488355328) (hy : ∀ y ∈ xs, 0 ≤ y ∧ y < 256) :
    Calls Try.prog 89 #[.slice p len c] w fun e w' => ∃ v, e = .returned (.tuple #[v, .int .i64 (Cd.decT xs).2.1, .int .i64 (Cd.decT xs).2.2]) ∧ Own w' w.heap.size v (Cd.decT xs).1.length (Cd.decT xs).1 ∧ Below w.heap.size w w' :=
  parseBytes_len p c len xs w hlen hx hcap (by omega) (by omega) hy

set_option maxHeartbeats 1000000 in
/-- cressetref01.Bytes. -/
theorem refBytes_any (p : Option Addr) (c len : Nat) (xs : List Int) (w : World) (hlen : xs.length = len) (hx : Bys w p xs) (hm : len ≤ 140737488355300) (hp : p = none → len = 0 ∧ c = 0) :
    Calls Try.prog 70 #[.slice p len c] w fun e w' => ∃ v, e = .returned v ∧ Own w' w.heap.size v (Cd.width len + len) (Cd.enc len ++ xs) ∧ Below w.heap.size w w' := by
  have HX : Hid (Bys w p xs) := hx
  have HL : Hid (xs.length = len) := hlen
  have HP : Hid (p = none → len = 0 ∧ c = 0) := hp
  have hw := Cd.width_pos len
  clear hx hlen hp
  go_enter Try.func70, Try.ntmps70
  go_wp2_with fail
  refine (refInt_any len _ (by omega) (by omega)).mono ?_
  rintro e w1 ⟨v1, rfl, HO1, hb1⟩
  have hsz := hb1.size
  go_wp2_with (at_builtin; refine app8 _ rfl _ _ rfl w.heap.size v1 (Cd.width len) (Cd.enc len) rfl HO1 p len c xs rfl (HX.out.below hb1 (Nat.le_refl _)) HL.out HP.out (by omega) hsz ?_)
  intro v2 w2 HO2 hb2
  go_wp2
  go_ret
  exact ⟨_, rfl, HO2, hb1.trans hb2⟩
end Go.Proofs.Ytlfgclmgpbaenaa

namespace Go.Proofs.Ytlfgclmgpbaenaa
open Go.RowKit
set_option linter.unusedVariables false
set_option maxRecDepth 100000

/-- The document's reader in memory: what it reads lies below d0, it lies from d0 on. -/
def Rr (w : World) (R d0 : Nat) (xs : List Int) : Prop := ∃ p len cap, Bk w R 89 #[.slice p len cap] ∧ InB 9223372036854775807 w p len cap xs ∧ xs.length ≤ 140737488355328 ∧ (0 < xs.length → ∀ ad, p = some ad → ad.block < d0) ∧ d0 ≤ R

theorem Rr.keep {w w' : World} {R d0 : Nat} {xs : List Int} {S : List Nat} (h : Rr w R d0 xs) (ht : Tn S w w') (hR : R ∉ S) (hd : ∀ b ∈ S, d0 ≤ b) : Rr w' R d0 xs := by
  obtain ⟨p, len, cap, hk, hi, hl, hn, hd0⟩ := h
  refine ⟨p, len, cap, hk.tn ht hR, hi.tn ht (fun hp ad had hm => ?_), hl, hn, hd0⟩
  have := hn hp ad had
  have := hd _ hm
  omega

theorem rr_step {w w2 : World} {R d0 : Nat} {ad : Addr} {len cap : Nat} {xs : List Int} {k : Nat} (hi : InB 9223372036854775807 w (some ad) len cap xs) (hl : xs.length ≤ 140737488355328) (hn : 0 < xs.length → ad.block < d0) (hd0 : d0 ≤ R) (hk : k ≤ len) (ht : Tn [R] w w2) (hb : Bk w2 R 89 #[.slice (some ad) len cap]) :
    Rr (w2.setCell ⟨R, 0, none⟩ (.slice (some (ad.add k)) (len - k) (cap - k))) R d0 (xs.drop k) ∧ Tn [R] w (w2.setCell ⟨R, 0, none⟩ (.slice (some (ad.add k)) (len - k) (cap - k))) := by
  have t2 : Tn [R] w2 (w2.setCell ⟨R, 0, none⟩ (.slice (some (ad.add k)) (len - k) (cap - k))) := (Tn.refl _ _).setCell (.inl (by simp)) _
  have t3 := ht.trans t2 (fun x hx => .inl hx)
  refine ⟨⟨some (ad.add k), len - k, cap - k, hb.set 0 _, (hi.tn t3 ?_).drop hk, by simp; omega, ?_, hd0⟩, t3⟩
  · intro hp a ha
    cases ha
    have := hn hp
    simp
    omega
  · intro hp a ha
    cases ha
    have hp2 : 0 < xs.length := by simp at hp; omega
    have hq := hn hp2
    obtain ⟨b, o, sp⟩ := ad
    unfold Addr.add
    split
    · exact hq
    · exact hq

theorem rr_step0 {w w2 : World} {R d0 : Nat} {ad : Addr} {len cap : Nat} {xs : List Int} {k : Nat} (hi : InB 9223372036854775807 w (some ad) len cap xs) (hd0 : d0 ≤ R) (hk : k ≤ len) (hck : cap = k) (ht : Tn [R] w w2) (hb : Bk w2 R 89 #[.slice (some ad) len cap]) :
    Rr (w2.setCell ⟨R, 0, none⟩ (.slice (some ad) (len - k) 0)) R d0 (xs.drop k) ∧ Tn [R] w (w2.setCell ⟨R, 0, none⟩ (.slice (some ad) (len - k) 0)) := by
  have t2 : Tn [R] w2 (w2.setCell ⟨R, 0, none⟩ (.slice (some ad) (len - k) 0)) := (Tn.refl _ _).setCell (.inl (by simp)) _
  have t3 := ht.trans t2 (fun x hx => .inl hx)
  have h1 := hi.lenq
  have h2 := hi.le
  have e0 : len - k = 0 := by omega
  have e1 : xs.drop k = [] := List.drop_eq_nil_of_le (by omega)
  refine ⟨⟨some ad, len - k, 0, hb.set 0 _, ?_, by simp [e1], by simp [e1], hd0⟩, t3⟩
  simp only [e0, e1]
  exact ⟨rfl, Bys.nil _ _, Nat.le_refl _, Nat.zero_le _, (fun e => by cases e), by simp⟩

theorem own_form' {w : World} {base n : Nat} {v : Value} {xs : List Int} (h : Own w base v n xs) : ∃ p c, v = .slice p n c := by
  rcases h.2 with ⟨hv, h0⟩ | ⟨g, cap, cur, hv, _⟩
  · exact ⟨none, 0, by rw [hv, h0]⟩
  · exact ⟨_, cap, hv⟩
theorem own_lt' {w : World} {base n : Nat} {v : Value} {xs : List Int} (h : Own w base v n xs) : ∀ k, v.ownBlock = some k → base ≤ k := by
  intro k hk
  rcases h.2 with ⟨hv, _⟩ | ⟨g, cap, cur, hv, hbb, hg, rest⟩
  · rw [hv] at hk
    cases hk
  · rw [hv] at hk
    cases hk
    exact hbb

set_option maxHeartbeats 1000000 in
theorem rint_any {w : World} {R d0 : Nat} {xs : List Int} (h : Rr w R d0 xs) :
    Calls Try.prog 74 #[.pointer (some ⟨R, 0, none⟩)] w fun x w' => x = .returned (.tuple #[.int .i64 (Cd.dec xs).1, .int .i64 (Cd.dec xs).2.2]) ∧ Rr w' R d0 (xs.drop (Cd.dec xs).2.1.toNat) ∧ Tn [R] w w' := by
  obtain ⟨p, len, cap, hk, hi, hl, hn, hd0⟩ := h
  have c0 : w.cell? ⟨R, 0, none⟩ = some (.slice p len cap) := hk.cell 0
  have f0 : w.frozen? ⟨R, 0, none⟩ = false := hk.frozen 0
  have HK : Hid (Bk w R 89 #[.slice p len cap]) := hk
  have HI : Hid (InB 9223372036854775807 w p len cap xs) := hi
  have HN : Hid (0 < xs.length → ∀ ad, p = some ad → ad.block < d0) := hn
  have HL : Hid (xs.length ≤ 140737488355328) := hl
  have hle := hi.le
  have hroom := hi.room
  have hl47 : len ≤ 140737488355328 := by have := hi.lenq; omega
  have hz := Cd.dec_zero xs hi.byte
  rw [hi.lenq] at hz
  obtain ⟨D, hD⟩ : ∃ D, Cd.dec xs = D := ⟨_, rfl⟩
  rw [hD] at hz ⊢
  have HDD : Hid (Cd.dec xs = D) := hD
  clear hD hk hi hn hl
  obtain ⟨d1, d2, d3⟩ := D
  simp only at hz ⊢
  obtain ⟨k, rfl⟩ := Int.eq_ofNat_of_zero_le hz.1
  simp only [Int.toNat_natCast]
  go_enter Try.func74, Try.ntmps74
  go_wp2_with fail
  refine (parse_any p cap len xs _ HI.out.lenq HI.out.bys hle (by omega) HI.out.byte).mono ?_
  rintro e w1 ⟨rfl, hw1⟩
  subst hw1
  rw [HDD.out]
  unfold three
  cases p with
  | none =>
    obtain ⟨h1, h2⟩ := HI.out.nil rfl
    subst h1 h2
    obtain rfl : k = 0 := by omega
    go_wp2
    go_ret2
    have t3 : Tn [R] w1 (w1.setCell ⟨R, 0, none⟩ (.slice none 0 0)) := (Tn.refl _ _).setCell (.inl (by simp)) _
    have t4 := (Tn.refl _ _).trans t3 (fun x hx => .inl hx)
    have hr4 : Rr (w1.setCell ⟨R, 0, none⟩ (.slice none 0 0)) R d0 (xs.drop 0) := ⟨none, 0, 0, HK.out.set 0 _, HI.out.tn t4 (fun _ ad had => by cases had), HL.out, (fun _ ad had => by cases had), hd0⟩
    exact ⟨rfl, hr4, t4⟩
  | some ad =>
    have hkl : (k : Int) ≤ (len : Int) := by omega
    have hkc : (k : Int) ≤ (cap : Int) := by omega
    have hk' : k ≤ len := by omega
    by_cases hck : cap = k
    · go_wp2
      go_ret2
      have hq := rr_step0 HI.out hd0 hk' hck (Tn.refl _ _) HK.out
      exact ⟨rfl, hq.1, hq.2⟩
    · go_wp2
      go_ret2
      have hq := rr_step HI.out HL.out (fun hp => HN.out hp ad rfl) hd0 hk' (Tn.refl _ _) HK.out
      exact ⟨rfl, hq.1, hq.2⟩

set_option maxHeartbeats 1000000 in
theorem rflg_any {w : World} {R d0 : Nat} {xs : List Int} (h : Rr w R d0 xs) :
    Calls Try.prog 78 #[.pointer (some ⟨R, 0, none⟩)] w fun x w' => x = .returned (.tuple #[.bool (Cd.decF xs).1, .int .i64 (Cd.decF xs).2.2]) ∧ Rr w' R d0 (xs.drop (Cd.decF xs).2.1.toNat) ∧ Tn [R] w w' := by
  obtain ⟨p, len, cap, hk, hi, hl, hn, hd0⟩ := h
  have c0 : w.cell? ⟨R, 0, none⟩ = some (.slice p len cap) := hk.cell 0
  have f0 : w.frozen? ⟨R, 0, none⟩ = false := hk.frozen 0
  have HK : Hid (Bk w R 89 #[.slice p len cap]) := hk
  have HI : Hid (InB 9223372036854775807 w p len cap xs) := hi
  have HN : Hid (0 < xs.length → ∀ ad, p = some ad → ad.block < d0) := hn
  have HL : Hid (xs.length ≤ 140737488355328) := hl
  have hle := hi.le
  have hroom := hi.room
  have hl47 : len ≤ 140737488355328 := by have := hi.lenq; omega
  have hz := Cd.decF_zero xs hi.byte
  rw [hi.lenq] at hz
  obtain ⟨D, hD⟩ : ∃ D, Cd.decF xs = D := ⟨_, rfl⟩
  rw [hD] at hz ⊢
  have HDD : Hid (Cd.decF xs = D) := hD
  clear hD hk hi hn hl
  obtain ⟨d1, d2, d3⟩ := D
  simp only at hz ⊢
  obtain ⟨k, rfl⟩ := Int.eq_ofNat_of_zero_le hz.1
  simp only [Int.toNat_natCast]
  go_enter Try.func78, Try.ntmps78
  go_wp2_with fail
  refine (parseFlag_any p cap len xs _ HI.out.lenq HI.out.bys hle (by omega) HI.out.byte).mono ?_
  rintro e w1 ⟨rfl, hw1⟩
  subst hw1
  rw [HDD.out]
  skip
  cases p with
  | none =>
    obtain ⟨h1, h2⟩ := HI.out.nil rfl
    subst h1 h2
    obtain rfl : k = 0 := by omega
    go_wp2
    go_ret2
    have t3 : Tn [R] w1 (w1.setCell ⟨R, 0, none⟩ (.slice none 0 0)) := (Tn.refl _ _).setCell (.inl (by simp)) _
    have t4 := (Tn.refl _ _).trans t3 (fun x hx => .inl hx)
    have hr4 : Rr (w1.setCell ⟨R, 0, none⟩ (.slice none 0 0)) R d0 (xs.drop 0) := ⟨none, 0, 0, HK.out.set 0 _, HI.out.tn t4 (fun _ ad had => by cases had), HL.out, (fun _ ad had => by cases had), hd0⟩
    exact ⟨rfl, hr4, t4⟩
  | some ad =>
    have hkl : (k : Int) ≤ (len : Int) := by omega
    have hkc : (k : Int) ≤ (cap : Int) := by omega
    have hk' : k ≤ len := by omega
    by_cases hck : cap = k
    · go_wp2
      go_ret2
      have hq := rr_step0 HI.out hd0 hk' hck (Tn.refl _ _) HK.out
      exact ⟨rfl, hq.1, hq.2⟩
    · go_wp2
      go_ret2
      have hq := rr_step HI.out HL.out (fun hp => HN.out hp ad rfl) hd0 hk' (Tn.refl _ _) HK.out
      exact ⟨rfl, hq.1, hq.2⟩

set_option maxHeartbeats 1000000 in
theorem rbytes_any {w : World} {R d0 : Nat} {xs : List Int} (h : Rr w R d0 xs) (hlt : d0 ≤ w.heap.size) :
    Calls Try.prog 79 #[.pointer (some ⟨R, 0, none⟩)] w fun x w' => ∃ v, x = .returned (.tuple #[v, .int .i64 (Cd.decT xs).2.2]) ∧ Own w' w.heap.size v (Cd.decT xs).1.length (Cd.decT xs).1 ∧ Rr w' R d0 (xs.drop (Cd.decT xs).2.1.toNat) ∧ Tn [R] w w' := by
  obtain ⟨p, len, cap, hk, hi, hl, hn, hd0⟩ := h
  have c0 : w.cell? ⟨R, 0, none⟩ = some (.slice p len cap) := hk.cell 0
  have f0 : w.frozen? ⟨R, 0, none⟩ = false := hk.frozen 0
  have HK : Hid (Bk w R 89 #[.slice p len cap]) := hk
  have HI : Hid (InB 9223372036854775807 w p len cap xs) := hi
  have HN : Hid (0 < xs.length → ∀ ad, p = some ad → ad.block < d0) := hn
  have HL : Hid (xs.length ≤ 140737488355328) := hl
  have hle := hi.le
  have hroom := hi.room
  have hl47 : len ≤ 140737488355328 := by have := hi.lenq; omega
  have hz := Cd.decT_zero xs hi.byte
  rw [hi.lenq] at hz
  obtain ⟨D, hD⟩ : ∃ D, Cd.decT xs = D := ⟨_, rfl⟩
  rw [hD] at hz ⊢
  have HDD : Hid (Cd.decT xs = D) := hD
  clear hD hk hi hn hl
  obtain ⟨d1, d2, d3⟩ := D
  simp only at hz ⊢
  obtain ⟨k, rfl⟩ := Int.eq_ofNat_of_zero_le hz.1
  simp only [Int.toNat_natCast]
  go_enter Try.func79, Try.ntmps79
  go_wp2_with fail
  refine (parseBytes_len p cap len xs _ HI.out.lenq HI.out.bys hle hl47 (by omega) HI.out.byte).mono ?_
  rintro e w1 ⟨v, rfl, ho, hb⟩
  rw [HDD.out] at ho ⊢
  simp only at ho ⊢
  have HO : Hid (Own w1 w.heap.size v d1.length d1) := ho
  have hRw : R < w.heap.size := HK.out.lt
  have hk1 := HK.out.below hb HK.out.lt
  have HK1 : Hid (Bk w1 R 89 #[.slice p len cap]) := hk1
  have HT1 : Hid (Tn [R] w w1) := Tn.of_below hb _
  have g0 : w1.cell? ⟨R, 0, none⟩ = some (.slice p len cap) := hk1.cell 0
  have g1 : w1.frozen? ⟨R, 0, none⟩ = false := hk1.frozen 0
  obtain ⟨pv, cv, hv⟩ := own_form' ho
  subst hv
  clear ho hb hk1 c0 f0
  cases p with
  | none =>
    obtain ⟨h1, h2⟩ := HI.out.nil rfl
    subst h1 h2
    obtain rfl : k = 0 := by omega
    go_wp2
    go_ret2
    have t3 : Tn [R] w1 (w1.setCell ⟨R, 0, none⟩ (.slice none 0 0)) := (Tn.refl _ _).setCell (.inl (by simp)) _
    have t4 := HT1.out.trans t3 (fun x hx => .inl hx)
    have hr4 : Rr (w1.setCell ⟨R, 0, none⟩ (.slice none 0 0)) R d0 (xs.drop 0) := ⟨none, 0, 0, HK1.out.set 0 _, HI.out.tn t4 (fun _ ad had => by cases had), HL.out, (fun _ ad had => by cases had), hd0⟩
    exact ⟨_, rfl, HO.out.keptN fun j hj => Below.heap_setCell w1 ⟨R, 0, none⟩ _ j (by have := own_lt' HO.out j hj; show j ≠ R; omega), hr4, t4⟩
  | some ad =>
    have hkl : (k : Int) ≤ (len : Int) := by omega
    have hkc : (k : Int) ≤ (cap : Int) := by omega
    have hk' : k ≤ len := by omega
    by_cases hck : cap = k
    · go_wp2
      go_ret2
      have hq := rr_step0 HI.out hd0 hk' hck HT1.out HK1.out
      exact ⟨_, rfl, HO.out.keptN fun j hj => Below.heap_setCell w1 ⟨R, 0, none⟩ _ j (by have := own_lt' HO.out j hj; show j ≠ R; omega), hq.1, hq.2⟩
    · go_wp2
      go_ret2
      have hq := rr_step HI.out HL.out (fun hp => HN.out hp ad rfl) hd0 hk' HT1.out HK1.out
      exact ⟨_, rfl, HO.out.keptN fun j hj => Below.heap_setCell w1 ⟨R, 0, none⟩ _ j (by have := own_lt' HO.out j hj; show j ≠ R; omega), hq.1, hq.2⟩

end Go.Proofs.Ytlfgclmgpbaenaa

namespace Go.Proofs.Ytlfgclmgpbaenaa
open Go.RowKit
set_option linter.unusedVariables false
set_option maxRecDepth 100000

/-- The document's taker in memory. -/
structure Tk (w : World) (K R d0 : Nat) (s : Rs) : Prop where
  k : Bk w K 91 #[.pointer (some ⟨R, 0, none⟩), .int .i64 s.e]
  r : Rr w R d0 s.xs
  ne : K ≠ R
  dk : d0 ≤ K

section
variable {w w' : World} {K R d0 : Nat} {s : Rs}

theorem Rr.lt {xs : List Int} (h : Rr w R d0 xs) : R < w.heap.size ∧ d0 ≤ R := by
  obtain ⟨p, len, cap, hk, _, _, _, hd⟩ := h
  exact ⟨hk.lt, hd⟩

theorem Tk.keep {S : List Nat} (h : Tk w K R d0 s) (ht : Tn S w w') (hK : K ∉ S) (hR : R ∉ S) (hd : ∀ b ∈ S, d0 ≤ b) : Tk w' K R d0 s := ⟨h.k.tn ht hK, h.r.keep ht hR hd, h.ne, h.dk⟩

theorem Tk.below (h : Tk w K R d0 s) (hb : Below w.heap.size w w') : Tk w' K R d0 s := h.keep (Tn.of_below hb []) (by simp) (by simp) (by simp)

/-- The taker's error turned. -/
theorem Tk.setE (h : Tk w K R d0 s) (e : Int) : Tk (w.setCell ⟨K, 1, none⟩ (.int .i64 e)) K R d0 ⟨s.xs, e⟩ ∧ Tn [K, R] w (w.setCell ⟨K, 1, none⟩ (.int .i64 e)) := by
  have ht : Tn [K] w (w.setCell ⟨K, 1, none⟩ (.int .i64 e)) := (Tn.refl _ _).setCell (.inl (by simp)) _
  have hdk := h.dk
  have hne := h.ne
  refine ⟨⟨h.k.set 1 _, h.r.keep ht (by simp; omega) (by simp; exact hdk), h.ne, h.dk⟩, ht.mono (by simp)⟩

theorem Tk.cells (h : Tk w K R d0 s) : w.cell? ⟨K, 0, none⟩ = some (.pointer (some ⟨R, 0, none⟩)) ∧ w.cell? ⟨K, 1, none⟩ = some (.int .i64 s.e) ∧ w.frozen? ⟨K, 1, none⟩ = false := ⟨h.k.cell 0, h.k.cell 1, h.k.frozen 1⟩
end

set_option maxHeartbeats 1000000 in
theorem num_tk {w : World} {K R d0 : Nat} {s : Rs} (h : Tk w K R d0 s) :
    Calls Try.prog 55 #[.pointer (some ⟨K, 0, none⟩)] w fun x w' => x = .returned (.int .i64 s.num.1) ∧ Tk w' K R d0 s.num.2 ∧ Tn [K, R] w w' := by
  obtain ⟨c0, c1, f1⟩ := h.cells
  have H0 : Hid (Tk w K R d0 s) := h
  skip
  clear h
  by_cases he : s.e = 0
  · have hb : (s.e != 0) = false := by simpa using he
    have HN : Hid (s.num = ((Cd.dec s.xs).1, ⟨s.xs.drop (Cd.dec s.xs).2.1.toNat, (Cd.dec s.xs).2.2⟩)) := by unfold Hid Rs.num; rw [if_pos he]
    clear he
    go_enter Try.func55, Try.ntmps55
    go_wp2_with fail
    refine (rint_any H0.out.r).mono ?_
    rintro e w1 ⟨rfl, hr, ht⟩
    have h1 : Tk w1 K R d0 ⟨s.xs.drop (Cd.dec s.xs).2.1.toNat, s.e⟩ := ⟨H0.out.k.tn ht (by have := H0.out.ne; simpa using this), hr, H0.out.ne, H0.out.dk⟩
    have H1 : Hid (Tk w1 K R d0 ⟨s.xs.drop (Cd.dec s.xs).2.1.toNat, s.e⟩) := h1
    have T1 : Hid (Tn [K, R] w w1) := ht.mono (by simp)
    obtain ⟨g0, g1, g2⟩ := h1.cells
    simp only at g1
    clear h1 hr ht c0 c1 f1
    go_wp2
    go_ret
    rw [HN.out]
    have hq := H1.out.setE (Cd.dec s.xs).2.2
    exact ⟨rfl, hq.1, T1.out.trans hq.2 (fun x hx => .inl hx)⟩
  · have hb : (s.e != 0) = true := by simpa using he
    have HN : Hid (s.num = (0, s)) := by unfold Hid Rs.num; rw [if_neg he]
    clear he
    go_enter Try.func55, Try.ntmps55
    go_wp2
    go_ret
    rw [HN.out]
    exact ⟨rfl, H0.out, Tn.refl _ _⟩

set_option maxHeartbeats 1000000 in
theorem flag_tk {w : World} {K R d0 : Nat} {s : Rs} (h : Tk w K R d0 s) :
    Calls Try.prog 61 #[.pointer (some ⟨K, 0, none⟩)] w fun x w' => x = .returned (.bool s.flag.1) ∧ Tk w' K R d0 s.flag.2 ∧ Tn [K, R] w w' := by
  obtain ⟨c0, c1, f1⟩ := h.cells
  have H0 : Hid (Tk w K R d0 s) := h
  skip
  clear h
  by_cases he : s.e = 0
  · have hb : (s.e != 0) = false := by simpa using he
    have HN : Hid (s.flag = ((Cd.decF s.xs).1, ⟨s.xs.drop (Cd.decF s.xs).2.1.toNat, (Cd.decF s.xs).2.2⟩)) := by unfold Hid Rs.flag; rw [if_pos he]
    clear he
    go_enter Try.func61, Try.ntmps61
    go_wp2_with fail
    refine (rflg_any H0.out.r).mono ?_
    rintro e w1 ⟨rfl, hr, ht⟩
    have h1 : Tk w1 K R d0 ⟨s.xs.drop (Cd.decF s.xs).2.1.toNat, s.e⟩ := ⟨H0.out.k.tn ht (by have := H0.out.ne; simpa using this), hr, H0.out.ne, H0.out.dk⟩
    have H1 : Hid (Tk w1 K R d0 ⟨s.xs.drop (Cd.decF s.xs).2.1.toNat, s.e⟩) := h1
    have T1 : Hid (Tn [K, R] w w1) := ht.mono (by simp)
    obtain ⟨g0, g1, g2⟩ := h1.cells
    simp only at g1
    clear h1 hr ht c0 c1 f1
    go_wp2
    go_ret
    rw [HN.out]
    have hq := H1.out.setE (Cd.decF s.xs).2.2
    exact ⟨rfl, hq.1, T1.out.trans hq.2 (fun x hx => .inl hx)⟩
  · have hb : (s.e != 0) = true := by simpa using he
    have HN : Hid (s.flag = (false, s)) := by unfold Hid Rs.flag; rw [if_neg he]
    clear he
    go_enter Try.func61, Try.ntmps61
    go_wp2
    go_ret
    rw [HN.out]
    exact ⟨rfl, H0.out, Tn.refl _ _⟩

set_option maxHeartbeats 1000000 in
theorem text_tk {w : World} {K R d0 : Nat} {s : Rs} (h : Tk w K R d0 s) :
    Calls Try.prog 62 #[.pointer (some ⟨K, 0, none⟩)] w fun x w' => x = .returned (.string s.text.1) ∧ Tk w' K R d0 s.text.2 ∧ Tn [K, R] w w' := by
  obtain ⟨c0, c1, f1⟩ := h.cells
  have H0 : Hid (Tk w K R d0 s) := h
  have HY : Hid (∀ y ∈ s.xs, 0 ≤ y ∧ y < 256) := by obtain ⟨_, _, _, _, hi, _⟩ := h.r; exact hi.byte
  clear h
  by_cases he : s.e = 0
  · have hb : (s.e != 0) = false := by simpa using he
    have HN : Hid (s.text = (strOfNums (Cd.decT s.xs).1, ⟨s.xs.drop (Cd.decT s.xs).2.1.toNat, (Cd.decT s.xs).2.2⟩)) := by unfold Hid Rs.text; rw [if_pos he]
    clear he
    go_enter Try.func62, Try.ntmps62
    go_wp2_with fail
    refine (rbytes_any H0.out.r (by have := H0.out.dk; have := H0.out.k.lt; omega)).mono ?_
    rintro e w1 ⟨v, rfl, ho, hr, ht⟩
    obtain ⟨pv, cv, hv⟩ := own_form' ho
    subst hv
    have hlK : K < w.heap.size := H0.out.k.lt
    have HO : Hid (Own w1 w.heap.size (.slice pv (Cd.decT s.xs).1.length cv) (Cd.decT s.xs).1.length (Cd.decT s.xs).1) := ho
    have h1 : Tk w1 K R d0 ⟨s.xs.drop (Cd.decT s.xs).2.1.toNat, s.e⟩ := ⟨H0.out.k.tn ht (by have := H0.out.ne; simpa using this), hr, H0.out.ne, H0.out.dk⟩
    have H1 : Hid (Tk w1 K R d0 ⟨s.xs.drop (Cd.decT s.xs).2.1.toNat, s.e⟩) := h1
    have T1 : Hid (Tn [K, R] w w1) := ht.mono (by simp)
    obtain ⟨g0, g1, g2⟩ := h1.cells
    simp only at g1
    clear h1 hr ht c0 c1 f1 ho
    have HB : Hid (Bys (w1.setCell ⟨K, 1, none⟩ (.int .i64 (Cd.decT s.xs).2.2)) pv (Cd.decT s.xs).1) := by
      have ho2 : Own (w1.setCell ⟨K, 1, none⟩ (.int .i64 (Cd.decT s.xs).2.2)) w.heap.size (.slice pv (Cd.decT s.xs).1.length cv) (Cd.decT s.xs).1.length (Cd.decT s.xs).1 := HO.out.keptN fun j hj => Below.heap_setCell w1 ⟨K, 1, none⟩ _ j (by have := own_lt' HO.out j hj; show j ≠ K; omega)
      obtain ⟨p, c, hv, _, _, hb⟩ := ho2.bys
      simp only [Value.slice.injEq] at hv
      rw [hv.1]
      exact hb
    have hcs := conv_str HB.out (Cd.decT s.xs).1.length cv rfl
    go_wp2
    go_ret
    rw [HN.out]
    have hq := H1.out.setE (Cd.decT s.xs).2.2
    exact ⟨rfl, hq.1, T1.out.trans hq.2 (fun x hx => .inl hx)⟩
  · have hb : (s.e != 0) = true := by simpa using he
    have HN : Hid (s.text = (.empty, s)) := by unfold Hid Rs.text; rw [if_neg he]
    clear he
    go_enter Try.func62, Try.ntmps62
    go_wp2
    go_ret
    rw [HN.out]
    exact ⟨rfl, H0.out, Tn.refl _ _⟩

set_option maxHeartbeats 400000 in
theorem fails_tk {w : World} {K R d0 : Nat} {s : Rs} (h : Tk w K R d0 s) (e : Int) :
    Calls Try.prog 75 #[.pointer (some ⟨K, 0, none⟩), .int .i64 e] w fun x w' => x = .returned (.tuple #[]) ∧ Tk w' K R d0 (s.note e) ∧ Tn [K, R] w w' := by
  obtain ⟨c0, c1, f1⟩ := h.cells
  have H0 : Hid (Tk w K R d0 s) := h
  clear h
  by_cases he : s.e = 0
  · have hb : (s.e == 0) = true := by simpa using he
    have HE : Hid (s.note e = ⟨s.xs, e⟩) := by unfold Hid Rs.note; rw [if_pos he]
    clear he
    go_enter Try.func75, Try.ntmps75
    go_wp2
    go_end0
    rw [HE.out]
    have hq := H0.out.setE e
    exact ⟨rfl, hq.1, hq.2⟩
  · have hb : (s.e == 0) = false := by simpa using he
    have HE : Hid (s.note e = s) := by unfold Hid Rs.note; rw [if_neg he]
    clear he
    go_enter Try.func75, Try.ntmps75
    go_wp2
    go_end0
    rw [HE.out]
    exact ⟨rfl, H0.out, Tn.refl _ _⟩

theorem Rs.num_e {s : Rs} (h : s.num.2.e ≠ 0) : s.num.1 = 0 ∨ s.e = 0 := by
  unfold Rs.num at h ⊢
  split
  · rename_i h0; exact .inr h0
  · exact .inl rfl

theorem Rs.num_zero {s : Rs} (hb : ∀ y ∈ s.xs, 0 ≤ y ∧ y < 256) (h : s.num.2.e ≠ 0) : s.num.1 = 0 := by
  unfold Rs.num at h ⊢
  split
  · rename_i h0
    rw [if_pos h0] at h
    simp only at h ⊢
    have := Cd.dec_facts s.xs hb
    omega
  · rfl

theorem Tk.byte {w : World} {K R d0 : Nat} {s : Rs} (h : Tk w K R d0 s) : ∀ y ∈ s.xs, 0 ≤ y ∧ y < 256 := by
  obtain ⟨_, _, _, _, hi, _⟩ := h.r
  exact hi.byte

theorem Rs.note_ne {s : Rs} {e : Int} (h : e ≠ 0) : (s.note e).e ≠ 0 := by
  unfold Rs.note
  split
  · exact h
  · assumption

set_option maxHeartbeats 1000000 in
theorem count_tk {w : World} {K R d0 : Nat} {s : Rs} (h : Tk w K R d0 s) (most : Int) (hm : 0 ≤ most) :
    Calls Try.prog 56 #[.pointer (some ⟨K, 0, none⟩), .int .i64 most] w fun x w' => x = .returned (.int .i64 (s.count most).1) ∧ Tk w' K R d0 (s.count most).2 ∧ Tn [K, R] w w' := by
  have H0 : Hid (Tk w K R d0 s) := h
  have HZ : Hid (s.num.2.e ≠ 0 → s.num.1 = 0) := Rs.num_zero h.byte
  clear h
  go_enter Try.func56, Try.ntmps56
  go_wp2_with fail
  refine (num_tk H0.out).mono ?_
  rintro e w1 ⟨rfl, h1, t1⟩
  obtain ⟨N, t, hN⟩ : ∃ N t, s.num = (N, t) := ⟨_, _, rfl⟩
  have HN : Hid (s.num = (N, t)) := hN
  rw [hN] at h1 HZ ⊢
  simp only at h1 HZ ⊢
  have H1 : Hid (Tk w1 K R d0 t) := h1
  have T1 : Hid (Tn [K, R] w w1) := t1
  obtain ⟨-, c1, -⟩ := h1.cells
  clear h1 t1 hN
  by_cases hq : N < 0 ∨ most < N
  · have HC : Hid (s.count most = (0, t.note 32)) := by
      unfold Hid Rs.count
      rw [HN.out, if_neg (by rw [Rc.inn_iff]; omega)]
    have hNE : (t.note 32).e ≠ 0 := Rs.note_ne (by omega)
    by_cases hq1 : N < 0
    · clear hq
      go_wp2_with fail
      refine (fails_tk H1.out 32).mono ?_
      rintro e w3 ⟨rfl, h3, t3⟩
      have H3 : Hid (Tk w3 K R d0 (t.note 32)) := h3
      have T3 : Hid (Tn [K, R] w w3) := T1.out.trans t3 (fun x hx => .inl hx)
      obtain ⟨-, c3, -⟩ := h3.cells
      have hnb : ((t.note 32).e != 0) = true := by simpa using hNE
      clear h3 t3 c1 hNE
      go_wp2
      go_ret
      rw [HC.out]
      exact ⟨rfl, H3.out, T3.out⟩
    · have hq2 : most < N := by omega
      have hq3 : decide (N < 0) = false := by simpa using hq1
      clear hq hq1
      go_wp2_with fail
      refine (fails_tk H1.out 32).mono ?_
      rintro e w3 ⟨rfl, h3, t3⟩
      have H3 : Hid (Tk w3 K R d0 (t.note 32)) := h3
      have T3 : Hid (Tn [K, R] w w3) := T1.out.trans t3 (fun x hx => .inl hx)
      obtain ⟨-, c3, -⟩ := h3.cells
      have hnb : ((t.note 32).e != 0) = true := by simpa using hNE
      clear h3 t3 c1 hNE
      go_wp2
      go_ret
      rw [HC.out]
      exact ⟨rfl, H3.out, T3.out⟩
  · have HC : Hid (s.count most = (N, t)) := by
      unfold Hid Rs.count
      rw [HN.out, if_pos (by rw [Rc.inn_iff]; omega)]
    have hq3 : decide (N < 0) = false := by simp; omega
    have hq4 : decide (most < N) = false := by simp; omega
    clear hq
    by_cases he : t.e = 0
    · have hnb : (t.e != 0) = false := by simpa using he
      clear he
      go_wp2
      go_ret
      rw [HC.out]
      exact ⟨rfl, H1.out, T1.out⟩
    · have hnb : (t.e != 0) = true := by simpa using he
      obtain rfl : N = 0 := HZ.out he
      clear he
      go_wp2
      go_ret
      rw [HC.out]
      exact ⟨rfl, H1.out, T1.out⟩

end Go.Proofs.Ytlfgclmgpbaenaa

namespace Go.Proofs.Ytlfgclmgpbaenaa
open Go.RowKit
set_option linter.unusedVariables false
set_option maxRecDepth 100000

/-- A taker beside two blocks. -/
structure TkB (S : List Nat) (w0 w : World) (K R d0 : Nat) (s : Rs) (A B : Nat) (T : TypeId) (ca cb : Array Value) : Prop where
  tk : Tk w K R d0 s
  a : Bk w A T ca
  b : Bk w B T cb
  tn : Tn S w0 w
  kS : K ∈ S ∨ w0.heap.size ≤ K
  rS : R ∈ S ∨ w0.heap.size ≤ R
  aS : A ∈ S ∨ w0.heap.size ≤ A
  bS : B ∈ S ∨ w0.heap.size ≤ B
  ne : A ≠ K ∧ A ≠ R ∧ B ≠ K ∧ B ≠ R ∧ A ≠ B
  d : d0 ≤ A ∧ d0 ≤ B

section
variable {S : List Nat} {w0 w : World} {K R d0 : Nat} {s : Rs} {A B : Nat} {T : TypeId} {ca cb : Array Value}

theorem TkB.set (h : TkB S w0 w K R d0 s A B T ca cb) (i : Nat) (u : Value) : TkB S w0 (w.setCell ⟨B, i, none⟩ u) K R d0 s A B T ca (cb.setIfInBounds i u) := by
  obtain ⟨n1, n2, n3, n4, n5⟩ := h.ne
  have hd := h.d.2
  exact ⟨h.tk.keep (S := [B]) ((Tn.refl _ _).setCell (.inl (by simp)) _) (by simp; omega) (by simp; omega) (by simp; exact hd), h.a.other (by show A ≠ B; omega) _, h.b.set i u, h.tn.setCell h.bS _, h.kS, h.rS, h.aS, h.bS, h.ne, h.d⟩

theorem TkB.setA (h : TkB S w0 w K R d0 s A B T ca cb) (i : Nat) (u : Value) : TkB S w0 (w.setCell ⟨A, i, none⟩ u) K R d0 s A B T (ca.setIfInBounds i u) cb := by
  obtain ⟨n1, n2, n3, n4, n5⟩ := h.ne
  have hd := h.d.1
  exact ⟨h.tk.keep (S := [A]) ((Tn.refl _ _).setCell (.inl (by simp)) _) (by simp; omega) (by simp; omega) (by simp; exact hd), h.a.set i u, h.b.other (by show B ≠ A; omega) _, h.tn.setCell h.aS _, h.kS, h.rS, h.aS, h.bS, h.ne, h.d⟩

theorem TkB.step {w' : World} {s' : Rs} (h : TkB S w0 w K R d0 s A B T ca cb) (hr : Tk w' K R d0 s') (ht : Tn [K, R] w w') : TkB S w0 w' K R d0 s' A B T ca cb := by
  obtain ⟨n1, n2, n3, n4, n5⟩ := h.ne
  refine ⟨hr, h.a.tn ht (by simp; omega), h.b.tn ht (by simp; omega), h.tn.trans ht (fun x hx => ?_), h.kS, h.rS, h.aS, h.bS, h.ne, h.d⟩
  simp only [List.mem_cons, List.not_mem_nil, or_false] at hx
  rcases hx with rfl | rfl
  · exact h.kS
  · exact h.rS

theorem TkB.below {w' : World} (h : TkB S w0 w K R d0 s A B T ca cb) (hb : Below w.heap.size w w') : TkB S w0 w' K R d0 s A B T ca cb :=
  ⟨h.tk.below hb, h.a.below hb h.a.lt, h.b.below hb h.b.lt, h.tn.trans (Tn.of_below hb []) (by simp), h.kS, h.rS, h.aS, h.bS, h.ne, h.d⟩

theorem numT (h : TkB S w0 w K R d0 s A B T ca cb) : Calls Try.prog 55 #[.pointer (some ⟨K, 0, none⟩)] w fun x w' => x = .returned (.int .i64 s.num.1) ∧ TkB S w0 w' K R d0 s.num.2 A B T ca cb :=
  (num_tk h.tk).mono fun x w' ⟨a, b, c⟩ => ⟨a, h.step b c⟩
theorem textT (h : TkB S w0 w K R d0 s A B T ca cb) : Calls Try.prog 62 #[.pointer (some ⟨K, 0, none⟩)] w fun x w' => x = .returned (.string s.text.1) ∧ TkB S w0 w' K R d0 s.text.2 A B T ca cb :=
  (text_tk h.tk).mono fun x w' ⟨a, b, c⟩ => ⟨a, h.step b c⟩
theorem flagT (h : TkB S w0 w K R d0 s A B T ca cb) : Calls Try.prog 61 #[.pointer (some ⟨K, 0, none⟩)] w fun x w' => x = .returned (.bool s.flag.1) ∧ TkB S w0 w' K R d0 s.flag.2 A B T ca cb :=
  (flag_tk h.tk).mono fun x w' ⟨a, b, c⟩ => ⟨a, h.step b c⟩
end

set_option maxHeartbeats 2000000 in
theorem write_tk {w : World} {K R d0 : Nat} {s : Rs} (h : Tk w K R d0 s) :
    Calls Try.prog 57 #[.pointer (some ⟨K, 0, none⟩)] w fun x w' => x = .returned (.agg s.write.1.cells.toArray) ∧ Tk w' K R d0 s.write.2 ∧ Tn [K, R] w w' := by
  have hK : K < w.heap.size := h.k.lt
  have hR : R < w.heap.size := h.r.lt.1
  have hd : d0 ≤ w.heap.size := by have := h.dk; omega
  have H0 : Hid (Tk (w.alloc (.cells #[.string .empty, .string .empty, .bool false] 33)) K R d0 s) := h.below ((Below.refl _ _).alloc (Nat.le_refl _) _)
  have HA0 : Hid (Bk (w.alloc (.cells #[.string .empty, .string .empty, .bool false] 33)) w.heap.size 33 #[.string .empty, .string .empty, .bool false]) := Bk.new _ _ _
  have HT0 : Hid (Tn [K, R] w (w.alloc (.cells #[.string .empty, .string .empty, .bool false] 33))) := (Tn.refl _ _).alloc _
  clear h
  go_enter Try.func57, Try.ntmps57
  go_wp2_with fail
  refine (text_tk H0.out).mono ?_
  rintro e w1 ⟨rfl, h1, t1⟩
  have hs1 : w.heap.size < w1.heap.size := by have := t1.size; simp at this; omega
  have H1 : Hid (TkB [K, R] w (w1.alloc (.cells #[.string s.text.1, .string .empty, .bool false] 33)) K R d0 s.text.2 w.heap.size w1.heap.size 33 #[.string .empty, .string .empty, .bool false] #[.string s.text.1, .string .empty, .bool false]) :=
    ⟨h1.below ((Below.refl _ _).alloc (Nat.le_refl _) _), (HA0.out.tn t1 (by simp; omega)).alloc _, Bk.new _ _ _, (HT0.out.trans t1 (fun x hx => .inl hx)).alloc _, by simp, by simp, .inr (Nat.le_refl _), .inr (by omega), ⟨by omega, by omega, by omega, by omega, by omega⟩, ⟨hd, by omega⟩⟩
  clear h1 t1 H0 HA0 HT0
  go_wp2_with fail
  refine (flagT H1.out).mono ?_
  rintro e w2 ⟨rfl, h2⟩
  have H2 : Hid (TkB [K, R] w w2 K R d0 s.text.2.flag.2 w.heap.size w1.heap.size 33 #[.string .empty, .string .empty, .bool false] #[.string s.text.1, .string .empty, .bool false]) := h2
  have c2 : w2.cell? ⟨w1.heap.size, 2, none⟩ = some (.bool false) := h2.b.cell 2
  have f2 : w2.frozen? ⟨w1.heap.size, 2, none⟩ = false := h2.b.frozen 2
  clear h2 H1
  go_wp2_with fail
  refine (textT (H2.out.set 2 _)).mono ?_
  rintro e w3 ⟨rfl, h3⟩
  have h3' : TkB [K, R] w w3 K R d0 s.text.2.flag.2.text.2 w.heap.size w1.heap.size 33 #[.string .empty, .string .empty, .bool false] #[.string s.text.1, .string .empty, .bool s.text.2.flag.1] := h3
  have H3 : Hid (TkB [K, R] w (w3.setCell ⟨w1.heap.size, 1, none⟩ (.string s.text.2.flag.2.text.1)) K R d0 s.text.2.flag.2.text.2 w.heap.size w1.heap.size 33 #[.string .empty, .string .empty, .bool false] s.write.1.cells.toArray) := h3'.set 1 _
  have c3 : w3.cell? ⟨w1.heap.size, 1, none⟩ = some (.string .empty) := h3'.b.cell 1
  have f3 : w3.frozen? ⟨w1.heap.size, 1, none⟩ = false := h3'.b.frozen 1
  have d30 : w3.cell? ⟨w1.heap.size, 0, none⟩ = some (.string s.text.1) := h3'.b.cell 0
  have d32 : w3.cell? ⟨w1.heap.size, 2, none⟩ = some (.bool s.text.2.flag.1) := h3'.b.cell 2
  obtain ⟨-, e3, e4⟩ := h3'.tk.cells
  obtain ⟨-, e5, e6⟩ := H3.out.tk.cells
  have pa0 : w3.cell? ⟨w.heap.size, 0, none⟩ = some (.string .empty) := h3'.a.cell 0
  have pa1 : w3.cell? ⟨w.heap.size, 1, none⟩ = some (.string .empty) := h3'.a.cell 1
  have pa2 : w3.cell? ⟨w.heap.size, 2, none⟩ = some (.bool false) := h3'.a.cell 2
  have qa0 : w3.frozen? ⟨w.heap.size, 0, none⟩ = false := h3'.a.frozen 0
  have qa1 : w3.frozen? ⟨w.heap.size, 1, none⟩ = false := h3'.a.frozen 1
  have qa2 : w3.frozen? ⟨w.heap.size, 2, none⟩ = false := h3'.a.frozen 2
  have hw1A : ¬ (w1.heap.size = w.heap.size) := by omega
  have hw1A2 : ¬ (w.heap.size = w1.heap.size) := by omega
  have hw1K : ¬ (w1.heap.size = K) := by omega
  have hw1K2 : ¬ (K = w1.heap.size) := by omega
  clear h3 h3' H2 c2 f2
  by_cases he : s.text.2.flag.2.text.2.e = 0
  · have heb : (s.text.2.flag.2.text.2.e == 0) = true := by simpa using he
    have HW : Hid (s.write.2 = ⟨s.text.2.flag.2.text.2.xs, Rc.wrE s.write.1⟩) := by
      unfold Hid
      show s.text.2.flag.2.text.2.note _ = _
      unfold Rs.note
      rw [if_pos he]
      rfl
    clear he
    go_wp2_with fail
    refine (rcheckWrite_any s.write.1 _).mono ?_
    rintro e w4 ⟨rfl, hb4⟩
    have h4 := H3.out.below hb4
    have H4 : Hid (TkB [K, R] w w4 K R d0 s.text.2.flag.2.text.2 w.heap.size w1.heap.size 33 #[.string .empty, .string .empty, .bool false] s.write.1.cells.toArray) := h4
    obtain ⟨-, m1, m2⟩ := h4.tk.cells
    have hq := h4.tk.setE (Rc.wrE s.write.1)
    have h5 := h4.step hq.1 hq.2
    rw [← HW.out] at h5
    have H5 : Hid (TkB [K, R] w (w4.setCell ⟨K, 1, none⟩ (.int .i64 (Rc.wrE s.write.1))) K R d0 s.write.2 w.heap.size w1.heap.size 33 #[.string .empty, .string .empty, .bool false] s.write.1.cells.toArray) := h5
    have n0 : w4.cell? ⟨w1.heap.size, 0, none⟩ = some (.string s.write.1.key) := h4.b.cell 0
    have n1 : w4.cell? ⟨w1.heap.size, 1, none⟩ = some (.string s.write.1.val) := h4.b.cell 1
    have n2 : w4.cell? ⟨w1.heap.size, 2, none⟩ = some (.bool s.write.1.del) := h4.b.cell 2
    have p0 : w4.cell? ⟨w.heap.size, 0, none⟩ = some (.string .empty) := h4.a.cell 0
    have p1 : w4.cell? ⟨w.heap.size, 1, none⟩ = some (.string .empty) := h4.a.cell 1
    have p2 : w4.cell? ⟨w.heap.size, 2, none⟩ = some (.bool false) := h4.a.cell 2
    have q0 : w4.frozen? ⟨w.heap.size, 0, none⟩ = false := h4.a.frozen 0
    have q1 : w4.frozen? ⟨w.heap.size, 1, none⟩ = false := h4.a.frozen 1
    have q2 : w4.frozen? ⟨w.heap.size, 2, none⟩ = false := h4.a.frozen 2
    have hwK : ¬ (w.heap.size = K) := by omega
    have hwK2 : ¬ (K = w.heap.size) := by omega
    clear hb4 h4 hq h5 H3 c3 f3 d30 d32 e3 e4 e5 e6 pa0 pa1 pa2 qa0 qa1 qa2
    go_wp2
    have h := ((H5.out.setA 0 (.string s.write.1.key)).setA 1 (.string s.write.1.val)).setA 2 (.bool s.write.1.del)
    try simp only [Exit.inBlock, Exit.then]
    refine bodyPost_ret (results_one (cs := s.write.1.cells) rfl rfl wr_agg wr_size rfl h.a) rfl ?_
    exact ⟨rfl, h.tk, h.tn⟩
  · have heb : (s.text.2.flag.2.text.2.e == 0) = false := by simpa using he
    have HW : Hid (s.write.2 = s.text.2.flag.2.text.2) := by
      unfold Hid
      show s.text.2.flag.2.text.2.note _ = _
      unfold Rs.note
      rw [if_neg he]
    clear he
    go_wp2
    have h := ((H3.out.setA 0 (.string s.write.1.key)).setA 1 (.string s.write.1.val)).setA 2 (.bool s.write.1.del)
    try simp only [Exit.inBlock, Exit.then]
    refine bodyPost_ret (results_one (cs := s.write.1.cells) rfl rfl wr_agg wr_size rfl h.a) rfl ?_
    rw [HW.out]
    exact ⟨rfl, h.tk, h.tn⟩

set_option maxHeartbeats 1000000 in
theorem ends_tk {w : World} {K R d0 : Nat} {s : Rs} (h : Tk w K R d0 s) :
    Calls Try.prog 58 #[.pointer (some ⟨K, 0, none⟩)] w fun x w' => x = .returned (.int .i64 s.more.e) ∧ Tk w' K R d0 s.more ∧ Tn [K, R] w w' := by
  obtain ⟨c0, c1, f1⟩ := h.cells
  obtain ⟨p, len, cap, hk, hi, -⟩ := h.r
  have r0 : w.cell? ⟨R, 0, none⟩ = some (.slice p len cap) := hk.cell 0
  have hlen := hi.lenq
  have H0 : Hid (Tk w K R d0 s) := h
  clear h hk hi
  by_cases he : s.e = 0
  · have heb : (s.e == 0) = true := by simpa using he
    by_cases hl : 0 < len
    · have hlb : decide (0 < len) = true := by simpa using hl
      have HM : Hid (s.more = ⟨s.xs, 13⟩) := by unfold Hid Rs.more Rs.note; rw [if_pos (by omega), if_pos he]
      clear he hl hlen
      go_enter Try.func58, Try.ntmps58
      go_wp2
      go_ret
      rw [HM.out]
      have hq := H0.out.setE 13
      exact ⟨rfl, hq.1, hq.2⟩
    · have hlb : decide (0 < len) = false := by simpa using hl
      have HM : Hid (s.more = s) := by unfold Hid Rs.more; rw [if_neg (by omega)]
      clear he hl hlen
      go_enter Try.func58, Try.ntmps58
      go_wp2
      go_ret
      rw [HM.out]
      exact ⟨rfl, H0.out, Tn.refl _ _⟩
  · have heb : (s.e == 0) = false := by simpa using he
    have HM : Hid (s.more = s) := by
      unfold Hid Rs.more Rs.note
      split
      · first | rfl | rw [if_neg he]
      · rfl
    clear he hlen
    go_enter Try.func58, Try.ntmps58
    go_wp2
    go_ret
    rw [HM.out]
    exact ⟨rfl, H0.out, Tn.refl _ _⟩

end Go.Proofs.Ytlfgclmgpbaenaa

namespace Go.Proofs.Ytlfgclmgpbaenaa
open Go.RowKit
set_option linter.unusedVariables false
set_option maxRecDepth 100000

/-- A commit under way. -/
structure TkC (w0 w : World) (K R d0 : Nat) (s : Rs) (A C : Nat) (ts : Int) (v : Value) (l : List Wr) : Prop where
  b : TkB [] w0 w K R d0 s A C 24 #[.int .i64 0, .slice none 0 0] #[.int .i64 ts, v]
  own : OwnW w (C + 1) v l
  lt : K < C ∧ R < C ∧ A < C

section
variable {w0 w : World} {K R d0 : Nat} {s : Rs} {A C : Nat} {ts : Int} {v : Value} {l : List Wr}

theorem TkC.below {w' : World} (h : TkC w0 w K R d0 s A C ts v l) (hb : Below w.heap.size w w') : TkC w0 w' K R d0 s A C ts v l := ⟨h.b.below hb, h.own.below hb, h.lt⟩

theorem TkC.ne (h : TkC w0 w K R d0 s A C ts v l) : v.ownBlock ≠ some C := fun e => by have := (h.own.lt _ e).1; omega

theorem writeTC (h : TkC w0 w K R d0 s A C ts v l) : Calls Try.prog 57 #[.pointer (some ⟨K, 0, none⟩)] w fun x w' => x = .returned (.agg #[.string s.write.1.key, .string s.write.1.val, .bool s.write.1.del]) ∧ TkC w0 w' K R d0 s.write.2 A C ts v l :=
  (write_tk h.b.tk).mono fun x w' ⟨a, b, c⟩ => ⟨a, h.b.step b c, h.own.tn c (by have := h.lt; simp; omega), h.lt⟩

theorem TkC.app {w' : World} {g k : Nat} {l' : List Wr} (h : TkC w0 w K R d0 s A C ts v l) (hg : w.grownBy w' v.ownBlock) (ho : OwnW w' (C + 1) (.slice (some ⟨g, 0, none⟩) l'.length k) l') :
    TkC w0 (w'.setCell ⟨C, 1, none⟩ (.slice (some ⟨g, 0, none⟩) l'.length k)) K R d0 s A C ts (.slice (some ⟨g, 0, none⟩) l'.length k) l' := by
  obtain ⟨l1, l2, l3⟩ := h.lt
  have hdC := h.b.d.2
  have hC0 : w0.heap.size ≤ C := by have := h.b.bS; simpa using this
  have hr : ∀ k, v.ownBlock = some k → C + 1 ≤ k := fun k hk => (h.own.lt k hk).1
  have ht : Tn v.ownBlock.toList w w' := (Tn.refl _ _).grown hg (fun k hk => .inl (by simp [hk]))
  have hS : ∀ b ∈ v.ownBlock.toList, C + 1 ≤ b := fun b hb => hr b (by simpa using hb)
  have hB : TkB [] w0 w' K R d0 s A C 24 #[.int .i64 0, .slice none 0 0] #[.int .i64 ts, v] := by
    refine ⟨h.b.tk.keep ht (fun hm => by have := hS _ hm; omega) (fun hm => by have := hS _ hm; omega) (fun b hb => by have := hS b hb; omega), h.b.a.tn ht (fun hm => by have := hS _ hm; omega), h.b.b.tn ht (fun hm => by have := hS _ hm; omega), h.b.tn.trans ht (fun x hx => .inr (by have := hS x hx; omega)), h.b.kS, h.b.rS, h.b.aS, h.b.bS, h.b.ne, h.b.d⟩
  refine ⟨hB.set 1 _, ho.keptN fun k hk => ?_, h.lt⟩
  refine Below.heap_setCell w' ⟨C, 1, none⟩ _ k ?_
  have := (ho.lt k hk).1
  show k ≠ C
  omega
end

/-- What a taker begins with. -/
theorem tk_new (w : World) (T : TypeId) (ca : Array Value) (p : Option Addr) (len cap : Nat) (xs : List Int) (hi : InB 9223372036854775807 w p len cap xs) (hl : xs.length ≤ 140737488355328) :
    Tk (((w.alloc (.cells ca T)).alloc (.cells #[.slice p len cap] 89)).alloc (.cells #[.pointer (some ⟨w.heap.size + 1, 0, none⟩), .int .i64 0] 91)) (w.heap.size + 2) (w.heap.size + 1) w.heap.size ⟨xs, 0⟩ ∧
    Bk (((w.alloc (.cells ca T)).alloc (.cells #[.slice p len cap] 89)).alloc (.cells #[.pointer (some ⟨w.heap.size + 1, 0, none⟩), .int .i64 0] 91)) w.heap.size T ca ∧
    Tn [] w (((w.alloc (.cells ca T)).alloc (.cells #[.slice p len cap] 89)).alloc (.cells #[.pointer (some ⟨w.heap.size + 1, 0, none⟩), .int .i64 0] 91)) := by
  have b1 := (Bk.new (w.alloc (.cells ca T)) 89 #[.slice p len cap]).alloc (.cells #[.pointer (some ⟨w.heap.size + 1, 0, none⟩), .int .i64 0] 91)
  have b2 := Bk.new ((w.alloc (.cells ca T)).alloc (.cells #[.slice p len cap] 89)) 91 #[.pointer (some ⟨w.heap.size + 1, 0, none⟩), .int .i64 0]
  rw [show (w.alloc (.cells ca T)).heap.size = w.heap.size + 1 by simp] at b1
  rw [show ((w.alloc (.cells ca T)).alloc (.cells #[.slice p len cap] 89)).heap.size = w.heap.size + 2 by simp] at b2
  have ht : Tn [] w (((w.alloc (.cells ca T)).alloc (.cells #[.slice p len cap] 89)).alloc (.cells #[.pointer (some ⟨w.heap.size + 1, 0, none⟩), .int .i64 0] 91)) := (((Tn.refl _ _).alloc _).alloc _).alloc _
  refine ⟨⟨b2, ⟨p, len, cap, b1, hi.tn ht (by simp), hl, fun hp ad had => ?_, by omega⟩, by omega, by omega⟩, ((Bk.new _ _ _).alloc _).alloc _, ht⟩
  obtain ⟨b, o, hpp, hc⟩ := hi.bys hp
  rw [hpp] at had
  cases had
  exact World.block_lt_of_cell? w _ (hc 0 hp)

set_option maxHeartbeats 4000000 in
theorem rtakeCommit_any (p : Option Addr) (len cap : Nat) (xs : List Int) (w : World) (hin : InB 9223372036854775807 w p len cap xs) (hl47 : xs.length ≤ 140737488355328) :
    Calls Try.prog 30 #[.slice p len cap] w fun x w' => ∃ v, x = .returned (.tuple #[.agg #[.int .i64 (Rc.takeCom xs).1, v], .int .i64 (Rc.takeCom xs).2.2]) ∧ OwnW w' w.heap.size v (Rc.takeCom xs).2.1 ∧ Below w.heap.size w w' := by
  obtain ⟨tk0, ba0, tn0⟩ := tk_new w 24 #[.int .i64 0, .slice none 0 0] p len cap xs hin hl47
  have H0 : Hid _ := tk0
  have HA0 : Hid _ := ba0
  have HT0 : Hid _ := tn0
  obtain ⟨i0, hi, hz0, hz1, hz2⟩ := info_parts wrinfo
  have HT : Hid (Rc.takeCom xs = if ((Rs.mk xs 0).commit.2.2.more.note (Rc.comE (Rs.mk xs 0).commit.1 (Rs.mk xs 0).commit.2.1)).e = 0 then ((Rs.mk xs 0).commit.1, (Rs.mk xs 0).commit.2.1, 0) else (0, [], ((Rs.mk xs 0).commit.2.2.more.note (Rc.comE (Rs.mk xs 0).commit.1 (Rs.mk xs 0).commit.2.1)).e)) := rfl
  have HCW : Hid ((Rs.mk xs 0).commit = ((Rs.mk xs 0).num.1, Rs.writes ((Rs.mk xs 0).num.2.count 64).1.toNat ((Rs.mk xs 0).num.2.count 64).2)) := rfl
  clear tk0 ba0 tn0 hin
  go_enter Try.func30, Try.ntmps30
  go_wp2_with fail
  refine (num_tk H0.out).mono ?_
  rintro e w1 ⟨rfl, h1, t1⟩
  obtain ⟨ts, s1, hN⟩ : ∃ n t, (Rs.mk xs 0).num = (n, t) := ⟨_, _, rfl⟩
  rw [hN] at h1 HCW ⊢
  simp only at h1 HCW ⊢
  have hs1 : w.heap.size + 3 ≤ w1.heap.size := by have := t1.size; simp at this; omega
  have H1 : Hid (TkB [] w (w1.alloc (.cells #[.int .i64 ts, .slice none 0 0] 24)) (w.heap.size + 2) (w.heap.size + 1) w.heap.size s1 w.heap.size w1.heap.size 24 #[.int .i64 0, .slice none 0 0] #[.int .i64 ts, .slice none 0 0]) :=
    ⟨h1.below ((Below.refl _ _).alloc (Nat.le_refl _) _), (Bk.tn HA0.out t1 (by simp)).alloc _, Bk.new _ _ _, (HT0.out.trans t1 (by simp)).alloc _, .inr (by omega), .inr (by omega), .inr (Nat.le_refl _), .inr (by omega), ⟨by omega, by omega, by omega, by omega, by omega⟩, ⟨Nat.le_refl _, by omega⟩⟩
  clear h1 t1 H0 HA0 HT0 hN
  go_wp2_with fail
  refine (count_tk H1.out.tk 64 (by omega)).mono ?_
  rintro e w2 ⟨rfl, h2, t2⟩
  have HC2 : Hid (TkC w w2 (w.heap.size + 2) (w.heap.size + 1) w.heap.size (s1.count 64).2 w.heap.size w1.heap.size ts (.slice none 0 0) []) := ⟨H1.out.step h2 t2, OwnW.nil _ _, ⟨by omega, by omega, by omega⟩⟩
  have hcn : 0 ≤ (s1.count 64).1 ∧ (s1.count 64).1 ≤ 64 := by
    unfold Rs.count
    split
    · rename_i hq
      exact Rc.inn_iff.1 hq
    · simp
  generalize (s1.count 64).2 = s2 at *
  generalize (s1.count 64).1 = cn at *
  obtain ⟨N, rfl⟩ := Int.eq_ofNat_of_zero_le hcn.1
  rw [Int.toNat_natCast] at HCW
  clear h2 t2 H1
  generalize hC : w1.heap.size = C at *
  go_wp2_with fail
  go_loopw [7] (fun i wr => ∃ (k : Nat) (v : Value) (l : List Wr) (t : Rs), k ≤ N ∧ i = .int .i64 k ∧ Hid (l.length = k) ∧ Hid (TkC w wr (w.heap.size + 2) (w.heap.size + 1) w.heap.size t w.heap.size C ts v l) ∧ Hid (∀ m, Rs.writes (k + m) s2 = (l ++ (Rs.writes m t).1, (Rs.writes m t).2))) (fun i _ => N - (intOf i).toNat)
  case atStart => exact ⟨0, .slice none 0 0, [], s2, Nat.zero_le _, rfl, rfl, HC2, by simp [Hid]⟩
  case round =>
    obtain ⟨k, v, l, t, hk, rfl, HL, HF, HQ⟩ := hrel
    clear HC2
    by_cases hlt : k < N
    · have hli : (k : Int) < (N : Int) := by omega
      have HD : Hid (TkC w wr.drew (w.heap.size + 2) (w.heap.size + 1) w.heap.size t w.heap.size C ts v l) := HF.out.below ((Below.refl _ _).drew)
      have c0 : wr.drew.cell? ⟨C, 1, none⟩ = some v := HD.out.b.b.cell 1
      have hll : l.length ≤ 64 := by have := HL.out; omega
      clear HF
      go_wp2_with fail
      go_region_law (first
        | (go_simp; go_at_call 57; refine (writeTC HD.out).mono ?_; rintro e w3 ⟨rfl, h3⟩; have c3 : w3.cell? ⟨C, 1, none⟩ = some v := h3.b.b.cell 1; have h4 := h3.below (w' := w3.alloc (.cells #[.string t.write.1.key, .string t.write.1.val, .bool t.write.1.del] 33)) ((Below.refl _ _).alloc (Nat.le_refl _) _); have c4 : (w3.alloc (.cells #[.string t.write.1.key, .string t.write.1.val, .bool t.write.1.del] 33)).cell? ⟨C, 1, none⟩ = some v := h4.b.b.cell 1; have b4 := Bk.new w3 33 #[.string t.write.1.key, .string t.write.1.val, .bool t.write.1.del])
        | (refine step_own rfl _ _ 22 rfl (C + 1) 33 i0 _ 3 40 Try.underlying22 hi hz0 hz1 hz2 rfl (by decide) v l.length (l.map Wr.cells).flatten (by go_simp) h4.own ⟨w3.heap.size, 0, none⟩ 1 1 t.write.1.cells (by go_simp) rfl (fun j u hj => by rw [Addr.add_lit, Nat.zero_add, b4.cell j]; simpa [Wr.cells] using hj) (wr_one _) (by unfold maxLen; omega) (by omega) (by have := h4.b.b.lt; omega) ?_; intro v5 w5 ho5 hg5 hv5; obtain ⟨g5, k5, rfl⟩ := own_some ho5 (by omega); have b5 := h4.b.b.grown hg5 h4.ne; have c5 := b5.cell 1; have f5 := b5.frozen 1; have h6 := h4.app hg5 (OwnW.snoc ho5)))
      all_goals
        have H6 : Hid (TkC w (w5.setCell ⟨C, 1, none⟩ (.slice (some ⟨g5, 0, none⟩) (l.length + 1) k5)) (w.heap.size + 2) (w.heap.size + 1) w.heap.size t.write.2 w.heap.size C ts (.slice (some ⟨g5, 0, none⟩) (l ++ [t.write.1]).length k5) (l ++ [t.write.1])) := by
          simpa [Hid] using h6
        have HQ6 : Hid _ := Rs.writes_snoc s2 t l k HQ.out
        have HL6 : Hid ((l ++ [t.write.1]).length = k + 1) := by have := HL.out; simp [Hid, this]
        clear h3 c3 h4 b4 c4 ho5 hg5 hv5 b5 c5 f5 h6 HD c0
        generalize w5.setCell ⟨C, 1, none⟩ (.slice (some ⟨g5, 0, none⟩) (l.length + 1) k5) = w6 at *
        go_wp2
        go_roundw
        case rel => exact ⟨k + 1, _, _, _, by omega, by go_num, HL6, H6, HQ6⟩
        case measure => simp [intOf]; omega
    · have hli : ¬ ((k : Int) < (N : Int)) := by omega
      have hkn : k = N := by omega
      obtain ⟨pv, cv, rfl⟩ := own_form HF.out.own
      have HW : Hid (Rs.writes N s2 = (l, t)) := by
        have := HQ.out 0
        simp only [Nat.add_zero, Rs.writes, List.append_nil] at this
        rw [hkn] at this
        exact this
      have HT2 : Hid (Rc.takeCom xs = if (t.more.note (Rc.comE ts l)).e = 0 then (ts, l, 0) else (0, [], (t.more.note (Rc.comE ts l)).e)) := by
        unfold Hid
        rw [HT.out, HCW.out, HW.out]
      clear hkn HQ HW HT HCW
      go_wp2_with fail
      refine (ends_tk HF.out.b.tk).mono ?_
      rintro e w7 ⟨rfl, h7, t7⟩
      obtain ⟨z, hz⟩ : ∃ z, t.more = z := ⟨_, rfl⟩
      rw [hz] at h7 HT2 ⊢
      have b7 := HF.out.b.step h7 t7
      have HO7 : Hid (OwnW w7 (C + 1) (.slice pv l.length cv) l) := HF.out.own.tn t7 (by have := HF.out.lt; simp; omega)
      have HB7 : Hid (TkB [] w w7 (w.heap.size + 2) (w.heap.size + 1) w.heap.size z w.heap.size C 24 #[.int .i64 0, .slice none 0 0] #[.int .i64 ts, .slice pv l.length cv]) := b7
      have m0 : w7.cell? ⟨C, 0, none⟩ = some (.int .i64 ts) := b7.b.cell 0
      have m1 : w7.cell? ⟨C, 1, none⟩ = some (.slice pv l.length cv) := b7.b.cell 1
      have hCA : w.heap.size + 3 ≤ C := hs1
      clear h7 t7 b7 hz HF
      by_cases hze : z.e = 0
      · have hzb : (z.e == 0) = true := by simpa using hze
        have HE : Hid ((z.note (Rc.comE ts l)).e = Rc.comE ts l) := by unfold Hid Rs.note; rw [if_pos hze]
        rw [HE.out] at HT2
        go_wp2_with fail
        refine (rcheckCommit_any ts pv l.length cv l _ HO7.out.inw).mono ?_
        rintro e w8 ⟨rfl, hb8⟩
        have b8 := HB7.out.below hb8
        have HO8 : Hid (OwnW w8 (C + 1) (.slice pv l.length cv) l) := HO7.out.below hb8
        have HB8 : Hid (TkB [] w w8 (w.heap.size + 2) (w.heap.size + 1) w.heap.size z w.heap.size C 24 #[.int .i64 0, .slice none 0 0] #[.int .i64 ts, .slice pv l.length cv]) := b8
        have m0 : w8.cell? ⟨C, 0, none⟩ = some (.int .i64 ts) := b8.b.cell 0
        have m1 : w8.cell? ⟨C, 1, none⟩ = some (.slice pv l.length cv) := b8.b.cell 1
        have k0 : w8.cell? ⟨w.heap.size, 0, none⟩ = some (.int .i64 0) := b8.a.cell 0
        have k1 : w8.cell? ⟨w.heap.size, 1, none⟩ = some (.slice none 0 0) := b8.a.cell 1
        have f0 : w8.frozen? ⟨w.heap.size, 0, none⟩ = false := b8.a.frozen 0
        have f1 : w8.frozen? ⟨w.heap.size, 1, none⟩ = false := b8.a.frozen 1
        clear hb8 b8 HO7 HB7 hze
        by_cases hc : Rc.comE ts l = 0
        · have hcb : (Rc.comE ts l != 0) = false := by simpa using hc
          rw [if_pos hc] at HT2
          clear hc
          go_wp2
          try simp only [Exit.inBlock, Exit.then]
          have hk := ((HB8.out.setA 0 (.int .i64 ts)).setA 1 (.slice pv l.length cv))
          refine bodyPost_ret (results_two (cs := [.int .i64 ts, .slice pv l.length cv]) rfl rfl cm_agg cm_size rfl hk.a) rfl ?_
          rw [HT2.out]
          refine ⟨_, rfl, ?_, hk.tn.below (Nat.le_refl _) (by simp)⟩
          refine OwnW.mono (base := C + 1) (HO8.out.keptN fun j hj => ?_) (by omega)
          have h5 := (HO8.out.lt j hj).1
          rw [Below.heap_setCell _ ⟨w.heap.size, 1, none⟩ _ j (by show j ≠ w.heap.size; omega), Below.heap_setCell _ ⟨w.heap.size, 0, none⟩ _ j (by show j ≠ w.heap.size; omega)]
        · have hcb : (Rc.comE ts l != 0) = true := by simpa using hc
          rw [if_neg hc] at HT2
          clear hc
          go_wp2
          try simp only [Exit.inBlock, Exit.then]
          have hk := ((HB8.out.setA 0 (.int .i64 0)).setA 1 (.slice none 0 0))
          refine bodyPost_ret (results_two (cs := [.int .i64 0, .slice none 0 0]) rfl rfl cm_agg cm_size rfl hk.a) rfl ?_
          rw [HT2.out]
          exact ⟨_, rfl, OwnW.nil _ _, hk.tn.below (Nat.le_refl _) (by simp)⟩
      · have hzb : (z.e == 0) = false := by simpa using hze
        have hzb2 : (z.e != 0) = true := by simpa using hze
        have HE : Hid ((z.note (Rc.comE ts l)).e = z.e) := by unfold Hid Rs.note; rw [if_neg hze]
        rw [HE.out, if_neg hze] at HT2
        have k0 : w7.cell? ⟨w.heap.size, 0, none⟩ = some (.int .i64 0) := HB7.out.a.cell 0
        have k1 : w7.cell? ⟨w.heap.size, 1, none⟩ = some (.slice none 0 0) := HB7.out.a.cell 1
        have f0 : w7.frozen? ⟨w.heap.size, 0, none⟩ = false := HB7.out.a.frozen 0
        have f1 : w7.frozen? ⟨w.heap.size, 1, none⟩ = false := HB7.out.a.frozen 1
        clear hze
        go_wp2
        try simp only [Exit.inBlock, Exit.then]
        have hk := ((HB7.out.setA 0 (.int .i64 0)).setA 1 (.slice none 0 0))
        refine bodyPost_ret (results_two (cs := [.int .i64 0, .slice none 0 0]) rfl rfl cm_agg cm_size rfl hk.a) rfl ?_
        rw [HT2.out]
        exact ⟨_, rfl, OwnW.nil _ _, hk.tn.below (Nat.le_refl _) (by simp)⟩

end Go.Proofs.Ytlfgclmgpbaenaa

namespace Go.Proofs.Ytlfgclmgpbaenaa
open Go.RowKit
set_option linter.unusedVariables false
set_option maxRecDepth 100000

set_option maxHeartbeats 1000000 in
theorem takeWrite_any (p : Option Addr) (len cap : Nat) (xs : List Int) (w : World) (hin : InB 9223372036854775807 w p len cap xs) :
    Calls Try.prog 40 #[.slice p len cap] w fun x w' => x = .returned (.tuple #[.agg (Rc.takeWr xs).1.cells.toArray, .int .i64 (Rc.takeWr xs).2.1, .int .i64 (Rc.takeWr xs).2.2]) ∧ Below w.heap.size w w' := by
  have HI : Hid (InB 9223372036854775807 w p len cap xs) := hin
  have HLT : Hid (0 < xs.length → ∀ ad, p = some ad → ad.block < w.heap.size) := by
    intro hl ad had
    obtain ⟨b, o, hp, hc⟩ := hin.bys hl
    rw [hp] at had
    cases had
    exact World.block_lt_of_cell? w _ (hc 0 hl)
  have hlr : len ≤ 9223372036854775807 := by have := hin.le; have := hin.room; omega
  have HXL : Hid (xs.length = len) := hin.lenq
  clear hin
  have HR : Hid (Rd ((w.alloc (.cells #[.string .empty, .string .empty, .bool false] 33)).alloc (.cells #[.slice p len cap, .int .i64 0] 83)) (w.heap.size + 1) (w.heap.size + 2) ⟨xs, 0⟩) := by
    have b2 := Bk.new (w.alloc (.cells #[.string .empty, .string .empty, .bool false] 33)) 83 #[.slice p len cap, .int .i64 0]
    rw [show (w.alloc (.cells #[.string .empty, .string .empty, .bool false] 33)).heap.size = w.heap.size + 1 by simp] at b2
    have hb : Below w.heap.size w ((w.alloc (.cells #[.string .empty, .string .empty, .bool false] 33)).alloc (.cells #[.slice p len cap, .int .i64 0] 83)) := ((Below.refl _ _).alloc (Nat.le_refl _) _).alloc (by simp) _
    refine ⟨p, len, cap, b2, HI.out.below hb, fun hl ad had => ?_, by omega, by simp⟩
    have := HLT.out hl ad had
    omega
  have HA : Hid (Bk ((w.alloc (.cells #[.string .empty, .string .empty, .bool false] 33)).alloc (.cells #[.slice p len cap, .int .i64 0] 83)) w.heap.size 33 #[.string .empty, .string .empty, .bool false]) := (Bk.new _ _ _).alloc _
  have HB : Hid (Below w.heap.size w ((w.alloc (.cells #[.string .empty, .string .empty, .bool false] 33)).alloc (.cells #[.slice p len cap, .int .i64 0] 83))) := ((Below.refl _ _).alloc (Nat.le_refl _) _).alloc (by simp) _
  have HT : Hid (Rc.takeWr xs = if (Rs.mk xs 0).write.2.e = 0 then ((Rs.mk xs 0).write.1, (xs.length : Int) - (Rs.mk xs 0).write.2.xs.length, 0) else (⟨.empty, .empty, false⟩, 0, (Rs.mk xs 0).write.2.e)) := rfl
  go_enter Try.func40, Try.ntmps40
  go_wp2_with fail
  refine (write_rd HR.out).mono ?_
  rintro e w1 ⟨rfl, hr, ht⟩
  generalize (Rs.mk xs 0).write = C at *
  obtain ⟨x, s⟩ := C
  simp only at hr HT ⊢
  rw [show x.cells.toArray = #[.string x.key, .string x.val, .bool x.del] from rfl]
  have hs1 : w.heap.size + 2 ≤ w1.heap.size := by have := ht.size; simpa using this
  obtain ⟨p1, len1, cap1, hbk, hin1, -, -, -⟩ := hr
  have a1 := HA.out.tn ht (by simp)
  have a2 := a1.alloc (.cells #[.string x.key, .string x.val, .bool x.del] 33)
  have r2 := hbk.alloc (.cells #[.string x.key, .string x.val, .bool x.del] 33)
  have c2 := Bk.new w1 33 #[.string x.key, .string x.val, .bool x.del]
  have HL1 : Hid (s.xs.length = len1) := hin1.lenq
  have hl1 : len1 ≤ 9223372036854775807 := by have := hin1.le; have := hin1.room; omega
  have HA2 : Hid (Bk (w1.alloc (.cells #[.string x.key, .string x.val, .bool x.del] 33)) w.heap.size 33 #[.string .empty, .string .empty, .bool false]) := a2
  have HB2 : Hid (Below w.heap.size w (w1.alloc (.cells #[.string x.key, .string x.val, .bool x.del] 33))) := by
    have h := HB.out.trans (ht.below (by simp; omega) (by simp))
    exact h.alloc h.size _
  have k0 : (w1.alloc (.cells #[.string x.key, .string x.val, .bool x.del] 33)).cell? ⟨w.heap.size, 0, none⟩ = some (.string .empty) := a2.cell 0
  have k1 : (w1.alloc (.cells #[.string x.key, .string x.val, .bool x.del] 33)).cell? ⟨w.heap.size, 1, none⟩ = some (.string .empty) := a2.cell 1
  have k2 : (w1.alloc (.cells #[.string x.key, .string x.val, .bool x.del] 33)).cell? ⟨w.heap.size, 2, none⟩ = some (.bool false) := a2.cell 2
  have f0 : (w1.alloc (.cells #[.string x.key, .string x.val, .bool x.del] 33)).frozen? ⟨w.heap.size, 0, none⟩ = false := a2.frozen 0
  have f1 : (w1.alloc (.cells #[.string x.key, .string x.val, .bool x.del] 33)).frozen? ⟨w.heap.size, 1, none⟩ = false := a2.frozen 1
  have f2 : (w1.alloc (.cells #[.string x.key, .string x.val, .bool x.del] 33)).frozen? ⟨w.heap.size, 2, none⟩ = false := a2.frozen 2
  have m0 : (w1.alloc (.cells #[.string x.key, .string x.val, .bool x.del] 33)).cell? ⟨w1.heap.size, 0, none⟩ = some (.string x.key) := c2.cell 0
  have m1 : (w1.alloc (.cells #[.string x.key, .string x.val, .bool x.del] 33)).cell? ⟨w1.heap.size, 1, none⟩ = some (.string x.val) := c2.cell 1
  have m2 : (w1.alloc (.cells #[.string x.key, .string x.val, .bool x.del] 33)).cell? ⟨w1.heap.size, 2, none⟩ = some (.bool x.del) := c2.cell 2
  have r0 : (w1.alloc (.cells #[.string x.key, .string x.val, .bool x.del] 33)).cell? ⟨w.heap.size + 1, 0, none⟩ = some (.slice p1 len1 cap1) := r2.cell 0
  have r1 : (w1.alloc (.cells #[.string x.key, .string x.val, .bool x.del] 33)).cell? ⟨w.heap.size + 1, 1, none⟩ = some (.int .i64 s.e) := r2.cell 1
  clear ht hbk hin1 a1 a2 r2 c2 HR HA HB HI HLT
  have hw : wrap64 ((len : Int) - (len1 : Int)) = (len : Int) - (len1 : Int) := by unfold wrap64; omega
  by_cases hz : s.e = 0
  · have hzb : (s.e != 0) = false := by simpa using hz
    have HT2 : Hid (Rc.takeWr xs = (x, (len : Int) - (len1 : Int), 0)) := by unfold Hid; rw [HT.out, if_pos hz, HL1.out, HXL.out]
    clear hz HT
    go_wp2_with fail
    generalize (w1.alloc (.cells #[.string x.key, .string x.val, .bool x.del] 33)) = w2 at *
    go_region
    go_wp2
    try simp only [Exit.inBlock, Exit.then]
    have hk := ((HA2.out.set 0 (.string x.key)).set 1 (.string x.val)).set 2 (.bool x.del)
    refine bodyPost_ret (results_three (cs := [.string x.key, .string x.val, .bool x.del]) rfl rfl wr_agg wr_size rfl hk) rfl ?_
    rw [HT2.out]
    exact ⟨rfl, (((HB2.out.setCell (Nat.le_refl _) _).setCell (Nat.le_refl _) _).setCell (Nat.le_refl _) _).drew⟩
  · have hzb : (s.e != 0) = true := by simpa using hz
    have HT2 : Hid (Rc.takeWr xs = (⟨.empty, .empty, false⟩, 0, s.e)) := by unfold Hid; rw [HT.out, if_neg hz]
    clear hz HT
    go_wp2_with fail
    generalize (w1.alloc (.cells #[.string x.key, .string x.val, .bool x.del] 33)) = w2 at *
    go_region
    go_wp2
    try simp only [Exit.inBlock, Exit.then]
    have hk := ((HA2.out.set 0 (.string .empty)).set 1 (.string .empty)).set 2 (.bool false)
    refine bodyPost_ret (results_three (cs := [.string .empty, .string .empty, .bool false]) rfl rfl wr_agg wr_size rfl hk) rfl ?_
    rw [HT2.out]
    exact ⟨rfl, (((HB2.out.setCell (Nat.le_refl _) _).setCell (Nat.le_refl _) _).setCell (Nat.le_refl _) _).drew⟩

set_option maxHeartbeats 1000000 in
theorem rtakeWrite_any (p : Option Addr) (len cap : Nat) (xs : List Int) (w : World) (hin : InB 9223372036854775807 w p len cap xs) (hl47 : xs.length ≤ 140737488355328) :
    Calls Try.prog 41 #[.slice p len cap] w fun x w' => ∃ q n c, x = .returned (.tuple #[.agg (Rc.takeWr xs).1.cells.toArray, .slice q n c, .int .i64 (Rc.takeWr xs).2.2]) ∧ (n ≤ 9223372036854775807 ∧ (Rc.takeWr xs).2.1 = (len : Int) - (n : Int)) ∧ Below w.heap.size w w' := by
  obtain ⟨tk0, ba0, tn0⟩ := tk_new w 33 #[.string .empty, .string .empty, .bool false] p len cap xs hin hl47
  have H0 : Hid _ := tk0
  have HA0 : Hid _ := ba0
  have HT0 : Hid _ := tn0
  have hlr : len ≤ 9223372036854775807 := by have := hin.le; have := hin.room; omega
  have HXL : Hid (xs.length = len) := hin.lenq
  have HT : Hid (Rc.takeWr xs = if (Rs.mk xs 0).write.2.e = 0 then ((Rs.mk xs 0).write.1, (xs.length : Int) - (Rs.mk xs 0).write.2.xs.length, 0) else (⟨.empty, .empty, false⟩, 0, (Rs.mk xs 0).write.2.e)) := rfl
  clear tk0 ba0 tn0 hin
  go_enter Try.func41, Try.ntmps41
  go_wp2_with fail
  refine (write_tk H0.out).mono ?_
  rintro e w1 ⟨rfl, hr, ht⟩
  generalize (Rs.mk xs 0).write = C at *
  obtain ⟨x, s⟩ := C
  simp only at hr HT ⊢
  rw [show x.cells.toArray = #[.string x.key, .string x.val, .bool x.del] from rfl]
  obtain ⟨hbk, ⟨p1, len1, cap1, hrb, hin1, -, -, -⟩, -, -⟩ := hr
  have a1 : Bk w1 w.heap.size 33 #[.string .empty, .string .empty, .bool false] := Bk.tn HA0.out ht (by simp)
  have a2 := a1.alloc (.cells #[.string x.key, .string x.val, .bool x.del] 33)
  have t2 := hbk.alloc (.cells #[.string x.key, .string x.val, .bool x.del] 33)
  have r2 := hrb.alloc (.cells #[.string x.key, .string x.val, .bool x.del] 33)
  have c2 := Bk.new w1 33 #[.string x.key, .string x.val, .bool x.del]
  have HL1 : Hid (s.xs.length = len1) := hin1.lenq
  have hl1 : len1 ≤ 9223372036854775807 := by have := hin1.le; have := hin1.room; omega
  have HA2 : Hid (Bk (w1.alloc (.cells #[.string x.key, .string x.val, .bool x.del] 33)) w.heap.size 33 #[.string .empty, .string .empty, .bool false]) := a2
  have HB2 : Hid (Below w.heap.size w (w1.alloc (.cells #[.string x.key, .string x.val, .bool x.del] 33))) := by
    have h := (HT0.out.below (Nat.le_refl _) (by simp)).trans (ht.below (by simp; omega) (by simp))
    exact h.alloc h.size _
  have k0 : (w1.alloc (.cells #[.string x.key, .string x.val, .bool x.del] 33)).cell? ⟨w.heap.size, 0, none⟩ = some (.string .empty) := a2.cell 0
  have k1 : (w1.alloc (.cells #[.string x.key, .string x.val, .bool x.del] 33)).cell? ⟨w.heap.size, 1, none⟩ = some (.string .empty) := a2.cell 1
  have k2 : (w1.alloc (.cells #[.string x.key, .string x.val, .bool x.del] 33)).cell? ⟨w.heap.size, 2, none⟩ = some (.bool false) := a2.cell 2
  have f0 : (w1.alloc (.cells #[.string x.key, .string x.val, .bool x.del] 33)).frozen? ⟨w.heap.size, 0, none⟩ = false := a2.frozen 0
  have f1 : (w1.alloc (.cells #[.string x.key, .string x.val, .bool x.del] 33)).frozen? ⟨w.heap.size, 1, none⟩ = false := a2.frozen 1
  have f2 : (w1.alloc (.cells #[.string x.key, .string x.val, .bool x.del] 33)).frozen? ⟨w.heap.size, 2, none⟩ = false := a2.frozen 2
  have m0 : (w1.alloc (.cells #[.string x.key, .string x.val, .bool x.del] 33)).cell? ⟨w1.heap.size, 0, none⟩ = some (.string x.key) := c2.cell 0
  have m1 : (w1.alloc (.cells #[.string x.key, .string x.val, .bool x.del] 33)).cell? ⟨w1.heap.size, 1, none⟩ = some (.string x.val) := c2.cell 1
  have m2 : (w1.alloc (.cells #[.string x.key, .string x.val, .bool x.del] 33)).cell? ⟨w1.heap.size, 2, none⟩ = some (.bool x.del) := c2.cell 2
  have r0 : (w1.alloc (.cells #[.string x.key, .string x.val, .bool x.del] 33)).cell? ⟨w.heap.size + 1, 0, none⟩ = some (.slice p1 len1 cap1) := r2.cell 0
  have t0 : (w1.alloc (.cells #[.string x.key, .string x.val, .bool x.del] 33)).cell? ⟨w.heap.size + 2, 0, none⟩ = some (.pointer (some ⟨w.heap.size + 1, 0, none⟩)) := t2.cell 0
  have t1 : (w1.alloc (.cells #[.string x.key, .string x.val, .bool x.del] 33)).cell? ⟨w.heap.size + 2, 1, none⟩ = some (.int .i64 s.e) := t2.cell 1
  clear ht hbk hrb hin1 a1 a2 r2 t2 c2 H0 HA0 HT0
  by_cases hz : s.e = 0
  · have hzb : (s.e != 0) = false := by simpa using hz
    have HT2 : Hid (Rc.takeWr xs = (x, (len : Int) - (len1 : Int), 0)) := by unfold Hid; rw [HT.out, if_pos hz, HL1.out, HXL.out]
    clear hz HT
    go_wp2_with fail
    generalize (w1.alloc (.cells #[.string x.key, .string x.val, .bool x.del] 33)) = w2 at *
    go_region
    go_wp2
    try simp only [Exit.inBlock, Exit.then]
    have hk := ((HA2.out.set 0 (.string x.key)).set 1 (.string x.val)).set 2 (.bool x.del)
    refine bodyPost_ret (results_three (cs := [.string x.key, .string x.val, .bool x.del]) rfl rfl wr_agg wr_size rfl hk) rfl ?_
    rw [HT2.out]
    exact ⟨p1, len1, cap1, rfl, ⟨hl1, rfl⟩, (((HB2.out.setCell (Nat.le_refl _) _).setCell (Nat.le_refl _) _).setCell (Nat.le_refl _) _).drew⟩
  · have hzb : (s.e != 0) = true := by simpa using hz
    have HT2 : Hid (Rc.takeWr xs = (⟨.empty, .empty, false⟩, 0, s.e)) := by unfold Hid; rw [HT.out, if_neg hz]
    clear hz HT
    go_wp2_with fail
    generalize (w1.alloc (.cells #[.string x.key, .string x.val, .bool x.del] 33)) = w2 at *
    go_region
    go_wp2
    try simp only [Exit.inBlock, Exit.then]
    have hk := ((HA2.out.set 0 (.string .empty)).set 1 (.string .empty)).set 2 (.bool false)
    refine bodyPost_ret (results_three (cs := [.string .empty, .string .empty, .bool false]) rfl rfl wr_agg wr_size rfl hk) rfl ?_
    rw [HT2.out]
    exact ⟨p, len, cap, rfl, ⟨hlr, by simp⟩, (((HB2.out.setCell (Nat.le_refl _) _).setCell (Nat.le_refl _) _).setCell (Nat.le_refl _) _).drew⟩

end Go.Proofs.Ytlfgclmgpbaenaa

namespace Go.Proofs.Ytlfgclmgpbaenaa
open Go.RowKit
set_option linter.unusedVariables false
set_option maxRecDepth 100000

/-- '[]byte(s)'. -/
theorem conv_bytes (w : World) (s : ByteArray) : ∃ c w', (convert 9 42 (.string s)).run Try.prog w = .ok (.slice (some ⟨w.heap.size, 0, none⟩) s.size c) w' ∧ s.size ≤ c ∧ Bys w' (some ⟨w.heap.size, 0, none⟩) (strB s) ∧ Below w.heap.size w w' := by
  refine ⟨_, _, run_bytes_of_string w 9 42 5 s Try.underlying9 Try.underlying42 Try.underlying5, grownCap_ge _ _ _ _, ?_, ((Below.refl _ _).drew).alloc (Nat.le_refl _) _⟩
  intro _
  refine ⟨w.heap.size, 0, rfl, fun i hi => ?_⟩
  rw [strB_length] at hi
  have hi' : i < s.data.size := hi
  rw [Nat.zero_add, cell_of_row _ w.heap.size i _ 5 _ (heap_alloc_new w.drew _), bytesRow_at s _ i hi']
  have : (strB s).getD i 0 = (s.data[i].toNat : Int) := by
    unfold strB
    simp only [List.getD, List.getElem?_map, Array.getElem?_toList]
    rw [Array.getElem?_eq_getElem hi']
    rfl
  rw [this]

end Go.Proofs.Ytlfgclmgpbaenaa

namespace Go.Proofs.Ytlfgclmgpbaenaa
open Go.RowKit
set_option linter.unusedVariables false
set_option maxRecDepth 100000

/-- Bytes of the call's own since w0. -/
def Gt (w0 w : World) (v : Value) (xs : List Int) : Prop := Own w w0.heap.size v xs.length xs ∧ Below w0.heap.size w0 w

theorem Gt.nil (w : World) : Gt w w (.slice none 0 0) [] := ⟨World.ownsRow_nil _ _ _ _, Below.refl _ _⟩

theorem Gt.up {w0 w w' : World} {v : Value} {xs : List Int} (h : Gt w0 w v xs) (hb : Below w.heap.size w w') : Gt w0 w' v xs := ⟨h.1.below hb (Nat.le_refl _), h.2.trans (hb.mono h.2.size)⟩

set_option maxHeartbeats 1000000 in
theorem rnum_any {w0 w : World} {v : Value} {xs : List Int} (h : Gt w0 w v xs) (n : Int) (h0 : -9223372036854775808 ≤ n) (h1 : n ≤ 9223372036854775807) (hl : xs.length ≤ 1099511627776) :
    Calls Try.prog 50 #[v, .int .i64 n] w fun e w' => ∃ v', e = .returned v' ∧ Gt w0 w' v' (xs ++ Cd.enc n) := by
  have HG : Hid (Gt w0 w v xs) := h
  have hw := Cd.width_pos n
  clear h
  go_enter Try.func50, Try.ntmps50
  go_wp2_with fail
  refine (refInt_any n _ h0 h1).mono ?_
  rintro e w1 ⟨v1, rfl, ho1, hb1⟩
  obtain ⟨q, c, hv, -, hq, hby⟩ := ho1.bys
  subst hv
  have H1 : Hid (Gt w0 w1 v xs) := HG.out.up hb1
  have HQ : Hid (q = none → Cd.width n = 0 ∧ c = 0) := hq
  have HY : Hid (Bys w1 q (Cd.enc n)) := hby
  have HS : Hid (w0.heap.size ≤ w1.heap.size) := H1.out.2.size
  clear ho1 hb1 hq hby HG
  go_wp2_with (at_builtin; refine app8 w1 rfl _ _ rfl w0.heap.size v xs.length xs rfl H1.out.1 q (Cd.width n) c (Cd.enc n) rfl HY.out (Cd.enc_length n) HQ.out (by omega) HS.out ?_; intro v2 w2 ho2 hb2; refine Hid.out ?_)
  have HG2 : Hid (Gt w0 w2 v2 (xs ++ Cd.enc n)) := by
    refine ⟨?_, H1.out.2.trans hb2⟩
    rw [List.length_append, Cd.enc_length]
    exact ho2
  clear ho2 hb2
  unfold Hid
  go_wp2
  go_ret
  exact ⟨_, rfl, HG2.out⟩

set_option maxHeartbeats 1000000 in
theorem rflag_any {w0 w : World} {v : Value} {xs : List Int} (h : Gt w0 w v xs) (b : Bool) (hl : xs.length ≤ 1099511627776) :
    Calls Try.prog 51 #[v, .bool b] w fun e w' => ∃ v', e = .returned v' ∧ Gt w0 w' v' (xs ++ Rc.encF b) := by
  have HG : Hid (Gt w0 w v xs) := h
  have e0 : Rc.encF false = Cd.enc 0 := by decide
  have e1 : Rc.encF true = Cd.enc 1 := by decide
  have HE0 : Hid _ := e0
  have HE1 : Hid _ := e1
  clear h e0 e1
  cases b
  · go_enter Try.func51, Try.ntmps51
    go_wp2_with fail
    refine (rnum_any HG.out 0 (by omega) (by omega) hl).mono ?_
    rintro e w1 ⟨v1, rfl, h1⟩
    have H1 : Hid (Gt w0 w1 v1 (xs ++ Rc.encF false)) := by rw [HE0.out]; exact h1
    clear h1
    go_wp2
    go_ret
    exact ⟨_, rfl, H1.out⟩
  · go_enter Try.func51, Try.ntmps51
    go_wp2_with fail
    refine (rnum_any HG.out 1 (by omega) (by omega) hl).mono ?_
    rintro e w1 ⟨v1, rfl, h1⟩
    have H1 : Hid (Gt w0 w1 v1 (xs ++ Rc.encF true)) := by rw [HE1.out]; exact h1
    clear h1
    go_wp2
    go_ret
    exact ⟨_, rfl, H1.out⟩

set_option maxHeartbeats 1000000 in
theorem rtext_any {w0 w : World} {v : Value} {xs : List Int} (h : Gt w0 w v xs) (s : ByteArray) (hs : s.size ≤ 1099511627776) (hl : xs.length ≤ 1099511627776) :
    Calls Try.prog 52 #[v, .string s] w fun e w' => ∃ v', e = .returned v' ∧ Gt w0 w' v' (xs ++ Rc.encT s) := by
  have HG : Hid (Gt w0 w v xs) := h
  have hw := Cd.width_pos s.size
  obtain ⟨c0, w1, hr, hc0, hby1, hb1⟩ := conv_bytes w s
  have H1 : Hid (Gt w0 w1 v xs) := h.up hb1
  have HY1 : Hid (Bys w1 (some ⟨w.heap.size, 0, none⟩) (strB s)) := hby1
  have HSL : Hid ((strB s).length = s.size) := strB_length s
  clear h HG hby1 hb1
  go_enter Try.func52, Try.ntmps52
  go_wp2_with fail
  refine (refBytes_any (some ⟨w.heap.size, 0, none⟩) c0 s.size (strB s) _ HSL.out HY1.out (by omega) (fun h => by cases h)).mono ?_
  rintro e w2 ⟨v2, rfl, ho2, hb2⟩
  obtain ⟨q, c, hv, -, hq, hby⟩ := ho2.bys
  subst hv
  have H2 : Hid (Gt w0 w2 v xs) := H1.out.up hb2
  have HQ : Hid (q = none → Cd.width s.size + s.size = 0 ∧ c = 0) := hq
  have HY : Hid (Bys w2 q (Cd.enc s.size ++ strB s)) := hby
  have HS : Hid (w0.heap.size ≤ w2.heap.size) := H2.out.2.size
  have HL2 : Hid ((Cd.enc s.size ++ strB s).length = Cd.width s.size + s.size) := by simp [Hid, Cd.enc_length, strB_length]
  clear ho2 hb2 hq hby H1 HY1 hr
  go_wp2_with (at_builtin; refine app8 w2 rfl _ _ rfl w0.heap.size v xs.length xs rfl H2.out.1 q (Cd.width s.size + s.size) c (Cd.enc s.size ++ strB s) rfl HY.out HL2.out HQ.out (by omega) HS.out ?_; intro v3 w3 ho3 hb3; refine Hid.out ?_)
  have HG3 : Hid (Gt w0 w3 v3 (xs ++ Rc.encT s)) := by
    refine ⟨?_, H2.out.2.trans hb3⟩
    rw [List.length_append, Rc.encT_length]
    exact ho3
  clear ho3 hb3
  unfold Hid
  go_wp2
  go_ret
  exact ⟨_, rfl, HG3.out⟩

set_option maxHeartbeats 2000000 in
theorem writeForm_any (x : Wr) (w : World) (h1 : x.key.size ≤ 1099511627776) (h2 : x.val.size ≤ 274877906944) (h3 : x.key.size ≤ 274877906944) :
    Calls Try.prog 37 #[.agg x.cells.toArray] w fun e w' => ∃ v, e = .returned v ∧ Gt w w' v (Rc.wrB x) := by
  obtain ⟨k, v, d⟩ := x
  unfold Wr.cells
  simp only at h1 h2 h3
  have HK : Hid (Bk (w.alloc (.cells #[.string k, .string v, .bool d] 33)).drew w.heap.size 33 #[.string k, .string v, .bool d]) := Bk.new _ _ _
  have HG0 : Hid (Gt (w.alloc (.cells #[.string k, .string v, .bool d] 33)).drew (w.alloc (.cells #[.string k, .string v, .bool d] 33)).drew (.slice none 0 0) []) := Gt.nil _
  have HB0 : Hid (Below w.heap.size w (w.alloc (.cells #[.string k, .string v, .bool d] 33)).drew) := ((Below.refl _ _).alloc (Nat.le_refl _) _).drew
  have hek := Rc.encT_le k
  have HCC : Hid (∀ w', Below (w.alloc (.cells #[.string k, .string v, .bool d] 33)).drew.heap.size (w.alloc (.cells #[.string k, .string v, .bool d] 33)).drew w' → w'.cell? ⟨w.heap.size, 0, none⟩ = some (.string k) ∧ w'.cell? ⟨w.heap.size, 1, none⟩ = some (.string v) ∧ w'.cell? ⟨w.heap.size, 2, none⟩ = some (.bool d)) := by
    intro w' hb
    have := HK.out.below hb HK.out.lt
    exact ⟨this.cell 0, this.cell 1, this.cell 2⟩
  go_enter Try.func37, Try.ntmps37
  go_wp2_with fail
  go_region_held3 (fun w' => w'.cell? ⟨w.heap.size, 0, none⟩ = some (.string k) ∧ w'.cell? ⟨w.heap.size, 1, none⟩ = some (.string v) ∧ w'.cell? ⟨w.heap.size, 2, none⟩ = some (.bool d)) (go_keep) (first
    | (go_at_call_of 52 (Value.slice none 0 0); refine (rtext_any HG0.out k h1 (by simp)).mono ?_; rintro e w2 ⟨v2, rfl, hG2⟩; have hk2 := HCC.out w2 hG2.2)
    | (go_at_call 51; refine (rflag_any hG2 d (by simp; omega)).mono ?_; rintro e w3 ⟨v3, rfl, hG3⟩; have hk3 := HCC.out w3 hG3.2)
    | (go_at_call 52; refine (rtext_any hG3 v (by omega) (by simp [Rc.encF]; omega)).mono ?_; rintro e w4 ⟨v4, rfl, hG4⟩; have hk4 := HCC.out w4 hG4.2))
  have HG4 : Hid (Gt w w4 v4 (Rc.wrB ⟨k, v, d⟩)) := by
    have e4 : Rc.wrB ⟨k, v, d⟩ = [] ++ Rc.encT k ++ Rc.encF d ++ Rc.encT v := rfl
    rw [e4]
    exact ⟨hG4.1.mono HB0.out.size, HB0.out.trans (hG4.2.mono HB0.out.size)⟩
  clear hG2 hG3 hG4 hk2 hk3 hk4 HCC HG0 HK HB0
  go_wp2
  go_ret
  exact ⟨_, rfl, HG4.out⟩

end Go.Proofs.Ytlfgclmgpbaenaa

namespace Go.Proofs.Ytlfgclmgpbaenaa
open Go.ChangeShapes Go.WideShapes Go.ChangeAt Go.RowKit
set_option linter.unusedVariables false
set_option maxRecDepth 100000

theorem list2 {α : Type} {l : List α} (h : l.length = 2) : ∃ a b, l = [a, b] := by
  match l, h with
  | [a, b], _ => exact ⟨a, b, rfl⟩
theorem list3 {α : Type} {l : List α} (h : l.length = 3) : ∃ a b c, l = [a, b, c] := by
  match l, h with
  | [a, b, c], _ => exact ⟨a, b, c, rfl⟩
theorem list4 {α : Type} {l : List α} (h : l.length = 4) : ∃ a b c d, l = [a, b, c, d] := by
  match l, h with
  | [a, b, c, d], _ => exact ⟨a, b, c, d, rfl⟩
theorem list5 {α : Type} {l : List α} (h : l.length = 5) : ∃ a b c d e, l = [a, b, c, d, e] := by
  match l, h with
  | [a, b, c, d, e], _ => exact ⟨a, b, c, d, e, rfl⟩
theorem list8 {α : Type} {l : List α} (h : l.length = 8) : ∃ a b c d e f g i, l = [a, b, c, d, e, f, g, i] := by
  match l, h with
  | [a, b, c, d, e, f, g, i], _ => exact ⟨a, b, c, d, e, f, g, i, rfl⟩

theorem rcells_at {W : World} {a : Addr} {n : Nat} {cs : List Value} (h : W.cells? 0 a n = some cs) : ∀ j v, cs[j]? = some v → W.cell? (a.add j) = some v := by
  obtain ⟨_, hl, hc⟩ := World.cells?_some h
  intro j v hv
  have hj : j < n := by
    have := (List.getElem?_eq_some_iff.1 hv).1
    omega
  exact (hc j hj).trans hv

section
variable {H : Type} {enc : TypeId × Value → H} {W : World} {fuel : Nat} {cs : List Value} {x : DataW H × List MemPlace}

theorem in_wr (hf : DataW.trod enc Try.prog W 0 (fun _ => true) true fuel 33 cs = some x) : ∃ g : Wr, cs = g.cells := by
  obtain ⟨ys, n, -, rfl, hlen, hys, hall⟩ := DataW.trod_struct Try.underlying33 hf
  have eT : Try.prog.cellsOf 33 = 3 := by kernel_rfl
  rw [eT] at hlen
  obtain ⟨c0, c1, c2, rfl⟩ := list3 hlen
  obtain ⟨y0, y1, y2, rfl⟩ := list3 (l := ys) hys
  have h0 : DataW.trod enc Try.prog W 0 (fun _ => true) true n 9 [c0] = some y0 := by
    have h : DataW.trod enc Try.prog W 0 (fun _ => true) true n 9 (List.take (Try.prog.cellsOf 9) (List.drop 0 [c0, c1, c2])) = some y0 := hall 0 _ rfl
    rw [show Try.prog.cellsOf 9 = 1 by kernel_rfl] at h
    exact h
  have h1 : DataW.trod enc Try.prog W 0 (fun _ => true) true n 9 [c1] = some y1 := by
    have h : DataW.trod enc Try.prog W 0 (fun _ => true) true n 9 (List.take (Try.prog.cellsOf 9) (List.drop 1 [c0, c1, c2])) = some y1 := hall 1 _ rfl
    rw [show Try.prog.cellsOf 9 = 1 by kernel_rfl] at h
    exact h
  have h2 : DataW.trod enc Try.prog W 0 (fun _ => true) true n 4 [c2] = some y2 := by
    have h : DataW.trod enc Try.prog W 0 (fun _ => true) true n 4 (List.take (Try.prog.cellsOf 4) (List.drop 2 [c0, c1, c2])) = some y2 := hall 2 _ rfl
    rw [show Try.prog.cellsOf 4 = 1 by kernel_rfl] at h
    exact h
  obtain ⟨v0, q0, _, _⟩ := DataW.trod_string Try.underlying9 h0
  obtain ⟨v1, q1, _, _⟩ := DataW.trod_string Try.underlying9 h1
  obtain ⟨v2, q2, _⟩ := DataW.trod_bool Try.underlying4 h2
  simp only [List.cons.injEq, and_true] at q0 q1 q2
  subst q0 q1 q2
  exact ⟨⟨v0, v1, v2⟩, rfl⟩

theorem in_st (hf : DataW.trod enc Try.prog W 0 (fun _ => true) true fuel 70 cs = some x) : ∃ g : St, cs = g.cells ∧ -9223372036854775808 ≤ g.ts ∧ g.ts ≤ 9223372036854775807 := by
  obtain ⟨ys, n, -, rfl, hlen, hys, hall⟩ := DataW.trod_struct Try.underlying70 hf
  have eT : Try.prog.cellsOf 70 = 3 := by kernel_rfl
  rw [eT] at hlen
  obtain ⟨c0, c1, c2, rfl⟩ := list3 hlen
  obtain ⟨y0, y1, y2, rfl⟩ := list3 (l := ys) hys
  have h0 : DataW.trod enc Try.prog W 0 (fun _ => true) true n 9 [c0] = some y0 := by
    have h : DataW.trod enc Try.prog W 0 (fun _ => true) true n 9 (List.take (Try.prog.cellsOf 9) (List.drop 0 [c0, c1, c2])) = some y0 := hall 0 _ rfl
    rw [show Try.prog.cellsOf 9 = 1 by kernel_rfl] at h
    exact h
  have h1 : DataW.trod enc Try.prog W 0 (fun _ => true) true n 9 [c1] = some y1 := by
    have h : DataW.trod enc Try.prog W 0 (fun _ => true) true n 9 (List.take (Try.prog.cellsOf 9) (List.drop 1 [c0, c1, c2])) = some y1 := hall 1 _ rfl
    rw [show Try.prog.cellsOf 9 = 1 by kernel_rfl] at h
    exact h
  have h2 : DataW.trod enc Try.prog W 0 (fun _ => true) true n 2 [c2] = some y2 := by
    have h : DataW.trod enc Try.prog W 0 (fun _ => true) true n 2 (List.take (Try.prog.cellsOf 2) (List.drop 2 [c0, c1, c2])) = some y2 := hall 2 _ rfl
    rw [show Try.prog.cellsOf 2 = 1 by kernel_rfl] at h
    exact h
  obtain ⟨v0, q0, _, _⟩ := DataW.trod_string Try.underlying9 h0
  obtain ⟨v1, q1, _, _⟩ := DataW.trod_string Try.underlying9 h1
  obtain ⟨v2, q2, _, w2⟩ := DataW.trod_int Try.underlying2 h2
  simp only [List.cons.injEq, and_true] at q0 q1 q2
  subst q0 q1 q2
  have := bounds_i64 w2
  exact ⟨⟨v0, v1, v2⟩, rfl, by show -9223372036854775808 ≤ v2; omega, by show v2 ≤ 9223372036854775807; omega⟩

theorem in_writes (hf : DataW.trod enc Try.prog W 0 (fun _ => true) true fuel 22 cs = some x) : ∃ a len cap l, cs = [.slice a len cap] ∧ InW W a len cap l := by
  have e3 : Try.prog.cellsOf 33 = 3 := by kernel_rfl
  rcases Go.Deep.open_slice Try.underlying22 hf with ⟨hcs, _⟩ | ⟨x, l, c, m, n, D, Pl, hcs, _, hl, hm, hmm, hx, hall⟩
  · exact ⟨none, 0, 0, [], hcs, rfl, (fun h => absurd h (Nat.lt_irrefl 0)), Nat.le_refl _, by omega, (fun _ => ⟨rfl, rfl⟩)⟩
  · simp only [if_true] at hmm
    subst hmm
    rw [e3] at hall
    haveI : Inhabited Wr := ⟨⟨.empty, .empty, false⟩⟩
    obtain ⟨F, hF⟩ := Go.Deep.choose_lt (n := l) (α := Wr) (p := fun i g => W.cells? 0 (x.add (i * 3)) 3 = some g.cells) (fun i hi => by
      obtain ⟨cs, h1, h2⟩ := hall i (by omega)
      obtain ⟨g, rfl⟩ := in_wr h2
      exact ⟨g, h1⟩)
    refine ⟨some x, l, m, (List.range l).map F, hcs, by simp, fun hpos => ?_, hl, by unfold maxLen at hm; omega, (fun h => by cases h)⟩
    · have h0 := rcells_at (hF 0 hpos) 0 _ rfl
      obtain ⟨b, off, spot⟩ := x
      have hspot : spot = none := by
        have := World.cell?_spot h0
        simpa [Addr.add] using this
      subst hspot
      refine ⟨b, off, rfl, fun i g hi j v hv => ?_⟩
      have hil : i < l := by
        have := (List.getElem?_eq_some_iff.1 hi).1
        simpa using this
      have hg : g = F i := by simpa [hil] using hi.symm
      subst hg
      have := rcells_at (hF i hil) j v hv
      rw [Addr.add_lit, Addr.add_lit] at this
      exact this

theorem in_stampeds (hf : DataW.trod enc Try.prog W 0 (fun _ => true) true fuel 25 cs = some x) : ∃ a len cap l, cs = [.slice a len cap] ∧ InS W a len cap l := by
  have e3 : Try.prog.cellsOf 70 = 3 := by kernel_rfl
  rcases Go.Deep.open_slice Try.underlying25 hf with ⟨hcs, _⟩ | ⟨x, l, c, m, n, D, Pl, hcs, _, hl, hm, hmm, hx, hall⟩
  · exact ⟨none, 0, 0, [], hcs, rfl, (fun h => absurd h (Nat.lt_irrefl 0)), Nat.le_refl _, by omega, (fun _ => ⟨rfl, rfl⟩), by simp⟩
  · simp only [if_true] at hmm
    subst hmm
    rw [e3] at hall
    haveI : Inhabited St := ⟨⟨.empty, .empty, 0⟩⟩
    obtain ⟨F, hF⟩ := Go.Deep.choose_lt (n := l) (α := St) (p := fun i g => W.cells? 0 (x.add (i * 3)) 3 = some g.cells ∧ -9223372036854775808 ≤ g.ts ∧ g.ts ≤ 9223372036854775807) (fun i hi => by
      obtain ⟨cs, h1, h2⟩ := hall i (by omega)
      obtain ⟨g, rfl, h3⟩ := in_st h2
      exact ⟨g, h1, h3⟩)
    refine ⟨some x, l, m, (List.range l).map F, hcs, by simp, fun hpos => ?_, hl, by unfold maxLen at hm; omega, (fun h => by cases h), ?_⟩
    · have h0 := rcells_at (hF 0 hpos).1 0 _ rfl
      obtain ⟨b, off, spot⟩ := x
      have hspot : spot = none := by
        have := World.cell?_spot h0
        simpa [Addr.add] using this
      subst hspot
      refine ⟨b, off, rfl, fun i g hi j v hv => ?_⟩
      have hil : i < l := by
        have := (List.getElem?_eq_some_iff.1 hi).1
        simpa using this
      have hg : g = F i := by simpa [hil] using hi.symm
      subst hg
      have := rcells_at (hF i hil).1 j v hv
      rw [Addr.add_lit, Addr.add_lit] at this
      exact this
    · intro g hg
      obtain ⟨i, hi, rfl⟩ := List.mem_map.1 hg
      exact (hF i (List.mem_range.1 hi)).2

theorem in_commit (hf : DataW.trod enc Try.prog W 0 (fun _ => true) true fuel 24 cs = some x) : ∃ ts a len cap l, cs = [.int .i64 ts, .slice a len cap] ∧ (-9223372036854775808 ≤ ts ∧ ts ≤ 9223372036854775807) ∧ InW W a len cap l := by
  obtain ⟨ys, n, -, rfl, hlen, hys, hall⟩ := DataW.trod_struct Try.underlying24 hf
  have eT : Try.prog.cellsOf 24 = 2 := by kernel_rfl
  rw [eT] at hlen
  obtain ⟨c0, c1, rfl⟩ := list2 hlen
  obtain ⟨y0, y1, rfl⟩ := list2 (l := ys) hys
  have h0 : DataW.trod enc Try.prog W 0 (fun _ => true) true n 2 [c0] = some y0 := by
    have h : DataW.trod enc Try.prog W 0 (fun _ => true) true n 2 (List.take (Try.prog.cellsOf 2) (List.drop 0 [c0, c1])) = some y0 := hall 0 _ rfl
    rw [show Try.prog.cellsOf 2 = 1 by kernel_rfl] at h
    exact h
  have h1 : DataW.trod enc Try.prog W 0 (fun _ => true) true n 22 [c1] = some y1 := by
    have h : DataW.trod enc Try.prog W 0 (fun _ => true) true n 22 (List.take (Try.prog.cellsOf 22) (List.drop 1 [c0, c1])) = some y1 := hall 1 _ rfl
    rw [show Try.prog.cellsOf 22 = 1 by kernel_rfl] at h
    exact h
  obtain ⟨v0, q0, _, w0⟩ := DataW.trod_int Try.underlying2 h0
  obtain ⟨a, len, cap, l, q1, hw⟩ := in_writes h1
  simp only [List.cons.injEq, and_true] at q0 q1
  subst q0 q1
  have := bounds_i64 w0
  exact ⟨v0, a, len, cap, l, rfl, by omega, hw⟩

theorem in_chunk (hf : DataW.trod enc Try.prog W 0 (fun _ => true) true fuel 27 cs = some x) : ∃ n a len cap l d, cs = [.int .i64 n, .slice a len cap, .bool d] ∧ (-9223372036854775808 ≤ n ∧ n ≤ 9223372036854775807) ∧ InS W a len cap l := by
  obtain ⟨ys, n, -, rfl, hlen, hys, hall⟩ := DataW.trod_struct Try.underlying27 hf
  have eT : Try.prog.cellsOf 27 = 3 := by kernel_rfl
  rw [eT] at hlen
  obtain ⟨c0, c1, c2, rfl⟩ := list3 hlen
  obtain ⟨y0, y1, y2, rfl⟩ := list3 (l := ys) hys
  have h0 : DataW.trod enc Try.prog W 0 (fun _ => true) true n 3 [c0] = some y0 := by
    have h : DataW.trod enc Try.prog W 0 (fun _ => true) true n 3 (List.take (Try.prog.cellsOf 3) (List.drop 0 [c0, c1, c2])) = some y0 := hall 0 _ rfl
    rw [show Try.prog.cellsOf 3 = 1 by kernel_rfl] at h
    exact h
  have h1 : DataW.trod enc Try.prog W 0 (fun _ => true) true n 25 [c1] = some y1 := by
    have h : DataW.trod enc Try.prog W 0 (fun _ => true) true n 25 (List.take (Try.prog.cellsOf 25) (List.drop 1 [c0, c1, c2])) = some y1 := hall 1 _ rfl
    rw [show Try.prog.cellsOf 25 = 1 by kernel_rfl] at h
    exact h
  have h2 : DataW.trod enc Try.prog W 0 (fun _ => true) true n 4 [c2] = some y2 := by
    have h : DataW.trod enc Try.prog W 0 (fun _ => true) true n 4 (List.take (Try.prog.cellsOf 4) (List.drop 2 [c0, c1, c2])) = some y2 := hall 2 _ rfl
    rw [show Try.prog.cellsOf 4 = 1 by kernel_rfl] at h
    exact h
  obtain ⟨v0, q0, _, w0⟩ := DataW.trod_int Try.underlying3 h0
  obtain ⟨a, len, cap, l, q1, hw⟩ := in_stampeds h1
  obtain ⟨v2, q2, _⟩ := DataW.trod_bool Try.underlying4 h2
  simp only [List.cons.injEq, and_true] at q0 q1 q2
  subst q0 q1 q2
  have := bounds_i64 w0
  exact ⟨v0, a, len, cap, l, v2, rfl, by omega, hw⟩

theorem in_mark (hf : DataW.trod enc Try.prog W 0 (fun _ => true) true fuel 29 cs = some x) : ∃ a0 a1 a2 a3, cs = [.int .i64 a0, .int .i64 a1, .int .i64 a2, .int .i64 a3] ∧ (-9223372036854775808 ≤ a0 ∧ a0 ≤ 9223372036854775807) ∧ (-9223372036854775808 ≤ a1 ∧ a1 ≤ 9223372036854775807) ∧ (-9223372036854775808 ≤ a2 ∧ a2 ≤ 9223372036854775807) ∧ (-9223372036854775808 ≤ a3 ∧ a3 ≤ 9223372036854775807) := by
  obtain ⟨ys, n, -, rfl, hlen, hys, hall⟩ := DataW.trod_struct Try.underlying29 hf
  have eT : Try.prog.cellsOf 29 = 4 := by kernel_rfl
  rw [eT] at hlen
  obtain ⟨c0, c1, c2, c3, rfl⟩ := list4 hlen
  obtain ⟨y0, y1, y2, y3, rfl⟩ := list4 (l := ys) hys
  have h0 : DataW.trod enc Try.prog W 0 (fun _ => true) true n 2 [c0] = some y0 := by
    have h : DataW.trod enc Try.prog W 0 (fun _ => true) true n 2 (List.take (Try.prog.cellsOf 2) (List.drop 0 [c0, c1, c2, c3])) = some y0 := hall 0 _ rfl
    rw [show Try.prog.cellsOf 2 = 1 by kernel_rfl] at h
    exact h
  have h1 : DataW.trod enc Try.prog W 0 (fun _ => true) true n 3 [c1] = some y1 := by
    have h : DataW.trod enc Try.prog W 0 (fun _ => true) true n 3 (List.take (Try.prog.cellsOf 3) (List.drop 1 [c0, c1, c2, c3])) = some y1 := hall 1 _ rfl
    rw [show Try.prog.cellsOf 3 = 1 by kernel_rfl] at h
    exact h
  have h2 : DataW.trod enc Try.prog W 0 (fun _ => true) true n 2 [c2] = some y2 := by
    have h : DataW.trod enc Try.prog W 0 (fun _ => true) true n 2 (List.take (Try.prog.cellsOf 2) (List.drop 2 [c0, c1, c2, c3])) = some y2 := hall 2 _ rfl
    rw [show Try.prog.cellsOf 2 = 1 by kernel_rfl] at h
    exact h
  have h3 : DataW.trod enc Try.prog W 0 (fun _ => true) true n 2 [c3] = some y3 := by
    have h : DataW.trod enc Try.prog W 0 (fun _ => true) true n 2 (List.take (Try.prog.cellsOf 2) (List.drop 3 [c0, c1, c2, c3])) = some y3 := hall 3 _ rfl
    rw [show Try.prog.cellsOf 2 = 1 by kernel_rfl] at h
    exact h
  obtain ⟨v0, q0, _, w0⟩ := DataW.trod_int Try.underlying2 h0
  obtain ⟨v1, q1, _, w1⟩ := DataW.trod_int Try.underlying3 h1
  obtain ⟨v2, q2, _, w2⟩ := DataW.trod_int Try.underlying2 h2
  obtain ⟨v3, q3, _, w3⟩ := DataW.trod_int Try.underlying2 h3
  simp only [List.cons.injEq, and_true] at q0 q1 q2 q3
  subst q0 q1 q2 q3
  have r0 := bounds_i64 w0
  have r1 := bounds_i64 w1
  have r2 := bounds_i64 w2
  have r3 := bounds_i64 w3
  exact ⟨v0, v1, v2, v3, rfl, by omega, by omega, by omega, by omega⟩

/-- Every number of a master is an int64. -/
def Ms.ok (m : Ms) : Prop := (-9223372036854775808 ≤ m.seq ∧ m.seq ≤ 9223372036854775807) ∧ (-9223372036854775808 ≤ m.area ∧ m.area ≤ 9223372036854775807) ∧ (-9223372036854775808 ≤ m.chunks ∧ m.chunks ≤ 9223372036854775807) ∧ (-9223372036854775808 ≤ m.ts ∧ m.ts ≤ 9223372036854775807) ∧ (-9223372036854775808 ≤ m.sector ∧ m.sector ≤ 9223372036854775807) ∧ (-9223372036854775808 ≤ m.offset ∧ m.offset ≤ 9223372036854775807) ∧ (-9223372036854775808 ≤ m.number ∧ m.number ≤ 9223372036854775807) ∧ (-9223372036854775808 ≤ m.run ∧ m.run ≤ 9223372036854775807)

theorem in_master (hf : DataW.trod enc Try.prog W 0 (fun _ => true) true fuel 31 cs = some x) : ∃ m : Ms, cs = m.cells ∧ m.ok := by
  obtain ⟨ys, n, -, rfl, hlen, hys, hall⟩ := DataW.trod_struct Try.underlying31 hf
  have eT : Try.prog.cellsOf 31 = 8 := by kernel_rfl
  rw [eT] at hlen
  obtain ⟨c0, c1, c2, c3, c4, c5, c6, c7, rfl⟩ := list8 hlen
  obtain ⟨y0, y1, y2, y3, y4, rfl⟩ := list5 (l := ys) hys
  have h0 : DataW.trod enc Try.prog W 0 (fun _ => true) true n 2 [c0] = some y0 := by
    have h : DataW.trod enc Try.prog W 0 (fun _ => true) true n 2 (List.take (Try.prog.cellsOf 2) (List.drop 0 [c0, c1, c2, c3, c4, c5, c6, c7])) = some y0 := hall 0 _ rfl
    rw [show Try.prog.cellsOf 2 = 1 by kernel_rfl] at h
    exact h
  have h1 : DataW.trod enc Try.prog W 0 (fun _ => true) true n 3 [c1] = some y1 := by
    have h : DataW.trod enc Try.prog W 0 (fun _ => true) true n 3 (List.take (Try.prog.cellsOf 3) (List.drop 1 [c0, c1, c2, c3, c4, c5, c6, c7])) = some y1 := hall 1 _ rfl
    rw [show Try.prog.cellsOf 3 = 1 by kernel_rfl] at h
    exact h
  have h2 : DataW.trod enc Try.prog W 0 (fun _ => true) true n 3 [c2] = some y2 := by
    have h : DataW.trod enc Try.prog W 0 (fun _ => true) true n 3 (List.take (Try.prog.cellsOf 3) (List.drop 2 [c0, c1, c2, c3, c4, c5, c6, c7])) = some y2 := hall 2 _ rfl
    rw [show Try.prog.cellsOf 3 = 1 by kernel_rfl] at h
    exact h
  have h3 : DataW.trod enc Try.prog W 0 (fun _ => true) true n 2 [c3] = some y3 := by
    have h : DataW.trod enc Try.prog W 0 (fun _ => true) true n 2 (List.take (Try.prog.cellsOf 2) (List.drop 3 [c0, c1, c2, c3, c4, c5, c6, c7])) = some y3 := hall 3 _ rfl
    rw [show Try.prog.cellsOf 2 = 1 by kernel_rfl] at h
    exact h
  have h4 : DataW.trod enc Try.prog W 0 (fun _ => true) true n 29 [c4, c5, c6, c7] = some y4 := by
    have h : DataW.trod enc Try.prog W 0 (fun _ => true) true n 29 (List.take (Try.prog.cellsOf 29) (List.drop 4 [c0, c1, c2, c3, c4, c5, c6, c7])) = some y4 := hall 4 _ rfl
    rw [show Try.prog.cellsOf 29 = 4 by kernel_rfl] at h
    exact h
  obtain ⟨v0, q0, _, w0⟩ := DataW.trod_int Try.underlying2 h0
  obtain ⟨v1, q1, _, w1⟩ := DataW.trod_int Try.underlying3 h1
  obtain ⟨v2, q2, _, w2⟩ := DataW.trod_int Try.underlying3 h2
  obtain ⟨v3, q3, _, w3⟩ := DataW.trod_int Try.underlying2 h3
  obtain ⟨a0, a1, a2, a3, q4, s0, s1, s2, s3⟩ := in_mark h4
  simp only [List.cons.injEq, and_true] at q0 q1 q2 q3 q4
  obtain ⟨e0, e1, e2, e3⟩ := q4
  subst q0 q1 q2 q3 e0 e1 e2 e3
  have r0 := bounds_i64 w0
  have r1 := bounds_i64 w1
  have r2 := bounds_i64 w2
  have r3 := bounds_i64 w3
  refine ⟨⟨v0, v1, v2, v3, a0, a1, a2, a3⟩, rfl, ?_⟩
  unfold Ms.ok
  simp only
  omega

end

end Go.Proofs.Ytlfgclmgpbaenaa

namespace Go.Proofs.Ytlfgclmgpbaenaa
open Go.ChangeShapes Go.WideShapes Go.ChangeAt Go.RowKit
set_option linter.unusedVariables false
set_option maxRecDepth 100000

theorem zeros_made (m : Nat) : (madeCells (Value.int .u8 0).cells (m * 1)).toList = (List.replicate m (0 : Int)).map (Value.int .u8) := by
  have h1 : (Value.int .u8 0).cells = #[.int .u8 0] := rfl
  apply List.ext_getElem?
  intro i
  rw [h1]
  by_cases hi : i < m
  · simp [madeCells, hi, Nat.mod_one]
  · simp [madeCells, hi]

theorem wp_make_u8 {w : World} {ops : Array Oper} {rest : List Oper} {o : Oper} {a : Act} {Q : Exit → Act → World → Prop} (hg : o.guard = none) (l c : Operand) (hop : o.op = Op.makeSlice 42 l c) (L C : Int) (n : Nat) (hn : n ≤ 1048576) (hl : a.eval l = .int .i64 L) (hc : a.eval c = .int .i64 C) (hL : L = (n : Int)) (hC : C = (n : Int))
    (hK : ∀ w', Own w' w.heap.size (.slice (some ⟨w.heap.size, 0, none⟩) n n) n (List.replicate n 0) → Below w.heap.size w w' → wpList Try.prog ops Q rest (a.put o.dst (.slice (some ⟨w.heap.size, 0, none⟩) n n)) w') : wpList Try.prog ops Q (o :: rest) a w := by
  obtain ⟨i0, hi, hz0, hz1, hz2⟩ := info_parts u8info
  refine wpList_make_full _ hg _ _ 42 hop w.heap.size 5 i0 (.int .u8 0) 1 Try.underlying42 hi hz0 hz1 .i64 .i64 L C n hl hc hL hC (by rw [hz2]; omega) (by unfold maxLen; omega) (Nat.le_refl _) ?_
  intro w1 hown1 hg1
  refine hK w1 ?_ ((Below.refl _ _).grown hg1 (Nat.le_refl _) (fun k hk => by cases hk))
  rw [zeros_made] at hown1
  exact hown1

theorem step_app8w {ops : Array Oper} {o : Oper} {a : Act} {w : World} {K : Act → World → Prop} {Q : Exit → Act → World → Prop} {E : Prop}
    (hw : Region.wanted o (yielded ops a.tmps) = true) (s x : Operand) (ho : o.op = .call { callee := .builtin .append, args := #[s, x], argTypes := #[42, 42] })
    (base : Nat) (v : Value) (n : Nat) (xs : List Int) (hs : a.eval s = v) (hown : Own w base v n xs)
    (ad : Addr) (m c : Nat) (ys : List Int) (hx : a.eval x = .slice (some ad) m c) (hy : Bys w (some ad) ys) (hm : ys.length = m)
    (hb : n + m ≤ 140737488355328) (hbase : base ≤ w.heap.size)
    (hK : ∀ v' w', Own w' base v' (n + m) (xs ++ ys) → Below base w w' → K (a.put o.dst v') w') :
    if Region.wanted o (yielded ops a.tmps) = true then Oper.wp Try.prog o a w K Q else E := by
  rw [if_pos hw]
  obtain ⟨i0, hi, hz0, hz1, hz2⟩ := info_parts u8info
  obtain ⟨v', w', hr, h2, h3, _, h5⟩ := run_append_own_at (P := Try.prog) w base 42 o.type 5 i0 (.int .u8 0) 1 1 Try.underlying42 hi hz0 hz1 hz2 rfl (by decide) v n (xs.map (Value.int .u8)) hown ad m c (ys.map (Value.int .u8)) (by simp [hm]) (hy.cells ad rfl) (ints_oneCell _ _) (by unfold maxLen; omega) (by omega) hbase
  unfold Oper.wp execOp
  simp only [ho, resolve, invoke, builtin, Sem.run_bind, Sem.run_pure, Result.andThen_ok, List.map_toArray, List.map_cons, List.map_nil, hs, hx, hr]
  exact hK v' w' (by simpa [Own] using h2) ((Below.refl _ _).grown h3 hbase (fun k hk => (hown.lt k hk).1))

theorem rep_byte (n : Nat) : ∀ y ∈ List.replicate n (0 : Int), 0 ≤ y ∧ y < 256 := by
  intro y hy
  have := (List.mem_replicate.1 hy).2
  omega

theorem InB.wide47 {w : World} {p : Option Addr} {len cap : Nat} {xs : List Int} (h : InB 140737488351232 w p len cap xs) : InB 9223372036854775807 w p len cap xs := ⟨h.lenq, h.bys, h.le, by have := h.room; omega, h.nil, h.byte⟩

set_option maxHeartbeats 8000000 in
theorem walk_recordParts (ah : Int) (x : Wr) (p : Option Addr) (len cap : Nat) (xs : List Int) (w : World) (hah : (Lit.int .u32 ah).wf = true) (hin : InB 140737488351232 w p len cap xs) :
    Calls Try.prog 6 #[.int .u32 ah, .agg x.cells.toArray, .slice p len cap] w fun e w' => e = .returned (.bool true) ∧ Below w.heap.size w w' := by
  rw [show x.cells.toArray = #[.string x.key, .string x.val, .bool x.del] from rfl]
  have hah2 := bounds_u32 hah
  have HI : Hid (∀ w', Below w.heap.size w w' → InB 9223372036854775807 w' p len cap xs) := fun w' hb => hin.wide47.below hb
  have HLL : Hid (xs.length ≤ 140737488355328) := by have := hin.lenq; have := hin.le; have := hin.room; unfold Hid; omega
  have hlr : len ≤ 140737488351232 := by have := hin.le; have := hin.room; omega
  have HB0 : Hid (Below (w.heap.size + 1) (w.alloc (.cells #[.string x.key, .string x.val, .bool x.del] 33)) (w.alloc (.cells #[.string x.key, .string x.val, .bool x.del] 33))) := Below.refl _ _
  have HC : Hid (∀ w', Below (w.heap.size + 1) (w.alloc (.cells #[.string x.key, .string x.val, .bool x.del] 33)) w' → Below w.heap.size w w' ∧ w'.cell? ⟨w.heap.size, 0, none⟩ = some (.string x.key) ∧ w'.cell? ⟨w.heap.size, 1, none⟩ = some (.string x.val) ∧ w'.cell? ⟨w.heap.size, 2, none⟩ = some (.bool x.del)) := by
    intro w' hb
    have bk := (Bk.new w 33 #[.string x.key, .string x.val, .bool x.del]).below hb (by omega)
    exact ⟨((Below.refl _ _).alloc (Nat.le_refl _) _).trans (hb.mono (by omega)), bk.cell 0, bk.cell 1, bk.cell 2⟩
  have HSZ : Hid (∀ w', Below (w.heap.size + 1) (w.alloc (.cells #[.string x.key, .string x.val, .bool x.del] 33)) w' → w.heap.size + 1 ≤ w'.heap.size) := fun w' hb => by have := hb.size; simpa using this
  clear hin hah
  obtain ⟨N, hN, hNle⟩ : ∃ N : Nat, ah % 1048577 = (N : Int) ∧ N ≤ 1048576 := ⟨(ah % 1048577).toNat, by omega, by omega⟩
  obtain ⟨N2, hN2, hN2le⟩ : ∃ N2 : Nat, (N : Int) % 100 = (N2 : Int) ∧ N2 ≤ 1048576 := ⟨N % 100, by omega, by omega⟩
  by_cases h7 : ah % 7 = 0
  · have h7b : (ah % 7 != 0) = false := by simpa using h7
    go_enter Try.func6, Try.ntmps6
    go_wp2_with fail
    refine (live_any _).mono ?_
    rintro e w1 ⟨rfl, hb1⟩
    have H1 : Hid (Below (w.heap.size + 1) (w.alloc (.cells #[.string x.key, .string x.val, .bool x.del] 33)) w1) := HB0.out.trans (hb1.mono (HSZ.out _ HB0.out))
    clear hb1
    go_wp2_with (refine wp_make_u8 rfl _ _ rfl _ _ N hNle rfl rfl (by omega) (by omega) ?_; intro w2 ho2 hb2; refine Hid.out ?_)
    clear h7 h7b hN hN2 hah2
    have H2 : Hid (Below (w.heap.size + 1) (w.alloc (.cells #[.string x.key, .string x.val, .bool x.del] 33)) w2) := H1.out.trans (hb2.mono (HSZ.out _ H1.out))
    have HO2 : Hid (Own w2 w1.heap.size (.slice (some ⟨w1.heap.size, 0, none⟩) N N) N (List.replicate N 0)) := ho2
    clear ho2 hb2
    obtain ⟨-, k0, k1, k2⟩ := HC.out _ H2.out
    unfold Hid
    go_wp2_with fail
    refine (rcheckWrite_any x _).mono ?_
    rintro e w3 ⟨rfl, hb3⟩
    have H3 : Hid (Below (w.heap.size + 1) (w.alloc (.cells #[.string x.key, .string x.val, .bool x.del] 33)) w3) := H2.out.trans (hb3.mono (HSZ.out _ H2.out))
    have HO3 : Hid (Own w3 w1.heap.size (.slice (some ⟨w1.heap.size, 0, none⟩) N N) N (List.replicate N 0)) := HO2.out.below hb3 (Nat.le_refl _)
    clear k0 k1 k2 hb3 HO2 H2 H1
    obtain ⟨-, k0, k1, k2⟩ := HC.out _ H3.out
    by_cases he : Rc.wrE x = 0
    · have heb : (Rc.wrE x == 0) = true := by simpa using he
      have heb2 : (Rc.wrE x != 0) = false := by simpa using he
      have HS : Hid (x.key.size ≤ 64 ∧ x.val.size ≤ 256) := Rc.wrE_sizes he
      have HMle : Hid ((Rc.wrB x).length ≤ 339) := Rc.wrB_le HS.out.1 HS.out.2
      go_wp2_with fail
      refine (writeForm_any x _ (by have := HS.out; omega) (by have := HS.out; omega) (by have := HS.out; omega)).mono ?_
      rintro e w4 ⟨v4, rfl, hg4⟩
      obtain ⟨q4, d4, hv, -, -, -⟩ := hg4.1.bys
      subst hv
      have H4 : Hid (Below (w.heap.size + 1) (w.alloc (.cells #[.string x.key, .string x.val, .bool x.del] 33)) w4) := H3.out.trans (hg4.2.mono (HSZ.out _ H3.out))
      have HO4 : Hid (Own w4 w1.heap.size (.slice (some ⟨w1.heap.size, 0, none⟩) N N) N (List.replicate N 0)) := HO3.out.below hg4.2 (Nat.le_refl _)
      clear k0 k1 k2 hg4 HO3 H3
      obtain ⟨-, k0, k1, k2⟩ := HC.out _ H4.out
      obtain ⟨M, hM⟩ : ∃ M, (Rc.wrB x).length = M := ⟨_, rfl⟩
      have HM : Hid ((Rc.wrB x).length = M) := hM
      have hMle : M ≤ 339 := by have := HMle.out; omega
      rw [hM]
      have hwr : wrap64 ((N : Int) + (M : Int)) = (N : Int) + (M : Int) := by unfold wrap64; omega
      by_cases hl : N + M ≤ 1048576
      · have hlb : ¬ ((N : Int) + (M : Int) > 1048576) := by omega
        have HE : Hid (Rc.putE N x = 0) := by unfold Hid Rc.putE; rw [if_pos he, hM, if_pos hl]
        clear hM
        go_wp2_with fail
        refine (putWrite_any (some ⟨w1.heap.size, 0, none⟩) N N (List.replicate N 0) x _ HO4.out.at (by simp) (fun h => by cases h) hNle).mono ?_
        rintro e w5 ⟨v5, rfl, hc5⟩
        rw [HE.out] at hc5 ⊢
        have ho5 := hc5.2.1 rfl
        obtain ⟨q5, d5, hv, -, -, -⟩ := ho5.bys
        subst hv
        have H5 : Hid (Below (w.heap.size + 1) (w.alloc (.cells #[.string x.key, .string x.val, .bool x.del] 33)) w5) := H4.out.trans (hc5.1.mono (HSZ.out _ H4.out))
        have HO5 : Hid (Own w5 w1.heap.size (.slice (some ⟨w1.heap.size, 0, none⟩) N N) N (List.replicate N 0)) := HO4.out.below hc5.1 (Nat.le_refl _)
        have HX5 : Hid (Bys w5 q5 (List.replicate N 0 ++ Rc.wrB x)) := by obtain ⟨q', d', hv', -, -, hy⟩ := ho5.bys; cases hv'; exact hy
        have hL5 : (List.replicate N (0 : Int) ++ Rc.wrB x).length = N + M := by rw [List.length_append, HM.out]; simp
        rw [hL5]
        clear k0 k1 k2 hc5 ho5 HO4 H4 hL5
        have HD : Hid (Below (w.heap.size + 1) (w.alloc (.cells #[.string x.key, .string x.val, .bool x.del] 33)) w5.drew) := H5.out.drew
        obtain ⟨-, k0, k1, k2⟩ := HC.out _ H5.out
        have HOD : Hid (Own w5.drew w1.heap.size (.slice (some ⟨w1.heap.size, 0, none⟩) N N) N (List.replicate N 0)) := HO5.out.below ((Below.refl _ _).drew) (Nat.le_refl _)
        have HXD : Hid (Bys w5.drew q5 (List.replicate N 0 ++ Rc.wrB x)) := HX5.out.below ((Below.refl _ _).drew) (Nat.le_refl _)
        have HLN : Hid ((List.replicate N (0 : Int) ++ Rc.wrB x).length = N + M) := by unfold Hid; rw [List.length_append, HM.out]; simp
        have HBY : Hid (∀ y ∈ List.replicate N (0 : Int) ++ Rc.wrB x, 0 ≤ y ∧ y < 256) := app_byte (rep_byte _) (Rc.wrB_byte (by have := HS.out; omega) (by have := HS.out; omega))
        have HRL : Hid ((List.replicate N (0 : Int)).length = N) := by simp [Hid]
        clear HO5 HX5 H5
        go_wp2_with fail
        first
        | go_region_held_law (fun w' => w'.cell? ⟨w.heap.size, 0, none⟩ = some (.string x.key) ∧ w'.cell? ⟨w.heap.size, 1, none⟩ = some (.string x.val) ∧ w'.cell? ⟨w.heap.size, 2, none⟩ = some (.bool x.del)) (go_keep) (first
          | (go_at_call 39; refine (clone_any (some ⟨w1.heap.size, 0, none⟩) N N (List.replicate N 0) _ HRL.out HOD.out.at (by omega) (fun h => by cases h)).mono ?_; rintro e w6 ⟨v6, rfl, ho6, hb6⟩; have hB6 := HD.out.trans (hb6.mono (HSZ.out _ HD.out)); have hx6 := HXD.out.below hb6 (Nat.le_refl _); have hk6 := (HC.out _ hB6).2)
          | (go_at_call 37; refine (writeForm_any x _ (by have := HS.out; omega) (by have := HS.out; omega) (by have := HS.out; omega)).mono ?_; rintro e w7 ⟨v7, rfl, hg7⟩; have hB7 := hB6.trans (hg7.2.mono (HSZ.out _ hB6)); have ho7 := ho6.below hg7.2 (Nat.le_refl _); have hx7 := hx6.below hg7.2 (Nat.le_refl _); have hz7 := hb6.size; have h67 := hb6.trans (hg7.2.mono hb6.size); obtain ⟨g7, c7, hv7⟩ := hg7.1.some (wrB_pos x); subst hv7; have hy7 := hg7.1.at; have hk7 := (HC.out _ hB7).2)
          | (refine step_app8w rfl _ _ rfl w5.drew.heap.size v6 N (List.replicate N 0) (by go_simp) ho7 ⟨g7, 0, none⟩ M c7 (Rc.wrB x) (by go_simp; rw [HM.out]) hy7 HM.out (by omega) (Nat.le_trans hz7 hg7.2.size) ?_; intro v8 w8 ho8 hb8; have hB8 := hB7.trans (hb8.mono (HSZ.out _ HD.out)); have hx8 := HXD.out.below (h67.trans hb8) (Nat.le_refl _); obtain ⟨q8, d8, hv8, -, -, hy8⟩ := ho8.bys; subst hv8; have hk8 := (HC.out _ hB8).2)
          | (go_at_call 28; refine (equal_any q5 q8 d5 d8 _ _ (List.replicate N 0 ++ Rc.wrB x) (List.replicate N 0 ++ Rc.wrB x) _ HLN.out HLN.out hx8 hy8 HBY.out HBY.out).mono ?_; rintro e w9 ⟨rfl, rfl⟩))
        | fail
        have H9 : Hid (Below (w.heap.size + 1) (w.alloc (.cells #[.string x.key, .string x.val, .bool x.del] 33)) w9) := hB8
        clear hB6 hx6 hk6 hB7 ho7 hx7 hz7 h67 hy7 hk7 ho8 hb8 hB8 hx8 hy8 hk8 ho6 hb6 hg7 HOD HXD HD k0 k1 k2
        obtain ⟨w6, hw6⟩ : ∃ w6, w9 = w6 := ⟨_, rfl⟩
        rw [hw6] at H9 ⊢
        have H6 := H9
        clear hw6 H9
        go_wp2_with fail
        refine (takeWrite_any p len cap xs _ (HI.out _ (HC.out _ H6.out).1)).mono ?_
        rintro e w8 ⟨rfl, hb8⟩
        obtain ⟨g, sz, ee, hq⟩ : ∃ a b c, Rc.takeWr xs = (a, b, c) := ⟨_, _, _, rfl⟩
        have HQ : Hid (Rc.takeWr xs = (g, sz, ee)) := hq
        rw [hq]
        simp only
        rw [show g.cells.toArray = #[.string g.key, .string g.val, .bool g.del] from rfl]
        have H8 : Hid (Below w.heap.size w (w8.alloc (.cells #[.string g.key, .string g.val, .bool g.del] 33))) := by
          have h := (HC.out _ H6.out).1
          have h2 := h.trans (hb8.mono h.size)
          exact h2.alloc h2.size _
        have HK8 : Hid (Bk (w8.alloc (.cells #[.string g.key, .string g.val, .bool g.del] 33)) w8.heap.size 33 #[.string g.key, .string g.val, .bool g.del]) := Bk.new _ _ _
        clear hb8 hq
        go_wp2_with fail
        refine (rtakeWrite_any p len cap xs _ (HI.out _ H8.out) HLL.out).mono ?_
        rintro e w9 ⟨q9, n9, c9, rfl, hn9, hb9⟩
        rw [HQ.out] at hn9 ⊢
        simp only at hn9 ⊢
        rw [show g.cells.toArray = #[.string g.key, .string g.val, .bool g.del] from rfl]
        have H9 : Hid (Below w.heap.size w (w9.alloc (.cells #[.string g.key, .string g.val, .bool g.del] 33))) := by
          have h2 := H8.out.trans (hb9.mono H8.out.size)
          exact h2.alloc h2.size _
        have y9 := (Bk.below HK8.out hb9 (by simp)).alloc (.cells #[.string g.key, .string g.val, .bool g.del] 33)
        have z9 := Bk.new w9 33 #[.string g.key, .string g.val, .bool g.del]
        have j0 : (w9.alloc (.cells #[.string g.key, .string g.val, .bool g.del] 33)).cell? ⟨w8.heap.size, 0, none⟩ = some (.string g.key) := y9.cell 0
        have j1 : (w9.alloc (.cells #[.string g.key, .string g.val, .bool g.del] 33)).cell? ⟨w8.heap.size, 1, none⟩ = some (.string g.val) := y9.cell 1
        have j2 : (w9.alloc (.cells #[.string g.key, .string g.val, .bool g.del] 33)).cell? ⟨w8.heap.size, 2, none⟩ = some (.bool g.del) := y9.cell 2
        have j3 : (w9.alloc (.cells #[.string g.key, .string g.val, .bool g.del] 33)).cell? ⟨w9.heap.size, 0, none⟩ = some (.string g.key) := z9.cell 0
        have j4 : (w9.alloc (.cells #[.string g.key, .string g.val, .bool g.del] 33)).cell? ⟨w9.heap.size, 1, none⟩ = some (.string g.val) := z9.cell 1
        have j5 : (w9.alloc (.cells #[.string g.key, .string g.val, .bool g.del] 33)).cell? ⟨w9.heap.size, 2, none⟩ = some (.bool g.del) := z9.cell 2
        have hw9 : wrap64 ((len : Int) - (n9 : Int)) = (len : Int) - (n9 : Int) := by unfold wrap64; omega
        obtain ⟨hn9a, rfl⟩ := hn9
        clear hb9 y9 z9
        go_wp2
        go_ret
        exact ⟨by simp, H9.out⟩
      · have hlb : (N : Int) + (M : Int) > 1048576 := by omega
        have HE : Hid (Rc.putE N x = 3) := by unfold Hid Rc.putE; rw [if_pos he, hM, if_neg hl]
        clear hM
        go_wp2_with fail
        refine (putWrite_any (some ⟨w1.heap.size, 0, none⟩) N N (List.replicate N 0) x _ HO4.out.at (by simp) (fun h => by cases h) hNle).mono ?_
        rintro e w5 ⟨v5, rfl, hc5⟩
        rw [HE.out] at hc5 ⊢
        obtain rfl := hc5.2.2 (by decide)
        have H5 : Hid (Below (w.heap.size + 1) (w.alloc (.cells #[.string x.key, .string x.val, .bool x.del] 33)) w5) := H4.out.trans (hc5.1.mono (HSZ.out _ H4.out))
        clear k0 k1 k2 hc5 HO4 H4
        go_wp2_with fail
        go_quiet (fail)
        have H6 : Hid (Below (w.heap.size + 1) (w.alloc (.cells #[.string x.key, .string x.val, .bool x.del] 33)) (w5.drewN nq)) := below_drewN H5.out nq
        clear H5
        generalize w5.drewN nq = w6 at *
        go_wp2_with fail
        refine (takeWrite_any p len cap xs _ (HI.out _ (HC.out _ H6.out).1)).mono ?_
        rintro e w8 ⟨rfl, hb8⟩
        obtain ⟨g, sz, ee, hq⟩ : ∃ a b c, Rc.takeWr xs = (a, b, c) := ⟨_, _, _, rfl⟩
        have HQ : Hid (Rc.takeWr xs = (g, sz, ee)) := hq
        rw [hq]
        simp only
        rw [show g.cells.toArray = #[.string g.key, .string g.val, .bool g.del] from rfl]
        have H8 : Hid (Below w.heap.size w (w8.alloc (.cells #[.string g.key, .string g.val, .bool g.del] 33))) := by
          have h := (HC.out _ H6.out).1
          have h2 := h.trans (hb8.mono h.size)
          exact h2.alloc h2.size _
        have HK8 : Hid (Bk (w8.alloc (.cells #[.string g.key, .string g.val, .bool g.del] 33)) w8.heap.size 33 #[.string g.key, .string g.val, .bool g.del]) := Bk.new _ _ _
        clear hb8 hq
        go_wp2_with fail
        refine (rtakeWrite_any p len cap xs _ (HI.out _ H8.out) HLL.out).mono ?_
        rintro e w9 ⟨q9, n9, c9, rfl, hn9, hb9⟩
        rw [HQ.out] at hn9 ⊢
        simp only at hn9 ⊢
        rw [show g.cells.toArray = #[.string g.key, .string g.val, .bool g.del] from rfl]
        have H9 : Hid (Below w.heap.size w (w9.alloc (.cells #[.string g.key, .string g.val, .bool g.del] 33))) := by
          have h2 := H8.out.trans (hb9.mono H8.out.size)
          exact h2.alloc h2.size _
        have y9 := (Bk.below HK8.out hb9 (by simp)).alloc (.cells #[.string g.key, .string g.val, .bool g.del] 33)
        have z9 := Bk.new w9 33 #[.string g.key, .string g.val, .bool g.del]
        have j0 : (w9.alloc (.cells #[.string g.key, .string g.val, .bool g.del] 33)).cell? ⟨w8.heap.size, 0, none⟩ = some (.string g.key) := y9.cell 0
        have j1 : (w9.alloc (.cells #[.string g.key, .string g.val, .bool g.del] 33)).cell? ⟨w8.heap.size, 1, none⟩ = some (.string g.val) := y9.cell 1
        have j2 : (w9.alloc (.cells #[.string g.key, .string g.val, .bool g.del] 33)).cell? ⟨w8.heap.size, 2, none⟩ = some (.bool g.del) := y9.cell 2
        have j3 : (w9.alloc (.cells #[.string g.key, .string g.val, .bool g.del] 33)).cell? ⟨w9.heap.size, 0, none⟩ = some (.string g.key) := z9.cell 0
        have j4 : (w9.alloc (.cells #[.string g.key, .string g.val, .bool g.del] 33)).cell? ⟨w9.heap.size, 1, none⟩ = some (.string g.val) := z9.cell 1
        have j5 : (w9.alloc (.cells #[.string g.key, .string g.val, .bool g.del] 33)).cell? ⟨w9.heap.size, 2, none⟩ = some (.bool g.del) := z9.cell 2
        have hw9 : wrap64 ((len : Int) - (n9 : Int)) = (len : Int) - (n9 : Int) := by unfold wrap64; omega
        obtain ⟨hn9a, rfl⟩ := hn9
        clear hb9 y9 z9
        go_wp2
        go_ret
        exact ⟨by simp, H9.out⟩
    · have heb : (Rc.wrE x == 0) = false := by simpa using he
      have heb2 : (Rc.wrE x != 0) = true := by simpa using he
      have HE : Hid (Rc.putE N x = Rc.wrE x) := by unfold Hid Rc.putE; rw [if_neg he]
      go_wp2_with fail
      refine (putWrite_any (some ⟨w1.heap.size, 0, none⟩) N N (List.replicate N 0) x _ HO3.out.at (by simp) (fun h => by cases h) hNle).mono ?_
      rintro e w5 ⟨v5, rfl, hc5⟩
      rw [HE.out] at hc5 ⊢
      obtain rfl := hc5.2.2 he
      have H5 : Hid (Below (w.heap.size + 1) (w.alloc (.cells #[.string x.key, .string x.val, .bool x.del] 33)) w5) := H3.out.trans (hc5.1.mono (HSZ.out _ H3.out))
      clear k0 k1 k2 hc5 HO3 H3
      go_wp2_with fail
      go_quiet (fail)
      have H6 : Hid (Below (w.heap.size + 1) (w.alloc (.cells #[.string x.key, .string x.val, .bool x.del] 33)) (w5.drewN nq)) := below_drewN H5.out nq
      clear H5
      generalize w5.drewN nq = w6 at *
      go_wp2_with fail
      refine (takeWrite_any p len cap xs _ (HI.out _ (HC.out _ H6.out).1)).mono ?_
      rintro e w8 ⟨rfl, hb8⟩
      obtain ⟨g, sz, ee, hq⟩ : ∃ a b c, Rc.takeWr xs = (a, b, c) := ⟨_, _, _, rfl⟩
      have HQ : Hid (Rc.takeWr xs = (g, sz, ee)) := hq
      rw [hq]
      simp only
      rw [show g.cells.toArray = #[.string g.key, .string g.val, .bool g.del] from rfl]
      have H8 : Hid (Below w.heap.size w (w8.alloc (.cells #[.string g.key, .string g.val, .bool g.del] 33))) := by
        have h := (HC.out _ H6.out).1
        have h2 := h.trans (hb8.mono h.size)
        exact h2.alloc h2.size _
      have HK8 : Hid (Bk (w8.alloc (.cells #[.string g.key, .string g.val, .bool g.del] 33)) w8.heap.size 33 #[.string g.key, .string g.val, .bool g.del]) := Bk.new _ _ _
      clear hb8 hq
      go_wp2_with fail
      refine (rtakeWrite_any p len cap xs _ (HI.out _ H8.out) HLL.out).mono ?_
      rintro e w9 ⟨q9, n9, c9, rfl, hn9, hb9⟩
      rw [HQ.out] at hn9 ⊢
      simp only at hn9 ⊢
      rw [show g.cells.toArray = #[.string g.key, .string g.val, .bool g.del] from rfl]
      have H9 : Hid (Below w.heap.size w (w9.alloc (.cells #[.string g.key, .string g.val, .bool g.del] 33))) := by
        have h2 := H8.out.trans (hb9.mono H8.out.size)
        exact h2.alloc h2.size _
      have y9 := (Bk.below HK8.out hb9 (by simp)).alloc (.cells #[.string g.key, .string g.val, .bool g.del] 33)
      have z9 := Bk.new w9 33 #[.string g.key, .string g.val, .bool g.del]
      have j0 : (w9.alloc (.cells #[.string g.key, .string g.val, .bool g.del] 33)).cell? ⟨w8.heap.size, 0, none⟩ = some (.string g.key) := y9.cell 0
      have j1 : (w9.alloc (.cells #[.string g.key, .string g.val, .bool g.del] 33)).cell? ⟨w8.heap.size, 1, none⟩ = some (.string g.val) := y9.cell 1
      have j2 : (w9.alloc (.cells #[.string g.key, .string g.val, .bool g.del] 33)).cell? ⟨w8.heap.size, 2, none⟩ = some (.bool g.del) := y9.cell 2
      have j3 : (w9.alloc (.cells #[.string g.key, .string g.val, .bool g.del] 33)).cell? ⟨w9.heap.size, 0, none⟩ = some (.string g.key) := z9.cell 0
      have j4 : (w9.alloc (.cells #[.string g.key, .string g.val, .bool g.del] 33)).cell? ⟨w9.heap.size, 1, none⟩ = some (.string g.val) := z9.cell 1
      have j5 : (w9.alloc (.cells #[.string g.key, .string g.val, .bool g.del] 33)).cell? ⟨w9.heap.size, 2, none⟩ = some (.bool g.del) := z9.cell 2
      have hw9 : wrap64 ((len : Int) - (n9 : Int)) = (len : Int) - (n9 : Int) := by unfold wrap64; omega
      obtain ⟨hn9a, rfl⟩ := hn9
      clear hb9 y9 z9
      go_wp2
      go_ret
      exact ⟨by simp, H9.out⟩

  · have h7b : (ah % 7 != 0) = true := by simpa using h7
    go_enter Try.func6, Try.ntmps6
    go_wp2_with fail
    refine (live_any _).mono ?_
    rintro e w1 ⟨rfl, hb1⟩
    have H1 : Hid (Below (w.heap.size + 1) (w.alloc (.cells #[.string x.key, .string x.val, .bool x.del] 33)) w1) := HB0.out.trans (hb1.mono (HSZ.out _ HB0.out))
    clear hb1
    go_wp2_with (refine wp_make_u8 rfl _ _ rfl _ _ N2 hN2le rfl rfl (by omega) (by omega) ?_; intro w2 ho2 hb2; refine Hid.out ?_)
    clear h7 h7b hN hN2 hah2
    have H2 : Hid (Below (w.heap.size + 1) (w.alloc (.cells #[.string x.key, .string x.val, .bool x.del] 33)) w2) := H1.out.trans (hb2.mono (HSZ.out _ H1.out))
    have HO2 : Hid (Own w2 w1.heap.size (.slice (some ⟨w1.heap.size, 0, none⟩) N2 N2) N2 (List.replicate N2 0)) := ho2
    clear ho2 hb2
    obtain ⟨-, k0, k1, k2⟩ := HC.out _ H2.out
    unfold Hid
    go_wp2_with fail
    refine (rcheckWrite_any x _).mono ?_
    rintro e w3 ⟨rfl, hb3⟩
    have H3 : Hid (Below (w.heap.size + 1) (w.alloc (.cells #[.string x.key, .string x.val, .bool x.del] 33)) w3) := H2.out.trans (hb3.mono (HSZ.out _ H2.out))
    have HO3 : Hid (Own w3 w1.heap.size (.slice (some ⟨w1.heap.size, 0, none⟩) N2 N2) N2 (List.replicate N2 0)) := HO2.out.below hb3 (Nat.le_refl _)
    clear k0 k1 k2 hb3 HO2 H2 H1
    obtain ⟨-, k0, k1, k2⟩ := HC.out _ H3.out
    by_cases he : Rc.wrE x = 0
    · have heb : (Rc.wrE x == 0) = true := by simpa using he
      have heb2 : (Rc.wrE x != 0) = false := by simpa using he
      have HS : Hid (x.key.size ≤ 64 ∧ x.val.size ≤ 256) := Rc.wrE_sizes he
      have HMle : Hid ((Rc.wrB x).length ≤ 339) := Rc.wrB_le HS.out.1 HS.out.2
      go_wp2_with fail
      refine (writeForm_any x _ (by have := HS.out; omega) (by have := HS.out; omega) (by have := HS.out; omega)).mono ?_
      rintro e w4 ⟨v4, rfl, hg4⟩
      obtain ⟨q4, d4, hv, -, -, -⟩ := hg4.1.bys
      subst hv
      have H4 : Hid (Below (w.heap.size + 1) (w.alloc (.cells #[.string x.key, .string x.val, .bool x.del] 33)) w4) := H3.out.trans (hg4.2.mono (HSZ.out _ H3.out))
      have HO4 : Hid (Own w4 w1.heap.size (.slice (some ⟨w1.heap.size, 0, none⟩) N2 N2) N2 (List.replicate N2 0)) := HO3.out.below hg4.2 (Nat.le_refl _)
      clear k0 k1 k2 hg4 HO3 H3
      obtain ⟨-, k0, k1, k2⟩ := HC.out _ H4.out
      obtain ⟨M, hM⟩ : ∃ M, (Rc.wrB x).length = M := ⟨_, rfl⟩
      have HM : Hid ((Rc.wrB x).length = M) := hM
      have hMle : M ≤ 339 := by have := HMle.out; omega
      rw [hM]
      have hwr : wrap64 ((N2 : Int) + (M : Int)) = (N2 : Int) + (M : Int) := by unfold wrap64; omega
      by_cases hl : N2 + M ≤ 1048576
      · have hlb : ¬ ((N2 : Int) + (M : Int) > 1048576) := by omega
        have HE : Hid (Rc.putE N2 x = 0) := by unfold Hid Rc.putE; rw [if_pos he, hM, if_pos hl]
        clear hM
        go_wp2_with fail
        refine (putWrite_any (some ⟨w1.heap.size, 0, none⟩) N2 N2 (List.replicate N2 0) x _ HO4.out.at (by simp) (fun h => by cases h) hN2le).mono ?_
        rintro e w5 ⟨v5, rfl, hc5⟩
        rw [HE.out] at hc5 ⊢
        have ho5 := hc5.2.1 rfl
        obtain ⟨q5, d5, hv, -, -, -⟩ := ho5.bys
        subst hv
        have H5 : Hid (Below (w.heap.size + 1) (w.alloc (.cells #[.string x.key, .string x.val, .bool x.del] 33)) w5) := H4.out.trans (hc5.1.mono (HSZ.out _ H4.out))
        have HO5 : Hid (Own w5 w1.heap.size (.slice (some ⟨w1.heap.size, 0, none⟩) N2 N2) N2 (List.replicate N2 0)) := HO4.out.below hc5.1 (Nat.le_refl _)
        have HX5 : Hid (Bys w5 q5 (List.replicate N2 0 ++ Rc.wrB x)) := by obtain ⟨q', d', hv', -, -, hy⟩ := ho5.bys; cases hv'; exact hy
        have hL5 : (List.replicate N2 (0 : Int) ++ Rc.wrB x).length = N2 + M := by rw [List.length_append, HM.out]; simp
        rw [hL5]
        clear k0 k1 k2 hc5 ho5 HO4 H4 hL5
        have HD : Hid (Below (w.heap.size + 1) (w.alloc (.cells #[.string x.key, .string x.val, .bool x.del] 33)) w5.drew) := H5.out.drew
        obtain ⟨-, k0, k1, k2⟩ := HC.out _ H5.out
        have HOD : Hid (Own w5.drew w1.heap.size (.slice (some ⟨w1.heap.size, 0, none⟩) N2 N2) N2 (List.replicate N2 0)) := HO5.out.below ((Below.refl _ _).drew) (Nat.le_refl _)
        have HXD : Hid (Bys w5.drew q5 (List.replicate N2 0 ++ Rc.wrB x)) := HX5.out.below ((Below.refl _ _).drew) (Nat.le_refl _)
        have HLN : Hid ((List.replicate N2 (0 : Int) ++ Rc.wrB x).length = N2 + M) := by unfold Hid; rw [List.length_append, HM.out]; simp
        have HBY : Hid (∀ y ∈ List.replicate N2 (0 : Int) ++ Rc.wrB x, 0 ≤ y ∧ y < 256) := app_byte (rep_byte _) (Rc.wrB_byte (by have := HS.out; omega) (by have := HS.out; omega))
        have HRL : Hid ((List.replicate N2 (0 : Int)).length = N2) := by simp [Hid]
        clear HO5 HX5 H5
        go_wp2_with fail
        first
        | go_region_held_law (fun w' => w'.cell? ⟨w.heap.size, 0, none⟩ = some (.string x.key) ∧ w'.cell? ⟨w.heap.size, 1, none⟩ = some (.string x.val) ∧ w'.cell? ⟨w.heap.size, 2, none⟩ = some (.bool x.del)) (go_keep) (first
          | (go_at_call 39; refine (clone_any (some ⟨w1.heap.size, 0, none⟩) N2 N2 (List.replicate N2 0) _ HRL.out HOD.out.at (by omega) (fun h => by cases h)).mono ?_; rintro e w6 ⟨v6, rfl, ho6, hb6⟩; have hB6 := HD.out.trans (hb6.mono (HSZ.out _ HD.out)); have hx6 := HXD.out.below hb6 (Nat.le_refl _); have hk6 := (HC.out _ hB6).2)
          | (go_at_call 37; refine (writeForm_any x _ (by have := HS.out; omega) (by have := HS.out; omega) (by have := HS.out; omega)).mono ?_; rintro e w7 ⟨v7, rfl, hg7⟩; have hB7 := hB6.trans (hg7.2.mono (HSZ.out _ hB6)); have ho7 := ho6.below hg7.2 (Nat.le_refl _); have hx7 := hx6.below hg7.2 (Nat.le_refl _); have hz7 := hb6.size; have h67 := hb6.trans (hg7.2.mono hb6.size); obtain ⟨g7, c7, hv7⟩ := hg7.1.some (wrB_pos x); subst hv7; have hy7 := hg7.1.at; have hk7 := (HC.out _ hB7).2)
          | (refine step_app8w rfl _ _ rfl w5.drew.heap.size v6 N2 (List.replicate N2 0) (by go_simp) ho7 ⟨g7, 0, none⟩ M c7 (Rc.wrB x) (by go_simp; rw [HM.out]) hy7 HM.out (by omega) (Nat.le_trans hz7 hg7.2.size) ?_; intro v8 w8 ho8 hb8; have hB8 := hB7.trans (hb8.mono (HSZ.out _ HD.out)); have hx8 := HXD.out.below (h67.trans hb8) (Nat.le_refl _); obtain ⟨q8, d8, hv8, -, -, hy8⟩ := ho8.bys; subst hv8; have hk8 := (HC.out _ hB8).2)
          | (go_at_call 28; refine (equal_any q5 q8 d5 d8 _ _ (List.replicate N2 0 ++ Rc.wrB x) (List.replicate N2 0 ++ Rc.wrB x) _ HLN.out HLN.out hx8 hy8 HBY.out HBY.out).mono ?_; rintro e w9 ⟨rfl, rfl⟩))
        | fail
        have H9 : Hid (Below (w.heap.size + 1) (w.alloc (.cells #[.string x.key, .string x.val, .bool x.del] 33)) w9) := hB8
        clear hB6 hx6 hk6 hB7 ho7 hx7 hz7 h67 hy7 hk7 ho8 hb8 hB8 hx8 hy8 hk8 ho6 hb6 hg7 HOD HXD HD k0 k1 k2
        obtain ⟨w6, hw6⟩ : ∃ w6, w9 = w6 := ⟨_, rfl⟩
        rw [hw6] at H9 ⊢
        have H6 := H9
        clear hw6 H9
        go_wp2_with fail
        refine (takeWrite_any p len cap xs _ (HI.out _ (HC.out _ H6.out).1)).mono ?_
        rintro e w8 ⟨rfl, hb8⟩
        obtain ⟨g, sz, ee, hq⟩ : ∃ a b c, Rc.takeWr xs = (a, b, c) := ⟨_, _, _, rfl⟩
        have HQ : Hid (Rc.takeWr xs = (g, sz, ee)) := hq
        rw [hq]
        simp only
        rw [show g.cells.toArray = #[.string g.key, .string g.val, .bool g.del] from rfl]
        have H8 : Hid (Below w.heap.size w (w8.alloc (.cells #[.string g.key, .string g.val, .bool g.del] 33))) := by
          have h := (HC.out _ H6.out).1
          have h2 := h.trans (hb8.mono h.size)
          exact h2.alloc h2.size _
        have HK8 : Hid (Bk (w8.alloc (.cells #[.string g.key, .string g.val, .bool g.del] 33)) w8.heap.size 33 #[.string g.key, .string g.val, .bool g.del]) := Bk.new _ _ _
        clear hb8 hq
        go_wp2_with fail
        refine (rtakeWrite_any p len cap xs _ (HI.out _ H8.out) HLL.out).mono ?_
        rintro e w9 ⟨q9, n9, c9, rfl, hn9, hb9⟩
        rw [HQ.out] at hn9 ⊢
        simp only at hn9 ⊢
        rw [show g.cells.toArray = #[.string g.key, .string g.val, .bool g.del] from rfl]
        have H9 : Hid (Below w.heap.size w (w9.alloc (.cells #[.string g.key, .string g.val, .bool g.del] 33))) := by
          have h2 := H8.out.trans (hb9.mono H8.out.size)
          exact h2.alloc h2.size _
        have y9 := (Bk.below HK8.out hb9 (by simp)).alloc (.cells #[.string g.key, .string g.val, .bool g.del] 33)
        have z9 := Bk.new w9 33 #[.string g.key, .string g.val, .bool g.del]
        have j0 : (w9.alloc (.cells #[.string g.key, .string g.val, .bool g.del] 33)).cell? ⟨w8.heap.size, 0, none⟩ = some (.string g.key) := y9.cell 0
        have j1 : (w9.alloc (.cells #[.string g.key, .string g.val, .bool g.del] 33)).cell? ⟨w8.heap.size, 1, none⟩ = some (.string g.val) := y9.cell 1
        have j2 : (w9.alloc (.cells #[.string g.key, .string g.val, .bool g.del] 33)).cell? ⟨w8.heap.size, 2, none⟩ = some (.bool g.del) := y9.cell 2
        have j3 : (w9.alloc (.cells #[.string g.key, .string g.val, .bool g.del] 33)).cell? ⟨w9.heap.size, 0, none⟩ = some (.string g.key) := z9.cell 0
        have j4 : (w9.alloc (.cells #[.string g.key, .string g.val, .bool g.del] 33)).cell? ⟨w9.heap.size, 1, none⟩ = some (.string g.val) := z9.cell 1
        have j5 : (w9.alloc (.cells #[.string g.key, .string g.val, .bool g.del] 33)).cell? ⟨w9.heap.size, 2, none⟩ = some (.bool g.del) := z9.cell 2
        have hw9 : wrap64 ((len : Int) - (n9 : Int)) = (len : Int) - (n9 : Int) := by unfold wrap64; omega
        obtain ⟨hn9a, rfl⟩ := hn9
        clear hb9 y9 z9
        go_wp2
        go_ret
        exact ⟨by simp, H9.out⟩
      · have hlb : (N2 : Int) + (M : Int) > 1048576 := by omega
        have HE : Hid (Rc.putE N2 x = 3) := by unfold Hid Rc.putE; rw [if_pos he, hM, if_neg hl]
        clear hM
        go_wp2_with fail
        refine (putWrite_any (some ⟨w1.heap.size, 0, none⟩) N2 N2 (List.replicate N2 0) x _ HO4.out.at (by simp) (fun h => by cases h) hN2le).mono ?_
        rintro e w5 ⟨v5, rfl, hc5⟩
        rw [HE.out] at hc5 ⊢
        obtain rfl := hc5.2.2 (by decide)
        have H5 : Hid (Below (w.heap.size + 1) (w.alloc (.cells #[.string x.key, .string x.val, .bool x.del] 33)) w5) := H4.out.trans (hc5.1.mono (HSZ.out _ H4.out))
        clear k0 k1 k2 hc5 HO4 H4
        go_wp2_with fail
        go_quiet (fail)
        have H6 : Hid (Below (w.heap.size + 1) (w.alloc (.cells #[.string x.key, .string x.val, .bool x.del] 33)) (w5.drewN nq)) := below_drewN H5.out nq
        clear H5
        generalize w5.drewN nq = w6 at *
        go_wp2_with fail
        refine (takeWrite_any p len cap xs _ (HI.out _ (HC.out _ H6.out).1)).mono ?_
        rintro e w8 ⟨rfl, hb8⟩
        obtain ⟨g, sz, ee, hq⟩ : ∃ a b c, Rc.takeWr xs = (a, b, c) := ⟨_, _, _, rfl⟩
        have HQ : Hid (Rc.takeWr xs = (g, sz, ee)) := hq
        rw [hq]
        simp only
        rw [show g.cells.toArray = #[.string g.key, .string g.val, .bool g.del] from rfl]
        have H8 : Hid (Below w.heap.size w (w8.alloc (.cells #[.string g.key, .string g.val, .bool g.del] 33))) := by
          have h := (HC.out _ H6.out).1
          have h2 := h.trans (hb8.mono h.size)
          exact h2.alloc h2.size _
        have HK8 : Hid (Bk (w8.alloc (.cells #[.string g.key, .string g.val, .bool g.del] 33)) w8.heap.size 33 #[.string g.key, .string g.val, .bool g.del]) := Bk.new _ _ _
        clear hb8 hq
        go_wp2_with fail
        refine (rtakeWrite_any p len cap xs _ (HI.out _ H8.out) HLL.out).mono ?_
        rintro e w9 ⟨q9, n9, c9, rfl, hn9, hb9⟩
        rw [HQ.out] at hn9 ⊢
        simp only at hn9 ⊢
        rw [show g.cells.toArray = #[.string g.key, .string g.val, .bool g.del] from rfl]
        have H9 : Hid (Below w.heap.size w (w9.alloc (.cells #[.string g.key, .string g.val, .bool g.del] 33))) := by
          have h2 := H8.out.trans (hb9.mono H8.out.size)
          exact h2.alloc h2.size _
        have y9 := (Bk.below HK8.out hb9 (by simp)).alloc (.cells #[.string g.key, .string g.val, .bool g.del] 33)
        have z9 := Bk.new w9 33 #[.string g.key, .string g.val, .bool g.del]
        have j0 : (w9.alloc (.cells #[.string g.key, .string g.val, .bool g.del] 33)).cell? ⟨w8.heap.size, 0, none⟩ = some (.string g.key) := y9.cell 0
        have j1 : (w9.alloc (.cells #[.string g.key, .string g.val, .bool g.del] 33)).cell? ⟨w8.heap.size, 1, none⟩ = some (.string g.val) := y9.cell 1
        have j2 : (w9.alloc (.cells #[.string g.key, .string g.val, .bool g.del] 33)).cell? ⟨w8.heap.size, 2, none⟩ = some (.bool g.del) := y9.cell 2
        have j3 : (w9.alloc (.cells #[.string g.key, .string g.val, .bool g.del] 33)).cell? ⟨w9.heap.size, 0, none⟩ = some (.string g.key) := z9.cell 0
        have j4 : (w9.alloc (.cells #[.string g.key, .string g.val, .bool g.del] 33)).cell? ⟨w9.heap.size, 1, none⟩ = some (.string g.val) := z9.cell 1
        have j5 : (w9.alloc (.cells #[.string g.key, .string g.val, .bool g.del] 33)).cell? ⟨w9.heap.size, 2, none⟩ = some (.bool g.del) := z9.cell 2
        have hw9 : wrap64 ((len : Int) - (n9 : Int)) = (len : Int) - (n9 : Int) := by unfold wrap64; omega
        obtain ⟨hn9a, rfl⟩ := hn9
        clear hb9 y9 z9
        go_wp2
        go_ret
        exact ⟨by simp, H9.out⟩
    · have heb : (Rc.wrE x == 0) = false := by simpa using he
      have heb2 : (Rc.wrE x != 0) = true := by simpa using he
      have HE : Hid (Rc.putE N2 x = Rc.wrE x) := by unfold Hid Rc.putE; rw [if_neg he]
      go_wp2_with fail
      refine (putWrite_any (some ⟨w1.heap.size, 0, none⟩) N2 N2 (List.replicate N2 0) x _ HO3.out.at (by simp) (fun h => by cases h) hN2le).mono ?_
      rintro e w5 ⟨v5, rfl, hc5⟩
      rw [HE.out] at hc5 ⊢
      obtain rfl := hc5.2.2 he
      have H5 : Hid (Below (w.heap.size + 1) (w.alloc (.cells #[.string x.key, .string x.val, .bool x.del] 33)) w5) := H3.out.trans (hc5.1.mono (HSZ.out _ H3.out))
      clear k0 k1 k2 hc5 HO3 H3
      go_wp2_with fail
      go_quiet (fail)
      have H6 : Hid (Below (w.heap.size + 1) (w.alloc (.cells #[.string x.key, .string x.val, .bool x.del] 33)) (w5.drewN nq)) := below_drewN H5.out nq
      clear H5
      generalize w5.drewN nq = w6 at *
      go_wp2_with fail
      refine (takeWrite_any p len cap xs _ (HI.out _ (HC.out _ H6.out).1)).mono ?_
      rintro e w8 ⟨rfl, hb8⟩
      obtain ⟨g, sz, ee, hq⟩ : ∃ a b c, Rc.takeWr xs = (a, b, c) := ⟨_, _, _, rfl⟩
      have HQ : Hid (Rc.takeWr xs = (g, sz, ee)) := hq
      rw [hq]
      simp only
      rw [show g.cells.toArray = #[.string g.key, .string g.val, .bool g.del] from rfl]
      have H8 : Hid (Below w.heap.size w (w8.alloc (.cells #[.string g.key, .string g.val, .bool g.del] 33))) := by
        have h := (HC.out _ H6.out).1
        have h2 := h.trans (hb8.mono h.size)
        exact h2.alloc h2.size _
      have HK8 : Hid (Bk (w8.alloc (.cells #[.string g.key, .string g.val, .bool g.del] 33)) w8.heap.size 33 #[.string g.key, .string g.val, .bool g.del]) := Bk.new _ _ _
      clear hb8 hq
      go_wp2_with fail
      refine (rtakeWrite_any p len cap xs _ (HI.out _ H8.out) HLL.out).mono ?_
      rintro e w9 ⟨q9, n9, c9, rfl, hn9, hb9⟩
      rw [HQ.out] at hn9 ⊢
      simp only at hn9 ⊢
      rw [show g.cells.toArray = #[.string g.key, .string g.val, .bool g.del] from rfl]
      have H9 : Hid (Below w.heap.size w (w9.alloc (.cells #[.string g.key, .string g.val, .bool g.del] 33))) := by
        have h2 := H8.out.trans (hb9.mono H8.out.size)
        exact h2.alloc h2.size _
      have y9 := (Bk.below HK8.out hb9 (by simp)).alloc (.cells #[.string g.key, .string g.val, .bool g.del] 33)
      have z9 := Bk.new w9 33 #[.string g.key, .string g.val, .bool g.del]
      have j0 : (w9.alloc (.cells #[.string g.key, .string g.val, .bool g.del] 33)).cell? ⟨w8.heap.size, 0, none⟩ = some (.string g.key) := y9.cell 0
      have j1 : (w9.alloc (.cells #[.string g.key, .string g.val, .bool g.del] 33)).cell? ⟨w8.heap.size, 1, none⟩ = some (.string g.val) := y9.cell 1
      have j2 : (w9.alloc (.cells #[.string g.key, .string g.val, .bool g.del] 33)).cell? ⟨w8.heap.size, 2, none⟩ = some (.bool g.del) := y9.cell 2
      have j3 : (w9.alloc (.cells #[.string g.key, .string g.val, .bool g.del] 33)).cell? ⟨w9.heap.size, 0, none⟩ = some (.string g.key) := z9.cell 0
      have j4 : (w9.alloc (.cells #[.string g.key, .string g.val, .bool g.del] 33)).cell? ⟨w9.heap.size, 1, none⟩ = some (.string g.val) := z9.cell 1
      have j5 : (w9.alloc (.cells #[.string g.key, .string g.val, .bool g.del] 33)).cell? ⟨w9.heap.size, 2, none⟩ = some (.bool g.del) := z9.cell 2
      have hw9 : wrap64 ((len : Int) - (n9 : Int)) = (len : Int) - (n9 : Int) := by unfold wrap64; omega
      obtain ⟨hn9a, rfl⟩ := hn9
      clear hb9 y9 z9
      go_wp2
      go_ret
      exact ⟨by simp, H9.out⟩

set_option maxRecDepth 100000 in
set_option maxHeartbeats 2000000 in
theorem lifted_recordParts (os : Os) (started : os.Started) (H : Type) (enc : TypeId × Value → H) :
    ReturnsInHanded {} Try.checked os 6 .any (Rows.recordPartsSpec.pre6 enc Try.prog Try.f6 Rows.recordPartsRow.domain false) (Rows.recordPartsSpec.post enc Try.prog Try.f6 false true false false) := by
  refine returnsInHanded_of_change_sized (C := Try.checked) own started (by kernel_rfl) Try.func6
    (ChangeSpec.witness6 (enc := enc) (C := Try.checked) false ⟨#[], #[.int .u32 0, .agg #[.string .empty, .string .empty, .bool false], .slice none 0 0], []⟩ 8 (by kernel_rfl) (by kernel_rfl) (by kernel_rfl) (by kernel_rfl)) ?_
  intro W base args ds gs before hval0 hW _ hsz0 _
  have hsz : (DataW.weightsEach Try.prog (Try.f6.params.toList ++ Rows.recordPartsSpec.plain.varTypes Try.prog) (ds ++ gs)).all (· ≤ reachBytes) = true := hsz0
  clear hsz0
  have hval : ∀ (j : Nat) t v, Try.f6.params[j]? = some t → args[j]? = some v → Value.okWide Try.prog W .any base t v := hval0
  have hW' := hW
  obtain ⟨p, q, hA0, hV, rfl, hfz, hnd⟩ := hW
  have hA : DataW.TrodAll enc Try.prog W 0 (fun _ => true) true Try.f6.params.toList args.toList ds p := hA0
  rw [Try.params6] at hA hval hsz
  obtain ⟨v0, vs0, d0, ds0, p0, q0, hargs, rfl, rfl, h0, r0⟩ := trodAll_cons hA
  obtain ⟨v1, vs1, d1, ds1, p1, q1, rfl, rfl, rfl, h1, r1⟩ := trodAll_cons r0
  obtain ⟨v2, vs2, d2, ds2, p2, q2, rfl, rfl, rfl, h2, r2⟩ := trodAll_cons r1
  obtain ⟨rfl, rfl, rfl⟩ := trodAll_nil r2
  obtain rfl : args = #[v0, v1, v2] := by cases args; simp_all
  obtain ⟨rfl, rfl⟩ := trodVars_none hV
  obtain ⟨a0, rfl, rfl, rfl, w0⟩ := open_int Try.underlying57 (hval 0 57 v0 rfl rfl) h0
  have k1 := h1
  have lt1 : ∀ x ∈ p1, x.block < W.heap.size := by obtain ⟨m, hm⟩ := k1; exact DataW.trod_lt m _ _ _ hm
  obtain ⟨g1, e1, w1⟩ : ∃ g1 : Wr, v1 = .agg g1.cells.toArray ∧ True := by
    obtain ⟨cs, hcs, _⟩ := okWide_struct Try.underlying33 (hval 1 33 v1 rfl rfl)
    obtain ⟨fuel, hf⟩ := h1
    obtain ⟨g1, hg⟩ := in_wr hf
    refine ⟨g1, ?_, trivial⟩
    rw [hcs] at hg ⊢
    congr 1
    apply Array.ext'
    simpa [Value.cells] using hg
  subst e1
  obtain ⟨a2, len2, cap2, rfl⟩ := okWide_slice Try.underlying42 (hval 2 42 v2 rfl rfl)
  have k2 := h2
  have lt2 : ∀ x ∈ p2, x.block < W.heap.size := by obtain ⟨m, hm⟩ := k2; exact DataW.trod_lt m _ _ _ hm
  obtain ⟨z2, w2⟩ : ∃ zs, InB 140737488351232 W a2 len2 cap2 zs := by
    refine in_bytes h2 ?_
    intro elems spare hd
    have := sized_slice hsz (j := 2) (t := 42) (e := 5) rfl (by rw [hd]; rfl) Try.underlying42
    rw [bytes_u8] at this
    simp only [reachBytes] at this
    omega
  clear hA0 hval0
  refine (walk_recordParts a0 g1 a2 len2 cap2 z2 W w0 w2).mono fun e W' ⟨he, bel⟩ => ?_
  subst he
  exact ⟨_, rfl, _, _, _, [], _, [], hW', trodAll_mk1 (shut_bool Try.underlying4 _), (trodAll_cons_mk (shut_int Try.underlying57 w0) (trodAll_cons_mk (Below.trod laidOut (by kernel_rfl) (of_decide_eq_true (by kernel_rfl)) k1 bel lt1) (trodAll_cons_mk (Below.trod laidOut (by kernel_rfl) (of_decide_eq_true (by kernel_rfl)) k2 bel lt2) trodAll_mk0))), rfl, bel.frame _, fun h => by cases h⟩

/-- The statement. -/
theorem recordParts_holds : Rows.RecordPartsSaid :=
  OpenClaim.holds_of_wide 6 Try.f6 rfl rfl rfl rfl rfl rfl rfl ⟨rfl, rfl, rfl, rfl, rfl⟩ rfl rfl rfl rfl rfl (by kernel_rfl) Try.func6 (by kernel_rfl)
    (of_decide_eq_true (by kernel_rfl)) (by unfold Func.isWrapper; first | (rw [if_pos (by decide +kernel)]; kernel_rfl) | (rw [if_neg (by decide +kernel)]; exact ⟨rfl, rfl⟩))
    (fun os started H enc _ => lifted_recordParts os started H enc)
#print axioms recordParts_holds

end Go.Proofs.Ytlfgclmgpbaenaa
