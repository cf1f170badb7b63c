/- The document's reader. -/
import Derived.Test.YtmjbfelfdhehbaaRcRd
import Derived.Test.YtmjbfelfdhehbaaParses
import Derived.Test.YtmjbfelfdhehbaaFlag
import Derived.Test.YtmjbfelfdhehbaaRcCom
namespace Go.Proofs.Ytmjbfelfdhehbaa
open Go.RowKit
set_option linter.unusedVariables false
set_option maxRecDepth 100000

/-- The document's reader in memory: what it reads lies below d0, it lies from d0 on. -/
def Rr (w : World) (R d0 : Nat) (xs : List Int) : Prop := ∃ p len cap, Bk w R 81 #[.slice p len cap] ∧ InB 9223372036854775807 w p len cap xs ∧ xs.length ≤ 140737488355328 ∧ (0 < xs.length → ∀ ad, p = some ad → ad.block < d0) ∧ d0 ≤ R

theorem Rr.keep {w w' : World} {R d0 : Nat} {xs : List Int} {S : List Nat} (h : Rr w R d0 xs) (ht : Tn S w w') (hR : R ∉ S) (hd : ∀ b ∈ S, d0 ≤ b) : Rr w' R d0 xs := by
  obtain ⟨p, len, cap, hk, hi, hl, hn, hd0⟩ := h
  refine ⟨p, len, cap, hk.tn ht hR, hi.tn ht (fun hp ad had hm => ?_), hl, hn, hd0⟩
  have := hn hp ad had
  have := hd _ hm
  omega

theorem rr_step {w w2 : World} {R d0 : Nat} {ad : Addr} {len cap : Nat} {xs : List Int} {k : Nat} (hi : InB 9223372036854775807 w (some ad) len cap xs) (hl : xs.length ≤ 140737488355328) (hn : 0 < xs.length → ad.block < d0) (hd0 : d0 ≤ R) (hk : k ≤ len) (ht : Tn [R] w w2) (hb : Bk w2 R 81 #[.slice (some ad) len cap]) :
    Rr (w2.setCell ⟨R, 0, none⟩ (.slice (some (ad.add k)) (len - k) (cap - k))) R d0 (xs.drop k) ∧ Tn [R] w (w2.setCell ⟨R, 0, none⟩ (.slice (some (ad.add k)) (len - k) (cap - k))) := by
  have t2 : Tn [R] w2 (w2.setCell ⟨R, 0, none⟩ (.slice (some (ad.add k)) (len - k) (cap - k))) := (Tn.refl _ _).setCell (.inl (by simp)) _
  have t3 := ht.trans t2 (fun x hx => .inl hx)
  refine ⟨⟨some (ad.add k), len - k, cap - k, hb.set 0 _, (hi.tn t3 ?_).drop hk, by simp; omega, ?_, hd0⟩, t3⟩
  · intro hp a ha
    cases ha
    have := hn hp
    simp
    omega
  · intro hp a ha
    cases ha
    have hp2 : 0 < xs.length := by simp at hp; omega
    have hq := hn hp2
    obtain ⟨b, o, sp⟩ := ad
    unfold Addr.add
    split
    · exact hq
    · exact hq

theorem rr_step0 {w w2 : World} {R d0 : Nat} {ad : Addr} {len cap : Nat} {xs : List Int} {k : Nat} (hi : InB 9223372036854775807 w (some ad) len cap xs) (hd0 : d0 ≤ R) (hk : k ≤ len) (hck : cap = k) (ht : Tn [R] w w2) (hb : Bk w2 R 81 #[.slice (some ad) len cap]) :
    Rr (w2.setCell ⟨R, 0, none⟩ (.slice (some ad) (len - k) 0)) R d0 (xs.drop k) ∧ Tn [R] w (w2.setCell ⟨R, 0, none⟩ (.slice (some ad) (len - k) 0)) := by
  have t2 : Tn [R] w2 (w2.setCell ⟨R, 0, none⟩ (.slice (some ad) (len - k) 0)) := (Tn.refl _ _).setCell (.inl (by simp)) _
  have t3 := ht.trans t2 (fun x hx => .inl hx)
  have h1 := hi.lenq
  have h2 := hi.le
  have e0 : len - k = 0 := by omega
  have e1 : xs.drop k = [] := List.drop_eq_nil_of_le (by omega)
  refine ⟨⟨some ad, len - k, 0, hb.set 0 _, ?_, by simp [e1], by simp [e1], hd0⟩, t3⟩
  simp only [e0, e1]
  exact ⟨rfl, Bys.nil _ _, Nat.le_refl _, Nat.zero_le _, (fun e => by cases e), by simp⟩

theorem own_form' {w : World} {base n : Nat} {v : Value} {xs : List Int} (h : Own w base v n xs) : ∃ p c, v = .slice p n c := by
  rcases h.2 with ⟨hv, h0⟩ | ⟨g, cap, cur, hv, _⟩
  · exact ⟨none, 0, by rw [hv, h0]⟩
  · exact ⟨_, cap, hv⟩
theorem own_lt' {w : World} {base n : Nat} {v : Value} {xs : List Int} (h : Own w base v n xs) : ∀ k, v.ownBlock = some k → base ≤ k := by
  intro k hk
  rcases h.2 with ⟨hv, _⟩ | ⟨g, cap, cur, hv, hbb, hg, rest⟩
  · rw [hv] at hk
    cases hk
  · rw [hv] at hk
    cases hk
    exact hbb

set_option maxHeartbeats 1000000 in
theorem rint_any {w : World} {R d0 : Nat} {xs : List Int} (h : Rr w R d0 xs) :
    Calls Try.prog 62 #[.pointer (some ⟨R, 0, none⟩)] w fun x w' => x = .returned (.tuple #[.int .i64 (Cd.dec xs).1, .int .i64 (Cd.dec xs).2.2]) ∧ Rr w' R d0 (xs.drop (Cd.dec xs).2.1.toNat) ∧ Tn [R] w w' := by
  obtain ⟨p, len, cap, hk, hi, hl, hn, hd0⟩ := h
  have c0 : w.cell? ⟨R, 0, none⟩ = some (.slice p len cap) := hk.cell 0
  have f0 : w.frozen? ⟨R, 0, none⟩ = false := hk.frozen 0
  have HK : Hid (Bk w R 81 #[.slice p len cap]) := hk
  have HI : Hid (InB 9223372036854775807 w p len cap xs) := hi
  have HN : Hid (0 < xs.length → ∀ ad, p = some ad → ad.block < d0) := hn
  have HL : Hid (xs.length ≤ 140737488355328) := hl
  have hle := hi.le
  have hroom := hi.room
  have hl47 : len ≤ 140737488355328 := by have := hi.lenq; omega
  have hz := Cd.dec_zero xs hi.byte
  rw [hi.lenq] at hz
  obtain ⟨D, hD⟩ : ∃ D, Cd.dec xs = D := ⟨_, rfl⟩
  rw [hD] at hz ⊢
  have HDD : Hid (Cd.dec xs = D) := hD
  clear hD hk hi hn hl
  obtain ⟨d1, d2, d3⟩ := D
  simp only at hz ⊢
  obtain ⟨k, rfl⟩ := Int.eq_ofNat_of_zero_le hz.1
  simp only [Int.toNat_natCast]
  go_enter Try.func62, Try.ntmps62
  go_wp2_with fail
  refine (parse_any p cap len xs _ HI.out.lenq HI.out.bys hle (by omega) HI.out.byte).mono ?_
  rintro e w1 ⟨rfl, hw1⟩
  subst hw1
  rw [HDD.out]
  unfold three
  cases p with
  | none =>
    obtain ⟨h1, h2⟩ := HI.out.nil rfl
    subst h1 h2
    obtain rfl : k = 0 := by omega
    go_wp2
    go_ret2
    have t3 : Tn [R] w1 (w1.setCell ⟨R, 0, none⟩ (.slice none 0 0)) := (Tn.refl _ _).setCell (.inl (by simp)) _
    have t4 := (Tn.refl _ _).trans t3 (fun x hx => .inl hx)
    have hr4 : Rr (w1.setCell ⟨R, 0, none⟩ (.slice none 0 0)) R d0 (xs.drop 0) := ⟨none, 0, 0, HK.out.set 0 _, HI.out.tn t4 (fun _ ad had => by cases had), HL.out, (fun _ ad had => by cases had), hd0⟩
    exact ⟨rfl, hr4, t4⟩
  | some ad =>
    have hkl : (k : Int) ≤ (len : Int) := by omega
    have hkc : (k : Int) ≤ (cap : Int) := by omega
    have hk' : k ≤ len := by omega
    by_cases hck : cap = k
    · go_wp2
      go_ret2
      have hq := rr_step0 HI.out hd0 hk' hck (Tn.refl _ _) HK.out
      exact ⟨rfl, hq.1, hq.2⟩
    · go_wp2
      go_ret2
      have hq := rr_step HI.out HL.out (fun hp => HN.out hp ad rfl) hd0 hk' (Tn.refl _ _) HK.out
      exact ⟨rfl, hq.1, hq.2⟩

set_option maxHeartbeats 1000000 in
theorem rflg_any {w : World} {R d0 : Nat} {xs : List Int} (h : Rr w R d0 xs) :
    Calls Try.prog 66 #[.pointer (some ⟨R, 0, none⟩)] w fun x w' => x = .returned (.tuple #[.bool (Cd.decF xs).1, .int .i64 (Cd.decF xs).2.2]) ∧ Rr w' R d0 (xs.drop (Cd.decF xs).2.1.toNat) ∧ Tn [R] w w' := by
  obtain ⟨p, len, cap, hk, hi, hl, hn, hd0⟩ := h
  have c0 : w.cell? ⟨R, 0, none⟩ = some (.slice p len cap) := hk.cell 0
  have f0 : w.frozen? ⟨R, 0, none⟩ = false := hk.frozen 0
  have HK : Hid (Bk w R 81 #[.slice p len cap]) := hk
  have HI : Hid (InB 9223372036854775807 w p len cap xs) := hi
  have HN : Hid (0 < xs.length → ∀ ad, p = some ad → ad.block < d0) := hn
  have HL : Hid (xs.length ≤ 140737488355328) := hl
  have hle := hi.le
  have hroom := hi.room
  have hl47 : len ≤ 140737488355328 := by have := hi.lenq; omega
  have hz := Cd.decF_zero xs hi.byte
  rw [hi.lenq] at hz
  obtain ⟨D, hD⟩ : ∃ D, Cd.decF xs = D := ⟨_, rfl⟩
  rw [hD] at hz ⊢
  have HDD : Hid (Cd.decF xs = D) := hD
  clear hD hk hi hn hl
  obtain ⟨d1, d2, d3⟩ := D
  simp only at hz ⊢
  obtain ⟨k, rfl⟩ := Int.eq_ofNat_of_zero_le hz.1
  simp only [Int.toNat_natCast]
  go_enter Try.func66, Try.ntmps66
  go_wp2_with fail
  refine (parseFlag_any p cap len xs _ HI.out.lenq HI.out.bys hle (by omega) HI.out.byte).mono ?_
  rintro e w1 ⟨rfl, hw1⟩
  subst hw1
  rw [HDD.out]
  skip
  cases p with
  | none =>
    obtain ⟨h1, h2⟩ := HI.out.nil rfl
    subst h1 h2
    obtain rfl : k = 0 := by omega
    go_wp2
    go_ret2
    have t3 : Tn [R] w1 (w1.setCell ⟨R, 0, none⟩ (.slice none 0 0)) := (Tn.refl _ _).setCell (.inl (by simp)) _
    have t4 := (Tn.refl _ _).trans t3 (fun x hx => .inl hx)
    have hr4 : Rr (w1.setCell ⟨R, 0, none⟩ (.slice none 0 0)) R d0 (xs.drop 0) := ⟨none, 0, 0, HK.out.set 0 _, HI.out.tn t4 (fun _ ad had => by cases had), HL.out, (fun _ ad had => by cases had), hd0⟩
    exact ⟨rfl, hr4, t4⟩
  | some ad =>
    have hkl : (k : Int) ≤ (len : Int) := by omega
    have hkc : (k : Int) ≤ (cap : Int) := by omega
    have hk' : k ≤ len := by omega
    by_cases hck : cap = k
    · go_wp2
      go_ret2
      have hq := rr_step0 HI.out hd0 hk' hck (Tn.refl _ _) HK.out
      exact ⟨rfl, hq.1, hq.2⟩
    · go_wp2
      go_ret2
      have hq := rr_step HI.out HL.out (fun hp => HN.out hp ad rfl) hd0 hk' (Tn.refl _ _) HK.out
      exact ⟨rfl, hq.1, hq.2⟩

set_option maxHeartbeats 1000000 in
theorem rbytes_any {w : World} {R d0 : Nat} {xs : List Int} (h : Rr w R d0 xs) (hlt : d0 ≤ w.heap.size) :
    Calls Try.prog 67 #[.pointer (some ⟨R, 0, none⟩)] w fun x w' => ∃ v, x = .returned (.tuple #[v, .int .i64 (Cd.decT xs).2.2]) ∧ Own w' w.heap.size v (Cd.decT xs).1.length (Cd.decT xs).1 ∧ Rr w' R d0 (xs.drop (Cd.decT xs).2.1.toNat) ∧ Tn [R] w w' := by
  obtain ⟨p, len, cap, hk, hi, hl, hn, hd0⟩ := h
  have c0 : w.cell? ⟨R, 0, none⟩ = some (.slice p len cap) := hk.cell 0
  have f0 : w.frozen? ⟨R, 0, none⟩ = false := hk.frozen 0
  have HK : Hid (Bk w R 81 #[.slice p len cap]) := hk
  have HI : Hid (InB 9223372036854775807 w p len cap xs) := hi
  have HN : Hid (0 < xs.length → ∀ ad, p = some ad → ad.block < d0) := hn
  have HL : Hid (xs.length ≤ 140737488355328) := hl
  have hle := hi.le
  have hroom := hi.room
  have hl47 : len ≤ 140737488355328 := by have := hi.lenq; omega
  have hz := Cd.decT_zero xs hi.byte
  rw [hi.lenq] at hz
  obtain ⟨D, hD⟩ : ∃ D, Cd.decT xs = D := ⟨_, rfl⟩
  rw [hD] at hz ⊢
  have HDD : Hid (Cd.decT xs = D) := hD
  clear hD hk hi hn hl
  obtain ⟨d1, d2, d3⟩ := D
  simp only at hz ⊢
  obtain ⟨k, rfl⟩ := Int.eq_ofNat_of_zero_le hz.1
  simp only [Int.toNat_natCast]
  go_enter Try.func67, Try.ntmps67
  go_wp2_with fail
  refine (parseBytes_len p cap len xs _ HI.out.lenq HI.out.bys hle hl47 (by omega) HI.out.byte).mono ?_
  rintro e w1 ⟨v, rfl, ho, hb⟩
  rw [HDD.out] at ho ⊢
  simp only at ho ⊢
  have HO : Hid (Own w1 w.heap.size v d1.length d1) := ho
  have hRw : R < w.heap.size := HK.out.lt
  have hk1 := HK.out.below hb HK.out.lt
  have HK1 : Hid (Bk w1 R 81 #[.slice p len cap]) := hk1
  have HT1 : Hid (Tn [R] w w1) := Tn.of_below hb _
  have g0 : w1.cell? ⟨R, 0, none⟩ = some (.slice p len cap) := hk1.cell 0
  have g1 : w1.frozen? ⟨R, 0, none⟩ = false := hk1.frozen 0
  obtain ⟨pv, cv, hv⟩ := own_form' ho
  subst hv
  clear ho hb hk1 c0 f0
  cases p with
  | none =>
    obtain ⟨h1, h2⟩ := HI.out.nil rfl
    subst h1 h2
    obtain rfl : k = 0 := by omega
    go_wp2
    go_ret2
    have t3 : Tn [R] w1 (w1.setCell ⟨R, 0, none⟩ (.slice none 0 0)) := (Tn.refl _ _).setCell (.inl (by simp)) _
    have t4 := HT1.out.trans t3 (fun x hx => .inl hx)
    have hr4 : Rr (w1.setCell ⟨R, 0, none⟩ (.slice none 0 0)) R d0 (xs.drop 0) := ⟨none, 0, 0, HK1.out.set 0 _, HI.out.tn t4 (fun _ ad had => by cases had), HL.out, (fun _ ad had => by cases had), hd0⟩
    exact ⟨_, rfl, HO.out.keptN fun j hj => Below.heap_setCell w1 ⟨R, 0, none⟩ _ j (by have := own_lt' HO.out j hj; show j ≠ R; omega), hr4, t4⟩
  | some ad =>
    have hkl : (k : Int) ≤ (len : Int) := by omega
    have hkc : (k : Int) ≤ (cap : Int) := by omega
    have hk' : k ≤ len := by omega
    by_cases hck : cap = k
    · go_wp2
      go_ret2
      have hq := rr_step0 HI.out hd0 hk' hck HT1.out HK1.out
      exact ⟨_, rfl, HO.out.keptN fun j hj => Below.heap_setCell w1 ⟨R, 0, none⟩ _ j (by have := own_lt' HO.out j hj; show j ≠ R; omega), hq.1, hq.2⟩
    · go_wp2
      go_ret2
      have hq := rr_step HI.out HL.out (fun hp => HN.out hp ad rfl) hd0 hk' HT1.out HK1.out
      exact ⟨_, rfl, HO.out.keptN fun j hj => Below.heap_setCell w1 ⟨R, 0, none⟩ _ j (by have := own_lt' HO.out j hj; show j ≠ R; omega), hq.1, hq.2⟩

end Go.Proofs.Ytmjbfelfdhehbaa
