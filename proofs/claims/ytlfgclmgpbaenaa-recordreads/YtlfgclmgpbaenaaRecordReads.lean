/- What any bytes are as a commit, a chunk, a master, or what is wrong with them, is the document's. -/
import Derived.Test.YtlfgclmgpbaenaaRcRd
import Derived.Test.YtlfgclmgpbaenaaParses
import Derived.Test.YtlfgclmgpbaenaaFlag
import Derived.Test.YtlfgclmgpbaenaaRcCom
import Derived.Test.YtlfgclmgpbaenaaRcEnd
import Derived.Test.YtlfgclmgpbaenaaRcCom2
import Derived.Test.YtlfgclmgpbaenaaRcRdH
import Derived.Test.YtlfgclmgpbaenaaRcCh
import Derived.Test.YtlfgclmgpbaenaaRcEnd2
import Derived.Test.YtlfgclmgpbaenaaRcMs
import Derived.Test.YtlfgclmgpbaenaaRcEq
import Derived.Test.YtlfgclmgpbaenaaRcLive
import Derived.Test.YtlfgclmgpbaenaaRcOne
import Derived.Test.YtlfgclmgpbaenaaRcArgs
namespace Go.Proofs.Ytlfgclmgpbaenaa
open Go.RowKit
set_option linter.unusedVariables false
set_option maxRecDepth 100000

/-- The document's reader in memory: what it reads lies below d0, it lies from d0 on. -/
def Rr (w : World) (R d0 : Nat) (xs : List Int) : Prop := ∃ p len cap, Bk w R 89 #[.slice p len cap] ∧ InB 9223372036854775807 w p len cap xs ∧ xs.length ≤ 140737488355328 ∧ (0 < xs.length → ∀ ad, p = some ad → ad.block < d0) ∧ d0 ≤ R

theorem Rr.keep {w w' : World} {R d0 : Nat} {xs : List Int} {S : List Nat} (h : Rr w R d0 xs) (ht : Tn S w w') (hR : R ∉ S) (hd : ∀ b ∈ S, d0 ≤ b) : Rr w' R d0 xs := by
  obtain ⟨p, len, cap, hk, hi, hl, hn, hd0⟩ := h
  refine ⟨p, len, cap, hk.tn ht hR, hi.tn ht (fun hp ad had hm => ?_), hl, hn, hd0⟩
  have := hn hp ad had
  have := hd _ hm
  omega

theorem rr_step {w w2 : World} {R d0 : Nat} {ad : Addr} {len cap : Nat} {xs : List Int} {k : Nat} (hi : InB 9223372036854775807 w (some ad) len cap xs) (hl : xs.length ≤ 140737488355328) (hn : 0 < xs.length → ad.block < d0) (hd0 : d0 ≤ R) (hk : k ≤ len) (ht : Tn [R] w w2) (hb : Bk w2 R 89 #[.slice (some ad) len cap]) :
    Rr (w2.setCell ⟨R, 0, none⟩ (.slice (some (ad.add k)) (len - k) (cap - k))) R d0 (xs.drop k) ∧ Tn [R] w (w2.setCell ⟨R, 0, none⟩ (.slice (some (ad.add k)) (len - k) (cap - k))) := by
  have t2 : Tn [R] w2 (w2.setCell ⟨R, 0, none⟩ (.slice (some (ad.add k)) (len - k) (cap - k))) := (Tn.refl _ _).setCell (.inl (by simp)) _
  have t3 := ht.trans t2 (fun x hx => .inl hx)
  refine ⟨⟨some (ad.add k), len - k, cap - k, hb.set 0 _, (hi.tn t3 ?_).drop hk, by simp; omega, ?_, hd0⟩, t3⟩
  · intro hp a ha
    cases ha
    have := hn hp
    simp
    omega
  · intro hp a ha
    cases ha
    have hp2 : 0 < xs.length := by simp at hp; omega
    have hq := hn hp2
    obtain ⟨b, o, sp⟩ := ad
    unfold Addr.add
    split
    · exact hq
    · exact hq

theorem rr_step0 {w w2 : World} {R d0 : Nat} {ad : Addr} {len cap : Nat} {xs : List Int} {k : Nat} (hi : InB 9223372036854775807 w (some ad) len cap xs) (hd0 : d0 ≤ R) (hk : k ≤ len) (hck : cap = k) (ht : Tn [R] w w2) (hb : Bk w2 R 89 #[.slice (some ad) len cap]) :
    Rr (w2.setCell ⟨R, 0, none⟩ (.slice (some ad) (len - k) 0)) R d0 (xs.drop k) ∧ Tn [R] w (w2.setCell ⟨R, 0, none⟩ (.slice (some ad) (len - k) 0)) := by
  have t2 : Tn [R] w2 (w2.setCell ⟨R, 0, none⟩ (.slice (some ad) (len - k) 0)) := (Tn.refl _ _).setCell (.inl (by simp)) _
  have t3 := ht.trans t2 (fun x hx => .inl hx)
  have h1 := hi.lenq
  have h2 := hi.le
  have e0 : len - k = 0 := by omega
  have e1 : xs.drop k = [] := List.drop_eq_nil_of_le (by omega)
  refine ⟨⟨some ad, len - k, 0, hb.set 0 _, ?_, by simp [e1], by simp [e1], hd0⟩, t3⟩
  simp only [e0, e1]
  exact ⟨rfl, Bys.nil _ _, Nat.le_refl _, Nat.zero_le _, (fun e => by cases e), by simp⟩

theorem own_form' {w : World} {base n : Nat} {v : Value} {xs : List Int} (h : Own w base v n xs) : ∃ p c, v = .slice p n c := by
  rcases h.2 with ⟨hv, h0⟩ | ⟨g, cap, cur, hv, _⟩
  · exact ⟨none, 0, by rw [hv, h0]⟩
  · exact ⟨_, cap, hv⟩
theorem own_lt' {w : World} {base n : Nat} {v : Value} {xs : List Int} (h : Own w base v n xs) : ∀ k, v.ownBlock = some k → base ≤ k := by
  intro k hk
  rcases h.2 with ⟨hv, _⟩ | ⟨g, cap, cur, hv, hbb, hg, rest⟩
  · rw [hv] at hk
    cases hk
  · rw [hv] at hk
    cases hk
    exact hbb

set_option maxHeartbeats 1000000 in
theorem rint_any {w : World} {R d0 : Nat} {xs : List Int} (h : Rr w R d0 xs) :
    Calls Try.prog 74 #[.pointer (some ⟨R, 0, none⟩)] w fun x w' => x = .returned (.tuple #[.int .i64 (Cd.dec xs).1, .int .i64 (Cd.dec xs).2.2]) ∧ Rr w' R d0 (xs.drop (Cd.dec xs).2.1.toNat) ∧ Tn [R] w w' := by
  obtain ⟨p, len, cap, hk, hi, hl, hn, hd0⟩ := h
  have c0 : w.cell? ⟨R, 0, none⟩ = some (.slice p len cap) := hk.cell 0
  have f0 : w.frozen? ⟨R, 0, none⟩ = false := hk.frozen 0
  have HK : Hid (Bk w R 89 #[.slice p len cap]) := hk
  have HI : Hid (InB 9223372036854775807 w p len cap xs) := hi
  have HN : Hid (0 < xs.length → ∀ ad, p = some ad → ad.block < d0) := hn
  have HL : Hid (xs.length ≤ 140737488355328) := hl
  have hle := hi.le
  have hroom := hi.room
  have hl47 : len ≤ 140737488355328 := by have := hi.lenq; omega
  have hz := Cd.dec_zero xs hi.byte
  rw [hi.lenq] at hz
  obtain ⟨D, hD⟩ : ∃ D, Cd.dec xs = D := ⟨_, rfl⟩
  rw [hD] at hz ⊢
  have HDD : Hid (Cd.dec xs = D) := hD
  clear hD hk hi hn hl
  obtain ⟨d1, d2, d3⟩ := D
  simp only at hz ⊢
  obtain ⟨k, rfl⟩ := Int.eq_ofNat_of_zero_le hz.1
  simp only [Int.toNat_natCast]
  go_enter Try.func74, Try.ntmps74
  go_wp2_with fail
  refine (parse_any p cap len xs _ HI.out.lenq HI.out.bys hle (by omega) HI.out.byte).mono ?_
  rintro e w1 ⟨rfl, hw1⟩
  subst hw1
  rw [HDD.out]
  unfold three
  cases p with
  | none =>
    obtain ⟨h1, h2⟩ := HI.out.nil rfl
    subst h1 h2
    obtain rfl : k = 0 := by omega
    go_wp2
    go_ret2
    have t3 : Tn [R] w1 (w1.setCell ⟨R, 0, none⟩ (.slice none 0 0)) := (Tn.refl _ _).setCell (.inl (by simp)) _
    have t4 := (Tn.refl _ _).trans t3 (fun x hx => .inl hx)
    have hr4 : Rr (w1.setCell ⟨R, 0, none⟩ (.slice none 0 0)) R d0 (xs.drop 0) := ⟨none, 0, 0, HK.out.set 0 _, HI.out.tn t4 (fun _ ad had => by cases had), HL.out, (fun _ ad had => by cases had), hd0⟩
    exact ⟨rfl, hr4, t4⟩
  | some ad =>
    have hkl : (k : Int) ≤ (len : Int) := by omega
    have hkc : (k : Int) ≤ (cap : Int) := by omega
    have hk' : k ≤ len := by omega
    by_cases hck : cap = k
    · go_wp2
      go_ret2
      have hq := rr_step0 HI.out hd0 hk' hck (Tn.refl _ _) HK.out
      exact ⟨rfl, hq.1, hq.2⟩
    · go_wp2
      go_ret2
      have hq := rr_step HI.out HL.out (fun hp => HN.out hp ad rfl) hd0 hk' (Tn.refl _ _) HK.out
      exact ⟨rfl, hq.1, hq.2⟩

set_option maxHeartbeats 1000000 in
theorem rflg_any {w : World} {R d0 : Nat} {xs : List Int} (h : Rr w R d0 xs) :
    Calls Try.prog 78 #[.pointer (some ⟨R, 0, none⟩)] w fun x w' => x = .returned (.tuple #[.bool (Cd.decF xs).1, .int .i64 (Cd.decF xs).2.2]) ∧ Rr w' R d0 (xs.drop (Cd.decF xs).2.1.toNat) ∧ Tn [R] w w' := by
  obtain ⟨p, len, cap, hk, hi, hl, hn, hd0⟩ := h
  have c0 : w.cell? ⟨R, 0, none⟩ = some (.slice p len cap) := hk.cell 0
  have f0 : w.frozen? ⟨R, 0, none⟩ = false := hk.frozen 0
  have HK : Hid (Bk w R 89 #[.slice p len cap]) := hk
  have HI : Hid (InB 9223372036854775807 w p len cap xs) := hi
  have HN : Hid (0 < xs.length → ∀ ad, p = some ad → ad.block < d0) := hn
  have HL : Hid (xs.length ≤ 140737488355328) := hl
  have hle := hi.le
  have hroom := hi.room
  have hl47 : len ≤ 140737488355328 := by have := hi.lenq; omega
  have hz := Cd.decF_zero xs hi.byte
  rw [hi.lenq] at hz
  obtain ⟨D, hD⟩ : ∃ D, Cd.decF xs = D := ⟨_, rfl⟩
  rw [hD] at hz ⊢
  have HDD : Hid (Cd.decF xs = D) := hD
  clear hD hk hi hn hl
  obtain ⟨d1, d2, d3⟩ := D
  simp only at hz ⊢
  obtain ⟨k, rfl⟩ := Int.eq_ofNat_of_zero_le hz.1
  simp only [Int.toNat_natCast]
  go_enter Try.func78, Try.ntmps78
  go_wp2_with fail
  refine (parseFlag_any p cap len xs _ HI.out.lenq HI.out.bys hle (by omega) HI.out.byte).mono ?_
  rintro e w1 ⟨rfl, hw1⟩
  subst hw1
  rw [HDD.out]
  skip
  cases p with
  | none =>
    obtain ⟨h1, h2⟩ := HI.out.nil rfl
    subst h1 h2
    obtain rfl : k = 0 := by omega
    go_wp2
    go_ret2
    have t3 : Tn [R] w1 (w1.setCell ⟨R, 0, none⟩ (.slice none 0 0)) := (Tn.refl _ _).setCell (.inl (by simp)) _
    have t4 := (Tn.refl _ _).trans t3 (fun x hx => .inl hx)
    have hr4 : Rr (w1.setCell ⟨R, 0, none⟩ (.slice none 0 0)) R d0 (xs.drop 0) := ⟨none, 0, 0, HK.out.set 0 _, HI.out.tn t4 (fun _ ad had => by cases had), HL.out, (fun _ ad had => by cases had), hd0⟩
    exact ⟨rfl, hr4, t4⟩
  | some ad =>
    have hkl : (k : Int) ≤ (len : Int) := by omega
    have hkc : (k : Int) ≤ (cap : Int) := by omega
    have hk' : k ≤ len := by omega
    by_cases hck : cap = k
    · go_wp2
      go_ret2
      have hq := rr_step0 HI.out hd0 hk' hck (Tn.refl _ _) HK.out
      exact ⟨rfl, hq.1, hq.2⟩
    · go_wp2
      go_ret2
      have hq := rr_step HI.out HL.out (fun hp => HN.out hp ad rfl) hd0 hk' (Tn.refl _ _) HK.out
      exact ⟨rfl, hq.1, hq.2⟩

set_option maxHeartbeats 1000000 in
theorem rbytes_any {w : World} {R d0 : Nat} {xs : List Int} (h : Rr w R d0 xs) (hlt : d0 ≤ w.heap.size) :
    Calls Try.prog 79 #[.pointer (some ⟨R, 0, none⟩)] w fun x w' => ∃ v, x = .returned (.tuple #[v, .int .i64 (Cd.decT xs).2.2]) ∧ Own w' w.heap.size v (Cd.decT xs).1.length (Cd.decT xs).1 ∧ Rr w' R d0 (xs.drop (Cd.decT xs).2.1.toNat) ∧ Tn [R] w w' := by
  obtain ⟨p, len, cap, hk, hi, hl, hn, hd0⟩ := h
  have c0 : w.cell? ⟨R, 0, none⟩ = some (.slice p len cap) := hk.cell 0
  have f0 : w.frozen? ⟨R, 0, none⟩ = false := hk.frozen 0
  have HK : Hid (Bk w R 89 #[.slice p len cap]) := hk
  have HI : Hid (InB 9223372036854775807 w p len cap xs) := hi
  have HN : Hid (0 < xs.length → ∀ ad, p = some ad → ad.block < d0) := hn
  have HL : Hid (xs.length ≤ 140737488355328) := hl
  have hle := hi.le
  have hroom := hi.room
  have hl47 : len ≤ 140737488355328 := by have := hi.lenq; omega
  have hz := Cd.decT_zero xs hi.byte
  rw [hi.lenq] at hz
  obtain ⟨D, hD⟩ : ∃ D, Cd.decT xs = D := ⟨_, rfl⟩
  rw [hD] at hz ⊢
  have HDD : Hid (Cd.decT xs = D) := hD
  clear hD hk hi hn hl
  obtain ⟨d1, d2, d3⟩ := D
  simp only at hz ⊢
  obtain ⟨k, rfl⟩ := Int.eq_ofNat_of_zero_le hz.1
  simp only [Int.toNat_natCast]
  go_enter Try.func79, Try.ntmps79
  go_wp2_with fail
  refine (parseBytes_len p cap len xs _ HI.out.lenq HI.out.bys hle hl47 (by omega) HI.out.byte).mono ?_
  rintro e w1 ⟨v, rfl, ho, hb⟩
  rw [HDD.out] at ho ⊢
  simp only at ho ⊢
  have HO : Hid (Own w1 w.heap.size v d1.length d1) := ho
  have hRw : R < w.heap.size := HK.out.lt
  have hk1 := HK.out.below hb HK.out.lt
  have HK1 : Hid (Bk w1 R 89 #[.slice p len cap]) := hk1
  have HT1 : Hid (Tn [R] w w1) := Tn.of_below hb _
  have g0 : w1.cell? ⟨R, 0, none⟩ = some (.slice p len cap) := hk1.cell 0
  have g1 : w1.frozen? ⟨R, 0, none⟩ = false := hk1.frozen 0
  obtain ⟨pv, cv, hv⟩ := own_form' ho
  subst hv
  clear ho hb hk1 c0 f0
  cases p with
  | none =>
    obtain ⟨h1, h2⟩ := HI.out.nil rfl
    subst h1 h2
    obtain rfl : k = 0 := by omega
    go_wp2
    go_ret2
    have t3 : Tn [R] w1 (w1.setCell ⟨R, 0, none⟩ (.slice none 0 0)) := (Tn.refl _ _).setCell (.inl (by simp)) _
    have t4 := HT1.out.trans t3 (fun x hx => .inl hx)
    have hr4 : Rr (w1.setCell ⟨R, 0, none⟩ (.slice none 0 0)) R d0 (xs.drop 0) := ⟨none, 0, 0, HK1.out.set 0 _, HI.out.tn t4 (fun _ ad had => by cases had), HL.out, (fun _ ad had => by cases had), hd0⟩
    exact ⟨_, rfl, HO.out.keptN fun j hj => Below.heap_setCell w1 ⟨R, 0, none⟩ _ j (by have := own_lt' HO.out j hj; show j ≠ R; omega), hr4, t4⟩
  | some ad =>
    have hkl : (k : Int) ≤ (len : Int) := by omega
    have hkc : (k : Int) ≤ (cap : Int) := by omega
    have hk' : k ≤ len := by omega
    by_cases hck : cap = k
    · go_wp2
      go_ret2
      have hq := rr_step0 HI.out hd0 hk' hck HT1.out HK1.out
      exact ⟨_, rfl, HO.out.keptN fun j hj => Below.heap_setCell w1 ⟨R, 0, none⟩ _ j (by have := own_lt' HO.out j hj; show j ≠ R; omega), hq.1, hq.2⟩
    · go_wp2
      go_ret2
      have hq := rr_step HI.out HL.out (fun hp => HN.out hp ad rfl) hd0 hk' HT1.out HK1.out
      exact ⟨_, rfl, HO.out.keptN fun j hj => Below.heap_setCell w1 ⟨R, 0, none⟩ _ j (by have := own_lt' HO.out j hj; show j ≠ R; omega), hq.1, hq.2⟩

end Go.Proofs.Ytlfgclmgpbaenaa

namespace Go.Proofs.Ytlfgclmgpbaenaa
open Go.RowKit
set_option linter.unusedVariables false
set_option maxRecDepth 100000

/-- The document's taker in memory. -/
structure Tk (w : World) (K R d0 : Nat) (s : Rs) : Prop where
  k : Bk w K 91 #[.pointer (some ⟨R, 0, none⟩), .int .i64 s.e]
  r : Rr w R d0 s.xs
  ne : K ≠ R
  dk : d0 ≤ K

section
variable {w w' : World} {K R d0 : Nat} {s : Rs}

theorem Rr.lt {xs : List Int} (h : Rr w R d0 xs) : R < w.heap.size ∧ d0 ≤ R := by
  obtain ⟨p, len, cap, hk, _, _, _, hd⟩ := h
  exact ⟨hk.lt, hd⟩

theorem Tk.keep {S : List Nat} (h : Tk w K R d0 s) (ht : Tn S w w') (hK : K ∉ S) (hR : R ∉ S) (hd : ∀ b ∈ S, d0 ≤ b) : Tk w' K R d0 s := ⟨h.k.tn ht hK, h.r.keep ht hR hd, h.ne, h.dk⟩

theorem Tk.below (h : Tk w K R d0 s) (hb : Below w.heap.size w w') : Tk w' K R d0 s := h.keep (Tn.of_below hb []) (by simp) (by simp) (by simp)

/-- The taker's error turned. -/
theorem Tk.setE (h : Tk w K R d0 s) (e : Int) : Tk (w.setCell ⟨K, 1, none⟩ (.int .i64 e)) K R d0 ⟨s.xs, e⟩ ∧ Tn [K, R] w (w.setCell ⟨K, 1, none⟩ (.int .i64 e)) := by
  have ht : Tn [K] w (w.setCell ⟨K, 1, none⟩ (.int .i64 e)) := (Tn.refl _ _).setCell (.inl (by simp)) _
  have hdk := h.dk
  have hne := h.ne
  refine ⟨⟨h.k.set 1 _, h.r.keep ht (by simp; omega) (by simp; exact hdk), h.ne, h.dk⟩, ht.mono (by simp)⟩

theorem Tk.cells (h : Tk w K R d0 s) : w.cell? ⟨K, 0, none⟩ = some (.pointer (some ⟨R, 0, none⟩)) ∧ w.cell? ⟨K, 1, none⟩ = some (.int .i64 s.e) ∧ w.frozen? ⟨K, 1, none⟩ = false := ⟨h.k.cell 0, h.k.cell 1, h.k.frozen 1⟩
end

set_option maxHeartbeats 1000000 in
theorem num_tk {w : World} {K R d0 : Nat} {s : Rs} (h : Tk w K R d0 s) :
    Calls Try.prog 55 #[.pointer (some ⟨K, 0, none⟩)] w fun x w' => x = .returned (.int .i64 s.num.1) ∧ Tk w' K R d0 s.num.2 ∧ Tn [K, R] w w' := by
  obtain ⟨c0, c1, f1⟩ := h.cells
  have H0 : Hid (Tk w K R d0 s) := h
  skip
  clear h
  by_cases he : s.e = 0
  · have hb : (s.e != 0) = false := by simpa using he
    have HN : Hid (s.num = ((Cd.dec s.xs).1, ⟨s.xs.drop (Cd.dec s.xs).2.1.toNat, (Cd.dec s.xs).2.2⟩)) := by unfold Hid Rs.num; rw [if_pos he]
    clear he
    go_enter Try.func55, Try.ntmps55
    go_wp2_with fail
    refine (rint_any H0.out.r).mono ?_
    rintro e w1 ⟨rfl, hr, ht⟩
    have h1 : Tk w1 K R d0 ⟨s.xs.drop (Cd.dec s.xs).2.1.toNat, s.e⟩ := ⟨H0.out.k.tn ht (by have := H0.out.ne; simpa using this), hr, H0.out.ne, H0.out.dk⟩
    have H1 : Hid (Tk w1 K R d0 ⟨s.xs.drop (Cd.dec s.xs).2.1.toNat, s.e⟩) := h1
    have T1 : Hid (Tn [K, R] w w1) := ht.mono (by simp)
    obtain ⟨g0, g1, g2⟩ := h1.cells
    simp only at g1
    clear h1 hr ht c0 c1 f1
    go_wp2
    go_ret
    rw [HN.out]
    have hq := H1.out.setE (Cd.dec s.xs).2.2
    exact ⟨rfl, hq.1, T1.out.trans hq.2 (fun x hx => .inl hx)⟩
  · have hb : (s.e != 0) = true := by simpa using he
    have HN : Hid (s.num = (0, s)) := by unfold Hid Rs.num; rw [if_neg he]
    clear he
    go_enter Try.func55, Try.ntmps55
    go_wp2
    go_ret
    rw [HN.out]
    exact ⟨rfl, H0.out, Tn.refl _ _⟩

set_option maxHeartbeats 1000000 in
theorem flag_tk {w : World} {K R d0 : Nat} {s : Rs} (h : Tk w K R d0 s) :
    Calls Try.prog 61 #[.pointer (some ⟨K, 0, none⟩)] w fun x w' => x = .returned (.bool s.flag.1) ∧ Tk w' K R d0 s.flag.2 ∧ Tn [K, R] w w' := by
  obtain ⟨c0, c1, f1⟩ := h.cells
  have H0 : Hid (Tk w K R d0 s) := h
  skip
  clear h
  by_cases he : s.e = 0
  · have hb : (s.e != 0) = false := by simpa using he
    have HN : Hid (s.flag = ((Cd.decF s.xs).1, ⟨s.xs.drop (Cd.decF s.xs).2.1.toNat, (Cd.decF s.xs).2.2⟩)) := by unfold Hid Rs.flag; rw [if_pos he]
    clear he
    go_enter Try.func61, Try.ntmps61
    go_wp2_with fail
    refine (rflg_any H0.out.r).mono ?_
    rintro e w1 ⟨rfl, hr, ht⟩
    have h1 : Tk w1 K R d0 ⟨s.xs.drop (Cd.decF s.xs).2.1.toNat, s.e⟩ := ⟨H0.out.k.tn ht (by have := H0.out.ne; simpa using this), hr, H0.out.ne, H0.out.dk⟩
    have H1 : Hid (Tk w1 K R d0 ⟨s.xs.drop (Cd.decF s.xs).2.1.toNat, s.e⟩) := h1
    have T1 : Hid (Tn [K, R] w w1) := ht.mono (by simp)
    obtain ⟨g0, g1, g2⟩ := h1.cells
    simp only at g1
    clear h1 hr ht c0 c1 f1
    go_wp2
    go_ret
    rw [HN.out]
    have hq := H1.out.setE (Cd.decF s.xs).2.2
    exact ⟨rfl, hq.1, T1.out.trans hq.2 (fun x hx => .inl hx)⟩
  · have hb : (s.e != 0) = true := by simpa using he
    have HN : Hid (s.flag = (false, s)) := by unfold Hid Rs.flag; rw [if_neg he]
    clear he
    go_enter Try.func61, Try.ntmps61
    go_wp2
    go_ret
    rw [HN.out]
    exact ⟨rfl, H0.out, Tn.refl _ _⟩

set_option maxHeartbeats 1000000 in
theorem text_tk {w : World} {K R d0 : Nat} {s : Rs} (h : Tk w K R d0 s) :
    Calls Try.prog 62 #[.pointer (some ⟨K, 0, none⟩)] w fun x w' => x = .returned (.string s.text.1) ∧ Tk w' K R d0 s.text.2 ∧ Tn [K, R] w w' := by
  obtain ⟨c0, c1, f1⟩ := h.cells
  have H0 : Hid (Tk w K R d0 s) := h
  have HY : Hid (∀ y ∈ s.xs, 0 ≤ y ∧ y < 256) := by obtain ⟨_, _, _, _, hi, _⟩ := h.r; exact hi.byte
  clear h
  by_cases he : s.e = 0
  · have hb : (s.e != 0) = false := by simpa using he
    have HN : Hid (s.text = (strOfNums (Cd.decT s.xs).1, ⟨s.xs.drop (Cd.decT s.xs).2.1.toNat, (Cd.decT s.xs).2.2⟩)) := by unfold Hid Rs.text; rw [if_pos he]
    clear he
    go_enter Try.func62, Try.ntmps62
    go_wp2_with fail
    refine (rbytes_any H0.out.r (by have := H0.out.dk; have := H0.out.k.lt; omega)).mono ?_
    rintro e w1 ⟨v, rfl, ho, hr, ht⟩
    obtain ⟨pv, cv, hv⟩ := own_form' ho
    subst hv
    have hlK : K < w.heap.size := H0.out.k.lt
    have HO : Hid (Own w1 w.heap.size (.slice pv (Cd.decT s.xs).1.length cv) (Cd.decT s.xs).1.length (Cd.decT s.xs).1) := ho
    have h1 : Tk w1 K R d0 ⟨s.xs.drop (Cd.decT s.xs).2.1.toNat, s.e⟩ := ⟨H0.out.k.tn ht (by have := H0.out.ne; simpa using this), hr, H0.out.ne, H0.out.dk⟩
    have H1 : Hid (Tk w1 K R d0 ⟨s.xs.drop (Cd.decT s.xs).2.1.toNat, s.e⟩) := h1
    have T1 : Hid (Tn [K, R] w w1) := ht.mono (by simp)
    obtain ⟨g0, g1, g2⟩ := h1.cells
    simp only at g1
    clear h1 hr ht c0 c1 f1 ho
    have HB : Hid (Bys (w1.setCell ⟨K, 1, none⟩ (.int .i64 (Cd.decT s.xs).2.2)) pv (Cd.decT s.xs).1) := by
      have ho2 : Own (w1.setCell ⟨K, 1, none⟩ (.int .i64 (Cd.decT s.xs).2.2)) w.heap.size (.slice pv (Cd.decT s.xs).1.length cv) (Cd.decT s.xs).1.length (Cd.decT s.xs).1 := HO.out.keptN fun j hj => Below.heap_setCell w1 ⟨K, 1, none⟩ _ j (by have := own_lt' HO.out j hj; show j ≠ K; omega)
      obtain ⟨p, c, hv, _, _, hb⟩ := ho2.bys
      simp only [Value.slice.injEq] at hv
      rw [hv.1]
      exact hb
    have hcs := conv_str HB.out (Cd.decT s.xs).1.length cv rfl
    go_wp2
    go_ret
    rw [HN.out]
    have hq := H1.out.setE (Cd.decT s.xs).2.2
    exact ⟨rfl, hq.1, T1.out.trans hq.2 (fun x hx => .inl hx)⟩
  · have hb : (s.e != 0) = true := by simpa using he
    have HN : Hid (s.text = (.empty, s)) := by unfold Hid Rs.text; rw [if_neg he]
    clear he
    go_enter Try.func62, Try.ntmps62
    go_wp2
    go_ret
    rw [HN.out]
    exact ⟨rfl, H0.out, Tn.refl _ _⟩

set_option maxHeartbeats 400000 in
theorem fails_tk {w : World} {K R d0 : Nat} {s : Rs} (h : Tk w K R d0 s) (e : Int) :
    Calls Try.prog 75 #[.pointer (some ⟨K, 0, none⟩), .int .i64 e] w fun x w' => x = .returned (.tuple #[]) ∧ Tk w' K R d0 (s.note e) ∧ Tn [K, R] w w' := by
  obtain ⟨c0, c1, f1⟩ := h.cells
  have H0 : Hid (Tk w K R d0 s) := h
  clear h
  by_cases he : s.e = 0
  · have hb : (s.e == 0) = true := by simpa using he
    have HE : Hid (s.note e = ⟨s.xs, e⟩) := by unfold Hid Rs.note; rw [if_pos he]
    clear he
    go_enter Try.func75, Try.ntmps75
    go_wp2
    go_end0
    rw [HE.out]
    have hq := H0.out.setE e
    exact ⟨rfl, hq.1, hq.2⟩
  · have hb : (s.e == 0) = false := by simpa using he
    have HE : Hid (s.note e = s) := by unfold Hid Rs.note; rw [if_neg he]
    clear he
    go_enter Try.func75, Try.ntmps75
    go_wp2
    go_end0
    rw [HE.out]
    exact ⟨rfl, H0.out, Tn.refl _ _⟩

theorem Rs.num_e {s : Rs} (h : s.num.2.e ≠ 0) : s.num.1 = 0 ∨ s.e = 0 := by
  unfold Rs.num at h ⊢
  split
  · rename_i h0; exact .inr h0
  · exact .inl rfl

theorem Rs.num_zero {s : Rs} (hb : ∀ y ∈ s.xs, 0 ≤ y ∧ y < 256) (h : s.num.2.e ≠ 0) : s.num.1 = 0 := by
  unfold Rs.num at h ⊢
  split
  · rename_i h0
    rw [if_pos h0] at h
    simp only at h ⊢
    have := Cd.dec_facts s.xs hb
    omega
  · rfl

theorem Tk.byte {w : World} {K R d0 : Nat} {s : Rs} (h : Tk w K R d0 s) : ∀ y ∈ s.xs, 0 ≤ y ∧ y < 256 := by
  obtain ⟨_, _, _, _, hi, _⟩ := h.r
  exact hi.byte

theorem Rs.note_ne {s : Rs} {e : Int} (h : e ≠ 0) : (s.note e).e ≠ 0 := by
  unfold Rs.note
  split
  · exact h
  · assumption

set_option maxHeartbeats 1000000 in
theorem count_tk {w : World} {K R d0 : Nat} {s : Rs} (h : Tk w K R d0 s) (most : Int) (hm : 0 ≤ most) :
    Calls Try.prog 56 #[.pointer (some ⟨K, 0, none⟩), .int .i64 most] w fun x w' => x = .returned (.int .i64 (s.count most).1) ∧ Tk w' K R d0 (s.count most).2 ∧ Tn [K, R] w w' := by
  have H0 : Hid (Tk w K R d0 s) := h
  have HZ : Hid (s.num.2.e ≠ 0 → s.num.1 = 0) := Rs.num_zero h.byte
  clear h
  go_enter Try.func56, Try.ntmps56
  go_wp2_with fail
  refine (num_tk H0.out).mono ?_
  rintro e w1 ⟨rfl, h1, t1⟩
  obtain ⟨N, t, hN⟩ : ∃ N t, s.num = (N, t) := ⟨_, _, rfl⟩
  have HN : Hid (s.num = (N, t)) := hN
  rw [hN] at h1 HZ ⊢
  simp only at h1 HZ ⊢
  have H1 : Hid (Tk w1 K R d0 t) := h1
  have T1 : Hid (Tn [K, R] w w1) := t1
  obtain ⟨-, c1, -⟩ := h1.cells
  clear h1 t1 hN
  by_cases hq : N < 0 ∨ most < N
  · have HC : Hid (s.count most = (0, t.note 32)) := by
      unfold Hid Rs.count
      rw [HN.out, if_neg (by rw [Rc.inn_iff]; omega)]
    have hNE : (t.note 32).e ≠ 0 := Rs.note_ne (by omega)
    by_cases hq1 : N < 0
    · clear hq
      go_wp2_with fail
      refine (fails_tk H1.out 32).mono ?_
      rintro e w3 ⟨rfl, h3, t3⟩
      have H3 : Hid (Tk w3 K R d0 (t.note 32)) := h3
      have T3 : Hid (Tn [K, R] w w3) := T1.out.trans t3 (fun x hx => .inl hx)
      obtain ⟨-, c3, -⟩ := h3.cells
      have hnb : ((t.note 32).e != 0) = true := by simpa using hNE
      clear h3 t3 c1 hNE
      go_wp2
      go_ret
      rw [HC.out]
      exact ⟨rfl, H3.out, T3.out⟩
    · have hq2 : most < N := by omega
      have hq3 : decide (N < 0) = false := by simpa using hq1
      clear hq hq1
      go_wp2_with fail
      refine (fails_tk H1.out 32).mono ?_
      rintro e w3 ⟨rfl, h3, t3⟩
      have H3 : Hid (Tk w3 K R d0 (t.note 32)) := h3
      have T3 : Hid (Tn [K, R] w w3) := T1.out.trans t3 (fun x hx => .inl hx)
      obtain ⟨-, c3, -⟩ := h3.cells
      have hnb : ((t.note 32).e != 0) = true := by simpa using hNE
      clear h3 t3 c1 hNE
      go_wp2
      go_ret
      rw [HC.out]
      exact ⟨rfl, H3.out, T3.out⟩
  · have HC : Hid (s.count most = (N, t)) := by
      unfold Hid Rs.count
      rw [HN.out, if_pos (by rw [Rc.inn_iff]; omega)]
    have hq3 : decide (N < 0) = false := by simp; omega
    have hq4 : decide (most < N) = false := by simp; omega
    clear hq
    by_cases he : t.e = 0
    · have hnb : (t.e != 0) = false := by simpa using he
      clear he
      go_wp2
      go_ret
      rw [HC.out]
      exact ⟨rfl, H1.out, T1.out⟩
    · have hnb : (t.e != 0) = true := by simpa using he
      obtain rfl : N = 0 := HZ.out he
      clear he
      go_wp2
      go_ret
      rw [HC.out]
      exact ⟨rfl, H1.out, T1.out⟩

end Go.Proofs.Ytlfgclmgpbaenaa

namespace Go.Proofs.Ytlfgclmgpbaenaa
open Go.RowKit
set_option linter.unusedVariables false
set_option maxRecDepth 100000

/-- A taker beside two blocks. -/
structure TkB (S : List Nat) (w0 w : World) (K R d0 : Nat) (s : Rs) (A B : Nat) (T : TypeId) (ca cb : Array Value) : Prop where
  tk : Tk w K R d0 s
  a : Bk w A T ca
  b : Bk w B T cb
  tn : Tn S w0 w
  kS : K ∈ S ∨ w0.heap.size ≤ K
  rS : R ∈ S ∨ w0.heap.size ≤ R
  aS : A ∈ S ∨ w0.heap.size ≤ A
  bS : B ∈ S ∨ w0.heap.size ≤ B
  ne : A ≠ K ∧ A ≠ R ∧ B ≠ K ∧ B ≠ R ∧ A ≠ B
  d : d0 ≤ A ∧ d0 ≤ B

section
variable {S : List Nat} {w0 w : World} {K R d0 : Nat} {s : Rs} {A B : Nat} {T : TypeId} {ca cb : Array Value}

theorem TkB.set (h : TkB S w0 w K R d0 s A B T ca cb) (i : Nat) (u : Value) : TkB S w0 (w.setCell ⟨B, i, none⟩ u) K R d0 s A B T ca (cb.setIfInBounds i u) := by
  obtain ⟨n1, n2, n3, n4, n5⟩ := h.ne
  have hd := h.d.2
  exact ⟨h.tk.keep (S := [B]) ((Tn.refl _ _).setCell (.inl (by simp)) _) (by simp; omega) (by simp; omega) (by simp; exact hd), h.a.other (by show A ≠ B; omega) _, h.b.set i u, h.tn.setCell h.bS _, h.kS, h.rS, h.aS, h.bS, h.ne, h.d⟩

theorem TkB.setA (h : TkB S w0 w K R d0 s A B T ca cb) (i : Nat) (u : Value) : TkB S w0 (w.setCell ⟨A, i, none⟩ u) K R d0 s A B T (ca.setIfInBounds i u) cb := by
  obtain ⟨n1, n2, n3, n4, n5⟩ := h.ne
  have hd := h.d.1
  exact ⟨h.tk.keep (S := [A]) ((Tn.refl _ _).setCell (.inl (by simp)) _) (by simp; omega) (by simp; omega) (by simp; exact hd), h.a.set i u, h.b.other (by show B ≠ A; omega) _, h.tn.setCell h.aS _, h.kS, h.rS, h.aS, h.bS, h.ne, h.d⟩

theorem TkB.step {w' : World} {s' : Rs} (h : TkB S w0 w K R d0 s A B T ca cb) (hr : Tk w' K R d0 s') (ht : Tn [K, R] w w') : TkB S w0 w' K R d0 s' A B T ca cb := by
  obtain ⟨n1, n2, n3, n4, n5⟩ := h.ne
  refine ⟨hr, h.a.tn ht (by simp; omega), h.b.tn ht (by simp; omega), h.tn.trans ht (fun x hx => ?_), h.kS, h.rS, h.aS, h.bS, h.ne, h.d⟩
  simp only [List.mem_cons, List.not_mem_nil, or_false] at hx
  rcases hx with rfl | rfl
  · exact h.kS
  · exact h.rS

theorem TkB.below {w' : World} (h : TkB S w0 w K R d0 s A B T ca cb) (hb : Below w.heap.size w w') : TkB S w0 w' K R d0 s A B T ca cb :=
  ⟨h.tk.below hb, h.a.below hb h.a.lt, h.b.below hb h.b.lt, h.tn.trans (Tn.of_below hb []) (by simp), h.kS, h.rS, h.aS, h.bS, h.ne, h.d⟩

theorem numT (h : TkB S w0 w K R d0 s A B T ca cb) : Calls Try.prog 55 #[.pointer (some ⟨K, 0, none⟩)] w fun x w' => x = .returned (.int .i64 s.num.1) ∧ TkB S w0 w' K R d0 s.num.2 A B T ca cb :=
  (num_tk h.tk).mono fun x w' ⟨a, b, c⟩ => ⟨a, h.step b c⟩
theorem textT (h : TkB S w0 w K R d0 s A B T ca cb) : Calls Try.prog 62 #[.pointer (some ⟨K, 0, none⟩)] w fun x w' => x = .returned (.string s.text.1) ∧ TkB S w0 w' K R d0 s.text.2 A B T ca cb :=
  (text_tk h.tk).mono fun x w' ⟨a, b, c⟩ => ⟨a, h.step b c⟩
theorem flagT (h : TkB S w0 w K R d0 s A B T ca cb) : Calls Try.prog 61 #[.pointer (some ⟨K, 0, none⟩)] w fun x w' => x = .returned (.bool s.flag.1) ∧ TkB S w0 w' K R d0 s.flag.2 A B T ca cb :=
  (flag_tk h.tk).mono fun x w' ⟨a, b, c⟩ => ⟨a, h.step b c⟩
end

set_option maxHeartbeats 2000000 in
theorem write_tk {w : World} {K R d0 : Nat} {s : Rs} (h : Tk w K R d0 s) :
    Calls Try.prog 57 #[.pointer (some ⟨K, 0, none⟩)] w fun x w' => x = .returned (.agg s.write.1.cells.toArray) ∧ Tk w' K R d0 s.write.2 ∧ Tn [K, R] w w' := by
  have hK : K < w.heap.size := h.k.lt
  have hR : R < w.heap.size := h.r.lt.1
  have hd : d0 ≤ w.heap.size := by have := h.dk; omega
  have H0 : Hid (Tk (w.alloc (.cells #[.string .empty, .string .empty, .bool false] 33)) K R d0 s) := h.below ((Below.refl _ _).alloc (Nat.le_refl _) _)
  have HA0 : Hid (Bk (w.alloc (.cells #[.string .empty, .string .empty, .bool false] 33)) w.heap.size 33 #[.string .empty, .string .empty, .bool false]) := Bk.new _ _ _
  have HT0 : Hid (Tn [K, R] w (w.alloc (.cells #[.string .empty, .string .empty, .bool false] 33))) := (Tn.refl _ _).alloc _
  clear h
  go_enter Try.func57, Try.ntmps57
  go_wp2_with fail
  refine (text_tk H0.out).mono ?_
  rintro e w1 ⟨rfl, h1, t1⟩
  have hs1 : w.heap.size < w1.heap.size := by have := t1.size; simp at this; omega
  have H1 : Hid (TkB [K, R] w (w1.alloc (.cells #[.string s.text.1, .string .empty, .bool false] 33)) K R d0 s.text.2 w.heap.size w1.heap.size 33 #[.string .empty, .string .empty, .bool false] #[.string s.text.1, .string .empty, .bool false]) :=
    ⟨h1.below ((Below.refl _ _).alloc (Nat.le_refl _) _), (HA0.out.tn t1 (by simp; omega)).alloc _, Bk.new _ _ _, (HT0.out.trans t1 (fun x hx => .inl hx)).alloc _, by simp, by simp, .inr (Nat.le_refl _), .inr (by omega), ⟨by omega, by omega, by omega, by omega, by omega⟩, ⟨hd, by omega⟩⟩
  clear h1 t1 H0 HA0 HT0
  go_wp2_with fail
  refine (flagT H1.out).mono ?_
  rintro e w2 ⟨rfl, h2⟩
  have H2 : Hid (TkB [K, R] w w2 K R d0 s.text.2.flag.2 w.heap.size w1.heap.size 33 #[.string .empty, .string .empty, .bool false] #[.string s.text.1, .string .empty, .bool false]) := h2
  have c2 : w2.cell? ⟨w1.heap.size, 2, none⟩ = some (.bool false) := h2.b.cell 2
  have f2 : w2.frozen? ⟨w1.heap.size, 2, none⟩ = false := h2.b.frozen 2
  clear h2 H1
  go_wp2_with fail
  refine (textT (H2.out.set 2 _)).mono ?_
  rintro e w3 ⟨rfl, h3⟩
  have h3' : TkB [K, R] w w3 K R d0 s.text.2.flag.2.text.2 w.heap.size w1.heap.size 33 #[.string .empty, .string .empty, .bool false] #[.string s.text.1, .string .empty, .bool s.text.2.flag.1] := h3
  have H3 : Hid (TkB [K, R] w (w3.setCell ⟨w1.heap.size, 1, none⟩ (.string s.text.2.flag.2.text.1)) K R d0 s.text.2.flag.2.text.2 w.heap.size w1.heap.size 33 #[.string .empty, .string .empty, .bool false] s.write.1.cells.toArray) := h3'.set 1 _
  have c3 : w3.cell? ⟨w1.heap.size, 1, none⟩ = some (.string .empty) := h3'.b.cell 1
  have f3 : w3.frozen? ⟨w1.heap.size, 1, none⟩ = false := h3'.b.frozen 1
  have d30 : w3.cell? ⟨w1.heap.size, 0, none⟩ = some (.string s.text.1) := h3'.b.cell 0
  have d32 : w3.cell? ⟨w1.heap.size, 2, none⟩ = some (.bool s.text.2.flag.1) := h3'.b.cell 2
  obtain ⟨-, e3, e4⟩ := h3'.tk.cells
  obtain ⟨-, e5, e6⟩ := H3.out.tk.cells
  have pa0 : w3.cell? ⟨w.heap.size, 0, none⟩ = some (.string .empty) := h3'.a.cell 0
  have pa1 : w3.cell? ⟨w.heap.size, 1, none⟩ = some (.string .empty) := h3'.a.cell 1
  have pa2 : w3.cell? ⟨w.heap.size, 2, none⟩ = some (.bool false) := h3'.a.cell 2
  have qa0 : w3.frozen? ⟨w.heap.size, 0, none⟩ = false := h3'.a.frozen 0
  have qa1 : w3.frozen? ⟨w.heap.size, 1, none⟩ = false := h3'.a.frozen 1
  have qa2 : w3.frozen? ⟨w.heap.size, 2, none⟩ = false := h3'.a.frozen 2
  have hw1A : ¬ (w1.heap.size = w.heap.size) := by omega
  have hw1A2 : ¬ (w.heap.size = w1.heap.size) := by omega
  have hw1K : ¬ (w1.heap.size = K) := by omega
  have hw1K2 : ¬ (K = w1.heap.size) := by omega
  clear h3 h3' H2 c2 f2
  by_cases he : s.text.2.flag.2.text.2.e = 0
  · have heb : (s.text.2.flag.2.text.2.e == 0) = true := by simpa using he
    have HW : Hid (s.write.2 = ⟨s.text.2.flag.2.text.2.xs, Rc.wrE s.write.1⟩) := by
      unfold Hid
      show s.text.2.flag.2.text.2.note _ = _
      unfold Rs.note
      rw [if_pos he]
      rfl
    clear he
    go_wp2_with fail
    refine (rcheckWrite_any s.write.1 _).mono ?_
    rintro e w4 ⟨rfl, hb4⟩
    have h4 := H3.out.below hb4
    have H4 : Hid (TkB [K, R] w w4 K R d0 s.text.2.flag.2.text.2 w.heap.size w1.heap.size 33 #[.string .empty, .string .empty, .bool false] s.write.1.cells.toArray) := h4
    obtain ⟨-, m1, m2⟩ := h4.tk.cells
    have hq := h4.tk.setE (Rc.wrE s.write.1)
    have h5 := h4.step hq.1 hq.2
    rw [← HW.out] at h5
    have H5 : Hid (TkB [K, R] w (w4.setCell ⟨K, 1, none⟩ (.int .i64 (Rc.wrE s.write.1))) K R d0 s.write.2 w.heap.size w1.heap.size 33 #[.string .empty, .string .empty, .bool false] s.write.1.cells.toArray) := h5
    have n0 : w4.cell? ⟨w1.heap.size, 0, none⟩ = some (.string s.write.1.key) := h4.b.cell 0
    have n1 : w4.cell? ⟨w1.heap.size, 1, none⟩ = some (.string s.write.1.val) := h4.b.cell 1
    have n2 : w4.cell? ⟨w1.heap.size, 2, none⟩ = some (.bool s.write.1.del) := h4.b.cell 2
    have p0 : w4.cell? ⟨w.heap.size, 0, none⟩ = some (.string .empty) := h4.a.cell 0
    have p1 : w4.cell? ⟨w.heap.size, 1, none⟩ = some (.string .empty) := h4.a.cell 1
    have p2 : w4.cell? ⟨w.heap.size, 2, none⟩ = some (.bool false) := h4.a.cell 2
    have q0 : w4.frozen? ⟨w.heap.size, 0, none⟩ = false := h4.a.frozen 0
    have q1 : w4.frozen? ⟨w.heap.size, 1, none⟩ = false := h4.a.frozen 1
    have q2 : w4.frozen? ⟨w.heap.size, 2, none⟩ = false := h4.a.frozen 2
    have hwK : ¬ (w.heap.size = K) := by omega
    have hwK2 : ¬ (K = w.heap.size) := by omega
    clear hb4 h4 hq h5 H3 c3 f3 d30 d32 e3 e4 e5 e6 pa0 pa1 pa2 qa0 qa1 qa2
    go_wp2
    have h := ((H5.out.setA 0 (.string s.write.1.key)).setA 1 (.string s.write.1.val)).setA 2 (.bool s.write.1.del)
    try simp only [Exit.inBlock, Exit.then]
    refine bodyPost_ret (results_one (cs := s.write.1.cells) rfl rfl wr_agg wr_size rfl h.a) rfl ?_
    exact ⟨rfl, h.tk, h.tn⟩
  · have heb : (s.text.2.flag.2.text.2.e == 0) = false := by simpa using he
    have HW : Hid (s.write.2 = s.text.2.flag.2.text.2) := by
      unfold Hid
      show s.text.2.flag.2.text.2.note _ = _
      unfold Rs.note
      rw [if_neg he]
    clear he
    go_wp2
    have h := ((H3.out.setA 0 (.string s.write.1.key)).setA 1 (.string s.write.1.val)).setA 2 (.bool s.write.1.del)
    try simp only [Exit.inBlock, Exit.then]
    refine bodyPost_ret (results_one (cs := s.write.1.cells) rfl rfl wr_agg wr_size rfl h.a) rfl ?_
    rw [HW.out]
    exact ⟨rfl, h.tk, h.tn⟩

set_option maxHeartbeats 1000000 in
theorem ends_tk {w : World} {K R d0 : Nat} {s : Rs} (h : Tk w K R d0 s) :
    Calls Try.prog 58 #[.pointer (some ⟨K, 0, none⟩)] w fun x w' => x = .returned (.int .i64 s.more.e) ∧ Tk w' K R d0 s.more ∧ Tn [K, R] w w' := by
  obtain ⟨c0, c1, f1⟩ := h.cells
  obtain ⟨p, len, cap, hk, hi, -⟩ := h.r
  have r0 : w.cell? ⟨R, 0, none⟩ = some (.slice p len cap) := hk.cell 0
  have hlen := hi.lenq
  have H0 : Hid (Tk w K R d0 s) := h
  clear h hk hi
  by_cases he : s.e = 0
  · have heb : (s.e == 0) = true := by simpa using he
    by_cases hl : 0 < len
    · have hlb : decide (0 < len) = true := by simpa using hl
      have HM : Hid (s.more = ⟨s.xs, 13⟩) := by unfold Hid Rs.more Rs.note; rw [if_pos (by omega), if_pos he]
      clear he hl hlen
      go_enter Try.func58, Try.ntmps58
      go_wp2
      go_ret
      rw [HM.out]
      have hq := H0.out.setE 13
      exact ⟨rfl, hq.1, hq.2⟩
    · have hlb : decide (0 < len) = false := by simpa using hl
      have HM : Hid (s.more = s) := by unfold Hid Rs.more; rw [if_neg (by omega)]
      clear he hl hlen
      go_enter Try.func58, Try.ntmps58
      go_wp2
      go_ret
      rw [HM.out]
      exact ⟨rfl, H0.out, Tn.refl _ _⟩
  · have heb : (s.e == 0) = false := by simpa using he
    have HM : Hid (s.more = s) := by
      unfold Hid Rs.more Rs.note
      split
      · first | rfl | rw [if_neg he]
      · rfl
    clear he hlen
    go_enter Try.func58, Try.ntmps58
    go_wp2
    go_ret
    rw [HM.out]
    exact ⟨rfl, H0.out, Tn.refl _ _⟩

end Go.Proofs.Ytlfgclmgpbaenaa

namespace Go.Proofs.Ytlfgclmgpbaenaa
open Go.RowKit
set_option linter.unusedVariables false
set_option maxRecDepth 100000

/-- A commit under way. -/
structure TkC (w0 w : World) (K R d0 : Nat) (s : Rs) (A C : Nat) (ts : Int) (v : Value) (l : List Wr) : Prop where
  b : TkB [] w0 w K R d0 s A C 24 #[.int .i64 0, .slice none 0 0] #[.int .i64 ts, v]
  own : OwnW w (C + 1) v l
  lt : K < C ∧ R < C ∧ A < C

section
variable {w0 w : World} {K R d0 : Nat} {s : Rs} {A C : Nat} {ts : Int} {v : Value} {l : List Wr}

theorem TkC.below {w' : World} (h : TkC w0 w K R d0 s A C ts v l) (hb : Below w.heap.size w w') : TkC w0 w' K R d0 s A C ts v l := ⟨h.b.below hb, h.own.below hb, h.lt⟩

theorem TkC.ne (h : TkC w0 w K R d0 s A C ts v l) : v.ownBlock ≠ some C := fun e => by have := (h.own.lt _ e).1; omega

theorem writeTC (h : TkC w0 w K R d0 s A C ts v l) : Calls Try.prog 57 #[.pointer (some ⟨K, 0, none⟩)] w fun x w' => x = .returned (.agg #[.string s.write.1.key, .string s.write.1.val, .bool s.write.1.del]) ∧ TkC w0 w' K R d0 s.write.2 A C ts v l :=
  (write_tk h.b.tk).mono fun x w' ⟨a, b, c⟩ => ⟨a, h.b.step b c, h.own.tn c (by have := h.lt; simp; omega), h.lt⟩

theorem TkC.app {w' : World} {g k : Nat} {l' : List Wr} (h : TkC w0 w K R d0 s A C ts v l) (hg : w.grownBy w' v.ownBlock) (ho : OwnW w' (C + 1) (.slice (some ⟨g, 0, none⟩) l'.length k) l') :
    TkC w0 (w'.setCell ⟨C, 1, none⟩ (.slice (some ⟨g, 0, none⟩) l'.length k)) K R d0 s A C ts (.slice (some ⟨g, 0, none⟩) l'.length k) l' := by
  obtain ⟨l1, l2, l3⟩ := h.lt
  have hdC := h.b.d.2
  have hC0 : w0.heap.size ≤ C := by have := h.b.bS; simpa using this
  have hr : ∀ k, v.ownBlock = some k → C + 1 ≤ k := fun k hk => (h.own.lt k hk).1
  have ht : Tn v.ownBlock.toList w w' := (Tn.refl _ _).grown hg (fun k hk => .inl (by simp [hk]))
  have hS : ∀ b ∈ v.ownBlock.toList, C + 1 ≤ b := fun b hb => hr b (by simpa using hb)
  have hB : TkB [] w0 w' K R d0 s A C 24 #[.int .i64 0, .slice none 0 0] #[.int .i64 ts, v] := by
    refine ⟨h.b.tk.keep ht (fun hm => by have := hS _ hm; omega) (fun hm => by have := hS _ hm; omega) (fun b hb => by have := hS b hb; omega), h.b.a.tn ht (fun hm => by have := hS _ hm; omega), h.b.b.tn ht (fun hm => by have := hS _ hm; omega), h.b.tn.trans ht (fun x hx => .inr (by have := hS x hx; omega)), h.b.kS, h.b.rS, h.b.aS, h.b.bS, h.b.ne, h.b.d⟩
  refine ⟨hB.set 1 _, ho.keptN fun k hk => ?_, h.lt⟩
  refine Below.heap_setCell w' ⟨C, 1, none⟩ _ k ?_
  have := (ho.lt k hk).1
  show k ≠ C
  omega
end

/-- What a taker begins with. -/
theorem tk_new (w : World) (T : TypeId) (ca : Array Value) (p : Option Addr) (len cap : Nat) (xs : List Int) (hi : InB 9223372036854775807 w p len cap xs) (hl : xs.length ≤ 140737488355328) :
    Tk (((w.alloc (.cells ca T)).alloc (.cells #[.slice p len cap] 89)).alloc (.cells #[.pointer (some ⟨w.heap.size + 1, 0, none⟩), .int .i64 0] 91)) (w.heap.size + 2) (w.heap.size + 1) w.heap.size ⟨xs, 0⟩ ∧
    Bk (((w.alloc (.cells ca T)).alloc (.cells #[.slice p len cap] 89)).alloc (.cells #[.pointer (some ⟨w.heap.size + 1, 0, none⟩), .int .i64 0] 91)) w.heap.size T ca ∧
    Tn [] w (((w.alloc (.cells ca T)).alloc (.cells #[.slice p len cap] 89)).alloc (.cells #[.pointer (some ⟨w.heap.size + 1, 0, none⟩), .int .i64 0] 91)) := by
  have b1 := (Bk.new (w.alloc (.cells ca T)) 89 #[.slice p len cap]).alloc (.cells #[.pointer (some ⟨w.heap.size + 1, 0, none⟩), .int .i64 0] 91)
  have b2 := Bk.new ((w.alloc (.cells ca T)).alloc (.cells #[.slice p len cap] 89)) 91 #[.pointer (some ⟨w.heap.size + 1, 0, none⟩), .int .i64 0]
  rw [show (w.alloc (.cells ca T)).heap.size = w.heap.size + 1 by simp] at b1
  rw [show ((w.alloc (.cells ca T)).alloc (.cells #[.slice p len cap] 89)).heap.size = w.heap.size + 2 by simp] at b2
  have ht : Tn [] w (((w.alloc (.cells ca T)).alloc (.cells #[.slice p len cap] 89)).alloc (.cells #[.pointer (some ⟨w.heap.size + 1, 0, none⟩), .int .i64 0] 91)) := (((Tn.refl _ _).alloc _).alloc _).alloc _
  refine ⟨⟨b2, ⟨p, len, cap, b1, hi.tn ht (by simp), hl, fun hp ad had => ?_, by omega⟩, by omega, by omega⟩, ((Bk.new _ _ _).alloc _).alloc _, ht⟩
  obtain ⟨b, o, hpp, hc⟩ := hi.bys hp
  rw [hpp] at had
  cases had
  exact World.block_lt_of_cell? w _ (hc 0 hp)

set_option maxHeartbeats 4000000 in
theorem rtakeCommit_any (p : Option Addr) (len cap : Nat) (xs : List Int) (w : World) (hin : InB 9223372036854775807 w p len cap xs) (hl47 : xs.length ≤ 140737488355328) :
    Calls Try.prog 30 #[.slice p len cap] w fun x w' => ∃ v, x = .returned (.tuple #[.agg #[.int .i64 (Rc.takeCom xs).1, v], .int .i64 (Rc.takeCom xs).2.2]) ∧ OwnW w' w.heap.size v (Rc.takeCom xs).2.1 ∧ Below w.heap.size w w' := by
  obtain ⟨tk0, ba0, tn0⟩ := tk_new w 24 #[.int .i64 0, .slice none 0 0] p len cap xs hin hl47
  have H0 : Hid _ := tk0
  have HA0 : Hid _ := ba0
  have HT0 : Hid _ := tn0
  obtain ⟨i0, hi, hz0, hz1, hz2⟩ := info_parts wrinfo
  have HT : Hid (Rc.takeCom xs = if ((Rs.mk xs 0).commit.2.2.more.note (Rc.comE (Rs.mk xs 0).commit.1 (Rs.mk xs 0).commit.2.1)).e = 0 then ((Rs.mk xs 0).commit.1, (Rs.mk xs 0).commit.2.1, 0) else (0, [], ((Rs.mk xs 0).commit.2.2.more.note (Rc.comE (Rs.mk xs 0).commit.1 (Rs.mk xs 0).commit.2.1)).e)) := rfl
  have HCW : Hid ((Rs.mk xs 0).commit = ((Rs.mk xs 0).num.1, Rs.writes ((Rs.mk xs 0).num.2.count 64).1.toNat ((Rs.mk xs 0).num.2.count 64).2)) := rfl
  clear tk0 ba0 tn0 hin
  go_enter Try.func30, Try.ntmps30
  go_wp2_with fail
  refine (num_tk H0.out).mono ?_
  rintro e w1 ⟨rfl, h1, t1⟩
  obtain ⟨ts, s1, hN⟩ : ∃ n t, (Rs.mk xs 0).num = (n, t) := ⟨_, _, rfl⟩
  rw [hN] at h1 HCW ⊢
  simp only at h1 HCW ⊢
  have hs1 : w.heap.size + 3 ≤ w1.heap.size := by have := t1.size; simp at this; omega
  have H1 : Hid (TkB [] w (w1.alloc (.cells #[.int .i64 ts, .slice none 0 0] 24)) (w.heap.size + 2) (w.heap.size + 1) w.heap.size s1 w.heap.size w1.heap.size 24 #[.int .i64 0, .slice none 0 0] #[.int .i64 ts, .slice none 0 0]) :=
    ⟨h1.below ((Below.refl _ _).alloc (Nat.le_refl _) _), (Bk.tn HA0.out t1 (by simp)).alloc _, Bk.new _ _ _, (HT0.out.trans t1 (by simp)).alloc _, .inr (by omega), .inr (by omega), .inr (Nat.le_refl _), .inr (by omega), ⟨by omega, by omega, by omega, by omega, by omega⟩, ⟨Nat.le_refl _, by omega⟩⟩
  clear h1 t1 H0 HA0 HT0 hN
  go_wp2_with fail
  refine (count_tk H1.out.tk 64 (by omega)).mono ?_
  rintro e w2 ⟨rfl, h2, t2⟩
  have HC2 : Hid (TkC w w2 (w.heap.size + 2) (w.heap.size + 1) w.heap.size (s1.count 64).2 w.heap.size w1.heap.size ts (.slice none 0 0) []) := ⟨H1.out.step h2 t2, OwnW.nil _ _, ⟨by omega, by omega, by omega⟩⟩
  have hcn : 0 ≤ (s1.count 64).1 ∧ (s1.count 64).1 ≤ 64 := by
    unfold Rs.count
    split
    · rename_i hq
      exact Rc.inn_iff.1 hq
    · simp
  generalize (s1.count 64).2 = s2 at *
  generalize (s1.count 64).1 = cn at *
  obtain ⟨N, rfl⟩ := Int.eq_ofNat_of_zero_le hcn.1
  rw [Int.toNat_natCast] at HCW
  clear h2 t2 H1
  generalize hC : w1.heap.size = C at *
  go_wp2_with fail
  go_loopw [7] (fun i wr => ∃ (k : Nat) (v : Value) (l : List Wr) (t : Rs), k ≤ N ∧ i = .int .i64 k ∧ Hid (l.length = k) ∧ Hid (TkC w wr (w.heap.size + 2) (w.heap.size + 1) w.heap.size t w.heap.size C ts v l) ∧ Hid (∀ m, Rs.writes (k + m) s2 = (l ++ (Rs.writes m t).1, (Rs.writes m t).2))) (fun i _ => N - (intOf i).toNat)
  case atStart => exact ⟨0, .slice none 0 0, [], s2, Nat.zero_le _, rfl, rfl, HC2, by simp [Hid]⟩
  case round =>
    obtain ⟨k, v, l, t, hk, rfl, HL, HF, HQ⟩ := hrel
    clear HC2
    by_cases hlt : k < N
    · have hli : (k : Int) < (N : Int) := by omega
      have HD : Hid (TkC w wr.drew (w.heap.size + 2) (w.heap.size + 1) w.heap.size t w.heap.size C ts v l) := HF.out.below ((Below.refl _ _).drew)
      have c0 : wr.drew.cell? ⟨C, 1, none⟩ = some v := HD.out.b.b.cell 1
      have hll : l.length ≤ 64 := by have := HL.out; omega
      clear HF
      go_wp2_with fail
      go_region_law (first
        | (go_simp; go_at_call 57; refine (writeTC HD.out).mono ?_; rintro e w3 ⟨rfl, h3⟩; have c3 : w3.cell? ⟨C, 1, none⟩ = some v := h3.b.b.cell 1; have h4 := h3.below (w' := w3.alloc (.cells #[.string t.write.1.key, .string t.write.1.val, .bool t.write.1.del] 33)) ((Below.refl _ _).alloc (Nat.le_refl _) _); have c4 : (w3.alloc (.cells #[.string t.write.1.key, .string t.write.1.val, .bool t.write.1.del] 33)).cell? ⟨C, 1, none⟩ = some v := h4.b.b.cell 1; have b4 := Bk.new w3 33 #[.string t.write.1.key, .string t.write.1.val, .bool t.write.1.del])
        | (refine step_own rfl _ _ 22 rfl (C + 1) 33 i0 _ 3 40 Try.underlying22 hi hz0 hz1 hz2 rfl (by decide) v l.length (l.map Wr.cells).flatten (by go_simp) h4.own ⟨w3.heap.size, 0, none⟩ 1 1 t.write.1.cells (by go_simp) rfl (fun j u hj => by rw [Addr.add_lit, Nat.zero_add, b4.cell j]; simpa [Wr.cells] using hj) (wr_one _) (by unfold maxLen; omega) (by omega) (by have := h4.b.b.lt; omega) ?_; intro v5 w5 ho5 hg5 hv5; obtain ⟨g5, k5, rfl⟩ := own_some ho5 (by omega); have b5 := h4.b.b.grown hg5 h4.ne; have c5 := b5.cell 1; have f5 := b5.frozen 1; have h6 := h4.app hg5 (OwnW.snoc ho5)))
      all_goals
        have H6 : Hid (TkC w (w5.setCell ⟨C, 1, none⟩ (.slice (some ⟨g5, 0, none⟩) (l.length + 1) k5)) (w.heap.size + 2) (w.heap.size + 1) w.heap.size t.write.2 w.heap.size C ts (.slice (some ⟨g5, 0, none⟩) (l ++ [t.write.1]).length k5) (l ++ [t.write.1])) := by
          simpa [Hid] using h6
        have HQ6 : Hid _ := Rs.writes_snoc s2 t l k HQ.out
        have HL6 : Hid ((l ++ [t.write.1]).length = k + 1) := by have := HL.out; simp [Hid, this]
        clear h3 c3 h4 b4 c4 ho5 hg5 hv5 b5 c5 f5 h6 HD c0
        generalize w5.setCell ⟨C, 1, none⟩ (.slice (some ⟨g5, 0, none⟩) (l.length + 1) k5) = w6 at *
        go_wp2
        go_roundw
        case rel => exact ⟨k + 1, _, _, _, by omega, by go_num, HL6, H6, HQ6⟩
        case measure => simp [intOf]; omega
    · have hli : ¬ ((k : Int) < (N : Int)) := by omega
      have hkn : k = N := by omega
      obtain ⟨pv, cv, rfl⟩ := own_form HF.out.own
      have HW : Hid (Rs.writes N s2 = (l, t)) := by
        have := HQ.out 0
        simp only [Nat.add_zero, Rs.writes, List.append_nil] at this
        rw [hkn] at this
        exact this
      have HT2 : Hid (Rc.takeCom xs = if (t.more.note (Rc.comE ts l)).e = 0 then (ts, l, 0) else (0, [], (t.more.note (Rc.comE ts l)).e)) := by
        unfold Hid
        rw [HT.out, HCW.out, HW.out]
      clear hkn HQ HW HT HCW
      go_wp2_with fail
      refine (ends_tk HF.out.b.tk).mono ?_
      rintro e w7 ⟨rfl, h7, t7⟩
      obtain ⟨z, hz⟩ : ∃ z, t.more = z := ⟨_, rfl⟩
      rw [hz] at h7 HT2 ⊢
      have b7 := HF.out.b.step h7 t7
      have HO7 : Hid (OwnW w7 (C + 1) (.slice pv l.length cv) l) := HF.out.own.tn t7 (by have := HF.out.lt; simp; omega)
      have HB7 : Hid (TkB [] w w7 (w.heap.size + 2) (w.heap.size + 1) w.heap.size z w.heap.size C 24 #[.int .i64 0, .slice none 0 0] #[.int .i64 ts, .slice pv l.length cv]) := b7
      have m0 : w7.cell? ⟨C, 0, none⟩ = some (.int .i64 ts) := b7.b.cell 0
      have m1 : w7.cell? ⟨C, 1, none⟩ = some (.slice pv l.length cv) := b7.b.cell 1
      have hCA : w.heap.size + 3 ≤ C := hs1
      clear h7 t7 b7 hz HF
      by_cases hze : z.e = 0
      · have hzb : (z.e == 0) = true := by simpa using hze
        have HE : Hid ((z.note (Rc.comE ts l)).e = Rc.comE ts l) := by unfold Hid Rs.note; rw [if_pos hze]
        rw [HE.out] at HT2
        go_wp2_with fail
        refine (rcheckCommit_any ts pv l.length cv l _ HO7.out.inw).mono ?_
        rintro e w8 ⟨rfl, hb8⟩
        have b8 := HB7.out.below hb8
        have HO8 : Hid (OwnW w8 (C + 1) (.slice pv l.length cv) l) := HO7.out.below hb8
        have HB8 : Hid (TkB [] w w8 (w.heap.size + 2) (w.heap.size + 1) w.heap.size z w.heap.size C 24 #[.int .i64 0, .slice none 0 0] #[.int .i64 ts, .slice pv l.length cv]) := b8
        have m0 : w8.cell? ⟨C, 0, none⟩ = some (.int .i64 ts) := b8.b.cell 0
        have m1 : w8.cell? ⟨C, 1, none⟩ = some (.slice pv l.length cv) := b8.b.cell 1
        have k0 : w8.cell? ⟨w.heap.size, 0, none⟩ = some (.int .i64 0) := b8.a.cell 0
        have k1 : w8.cell? ⟨w.heap.size, 1, none⟩ = some (.slice none 0 0) := b8.a.cell 1
        have f0 : w8.frozen? ⟨w.heap.size, 0, none⟩ = false := b8.a.frozen 0
        have f1 : w8.frozen? ⟨w.heap.size, 1, none⟩ = false := b8.a.frozen 1
        clear hb8 b8 HO7 HB7 hze
        by_cases hc : Rc.comE ts l = 0
        · have hcb : (Rc.comE ts l != 0) = false := by simpa using hc
          rw [if_pos hc] at HT2
          clear hc
          go_wp2
          try simp only [Exit.inBlock, Exit.then]
          have hk := ((HB8.out.setA 0 (.int .i64 ts)).setA 1 (.slice pv l.length cv))
          refine bodyPost_ret (results_two (cs := [.int .i64 ts, .slice pv l.length cv]) rfl rfl cm_agg cm_size rfl hk.a) rfl ?_
          rw [HT2.out]
          refine ⟨_, rfl, ?_, hk.tn.below (Nat.le_refl _) (by simp)⟩
          refine OwnW.mono (base := C + 1) (HO8.out.keptN fun j hj => ?_) (by omega)
          have h5 := (HO8.out.lt j hj).1
          rw [Below.heap_setCell _ ⟨w.heap.size, 1, none⟩ _ j (by show j ≠ w.heap.size; omega), Below.heap_setCell _ ⟨w.heap.size, 0, none⟩ _ j (by show j ≠ w.heap.size; omega)]
        · have hcb : (Rc.comE ts l != 0) = true := by simpa using hc
          rw [if_neg hc] at HT2
          clear hc
          go_wp2
          try simp only [Exit.inBlock, Exit.then]
          have hk := ((HB8.out.setA 0 (.int .i64 0)).setA 1 (.slice none 0 0))
          refine bodyPost_ret (results_two (cs := [.int .i64 0, .slice none 0 0]) rfl rfl cm_agg cm_size rfl hk.a) rfl ?_
          rw [HT2.out]
          exact ⟨_, rfl, OwnW.nil _ _, hk.tn.below (Nat.le_refl _) (by simp)⟩
      · have hzb : (z.e == 0) = false := by simpa using hze
        have hzb2 : (z.e != 0) = true := by simpa using hze
        have HE : Hid ((z.note (Rc.comE ts l)).e = z.e) := by unfold Hid Rs.note; rw [if_neg hze]
        rw [HE.out, if_neg hze] at HT2
        have k0 : w7.cell? ⟨w.heap.size, 0, none⟩ = some (.int .i64 0) := HB7.out.a.cell 0
        have k1 : w7.cell? ⟨w.heap.size, 1, none⟩ = some (.slice none 0 0) := HB7.out.a.cell 1
        have f0 : w7.frozen? ⟨w.heap.size, 0, none⟩ = false := HB7.out.a.frozen 0
        have f1 : w7.frozen? ⟨w.heap.size, 1, none⟩ = false := HB7.out.a.frozen 1
        clear hze
        go_wp2
        try simp only [Exit.inBlock, Exit.then]
        have hk := ((HB7.out.setA 0 (.int .i64 0)).setA 1 (.slice none 0 0))
        refine bodyPost_ret (results_two (cs := [.int .i64 0, .slice none 0 0]) rfl rfl cm_agg cm_size rfl hk.a) rfl ?_
        rw [HT2.out]
        exact ⟨_, rfl, OwnW.nil _ _, hk.tn.below (Nat.le_refl _) (by simp)⟩

end Go.Proofs.Ytlfgclmgpbaenaa

namespace Go.Proofs.Ytlfgclmgpbaenaa
open Go.RowKit
set_option linter.unusedVariables false
set_option maxRecDepth 100000

/-- A commit under way. -/
structure TkH (w0 w : World) (K R d0 : Nat) (s : Rs) (A C : Nat) (ts : Int) (d : Bool) (v : Value) (l : List St) : Prop where
  b : TkB [] w0 w K R d0 s A C 27 #[.int .i64 0, .slice none 0 0, .bool false] #[.int .i64 ts, v, .bool d]
  own : OwnS w (C + 1) v l
  lt : K < C ∧ R < C ∧ A < C

section
variable {w0 w : World} {K R d0 : Nat} {s : Rs} {A C : Nat} {ts : Int} {d : Bool} {v : Value} {l : List St}

theorem TkH.below {w' : World} (h : TkH w0 w K R d0 s A C ts d v l) (hb : Below w.heap.size w w') : TkH w0 w' K R d0 s A C ts d v l := ⟨h.b.below hb, h.own.below hb, h.lt⟩

theorem TkH.ne (h : TkH w0 w K R d0 s A C ts d v l) : v.ownBlock ≠ some C := fun e => by have := (h.own.lt _ e).1; omega

theorem TkH.step {w' : World} {s' : Rs} (h : TkH w0 w K R d0 s A C ts d v l) (hr : Tk w' K R d0 s') (ht : Tn [K, R] w w') : TkH w0 w' K R d0 s' A C ts d v l := ⟨h.b.step hr ht, h.own.tn ht (by have := h.lt; simp; omega), h.lt⟩

theorem TkH.other {w' : World} {X : Nat} (h : TkH w0 w K R d0 s A C ts d v l) (ht : Tn [X] w w') (hX : C < X) (ho : v.ownBlock ≠ some X) : TkH w0 w' K R d0 s A C ts d v l := by
  obtain ⟨l1, l2, l3⟩ := h.lt
  have hdC := h.b.d.2
  have hC0 : w0.heap.size ≤ C := by have := h.b.bS; simpa using this
  refine ⟨⟨h.b.tk.keep ht (by simp; omega) (by simp; omega) (by simp; omega), h.b.a.tn ht (by simp; omega), h.b.b.tn ht (by simp; omega), h.b.tn.trans ht (fun x hx => .inr (by simp at hx; omega)), h.b.kS, h.b.rS, h.b.aS, h.b.bS, h.b.ne, h.b.d⟩, h.own.keptN fun k hk => ht.block k (h.own.lt k hk).2 (fun hm => ?_), h.lt⟩
  simp only [List.mem_singleton] at hm
  subst hm
  exact ho hk

theorem TkH.app {w' : World} {g k : Nat} {l' : List St} (h : TkH w0 w K R d0 s A C ts d v l) (hg : w.grownBy w' v.ownBlock) (ho : OwnS w' (C + 1) (.slice (some ⟨g, 0, none⟩) l'.length k) l') :
    TkH w0 (w'.setCell ⟨C, 1, none⟩ (.slice (some ⟨g, 0, none⟩) l'.length k)) K R d0 s A C ts d (.slice (some ⟨g, 0, none⟩) l'.length k) l' := by
  obtain ⟨l1, l2, l3⟩ := h.lt
  have hdC := h.b.d.2
  have hC0 : w0.heap.size ≤ C := by have := h.b.bS; simpa using this
  have hr : ∀ k, v.ownBlock = some k → C + 1 ≤ k := fun k hk => (h.own.lt k hk).1
  have ht : Tn v.ownBlock.toList w w' := (Tn.refl _ _).grown hg (fun k hk => .inl (by simp [hk]))
  have hS : ∀ b ∈ v.ownBlock.toList, C + 1 ≤ b := fun b hb => hr b (by simpa using hb)
  have hB : TkB [] w0 w' K R d0 s A C 27 #[.int .i64 0, .slice none 0 0, .bool false] #[.int .i64 ts, v, .bool d] := by
    refine ⟨h.b.tk.keep ht (fun hm => by have := hS _ hm; omega) (fun hm => by have := hS _ hm; omega) (fun b hb => by have := hS b hb; omega), h.b.a.tn ht (fun hm => by have := hS _ hm; omega), h.b.b.tn ht (fun hm => by have := hS _ hm; omega), h.b.tn.trans ht (fun x hx => .inr (by have := hS x hx; omega)), h.b.kS, h.b.rS, h.b.aS, h.b.bS, h.b.ne, h.b.d⟩
  refine ⟨hB.set 1 _, ho.keptN fun k hk => ?_, h.lt⟩
  refine Below.heap_setCell w' ⟨C, 1, none⟩ _ k ?_
  have := (ho.lt k hk).1
  show k ≠ C
  omega
end

set_option maxHeartbeats 400000 in
theorem whole_any (n : Int) (w : World) : Calls Try.prog 60 #[.int .i64 n] w fun e w' => e = .returned (.int .i64 n) ∧ w' = w := by
  go_enter Try.func60, Try.ntmps60
  go_wp2
  go_ret
  exact ⟨rfl, rfl⟩

set_option maxHeartbeats 4000000 in
theorem rtakeChunk_any (p : Option Addr) (len cap : Nat) (xs : List Int) (w : World) (hin : InB 9223372036854775807 w p len cap xs) (hl47 : xs.length ≤ 140737488355328) :
    Calls Try.prog 32 #[.slice p len cap] w fun x w' => ∃ v, x = .returned (.tuple #[.agg #[.int .i64 (Rc.takeCh xs).1, v, .bool (Rc.takeCh xs).2.1], .int .i64 (Rc.takeCh xs).2.2.2]) ∧ OwnS w' w.heap.size v (Rc.takeCh xs).2.2.1 ∧ Below w.heap.size w w' := by
  obtain ⟨tk0, ba0, tn0⟩ := tk_new w 27 #[.int .i64 0, .slice none 0 0, .bool false] p len cap xs hin hl47
  have H0 : Hid _ := tk0
  have HA0 : Hid _ := ba0
  have HT0 : Hid _ := tn0
  obtain ⟨i0, hi, hz0, hz1, hz2⟩ := info_parts stinfo
  have HT : Hid (Rc.takeCh xs = if ((Rs.mk xs 0).chunk.2.2.2.more.note (Rc.chE (Rs.mk xs 0).chunk.1 (Rs.mk xs 0).chunk.2.2.1)).e = 0 then ((Rs.mk xs 0).chunk.1, (Rs.mk xs 0).chunk.2.1, (Rs.mk xs 0).chunk.2.2.1, 0) else (0, false, [], ((Rs.mk xs 0).chunk.2.2.2.more.note (Rc.chE (Rs.mk xs 0).chunk.1 (Rs.mk xs 0).chunk.2.2.1)).e)) := rfl
  have HCW : Hid ((Rs.mk xs 0).chunk = ((Rs.mk xs 0).num.1, (Rs.mk xs 0).num.2.flag.1, Rs.stampeds ((Rs.mk xs 0).num.2.flag.2.count 16).1.toNat ((Rs.mk xs 0).num.2.flag.2.count 16).2)) := rfl
  have HZZ : Hid (∀ g ∈ (Rs.mk xs 0).chunk.2.2.1, -9223372036854775808 ≤ g.ts ∧ g.ts ≤ 9223372036854775807) := Rs.chunk_fits xs hin.byte
  clear tk0 ba0 tn0 hin
  go_enter Try.func32, Try.ntmps32
  go_wp2_with fail
  refine (num_tk H0.out).mono ?_
  rintro e w1 ⟨rfl, h1, t1⟩
  obtain ⟨ts, s1, hN⟩ : ∃ n t, (Rs.mk xs 0).num = (n, t) := ⟨_, _, rfl⟩
  rw [hN] at h1 HCW ⊢
  simp only at h1 HCW ⊢
  have hs1 : w.heap.size + 3 ≤ w1.heap.size := by have := t1.size; simp at this; omega
  have H1 : Hid (TkB [] w (w1.alloc (.cells #[.int .i64 ts, .slice none 0 0, .bool false] 27)) (w.heap.size + 2) (w.heap.size + 1) w.heap.size s1 w.heap.size w1.heap.size 27 #[.int .i64 0, .slice none 0 0, .bool false] #[.int .i64 ts, .slice none 0 0, .bool false]) :=
    ⟨h1.below ((Below.refl _ _).alloc (Nat.le_refl _) _), (Bk.tn HA0.out t1 (by simp)).alloc _, Bk.new _ _ _, (HT0.out.trans t1 (by simp)).alloc _, .inr (by omega), .inr (by omega), .inr (Nat.le_refl _), .inr (by omega), ⟨by omega, by omega, by omega, by omega, by omega⟩, ⟨Nat.le_refl _, by omega⟩⟩
  clear h1 t1 H0 HA0 HT0 hN
  go_wp2_with fail
  refine (whole_any ts _).mono ?_
  rintro e w1b ⟨rfl, hw1b⟩
  subst hw1b
  go_wp2_with fail
  refine (flagT H1.out).mono ?_
  rintro e w1c ⟨rfl, h1c⟩
  obtain ⟨d, s1f, hF⟩ : ∃ n t, s1.flag = (n, t) := ⟨_, _, rfl⟩
  rw [hF] at h1c HCW ⊢
  simp only at h1c HCW ⊢
  have cc : w1c.cell? ⟨w1b.heap.size, 2, none⟩ = some (.bool false) := h1c.b.cell 2
  have cf : w1c.frozen? ⟨w1b.heap.size, 2, none⟩ = false := h1c.b.frozen 2
  have H1c : Hid (TkB [] w (w1c.setCell ⟨w1b.heap.size, 2, none⟩ (.bool d)) (w.heap.size + 2) (w.heap.size + 1) w.heap.size s1f w.heap.size w1b.heap.size 27 #[.int .i64 0, .slice none 0 0, .bool false] #[.int .i64 ts, .slice none 0 0, .bool d]) := h1c.set 2 _
  clear h1c hF H1
  go_wp2_with fail
  refine (count_tk H1c.out.tk 16 (by omega)).mono ?_
  rintro e w2 ⟨rfl, h2, t2⟩
  have HC2 : Hid (TkH w w2 (w.heap.size + 2) (w.heap.size + 1) w.heap.size (s1f.count 16).2 w.heap.size w1b.heap.size ts d (.slice none 0 0) []) := ⟨H1c.out.step h2 t2, OwnS.nil _ _, ⟨by omega, by omega, by omega⟩⟩
  have hcn : 0 ≤ (s1f.count 16).1 ∧ (s1f.count 16).1 ≤ 16 := by
    unfold Rs.count
    split
    · rename_i hq
      exact Rc.inn_iff.1 hq
    · simp
  generalize (s1f.count 16).2 = s2 at *
  generalize (s1f.count 16).1 = cn at *
  obtain ⟨N, rfl⟩ := Int.eq_ofNat_of_zero_le hcn.1
  rw [Int.toNat_natCast] at HCW
  clear h2 t2 H1c cc cf
  generalize hC : w1b.heap.size = C at *
  go_wp2_with fail
  go_loopw [7] (fun i wr => ∃ (k : Nat) (v : Value) (l : List St) (t : Rs), k ≤ N ∧ i = .int .i64 k ∧ Hid (l.length = k) ∧ Hid (TkH w wr (w.heap.size + 2) (w.heap.size + 1) w.heap.size t w.heap.size C ts d v l) ∧ Hid (∀ m, Rs.stampeds (k + m) s2 = (l ++ (Rs.stampeds m t).1, (Rs.stampeds m t).2))) (fun i _ => N - (intOf i).toNat)
  case atStart => exact ⟨0, .slice none 0 0, [], s2, Nat.zero_le _, rfl, rfl, HC2, by simp [Hid]⟩
  case round =>
    obtain ⟨k, v, l, t, hk, rfl, HL, HF, HQ⟩ := hrel
    clear HC2
    by_cases hlt : k < N
    · have hli : (k : Int) < (N : Int) := by omega
      have hll : l.length ≤ 64 := by have := HL.out; omega
      go_wp2_with fail
      refine (text_tk HF.out.b.tk).mono ?_
      rintro e w3 ⟨rfl, h3, t3⟩
      have h3b := HF.out.step h3 t3
      have hCX : C < w3.heap.size := by have := h3b.b.b.lt; omega
      have hoX : v.ownBlock ≠ some w3.heap.size := fun e => by have := (h3b.own.lt _ e).2; omega
      have H4 : Hid (TkH w (w3.alloc (.cells #[.string t.text.1, .string .empty, .int .i64 0] 70)) (w.heap.size + 2) (w.heap.size + 1) w.heap.size t.text.2 w.heap.size C ts d v l) := h3b.below ((Below.refl _ _).alloc (Nat.le_refl _) _)
      have X4 : Hid (Bk (w3.alloc (.cells #[.string t.text.1, .string .empty, .int .i64 0] 70)) w3.heap.size 70 #[.string t.text.1, .string .empty, .int .i64 0]) := Bk.new _ _ _
      have hKX : w.heap.size + 2 < C ∧ w.heap.size + 1 < C ∧ w.heap.size < C := h3b.lt
      clear h3 t3 h3b HF
      generalize hX : w3.heap.size = X at *
      go_wp2_with fail
      refine (text_tk H4.out.b.tk).mono ?_
      rintro e w5 ⟨rfl, h5, t5⟩
      have h5b := H4.out.step h5 t5
      have x5 := X4.out.tn t5 (by simp; omega)
      have c5 : w5.cell? ⟨X, 1, none⟩ = some (.string .empty) := x5.cell 1
      have f5 : w5.frozen? ⟨X, 1, none⟩ = false := x5.frozen 1
      have t6 : Tn [X] w5 (w5.setCell ⟨X, 1, none⟩ (.string t.text.2.text.1)) := (Tn.refl _ _).setCell (.inl (by simp)) _
      have H6 : Hid (TkH w (w5.setCell ⟨X, 1, none⟩ (.string t.text.2.text.1)) (w.heap.size + 2) (w.heap.size + 1) w.heap.size t.text.2.text.2 w.heap.size C ts d v l) := h5b.other t6 hCX hoX
      have X6 : Hid (Bk (w5.setCell ⟨X, 1, none⟩ (.string t.text.2.text.1)) X 70 #[.string t.text.1, .string t.text.2.text.1, .int .i64 0]) := x5.set 1 _
      clear h5 t5 h5b x5 t6 H4 X4
      go_wp2_with fail
      refine (num_tk H6.out.b.tk).mono ?_
      rintro e w7 ⟨rfl, h7, t7⟩
      have h7b := H6.out.step h7 t7
      have x7 := X6.out.tn t7 (by simp; omega)
      have c7 : w7.cell? ⟨X, 2, none⟩ = some (.int .i64 0) := x7.cell 2
      have f7 : w7.frozen? ⟨X, 2, none⟩ = false := x7.frozen 2
      have c70 : w7.cell? ⟨X, 0, none⟩ = some (.string t.text.1) := x7.cell 0
      have c71 : w7.cell? ⟨X, 1, none⟩ = some (.string t.text.2.text.1) := x7.cell 1
      have t8 : Tn [X] w7 (w7.setCell ⟨X, 2, none⟩ (.int .i64 t.text.2.text.2.num.1)) := (Tn.refl _ _).setCell (.inl (by simp)) _
      have h8 := h7b.other t8 hCX hoX
      have h9 := h8.below (w' := (w7.setCell ⟨X, 2, none⟩ (.int .i64 t.text.2.text.2.num.1)).alloc (.cells #[.string t.text.1, .string t.text.2.text.1, .int .i64 t.text.2.text.2.num.1] 70)) ((Below.refl _ _).alloc (Nat.le_refl _) _)
      have H9 : Hid (TkH w ((w7.setCell ⟨X, 2, none⟩ (.int .i64 t.text.2.text.2.num.1)).alloc (.cells #[.string t.text.1, .string t.text.2.text.1, .int .i64 t.text.2.text.2.num.1] 70)) (w.heap.size + 2) (w.heap.size + 1) w.heap.size t.stamped.2 w.heap.size C ts d v l) := h9
      have B9 : Hid (Bk ((w7.setCell ⟨X, 2, none⟩ (.int .i64 t.text.2.text.2.num.1)).alloc (.cells #[.string t.text.1, .string t.text.2.text.1, .int .i64 t.text.2.text.2.num.1] 70)) (w7.setCell ⟨X, 2, none⟩ (.int .i64 t.text.2.text.2.num.1)).heap.size 70 t.stamped.1.cells.toArray) := Bk.new _ _ _
      have e81 : (w7.setCell ⟨X, 2, none⟩ (.int .i64 t.text.2.text.2.num.1)).cell? ⟨C, 1, none⟩ = some v := h8.b.b.cell 1
      have e71 : w7.cell? ⟨C, 1, none⟩ = some v := h7b.b.b.cell 1
      have hs7 : (w7.setCell ⟨X, 2, none⟩ (.int .i64 t.text.2.text.2.num.1)).heap.size = w7.heap.size := by simp [World.setCell]
      rw [hs7] at B9
      have hXC : ¬ (X = C) := by omega
      have hXC2 : ¬ (C = X) := by omega
      clear h7 t7 h7b x7 t8 h8 h9 H6 X6
      go_wp2_with (at_builtin; refine wpList_append_own_at (P := Try.prog) _ rfl _ _ 25 rfl (C + 1) 70 i0 _ 3 40 Try.underlying25 hi hz0 hz1 hz2 rfl (by decide) v l.length (l.map St.cells).flatten rfl H9.out.own ⟨w7.heap.size, 0, none⟩ 1 1 t.stamped.1.cells rfl rfl (fun j u hj => by rw [Addr.add_lit, Nat.zero_add, B9.out.cell j]; simpa using hj) (st_one _) (by unfold maxLen; omega) (by omega) (by have := H9.out.b.b.lt; omega) ?_; intro v10 w10 ho10 hg10 _ hv10; refine Hid.out ?_)
      obtain ⟨g10, k10, rfl⟩ := own_some ho10 (by omega)
      have b10 := H9.out.b.b.grown hg10 H9.out.ne
      have c10 : w10.cell? ⟨C, 1, none⟩ = some v := b10.cell 1
      have f10 : w10.frozen? ⟨C, 1, none⟩ = false := b10.frozen 1
      have h11 := H9.out.app hg10 (OwnS.snoc ho10)
      have H11 : Hid (TkH w (w10.setCell ⟨C, 1, none⟩ (.slice (some ⟨g10, 0, none⟩) (l.length + 1) k10)) (w.heap.size + 2) (w.heap.size + 1) w.heap.size t.stamped.2 w.heap.size C ts d (.slice (some ⟨g10, 0, none⟩) (l ++ [t.stamped.1]).length k10) (l ++ [t.stamped.1])) := by
        simpa [Hid] using h11
      have HQ6 : Hid _ := Rs.stampeds_snoc s2 t l k HQ.out
      have HL6 : Hid ((l ++ [t.stamped.1]).length = k + 1) := by have := HL.out; simp [Hid, this]
      clear ho10 hg10 hv10 b10 h11 H9 B9 e81 e71 hs7 c7 f7 c70 c71 c5 f5
      unfold Hid
      go_wp2
      go_roundw
      case rel => exact ⟨k + 1, _, _, _, by omega, by go_num, HL6, H11, HQ6⟩
      case measure => simp [intOf]; omega
    · have hli : ¬ ((k : Int) < (N : Int)) := by omega
      have hkn : k = N := by omega
      obtain ⟨pv, cv, rfl⟩ := own_form HF.out.own
      have HW : Hid (Rs.stampeds N s2 = (l, t)) := by
        have := HQ.out 0
        simp only [Nat.add_zero, Rs.stampeds, List.append_nil] at this
        rw [hkn] at this
        exact this
      have HT2 : Hid (Rc.takeCh xs = if (t.more.note (Rc.chE ts l)).e = 0 then (ts, d, l, 0) else (0, false, [], (t.more.note (Rc.chE ts l)).e)) := by
        unfold Hid
        rw [HT.out, HCW.out, HW.out]
      have HZ2 : Hid (∀ g ∈ l, -9223372036854775808 ≤ g.ts ∧ g.ts ≤ 9223372036854775807) := by
        have := HZZ.out
        rw [HCW.out, HW.out] at this
        exact this
      clear hkn HQ HW HT HCW HZZ
      go_wp2_with fail
      refine (ends_tk HF.out.b.tk).mono ?_
      rintro e w7 ⟨rfl, h7, t7⟩
      obtain ⟨z, hz⟩ : ∃ z, t.more = z := ⟨_, rfl⟩
      rw [hz] at h7 HT2 ⊢
      have b7 := HF.out.b.step h7 t7
      have HO7 : Hid (OwnS w7 (C + 1) (.slice pv l.length cv) l) := HF.out.own.tn t7 (by have := HF.out.lt; simp; omega)
      have HB7 : Hid (TkB [] w w7 (w.heap.size + 2) (w.heap.size + 1) w.heap.size z w.heap.size C 27 #[.int .i64 0, .slice none 0 0, .bool false] #[.int .i64 ts, .slice pv l.length cv, .bool d]) := b7
      have m0 : w7.cell? ⟨C, 0, none⟩ = some (.int .i64 ts) := b7.b.cell 0
      have m1 : w7.cell? ⟨C, 1, none⟩ = some (.slice pv l.length cv) := b7.b.cell 1
      have m2 : w7.cell? ⟨C, 2, none⟩ = some (.bool d) := b7.b.cell 2
      have hCA : w.heap.size + 3 ≤ C := hs1
      clear h7 t7 b7 hz HF
      by_cases hze : z.e = 0
      · have hzb : (z.e == 0) = true := by simpa using hze
        have HE : Hid ((z.note (Rc.chE ts l)).e = Rc.chE ts l) := by unfold Hid Rs.note; rw [if_pos hze]
        rw [HE.out] at HT2
        go_wp2_with fail
        refine (rcheckChunk_any ts pv l.length cv l d _ (HO7.out.ins HZ2.out)).mono ?_
        rintro e w8 ⟨rfl, hb8⟩
        have b8 := HB7.out.below hb8
        have HO8 : Hid (OwnS w8 (C + 1) (.slice pv l.length cv) l) := HO7.out.below hb8
        have HB8 : Hid (TkB [] w w8 (w.heap.size + 2) (w.heap.size + 1) w.heap.size z w.heap.size C 27 #[.int .i64 0, .slice none 0 0, .bool false] #[.int .i64 ts, .slice pv l.length cv, .bool d]) := b8
        have m0 : w8.cell? ⟨C, 0, none⟩ = some (.int .i64 ts) := b8.b.cell 0
        have m1 : w8.cell? ⟨C, 1, none⟩ = some (.slice pv l.length cv) := b8.b.cell 1
        have m2 : w8.cell? ⟨C, 2, none⟩ = some (.bool d) := b8.b.cell 2
        have k0 : w8.cell? ⟨w.heap.size, 0, none⟩ = some (.int .i64 0) := b8.a.cell 0
        have k1 : w8.cell? ⟨w.heap.size, 1, none⟩ = some (.slice none 0 0) := b8.a.cell 1
        have f0 : w8.frozen? ⟨w.heap.size, 0, none⟩ = false := b8.a.frozen 0
        have f1 : w8.frozen? ⟨w.heap.size, 1, none⟩ = false := b8.a.frozen 1
        have k2 : w8.cell? ⟨w.heap.size, 2, none⟩ = some (.bool false) := b8.a.cell 2
        have f2 : w8.frozen? ⟨w.heap.size, 2, none⟩ = false := b8.a.frozen 2
        clear hb8 b8 HO7 HB7 hze
        by_cases hc : Rc.chE ts l = 0
        · have hcb : (Rc.chE ts l != 0) = false := by simpa using hc
          rw [if_pos hc] at HT2
          clear hc
          go_wp2
          try simp only [Exit.inBlock, Exit.then]
          have hk := (((HB8.out.setA 0 (.int .i64 ts)).setA 1 (.slice pv l.length cv)).setA 2 (.bool d))
          refine bodyPost_ret (results_two (cs := [.int .i64 ts, .slice pv l.length cv, .bool d]) rfl rfl ch_agg ch_size rfl hk.a) rfl ?_
          rw [HT2.out]
          refine ⟨_, rfl, ?_, hk.tn.below (Nat.le_refl _) (by simp)⟩
          refine OwnS.mono (base := C + 1) (HO8.out.keptN fun j hj => ?_) (by omega)
          have h5 := (HO8.out.lt j hj).1
          rw [Below.heap_setCell _ ⟨w.heap.size, 2, none⟩ _ j (by show j ≠ w.heap.size; omega), Below.heap_setCell _ ⟨w.heap.size, 1, none⟩ _ j (by show j ≠ w.heap.size; omega), Below.heap_setCell _ ⟨w.heap.size, 0, none⟩ _ j (by show j ≠ w.heap.size; omega)]
        · have hcb : (Rc.chE ts l != 0) = true := by simpa using hc
          rw [if_neg hc] at HT2
          clear hc
          go_wp2
          try simp only [Exit.inBlock, Exit.then]
          have hk := (((HB8.out.setA 0 (.int .i64 0)).setA 1 (.slice none 0 0)).setA 2 (.bool false))
          refine bodyPost_ret (results_two (cs := [.int .i64 0, .slice none 0 0, .bool false]) rfl rfl ch_agg ch_size rfl hk.a) rfl ?_
          rw [HT2.out]
          exact ⟨_, rfl, OwnS.nil _ _, hk.tn.below (Nat.le_refl _) (by simp)⟩
      · have hzb : (z.e == 0) = false := by simpa using hze
        have hzb2 : (z.e != 0) = true := by simpa using hze
        have HE : Hid ((z.note (Rc.chE ts l)).e = z.e) := by unfold Hid Rs.note; rw [if_neg hze]
        rw [HE.out, if_neg hze] at HT2
        have k0 : w7.cell? ⟨w.heap.size, 0, none⟩ = some (.int .i64 0) := HB7.out.a.cell 0
        have k1 : w7.cell? ⟨w.heap.size, 1, none⟩ = some (.slice none 0 0) := HB7.out.a.cell 1
        have f0 : w7.frozen? ⟨w.heap.size, 0, none⟩ = false := HB7.out.a.frozen 0
        have f1 : w7.frozen? ⟨w.heap.size, 1, none⟩ = false := HB7.out.a.frozen 1
        have k2 : w7.cell? ⟨w.heap.size, 2, none⟩ = some (.bool false) := HB7.out.a.cell 2
        have f2 : w7.frozen? ⟨w.heap.size, 2, none⟩ = false := HB7.out.a.frozen 2
        clear hze
        go_wp2
        try simp only [Exit.inBlock, Exit.then]
        have hk := (((HB7.out.setA 0 (.int .i64 0)).setA 1 (.slice none 0 0)).setA 2 (.bool false))
        refine bodyPost_ret (results_two (cs := [.int .i64 0, .slice none 0 0, .bool false]) rfl rfl ch_agg ch_size rfl hk.a) rfl ?_
        rw [HT2.out]
        exact ⟨_, rfl, OwnS.nil _ _, hk.tn.below (Nat.le_refl _) (by simp)⟩

end Go.Proofs.Ytlfgclmgpbaenaa

namespace Go.Proofs.Ytlfgclmgpbaenaa
open Go.RowKit
set_option linter.unusedVariables false
set_option maxRecDepth 100000

set_option maxHeartbeats 8000000 in
theorem rtakeMaster_any (p : Option Addr) (len cap : Nat) (xs : List Int) (w : World) (hin : InB 9223372036854775807 w p len cap xs) (hl47 : xs.length ≤ 140737488355328) :
    Calls Try.prog 34 #[.slice p len cap] w fun x w' => x = .returned (.tuple #[.agg (Rc.takeMs xs).1.cells.toArray, .int .i64 (Rc.takeMs xs).2]) ∧ Below w.heap.size w w' := by
  obtain ⟨tk0, ba0, tn0⟩ := tk_new w 31 #[.int .i64 0, .int .i64 0, .int .i64 0, .int .i64 0, .int .i64 0, .int .i64 0, .int .i64 0, .int .i64 0] p len cap xs hin hl47
  have H0 : Hid _ := tk0
  have HA0 : Hid _ := ba0
  have HT0 : Hid _ := tn0
  have HT : Hid (Rc.takeMs xs = if ((Rs.mk xs 0).master.2.more.note (Rc.msE (Rs.mk xs 0).master.1)).e = 0 then ((Rs.mk xs 0).master.1, 0) else (⟨0, 0, 0, 0, 0, 0, 0, 0⟩, ((Rs.mk xs 0).master.2.more.note (Rc.msE (Rs.mk xs 0).master.1)).e)) := rfl
  obtain ⟨CC, hCC⟩ : ∃ C, (Rs.mk xs 0).master = C := ⟨_, rfl⟩
  rw [hCC] at HT
  obtain ⟨s, hs⟩ : ∃ s, Rs.mk xs 0 = s := ⟨_, rfl⟩
  rw [hs] at hCC H0
  obtain ⟨n0, s1, hn0⟩ : ∃ n t, s.num = (n, t) := ⟨_, _, rfl⟩
  obtain ⟨n1, s2, hn1⟩ : ∃ n t, s1.num = (n, t) := ⟨_, _, rfl⟩
  obtain ⟨n2, s3, hn2⟩ : ∃ n t, s2.num = (n, t) := ⟨_, _, rfl⟩
  obtain ⟨n3, s4, hn3⟩ : ∃ n t, s3.num = (n, t) := ⟨_, _, rfl⟩
  obtain ⟨n4, s5, hn4⟩ : ∃ n t, s4.num = (n, t) := ⟨_, _, rfl⟩
  obtain ⟨n5, s6, hn5⟩ : ∃ n t, s5.num = (n, t) := ⟨_, _, rfl⟩
  obtain ⟨n6, s7, hn6⟩ : ∃ n t, s6.num = (n, t) := ⟨_, _, rfl⟩
  obtain ⟨n7, s8, hn7⟩ : ∃ n t, s7.num = (n, t) := ⟨_, _, rfl⟩
  have HMM : Hid (CC = (⟨n0, n1, n2, n3, n4, n5, n6, n7⟩, s8)) := by
    unfold Hid
    rw [← hCC]
    unfold Rs.master
    simp only [hn0, hn1, hn2, hn3, hn4, hn5, hn6, hn7]
  have HN0 : Hid _ := hn0
  have HN1 : Hid _ := hn1
  have HN2 : Hid _ := hn2
  have HN3 : Hid _ := hn3
  have HN4 : Hid _ := hn4
  have HN5 : Hid _ := hn5
  have HN6 : Hid _ := hn6
  have HN7 : Hid _ := hn7
  rw [HMM.out] at HT
  simp only at HT
  clear hn0 hn1 hn2 hn3 hn4 hn5 hn6 hn7 hCC HMM hs tk0 ba0 tn0 hin
  go_enter Try.func34, Try.ntmps34
  go_wp2_with fail
  refine (num_tk H0.out).mono ?_
  rintro e w1 ⟨rfl, h1, t1⟩
  rw [HN0.out] at h1 ⊢
  simp only at h1 ⊢
  have hs1 : w.heap.size + 3 ≤ w1.heap.size := by have := t1.size; simp at this; omega
  have H1 : Hid (TkB [] w (w1.alloc (.cells #[.int .i64 n0, .int .i64 0, .int .i64 0, .int .i64 0, .int .i64 0, .int .i64 0, .int .i64 0, .int .i64 0] 31)) (w.heap.size + 2) (w.heap.size + 1) w.heap.size s1 w.heap.size w1.heap.size 31 #[.int .i64 0, .int .i64 0, .int .i64 0, .int .i64 0, .int .i64 0, .int .i64 0, .int .i64 0, .int .i64 0] #[.int .i64 n0, .int .i64 0, .int .i64 0, .int .i64 0, .int .i64 0, .int .i64 0, .int .i64 0, .int .i64 0]) :=
    ⟨h1.below ((Below.refl _ _).alloc (Nat.le_refl _) _), (Bk.tn HA0.out t1 (by simp)).alloc _, Bk.new _ _ _, (HT0.out.trans t1 (by simp)).alloc _, .inr (by omega), .inr (by omega), .inr (Nat.le_refl _), .inr (by omega), ⟨by omega, by omega, by omega, by omega, by omega⟩, ⟨Nat.le_refl _, by omega⟩⟩
  clear h1 t1 H0 HA0 HT0
  generalize hC : w1.heap.size = C at *
  go_wp2_with fail
  refine (numT H1.out).mono ?_
  rintro e w2 ⟨rfl, h2⟩
  rw [HN1.out] at h2 ⊢
  simp only at h2 ⊢
  go_wp2_with fail
  refine (whole_any n1 _).mono ?_
  rintro e w2b ⟨rfl, hwb⟩
  subst hwb
  have H2 : Hid (TkB [] w w2b (w.heap.size + 2) (w.heap.size + 1) w.heap.size s2 w.heap.size C 31 #[.int .i64 0, .int .i64 0, .int .i64 0, .int .i64 0, .int .i64 0, .int .i64 0, .int .i64 0, .int .i64 0] #[.int .i64 n0, .int .i64 0, .int .i64 0, .int .i64 0, .int .i64 0, .int .i64 0, .int .i64 0, .int .i64 0]) := h2
  have c2 : w2b.cell? ⟨C, 1, none⟩ = some (.int .i64 0) := h2.b.cell 1
  have f2 : w2b.frozen? ⟨C, 1, none⟩ = false := h2.b.frozen 1
  clear h2 H1
  go_wp2_with fail
  refine (numT (H2.out.set 1 _)).mono ?_
  rintro e w3 ⟨rfl, h3⟩
  rw [HN2.out] at h3 ⊢
  simp only at h3 ⊢
  go_wp2_with fail
  refine (whole_any n2 _).mono ?_
  rintro e w3b ⟨rfl, hwb⟩
  subst hwb
  have H3 : Hid (TkB [] w w3b (w.heap.size + 2) (w.heap.size + 1) w.heap.size s3 w.heap.size C 31 #[.int .i64 0, .int .i64 0, .int .i64 0, .int .i64 0, .int .i64 0, .int .i64 0, .int .i64 0, .int .i64 0] #[.int .i64 n0, .int .i64 n1, .int .i64 0, .int .i64 0, .int .i64 0, .int .i64 0, .int .i64 0, .int .i64 0]) := h3
  have c3 : w3b.cell? ⟨C, 2, none⟩ = some (.int .i64 0) := h3.b.cell 2
  have f3 : w3b.frozen? ⟨C, 2, none⟩ = false := h3.b.frozen 2
  clear h3 H2 c2 f2
  go_wp2_with fail
  refine (numT (H3.out.set 2 _)).mono ?_
  rintro e w4 ⟨rfl, h4⟩
  rw [HN3.out] at h4 ⊢
  simp only at h4 ⊢
  have H4 : Hid (TkB [] w w4 (w.heap.size + 2) (w.heap.size + 1) w.heap.size s4 w.heap.size C 31 #[.int .i64 0, .int .i64 0, .int .i64 0, .int .i64 0, .int .i64 0, .int .i64 0, .int .i64 0, .int .i64 0] #[.int .i64 n0, .int .i64 n1, .int .i64 n2, .int .i64 0, .int .i64 0, .int .i64 0, .int .i64 0, .int .i64 0]) := h4
  have c4 : w4.cell? ⟨C, 3, none⟩ = some (.int .i64 0) := h4.b.cell 3
  have f4 : w4.frozen? ⟨C, 3, none⟩ = false := h4.b.frozen 3
  clear h4 H3 c3 f3
  go_wp2_with fail
  refine (numT (H4.out.set 3 _)).mono ?_
  rintro e w5 ⟨rfl, h5⟩
  rw [HN4.out] at h5 ⊢
  simp only at h5 ⊢
  have H5 : Hid (TkB [] w w5 (w.heap.size + 2) (w.heap.size + 1) w.heap.size s5 w.heap.size C 31 #[.int .i64 0, .int .i64 0, .int .i64 0, .int .i64 0, .int .i64 0, .int .i64 0, .int .i64 0, .int .i64 0] #[.int .i64 n0, .int .i64 n1, .int .i64 n2, .int .i64 n3, .int .i64 0, .int .i64 0, .int .i64 0, .int .i64 0]) := h5
  have c5 : w5.cell? ⟨C, 4, none⟩ = some (.int .i64 0) := h5.b.cell 4
  have f5 : w5.frozen? ⟨C, 4, none⟩ = false := h5.b.frozen 4
  clear h5 H4 c4 f4
  go_wp2_with fail
  refine (numT (H5.out.set 4 _)).mono ?_
  rintro e w6 ⟨rfl, h6⟩
  rw [HN5.out] at h6 ⊢
  simp only at h6 ⊢
  go_wp2_with fail
  refine (whole_any n5 _).mono ?_
  rintro e w6b ⟨rfl, hwb⟩
  subst hwb
  have H6 : Hid (TkB [] w w6b (w.heap.size + 2) (w.heap.size + 1) w.heap.size s6 w.heap.size C 31 #[.int .i64 0, .int .i64 0, .int .i64 0, .int .i64 0, .int .i64 0, .int .i64 0, .int .i64 0, .int .i64 0] #[.int .i64 n0, .int .i64 n1, .int .i64 n2, .int .i64 n3, .int .i64 n4, .int .i64 0, .int .i64 0, .int .i64 0]) := h6
  have c6 : w6b.cell? ⟨C, 5, none⟩ = some (.int .i64 0) := h6.b.cell 5
  have f6 : w6b.frozen? ⟨C, 5, none⟩ = false := h6.b.frozen 5
  clear h6 H5 c5 f5
  go_wp2_with fail
  refine (numT (H6.out.set 5 _)).mono ?_
  rintro e w7 ⟨rfl, h7⟩
  rw [HN6.out] at h7 ⊢
  simp only at h7 ⊢
  have H7 : Hid (TkB [] w w7 (w.heap.size + 2) (w.heap.size + 1) w.heap.size s7 w.heap.size C 31 #[.int .i64 0, .int .i64 0, .int .i64 0, .int .i64 0, .int .i64 0, .int .i64 0, .int .i64 0, .int .i64 0] #[.int .i64 n0, .int .i64 n1, .int .i64 n2, .int .i64 n3, .int .i64 n4, .int .i64 n5, .int .i64 0, .int .i64 0]) := h7
  have c7 : w7.cell? ⟨C, 6, none⟩ = some (.int .i64 0) := h7.b.cell 6
  have f7 : w7.frozen? ⟨C, 6, none⟩ = false := h7.b.frozen 6
  clear h7 H6 c6 f6
  go_wp2_with fail
  refine (numT (H7.out.set 6 _)).mono ?_
  rintro e w8 ⟨rfl, h8⟩
  rw [HN7.out] at h8 ⊢
  simp only at h8 ⊢
  have H8 : Hid (TkB [] w w8 (w.heap.size + 2) (w.heap.size + 1) w.heap.size s8 w.heap.size C 31 #[.int .i64 0, .int .i64 0, .int .i64 0, .int .i64 0, .int .i64 0, .int .i64 0, .int .i64 0, .int .i64 0] #[.int .i64 n0, .int .i64 n1, .int .i64 n2, .int .i64 n3, .int .i64 n4, .int .i64 n5, .int .i64 n6, .int .i64 0]) := h8
  have c8 : w8.cell? ⟨C, 7, none⟩ = some (.int .i64 0) := h8.b.cell 7
  have f8 : w8.frozen? ⟨C, 7, none⟩ = false := h8.b.frozen 7
  clear h8 H7 c7 f7
  have H9 : Hid (TkB [] w (w8.setCell ⟨C, 7, none⟩ (.int .i64 n7)) (w.heap.size + 2) (w.heap.size + 1) w.heap.size s8 w.heap.size C 31 #[.int .i64 0, .int .i64 0, .int .i64 0, .int .i64 0, .int .i64 0, .int .i64 0, .int .i64 0, .int .i64 0] #[.int .i64 n0, .int .i64 n1, .int .i64 n2, .int .i64 n3, .int .i64 n4, .int .i64 n5, .int .i64 n6, .int .i64 n7]) := H8.out.set 7 _
  go_wp2_with fail
  refine (ends_tk H9.out.tk).mono ?_
  rintro e wa ⟨rfl, h7, t7⟩
  obtain ⟨z, hz⟩ : ∃ z, s8.more = z := ⟨_, rfl⟩
  rw [hz] at h7 HT ⊢
  have ba := H9.out.step h7 t7
  have HBA : Hid (TkB [] w wa (w.heap.size + 2) (w.heap.size + 1) w.heap.size z w.heap.size C 31 #[.int .i64 0, .int .i64 0, .int .i64 0, .int .i64 0, .int .i64 0, .int .i64 0, .int .i64 0, .int .i64 0] #[.int .i64 n0, .int .i64 n1, .int .i64 n2, .int .i64 n3, .int .i64 n4, .int .i64 n5, .int .i64 n6, .int .i64 n7]) := ba
  have m0 : wa.cell? ⟨C, 0, none⟩ = some (.int .i64 n0) := ba.b.cell 0
  have m1 : wa.cell? ⟨C, 1, none⟩ = some (.int .i64 n1) := ba.b.cell 1
  have m2 : wa.cell? ⟨C, 2, none⟩ = some (.int .i64 n2) := ba.b.cell 2
  have m3 : wa.cell? ⟨C, 3, none⟩ = some (.int .i64 n3) := ba.b.cell 3
  have m4 : wa.cell? ⟨C, 4, none⟩ = some (.int .i64 n4) := ba.b.cell 4
  have m5 : wa.cell? ⟨C, 5, none⟩ = some (.int .i64 n5) := ba.b.cell 5
  have m6 : wa.cell? ⟨C, 6, none⟩ = some (.int .i64 n6) := ba.b.cell 6
  have m7 : wa.cell? ⟨C, 7, none⟩ = some (.int .i64 n7) := ba.b.cell 7
  have hCA : w.heap.size + 3 ≤ C := hs1
  clear h7 t7 ba hz H9 H8 c8 f8
  by_cases hze : z.e = 0
  · have hzb : (z.e == 0) = true := by simpa using hze
    have HE : Hid ((z.note (Rc.msE ⟨n0, n1, n2, n3, n4, n5, n6, n7⟩)).e = Rc.msE ⟨n0, n1, n2, n3, n4, n5, n6, n7⟩) := by unfold Hid Rs.note; rw [if_pos hze]
    rw [HE.out] at HT
    go_wp2_with fail
    refine (rcheckMaster_any ⟨n0, n1, n2, n3, n4, n5, n6, n7⟩ _).mono ?_
    rintro e wb ⟨rfl, hb8⟩
    have b8 := HBA.out.below hb8
    have HB8 : Hid (TkB [] w wb (w.heap.size + 2) (w.heap.size + 1) w.heap.size z w.heap.size C 31 #[.int .i64 0, .int .i64 0, .int .i64 0, .int .i64 0, .int .i64 0, .int .i64 0, .int .i64 0, .int .i64 0] #[.int .i64 n0, .int .i64 n1, .int .i64 n2, .int .i64 n3, .int .i64 n4, .int .i64 n5, .int .i64 n6, .int .i64 n7]) := b8
    clear m0 m1 m2 m3 m4 m5 m6 m7
    have m0 : wb.cell? ⟨C, 0, none⟩ = some (.int .i64 n0) := b8.b.cell 0
    have m1 : wb.cell? ⟨C, 1, none⟩ = some (.int .i64 n1) := b8.b.cell 1
    have m2 : wb.cell? ⟨C, 2, none⟩ = some (.int .i64 n2) := b8.b.cell 2
    have m3 : wb.cell? ⟨C, 3, none⟩ = some (.int .i64 n3) := b8.b.cell 3
    have m4 : wb.cell? ⟨C, 4, none⟩ = some (.int .i64 n4) := b8.b.cell 4
    have m5 : wb.cell? ⟨C, 5, none⟩ = some (.int .i64 n5) := b8.b.cell 5
    have m6 : wb.cell? ⟨C, 6, none⟩ = some (.int .i64 n6) := b8.b.cell 6
    have m7 : wb.cell? ⟨C, 7, none⟩ = some (.int .i64 n7) := b8.b.cell 7
    have k0 : wb.cell? ⟨w.heap.size, 0, none⟩ = some (.int .i64 0) := b8.a.cell 0
    have f0 : wb.frozen? ⟨w.heap.size, 0, none⟩ = false := b8.a.frozen 0
    have k1 : wb.cell? ⟨w.heap.size, 1, none⟩ = some (.int .i64 0) := b8.a.cell 1
    have f1 : wb.frozen? ⟨w.heap.size, 1, none⟩ = false := b8.a.frozen 1
    have k2 : wb.cell? ⟨w.heap.size, 2, none⟩ = some (.int .i64 0) := b8.a.cell 2
    have f2 : wb.frozen? ⟨w.heap.size, 2, none⟩ = false := b8.a.frozen 2
    have k3 : wb.cell? ⟨w.heap.size, 3, none⟩ = some (.int .i64 0) := b8.a.cell 3
    have f3 : wb.frozen? ⟨w.heap.size, 3, none⟩ = false := b8.a.frozen 3
    have k4 : wb.cell? ⟨w.heap.size, 4, none⟩ = some (.int .i64 0) := b8.a.cell 4
    have f4 : wb.frozen? ⟨w.heap.size, 4, none⟩ = false := b8.a.frozen 4
    have k5 : wb.cell? ⟨w.heap.size, 5, none⟩ = some (.int .i64 0) := b8.a.cell 5
    have f5 : wb.frozen? ⟨w.heap.size, 5, none⟩ = false := b8.a.frozen 5
    have k6 : wb.cell? ⟨w.heap.size, 6, none⟩ = some (.int .i64 0) := b8.a.cell 6
    have f6 : wb.frozen? ⟨w.heap.size, 6, none⟩ = false := b8.a.frozen 6
    have k7 : wb.cell? ⟨w.heap.size, 7, none⟩ = some (.int .i64 0) := b8.a.cell 7
    have f7 : wb.frozen? ⟨w.heap.size, 7, none⟩ = false := b8.a.frozen 7
    clear hb8 b8 HBA hze
    by_cases hc : Rc.msE ⟨n0, n1, n2, n3, n4, n5, n6, n7⟩ = 0
    · have hcb : (Rc.msE ⟨n0, n1, n2, n3, n4, n5, n6, n7⟩ != 0) = false := by simpa using hc
      rw [if_pos hc] at HT
      clear hc
      go_wp2
      try simp only [Exit.inBlock, Exit.then]
      have hk := ((((((((HB8.out.setA 0 (.int .i64 n0)).setA 1 (.int .i64 n1)).setA 2 (.int .i64 n2)).setA 3 (.int .i64 n3)).setA 4 (.int .i64 n4)).setA 5 (.int .i64 n5)).setA 6 (.int .i64 n6)).setA 7 (.int .i64 n7))
      refine bodyPost_ret (results_two (cs := [.int .i64 n0, .int .i64 n1, .int .i64 n2, .int .i64 n3, .int .i64 n4, .int .i64 n5, .int .i64 n6, .int .i64 n7]) rfl rfl ms_agg ms_size rfl hk.a) rfl ?_
      rw [HT.out]
      exact ⟨rfl, hk.tn.below (Nat.le_refl _) (by simp)⟩
    · have hcb : (Rc.msE ⟨n0, n1, n2, n3, n4, n5, n6, n7⟩ != 0) = true := by simpa using hc
      rw [if_neg hc] at HT
      clear hc
      go_wp2
      try simp only [Exit.inBlock, Exit.then]
      have hk := ((((((((HB8.out.setA 0 (.int .i64 0)).setA 1 (.int .i64 0)).setA 2 (.int .i64 0)).setA 3 (.int .i64 0)).setA 4 (.int .i64 0)).setA 5 (.int .i64 0)).setA 6 (.int .i64 0)).setA 7 (.int .i64 0))
      refine bodyPost_ret (results_two (cs := [.int .i64 0, .int .i64 0, .int .i64 0, .int .i64 0, .int .i64 0, .int .i64 0, .int .i64 0, .int .i64 0]) rfl rfl ms_agg ms_size rfl hk.a) rfl ?_
      rw [HT.out]
      exact ⟨rfl, hk.tn.below (Nat.le_refl _) (by simp)⟩
  · have hzb : (z.e == 0) = false := by simpa using hze
    have hzb2 : (z.e != 0) = true := by simpa using hze
    have HE : Hid ((z.note (Rc.msE ⟨n0, n1, n2, n3, n4, n5, n6, n7⟩)).e = z.e) := by unfold Hid Rs.note; rw [if_neg hze]
    rw [HE.out, if_neg hze] at HT
    have k0 : wa.cell? ⟨w.heap.size, 0, none⟩ = some (.int .i64 0) := HBA.out.a.cell 0
    have f0 : wa.frozen? ⟨w.heap.size, 0, none⟩ = false := HBA.out.a.frozen 0
    have k1 : wa.cell? ⟨w.heap.size, 1, none⟩ = some (.int .i64 0) := HBA.out.a.cell 1
    have f1 : wa.frozen? ⟨w.heap.size, 1, none⟩ = false := HBA.out.a.frozen 1
    have k2 : wa.cell? ⟨w.heap.size, 2, none⟩ = some (.int .i64 0) := HBA.out.a.cell 2
    have f2 : wa.frozen? ⟨w.heap.size, 2, none⟩ = false := HBA.out.a.frozen 2
    have k3 : wa.cell? ⟨w.heap.size, 3, none⟩ = some (.int .i64 0) := HBA.out.a.cell 3
    have f3 : wa.frozen? ⟨w.heap.size, 3, none⟩ = false := HBA.out.a.frozen 3
    have k4 : wa.cell? ⟨w.heap.size, 4, none⟩ = some (.int .i64 0) := HBA.out.a.cell 4
    have f4 : wa.frozen? ⟨w.heap.size, 4, none⟩ = false := HBA.out.a.frozen 4
    have k5 : wa.cell? ⟨w.heap.size, 5, none⟩ = some (.int .i64 0) := HBA.out.a.cell 5
    have f5 : wa.frozen? ⟨w.heap.size, 5, none⟩ = false := HBA.out.a.frozen 5
    have k6 : wa.cell? ⟨w.heap.size, 6, none⟩ = some (.int .i64 0) := HBA.out.a.cell 6
    have f6 : wa.frozen? ⟨w.heap.size, 6, none⟩ = false := HBA.out.a.frozen 6
    have k7 : wa.cell? ⟨w.heap.size, 7, none⟩ = some (.int .i64 0) := HBA.out.a.cell 7
    have f7 : wa.frozen? ⟨w.heap.size, 7, none⟩ = false := HBA.out.a.frozen 7
    clear hze
    go_wp2
    try simp only [Exit.inBlock, Exit.then]
    have hk := ((((((((HBA.out.setA 0 (.int .i64 0)).setA 1 (.int .i64 0)).setA 2 (.int .i64 0)).setA 3 (.int .i64 0)).setA 4 (.int .i64 0)).setA 5 (.int .i64 0)).setA 6 (.int .i64 0)).setA 7 (.int .i64 0))
    refine bodyPost_ret (results_two (cs := [.int .i64 0, .int .i64 0, .int .i64 0, .int .i64 0, .int .i64 0, .int .i64 0, .int .i64 0, .int .i64 0]) rfl rfl ms_agg ms_size rfl hk.a) rfl ?_
    rw [HT.out]
    exact ⟨rfl, hk.tn.below (Nat.le_refl _) (by simp)⟩

end Go.Proofs.Ytlfgclmgpbaenaa

namespace Go.Proofs.Ytlfgclmgpbaenaa
open Go.RowKit
set_option linter.unusedVariables false
set_option maxRecDepth 100000

set_option maxHeartbeats 2000000 in
theorem equalS_any (p q : Option Addr) (n m c d : Nat) (l l' : List St) (w : World) (h1 : InS w p n c l) (h2 : InS w q m d l') :
    Calls Try.prog 68 #[.slice p n c, .slice q m d] w fun e w' => Told w w' e (l = l') := by
  have HI : Hid (InS w p n c l) := h1
  have HJ : Hid (InS w q m d l') := h2
  have hnc := h1.le
  have hcr := h1.room
  clear h1 h2
  by_cases hnm : n = m
  · subst hnm
    go_enter Try.func68, Try.ntmps68
    go_wp2_with fail
    go_loopw [13] (fun i wr => ∃ k : Nat, k ≤ n ∧ i = .int .i64 k ∧ Hid (Below w.heap.size w wr) ∧ Hid (∀ j, j < k → l[j]? = l'[j]?)) (fun i _ => n - (intOf i).toNat)
    case atStart => exact ⟨0, Nat.zero_le _, rfl, Below.refl _ _, fun j hj => absurd hj (Nat.not_lt_zero j)⟩
    case round =>
      obtain ⟨k, hk, rfl, HB, HQ⟩ := hrel
      by_cases hlt : k < n
      · have hli : (k : Int) < (n : Int) := by omega
        obtain ⟨b1, o1, g1, rfl, hg1, -, c0, c1, c2⟩ := (HI.out.up HB.out).at hlt
        obtain ⟨b2, o2, g2, rfl, hg2, -, d0, d1, d2⟩ := (HJ.out.up HB.out).at hlt
        by_cases he : g1 = g2
        · subst he
          have HN : Hid (∀ j, j < k + 1 → l[j]? = l'[j]?) := by
            intro j hj
            by_cases hjk : j = k
            · subst hjk
              rw [hg1, hg2]
            · exact HQ.out j (by omega)
          clear hg1 hg2
          go_wp2_with fail
          go_quiet (fail)
          have HB1 : Hid (Below w.heap.size w (wr.drewN nq)) := below_drewN HB.out nq
          clear c0 c1 c2 d0 d1 d2
          generalize wr.drewN nq = w3 at *
          go_wp2
          go_roundw
          case rel => exact ⟨k + 1, by omega, by go_num, HB1, HN⟩
          case measure => simp [intOf]; omega
        · have HNE : Hid (l ≠ l') := by
            intro e
            rw [e, hg2] at hg1
            exact he (by simpa using hg1.symm)
          clear hg1 hg2
          rcases Rc.st_parts he with h3 | ⟨h3, h4⟩ | ⟨h3, h4, h5⟩
          all_goals
            clear he
            go_wp2_with fail
            go_quiet (fail)
            have HB1 : Hid (Below w.heap.size w (wr.drewN nq)) := below_drewN HB.out nq
            clear c0 c1 c2 d0 d1 d2
            generalize wr.drewN nq = w3 at *
            go_wp2
            go_ret
            exact ⟨false, rfl, ⟨(fun h => by cases h), fun h => absurd h HNE.out⟩, HB1.out⟩
      · have hli : ¬ ((k : Int) < (n : Int)) := by omega
        have HE : Hid (l = l') := Rc.all_eq HI.out.lenq HJ.out.lenq (fun j hj => HQ.out j (by omega))
        go_wp2
        go_ret
        exact ⟨true, rfl, ⟨fun _ => HE.out, fun _ => rfl⟩, HB.out⟩
  · have hne : ((n : Int) != (m : Int)) = true := by simp; omega
    have HNE : Hid (l ≠ l') := by
      intro e
      have a := HI.out.lenq
      have b := HJ.out.lenq
      rw [e] at a
      omega
    go_enter Try.func68, Try.ntmps68
    go_wp2
    go_ret
    exact ⟨false, rfl, ⟨(fun h => by cases h), fun h => absurd h HNE.out⟩, Below.refl _ _⟩

set_option maxHeartbeats 1000000 in
theorem sameChunk_any (ts ts' : Int) (e1 e2 : Bool) (p q : Option Addr) (n m c d : Nat) (l l' : List St) (w : World) (h1 : InS w p n c l) (h2 : InS w q m d l') :
    Calls Try.prog 43 #[.agg #[.int .i64 ts, .slice p n c, .bool e1], .agg #[.int .i64 ts', .slice q m d, .bool e2]] w fun e w' => Told w w' e (ts = ts' ∧ e1 = e2 ∧ l = l') := by
  have HB : Hid (Below w.heap.size w ((w.alloc (.cells #[.int .i64 ts, .slice p n c, .bool e1] 27)).alloc (.cells #[.int .i64 ts', .slice q m d, .bool e2] 27))) := ((Below.refl _ _).alloc (Nat.le_refl _) _).alloc (by simp) _
  have HI : Hid (InS ((w.alloc (.cells #[.int .i64 ts, .slice p n c, .bool e1] 27)).alloc (.cells #[.int .i64 ts', .slice q m d, .bool e2] 27)) p n c l) := h1.up HB.out
  have HJ : Hid (InS ((w.alloc (.cells #[.int .i64 ts, .slice p n c, .bool e1] 27)).alloc (.cells #[.int .i64 ts', .slice q m d, .bool e2] 27)) q m d l') := h2.up HB.out
  clear h1 h2
  by_cases ht : ts = ts'
  · subst ht
    by_cases hd : e1 = e2
    · subst hd
      go_enter Try.func43, Try.ntmps43
      go_wp2_with fail
      refine (equalS_any p q n m c d l l' _ HI.out HJ.out).mono ?_
      rintro e w1 ⟨b, rfl, hb, hb1⟩
      have HQ : Hid (b = true ↔ l = l') := hb
      have HB1 : Hid (Below w.heap.size w w1) := HB.out.trans (hb1.mono HB.out.size)
      clear hb hb1 HI HJ
      go_wp2
      go_ret
      exact ⟨b, rfl, ⟨fun h => ⟨by trivial, by trivial, HQ.out.1 h⟩, fun h => HQ.out.2 h.2.2⟩, HB1.out⟩
    · have hne : (e1 == e2) = false := by simpa using hd
      have HT : Hid (¬ e1 = e2) := hd
      clear hd
      go_enter Try.func43, Try.ntmps43
      go_wp2
      all_goals go_ret
      all_goals exact ⟨false, by simp_all, ⟨(fun h => by cases h), fun h => absurd h.2.1 HT.out⟩, HB.out⟩
  · have hne : (ts == ts') = false := by simpa using ht
    have HT : Hid (¬ ts = ts') := ht
    clear ht
    go_enter Try.func43, Try.ntmps43
    go_wp2
    go_ret
    exact ⟨false, rfl, ⟨(fun h => by cases h), fun h => absurd h.1 HT.out⟩, HB.out⟩

end Go.Proofs.Ytlfgclmgpbaenaa

namespace Go.Proofs.Ytlfgclmgpbaenaa
open Go.RowKit
set_option linter.unusedVariables false
set_option maxRecDepth 100000

set_option maxHeartbeats 2000000 in
theorem rsameCommit_any (ts ts' : Int) (p q : Option Addr) (n m c d : Nat) (l l' : List Wr) (w : World) (h1 : InW w p n c l) (h2 : InW w q m d l') :
    Calls Try.prog 35 #[.agg #[.int .i64 ts, .slice p n c], .agg #[.int .i64 ts', .slice q m d]] w fun e w' => Told w w' e (ts = ts' ∧ l = l') := by
  have HB : Hid (Below w.heap.size w ((w.alloc (.cells #[.int .i64 ts, .slice p n c] 24)).alloc (.cells #[.int .i64 ts', .slice q m d] 24))) := ((Below.refl _ _).alloc (Nat.le_refl _) _).alloc (by simp) _
  have HI : Hid (∀ w', Below w.heap.size w w' → InW w' p n c l) := fun w' hb => h1.up hb
  have HJ : Hid (∀ w', Below w.heap.size w w' → InW w' q m d l') := fun w' hb => h2.up hb
  have HL1 : Hid (l.length = n) := h1.lenq
  have HL2 : Hid (l'.length = m) := h2.lenq
  have hnc := h1.le
  have hcr := h1.room
  have k1 : Bk ((w.alloc (.cells #[.int .i64 ts, .slice p n c] 24)).alloc (.cells #[.int .i64 ts', .slice q m d] 24)) w.heap.size 24 #[.int .i64 ts, .slice p n c] := (Bk.new _ _ _).alloc _
  have k2 : Bk ((w.alloc (.cells #[.int .i64 ts, .slice p n c] 24)).alloc (.cells #[.int .i64 ts', .slice q m d] 24)) (w.heap.size + 1) 24 #[.int .i64 ts', .slice q m d] := by
    have := Bk.new (w.alloc (.cells #[.int .i64 ts, .slice p n c] 24)) 24 #[.int .i64 ts', .slice q m d]
    simpa using this
  have HK : Hid (∀ w', Below (w.heap.size + 2) ((w.alloc (.cells #[.int .i64 ts, .slice p n c] 24)).alloc (.cells #[.int .i64 ts', .slice q m d] 24)) w' → Below w.heap.size w w' ∧ w'.cell? ⟨w.heap.size, 1, none⟩ = some (.slice p n c) ∧ w'.cell? ⟨w.heap.size + 1, 1, none⟩ = some (.slice q m d)) :=
    fun w' hb => ⟨HB.out.trans (hb.mono (by omega)), (k1.below hb (by omega)).cell 1, (k2.below hb (by omega)).cell 1⟩
  clear h1 h2 k1 k2
  by_cases ht : ts = ts'
  · subst ht
    by_cases hnm : n = m
    · subst hnm
      go_enter Try.func35, Try.ntmps35
      go_wp2_with fail
      go_loopw [5] (fun i wr => ∃ k : Nat, k ≤ n ∧ i = .int .i64 k ∧ Hid (Below (w.heap.size + 2) ((w.alloc (.cells #[.int .i64 ts, .slice p n c] 24)).alloc (.cells #[.int .i64 ts, .slice q n d] 24)) wr) ∧ Hid (∀ j, j < k → l[j]? = l'[j]?)) (fun i _ => n - (intOf i).toNat)
      case atStart => exact ⟨0, Nat.zero_le _, rfl, Below.refl _ _, fun j hj => absurd hj (Nat.not_lt_zero j)⟩
      case round =>
        obtain ⟨k, hk, rfl, HW, HQ⟩ := hrel
        obtain ⟨hbw, z1, z2⟩ := HK.out wr HW.out
        have HBW : Hid (Below w.heap.size w wr) := hbw
        clear hbw
        by_cases hlt : k < n
        · have hli : (k : Int) < (n : Int) := by omega
          obtain ⟨b1, o1, g1, rfl, hg1, -, c0, c1, c2⟩ := (HI.out wr HBW.out).at hlt
          obtain ⟨b2, o2, g2, rfl, hg2, -, d0, d1, d2⟩ := (HJ.out wr HBW.out).at hlt
          by_cases he : g1 = g2
          · subst he
            have HN : Hid (∀ j, j < k + 1 → l[j]? = l'[j]?) := by
              intro j hj
              by_cases hjk : j = k
              · subst hjk
                rw [hg1, hg2]
              · exact HQ.out j (by omega)
            clear hg1 hg2
            go_wp2_with fail
            go_quiet (fail)
            have HW1 : Hid _ := below_drewN HW.out nq
            clear c0 c1 c2 d0 d1 d2 z1 z2
            generalize wr.drewN nq = w3 at *
            go_wp2
            go_roundw
            case rel => exact ⟨k + 1, by omega, by go_num, HW1, HN⟩
            case measure => simp [intOf]; omega
          · have HNE : Hid (l ≠ l') := by
              intro e
              rw [e, hg2] at hg1
              exact he (by simpa using hg1.symm)
            clear hg1 hg2
            rcases Rc.wr_parts he with h3 | ⟨h3, h4⟩ | ⟨h3, h4, h5⟩
            all_goals
              clear he
              go_wp2_with fail
              go_quiet (fail)
              have HB1 : Hid (Below w.heap.size w (wr.drewN nq)) := below_drewN HBW.out nq
              clear c0 c1 c2 d0 d1 d2 z1 z2
              generalize wr.drewN nq = w3 at *
              go_wp2
              go_ret
              exact ⟨false, rfl, ⟨(fun h => by cases h), fun h => absurd h.2 HNE.out⟩, HB1.out⟩
        · have hli : ¬ ((k : Int) < (n : Int)) := by omega
          have HE : Hid (l = l') := Rc.all_eq HL1.out HL2.out (fun j hj => HQ.out j (by omega))
          go_wp2
          go_ret
          exact ⟨true, rfl, ⟨fun _ => by first | exact HE.out | exact ⟨by trivial, HE.out⟩, fun _ => rfl⟩, HBW.out⟩
    · have hne : ((n : Int) != (m : Int)) = true := by simp; omega
      have HNE : Hid (l ≠ l') := by
        intro e
        have a := HL1.out
        have b := HL2.out
        rw [e] at a
        omega
      go_enter Try.func35, Try.ntmps35
      go_wp2
      go_ret
      exact ⟨false, rfl, ⟨(fun h => by cases h), fun h => absurd h.2 HNE.out⟩, HB.out⟩
  · have hne : (ts != ts') = true := by simpa using ht
    have HT : Hid (¬ ts = ts') := ht
    clear ht
    go_enter Try.func35, Try.ntmps35
    go_wp2
    go_ret
    exact ⟨false, rfl, ⟨(fun h => by cases h), fun h => absurd h.1 HT.out⟩, HB.out⟩

set_option maxHeartbeats 2000000 in
theorem rsamePairs_any (p q : Option Addr) (n m c d : Nat) (l l' : List St) (w : World) (h1 : InS w p n c l) (h2 : InS w q m d l') :
    Calls Try.prog 64 #[.slice p n c, .slice q m d] w fun e w' => Told w w' e (l = l') := by
  have HI : Hid (InS w p n c l) := h1
  have HJ : Hid (InS w q m d l') := h2
  have hnc := h1.le
  have hcr := h1.room
  clear h1 h2
  by_cases hnm : n = m
  · subst hnm
    go_enter Try.func64, Try.ntmps64
    go_wp2_with fail
    go_loopw [5] (fun i wr => ∃ k : Nat, k ≤ n ∧ i = .int .i64 k ∧ Hid (Below w.heap.size w wr) ∧ Hid (∀ j, j < k → l[j]? = l'[j]?)) (fun i _ => n - (intOf i).toNat)
    case atStart => exact ⟨0, Nat.zero_le _, rfl, Below.refl _ _, fun j hj => absurd hj (Nat.not_lt_zero j)⟩
    case round =>
      obtain ⟨k, hk, rfl, HB, HQ⟩ := hrel
      by_cases hlt : k < n
      · have hli : (k : Int) < (n : Int) := by omega
        obtain ⟨b1, o1, g1, rfl, hg1, -, c0, c1, c2⟩ := (HI.out.up HB.out).at hlt
        obtain ⟨b2, o2, g2, rfl, hg2, -, d0, d1, d2⟩ := (HJ.out.up HB.out).at hlt
        by_cases he : g1 = g2
        · subst he
          have HN : Hid (∀ j, j < k + 1 → l[j]? = l'[j]?) := by
            intro j hj
            by_cases hjk : j = k
            · subst hjk
              rw [hg1, hg2]
            · exact HQ.out j (by omega)
          clear hg1 hg2
          go_wp2_with fail
          go_quiet (fail)
          have HB1 : Hid (Below w.heap.size w (wr.drewN nq)) := below_drewN HB.out nq
          clear c0 c1 c2 d0 d1 d2
          generalize wr.drewN nq = w3 at *
          go_wp2
          go_roundw
          case rel => exact ⟨k + 1, by omega, by go_num, HB1, HN⟩
          case measure => simp [intOf]; omega
        · have HNE : Hid (l ≠ l') := by
            intro e
            rw [e, hg2] at hg1
            exact he (by simpa using hg1.symm)
          clear hg1 hg2
          rcases Rc.st_parts he with h3 | ⟨h3, h4⟩ | ⟨h3, h4, h5⟩
          all_goals
            clear he
            go_wp2_with fail
            go_quiet (fail)
            have HB1 : Hid (Below w.heap.size w (wr.drewN nq)) := below_drewN HB.out nq
            clear c0 c1 c2 d0 d1 d2
            generalize wr.drewN nq = w3 at *
            go_wp2
            go_ret
            exact ⟨false, rfl, ⟨(fun h => by cases h), fun h => absurd h HNE.out⟩, HB1.out⟩
      · have hli : ¬ ((k : Int) < (n : Int)) := by omega
        have HE : Hid (l = l') := Rc.all_eq HI.out.lenq HJ.out.lenq (fun j hj => HQ.out j (by omega))
        go_wp2
        go_ret
        exact ⟨true, rfl, ⟨fun _ => HE.out, fun _ => rfl⟩, HB.out⟩
  · have hne : ((n : Int) != (m : Int)) = true := by simp; omega
    have HNE : Hid (l ≠ l') := by
      intro e
      have a := HI.out.lenq
      have b := HJ.out.lenq
      rw [e] at a
      omega
    go_enter Try.func64, Try.ntmps64
    go_wp2
    go_ret
    exact ⟨false, rfl, ⟨(fun h => by cases h), fun h => absurd h HNE.out⟩, Below.refl _ _⟩

set_option maxHeartbeats 1000000 in
theorem rsameChunk_any (ts ts' : Int) (e1 e2 : Bool) (p q : Option Addr) (n m c d : Nat) (l l' : List St) (w : World) (h1 : InS w p n c l) (h2 : InS w q m d l') :
    Calls Try.prog 36 #[.agg #[.int .i64 ts, .slice p n c, .bool e1], .agg #[.int .i64 ts', .slice q m d, .bool e2]] w fun e w' => Told w w' e (ts = ts' ∧ e1 = e2 ∧ l = l') := by
  have HB : Hid (Below w.heap.size w ((w.alloc (.cells #[.int .i64 ts, .slice p n c, .bool e1] 27)).alloc (.cells #[.int .i64 ts', .slice q m d, .bool e2] 27))) := ((Below.refl _ _).alloc (Nat.le_refl _) _).alloc (by simp) _
  have HI : Hid (InS ((w.alloc (.cells #[.int .i64 ts, .slice p n c, .bool e1] 27)).alloc (.cells #[.int .i64 ts', .slice q m d, .bool e2] 27)) p n c l) := h1.up HB.out
  have HJ : Hid (InS ((w.alloc (.cells #[.int .i64 ts, .slice p n c, .bool e1] 27)).alloc (.cells #[.int .i64 ts', .slice q m d, .bool e2] 27)) q m d l') := h2.up HB.out
  clear h1 h2
  by_cases ht : ts = ts'
  · subst ht
    by_cases hd : e1 = e2
    · subst hd
      go_enter Try.func36, Try.ntmps36
      go_wp2_with fail
      refine (rsamePairs_any p q n m c d l l' _ HI.out HJ.out).mono ?_
      rintro e w1 ⟨b, rfl, hb, hb1⟩
      have HQ : Hid (b = true ↔ l = l') := hb
      have HB1 : Hid (Below w.heap.size w w1) := HB.out.trans (hb1.mono HB.out.size)
      clear hb hb1 HI HJ
      go_wp2
      go_ret
      exact ⟨b, rfl, ⟨fun h => ⟨by trivial, by trivial, HQ.out.1 h⟩, fun h => HQ.out.2 h.2.2⟩, HB1.out⟩
    · have hne : (e1 == e2) = false := by simpa using hd
      have HT : Hid (¬ e1 = e2) := hd
      clear hd
      go_enter Try.func36, Try.ntmps36
      go_wp2
      all_goals go_ret
      all_goals exact ⟨false, by simp_all, ⟨(fun h => by cases h), fun h => absurd h.2.1 HT.out⟩, HB.out⟩
  · have hne : (ts == ts') = false := by simpa using ht
    have HT : Hid (¬ ts = ts') := ht
    clear ht
    go_enter Try.func36, Try.ntmps36
    go_wp2
    go_ret
    exact ⟨false, rfl, ⟨(fun h => by cases h), fun h => absurd h.1 HT.out⟩, HB.out⟩

end Go.Proofs.Ytlfgclmgpbaenaa

namespace Go.Proofs.Ytlfgclmgpbaenaa
open Go.ChangeShapes Go.WideShapes Go.ChangeAt Go.RowKit
set_option linter.unusedVariables false
set_option maxRecDepth 100000

theorem InB.wide {B B' : Nat} {w : World} {p : Option Addr} {len cap : Nat} {xs : List Int} (h : InB B w p len cap xs) (hB : B ≤ B') : InB B' w p len cap xs := ⟨h.lenq, h.bys, h.le, Nat.le_trans h.room hB, h.nil, h.byte⟩

set_option maxHeartbeats 8000000 in
theorem walk_recordReads (p : Option Addr) (len cap : Nat) (xs : List Int) (w : World) (hin : InB 140737488351232 w p len cap xs) :
    Calls Try.prog 5 #[.slice p len cap] w fun e w' => e = .returned (.bool true) ∧ Below w.heap.size w w' := by
  have HI : Hid (∀ w', Below w.heap.size w w' → InB 9223372036854775807 w' p len cap xs) := fun w' hb => (hin.below hb).wide (by omega)
  have HL : Hid (xs.length = len) := hin.lenq
  have HBY : Hid (∀ y ∈ xs, 0 ≤ y ∧ y < 256) := hin.byte
  have HB0 : Hid (Below w.heap.size w w) := Below.refl _ _
  have HLL : Hid (xs.length ≤ 140737488355328) := by have := hin.lenq; have := hin.le; have := hin.room; unfold Hid; omega
  have t2 : ∀ g ∈ (Rc.takeCh xs).2.2.1, -9223372036854775808 ≤ g.ts ∧ g.ts ≤ 9223372036854775807 := by
    unfold Rc.takeCh
    simp only
    split
    · exact Rs.chunk_fits xs hin.byte
    · simp
  clear hin
  obtain ⟨C1, q1⟩ : ∃ C, Rc.takeCom xs = C := ⟨_, rfl⟩
  obtain ⟨C2, q2⟩ : ∃ C, Rc.takeCh xs = C := ⟨_, rfl⟩
  obtain ⟨C3, q3⟩ : ∃ C, Rc.takeMs xs = C := ⟨_, rfl⟩
  rw [q2] at t2
  have Q1 : Hid (Rc.takeCom xs = C1) := q1
  have Q2 : Hid (Rc.takeCh xs = C2) := q2
  have Q3 : Hid (Rc.takeMs xs = C3) := q3
  clear q1 q2 q3
  obtain ⟨ts, l, e1⟩ := C1
  obtain ⟨n, d, ll, e2⟩ := C2
  obtain ⟨m, e3⟩ := C3
  simp only at t2
  have T2 : Hid (∀ g ∈ ll, -9223372036854775808 ≤ g.ts ∧ g.ts ≤ 9223372036854775807) := t2
  clear t2
  go_enter Try.func5, Try.ntmps5
  go_wp2_with fail
  refine (takeCommit_any p len cap xs _ (HI.out _ HB0.out)).mono ?_
  rintro e w0 ⟨v, rfl, ho, hb⟩
  rw [Q1.out] at ho ⊢
  simp only at ho ⊢
  obtain ⟨p0, c0, rfl⟩ := own_form ho
  have hbx : Below w0.heap.size w0 (w0.alloc (.cells #[.int .i64 ts, .slice p0 l.length c0] 24)) := (Below.refl _ _).alloc (Nat.le_refl _) _
  have X0_0 : Hid (Bk (w0.alloc (.cells #[.int .i64 ts, .slice p0 l.length c0] 24)) w0.heap.size 24 #[.int .i64 ts, .slice p0 l.length c0]) := Bk.new _ _ _
  have I0_0 : Hid (InW (w0.alloc (.cells #[.int .i64 ts, .slice p0 l.length c0] 24)) p0 l.length c0 l) := ho.inw.up hbx
  have H0 : Hid (Below w.heap.size w (w0.alloc (.cells #[.int .i64 ts, .slice p0 l.length c0] 24))) := (HB0.out.trans (hb.mono HB0.out.size)).trans (hbx.mono (HB0.out.trans (hb.mono HB0.out.size)).size)
  clear hb hbx ho
  generalize hx0 : w0.heap.size = x0 at X0_0 ⊢
  go_wp2_with fail
  refine (rtakeCommit_any p len cap xs _ (HI.out _ H0.out) HLL.out).mono ?_
  rintro e w1 ⟨v, rfl, ho, hb⟩
  rw [Q1.out] at ho ⊢
  simp only at ho ⊢
  obtain ⟨p1, c1, rfl⟩ := own_form ho
  have hbx : Below w1.heap.size w1 (w1.alloc (.cells #[.int .i64 ts, .slice p1 l.length c1] 24)) := (Below.refl _ _).alloc (Nat.le_refl _) _
  have X0_1 : Hid (Bk (w1.alloc (.cells #[.int .i64 ts, .slice p1 l.length c1] 24)) x0 24 #[.int .i64 ts, .slice p0 l.length c0]) := (Bk.below (X0_0.out) hb (Bk.lt X0_0.out)).alloc _
  have I0_1 : Hid (InW (w1.alloc (.cells #[.int .i64 ts, .slice p1 l.length c1] 24)) p0 l.length c0 l) := (I0_0.out.up hb).up hbx
  have X1_1 : Hid (Bk (w1.alloc (.cells #[.int .i64 ts, .slice p1 l.length c1] 24)) w1.heap.size 24 #[.int .i64 ts, .slice p1 l.length c1]) := Bk.new _ _ _
  have I1_1 : Hid (InW (w1.alloc (.cells #[.int .i64 ts, .slice p1 l.length c1] 24)) p1 l.length c1 l) := ho.inw.up hbx
  have H1 : Hid (Below w.heap.size w (w1.alloc (.cells #[.int .i64 ts, .slice p1 l.length c1] 24))) := (H0.out.trans (hb.mono H0.out.size)).trans (hbx.mono (H0.out.trans (hb.mono H0.out.size)).size)
  clear hb hbx ho X0_0 I0_0
  generalize hx1 : w1.heap.size = x1 at X1_1 ⊢
  go_wp2_with fail
  refine (takeChunk_any p len cap xs _ (HI.out _ H1.out)).mono ?_
  rintro e w2 ⟨v, rfl, ho, hb⟩
  rw [Q2.out] at ho ⊢
  simp only at ho ⊢
  obtain ⟨p2, c2, rfl⟩ := own_form ho
  have hbx : Below w2.heap.size w2 (w2.alloc (.cells #[.int .i64 n, .slice p2 ll.length c2, .bool d] 27)) := (Below.refl _ _).alloc (Nat.le_refl _) _
  have X0_2 : Hid (Bk (w2.alloc (.cells #[.int .i64 n, .slice p2 ll.length c2, .bool d] 27)) x0 24 #[.int .i64 ts, .slice p0 l.length c0]) := (Bk.below (X0_1.out) hb (Bk.lt X0_1.out)).alloc _
  have I0_2 : Hid (InW (w2.alloc (.cells #[.int .i64 n, .slice p2 ll.length c2, .bool d] 27)) p0 l.length c0 l) := (I0_1.out.up hb).up hbx
  have X1_2 : Hid (Bk (w2.alloc (.cells #[.int .i64 n, .slice p2 ll.length c2, .bool d] 27)) x1 24 #[.int .i64 ts, .slice p1 l.length c1]) := (Bk.below (X1_1.out) hb (Bk.lt X1_1.out)).alloc _
  have I1_2 : Hid (InW (w2.alloc (.cells #[.int .i64 n, .slice p2 ll.length c2, .bool d] 27)) p1 l.length c1 l) := (I1_1.out.up hb).up hbx
  have X2_2 : Hid (Bk (w2.alloc (.cells #[.int .i64 n, .slice p2 ll.length c2, .bool d] 27)) w2.heap.size 27 #[.int .i64 n, .slice p2 ll.length c2, .bool d]) := Bk.new _ _ _
  have I2_2 : Hid (InS (w2.alloc (.cells #[.int .i64 n, .slice p2 ll.length c2, .bool d] 27)) p2 ll.length c2 ll) := (ho.ins T2.out).up hbx
  have H2 : Hid (Below w.heap.size w (w2.alloc (.cells #[.int .i64 n, .slice p2 ll.length c2, .bool d] 27))) := (H1.out.trans (hb.mono H1.out.size)).trans (hbx.mono (H1.out.trans (hb.mono H1.out.size)).size)
  clear hb hbx ho X0_1 I0_1 X1_1 I1_1
  generalize hx2 : w2.heap.size = x2 at X2_2 ⊢
  go_wp2_with fail
  refine (rtakeChunk_any p len cap xs _ (HI.out _ H2.out) HLL.out).mono ?_
  rintro e w3 ⟨v, rfl, ho, hb⟩
  rw [Q2.out] at ho ⊢
  simp only at ho ⊢
  obtain ⟨p3, c3, rfl⟩ := own_form ho
  have hbx : Below w3.heap.size w3 (w3.alloc (.cells #[.int .i64 n, .slice p3 ll.length c3, .bool d] 27)) := (Below.refl _ _).alloc (Nat.le_refl _) _
  have X0_3 : Hid (Bk (w3.alloc (.cells #[.int .i64 n, .slice p3 ll.length c3, .bool d] 27)) x0 24 #[.int .i64 ts, .slice p0 l.length c0]) := (Bk.below (X0_2.out) hb (Bk.lt X0_2.out)).alloc _
  have I0_3 : Hid (InW (w3.alloc (.cells #[.int .i64 n, .slice p3 ll.length c3, .bool d] 27)) p0 l.length c0 l) := (I0_2.out.up hb).up hbx
  have X1_3 : Hid (Bk (w3.alloc (.cells #[.int .i64 n, .slice p3 ll.length c3, .bool d] 27)) x1 24 #[.int .i64 ts, .slice p1 l.length c1]) := (Bk.below (X1_2.out) hb (Bk.lt X1_2.out)).alloc _
  have I1_3 : Hid (InW (w3.alloc (.cells #[.int .i64 n, .slice p3 ll.length c3, .bool d] 27)) p1 l.length c1 l) := (I1_2.out.up hb).up hbx
  have X2_3 : Hid (Bk (w3.alloc (.cells #[.int .i64 n, .slice p3 ll.length c3, .bool d] 27)) x2 27 #[.int .i64 n, .slice p2 ll.length c2, .bool d]) := (Bk.below (X2_2.out) hb (Bk.lt X2_2.out)).alloc _
  have I2_3 : Hid (InS (w3.alloc (.cells #[.int .i64 n, .slice p3 ll.length c3, .bool d] 27)) p2 ll.length c2 ll) := (I2_2.out.up hb).up hbx
  have X3_3 : Hid (Bk (w3.alloc (.cells #[.int .i64 n, .slice p3 ll.length c3, .bool d] 27)) w3.heap.size 27 #[.int .i64 n, .slice p3 ll.length c3, .bool d]) := Bk.new _ _ _
  have I3_3 : Hid (InS (w3.alloc (.cells #[.int .i64 n, .slice p3 ll.length c3, .bool d] 27)) p3 ll.length c3 ll) := (ho.ins T2.out).up hbx
  have H3 : Hid (Below w.heap.size w (w3.alloc (.cells #[.int .i64 n, .slice p3 ll.length c3, .bool d] 27))) := (H2.out.trans (hb.mono H2.out.size)).trans (hbx.mono (H2.out.trans (hb.mono H2.out.size)).size)
  clear hb hbx ho X0_2 I0_2 X1_2 I1_2 X2_2 I2_2
  generalize hx3 : w3.heap.size = x3 at X3_3 ⊢
  go_wp2_with fail
  refine (takeMaster_any p len cap xs _ (HI.out _ H3.out)).mono ?_
  rintro e w4 ⟨rfl, hb⟩
  rw [Q3.out]
  simp only
  rw [show m.cells.toArray = #[.int .i64 m.seq, .int .i64 m.area, .int .i64 m.chunks, .int .i64 m.ts, .int .i64 m.sector, .int .i64 m.offset, .int .i64 m.number, .int .i64 m.run] from rfl]
  have hbx : Below w4.heap.size w4 (w4.alloc (.cells #[.int .i64 m.seq, .int .i64 m.area, .int .i64 m.chunks, .int .i64 m.ts, .int .i64 m.sector, .int .i64 m.offset, .int .i64 m.number, .int .i64 m.run] 31)) := (Below.refl _ _).alloc (Nat.le_refl _) _
  have X0_4 : Hid (Bk (w4.alloc (.cells #[.int .i64 m.seq, .int .i64 m.area, .int .i64 m.chunks, .int .i64 m.ts, .int .i64 m.sector, .int .i64 m.offset, .int .i64 m.number, .int .i64 m.run] 31)) x0 24 #[.int .i64 ts, .slice p0 l.length c0]) := (Bk.below (X0_3.out) hb (Bk.lt X0_3.out)).alloc _
  have I0_4 : Hid (InW (w4.alloc (.cells #[.int .i64 m.seq, .int .i64 m.area, .int .i64 m.chunks, .int .i64 m.ts, .int .i64 m.sector, .int .i64 m.offset, .int .i64 m.number, .int .i64 m.run] 31)) p0 l.length c0 l) := (I0_3.out.up hb).up hbx
  have X1_4 : Hid (Bk (w4.alloc (.cells #[.int .i64 m.seq, .int .i64 m.area, .int .i64 m.chunks, .int .i64 m.ts, .int .i64 m.sector, .int .i64 m.offset, .int .i64 m.number, .int .i64 m.run] 31)) x1 24 #[.int .i64 ts, .slice p1 l.length c1]) := (Bk.below (X1_3.out) hb (Bk.lt X1_3.out)).alloc _
  have I1_4 : Hid (InW (w4.alloc (.cells #[.int .i64 m.seq, .int .i64 m.area, .int .i64 m.chunks, .int .i64 m.ts, .int .i64 m.sector, .int .i64 m.offset, .int .i64 m.number, .int .i64 m.run] 31)) p1 l.length c1 l) := (I1_3.out.up hb).up hbx
  have X2_4 : Hid (Bk (w4.alloc (.cells #[.int .i64 m.seq, .int .i64 m.area, .int .i64 m.chunks, .int .i64 m.ts, .int .i64 m.sector, .int .i64 m.offset, .int .i64 m.number, .int .i64 m.run] 31)) x2 27 #[.int .i64 n, .slice p2 ll.length c2, .bool d]) := (Bk.below (X2_3.out) hb (Bk.lt X2_3.out)).alloc _
  have I2_4 : Hid (InS (w4.alloc (.cells #[.int .i64 m.seq, .int .i64 m.area, .int .i64 m.chunks, .int .i64 m.ts, .int .i64 m.sector, .int .i64 m.offset, .int .i64 m.number, .int .i64 m.run] 31)) p2 ll.length c2 ll) := (I2_3.out.up hb).up hbx
  have X3_4 : Hid (Bk (w4.alloc (.cells #[.int .i64 m.seq, .int .i64 m.area, .int .i64 m.chunks, .int .i64 m.ts, .int .i64 m.sector, .int .i64 m.offset, .int .i64 m.number, .int .i64 m.run] 31)) x3 27 #[.int .i64 n, .slice p3 ll.length c3, .bool d]) := (Bk.below (X3_3.out) hb (Bk.lt X3_3.out)).alloc _
  have I3_4 : Hid (InS (w4.alloc (.cells #[.int .i64 m.seq, .int .i64 m.area, .int .i64 m.chunks, .int .i64 m.ts, .int .i64 m.sector, .int .i64 m.offset, .int .i64 m.number, .int .i64 m.run] 31)) p3 ll.length c3 ll) := (I3_3.out.up hb).up hbx
  have X4_4 : Hid (Bk (w4.alloc (.cells #[.int .i64 m.seq, .int .i64 m.area, .int .i64 m.chunks, .int .i64 m.ts, .int .i64 m.sector, .int .i64 m.offset, .int .i64 m.number, .int .i64 m.run] 31)) w4.heap.size 31 #[.int .i64 m.seq, .int .i64 m.area, .int .i64 m.chunks, .int .i64 m.ts, .int .i64 m.sector, .int .i64 m.offset, .int .i64 m.number, .int .i64 m.run]) := Bk.new _ _ _
  have H4 : Hid (Below w.heap.size w (w4.alloc (.cells #[.int .i64 m.seq, .int .i64 m.area, .int .i64 m.chunks, .int .i64 m.ts, .int .i64 m.sector, .int .i64 m.offset, .int .i64 m.number, .int .i64 m.run] 31))) := (H3.out.trans (hb.mono H3.out.size)).trans (hbx.mono (H3.out.trans (hb.mono H3.out.size)).size)
  clear hb hbx X0_3 I0_3 X1_3 I1_3 X2_3 I2_3 X3_3 I3_3
  generalize hx4 : w4.heap.size = x4 at X4_4 ⊢
  go_wp2_with fail
  refine (rtakeMaster_any p len cap xs _ (HI.out _ H4.out) HLL.out).mono ?_
  rintro e w5 ⟨rfl, hb⟩
  rw [Q3.out]
  simp only
  rw [show m.cells.toArray = #[.int .i64 m.seq, .int .i64 m.area, .int .i64 m.chunks, .int .i64 m.ts, .int .i64 m.sector, .int .i64 m.offset, .int .i64 m.number, .int .i64 m.run] from rfl]
  have hbx : Below w5.heap.size w5 (w5.alloc (.cells #[.int .i64 m.seq, .int .i64 m.area, .int .i64 m.chunks, .int .i64 m.ts, .int .i64 m.sector, .int .i64 m.offset, .int .i64 m.number, .int .i64 m.run] 31)) := (Below.refl _ _).alloc (Nat.le_refl _) _
  have X0_5 : Hid (Bk (w5.alloc (.cells #[.int .i64 m.seq, .int .i64 m.area, .int .i64 m.chunks, .int .i64 m.ts, .int .i64 m.sector, .int .i64 m.offset, .int .i64 m.number, .int .i64 m.run] 31)) x0 24 #[.int .i64 ts, .slice p0 l.length c0]) := (Bk.below (X0_4.out) hb (Bk.lt X0_4.out)).alloc _
  have I0_5 : Hid (InW (w5.alloc (.cells #[.int .i64 m.seq, .int .i64 m.area, .int .i64 m.chunks, .int .i64 m.ts, .int .i64 m.sector, .int .i64 m.offset, .int .i64 m.number, .int .i64 m.run] 31)) p0 l.length c0 l) := (I0_4.out.up hb).up hbx
  have X1_5 : Hid (Bk (w5.alloc (.cells #[.int .i64 m.seq, .int .i64 m.area, .int .i64 m.chunks, .int .i64 m.ts, .int .i64 m.sector, .int .i64 m.offset, .int .i64 m.number, .int .i64 m.run] 31)) x1 24 #[.int .i64 ts, .slice p1 l.length c1]) := (Bk.below (X1_4.out) hb (Bk.lt X1_4.out)).alloc _
  have I1_5 : Hid (InW (w5.alloc (.cells #[.int .i64 m.seq, .int .i64 m.area, .int .i64 m.chunks, .int .i64 m.ts, .int .i64 m.sector, .int .i64 m.offset, .int .i64 m.number, .int .i64 m.run] 31)) p1 l.length c1 l) := (I1_4.out.up hb).up hbx
  have X2_5 : Hid (Bk (w5.alloc (.cells #[.int .i64 m.seq, .int .i64 m.area, .int .i64 m.chunks, .int .i64 m.ts, .int .i64 m.sector, .int .i64 m.offset, .int .i64 m.number, .int .i64 m.run] 31)) x2 27 #[.int .i64 n, .slice p2 ll.length c2, .bool d]) := (Bk.below (X2_4.out) hb (Bk.lt X2_4.out)).alloc _
  have I2_5 : Hid (InS (w5.alloc (.cells #[.int .i64 m.seq, .int .i64 m.area, .int .i64 m.chunks, .int .i64 m.ts, .int .i64 m.sector, .int .i64 m.offset, .int .i64 m.number, .int .i64 m.run] 31)) p2 ll.length c2 ll) := (I2_4.out.up hb).up hbx
  have X3_5 : Hid (Bk (w5.alloc (.cells #[.int .i64 m.seq, .int .i64 m.area, .int .i64 m.chunks, .int .i64 m.ts, .int .i64 m.sector, .int .i64 m.offset, .int .i64 m.number, .int .i64 m.run] 31)) x3 27 #[.int .i64 n, .slice p3 ll.length c3, .bool d]) := (Bk.below (X3_4.out) hb (Bk.lt X3_4.out)).alloc _
  have I3_5 : Hid (InS (w5.alloc (.cells #[.int .i64 m.seq, .int .i64 m.area, .int .i64 m.chunks, .int .i64 m.ts, .int .i64 m.sector, .int .i64 m.offset, .int .i64 m.number, .int .i64 m.run] 31)) p3 ll.length c3 ll) := (I3_4.out.up hb).up hbx
  have X4_5 : Hid (Bk (w5.alloc (.cells #[.int .i64 m.seq, .int .i64 m.area, .int .i64 m.chunks, .int .i64 m.ts, .int .i64 m.sector, .int .i64 m.offset, .int .i64 m.number, .int .i64 m.run] 31)) x4 31 #[.int .i64 m.seq, .int .i64 m.area, .int .i64 m.chunks, .int .i64 m.ts, .int .i64 m.sector, .int .i64 m.offset, .int .i64 m.number, .int .i64 m.run]) := (Bk.below (X4_4.out) hb (Bk.lt X4_4.out)).alloc _
  have X5_5 : Hid (Bk (w5.alloc (.cells #[.int .i64 m.seq, .int .i64 m.area, .int .i64 m.chunks, .int .i64 m.ts, .int .i64 m.sector, .int .i64 m.offset, .int .i64 m.number, .int .i64 m.run] 31)) w5.heap.size 31 #[.int .i64 m.seq, .int .i64 m.area, .int .i64 m.chunks, .int .i64 m.ts, .int .i64 m.sector, .int .i64 m.offset, .int .i64 m.number, .int .i64 m.run]) := Bk.new _ _ _
  have H5 : Hid (Below w.heap.size w (w5.alloc (.cells #[.int .i64 m.seq, .int .i64 m.area, .int .i64 m.chunks, .int .i64 m.ts, .int .i64 m.sector, .int .i64 m.offset, .int .i64 m.number, .int .i64 m.run] 31))) := (H4.out.trans (hb.mono H4.out.size)).trans (hbx.mono (H4.out.trans (hb.mono H4.out.size)).size)
  clear hb hbx X0_4 I0_4 X1_4 I1_4 X2_4 I2_4 X3_4 I3_4 X4_4
  generalize hx5 : w5.heap.size = x5 at X5_5 ⊢
  go_wp2_with fail
  refine (live_any _).mono ?_
  rintro e w6 ⟨rfl, hb⟩
  have H6 : Hid (Below w.heap.size w w6) := H5.out.trans (hb.mono H5.out.size)
  have x6_0 := Bk.below (X0_5.out) hb (Bk.lt X0_5.out)
  have X0_6 : Hid (Bk w6 x0 24 #[.int .i64 ts, .slice p0 l.length c0]) := x6_0
  have I0_6 : Hid (InW w6 p0 l.length c0 l) := I0_5.out.up hb
  have x6_1 := Bk.below (X1_5.out) hb (Bk.lt X1_5.out)
  have X1_6 : Hid (Bk w6 x1 24 #[.int .i64 ts, .slice p1 l.length c1]) := x6_1
  have I1_6 : Hid (InW w6 p1 l.length c1 l) := I1_5.out.up hb
  have x6_2 := Bk.below (X2_5.out) hb (Bk.lt X2_5.out)
  have X2_6 : Hid (Bk w6 x2 27 #[.int .i64 n, .slice p2 ll.length c2, .bool d]) := x6_2
  have I2_6 : Hid (InS w6 p2 ll.length c2 ll) := I2_5.out.up hb
  have x6_3 := Bk.below (X3_5.out) hb (Bk.lt X3_5.out)
  have X3_6 : Hid (Bk w6 x3 27 #[.int .i64 n, .slice p3 ll.length c3, .bool d]) := x6_3
  have I3_6 : Hid (InS w6 p3 ll.length c3 ll) := I3_5.out.up hb
  have x6_4 := Bk.below (X4_5.out) hb (Bk.lt X4_5.out)
  have X4_6 : Hid (Bk w6 x4 31 #[.int .i64 m.seq, .int .i64 m.area, .int .i64 m.chunks, .int .i64 m.ts, .int .i64 m.sector, .int .i64 m.offset, .int .i64 m.number, .int .i64 m.run]) := x6_4
  have x6_5 := Bk.below (X5_5.out) hb (Bk.lt X5_5.out)
  have X5_6 : Hid (Bk w6 x5 31 #[.int .i64 m.seq, .int .i64 m.area, .int .i64 m.chunks, .int .i64 m.ts, .int .i64 m.sector, .int .i64 m.offset, .int .i64 m.number, .int .i64 m.run]) := x6_5
  have k0_0 : w6.cell? ⟨x0, 0, none⟩ = some (.int .i64 ts) := X0_6.out.cell 0
  have k0_1 : w6.cell? ⟨x0, 1, none⟩ = some (.slice p0 l.length c0) := X0_6.out.cell 1
  have k1_0 : w6.cell? ⟨x1, 0, none⟩ = some (.int .i64 ts) := X1_6.out.cell 0
  have k1_1 : w6.cell? ⟨x1, 1, none⟩ = some (.slice p1 l.length c1) := X1_6.out.cell 1
  clear hb x6_0 X0_5 x6_1 X1_5 x6_2 X2_5 x6_3 X3_5 x6_4 X4_5 x6_5 X5_5 I0_5 I1_5 I2_5 I3_5
  go_wp2_with fail
  refine (rsameCommit_any ts ts p0 p1 l.length l.length c0 c1 l l _ I0_6.out I1_6.out).mono ?_
  rintro e w7 ⟨b, rfl, hq, hb⟩
  obtain rfl : b = true := hq.2 ⟨rfl, rfl⟩
  have H7 : Hid (Below w.heap.size w w7) := H6.out.trans (hb.mono H6.out.size)
  have X2_7 : Hid (Bk w7 x2 27 #[.int .i64 n, .slice p2 ll.length c2, .bool d]) := Bk.below (X2_6.out) hb (Bk.lt X2_6.out)
  have I2_7 : Hid (InS w7 p2 ll.length c2 ll) := I2_6.out.up hb
  have X3_7 : Hid (Bk w7 x3 27 #[.int .i64 n, .slice p3 ll.length c3, .bool d]) := Bk.below (X3_6.out) hb (Bk.lt X3_6.out)
  have I3_7 : Hid (InS w7 p3 ll.length c3 ll) := I3_6.out.up hb
  have X4_7 : Hid (Bk w7 x4 31 #[.int .i64 m.seq, .int .i64 m.area, .int .i64 m.chunks, .int .i64 m.ts, .int .i64 m.sector, .int .i64 m.offset, .int .i64 m.number, .int .i64 m.run]) := Bk.below (X4_6.out) hb (Bk.lt X4_6.out)
  have X5_7 : Hid (Bk w7 x5 31 #[.int .i64 m.seq, .int .i64 m.area, .int .i64 m.chunks, .int .i64 m.ts, .int .i64 m.sector, .int .i64 m.offset, .int .i64 m.number, .int .i64 m.run]) := Bk.below (X5_6.out) hb (Bk.lt X5_6.out)
  clear hq hb k0_0 k0_1 k1_0 k1_1
  have k2_0 : w7.cell? ⟨x2, 0, none⟩ = some (.int .i64 n) := X2_7.out.cell 0
  have k2_1 : w7.cell? ⟨x2, 1, none⟩ = some (.slice p2 ll.length c2) := X2_7.out.cell 1
  have k2_2 : w7.cell? ⟨x2, 2, none⟩ = some (.bool d) := X2_7.out.cell 2
  have k3_0 : w7.cell? ⟨x3, 0, none⟩ = some (.int .i64 n) := X3_7.out.cell 0
  have k3_1 : w7.cell? ⟨x3, 1, none⟩ = some (.slice p3 ll.length c3) := X3_7.out.cell 1
  have k3_2 : w7.cell? ⟨x3, 2, none⟩ = some (.bool d) := X3_7.out.cell 2
  go_wp2_with fail
  refine (rsameChunk_any n n d d p2 p3 ll.length ll.length c2 c3 ll ll _ I2_7.out I3_7.out).mono ?_
  rintro e w8 ⟨b, rfl, hq, hb⟩
  obtain rfl : b = true := hq.2 ⟨rfl, rfl, rfl⟩
  have H8 : Hid (Below w.heap.size w w8) := H7.out.trans (hb.mono H7.out.size)
  have X4_8 : Hid (Bk w8 x4 31 #[.int .i64 m.seq, .int .i64 m.area, .int .i64 m.chunks, .int .i64 m.ts, .int .i64 m.sector, .int .i64 m.offset, .int .i64 m.number, .int .i64 m.run]) := Bk.below (X4_7.out) hb (Bk.lt X4_7.out)
  have X5_8 : Hid (Bk w8 x5 31 #[.int .i64 m.seq, .int .i64 m.area, .int .i64 m.chunks, .int .i64 m.ts, .int .i64 m.sector, .int .i64 m.offset, .int .i64 m.number, .int .i64 m.run]) := Bk.below (X5_7.out) hb (Bk.lt X5_7.out)
  clear hq hb k2_0 k2_1 k2_2 k3_0 k3_1 k3_2
  have k4_0 : w8.cell? ⟨x4, 0, none⟩ = some (.int .i64 m.seq) := X4_8.out.cell 0
  have k4_1 : w8.cell? ⟨x4, 1, none⟩ = some (.int .i64 m.area) := X4_8.out.cell 1
  have k4_2 : w8.cell? ⟨x4, 2, none⟩ = some (.int .i64 m.chunks) := X4_8.out.cell 2
  have k4_3 : w8.cell? ⟨x4, 3, none⟩ = some (.int .i64 m.ts) := X4_8.out.cell 3
  have k4_4 : w8.cell? ⟨x4, 4, none⟩ = some (.int .i64 m.sector) := X4_8.out.cell 4
  have k4_5 : w8.cell? ⟨x4, 5, none⟩ = some (.int .i64 m.offset) := X4_8.out.cell 5
  have k4_6 : w8.cell? ⟨x4, 6, none⟩ = some (.int .i64 m.number) := X4_8.out.cell 6
  have k4_7 : w8.cell? ⟨x4, 7, none⟩ = some (.int .i64 m.run) := X4_8.out.cell 7
  have k5_0 : w8.cell? ⟨x5, 0, none⟩ = some (.int .i64 m.seq) := X5_8.out.cell 0
  have k5_1 : w8.cell? ⟨x5, 1, none⟩ = some (.int .i64 m.area) := X5_8.out.cell 1
  have k5_2 : w8.cell? ⟨x5, 2, none⟩ = some (.int .i64 m.chunks) := X5_8.out.cell 2
  have k5_3 : w8.cell? ⟨x5, 3, none⟩ = some (.int .i64 m.ts) := X5_8.out.cell 3
  have k5_4 : w8.cell? ⟨x5, 4, none⟩ = some (.int .i64 m.sector) := X5_8.out.cell 4
  have k5_5 : w8.cell? ⟨x5, 5, none⟩ = some (.int .i64 m.offset) := X5_8.out.cell 5
  have k5_6 : w8.cell? ⟨x5, 6, none⟩ = some (.int .i64 m.number) := X5_8.out.cell 6
  have k5_7 : w8.cell? ⟨x5, 7, none⟩ = some (.int .i64 m.run) := X5_8.out.cell 7
  go_wp2
  go_ret
  exact ⟨by simp, H8.out⟩

set_option maxRecDepth 100000 in
set_option maxHeartbeats 2000000 in
theorem lifted_recordReads (os : Os) (started : os.Started) (H : Type) (enc : TypeId × Value → H) :
    ReturnsInHanded {} Try.checked os 5 .any (Rows.recordReadsSpec.pre6 enc Try.prog Try.f5 Rows.recordReadsRow.domain false) (Rows.recordReadsSpec.post enc Try.prog Try.f5 false true false false) := by
  refine returnsInHanded_of_change_sized (C := Try.checked) own started (by kernel_rfl) Try.func5
    (ChangeSpec.witness6 (enc := enc) (C := Try.checked) false ⟨#[], #[.slice none 0 0], []⟩ 8 (by kernel_rfl) (by kernel_rfl) (by kernel_rfl) (by kernel_rfl)) ?_
  intro W base args ds gs before hval0 hW _ hsz0 _
  have hsz : (DataW.weightsEach Try.prog (Try.f5.params.toList ++ Rows.recordReadsSpec.plain.varTypes Try.prog) (ds ++ gs)).all (· ≤ reachBytes) = true := hsz0
  clear hsz0
  have hval : ∀ (j : Nat) t v, Try.f5.params[j]? = some t → args[j]? = some v → Value.okWide Try.prog W .any base t v := hval0
  have hW' := hW
  obtain ⟨p, q, hA0, hV, rfl, hfz, hnd⟩ := hW
  have hA : DataW.TrodAll enc Try.prog W 0 (fun _ => true) true Try.f5.params.toList args.toList ds p := hA0
  rw [Try.params5] at hA hval hsz
  obtain ⟨v0, vs0, d0, ds0, p0, q0, hargs, rfl, rfl, h0, r0⟩ := trodAll_cons hA
  obtain ⟨rfl, rfl, rfl⟩ := trodAll_nil r0
  obtain rfl : args = #[v0] := by cases args; simp_all
  obtain ⟨rfl, rfl⟩ := trodVars_none hV
  obtain ⟨a0, len0, cap0, rfl⟩ := okWide_slice Try.underlying42 (hval 0 42 v0 rfl rfl)
  have k0 := h0
  have lt0 : ∀ x ∈ p0, x.block < W.heap.size := by obtain ⟨m, hm⟩ := k0; exact DataW.trod_lt m _ _ _ hm
  obtain ⟨z0, w0⟩ : ∃ zs, InB 140737488351232 W a0 len0 cap0 zs := by
    refine in_bytes h0 ?_
    intro elems spare hd
    have := sized_slice hsz (j := 0) (t := 42) (e := 5) rfl (by rw [hd]; rfl) Try.underlying42
    rw [bytes_u8] at this
    simp only [reachBytes] at this
    omega
  clear hA0 hval0
  refine (walk_recordReads a0 len0 cap0 z0 W w0).mono fun e W' ⟨he, bel⟩ => ?_
  subst he
  exact ⟨_, rfl, _, _, _, [], _, [], hW', trodAll_mk1 (shut_bool Try.underlying4 _), (trodAll_cons_mk (Below.trod laidOut (by kernel_rfl) (of_decide_eq_true (by kernel_rfl)) k0 bel lt0) trodAll_mk0), rfl, bel.frame _, fun h => by cases h⟩

/-- The statement. -/
theorem recordReads_holds : Rows.RecordReadsSaid :=
  OpenClaim.holds_of_wide 5 Try.f5 rfl rfl rfl rfl rfl rfl rfl ⟨rfl, rfl, rfl, rfl, rfl⟩ rfl rfl rfl rfl rfl (by kernel_rfl) Try.func5 (by kernel_rfl)
    (of_decide_eq_true (by kernel_rfl)) (by unfold Func.isWrapper; first | (rw [if_pos (by decide +kernel)]; kernel_rfl) | (rw [if_neg (by decide +kernel)]; exact ⟨rfl, rfl⟩))
    (fun os started H enc _ => lifted_recordReads os started H enc)
#print axioms recordReads_holds
end Go.Proofs.Ytlfgclmgpbaenaa
