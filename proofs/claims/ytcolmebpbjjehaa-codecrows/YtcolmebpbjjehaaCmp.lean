import Derived.Test.YtcolmebpbjjehaaByts
import Derived.Test.YtcolmebpbjjehaaBack
import Derived.Lib.Bytealg
import Derived.Lib.BytesEntry
namespace Go.Proofs.Ytcolmebpbjjehaa
open Go.RowKit
set_option linter.unusedVariables false

namespace Cd
/-- The order of two rows of numbers, by the first place at which they part. -/
def lex : List Int → List Int → Int
  | [], [] => 0
  | [], _ :: _ => -1
  | _ :: _, [] => 1
  | a :: as1, b :: bs => if a < b then -1 else if b < a then 1 else lex as1 bs

def cmp (a b : Int) : Int := if a < b then -1 else if b < a then 1 else 0

theorem lex_same (l as1 bs : List Int) : lex (l ++ as1) (l ++ bs) = lex as1 bs := by
  induction l with
  | nil => rfl
  | cons a l ih => simp [lex, ih]

theorem lex_self (l : List Int) : lex l l = 0 := by
  have := lex_same l [] []
  simpa [lex] using this

theorem lex_head {a b : Int} (as1 bs : List Int) (h : a ≠ b) : lex (a :: as1) (b :: bs) = cmp a b := by
  simp only [lex, cmp]
  split
  · rfl
  · split
    · rfl
    · omega

/-- Two numbers' lowest bytes have their order, whatever stands behind. -/
theorem lex_be (k : Nat) : ∀ (u v : Nat) (as1 bs : List Int), u < 256 ^ k → v < 256 ^ k → u ≠ v → lex (be k u ++ as1) (be k v ++ bs) = cmp u v := by
  induction k with
  | zero => intro u v as1 bs hu hv h; simp at hu hv; omega
  | succ k ih =>
    intro u v as1 bs hu hv h
    simp only [be, List.cons_append]
    have hp : 0 < 256 ^ k := Nat.pow_pos (by omega)
    rw [Nat.pow_succ] at hu hv
    have u1 : u / 256 ^ k < 256 := Nat.div_lt_of_lt_mul hu
    have v1 : v / 256 ^ k < 256 := Nat.div_lt_of_lt_mul hv
    have eu := Nat.div_add_mod u (256 ^ k)
    have ev := Nat.div_add_mod v (256 ^ k)
    have mu := Nat.mod_lt u hp
    have mv := Nat.mod_lt v hp
    by_cases hq : u / 256 ^ k = v / 256 ^ k
    · have hm : u % 256 ^ k ≠ v % 256 ^ k := by
        intro e
        rw [hq, e] at eu
        omega
      have hb : ∀ x : Nat, be k x = be k (x % 256 ^ k) := by
        intro x
        have := be_add k (x % 256 ^ k) (x / 256 ^ k)
        rw [Nat.mod_add_div] at this
        exact this
      rw [hq]
      simp only [lex, Int.lt_irrefl, if_false]
      rw [hb u, hb v, ih _ _ as1 bs mu mv hm]
      unfold cmp
      rw [hq] at eu
      generalize 256 ^ k * (v / 256 ^ k) = c at eu ev
      repeat' split
      all_goals omega
    · rw [Nat.mod_eq_of_lt u1, Nat.mod_eq_of_lt v1]
      have key : u / 256 ^ k < v / 256 ^ k ↔ u < v := by
        constructor
        · intro hlt
          have : 256 ^ k * (u / 256 ^ k + 1) ≤ 256 ^ k * (v / 256 ^ k) := Nat.mul_le_mul_left _ hlt
          rw [Nat.mul_add, Nat.mul_one] at this
          omega
        · intro hlt
          have : u / 256 ^ k ≤ v / 256 ^ k := Nat.div_le_div_right (by omega)
          omega
      have key2 : v / 256 ^ k < u / 256 ^ k ↔ v < u := by
        constructor
        · intro hlt
          have : 256 ^ k * (v / 256 ^ k + 1) ≤ 256 ^ k * (u / 256 ^ k) := Nat.mul_le_mul_left _ hlt
          rw [Nat.mul_add, Nat.mul_one] at this
          omega
        · intro hlt
          have : v / 256 ^ k ≤ u / 256 ^ k := Nat.div_le_div_right (by omega)
          omega
      clear eu ev mu mv hu hv
      generalize u / 256 ^ k = U at *
      generalize v / 256 ^ k = V at *
      rw [lex_head _ _ (by omega)]
      unfold cmp
      repeat' split
      all_goals omega

theorem lex_turn (a b : List Int) : ∀ (as1 bs : List Int), a.length = b.length → a ≠ b → lex (a.map (255 - ·) ++ as1) (b.map (255 - ·) ++ bs) = lex b a := by
  induction a generalizing b with
  | nil => intro as1 bs hl h; cases b with
    | nil => exact absurd rfl h
    | cons _ _ => simp at hl
  | cons x l ih => cases b with
    | nil => intro as1 bs hl; simp at hl
    | cons y m =>
      intro as1 bs hl h
      simp only [List.map_cons, List.cons_append, lex]
      by_cases e : x = y
      · subst e
        simp only [Int.lt_irrefl, if_false]
        exact ih m as1 bs (by simpa using hl) (fun e => h (by rw [e]))
      · repeat' split
        all_goals first | rfl | omega

theorem nb_mono (u v : Nat) (h : u ≤ v) : nb u ≤ nb v := by
  unfold nb
  repeat' split
  all_goals omega

/-- The bytes of two ints have their order, whatever stands behind them. -/
theorem lex_enc (a b : Int) (as1 bs : List Int) (ha : -9223372036854775808 ≤ a ∧ a ≤ 9223372036854775807) (hb : -9223372036854775808 ≤ b ∧ b ≤ 9223372036854775807) (h : a ≠ b) : lex (enc a ++ as1) (enc b ++ bs) = cmp a b := by
  have form : ∀ n : Int, (enc n = [n + 108] ∧ -100 ≤ n ∧ n ≤ 100) ∨ (n < -100 ∧ enc n = (8 - (nb (-1 - n).toNat : Int)) :: (be (nb (-1 - n).toNat) (-1 - n).toNat).map (255 - ·)) ∨ (100 < n ∧ enc n = (208 + (nb n.toNat : Int)) :: be (nb n.toNat) n.toNat) := by
    intro n
    rcases (show (-100 ≤ n ∧ n ≤ 100) ∨ n < -100 ∨ 100 < n by omega) with ⟨x, y⟩ | x | x
    · left; exact ⟨by simp [enc, x, y], x, y⟩
    · right; left; refine ⟨x, ?_⟩; unfold enc; rw [if_neg (by omega), if_neg (by omega)]
    · right; right; refine ⟨x, ?_⟩; unfold enc; rw [if_neg (by omega), if_pos (by omega)]
  have pa1 := nb_pos a.toNat
  have pa2 := nb_pos (-1 - a).toNat
  have pb1 := nb_pos b.toNat
  have pb2 := nb_pos (-1 - b).toNat
  rcases form a with ⟨ea, a1, a2⟩ | ⟨a1, ea⟩ | ⟨a1, ea⟩ <;> rcases form b with ⟨eb, b1, b2⟩ | ⟨b1, eb⟩ | ⟨b1, eb⟩
  all_goals rw [ea, eb]
  · rw [List.singleton_append, List.singleton_append, lex_head _ _ (by omega)]; unfold cmp; repeat' split
    all_goals omega
  · rw [List.singleton_append, List.cons_append, lex_head _ _ (by omega)]; unfold cmp; repeat' split
    all_goals omega
  · rw [List.singleton_append, List.cons_append, lex_head _ _ (by omega)]; unfold cmp; repeat' split
    all_goals omega
  · rw [List.singleton_append, List.cons_append, lex_head _ _ (by omega)]; unfold cmp; repeat' split
    all_goals omega
  · by_cases hq : nb (-1 - a).toNat = nb (-1 - b).toNat
    · rw [hq]
      simp only [List.cons_append, lex, Int.lt_irrefl, if_false]
      have na := nb_up (-1 - a).toNat (by omega)
      have nbv := nb_up (-1 - b).toNat (by omega)
      rw [hq] at na
      have hne : be (nb (-1 - b).toNat) (-1 - a).toNat ≠ be (nb (-1 - b).toNat) (-1 - b).toNat := by
        intro e
        have v := congrArg val e
        rw [val_be, val_be, Nat.mod_eq_of_lt na, Nat.mod_eq_of_lt nbv] at v
        omega
      rw [lex_turn _ _ as1 bs (by rw [be_length, be_length]) hne]
      have := lex_be (nb (-1 - b).toNat) (-1 - b).toNat (-1 - a).toNat [] [] nbv na (by omega)
      rw [List.append_nil, List.append_nil] at this
      rw [this]
      unfold cmp
      repeat' split
      all_goals omega
    · rw [List.cons_append, List.cons_append, lex_head _ _ (by omega)]
      have m1 := nb_mono (-1 - a).toNat (-1 - b).toNat
      have m2 := nb_mono (-1 - b).toNat (-1 - a).toNat
      unfold cmp
      repeat' split
      all_goals omega
  · rw [List.cons_append, List.cons_append, lex_head _ _ (by omega)]; unfold cmp; repeat' split
    all_goals omega
  · rw [List.singleton_append, List.cons_append, lex_head _ _ (by omega)]; unfold cmp; repeat' split
    all_goals omega
  · rw [List.cons_append, List.cons_append, lex_head _ _ (by omega)]; unfold cmp; repeat' split
    all_goals omega
  · by_cases hq : nb a.toNat = nb b.toNat
    · rw [hq]
      simp only [List.cons_append, lex, Int.lt_irrefl, if_false]
      have na := nb_up a.toNat (by omega)
      have nbv := nb_up b.toNat (by omega)
      rw [hq] at na
      rw [lex_be _ _ _ as1 bs na nbv (by omega)]
      unfold cmp
      repeat' split
      all_goals omega
    · rw [List.cons_append, List.cons_append, lex_head _ _ (by omega)]
      have m1 := nb_mono a.toNat b.toNat
      have m2 := nb_mono b.toNat a.toNat
      unfold cmp
      repeat' split
      all_goals omega
end Cd

theorem lex_bytes (xs ys : List Int) (hx : ∀ y ∈ xs, 0 ≤ y ∧ y < 256) (hy : ∀ y ∈ ys, 0 ≤ y ∧ y < 256) : Lib.compareBytes (Lib.bytesOf xs) (Lib.bytesOf ys) = Cd.lex xs ys := by
  induction xs generalizing ys with
  | nil => cases ys <;> rfl
  | cons a l ih => cases ys with
    | nil => rfl
    | cons b m =>
      have ha := hx a (by simp)
      have hb := hy b (by simp)
      simp only [Lib.bytesOf, List.map_cons, Lib.compareBytes, Cd.lex]
      have e1 : (UInt8.ofNat a.toNat < UInt8.ofNat b.toNat) ↔ a < b := by
        rw [UInt8.lt_iff_toNat_lt]
        simp
        omega
      have e2 : (UInt8.ofNat b.toNat < UInt8.ofNat a.toNat) ↔ b < a := by
        rw [UInt8.lt_iff_toNat_lt]
        simp
        omega
      have := ih m (fun y h => hx y (by simp [h])) (fun y h => hy y (by simp [h]))
      simp only [Lib.bytesOf] at this
      rw [this]
      simp only [e1, e2]

theorem run_bytesOf {w : World} {p : Option Addr} {xs : List Int} (h : Bys w p xs) (n c : Nat) (hn : xs.length = n) (hp : p = none → n = 0 ∧ c = 0) :
    (Extern.Bytes.bytesOf (.slice p n c)).run Try.prog w = .ok ⟨(Lib.bytesOf xs).toArray⟩ w := by
  cases p with
  | none =>
    obtain ⟨rfl, rfl⟩ := hp rfl
    obtain rfl : xs = [] := List.eq_nil_of_length_eq_zero hn
    rfl
  | some a =>
    subst hn
    have := Lib.run_loadBytesX (P := Try.prog) w xs a .empty (fun j x hj => by
      have := h.cells a rfl j (.int .u8 x) (by rw [List.getElem?_map, hj]; rfl)
      exact this)
    simp only [Extern.Bytes.bytesOf]
    rw [this]
    simp [ByteArray.empty, ByteArray.emptyWithCapacity]
    rfl

set_option maxHeartbeats 1000000 in
set_option maxRecDepth 100000 in
/-- bytes.Compare. -/
theorem compare_any (p q : Option Addr) (c d n m : Nat) (xs ys : List Int) (w : World) (hn : xs.length = n) (hm : ys.length = m) (hx : Bys w p xs) (hy : Bys w q ys) (hp : p = none → n = 0 ∧ c = 0) (hq : q = none → m = 0 ∧ d = 0) (bx : ∀ y ∈ xs, 0 ≤ y ∧ y < 256) (b2 : ∀ y ∈ ys, 0 ≤ y ∧ y < 256) :
    Calls Try.prog 24 #[.slice p n c, .slice q m d] w fun e w' => e = .returned (.int .i64 (Cd.lex xs ys)) ∧ w' = w := by
  have hrun : (Extern.BytealgCompare.compare #[.slice p n c, .slice q m d]).run Try.prog w = .ok (.int .i64 (Cd.lex xs ys)) w := by
    change Sem.run Try.prog (do pure (goInt (Extern.BytealgCompare.cmp (← Extern.Bytes.bytesOf (.slice p n c)) (← Extern.Bytes.bytesOf (.slice q m d))))) w = _
    simp only [Sem.run_bind, Sem.run_pure, run_bytesOf hx n c hn hp, run_bytesOf hy m d hm hq, Result.andThen]
    rw [Lib.cmp_eq, lex_bytes xs ys bx b2]
    rfl
  have hcall : (callFunc 32 #[.slice p n c, .slice q m d]).run Try.prog w = .ok (.value (.int .i64 (Cd.lex xs ys))) w := by
    rw [run_callFunc_extern Try.func32 (by kernel_rfl) (by kernel_rfl) (by kernel_rfl) (e := Extern.BytealgCompare.compare) (by kernel_rfl), hrun]
    rfl
  clear hx hy hn hm hp hq bx b2 hrun
  go_enter Try.func24, Try.ntmps24
  go_wp2
  go_ret
  exact ⟨rfl, rfl⟩

set_option maxHeartbeats 1000000 in
/-- cmp.Compare of two ints. -/
theorem cmp_any (a b : Int) (w : World) :
    Calls Try.prog 25 #[.int .i64 a, .int .i64 b] w fun e w' => e = .returned (.int .i64 (Cd.cmp a b)) ∧ w' = w := by
  have h1 : (a != a) = false := by simp
  have h2 : (b != b) = false := by simp
  rcases (show a < b ∨ b < a ∨ a = b by omega) with h | h | rfl
  · have HE : Hid (Cd.cmp a b = -1) := by simp [Hid, Cd.cmp, h]
    go_enter Try.func25, Try.ntmps25
    go_wp2
    go_ret
    exact ⟨by rw [HE.out]; rfl, rfl⟩
  · have HE : Hid (Cd.cmp a b = 1) := by unfold Hid Cd.cmp; rw [if_neg (by omega), if_pos h]
    go_enter Try.func25, Try.ntmps25
    go_wp2
    go_ret
    exact ⟨by rw [HE.out]; rfl, rfl⟩
  · have HE : Hid (Cd.cmp a a = 0) := by simp [Hid, Cd.cmp]
    go_enter Try.func25, Try.ntmps25
    go_wp2
    go_ret
    exact ⟨by rw [HE.out]; rfl, rfl⟩
end Go.Proofs.Ytcolmebpbjjehaa
