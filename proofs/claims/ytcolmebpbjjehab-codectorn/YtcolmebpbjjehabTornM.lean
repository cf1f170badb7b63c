import Derived.Test.YtcolmebpbjjehabUnf
namespace Go.Proofs.Ytcolmebpbjjehab
open Go.RowKit
set_option linter.unusedVariables false

namespace Cd
theorem enc_pos (n : Nat) (k : Nat) (hk : k < width n) : dec ((enc n).take k) = (0, 0, 10) := by
  cases k with
  | zero => rfl
  | succ k =>
    by_cases a : n ≤ 100
    · rw [show width n = 1 by unfold width; rw [if_pos (by omega)]] at hk
      omega
    · obtain ⟨u, hu⟩ : ∃ u : Nat, u = (n : Int).toNat := ⟨_, rfl⟩
      have hq := nb_pos u
      have e : enc n = (208 + (nb u : Int)) :: be (nb u) u := by unfold enc; rw [if_neg (by omega), if_pos (by omega), ← hu]
      have ew : width n = 1 + nb u := by unfold width; rw [if_neg (by omega), if_pos (by omega), ← hu]
      rw [e, List.take_succ_cons, dec_cons, if_neg (by omega), if_pos (by omega), show (208 + (nb u : Int) - 208).toNat = nb u by omega]
      unfold long
      rw [if_pos (by simp [be_length]; omega)]

theorem frm_len (xs : List Int) (n : Nat) (hn : xs.length = n) : (frm xs).length = width n + n + 4 := by
  unfold frm
  rw [List.length_append, List.length_append, enc_length, be_length, hn]

/-- What is said by a frame's bytes, right or wrong, with anything behind them. -/
theorem decU_said (n : Nat) (ys four rest : List Int) (hn : ys.length = n) (h4 : four.length = 4) (hm : n ≤ 1048576) :
    decU (enc n ++ (ys ++ four ++ rest)) = if be 4 (sum ys).toNat = four then (ys, (width n : Int) + n + 4, 0) else ([], 0, 12) := by
  unfold decU
  rw [dec_enc _ _ (by omega) (by omega)]
  simp only
  have hw := enc_length (n : Int)
  have e1 : (enc (n : Int) ++ (ys ++ four ++ rest)).drop (width n) = ys ++ four ++ rest := by
    rw [← hw]; exact List.drop_left
  have e2 : (enc (n : Int) ++ (ys ++ four ++ rest)).drop (width n + n) = four ++ rest := by
    rw [← List.drop_drop, e1, List.append_assoc, ← hn]; exact List.drop_left
  have hl : (enc (n : Int) ++ (ys ++ four ++ rest)).length = width n + (n + 4 + rest.length) := by
    simp only [List.length_append, hw, hn, h4]
  rw [if_neg (by omega), if_neg (by omega), if_neg (by omega), if_neg (by rw [hl]; omega), Int.toNat_natCast, Int.toNat_natCast, e1, e2]
  have e3 : (ys ++ four ++ rest).take n = ys := by rw [List.append_assoc, ← hn]; exact List.take_left
  have e4 : (four ++ rest).take 4 = four := by rw [← h4]; exact List.take_left
  rw [e3, e4]

theorem decU_whole (xs behind : List Int) (n : Nat) (hn : xs.length = n) (hm : n ≤ 1048576) : decU (frm xs ++ behind) = (xs, (width n : Int) + n + 4, 0) := by
  have e : frm xs ++ behind = enc n ++ (xs ++ be 4 (sum xs).toNat ++ behind) := by
    unfold frm
    rw [hn]
    simp only [List.append_assoc]
  rw [e, decU_said n xs _ behind hn (be_length _ _) hm, if_pos rfl]

theorem decU_short (xs : List Int) (n k : Nat) (hn : xs.length = n) (hm : n ≤ 1048576) (hk : k < width n + n + 4) : decU ((frm xs).take k) = ([], 0, 10) := by
  have e : frm xs = enc n ++ (xs ++ be 4 (sum xs).toNat) := by
    unfold frm
    rw [hn, List.append_assoc]
  rw [e]
  have hw := enc_length (n : Int)
  by_cases h : k < width n
  · rw [List.take_append_of_le_length (by rw [hw]; omega)]
    unfold decU
    rw [enc_pos _ _ h]
    simp
  · rw [List.take_append, hw, List.take_of_length_le (by rw [hw]; omega)]
    unfold decU
    rw [dec_enc _ _ (by omega) (by omega)]
    simp only
    have hl : (enc (n : Int) ++ (xs ++ be 4 (sum xs).toNat).take (k - width n)).length = k := by
      rw [List.length_append, hw, List.length_take, List.length_append, hn, be_length]
      omega
    rw [if_neg (by omega), if_neg (by omega), if_neg (by omega), if_pos (by rw [hl]; omega)]

theorem ad_first (l : List Int) : ∀ s t : Int × Int, (l.foldl ad s).1 % 65521 = (l.foldl ad t).1 % 65521 → s.1 % 65521 = t.1 % 65521 := by
  induction l with
  | nil => intro s t h; exact h
  | cons x l ih =>
    intro s t h
    have := ih _ _ h
    unfold ad at this
    simp only at this
    omega

theorem adl_apart (a b : List Int) (x y : Int) (hx : 0 ≤ x ∧ x < 256) (hy : 0 ≤ y ∧ y < 256) (h : adl (a ++ x :: b) = adl (a ++ y :: b)) : x = y := by
  unfold adl at h
  rw [List.foldl_append, List.foldl_append, List.foldl_cons, List.foldl_cons] at h
  have := ad_first b _ _ (congrArg (fun q : Int × Int => q.1 % 65521) h)
  unfold ad at this
  simp only at this
  omega

theorem sum_adl (xs ys : List Int) (h : sum xs = sum ys) : adl xs = adl ys := by
  have a := adl_bd xs
  have b := adl_bd ys
  unfold sum at h
  exact Prod.ext (by omega) (by omega)

theorem be_inj (a b : Int) (ha : 0 ≤ a ∧ a < 4294967296) (hb : 0 ≤ b ∧ b < 4294967296) (h : be 4 a.toNat = be 4 b.toNat) : a = b := by
  have := congrArg val h
  rw [val_be, val_be, Nat.mod_eq_of_lt (by simp only [Nat.reducePow]; omega), Nat.mod_eq_of_lt (by simp only [Nat.reducePow]; omega)] at this
  omega

theorem decU_turned (xs : List Int) (n j : Nat) (x : Int) (hn : xs.length = n) (hm : n ≤ 1048576) (hb : ∀ y ∈ xs, 0 ≤ y ∧ y < 256) (hj : j < n + 4) (hx : 0 ≤ x ∧ x < 256) (hne : x ≠ (frm xs).getD (width n + j) 0) :
    decU ((frm xs).set (width n + j) x) = ([], 0, 12) := by
  have hw := enc_length (n : Int)
  obtain ⟨four, hf⟩ : ∃ four, be 4 (sum xs).toNat = four := ⟨_, rfl⟩
  have h4 : four.length = 4 := by rw [← hf]; exact be_length _ _
  have e : frm xs = enc n ++ (xs ++ four) := by
    unfold frm
    rw [hn, List.append_assoc, hf]
  rw [e] at hne ⊢
  have es : (enc (n : Int) ++ (xs ++ four)).set (width n + j) x = enc n ++ (xs ++ four).set j x := by
    rw [List.set_append_right _ _ (by rw [hw]; omega), hw, Nat.add_sub_cancel_left]
  have eg : (enc (n : Int) ++ (xs ++ four)).getD (width n + j) 0 = (xs ++ four).getD j 0 := by
    simp only [List.getD]
    rw [List.getElem?_append_right (by rw [hw]; omega), hw, Nat.add_sub_cancel_left]
  rw [eg] at hne
  rw [es]
  by_cases h : j < n
  · have hjx : j < xs.length := by omega
    rw [List.set_append_left _ _ hjx]
    have el : (xs.set j x).length = n := by simp [hn]
    have := decU_said n (xs.set j x) four [] el h4 hm
    rw [List.append_nil] at this
    rw [this, if_neg]
    intro hh
    rw [← hf] at hh
    have hs := be_inj _ _ (sum_bd _) (sum_bd _) hh
    have ha := sum_adl _ _ hs
    rw [List.set_eq_take_append_cons_drop, if_pos hjx] at ha
    have e2 : xs = xs.take j ++ xs[j] :: xs.drop (j + 1) := by
      rw [List.getElem_cons_drop, List.take_append_drop]
    rw [congrArg adl e2] at ha
    have := adl_apart _ _ _ _ hx (hb xs[j] (List.getElem_mem hjx)) ha
    apply hne
    rw [this]
    simp [List.getD, List.getElem?_append_left hjx, hjx]
  · rw [List.set_append_right _ _ (by omega)]
    have el : (four.set (j - xs.length) x).length = 4 := by simp [h4]
    have := decU_said n xs (four.set (j - xs.length) x) [] hn el hm
    rw [List.append_nil] at this
    rw [this, if_neg]
    rw [hf]
    intro hh
    apply hne
    have hj4 : j - xs.length < four.length := by omega
    have := congrArg (fun l => l.getD (j - xs.length) 0) hh
    simp only [List.getD, List.getElem?_set_self hj4, Option.getD_some] at this
    rw [← this]
    simp only [List.getD]
    rw [List.getElem?_append_right (by omega)]

theorem flip_ne (y m : Nat) (hy : y < 256) (hm : m < 8) : y ^^^ 2 ^ m < 256 ∧ y ^^^ 2 ^ m ≠ y := by
  constructor
  · have h2 : 2 ^ m < 2 ^ 8 := Nat.pow_lt_pow_right (by omega) hm
    exact Nat.xor_lt_two_pow (n := 8) hy h2
  · intro h
    have h3 : y ^^^ (y ^^^ 2 ^ m) = y ^^^ y := by rw [h]
    rw [← Nat.xor_assoc, Nat.xor_self, Nat.zero_xor] at h3
    have := Nat.two_pow_pos m
    omega
end Cd
end Go.Proofs.Ytcolmebpbjjehab
