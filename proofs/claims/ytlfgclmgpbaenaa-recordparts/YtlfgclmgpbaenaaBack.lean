import Derived.Test.YtlfgclmgpbaenaaDecFacts
namespace Go.Proofs.Ytlfgclmgpbaenaa
namespace Cd
set_option linter.unusedVariables false
set_option maxRecDepth 100000

theorem fold_acc (l : List Int) : ∀ acc : Int, l.foldl (fun m y => m * 256 + y) acc = acc * 256 ^ l.length + l.foldl (fun m y => m * 256 + y) 0 := by
  induction l with
  | nil => intro acc; simp
  | cons a l ih =>
    intro acc
    simp only [List.foldl_cons, List.length_cons]
    rw [ih (acc * 256 + a), ih (0 * 256 + a), Int.pow_succ]
    simp only [Int.zero_mul, Int.zero_add]
    rw [Int.add_mul, Int.mul_assoc, Int.mul_comm 256, Int.add_assoc]

theorem val_cons_eq (y : Int) (l : List Int) : val (y :: l) = y * 256 ^ l.length + val l := by
  unfold val
  simp only [List.foldl_cons]
  rw [fold_acc]
  simp

theorem val_be (k m : Nat) : val (be k m) = ((m % 256 ^ k : Nat) : Int) := by
  induction k with
  | zero => simp [be, val]
  | succ k ih =>
    simp only [be]
    rw [val_cons_eq, ih, be_length, Nat.mod_pow_succ]
    rw [show (256 : Int) ^ k = ((256 ^ k : Nat) : Int) by simp, ← Int.natCast_mul, ← Int.natCast_add, Nat.add_comm, Nat.mul_comm]

theorem be_add (k m q : Nat) : be k (m + 256 ^ k * q) = be k m := by
  induction k generalizing q with
  | zero => rfl
  | succ k ih =>
    simp only [be]
    have e : m + 256 ^ (k + 1) * q = m + 256 ^ k * (256 * q) := by rw [Nat.pow_succ, Nat.mul_assoc]
    rw [e, ih]
    congr 2
    rw [Nat.add_mul_div_left _ _ (Nat.pow_pos (by omega))]
    omega

theorem be_val (ys : List Int) (h : ∀ y ∈ ys, 0 ≤ y ∧ y < 256) : be ys.length (val ys).toNat = ys := by
  induction ys with
  | nil => rfl
  | cons y l ih =>
    have hy := h y (by simp)
    have hl : ∀ x ∈ l, 0 ≤ x ∧ x < 256 := fun x hx => h x (by simp [hx])
    have hb := val_bd l hl
    have hih := ih hl
    have e : (val (y :: l)).toNat = (val l).toNat + 256 ^ l.length * y.toNat := by
      rw [val_cons_eq]
      have e1 : y * 256 ^ l.length = ((256 ^ l.length * y.toNat : Nat) : Int) := by
        rw [Int.natCast_mul, Int.toNat_of_nonneg hy.1, Int.mul_comm]
        simp
      omega
    simp only [List.length_cons, be]
    rw [e, be_add, hih]
    congr 1
    have hp : 0 < 256 ^ l.length := Nat.pow_pos (by omega)
    have hlt : (val l).toNat < 256 ^ l.length := by
      have e2 : ((256 ^ l.length : Nat) : Int) = 256 ^ l.length := by simp
      omega
    rw [Nat.add_mul_div_left _ _ hp, Nat.div_eq_of_lt hlt]
    omega

theorem map_tn0 (l : List Int) : l.map (tn 0) = l := by
  have : ∀ y ∈ l, tn 0 y = y := by intro y _; simp [tn]
  rw [List.map_congr_left this]
  simp

theorem map_tn255 (l : List Int) : (l.map (255 - ·)).map (tn 255) = l := by
  rw [List.map_map]
  have : ∀ y ∈ l, (tn 255 ∘ (255 - ·)) y = y := by intro y _; simp [tn]; omega
  rw [List.map_congr_left this]
  simp

theorem map_255tn (l : List Int) : (l.map (tn 255)).map (255 - ·) = l := by
  rw [List.map_map]
  have : ∀ y ∈ l, ((255 - ·) ∘ tn 255) y = y := by intro y _; simp [tn]; omega
  rw [List.map_congr_left this]
  simp

/-- What was put is read. -/
theorem dec_enc (n : Int) (rest : List Int) (h0 : -9223372036854775808 ≤ n) (h1 : n ≤ 9223372036854775807) : dec (enc n ++ rest) = (n, (width n : Int), 0) := by
  rcases (show (-100 ≤ n ∧ n ≤ 100) ∨ n < -100 ∨ 100 < n by omega) with ⟨a, b⟩ | a | a
  · have e : enc n = [n + 108] := by simp [enc, a, b]
    have ew : width n = 1 := by simp [width, a, b]
    rw [e, ew, List.singleton_append, dec_cons, if_neg (by omega), if_neg (by omega), if_neg (by omega)]
    congr 1
    omega
  · obtain ⟨u, hu⟩ : ∃ u : Nat, u = (-1 - n).toNat := ⟨_, rfl⟩
    have hq := nb_pos u
    have e : enc n = (8 - (nb u : Int)) :: (be (nb u) u).map (255 - ·) := by unfold enc; rw [if_neg (by omega), if_neg (by omega), ← hu]
    have ew : width n = 1 + nb u := by unfold width; rw [if_neg (by omega), if_neg (by omega), ← hu]
    rw [e, ew, List.cons_append, dec_cons, if_neg (by omega), if_neg (by omega), if_pos (by omega), show (8 - (8 - (nb u : Int))).toNat = nb u by omega]
    have ht : ((be (nb u) u).map (255 - ·) ++ rest).take (nb u) = (be (nb u) u).map (255 - ·) := by
      rw [List.take_append_of_le_length (by simp [be_length]), List.take_of_length_le (by simp [be_length])]
    have hv : val ((((be (nb u) u).map (255 - ·) ++ rest).take (nb u)).map (tn 255)) = u := by
      rw [ht, map_tn255, val_be, Nat.mod_eq_of_lt (nb_up u (by omega))]
    rw [long_good255 (by simp [be_length]) (by rw [hv]; omega) (by rw [hv, show -1 - (u : Int) = n by omega]; exact ew), hv]
    rw [show -1 - (u : Int) = n by omega]
    congr 2
  · obtain ⟨u, hu⟩ : ∃ u : Nat, u = n.toNat := ⟨_, rfl⟩
    have hq := nb_pos u
    have e : enc n = (208 + (nb u : Int)) :: be (nb u) u := by unfold enc; rw [if_neg (by omega), if_pos (by omega), ← hu]
    have ew : width n = 1 + nb u := by unfold width; rw [if_neg (by omega), if_pos (by omega), ← hu]
    rw [e, ew, List.cons_append, dec_cons, if_neg (by omega), if_pos (by omega), show (208 + (nb u : Int) - 208).toNat = nb u by omega]
    have ht : (be (nb u) u ++ rest).take (nb u) = be (nb u) u := by
      rw [List.take_append_of_le_length (by simp [be_length]), List.take_of_length_le (by simp [be_length])]
    have hv : val (((be (nb u) u ++ rest).take (nb u)).map (tn 0)) = u := by
      rw [ht, map_tn0, val_be, Nat.mod_eq_of_lt (nb_up u (by omega))]
    rw [long_good0 (by simp [be_length]) (by rw [hv]; omega) (by rw [hv, show (u : Int) = n by omega]; exact ew), hv]
    rw [show (u : Int) = n by omega]
    congr 2

theorem long_one (k : Nat) (r : List Int) (hk : 1 ≤ k ∧ k ≤ 8) (hb : ∀ x ∈ r, 0 ≤ x ∧ x < 256) :
    ((long k 0 r).2.2 = 0 → enc (long k 0 r).1 = (208 + (k : Int)) :: r.take k) ∧ ((long k 255 r).2.2 = 0 → enc (long k 255 r).1 = (8 - (k : Int)) :: r.take k) := by
  constructor
  · intro h
    by_cases h1 : r.length < k
    · unfold long at h; rw [if_pos h1] at h; simp at h
    · by_cases h2 : 9223372036854775807 < val ((r.take k).map (tn 0))
      · rw [long_over h1 h2] at h; simp at h
      · by_cases h3 : width (val ((r.take k).map (tn 0))) = 1 + k
        · rw [long_good0 h1 (by omega) h3]
          simp only
          rw [map_tn0] at h2 h3 ⊢
          have hv := val_bd (r.take k) (fun x hx => hb x (List.mem_of_mem_take hx))
          have hbv := be_val (r.take k) (fun x hx => hb x (List.mem_of_mem_take hx))
          have hlen : (r.take k).length = k := by simp; omega
          rw [hlen] at hbv
          have hnot : ¬ (-100 ≤ val (r.take k) ∧ val (r.take k) ≤ 100) := by
            intro hc
            unfold width at h3
            rw [if_pos hc] at h3
            omega
          have hnb : nb (val (r.take k)).toNat = k := by
            unfold width at h3
            rw [if_neg hnot, if_pos (by omega)] at h3
            omega
          unfold enc
          rw [if_neg hnot, if_pos (by omega), hnb, hbv]
        · rw [long_bad0 h1 (by omega) h3] at h; simp at h
  · intro h
    by_cases h1 : r.length < k
    · unfold long at h; rw [if_pos h1] at h; simp at h
    · by_cases h2 : 9223372036854775807 < val ((r.take k).map (tn 255))
      · rw [long_over h1 h2] at h; simp at h
      · by_cases h3 : width (-1 - val ((r.take k).map (tn 255))) = 1 + k
        · rw [long_good255 h1 (by omega) h3]
          simp only
          have hz : ∀ x ∈ (r.take k).map (tn 255), 0 ≤ x ∧ x < 256 := by
            intro y hy
            obtain ⟨z, hz, rfl⟩ := List.mem_map.1 hy
            exact tn_byte 255 z (hb z (List.mem_of_mem_take hz))
          have hv := val_bd _ hz
          have hbv := be_val _ hz
          have hlen : ((r.take k).map (tn 255)).length = k := by simp; omega
          rw [hlen] at hbv
          have hnot : ¬ (-100 ≤ -1 - val ((r.take k).map (tn 255)) ∧ -1 - val ((r.take k).map (tn 255)) ≤ 100) := by
            intro hc
            unfold width at h3
            rw [if_pos hc] at h3
            omega
          have e1 : (-1 - (-1 - val ((r.take k).map (tn 255)))) = val ((r.take k).map (tn 255)) := by omega
          have hnb : nb (val ((r.take k).map (tn 255))).toNat = k := by
            unfold width at h3
            rw [if_neg hnot, if_neg (by omega), e1] at h3
            omega
          unfold enc
          rw [if_neg hnot, if_neg (by omega), e1, hnb, hbv, map_255tn]
        · rw [long_bad255 h1 (by omega) h3] at h; simp at h

/-- There is one form. -/
theorem enc_dec (xs : List Int) (hb : ∀ x ∈ xs, 0 ≤ x ∧ x < 256) (h : (dec xs).2.2 = 0) : enc (dec xs).1 = xs.take (dec xs).2.1.toNat := by
  cases xs with
  | nil => simp [dec] at h
  | cons y r =>
    have hy := hb y (by simp)
    have hr : ∀ x ∈ r, 0 ≤ x ∧ x < 256 := fun x hx => hb x (by simp [hx])
    rw [dec_cons] at h ⊢
    by_cases a : 216 < y
    · rw [if_pos a] at h; simp at h
    · rw [if_neg a] at h ⊢
      by_cases b : 208 < y
      · rw [if_pos b] at h ⊢
        have hf := long_facts (y - 208).toNat 0 r (by omega) (by omega) hr
        have ho := (long_one (y - 208).toNat r (by omega) hr).1 h
        have hs : (long (y - 208).toNat 0 r).2.1 = 1 + ((y - 208).toNat : Int) := by omega
        rw [ho, hs, show (1 + ((y - 208).toNat : Int)).toNat = (y - 208).toNat + 1 by omega, List.take_succ_cons]
        congr 1
        omega
      · rw [if_neg b] at h ⊢
        by_cases c : y < 8
        · rw [if_pos c] at h ⊢
          have hf := long_facts (8 - y).toNat 255 r (by omega) (by omega) hr
          have ho := (long_one (8 - y).toNat r (by omega) hr).2 h
          have hs : (long (8 - y).toNat 255 r).2.1 = 1 + ((8 - y).toNat : Int) := by omega
          rw [ho, hs, show (1 + ((8 - y).toNat : Int)).toNat = (8 - y).toNat + 1 by omega, List.take_succ_cons]
          congr 1
          omega
        · rw [if_neg c]
          unfold enc
          simp only
          rw [if_pos (by omega)]
          show [y - 108 + 108] = List.take 1 (y :: r)
          simp

/-- What a text that was read is. -/
theorem decT_facts (xs : List Int) (hb : ∀ x ∈ xs, 0 ≤ x ∧ x < 256) :
    (∃ s n : Nat, dec xs = ((n : Int), (s : Int), 0) ∧ decT xs = ((xs.drop s).take n, (s : Int) + n, 0) ∧ 1 ≤ s ∧ s + n ≤ xs.length ∧ enc n = xs.take s ∧ ((xs.drop s).take n).length = n) ∨
    ((decT xs).1 = [] ∧ (decT xs).2.1 = 0 ∧ ((decT xs).2.2 = 10 ∨ (decT xs).2.2 = 11)) := by
  have hf := dec_facts xs hb
  have ho := enc_dec xs hb
  unfold decT
  generalize hD : dec xs = D at hf ho ⊢
  obtain ⟨d1, d2, d3⟩ := D
  simp only at hf ho ⊢
  by_cases h3 : d3 = 0
  · subst h3
    have hf1 : 1 ≤ d2 ∧ d2 ≤ 9 ∧ d2 ≤ (xs.length : Int) := by omega
    by_cases h1 : d1 < 0
    · right; simp [h1]
    · by_cases h2 : d1 > (xs.length : Int) - d2
      · right; simp [h1, h2]
      · left
        obtain ⟨s, rfl⟩ := Int.eq_ofNat_of_zero_le (show 0 ≤ d2 by omega)
        obtain ⟨n, rfl⟩ := Int.eq_ofNat_of_zero_le (show 0 ≤ d1 by omega)
        refine ⟨s, n, rfl, ?_, by omega, by omega, by simpa using ho rfl, by simp; omega⟩
        simp [h1, h2]
  · right
    have : d3 = 10 ∨ d3 = 11 := by omega
    simp [h3, this]

end Cd
end Go.Proofs.Ytlfgclmgpbaenaa
