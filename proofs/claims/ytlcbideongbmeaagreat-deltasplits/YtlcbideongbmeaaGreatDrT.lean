/- The draft of a page's entries, as plain data: what each step makes of the list that it stands for. -/
import Derived.Test.YtlcbideongbmeaaGreatPgPu
import Derived.Test.YtlcbideongbmeaaGreatPgRm
namespace Go.Proofs.YtlcbideongbmeaaGreat
set_option linter.unusedVariables false
set_option maxRecDepth 100000

namespace Dr
/-- Keys by their numbers. -/
structure Nu (K : Nat) (num : ByteArray → Nat) (kw : ByteArray → Prop) : Prop where
  lt : ∀ x, kw x → num x < K
  is : ∀ x y, kw x → kw y → (x.toList == y.toList) = decide (num x = num y)
  le : ∀ x y, kw x → kw y → Ky.lt x y = decide (num x < num y)

/-- What stays: how many keys and places, each place's key, the next place with it. -/
structure Fx where
  K : Nat
  R : Nat
  kn : List Nat
  nx : List Nat

def Fx.k (F : Fx) (a : Nat) : Nat := F.kn.getD a 0
def Fx.n (F : Fx) (a : Nat) : Nat := F.nx.getD a 0

structure Fx.Ok (F : Fx) : Prop where
  lk : F.kn.length = F.R
  ln : F.nx.length = F.R
  key : ∀ a, a < F.R → F.k a < F.K
  gt : ∀ a, a < F.R → a < F.n a
  le : ∀ a, a < F.R → F.n a ≤ F.R
  same : ∀ a, a < F.R → F.n a < F.R → F.k (F.n a) = F.k a
  next : ∀ a b, a < F.R → a < b → b < F.n a → F.k b ≠ F.k a

/-- What turns. -/
structure Df where
  came : Nat
  row : List En
  fs : List Nat
  al : List En
  gp : List Nat
  st : Nat → Bool

def Df.f (s : Df) (n : Nat) : Nat := s.fs.getD n 0
def Df.g (s : Df) (n : Nat) : Nat := s.gp.getD n 0
def Df.r (s : Df) (a : Nat) : En := s.row.getD a En.zero
def Df.a (s : Df) (n : Nat) : En := s.al.getD n En.zero
/-- Whether the entry of a place is there. -/
def th (F : Fx) (s : Df) (a : Nat) : Bool := decide (a < s.came) && decide (s.f (F.k a) ≤ a)

/-- What stands at a place of the list: places and gaps by one number. -/
def val (F : Fx) (s : Df) (c : Nat) : Option En :=
  if c % (F.K + 1) = F.K then (if th F s (c / (F.K + 1)) then some (s.r (c / (F.K + 1))) else none)
  else (if s.st (c % (F.K + 1)) && decide (s.g (c % (F.K + 1)) = c / (F.K + 1)) then some (s.a (c % (F.K + 1))) else none)

def top (F : Fx) (s : Df) : Nat := s.came * (F.K + 1) + F.K
def view (F : Fx) (s : Df) : List En := (List.range (top F s)).filterMap (val F s)

structure Inv (F : Fx) (num : ByteArray → Nat) (kw : ByteArray → Prop) (s : Df) : Prop where
  fx : F.Ok
  nu : Nu F.K num kw
  lr : s.row.length = F.R
  lf : s.fs.length = F.K
  la : s.al.length = F.K
  lg : s.gp.length = F.K
  came : s.came ≤ F.R
  st : ∀ n, s.st n = true → n < F.K ∧ s.g n ≤ s.came
  rise : ∀ m n, s.st m = true → s.st n = true → m < n → s.g m ≤ s.g n
  ahead : ∀ m a, s.st m = true → th F s a = true → m ≤ F.k a → s.g m ≤ a
  fle : ∀ n, n < F.K → s.f n ≤ F.R
  fkey : ∀ n, n < F.K → s.f n < F.R → F.k (s.f n) = n
  left : ∀ a, s.came ≤ a → a < F.R → s.f (F.k a) ≤ a
  kr : ∀ a, a < F.R → kw (s.r a).key ∧ num (s.r a).key = F.k a
  ka : ∀ n, s.st n = true → kw (s.a n).key ∧ num (s.a n).key = n

theorem div_code (K a n : Nat) (h : n ≤ K) : (a * (K + 1) + n) / (K + 1) = a := by
  rw [Nat.mul_comm, Nat.mul_add_div (by omega), Nat.div_eq_of_lt (by omega), Nat.add_zero]
theorem mod_code (K a n : Nat) (h : n ≤ K) : (a * (K + 1) + n) % (K + 1) = n := by
  rw [Nat.mul_comm, Nat.mul_add_mod, Nat.mod_eq_of_lt (by omega)]

theorem lt_code {K a n b m : Nat} (h : a * (K + 1) + n < b * (K + 1) + m) (hn : n ≤ K) (hm : m ≤ K) : a < b ∨ (a = b ∧ n < m) := by
  by_cases h1 : a < b
  · exact .inl h1
  · by_cases h2 : a = b
    · subst h2; exact .inr ⟨rfl, by omega⟩
    · have h3 : (b + 1) * (K + 1) ≤ a * (K + 1) := Nat.mul_le_mul_right _ (by omega)
      rw [Nat.succ_mul] at h3
      omega

theorem code_lt {K a n b m : Nat} (hn : n ≤ K) (h : a < b ∨ (a = b ∧ n < m)) : a * (K + 1) + n < b * (K + 1) + m := by
  rcases h with h | ⟨rfl, h⟩
  · have h3 : (a + 1) * (K + 1) ≤ b * (K + 1) := Nat.mul_le_mul_right _ (by omega)
    rw [Nat.succ_mul] at h3
    omega
  · omega

theorem code_of (K c : Nat) : c = c / (K + 1) * (K + 1) + c % (K + 1) ∧ c % (K + 1) ≤ K := by
  have := Nat.div_add_mod c (K + 1)
  have h := Nat.mod_lt c (show 0 < K + 1 by omega)
  rw [Nat.mul_comm] at this
  exact ⟨this.symm, by omega⟩

/-- What a number of the list stands for. -/
theorem val_some {F : Fx} {s : Df} {c : Nat} {x : En} (h : val F s c = some x) :
    (∃ a, c = a * (F.K + 1) + F.K ∧ th F s a = true ∧ x = s.r a) ∨ (∃ n, n < F.K ∧ c = s.g n * (F.K + 1) + n ∧ s.st n = true ∧ x = s.a n) := by
  obtain ⟨e, hm⟩ := code_of F.K c
  unfold val at h
  split at h
  · rename_i hK
    split at h
    · rename_i ht
      refine .inl ⟨c / (F.K + 1), by rw [hK] at e; exact e, ht, (Option.some.inj h).symm⟩
    · cases h
  · rename_i hK
    split at h
    · rename_i ht
      simp only [Bool.and_eq_true, decide_eq_true_eq] at ht
      refine .inr ⟨c % (F.K + 1), by omega, by rw [ht.2]; exact e, ht.1, (Option.some.inj h).symm⟩
    · cases h

theorem val_row (F : Fx) (s : Df) (a : Nat) : val F s (a * (F.K + 1) + F.K) = if th F s a then some (s.r a) else none := by
  unfold val
  rw [mod_code _ _ _ (Nat.le_refl _), div_code _ _ _ (Nat.le_refl _), if_pos rfl]

theorem val_gap (F : Fx) (s : Df) (a n : Nat) (h : n < F.K) : val F s (a * (F.K + 1) + n) = if s.st n && decide (s.g n = a) then some (s.a n) else none := by
  unfold val
  rw [mod_code _ _ _ (by omega), div_code _ _ _ (by omega), if_neg (by omega)]

theorem range_split (n c : Nat) (h : c < n) : List.range n = List.range c ++ c :: List.range' (c + 1) (n - c - 1) := by
  rw [List.range_eq_range', List.range_eq_range']
  have : n = c + (1 + (n - c - 1)) := by omega
  conv => lhs; rw [this]
  rw [← List.range'_append_1, Nat.zero_add, Nat.add_comm 1, List.range'_succ]

/-- The list around one place. -/
theorem view_split (F : Fx) (s : Df) (c : Nat) (h : c < top F s) : view F s = (List.range c).filterMap (val F s) ++ ((val F s c).toList ++ (List.range' (c + 1) (top F s - c - 1)).filterMap (val F s)) := by
  unfold view
  rw [range_split _ c h, List.filterMap_append, List.filterMap_cons]
  cases val F s c <;> rfl

theorem fm_congr {f g : Nat → Option En} {l : List Nat} (h : ∀ x ∈ l, f x = g x) : l.filterMap f = l.filterMap g := by
  induction l with
  | nil => rfl
  | cons a r ih =>
    rw [List.filterMap_cons, List.filterMap_cons, h a (by simp), ih fun x hx => h x (by simp [hx])]

/-- The list behind a change of one place. -/
theorem view_turn (F : Fx) (s s' : Df) (c : Nat) (hc : c < top F s) (ht : s'.came = s.came) (h : ∀ d, d ≠ c → val F s' d = val F s d) : view F s' = (List.range c).filterMap (val F s) ++ ((val F s' c).toList ++ (List.range' (c + 1) (top F s - c - 1)).filterMap (val F s)) := by
  have e : top F s' = top F s := by unfold top; rw [ht]
  rw [view_split F s' c (by rw [e]; exact hc), e]
  rw [fm_congr (f := val F s') (g := val F s) (l := List.range c) fun x hx => h x (by have := List.mem_range.1 hx; omega)]
  rw [fm_congr (f := val F s') (g := val F s) (l := List.range' (c + 1) (top F s - c - 1)) fun x hx => h x (by have := List.mem_range'_1.1 hx; omega)]

theorem mem_pre {F : Fx} {s : Df} {c : Nat} {x : En} (h : x ∈ (List.range c).filterMap (val F s)) : ∃ d, d < c ∧ val F s d = some x := by
  obtain ⟨d, hd, hv⟩ := List.mem_filterMap.1 h
  exact ⟨d, List.mem_range.1 hd, hv⟩

theorem putL_same {A B : List En} {x e : En} (hA : ∀ y ∈ A, Pg.is e.key y = false) (hx : Pg.is e.key x = true) : Pg.putL (A ++ x :: B) e = A ++ e :: B := by
  unfold Pg.putL
  have h1 : (A ++ x :: B).any (Pg.is e.key) = true := by simp [hx]
  have h2 : (A ++ x :: B).findIdx (Pg.is e.key) = A.length := by
    rw [List.findIdx_append, if_neg, List.findIdx_cons, hx]
    · simp
    · intro hc
      obtain ⟨y, hy, hp⟩ := List.findIdx_lt_length.1 hc
      rw [hA y hy] at hp
      cases hp
  rw [if_pos h1, h2]
  simp

theorem idx_at {A B : List En} {p : En → Bool} (hA : ∀ y ∈ A, p y = false) (hB : B = [] ∨ ∃ x r, B = x :: r ∧ p x = true) : (A ++ B).findIdx p = A.length := by
  rw [List.findIdx_append, if_neg]
  · rcases hB with rfl | ⟨x, r, rfl, hx⟩
    · simp
    · rw [List.findIdx_cons, hx]; simp
  · intro hc
    obtain ⟨y, hy, hp⟩ := List.findIdx_lt_length.1 hc
    rw [hA y hy] at hp
    cases hp

theorem putL_new {A B : List En} {e : En} (h1 : ∀ y ∈ A ++ B, Pg.is e.key y = false) (hA : ∀ y ∈ A, Ky.lt e.key y.key = false) (hB : B = [] ∨ ∃ x r, B = x :: r ∧ Ky.lt e.key x.key = true) : Pg.putL (A ++ B) e = A ++ e :: B := by
  unfold Pg.putL
  have hn : (A ++ B).any (Pg.is e.key) = false := by
    rw [List.any_eq_false]
    intro y hy
    rw [h1 y hy]
    simp
  rw [if_neg (by rw [hn]; simp), idx_at hA hB]
  unfold Pg.ins
  simp

def without (l : List En) (key : ByteArray) : List En := if l.any (Pg.is key) then Pg.del l (l.findIdx (Pg.is key)) else l

theorem without_same {A B : List En} {x : En} {key : ByteArray} (hA : ∀ y ∈ A, Pg.is key y = false) (hx : Pg.is key x = true) : without (A ++ x :: B) key = A ++ B := by
  unfold without
  rw [if_pos (by simp [hx]), idx_at hA (.inr ⟨x, B, rfl, hx⟩)]
  unfold Pg.del
  rw [List.take_left' rfl, List.drop_append]
  simp

theorem without_none {l : List En} {key : ByteArray} (h : ∀ y ∈ l, Pg.is key y = false) : without l key = l := by
  unfold without
  have hn : l.any (Pg.is key) = false := by
    rw [List.any_eq_false]
    intro y hy
    rw [h y hy]
    simp
  rw [if_neg (by rw [hn]; simp)]

section
variable {F : Fx} {num : ByteArray → Nat} {kw : ByteArray → Prop} {s : Df}

theorem Inv.known (h : Inv F num kw s) {c : Nat} {x : En} (hv : val F s c = some x) : kw x.key := by
  rcases val_some hv with ⟨a, _, ht, rfl⟩ | ⟨n, _, _, hs, rfl⟩
  · unfold th at ht
    simp only [Bool.and_eq_true, decide_eq_true_eq] at ht
    have := h.came
    exact (h.kr a (by omega)).1
  · exact (h.ka n hs).1

/-- With which number something stands in the list. -/
theorem Inv.nmb (h : Inv F num kw s) {c : Nat} {x : En} (hv : val F s c = some x) : (∃ a, c = a * (F.K + 1) + F.K ∧ th F s a = true ∧ num x.key = F.k a ∧ a < s.came ∧ s.f (F.k a) ≤ a) ∨ (∃ n, n < F.K ∧ c = s.g n * (F.K + 1) + n ∧ s.st n = true ∧ num x.key = n) := by
  rcases val_some hv with ⟨a, hc, ht, rfl⟩ | ⟨n, hn, hc, hs, rfl⟩
  · have ht2 := ht
    unfold th at ht2
    simp only [Bool.and_eq_true, decide_eq_true_eq] at ht2
    have := h.came
    exact .inl ⟨a, hc, ht, (h.kr a (by omega)).2, ht2.1, ht2.2⟩
  · exact .inr ⟨n, hn, hc, hs, (h.ka n hs).2⟩

theorem Inv.is (h : Inv F num kw s) {c : Nat} {x : En} (hv : val F s c = some x) {key : ByteArray} (hk : kw key) : Pg.is key x = decide (num x.key = num key) := by
  unfold Pg.is
  exact h.nu.is _ _ (h.known hv) hk

theorem Inv.gr (h : Inv F num kw s) {c : Nat} {x : En} (hv : val F s c = some x) {key : ByteArray} (hk : kw key) : Ky.lt key x.key = decide (num key < num x.key) := h.nu.le _ _ hk (h.known hv)
theorem Inv.ls (h : Inv F num kw s) {c : Nat} {x : En} (hv : val F s c = some x) {key : ByteArray} (hk : kw key) : Ky.lt x.key key = decide (num x.key < num key) := h.nu.le _ _ (h.known hv) hk

/-- Ahead of an entry in a gap stands none with its key. -/
theorem Inv.first_gap (h : Inv F num kw s) {n : Nat} (hs : s.st n = true) {key : ByteArray} (hk : kw key) (hn : num key = n) : ∀ y ∈ (List.range (s.g n * (F.K + 1) + n)).filterMap (val F s), Pg.is key y = false := by
  intro y hy
  obtain ⟨d, hd, hv⟩ := mem_pre hy
  have hnK := (h.st n hs).1
  rw [h.is hv hk, hn, decide_eq_false_iff_not]
  intro he
  rcases h.nmb hv with ⟨a, hc, ht, hna, _, _⟩ | ⟨m, hm, hc, hsm, hna⟩
  · have := h.ahead n a hs ht (by omega)
    rw [hc] at hd
    have := lt_code hd (Nat.le_refl _) (by omega)
    omega
  · have : m = n := by omega
    subst this
    omega

theorem Inv.first_row (h : Inv F num kw s) {n : Nat} (hs : s.st n = false) {key : ByteArray} (hk : kw key) (hn : num key = n) : ∀ y ∈ (List.range (s.f n * (F.K + 1) + F.K)).filterMap (val F s), Pg.is key y = false := by
  intro y hy
  obtain ⟨d, hd, hv⟩ := mem_pre hy
  rw [h.is hv hk, hn, decide_eq_false_iff_not]
  intro he
  rcases h.nmb hv with ⟨a, hc, ht, hna, h1, h2⟩ | ⟨m, hm, hc, hsm, hna⟩
  · rw [hc] at hd
    have := lt_code hd (Nat.le_refl _) (by omega)
    have e : F.k a = n := by omega
    rw [e] at h2
    omega
  · have : m = n := by omega
    subst this
    rw [hs] at hsm
    cases hsm

theorem Inv.none (h : Inv F num kw s) {n : Nat} (hs : s.st n = false) (hf : s.came ≤ s.f n) {key : ByteArray} (hk : kw key) (hn : num key = n) : ∀ y ∈ view F s, Pg.is key y = false := by
  intro y hy
  obtain ⟨d, hd, hv⟩ := mem_pre hy
  rw [h.is hv hk, hn, decide_eq_false_iff_not]
  intro he
  rcases h.nmb hv with ⟨a, hc, ht, hna, h1, h2⟩ | ⟨m, hm, hc, hsm, hna⟩
  · have e : F.k a = n := by omega
    rw [e] at h2
    omega
  · have : m = n := by omega
    subst this
    rw [hs] at hsm
    cases hsm
end

theorem getD_set {α : Type} (l : List α) (i j : Nat) (x d : α) (hi : i < l.length) : (l.set i x).getD j d = if j = i then x else l.getD j d := by
  by_cases h : j = i
  · subst h
    simp [List.getD, hi]
  · simp [List.getD, h, Ne.symm h]

def putA (s : Df) (n : Nat) (e : En) : Df := { s with al := s.al.set n e }
def putR (s : Df) (a : Nat) (e : En) : Df := { s with row := s.row.set a e }
def putN (s : Df) (n : Nat) (e : En) (g : Nat) : Df := { s with al := s.al.set n e, gp := s.gp.set n g, st := fun m => if m = n then true else s.st m }
def rmA (s : Df) (n : Nat) : Df := { s with st := fun m => if m = n then false else s.st m }
def take (F : Fx) (s : Df) (a : Nat) : Df := { s with fs := s.fs.set (F.k a) (F.n a) }
def come1 (s : Df) : Df := { s with came := s.came + 1 }

/-- Where one that is new is to stand. -/
structure Gap (F : Fx) (s : Df) (n g : Nat) : Prop where
  came : g ≤ s.came
  row : ∀ a, th F s a = true → n < F.k a → g ≤ a
  gap : ∀ m, s.st m = true → n < m → g ≤ s.g m
  one : g = s.came ∨ (th F s g = true ∧ n < F.k g) ∨ ∃ m, s.st m = true ∧ n < m ∧ s.g m = g

section
variable {F : Fx} {num : ByteArray → Nat} {kw : ByteArray → Prop} {s : Df}

theorem putA_inv (h : Inv F num kw s) {n : Nat} {e : En} (hs : s.st n = true) (hk : kw e.key) (hn : num e.key = n) : Inv F num kw (putA s n e) := by
  have hl := h.la
  have hnK := (h.st n hs).1
  refine { h with la := by simpa [putA] using hl, ka := fun m hm => ?_ }
  show kw (Df.a (putA s n e) m).key ∧ num (Df.a (putA s n e) m).key = m
  unfold Df.a putA
  simp only
  rw [getD_set _ _ _ _ _ (by omega)]
  split
  · rename_i hmn; subst hmn; exact ⟨hk, hn⟩
  · exact h.ka m hm

theorem putA_view (h : Inv F num kw s) {n : Nat} {e : En} (hs : s.st n = true) (hk : kw e.key) (hn : num e.key = n) : view F (putA s n e) = Pg.putL (view F s) e := by
  have hl := h.la
  obtain ⟨hnK, hg⟩ := h.st n hs
  have hc : s.g n * (F.K + 1) + n < top F s := code_lt (by omega) (by omega)
  have hv : val F s (s.g n * (F.K + 1) + n) = some (s.a n) := by rw [val_gap _ _ _ _ hnK, hs]; simp
  have hv' : val F (putA s n e) (s.g n * (F.K + 1) + n) = some e := by
    rw [val_gap _ _ _ _ hnK]
    have : (putA s n e).a n = e := by unfold Df.a putA; simp only; rw [getD_set _ _ _ _ _ (by omega), if_pos rfl]
    rw [this]
    show (if s.st n && decide (s.g n = s.g n) then some e else none) = some e
    rw [hs]; simp
  rw [view_turn F s (putA s n e) _ hc rfl, hv', view_split F s _ hc, hv]
  · exact (putL_same (h.first_gap hs hk hn) (by rw [h.is hv hk, (h.ka n hs).2, hn]; simp)).symm
  · intro d hd
    obtain ⟨e1, e2⟩ := code_of F.K d
    rw [e1]
    by_cases hK : d % (F.K + 1) = F.K
    · rw [hK, val_row, val_row]; rfl
    · rw [val_gap _ _ _ _ (by omega), val_gap _ _ _ _ (by omega)]
      show (if s.st _ && decide (s.g _ = _) then some ((putA s n e).a _) else none) = _
      by_cases hm : d % (F.K + 1) = n
      · have : s.g n ≠ d / (F.K + 1) := fun hh => hd (by rw [e1, hm, hh])
        rw [hm]
        simp [this]
      · have : (putA s n e).a (d % (F.K + 1)) = s.a (d % (F.K + 1)) := by unfold Df.a putA; simp only; rw [getD_set _ _ _ _ _ (by omega), if_neg hm]
        rw [this]

theorem putR_inv (h : Inv F num kw s) {n : Nat} {e : En} (hn : n < F.K) (hf : s.f n < s.came) (hk : kw e.key) (hne : num e.key = n) : Inv F num kw (putR s (s.f n) e) := by
  have hl := h.lr
  have hc := h.came
  refine { h with lr := by simpa [putR] using hl, kr := fun a ha => ?_ }
  unfold Df.r putR
  simp only
  rw [getD_set _ _ _ _ _ (by omega)]
  split
  · rename_i hmn; subst hmn; exact ⟨hk, by rw [h.fkey n hn (by omega)]; exact hne⟩
  · exact h.kr a ha

theorem putR_view (h : Inv F num kw s) {n : Nat} {e : En} (hn : n < F.K) (hs : s.st n = false) (hf : s.f n < s.came) (hk : kw e.key) (hne : num e.key = n) : view F (putR s (s.f n) e) = Pg.putL (view F s) e := by
  have hl := h.lr
  have hcm := h.came
  have hkf := h.fkey n hn (by omega)
  have hth : th F s (s.f n) = true := by unfold th; rw [hkf]; simp [hf]
  have hc : s.f n * (F.K + 1) + F.K < top F s := code_lt (Nat.le_refl _) (by omega)
  have hv : val F s (s.f n * (F.K + 1) + F.K) = some (s.r (s.f n)) := by rw [val_row, if_pos hth]
  have hv' : val F (putR s (s.f n) e) (s.f n * (F.K + 1) + F.K) = some e := by
    rw [val_row, show th F (putR s (s.f n) e) (s.f n) = th F s (s.f n) from rfl, if_pos hth]
    unfold Df.r putR
    simp only
    rw [getD_set _ _ _ _ _ (by omega), if_pos rfl]
  rw [view_turn F s (putR s (s.f n) e) _ hc rfl, hv', view_split F s _ hc, hv]
  · refine (putL_same (h.first_row hs hk hne) ?_).symm
    rw [h.is hv hk, (h.kr _ (by omega)).2, hkf, hne]; simp
  · intro d hd
    obtain ⟨e1, e2⟩ := code_of F.K d
    rw [e1]
    by_cases hK : d % (F.K + 1) = F.K
    · rw [hK, val_row, val_row]
      have hne2 : d / (F.K + 1) ≠ s.f n := fun hh => hd (by rw [e1, hK, hh])
      have : (putR s (s.f n) e).r (d / (F.K + 1)) = s.r (d / (F.K + 1)) := by unfold Df.r putR; simp only; rw [getD_set _ _ _ _ _ (by omega), if_neg hne2]
      rw [this]; rfl
    · rw [val_gap _ _ _ _ (by omega), val_gap _ _ _ _ (by omega)]; rfl

theorem putN_g (h : Inv F num kw s) {n g : Nat} {e : En} (hn : n < F.K) (m : Nat) : (putN s n e g).g m = if m = n then g else s.g m := by
  have := h.lg
  unfold Df.g putN
  simp only
  rw [getD_set _ _ _ _ _ (by omega)]
theorem putN_a (h : Inv F num kw s) {n g : Nat} {e : En} (hn : n < F.K) (m : Nat) : (putN s n e g).a m = if m = n then e else s.a m := by
  have := h.la
  unfold Df.a putN
  simp only
  rw [getD_set _ _ _ _ _ (by omega)]

theorem putN_inv (h : Inv F num kw s) {n g : Nat} {e : En} (hn : n < F.K) (hs : s.st n = false) (hf : s.came ≤ s.f n) (hg : Gap F s n g) (hk : kw e.key) (hne : num e.key = n) : Inv F num kw (putN s n e g) := by
  have hl := h.la
  have hl2 := h.lg
  have hst : ∀ m, (putN s n e g).st m = if m = n then true else s.st m := fun m => rfl
  refine { h with la := by simpa [putN] using hl, lg := by simpa [putN] using hl2, st := fun m hm => ?_, rise := fun m k hm hk2 hlt => ?_, ahead := fun m a hm ht hle => ?_, ka := fun m hm => ?_ }
  · rw [hst] at hm
    rw [putN_g h hn]
    split
    · rename_i hh; subst hh; exact ⟨hn, hg.came⟩
    · rename_i hh; rw [if_neg hh] at hm; exact h.st m hm
  · rw [hst] at hm hk2
    rw [putN_g h hn, putN_g h hn]
    by_cases h1 : m = n
    · subst h1
      rw [if_neg (by omega)] at hk2
      rw [if_pos rfl, if_neg (by omega)]
      exact hg.gap k hk2 hlt
    · rw [if_neg h1] at hm
      rw [if_neg h1]
      by_cases h2 : k = n
      · subst h2
        rw [if_pos rfl]
        rcases hg.one with h3 | ⟨h3, h4⟩ | ⟨q, h3, h4, h5⟩
        · rw [h3]; exact (h.st m hm).2
        · exact h.ahead m g hm h3 (by omega)
        · rw [← h5]; exact h.rise m q hm h3 (by omega)
      · rw [if_neg h2] at hk2 ⊢
        exact h.rise m k hm hk2 hlt
  · rw [hst] at hm
    rw [putN_g h hn]
    have ht2 : th F s a = true := ht
    by_cases h1 : m = n
    · subst h1
      rw [if_pos rfl]
      by_cases h2 : F.k a = m
      · unfold th at ht2
        simp only [Bool.and_eq_true, decide_eq_true_eq] at ht2
        rw [h2] at ht2
        omega
      · exact hg.row a ht2 (by omega)
    · rw [if_neg h1] at hm ⊢
      exact h.ahead m a hm ht2 hle
  · rw [hst] at hm
    rw [putN_a h hn]
    split
    · rename_i hh; subst hh; exact ⟨hk, hne⟩
    · rename_i hh; rw [if_neg hh] at hm; exact h.ka m hm

/-- The first of some that are there. -/
theorem head_fm (f : Nat → Option En) (p : En → Bool) : ∀ N c, (∀ d, c ≤ d → d < c + N → ∀ x, f d = some x → p x = true ∨ ∃ d' y, c ≤ d' ∧ d' < d ∧ f d' = some y ∧ p y = true) → (List.range' c N).filterMap f = [] ∨ ∃ x r, (List.range' c N).filterMap f = x :: r ∧ p x = true := by
  intro N
  induction N with
  | zero => intro c _; left; rfl
  | succ N ih =>
    intro c hc
    rw [List.range'_succ, List.filterMap_cons]
    cases hf : f c with
    | some x =>
      right
      refine ⟨x, _, rfl, ?_⟩
      rcases hc c (Nat.le_refl _) (by omega) x hf with h | ⟨d', y, h1, h2, _⟩
      · exact h
      · omega
    | none =>
      refine ih (c + 1) fun d h1 h2 x hx => ?_
      rcases hc d (by omega) (by omega) x hx with h | ⟨d', y, h3, h4, h5, h6⟩
      · exact .inl h
      · refine .inr ⟨d', y, ?_, h4, h5, h6⟩
        by_cases hd : d' = c
        · subst hd; rw [hf] at h5; cases h5
        · omega

theorem putN_view (h : Inv F num kw s) {n g : Nat} {e : En} (hn : n < F.K) (hs : s.st n = false) (hf : s.came ≤ s.f n) (hg : Gap F s n g) (hk : kw e.key) (hne : num e.key = n) : view F (putN s n e g) = Pg.putL (view F s) e := by
  have hc : g * (F.K + 1) + n < top F s := code_lt (by omega) (by have := hg.came; omega)
  have hv : val F s (g * (F.K + 1) + n) = none := by rw [val_gap _ _ _ _ hn, hs]; simp
  have hv' : val F (putN s n e g) (g * (F.K + 1) + n) = some e := by
    rw [val_gap _ _ _ _ hn, putN_g h hn, putN_a h hn]
    show (if (if n = n then true else s.st n) && _ then _ else _) = _
    simp
  have hnone := h.none hs hf hk hne
  rw [view_turn F s (putN s n e g) _ hc rfl, hv', view_split F s _ hc, hv]
  · rw [view_split F s _ hc, hv] at hnone
    simp only [Option.toList_none, List.nil_append, Option.toList_some, List.singleton_append] at hnone ⊢
    refine (putL_new hnone (fun y hy => ?_) ?_).symm
    · obtain ⟨d, hd, hy2⟩ := mem_pre hy
      rw [h.gr hy2 hk, hne, decide_eq_false_iff_not]
      intro hlt
      rcases h.nmb hy2 with ⟨a, hca, ht, hna, _, _⟩ | ⟨m, hm, hca, hsm, hna⟩
      · rw [hca] at hd
        have h1 := lt_code hd (Nat.le_refl _) (by omega)
        have h2 := hg.row a ht (by omega)
        omega
      · rw [hca] at hd
        have h1 := lt_code hd (by omega) (by omega)
        have h2 := hg.gap m hsm (by omega)
        omega
    · refine head_fm (val F s) (fun x => Ky.lt e.key x.key) _ _ fun d h1 h2 x hx => ?_
      have hd2 : d < top F s := by omega
      by_cases hdK : d < g * (F.K + 1) + F.K
      · left
        rw [h.gr hx hk, hne, decide_eq_true_eq]
        rcases h.nmb hx with ⟨a, hca, ht, hna, _, _⟩ | ⟨m, hm, hca, hsm, hna⟩
        · rw [hca] at h1 hdK
          have h3 := lt_code hdK (Nat.le_refl _) (Nat.le_refl _)
          have h4 := lt_code (show g * (F.K + 1) + n < a * (F.K + 1) + F.K by omega) (by omega) (Nat.le_refl _)
          omega
        · rw [hca] at h1 hdK
          have h3 := lt_code hdK (by omega) (Nat.le_refl _)
          have h4 := lt_code (show g * (F.K + 1) + n < s.g m * (F.K + 1) + m by omega) (by omega) (by omega)
          omega
      · have hgc : g < s.came := by
          have h3 : g * (F.K + 1) + F.K < s.came * (F.K + 1) + F.K := by unfold top at hd2; omega
          have := lt_code h3 (Nat.le_refl _) (Nat.le_refl _)
          omega
        rcases hg.one with h3 | ⟨h3, h4⟩ | ⟨m, h3, h4, h5⟩
        · omega
        · have hvg : val F s (g * (F.K + 1) + F.K) = some (s.r g) := by rw [val_row, if_pos h3]
          have hpg : Ky.lt e.key (s.r g).key = true := by
            rw [h.gr hvg hk, hne, decide_eq_true_eq, (h.kr g (by have := h.came; omega)).2]
            exact h4
          by_cases h6 : d = g * (F.K + 1) + F.K
          · left
            rw [h6, hvg] at hx
            cases hx
            exact hpg
          · exact .inr ⟨_, _, by omega, by omega, hvg, hpg⟩
        · have hmK := (h.st m h3).1
          have hvg : val F s (g * (F.K + 1) + m) = some (s.a m) := by rw [val_gap _ _ _ _ hmK, h3, h5]; simp
          refine .inr ⟨_, _, ?_, ?_, hvg, ?_⟩
          · omega
          · omega
          · show Ky.lt e.key (s.a m).key = true
            rw [h.gr hvg hk, hne, decide_eq_true_eq, (h.ka m h3).2]
            exact h4
  · intro d hd
    obtain ⟨e1, e2⟩ := code_of F.K d
    rw [e1]
    by_cases hK : d % (F.K + 1) = F.K
    · rw [hK, val_row, val_row]; rfl
    · rw [val_gap _ _ _ _ (by omega), val_gap _ _ _ _ (by omega), putN_g h hn, putN_a h hn]
      show (if (if d % (F.K + 1) = n then true else s.st _) && _ then _ else _) = _
      by_cases hm : d % (F.K + 1) = n
      · have : g ≠ d / (F.K + 1) := fun hh => hd (by rw [e1, hm, hh])
        rw [hm, hs]
        simp [this]
      · rw [if_neg hm, if_neg hm, if_neg hm]
end
end Dr
end Go.Proofs.YtlcbideongbmeaaGreat
