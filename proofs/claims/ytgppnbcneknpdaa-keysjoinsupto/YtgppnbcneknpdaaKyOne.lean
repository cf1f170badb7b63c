/- Rows of ranges that rise and don't touch: one alone has the same texts. -/
import Derived.Test.YtgppnbcneknpdaaKyUni
namespace Go.Proofs.Ytgppnbcneknpdaa.Ky
open Go.RowKit Go.Sort
set_option linter.unusedVariables false
set_option maxRecDepth 100000

/-- Each one behind another lies apart from it. -/
structure UnP (l : List Rg) : Prop where
  ne : ∀ x ∈ l, emp x = false
  ap : l.Pairwise fun x y => nil x.hi = false ∧ lt x.hi y.lo = true

theorem lt_of_lt_le {a b c : ByteArray} (h : lt a b = true) (k : lt c b = false) : lt a c = true := by
  cases e : lt a c with
  | true => rfl
  | false =>
    cases e2 : lt c a with
    | true =>
      rw [lt_trans e2 h] at k
      cases k
    | false =>
      rw [lt_total e e2] at h
      rw [h] at k
      cases k

theorem inn_lo {x : Rg} (h : emp x = false) : inn x x.lo = true := by
  unfold emp at h
  unfold inn
  rw [lt_irrefl]
  simpa using h

theorem hits_of {l : List Rg} {x : Rg} {k : ByteArray} (hx : x ∈ l) (h : inn x k = true) : hits l k = true := by
  unfold hits
  exact List.any_eq_true.2 ⟨x, hx, h⟩

theorem hits_not {l : List Rg} {k : ByteArray} (h : ∀ x ∈ l, inn x k = false) : hits l k = false := by
  unfold hits
  rw [List.any_eq_false]
  intro x hx
  rw [h x hx]
  simp

theorem inn_low {x : Rg} {k : ByteArray} (h : lt k x.lo = true) : inn x k = false := by
  unfold inn
  rw [h]
  rfl

theorem inn_end {x : Rg} (h : nil x.hi = false) : inn x x.hi = false := by
  unfold inn below
  rw [h, lt_irrefl]
  simp

/-- What lies behind a range has no text up to its end. -/
theorem UnP.behind {x : Rg} {l : List Rg} (h : UnP (x :: l)) {k : ByteArray} (hk : lt x.hi k = false) : hits l k = false :=
  hits_not fun y hy => by
    have h1 := (List.pairwise_cons.1 h.ap).1 y hy
    refine inn_low ?_
    cases e : lt k y.lo with
    | true => rfl
    | false =>
      have := lt_of_lt_le h1.2 e
      rw [this] at hk
      cases hk

theorem UnP.tail {x : Rg} {l : List Rg} (h : UnP (x :: l)) : UnP l := ⟨fun y hy => h.ne y (List.mem_cons_of_mem _ hy), (List.pairwise_cons.1 h.ap).2⟩

theorem lo_lt_hi {x : Rg} (h : emp x = false) (hn : nil x.hi = false) : lt x.lo x.hi = true := by
  unfold emp below at h
  rw [hn] at h
  simpa using h

theorem UnP.open {x : Rg} {l : List Rg} (h : UnP (x :: l)) (hn : nil x.hi = true) : l = [] := by
  cases l with
  | nil => rfl
  | cons y l =>
    have := ((List.pairwise_cons.1 h.ap).1 y (by simp)).1
    rw [hn] at this
    cases this

/-- The first one begins where no other one begins ahead. -/
theorem UnP.first {x y : Rg} {a b : List Rg} (h1 : UnP (x :: a)) (h2 : UnP (y :: b)) (h : ∀ k, hits (x :: a) k = hits (y :: b) k) : lt x.lo y.lo = false := by
  cases e : lt x.lo y.lo with
  | false => rfl
  | true =>
    have g1 : hits (x :: a) x.lo = true := hits_of (by simp) (inn_lo (h1.ne x (by simp)))
    rw [h] at g1
    have g2 : hits (y :: b) x.lo = false := hits_not fun z hz => by
      rcases List.mem_cons.1 hz with rfl | hz
      · exact inn_low e
      · have h3 := (List.pairwise_cons.1 h2.ap).1 z hz
        exact inn_low (lt_trans (lt_trans e (lo_lt_hi (h2.ne y (by simp)) h3.1)) h3.2)
    rw [g2] at g1
    cases g1

/-- No end of a first one lies ahead of the other's. -/
theorem UnP.last {x y : Rg} {a b : List Rg} (h1 : UnP (x :: a)) (h2 : UnP (y :: b)) (h : ∀ k, hits (x :: a) k = hits (y :: b) k) (hlo : x.lo = y.lo) (hn : nil x.hi = false) : below x.hi y.hi = false := by
  cases e : below x.hi y.hi with
  | false => rfl
  | true =>
    have l1 := lo_lt_hi (h1.ne x (by simp)) hn
    have g1 : hits (y :: b) x.hi = true := hits_of (x := y) (by simp) (by
      unfold inn
      rw [e, ← hlo]
      cases e2 : lt x.hi x.lo with
      | false => rfl
      | true =>
        have := lt_trans l1 e2
        rw [lt_irrefl] at this
        cases this)
    rw [← h] at g1
    have g2 : hits (x :: a) x.hi = false := by
      have := h1.behind (lt_irrefl x.hi)
      unfold hits at this ⊢
      rw [List.any_cons, this, inn_end hn]
      rfl
    rw [g2] at g1
    cases g1

theorem nil_both {a b : ByteArray} (ha : nil a = true) (hb : nil b = true) : a = b := by
  rcases nil_cases a with ⟨_, rfl⟩ | ⟨h, _⟩
  · rcases nil_cases b with ⟨_, rfl⟩ | ⟨h, _⟩
    · rfl
    · rw [hb] at h
      cases h
  · rw [ha] at h
    cases h

theorem UnP.one : ∀ (a b : List Rg), UnP a → UnP b → (∀ k, hits a k = hits b k) → a = b
  | [], [], _, _, _ => rfl
  | [], y :: b, h1, h2, h => by
    have := hits_of (l := y :: b) (by simp) (inn_lo (h2.ne y (by simp)))
    rw [← h] at this
    cases this
  | x :: a, [], h1, h2, h => by
    have := hits_of (l := x :: a) (by simp) (inn_lo (h1.ne x (by simp)))
    rw [h] at this
    cases this
  | x :: a, y :: b, h1, h2, h => by
    have hlo : x.lo = y.lo := lt_total (h1.first h2 h) (h2.first h1 fun k => (h k).symm)
    have hhi : x.hi = y.hi := by
      cases n1 : nil x.hi with
      | true =>
        cases n2 : nil y.hi with
        | true => exact nil_both n1 n2
        | false =>
          have := h2.last h1 (fun k => (h k).symm) hlo.symm n2
          unfold below at this
          rw [n1] at this
          cases this
      | false =>
        have g1 := h1.last h2 h hlo n1
        cases n2 : nil y.hi with
        | true =>
          unfold below at g1
          rw [n2] at g1
          cases g1
        | false =>
          have g2 := h2.last h1 (fun k => (h k).symm) hlo.symm n2
          unfold below at g1 g2
          rw [n2] at g1
          rw [n1] at g2
          exact lt_total (by simpa using g1) (by simpa using g2)
    obtain ⟨xl, xh⟩ := x
    obtain ⟨yl, yh⟩ := y
    simp only at hlo hhi
    subst hlo
    subst hhi
    congr 1
    cases n1 : nil xh with
    | true => rw [h1.open n1, h2.open n1]
    | false =>
      refine UnP.one a b h1.tail h2.tail fun k => ?_
      cases e : lt xh k with
      | false => rw [h1.behind (k := k) e, h2.behind (k := k) e]
      | true =>
        have hk := h k
        have : inn ⟨xl, xh⟩ k = false := by
          unfold inn below
          have e2 : lt k xh = false := by
            cases e3 : lt k xh with
            | false => rfl
            | true =>
              have := lt_trans e e3
              rw [lt_irrefl] at this
              cases this
          simp only [n1, e2]
          simp
        unfold hits at hk ⊢
        rw [List.any_cons, List.any_cons, this] at hk
        simpa using hk

/-- What a union is, said of each two. -/
theorem Un.pair {l : List Rg} (h : Un l) : UnP l := by
  refine ⟨h.full, ?_⟩
  have key : ∀ (n i : Nat) x y, l[i]? = some x → l[i + n + 1]? = some y → nil x.hi = false ∧ lt x.hi y.lo = true := by
    intro n
    induction n with
    | zero =>
      intro i x y hx hy
      have := h.part i x y hx hy
      unfold apart at this
      simpa using this
    | succ n ih =>
      intro i x y hx hy
      have hl := (List.getElem?_eq_some_iff.1 hy).1
      have hz : l[i + n + 1]? = some l[i + n + 1] := List.getElem?_eq_getElem (by omega)
      obtain ⟨g1, g2⟩ := ih i x _ hx hz
      have := h.part (i + n + 1) _ y hz hy
      unfold apart at this
      simp only [Bool.and_eq_true, Bool.not_eq_true'] at this
      exact ⟨g1, lt_trans (lt_trans g2 (lo_lt_hi (h.full _ (List.mem_of_getElem? hz)) this.1)) this.2⟩
  rw [List.pairwise_iff_getElem]
  intro i j hi hj hij
  exact key (j - i - 1) i _ _ (List.getElem?_eq_getElem hi) (by rw [show i + (j - i - 1) + 1 = j by omega]; exact List.getElem?_eq_getElem hj)

end Go.Proofs.Ytgppnbcneknpdaa.Ky
