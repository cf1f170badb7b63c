/- What the document's Minus gathers; its union is the code's. -/
import Derived.Test.YtgppnbcneknpdaaKyJn
import Derived.Test.YtgppnbcneknpdaaKyPu
namespace Go.Proofs.Ytgppnbcneknpdaa
open Go.RowKit Go.Sort
set_option linter.unusedVariables false
set_option maxRecDepth 100000
namespace Ky

/-- What is left of a range without another one. -/
def part (r x : Rg) : List Rg := (if lt x.lo r.lo then [⟨x.lo, least x.hi r.lo⟩] else []) ++ (if nil r.hi then [] else [⟨if lt x.lo r.hi then r.hi else x.lo, x.hi⟩])
def gath (r : Rg) (l : List Rg) : List Rg := (full l).flatMap (part r)

theorem hits_part (r x : Rg) (k : ByteArray) (hr : emp r = false) (hx : emp x = false) : hits (part r x) k = (inn x k && !inn r k) := by
  obtain ⟨rl, rh⟩ := r
  obtain ⟨xl, xh⟩ := x
  obtain ⟨f, h0, h1, h2⟩ := ranks [rl, rh, xl, xh, k]
  simp only [List.forall_mem_cons, List.not_mem_nil, false_imp_iff, implies_true, and_true] at h1 h2
  unfold emp below at hr hx
  simp only [nil_eq] at hr hx
  simp only [h1, h2] at hr hx
  simp at hr hx
  show hits ((if lt xl rl then [⟨xl, least xh rl⟩] else []) ++ (if nil rh then [] else [⟨if lt xl rh then rh else xl, xh⟩])) k = (inn ⟨xl, xh⟩ k && !inn ⟨rl, rh⟩ k)
  have e1 : ∀ (c : Bool) (y : Rg), hits (if c then [y] else []) k = (c && inn y k) := fun c y => by cases c <;> simp [hits]
  have e2 : ∀ (c : Bool) (y : Rg), hits (if c then [] else [y]) k = (!c && inn y k) := fun c y => by cases c <;> simp [hits]
  have e3 : ∀ a b : List Rg, hits (a ++ b) k = (hits a k || hits b k) := fun a b => by unfold hits; simp
  rw [e3, e1, e2]
  have el : inn ⟨xl, least xh rl⟩ k = (!lt k xl && (if nil xh || (!nil rl && lt rl xh) then below k rl else below k xh)) := by
    unfold inn least
    show (!lt k xl && below k (if nil xh || (!nil rl && lt rl xh) then rl else xh)) = _
    split <;> rfl
  have em : inn ⟨if lt xl rh then rh else xl, xh⟩ k = ((if lt xl rh then !lt k rh else !lt k xl) && below k xh) := by
    unfold inn
    show (!lt k (if lt xl rh then rh else xl) && below k xh) = _
    split <;> rfl
  rw [el, em]
  unfold inn below
  simp only [nil_eq, h1, h2]
  rw [Bool.eq_iff_iff]
  by_cases c1 : f xl < f rl <;> by_cases c2 : f rh = 0 <;> by_cases c3 : f xh = 0 <;> by_cases c4 : f rl < f xh <;> by_cases c5 : f xl < f rh <;> by_cases c6 : f rl = 0 <;> simp [c1, c2, c3, c4, c5, c6] <;> omega

theorem hits_full (l : List Rg) (k : ByteArray) : hits (full l) k = hits l k := by
  unfold hits full
  rw [List.any_filter]
  congr 1
  funext x
  cases e : emp x with
  | false => simp
  | true => simp [emp_not e k]

theorem hits_gath (r : Rg) (l : List Rg) (k : ByteArray) (hr : emp r = false) : hits (gath r l) k = (hits l k && !inn r k) := by
  rw [← hits_full l k]
  have h := full_not l
  unfold gath
  generalize full l = m at *
  induction m with
  | nil => rfl
  | cons x m ih =>
    have e3 : ∀ a b : List Rg, hits (a ++ b) k = (hits a k || hits b k) := fun a b => by unfold hits; simp
    rw [List.flatMap_cons, e3, hits_part r x k hr (h x (by simp)), ih fun y hy => h y (by simp [hy])]
    have : hits (x :: m) k = (inn x k || hits m k) := by unfold hits; simp
    rw [this]
    cases inn x k <;> cases hits m k <;> cases inn r k <;> rfl

/-- What is left without a range, as the code has it and as the document has it. -/
theorem minus_one {l l1 l2 l3 : List Rg} {r : Rg} (h1 : l1.Perm (full l)) (s1 : Sorted l1) (h2 : l2.Perm (full (left (uni l1) (around r)))) (s2 : Sorted l2) (hr : emp r = false) (h3 : l3.Perm (full (gath r l))) (s3 : Sorted l3) : uni l2 = uni l3 := by
  obtain ⟨u1, g1⟩ := uni_facts h1 s1
  obtain ⟨u2, g2⟩ := uni_facts h2 s2
  obtain ⟨u3, g3⟩ := uni_facts h3 s3
  refine UnP.one _ _ u2.pair u3.pair fun k => ?_
  rw [g2, g3, hits_left, hits_around, g1, hits_gath r l k hr]

theorem minus_none {l l1 l2 l3 : List Rg} {r : Rg} (h1 : l1.Perm (full l)) (s1 : Sorted l1) (h2 : l2.Perm (full (left (uni l1) (around r)))) (s2 : Sorted l2) (hr : emp r = true) (h3 : l3.Perm (full l)) (s3 : Sorted l3) : uni l2 = uni l3 := by
  obtain ⟨u1, g1⟩ := uni_facts h1 s1
  obtain ⟨u2, g2⟩ := uni_facts h2 s2
  obtain ⟨u3, g3⟩ := uni_facts h3 s3
  refine UnP.one _ _ u2.pair u3.pair fun k => ?_
  rw [g2, g3, hits_left, hits_around, g1, emp_not hr k]
  simp

end Ky
end Go.Proofs.Ytgppnbcneknpdaa
