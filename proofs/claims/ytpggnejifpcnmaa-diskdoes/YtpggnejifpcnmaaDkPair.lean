/- A disk and a reference, apart from each other. -/
import Derived.Test.YtpggnejifpcnmaaDkRefM
import Derived.Test.YtpggnejifpcnmaaDkTwo
namespace Go.Proofs.Ytpggnejifpcnmaa
open Go.RowKit Go.Shelf Go.Maps
set_option linter.unusedVariables false

/-- A disk and a reference. -/
def Pr (w : World) (B R : Nat) (bs rs : List Nat) (d e : Dk) : Prop := Dsk w B bs d ∧ Rf w R rs e ∧ ∀ b ∈ bs, b ∉ rs

/-- What has become of them. -/
def PT (w w' : World) (B R : Nat) (bs rs : List Nat) (d e : Dk) : Prop := ∃ bs' rs', Pr w' B R bs' rs' d e ∧ Tn (bs ++ rs) w w' ∧ (∀ b ∈ bs', b ∈ bs ++ rs ∨ w.heap.size ≤ b) ∧ (∀ b ∈ rs', b ∈ bs ++ rs ∨ w.heap.size ≤ b)

section
variable {w w' w1 w2 : World} {B R : Nat} {bs rs : List Nat} {d e d1 e1 d2 e2 : Dk}

theorem Pr.below (h : Pr w B R bs rs d e) (k : Below w.heap.size w w') : Pr w' B R bs rs d e := ⟨h.1.below k, h.2.1.below k, h.2.2⟩
theorem Pr.tn (h : Pr w B R bs rs d e) {T : List Nat} (k : Tn T w w') (hT : ∀ b ∈ bs ++ rs, b ∉ T) : Pr w' B R bs rs d e := ⟨h.1.tn k (fun b hb => hT b (by simp [hb])), h.2.1.tn k (fun b hb => hT b (by simp [hb])), h.2.2⟩
theorem Pr.lt (h : Pr w B R bs rs d e) : ∀ b ∈ bs ++ rs, b < w.heap.size := by
  intro b hb
  rcases List.mem_append.1 hb with hb | hb
  · exact h.1.lt b hb
  · exact h.2.1.lt b hb

theorem PT.refl (h : Pr w B R bs rs d e) : PT w w B R bs rs d e := ⟨bs, rs, h, Tn.refl _ _, fun b hb => .inl (by simp [hb]), fun b hb => .inl (by simp [hb])⟩

theorem PT.trans (h : PT w w1 B R bs rs d e) (k : ∀ bs1 rs1, Pr w1 B R bs1 rs1 d e → PT w1 w2 B R bs1 rs1 d2 e2) : PT w w2 B R bs rs d2 e2 := by
  obtain ⟨bs1, rs1, h1, t1, a1, b1⟩ := h
  obtain ⟨bs2, rs2, h2, t2, a2, b2⟩ := k bs1 rs1 h1
  have hs : ∀ x ∈ bs1 ++ rs1, x ∈ bs ++ rs ∨ w.heap.size ≤ x := fun x hx => (List.mem_append.1 hx).elim (a1 x) (b1 x)
  refine ⟨bs2, rs2, h2, t1.trans t2 hs, fun b hb => ?_, fun b hb => ?_⟩
  · rcases a2 b hb with h | h
    · exact hs b h
    · exact .inr (Nat.le_trans t1.size h)
  · rcases b2 b hb with h | h
    · exact hs b h
    · exact .inr (Nat.le_trans t1.size h)

theorem PT.below (h : PT w w1 B R bs rs d e) (k : Below w1.heap.size w1 w2) : PT w w2 B R bs rs d e :=
  h.trans fun bs1 rs1 h1 => ⟨bs1, rs1, h1.below k, Tn.of_below k _, fun b hb => .inl (by simp [hb]), fun b hb => .inl (by simp [hb])⟩

theorem Pr.before (h : Pr w B R bs rs d e) (k : Below w.heap.size w w1) : PT w w1 B R bs rs d e := (PT.refl h).below k

theorem Pr.disk (h : Pr w B R bs rs d e) (k : Turns w w' B bs d1) : PT w w' B R bs rs d1 e := by
  obtain ⟨bs', h1, t, a⟩ := k
  refine ⟨bs', rs, ⟨h1, h.2.1.tn t (fun b hb hb' => h.2.2 b hb' hb), fun b hb hr => ?_⟩, t.mono (fun x hx => by simp [hx]), fun b hb => (a b hb).imp (fun h => by simp [h]) id, fun b hb => .inl (by simp [hb])⟩
  rcases a b hb with h0 | h0
  · exact h.2.2 b h0 hr
  · have := h.2.1.lt b hr
    omega

theorem Pr.ref (h : Pr w B R bs rs d e) (k : RTurns w w' R rs e1) : PT w w' B R bs rs d e1 := by
  obtain ⟨rs', h1, t, a⟩ := k
  refine ⟨bs, rs', ⟨h.1.tn t (fun b hb hb' => h.2.2 b hb hb'), h1, fun b hb hr => ?_⟩, t.mono (fun x hx => by simp [hx]), fun b hb => .inl (by simp [hb]), fun b hb => (a b hb).imp (fun h => by simp [h]) id⟩
  rcases a b hr with h0 | h0
  · exact h.2.2 b hb h0
  · have := h.1.lt b hb
    omega

/-- From a block on. -/
theorem PT.from (h : PT w w' B R bs rs d e) {m : Nat} (hm : ∀ b ∈ bs ++ rs, m ≤ b) (hw : m ≤ w.heap.size) : ∃ bs' rs', Pr w' B R bs' rs' d e ∧ (∀ b ∈ bs' ++ rs', m ≤ b) ∧ Below m w w' := by
  obtain ⟨bs', rs', h1, t, a, b⟩ := h
  refine ⟨bs', rs', h1, fun x hx => ?_, t.below hw hm⟩
  rcases (List.mem_append.1 hx).elim (a x) (b x) with h0 | h0
  · exact hm x h0
  · omega
end

/-- What an operation makes of a disk. -/
def Dk.step (d : Dk) (g : GOp) : Dk :=
  if g.dd = 0 then (d.write g.pl (sct g.a g.b)).2 else if g.dd = 1 then d.bar.2 else if g.dd = 2 then d else if g.dd = 3 then (d.crash g.ks).2 else if g.dd = 4 then (d.setFuse g.n g.ks).2 else if g.dd = 5 then { d with down := false } else (d.write g.pl g.os).2

end Go.Proofs.Ytpggnejifpcnmaa
