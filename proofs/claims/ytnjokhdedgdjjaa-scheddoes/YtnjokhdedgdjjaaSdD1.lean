/- A scheduler and the document's beside each other. -/
import Derived.Test.YtnjokhdedgdjjaaSdR8
import Derived.Test.YtnjokhdedgdjjaaSdS
import Derived.Test.YtnjokhdedgdjjaaSdQ
namespace Go.Proofs.Ytnjokhdedgdjjaa
open Go.RowKit Go.Maps
set_option linter.unusedVariables false
set_option maxRecDepth 100000

/-- The code's has s, the document's t; both are new since w0, and apart. -/
structure Dh (w0 w : World) (N : Nat) (g : Ge) (r : Gr) (s t : Sc) : Prop where
  sd : Sd w N g s
  rs : Rs w r t
  ap : ∀ x ∈ rt r, x ∉ ft g s ∧ x ≠ g.X ∧ x ∉ g.bs
  f1 : ∀ x ∈ ft g s, w0.heap.size ≤ x
  f2 : ∀ x ∈ rt r, w0.heap.size ≤ x
  below : Below w0.heap.size w0 w

section
variable {w0 w w' : World} {N : Nat} {g g' : Ge} {r r' : Gr} {s s' t t' : Sc}

theorem Dh.code (h : Dh w0 w N g r s t) (h1 : Sd w' N g' s') (h2 : Aft w w' g g' s s') : Dh w0 w' N g' r s' t where
  sd := h1
  rs := h.rs.tn h2.tn fun x hx => (h.ap x hx).1
  ap := fun x hx => by
    have hlt := h.rs.lt x hx
    have ha := h.ap x hx
    refine ⟨fun hm => ?_, ?_, fun hm => ?_⟩
    · rcases h2.sub x hm with h3 | h3
      · exact ha.1 h3
      · omega
    · rw [h2.same.2.2.1]
      exact ha.2.1
    · rcases h2.bs x hm with h3 | h3
      · exact ha.2.2 h3
      · omega
  f1 := fun x hx => by
    rcases h2.sub x hx with h3 | h3
    · exact h.f1 x h3
    · exact Nat.le_trans h.below.size h3
  f2 := h.f2
  below := h.below.trans (h2.tn.below h.below.size h.f1)

theorem Sd.lts (h : Sd w N g s) : (∀ x ∈ ft g s, x < w.heap.size) ∧ g.X < w.heap.size ∧ ∀ b ∈ g.bs, b < w.heap.size := by
  refine ⟨ft_sub h.blk.lt ?_ ?_ (fun k hk => row_block h.al k hk) (fun k hk => row_block h.dn k hk) (fun f hf => (h.fb f hf).lt) (fun a ha => ?_), h.bx.blk.lt, fun b hb => ?_⟩
  · obtain ⟨es, cl, hb⟩ := h.mp.block
    exact (Array.getElem?_eq_some_iff.1 hb).1
  · obtain ⟨sn, rc, hb⟩ := h.bx.ch
    exact (Array.getElem?_eq_some_iff.1 hb).1
  · obtain ⟨b, i, cs, rfl, hb, hc⟩ := h.cn a ha
    exact hb.lt
  · obtain ⟨x, hx⟩ := h.bx.mem hb
    exact hx.lt

theorem Dh.ref (h : Dh w0 w N g r s t) (h1 : Rs w' r' t') (h2 : RT w w' r r') : Dh w0 w' N g r' s t' where
  sd := h.sd.tn h2.tn (fun x hx hm => (h.ap x hm).1 hx) (fun hm => (h.ap _ hm).2.1 rfl) (fun b hb hm => (h.ap b hm).2.2 hb)
  rs := h1
  ap := fun x hx => by
    rcases h2.sub x hx with h3 | h3
    · exact h.ap x h3
    · obtain ⟨l1, l2, l3⟩ := h.sd.lts
      exact ⟨fun hm => by have := l1 x hm; omega, fun e => by omega, fun hm => by have := l3 x hm; omega⟩
  f1 := h.f1
  f2 := fun x hx => by
    rcases h2.sub x hx with h3 | h3
    · exact h.f2 x h3
    · exact Nat.le_trans h.below.size h3
  below := h.below.trans (h2.tn.below h.below.size h.f2)

theorem Dh.still (h : Dh w0 w N g r s t) (hb : Below w.heap.size w w') : Dh w0 w' N g r s t :=
  ⟨h.sd.below hb, h.rs.tn (Tn.of_below hb []) (by simp), h.ap, h.f1, h.f2, h.below.trans (hb.mono h.below.size)⟩

/-- All fibers count where C is, and it says the steps. -/
def Sc.one (s : Sc) (C : Addr) : Prop := (∀ f ∈ s.fl, f.cnt = C) ∧ s.D C = s.steps

theorem one_adv {C : Addr} (h : s.one C) {f : Fb} (hf : f ∈ s.fl) : (s.adv f).one C := by
  refine ⟨fun x hx => ?_, ?_⟩
  · have hx' : x ∈ (if 1 < f.left then s.fl.map (less f.num) else s.fl.filter fun x => x.num != f.num) := hx
    split at hx'
    · obtain ⟨y, hy, rfl⟩ := List.mem_map.1 hx'
      rw [less_cnt]
      exact h.1 y hy
    · exact h.1 x (List.mem_filter.1 hx').1
  · show (if C = f.cnt then wrap64 (s.D f.cnt + 1) else s.D C) = wrap64 (s.steps + 1)
    rw [if_pos (h.1 f hf).symm, h.1 f hf, h.2]
theorem one_advN {C : Addr} (h : s.one C) (n : Nat) : (s.advN n).one C := by
  unfold Sc.advN
  split
  · rename_i f hf
    exact one_adv h (fat_mem hf).1
  · exact h
theorem one_advs {C : Addr} (l : List Nat) : ∀ {s : Sc}, s.one C → (s.advs l).one C := by
  induction l with
  | nil => intro s h; exact h
  | cons x r ih => intro s h; exact ih (one_advN h x)
theorem one_round {C : Addr} (h : s.one C) (k : Nat) : (s.round k).one C := one_advs (s.al.take k) h

theorem runs_keep {P : Sc → Prop} (hP : ∀ s k, P s → P (s.round k)) {m d : Nat} (h : Runs m s d s') (h0 : P s) : P s' := by
  obtain ⟨n, h⟩ := h
  induction n generalizing m s d with
  | zero =>
    obtain ⟨_, _, rfl⟩ := h
    exact h0
  | succ n ih =>
    obtain ⟨_, _, d1, _, h⟩ := h
    exact ih (hP _ _ h0) h

end

/-- Both have the same. -/
structure Dq (w0 w : World) (N C : Nat) (g : Ge) (r : Gr) (s : Sc) : Prop where
  dh : Dh w0 w N g r s s
  rest : s.rest
  small : s.small
  ca : g.ca = [⟨C, 0, none⟩]
  one : s.one ⟨C, 0, none⟩

section
variable {w0 w w' : World} {N C : Nat} {g g' : Ge} {r r' : Gr} {s s' t t' : Sc}

theorem Dq.still (h : Dq w0 w N C g r s) (hb : Below w.heap.size w w') : Dq w0 w' N C g r s := ⟨h.dh.still hb, h.rest, h.small, h.ca, h.one⟩
theorem Dq.good (h : Dq w0 w N C g r s) : s.Good where
  rest := h.rest
  rs := h.dh.sd.rs
  ups := fun f hf => ⟨(h.dh.sd.up f hf).1, (h.dh.sd.up f hf).2.1⟩
  small := h.small
  fit := Nat.le_trans h.dh.sd.fits h.dh.sd.big
theorem Dq.cC (h : Dq w0 w N C g r s) : w.cell? ⟨C, 0, none⟩ = some (.int .i64 s.steps) := by
  obtain ⟨b, i, cs, e, hb, hc⟩ := h.dh.sd.cn ⟨C, 0, none⟩ (by rw [h.ca]; simp)
  cases e
  rw [hb.cell 0, hc, h.one.2]
theorem Dq.fll (h : Dq w0 w N C g r s) : s.fl.length ≤ 4096 ∧ s.box.length ≤ 4096 := by
  have := h.good.fit
  omega

end
end Go.Proofs.Ytnjokhdedgdjjaa
