/- A scheduler: as plain data, and in memory. -/
import Derived.Test.YtnjokhdedgdjjaaMpA
import Derived.Test.YtnjokhdedgdjjaaCeBmI
namespace Go.Proofs.Ytnjokhdedgdjjaa
open Go.RowKit Go.Maps
set_option linter.unusedVariables false
set_option maxRecDepth 100000

/-- A fiber that is alive: its number, where it lies, what is left, where it counts. -/
structure Fb where
  num : Nat
  blk : Nat
  left : Int
  cnt : Addr

/-- A scheduler: who is alive; the numbers in its list; who has finished; the steps of each; all steps; what the counters say. -/
structure Sc where
  room : Nat
  fl : List Fb
  al : List Nat
  box : List Nat
  done : List Int
  steps : Int
  D : Addr → Int

/-- Where it lies. -/
structure Ge where
  S : Nat
  M : Nat
  X : Nat
  C : Nat
  bs : List Nat
  va : Value
  vd : Value
  ca : List Addr

def fmap (fl : List Fb) (i : Nat) : Option Nat := (fl.find? fun f => f.num == i).map Fb.blk

/-- A fiber in an interface. -/
abbrev fv (b : Nat) : Value := .iface 46 (.pointer (some ⟨b, 0, none⟩))

/-- What the map holds: nobody, or a fiber. -/
def fvo : Option Nat → Value
  | some b => fv b
  | none => .nilIface

def fElem : Value → Option (DataW (Option Nat) × List MemPlace)
  | .iface t v => match v with
    | .pointer (some ⟨b, i, p⟩) => if t = 46 ∧ i = 0 ∧ p = none then some (.held (some b), []) else none
    | _ => none
  | .nilIface => some (.held none, [])
  | _ => none

theorem fReads : Reads fElem fvo where
  can := fun x => by cases x <;> simp [fvo, fv, fElem]
  inv := fun v z h => by
    unfold fElem at h
    split at h
    · split at h
      · split at h
        · rename_i hh
          obtain ⟨rfl, rfl, rfl⟩ := hh
          cases h
          exact ⟨some _, rfl, rfl⟩
        · cases h
      · cases h
    · cases h
      exact ⟨none, rfl, rfl⟩
    · cases h
theorem fZero (w : World) : (zeroValue 79).run Try.prog w = .ok (fvo none) w := by kernel_rfl

def fsome (fl : List Fb) (i : Nat) : Option (Option Nat) := (fmap fl i).map some

def ints (l : List Nat) : List Value := l.map fun (n : Nat) => .int .i64 (n : Int)
def intz (l : List Int) : List Value := l.map fun n => .int .i64 n

/-- The counters. -/
def Cn (w : World) (ca : List Addr) (D : Addr → Int) : Prop := ∀ a ∈ ca, ∃ b i cs, a = ⟨b, i, none⟩ ∧ Bk w b 2 cs ∧ cs[i]? = some (.int .i64 (D a))

/-- The scheduler in memory. -/
structure Sd (w : World) (N : Nat) (g : Ge) (s : Sc) : Prop where
  blk : Bk w g.S 61 #[.map (some g.M), g.va, .pointer (some ⟨g.X, 0, none⟩), g.vd, .int .i64 s.steps]
  mp : Mp fElem w g.M N (fsome s.fl)
  al : w.ownsRow 0 3 1 g.va s.al.length (ints s.al)
  dn : w.ownsRow 0 2 1 g.vd s.done.length (intz s.done)
  bx : BxI w g.X g.C s.room g.bs (s.box.map fun (n : Nat) => (n : Int))
  fb : ∀ f ∈ s.fl, Bk w f.blk 48 #[.int .i64 f.left, .pointer (some f.cnt)]
  nd : (s.fl.map Fb.blk).Nodup
  cin : ∀ f ∈ s.fl, f.cnt ∈ g.ca
  cn : Cn w g.ca s.D
  d1 : ∀ b ∈ g.bs, g.va.ownBlock ≠ some b
  d2 : ∀ a ∈ g.ca, g.vd.ownBlock ≠ some a.block
  hN : N ≤ 4611686018427387904
  rs : (s.fl.map Fb.num).Pairwise (· < ·)
  up : ∀ f ∈ s.fl, 1 ≤ f.num ∧ f.num ≤ s.done.length ∧ f.num < N
  fits : s.fl.length + s.box.length ≤ s.room
  big : s.room ≤ 4096

/-- The blocks that it may turn. -/
def ft (g : Ge) (s : Sc) : List Nat := g.S :: g.M :: g.C :: (g.va.ownBlock.toList ++ g.vd.ownBlock.toList ++ s.fl.map Fb.blk ++ g.ca.map Addr.block)

/-- What a call makes of it. -/
structure Aft (w w' : World) (g g' : Ge) (s s' : Sc) : Prop where
  tn : Tn (ft g s) w w'
  same : g'.S = g.S ∧ g'.M = g.M ∧ g'.X = g.X ∧ g'.C = g.C ∧ g'.ca = g.ca
  sub : ∀ x ∈ ft g' s', x ∈ ft g s ∨ w.heap.size ≤ x
  bs : ∀ b ∈ g'.bs, b ∈ g.bs ∨ w.heap.size ≤ b

theorem Aft.refl (w : World) (g : Ge) (s : Sc) : Aft w w g g s s := ⟨Tn.refl _ _, ⟨rfl, rfl, rfl, rfl, rfl⟩, fun x hx => .inl hx, fun x hx => .inl hx⟩
theorem Aft.trans {w w' w'' : World} {g g' g'' : Ge} {s s' s'' : Sc} (h : Aft w w' g g' s s') (k : Aft w' w'' g' g'' s' s'') : Aft w w'' g g'' s s'' :=
  ⟨h.tn.trans k.tn h.sub, ⟨k.same.1.trans h.same.1, k.same.2.1.trans h.same.2.1, k.same.2.2.1.trans h.same.2.2.1, k.same.2.2.2.1.trans h.same.2.2.2.1, k.same.2.2.2.2.trans h.same.2.2.2.2⟩, fun x hx => by
    rcases k.sub x hx with h1 | h1
    · exact h.sub x h1
    · exact .inr (Nat.le_trans h.tn.size h1), fun x hx => by
    rcases k.bs x hx with h1 | h1
    · exact h.bs x h1
    · exact .inr (Nat.le_trans h.tn.size h1)⟩

theorem Bk.ty {w : World} {b : Nat} {t t' : TypeId} {cs cs' : Array Value} (h : Bk w b t cs) (k : Bk w b t' cs') : t = t' := by
  unfold Bk at h k
  rw [h] at k
  simp at k
  exact k.2
theorem Bk.notMap {w : World} {b N : Nat} {t : TypeId} {cs : Array Value} {α : Type} {R : Value → Option (DataW α × List MemPlace)} {f : Nat → Option α} (h : Bk w b t cs) (k : Mp R w b N f) : False := by
  obtain ⟨es, cl, hb⟩ := k.block
  unfold Bk at h
  rw [h] at hb
  cases hb
theorem Ch.notMap {w : World} {b N r : Nat} {buf : Array Value} {α : Type} {R : Value → Option (DataW α × List MemPlace)} {f : Nat → Option α} (h : Ch w b r buf) (k : Mp R w b N f) : False := by
  obtain ⟨es, cl, hb⟩ := k.block
  obtain ⟨s, r, h⟩ := h
  rw [h] at hb
  cases hb
theorem row_bk {w : World} {base size n k : Nat} {e : TypeId} {v : Value} {xs : List Value} (h : w.ownsRow base e size v n xs) (hk : v.ownBlock = some k) : ∃ cs, Bk w k e cs := by
  rcases h.2 with ⟨rfl, _⟩ | ⟨g, cap, cur, rfl, _, hg, _⟩
  · cases hk
  · simp only [Value.ownBlock, Option.some.injEq] at hk
    subst hk
    exact ⟨cur, hg⟩

theorem Cn.tn {S : List Nat} {w w' : World} {ca : List Addr} {D : Addr → Int} (h : Cn w ca D) (t : Tn S w w') (hS : ∀ a ∈ ca, a.block ∉ S) : Cn w' ca D := fun a ha => by
  obtain ⟨b, i, cs, rfl, hb, hc⟩ := h a ha
  exact ⟨b, i, cs, rfl, hb.tn t (hS _ ha), hc⟩

/-- What turns none of its blocks leaves it as it is. -/
theorem Sd.tn {S : List Nat} {w w' : World} {N : Nat} {g : Ge} {s : Sc} (h : Sd w N g s) (t : Tn S w w') (hS : ∀ x ∈ ft g s, x ∉ S) (hX : g.X ∉ S) (hb : ∀ b ∈ g.bs, b ∉ S) : Sd w' N g s where
  blk := h.blk.tn t (hS _ (by simp [ft]))
  mp := h.mp.tn t (hS _ (by simp [ft]))
  al := owns_tn h.al t fun k hk => hS _ (by simp [ft, hk])
  dn := owns_tn h.dn t fun k hk => hS _ (by simp [ft, hk])
  bx := h.bx.tn t hX (hS _ (by simp [ft])) hb
  fb := fun f hf => (h.fb f hf).tn t (hS _ (by simp [ft]; exact .inr (.inr (.inr (.inr (.inr (.inl ⟨f, hf, rfl⟩)))))))
  nd := h.nd
  cin := h.cin
  cn := h.cn.tn t fun a ha => hS _ (by simp [ft]; exact .inr (.inr (.inr (.inr (.inr (.inr ⟨a, ha, rfl⟩))))))
  d1 := h.d1
  d2 := h.d2
  hN := h.hN
  rs := h.rs
  up := h.up
  fits := h.fits
  big := h.big

theorem Sd.below {w w' : World} {N : Nat} {g : Ge} {s : Sc} (h : Sd w N g s) (t : Below w.heap.size w w') : Sd w' N g s := h.tn (Tn.of_below t []) (by simp) (by simp) (by simp)
theorem Sd.drew {w : World} {N : Nat} {g : Ge} {s : Sc} (h : Sd w N g s) (q : Nat) : Sd (w.drewN q) N g s := h.tn (S := []) ⟨rfl, rfl, rfl, Nat.le_refl _, fun _ _ _ => rfl⟩ (by simp) (by simp) (by simp)

theorem Sd.s_ne {w : World} {N : Nat} {g : Ge} {s : Sc} (h : Sd w N g s) : g.S ≠ g.M ∧ g.S ≠ g.C ∧ g.S ≠ g.X ∧ (∀ k, g.va.ownBlock = some k → g.S ≠ k) ∧ (∀ k, g.vd.ownBlock = some k → g.S ≠ k) ∧ (∀ f ∈ s.fl, g.S ≠ f.blk) ∧ (∀ a ∈ g.ca, g.S ≠ a.block) ∧ ∀ b ∈ g.bs, g.S ≠ b := by
  refine ⟨fun e => ?_, fun e => ?_, fun e => ?_, fun k hk e => ?_, fun k hk e => ?_, fun f hf e => ?_, fun a ha e => ?_, fun b hb e => ?_⟩
  · exact h.blk.notMap (e ▸ h.mp)
  · exact h.bx.ch.ne h.blk e
  · have := h.blk.ty (e ▸ h.bx.blk)
    simp at this
  · obtain ⟨cs, hc⟩ := row_bk h.al hk
    have := h.blk.ty (e ▸ hc)
    simp at this
  · obtain ⟨cs, hc⟩ := row_bk h.dn hk
    have := h.blk.ty (e ▸ hc)
    simp at this
  · have := h.blk.ty (e ▸ h.fb f hf)
    simp at this
  · obtain ⟨b, i, cs, rfl, hb, hc⟩ := h.cn a ha
    have e' : g.S = b := e
    have := h.blk.ty (e' ▸ hb)
    simp at this
  · obtain ⟨x, hx⟩ := h.bx.mem hb
    have := h.blk.ty (e ▸ hx)
    simp at this

end Go.Proofs.Ytnjokhdedgdjjaa
