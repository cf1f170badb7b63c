/- What both laws of fibers that need so many steps have in common; a map of numbers that were seen. -/
import Derived.Test.YtnjokhdedgdjjaaSdFr
namespace Go.Proofs.Ytnjokhdedgdjjaa
open Go.ChangeShapes Go.WideShapes Go.ChangeAt Go.RowKit Go.Maps
set_option linter.unusedVariables false
set_option maxRecDepth 100000

/-- How many steps the fiber at a place needs. -/
def needK (l : List Int) (i : Nat) : Int := (l.getD i 0) % 20 + 1
theorem needK_le {l : List Int} (h : ∀ x ∈ l, 0 ≤ x ∧ x < 256) (i : Nat) : 1 ≤ needK l i ∧ needK l i ≤ 20 := by
  have h0 : 0 ≤ l.getD i 0 := by
    by_cases hi : i < l.length
    · have := h _ (List.getElem_mem hi)
      simp [List.getD, List.getElem?_eq_getElem hi]
      exact this.1
    · simp [List.getD, List.getElem?_eq_none (Nat.le_of_not_lt hi)]
  unfold needK
  omega

/-- Where the fibers count. -/
def ctrs (G m : Nat) : List Addr := (List.range m).map fun i => ⟨G, i, none⟩
theorem mem_ctrs {G m i : Nat} (hi : i < m) : (⟨G, i, none⟩ : Addr) ∈ ctrs G m := List.mem_map.2 ⟨i, by simpa using hi, rfl⟩

theorem wrap_i9 {x : Int} (h1 : -9223372036854775808 ≤ x) (h2 : x ≤ 9223372036854775807) : IntKind.i64.wrap x = x := wrap_id9 ⟨h1, h2⟩
theorem wrap_b9 {x : Int} (h1 : 0 ≤ x) (h2 : x < 256) : IntKind.u8.wrap x = x := by
  rw [IntKind.wrap_u8]
  omega
section
variable {w w' : World} {N : Nat} {g : Ge} {s : Sc}
theorem of_eq (h : Sd w N g s) (q : Int) (hq : -9223372036854775808 ≤ q ∧ q ≤ 9223372036854775807) (hl : s.done.length ≤ 4611686018427387904) : Calls Try.prog 15 #[.pointer (some ⟨g.S, 0, none⟩), .int .i64 q] w fun e w' => e = .returned (.int .i64 (if 1 ≤ q ∧ q ≤ s.done.length then s.done.getD (q - 1).toNat 0 else 0)) ∧ w' = w := by
  have c3 := h.c3
  have c2 := h.c2
  obtain ⟨p, cap, hv, hcap⟩ := row_form h.dn
  rw [hv] at c3
  by_cases hi : 1 ≤ q ∧ q ≤ s.done.length
  · rw [if_pos hi]
    obtain ⟨i, rfl⟩ : ∃ i : Nat, q = (i : Int) + 1 := ⟨(q - 1).toNat, by omega⟩
    obtain ⟨G, k, hG⟩ := row_some h.dn (by omega)
    have hd := h.dn
    rw [hG] at hd
    have ci := hd.cellAt i (by omega)
    rw [hG] at hv
    cases hv
    have ei : (intz s.done)[i]? = some (.int .i64 (s.done.getD i 0)) := by
      unfold intz
      rw [List.getElem?_map, List.getElem?_eq_getElem (by omega)]
      simp [List.getD, List.getElem?_eq_getElem (show i < s.done.length by omega)]
    rw [ei] at ci
    have e2 : ((i : Int) + 1 - 1).toNat = i := by omega
    rw [e2]
    have g1 : ¬ (i : Int) + 1 < 1 := by omega
    have g2 : ¬ ((s.done.length : Nat) : Int) < (i : Int) + 1 := by omega
    have g3 : wrap64 ((i : Int) + 1 - 1) = (i : Int) := by unfold wrap64; omega
    have hi' : i < s.done.length := by omega
    generalize s.done.getD i 0 = x at *
    generalize s.done.length = n at *
    clear h hd ei e2 hG hi
    go_enter Try.func15, Try.ntmps15
    go_wp2_with fail
    refine (made_any c2).mono ?_
    rintro e w1 ⟨rfl, rfl⟩
    go_wp2
    go_ret
    exact ⟨rfl, rfl⟩
  · rw [if_neg hi]
    generalize s.done.length = n at *
    clear h hv
    go_enter Try.func15, Try.ntmps15
    go_wp2_with fail
    refine (made_any c2).mono ?_
    rintro e w1 ⟨rfl, rfl⟩
    by_cases g1 : q < 1
    · go_wp2
      go_ret
      exact ⟨rfl, rfl⟩
    · have g2 : ((n : Nat) : Int) < q := by omega
      go_wp2
      go_ret
      exact ⟨rfl, rfl⟩

/-- What was seen. -/
def bElem : Value → Option (DataW Bool × List MemPlace)
  | .bool b => some (.held b, [])
  | _ => none
theorem bReads : Reads bElem Value.bool where
  can := fun x => rfl
  inv := fun v z h => by
    unfold bElem at h
    split at h
    · rename_i b
      cases h
      exact ⟨b, rfl, rfl⟩
    · cases h
theorem bZero (w : World) : (zeroValue 4).run Try.prog w = .ok (.bool false) w := by kernel_rfl

theorem Sd.notIn {M2 N2 : Nat} {fs : Nat → Option Bool} (h : Sd w N g s) (hm : Mp bElem w M2 N2 fs) (hne : g.M ≠ M2) : M2 ∉ ft g s := by
  refine fun hx => (ft_sub (P := fun x => x ≠ M2) (fun e => h.blk.neM hm e.symm) hne (fun e => h.bx.ch.notMap (e ▸ hm)) (fun k hk e => ?_) (fun k hk e => ?_) (fun f hf e => (h.fb f hf).neM hm e.symm) (fun a ha e => ?_)) M2 hx rfl
  · obtain ⟨cs, hc⟩ := row_bk h.al hk
    exact hc.neM hm e.symm
  · obtain ⟨cs, hc⟩ := row_bk h.dn hk
    exact hc.neM hm e.symm
  · obtain ⟨b, i, cs, rfl, hb, hc⟩ := h.cn a ha
    exact hb.neM hm e.symm
theorem Sd.tnMap {M2 N2 : Nat} {fs : Nat → Option Bool} (h : Sd w N g s) (hm : Mp bElem w M2 N2 fs) (hne : g.M ≠ M2) (t : Tn [M2] w w') : Sd w' N g s := by
  have hn := h.notIn hm hne
  refine h.tn t (fun x hx hm' => ?_) (fun hm' => ?_) (fun b hb hm' => ?_)
  · simp at hm'
    exact hn (hm' ▸ hx)
  · simp at hm'
    exact h.bx.blk.neM hm hm'.symm
  · simp at hm'
    obtain ⟨x, hx⟩ := h.bx.mem hb
    exact hx.neM hm hm'.symm
end

/-- The numbers that were seen. -/
def seenF (l : List Nat) (n : Nat) : Option Bool := if n ∈ l then some true else none
theorem seenF_app (l : List Nat) (n : Nat) : seenF (l ++ [n]) = upd (seenF l) n true := by
  funext i
  unfold seenF upd
  by_cases h : i = n
  · simp [h]
  · simp [h]
theorem seenF_nil : seenF [] = fun _ => none := by
  funext i
  simp [seenF]

def sumF (K : Nat → Int) : Nat → Int
  | 0 => 0
  | n + 1 => sumF K n + K n
theorem sumF_le {K : Nat → Int} (h : ∀ i, 1 ≤ K i ∧ K i ≤ 20) : ∀ n : Nat, 0 ≤ sumF K n ∧ sumF K n ≤ 20 * n
  | 0 => by simp [sumF]
  | n + 1 => by
    have h1 := sumF_le h n
    have h2 := h n
    simp only [sumF]
    omega
theorem sumD_F {D : Addr → Int} {G : Nat} {K : Nat → Int} : ∀ {n : Nat}, (∀ i, i < n → D ⟨G, i, none⟩ = K i) → sumD D G n = sumF K n
  | 0, _ => rfl
  | n + 1, h => by simp only [sumD, sumF]; rw [sumD_F fun i hi => h i (by omega), h n (by omega)]
end Go.Proofs.Ytnjokhdedgdjjaa
