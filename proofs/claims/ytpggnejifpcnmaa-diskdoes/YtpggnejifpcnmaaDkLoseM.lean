/- Disks: what a crash leaves. -/
import Derived.Test.YtpggnejifpcnmaaDkDirty
import Derived.Test.YtpggnejifpcnmaaDkStill
import Derived.StillTactics
namespace Go.Proofs.Ytpggnejifpcnmaa
open Go.RowKit Go.Shelf Go.Maps
attribute [local go_sem] Oper.semAt_some
set_option linter.unusedVariables false

/-- s with x at i. -/
def upds (s : Nat → List Int) (i : Nat) (x : List Int) : Nat → List Int := fun j => if j = i then x else s j

theorem SureAt.set {cur : Array Value} {n i : Nat} {s : Nat → List Int} {xs : List Int} (h : SureAt cur n s) (hi : i < n) (hx : xs.length = 512) : SureAt (laid cur (i * 512) xs) n (upds s i xs) := by
  have hfit : i * 512 + 512 ≤ cur.size := by
    have h8 : (i + 1) * 512 ≤ n * 512 := Nat.mul_le_mul_right _ hi
    have h9 : i * 512 + 512 ≤ n * 512 := by clear h; omega
    exact Nat.le_trans h9 h.1
  refine ⟨by rw [laid_size hfit hx]; exact h.1, fun k hk j hj => ?_⟩
  unfold upds
  by_cases hki : k = i
  · subst hki
    rw [if_pos rfl]
    exact laid_in hfit hx hj
  · rw [if_neg hki, laid_out hfit hx]
    · exact h.2 k hk j hj
    · rcases Nat.lt_or_gt_of_ne hki with hl | hl
      · left
        have : (k + 1) * 512 ≤ i * 512 := Nat.mul_le_mul_right _ hl
        omega
      · right
        have : (i + 1) * 512 ≤ k * 512 := Nat.mul_le_mul_right _ hl
        omega

theorem SureAt.fit {cur : Array Value} {n i : Nat} {s : Nat → List Int} (h : SureAt cur n s) (hi : i < n) : i * 512 + 512 ≤ cur.size := by
  have h8 : (i + 1) * 512 ≤ n * 512 := Nat.mul_le_mul_right _ hi
  have h9 : i * 512 + 512 ≤ n * 512 := by clear h; omega
  exact Nat.le_trans h9 h.1

theorem IsDk.setSure {w : World} {B S M : Nat} {p : Option Addr} {c : Nat} {kb : List Nat} {d : Dk} (h : IsDk w B S M p c kb d) {cur : Array Value} (hS : Bk w S 79 cur) (hz : SureAt cur d.n d.sure) {i : Nat} (hi : i < d.n) {xs : List Int} (hx : Sec xs) :
    IsDk (w.setRow S (laid cur (i * 512) xs)) B S M p c kb { d with sure := upds d.sure i xs } := by
  obtain ⟨n1, n2, n3⟩ := h.ne_bs
  have hk := h.kne
  have t1 : Tn [S] w (w.setRow S (laid cur (i * 512) xs)) := (Tn.refl _ _).setRow (by simp) _
  exact {
    blk := h.blk.rowOther n1 _
    sure := ⟨_, hS.setRow _, hz.set hi hx.1⟩
    map := owns_tn h.map t1 (by simp; omega)
    keep := h.keep.tn t1 (fun ad ha hl => by simp; intro e; exact hk.2.1 (e ▸ h.kbs ad ha hl))
    kbs := h.kbs
    kne := h.kne
    klt := fun b hb => Nat.lt_of_lt_of_le (h.klt b hb) t1.size
    n1 := h.n1
    n2 := h.n2
    secS := fun j hj => by
      show Sec (upds d.sure i xs j)
      unfold upds
      split
      · exact hx
      · exact h.secS j hj
    secD := h.secD
    lowD := h.lowD
    left := h.left
    knil := h.knil
    kcap := h.kcap }

/-- One dirty sector more: it stays, if its place is true. -/
def layAt (f : Nat → Option (List Int)) (ks : List Bool) (st : Nat × (Nat → List Int)) (i : Nat) : Nat × (Nat → List Int) := (st.1 + 1, if ks.getD st.1 false = true then upds st.2 i ((f i).getD []) else st.2)
def lay (f : Nat → Option (List Int)) (ks : List Bool) (s : Nat → List Int) (pre : List Nat) : Nat × (Nat → List Int) := pre.foldl (layAt f ks) (0, s)

theorem lay_snoc (f : Nat → Option (List Int)) (ks : List Bool) (s : Nat → List Int) (pre : List Nat) (i : Nat) : lay f ks s (pre ++ [i]) = layAt f ks (lay f ks s pre) i := by simp [lay, List.foldl_append]

theorem lay_fst (f : Nat → Option (List Int)) (ks : List Bool) (s : Nat → List Int) (pre : List Nat) : (lay f ks s pre).1 = pre.length := by
  unfold lay
  suffices h : ∀ (pre : List Nat) (st : Nat × (Nat → List Int)), (pre.foldl (layAt f ks) st).1 = st.1 + pre.length by
    have := h pre (0, s)
    simpa using this
  intro pre
  induction pre with
  | nil => intro st; simp
  | cons a l ih =>
    intro st
    rw [List.foldl_cons, ih]
    simp [layAt]
    omega

/-- What a crash leaves of the sure sectors. -/
def loseS (f : Nat → Option (List Int)) (ks : List Bool) (s : Nat → List Int) (i : Nat) : List Int := if ks.getD (dirts f i).length false = true then (f i).getD (s i) else s i

theorem dirts_succ (f : Nat → Option (List Int)) (n : Nat) : dirts f (n + 1) = dirts f n ++ (if (f n).isSome = true then [n] else []) := by
  simp [dirts, List.range_succ, List.filter_append, List.filter_cons]

theorem lay_dirts (f : Nat → Option (List Int)) (ks : List Bool) (s : Nat → List Int) (n : Nat) : (lay f ks s (dirts f n)).2 = fun i => if i < n then loseS f ks s i else s i := by
  induction n with
  | zero =>
    funext i
    simp [dirts, lay]
  | succ n ih =>
    funext i
    rw [dirts_succ]
    cases hf : f n with
    | none =>
      simp only [Option.isSome_none, Bool.false_eq_true, if_false, List.append_nil]
      rw [ih]
      by_cases hi : i = n
      · subst hi
        simp [loseS, hf]
      · have : (i < n + 1) = (i < n) := by apply propext; omega
        simp only [this]
    | some x =>
      simp only [Option.isSome_some, if_true]
      rw [lay_snoc]
      unfold layAt
      simp only [lay_fst]
      by_cases hi : i = n
      · subst hi
        split
        · rename_i hk
          simp only [upds, if_true, loseS, hf, Option.getD_some, if_pos hk, Nat.lt_succ_self]
        · rename_i hk
          rw [ih]
          simp only [loseS, if_neg hk, Nat.lt_succ_self, if_true, Nat.lt_irrefl, if_false]
      · have : (i < n + 1) = (i < n) := by apply propext; omega
        simp only [this]
        split
        · simp only [upds, if_neg hi]
          rw [ih]
        · rw [ih]

/-- Behind a crash. -/
def Dk.lose (d : Dk) (ks : List Bool) : Dk := { d with sure := loseS d.dirty ks d.sure, dirty := fun _ => none, left := 0, keep := [], down := true }

theorem lay_all {f : Nat → Option (List Int)} {n : Nat} (hlow : ∀ i, n ≤ i → f i = none) (ks : List Bool) (s : Nat → List Int) : (lay f ks s (dirts f n)).2 = loseS f ks s := by
  rw [lay_dirts]
  funext i
  split
  · rfl
  · simp [loseS, hlow i (by omega)]

theorem run_lookup_sec {w : World} {M n : Nat} {f : Nat → Option (List Int)} (hown : w.ownsMap Try.prog 3 secElem M n (datum f n)) {i : Nat} (hi : i < n) (hn : n ≤ 16384) {x : List Int} (hx : f i = some x) :
    (Instr.lookup 58 (.map (some M)) (.int .i64 (i : Int)) false).run Try.prog w = .ok (secVal x) w := by
  obtain ⟨v, ps, hrun, hv⟩ := hown.lookup int_law Try.underlying58 (sec_zero _) (secElem_mk sec_zeros) (keyOf_int_mk Try.underlying3 (a := (i : Int)) (WalkArith.wf_i64 (by omega)))
  rw [at_datum f n i x hi hx] at hv
  obtain ⟨xs, rfl, hz, _⟩ := secElem_inv hv
  simp only [Prod.mk.injEq, DataW.held.injEq] at hz
  rw [hz.1]
  exact hrun

section
variable {w : World} {ops : Array Oper} {rest : List Oper} {o : Oper} {a : Act}

theorem still_lookup_sec {Q : Act → Prop} (hg : o.guard = none) (m x : Operand) (hop : o.op = Op.lookup 58 m x false) (M n : Nat) (f : Nat → Option (List Int)) (hm : a.eval m = .map (some M))
    (hown : w.ownsMap Try.prog 3 secElem M n (datum f n)) (i : Nat) (hi : i < n) (hn : n ≤ 16384) (hx : a.eval x = .int .i64 (i : Int)) (xs : List Int) (hfi : f i = some xs)
    (hK : wpStill Try.prog ops w Q rest (a.put o.dst (secVal xs))) : wpStill Try.prog ops w Q (o :: rest) a := by
  refine still_value hg (secVal xs) ?_ hK
  simp [execOp, hop, hm, hx, run_lookup_sec hown hi hn hfi]

theorem still_load_sec {Q : Act → Prop} (hg : o.guard = none) (x : Operand) (hop : o.op = Op.load 79 x) (b oo : Nat) (hx : a.eval x = .pointer (some ⟨b, oo, none⟩)) (xs : List Int) (hl : xs.length = 512) (h : SecAt w b oo xs)
    (hK : wpStill Try.prog ops w Q rest (a.put o.dst (secVal xs))) : wpStill Try.prog ops w Q (o :: rest) a := by
  refine still_value hg (secVal xs) ?_ hK
  simp [execOp, hop, hx, run_load_sec hl h]

theorem wpIn_store_sec {F : Fence} {n : Nat} {Q : Exit → Act → World → Prop} (hg : o.guard = none) (x y : Operand) (hop : o.op = Op.store 79 x y) (b oo : Nat) (hx : a.eval x = .pointer (some ⟨b, oo, none⟩)) (xs : List Int) (hy : a.eval y = secVal xs) (hl : xs.length = 512)
    (t : TypeId) (cur : Array Value) (hb : Bk w b t cur) (hfit : oo + 512 ≤ cur.size)
    (hK : wpListIn F n Try.prog ops Q rest (a.put o.dst undef) (w.setRow b (laid cur oo xs))) : wpListIn F n Try.prog ops Q (o :: rest) a w := by
  refine wpListIn_plain hg fun K' hK' => ?_
  unfold Oper.wpIn
  refine ⟨by simp [Oper.about, hop], ?_⟩
  rw [Oper.semAt_plain F _ _ (by rw [hop]; intro c hc'; cases hc')]
  simp [execOp, hop, hx, hy, run_store_sec hl hb hfit, Result.andThen]
  exact hK' _ _ hK
end

end Go.Proofs.Ytpggnejifpcnmaa
