/- A disk beside a map of sectors. -/
import Derived.Test.YtahcfpfjijkchaaDkFuseM
namespace Go.Proofs.Ytahcfpfjijkchaa
open Go.RowKit Go.Shelf Go.Maps
set_option linter.unusedVariables false

/-- How a sector's slice in a map reads. -/
def rowElem : Value → Option (DataW Nat × List MemPlace)
  | .slice none 0 0 => some (.held 0, [])
  | .slice (some ⟨g, 0, none⟩) 512 512 => some (.held (g + 1), [])
  | _ => none

theorem rowElem_hit {v : Value} {g : Nat} {ps : List MemPlace} (h : rowElem v = some (.held (g + 1), ps)) : v = .slice (some ⟨g, 0, none⟩) 512 512 := by
  unfold rowElem at h
  split at h
  · simp at h
  · simp only [Option.some.injEq, Prod.mk.injEq, DataW.held.injEq, Nat.add_right_cancel_iff] at h
    rw [h.1]
  · cases h

theorem bytes_zero (w : World) : (zeroValue 32).run Try.prog w = .ok (.slice none 0 0) w := by kernel_rfl

structure WT (w : World) (m B : Nat) (d : Dk) (M nb : Nat) (D : DataW Nat) (av : List Nat) (s : Nat → List Int) : Prop where
  sep : Sep w m B d (M :: av)
  mav : M ∉ av
  mM : m ≤ M
  own : w.ownsMap Try.prog 3 rowElem M nb D
  rows : ∀ i : Nat, Maps.has D (.int .i64 (i : Int)) = true → ∃ g, (∀ z, D.atKey (.int .i64 (i : Int)) z = .held (g + 1)) ∧ g ∈ av ∧ Row w g (s i)

theorem Row.heap {w w' : World} {g : Nat} {xs : List Int} (h : Row w g xs) (hk : w'.heap[g]? = w.heap[g]?) : Row w' g xs := by
  obtain ⟨cur, h1, h2⟩ := h
  exact ⟨cur, hk.trans h1, h2⟩

theorem owns_heap {w w' : World} {M n : Nat} {D : DataW Nat} (h : w.ownsMap Try.prog 3 rowElem M n D) (hk : w'.heap[M]? = w.heap[M]?) : w'.ownsMap Try.prog 3 rowElem M n D := by
  obtain ⟨es, clock, hb, F, hs, hD⟩ := h
  exact ⟨es, clock, hk.trans hb, F, hs, hD⟩

section
variable {w w' : World} {m B M nb : Nat} {d d' : Dk} {D : DataW Nat} {av : List Nat} {s s' : Nat → List Int}

theorem WT.lt (h : WT w m B d M nb D av s) : ∀ x ∈ M :: av, x < w.heap.size := by
  obtain ⟨bs, h1, h2, h3⟩ := h.sep
  exact fun x hx => (h3 x hx).2

theorem WT.turn (h : WT w m B d M nb D av s) (hs : Sep w' m B d' (M :: av)) (hb : ∀ x ∈ M :: av, w'.heap[x]? = w.heap[x]?) : WT w' m B d' M nb D av s :=
  { h with
    sep := hs
    own := owns_heap h.own (hb M (by simp))
    rows := fun i hi => by
      obtain ⟨g, h1, h2, h3⟩ := h.rows i hi
      exact ⟨g, h1, h2, h3.heap (hb g (by simp [h2]))⟩ }

theorem WT.as (h : WT w m B d M nb D av s) (hs : ∀ i : Nat, Maps.has D (.int .i64 (i : Int)) = true → s' i = s i) : WT w m B d M nb D av s' :=
  { h with
    rows := fun i hi => by
      obtain ⟨g, h1, h2, h3⟩ := h.rows i hi
      exact ⟨g, h1, h2, by rw [hs i hi]; exact h3⟩ }

theorem WT.below (h : WT w m B d M nb D av s) (k : Below w.heap.size w w') : WT w' m B d M nb D av s :=
  h.turn (h.sep.below k) (fun x hx => k.block x (h.lt x hx))

theorem WT.add (h : WT w m B d M nb D av s) (k : Below w.heap.size w w') {x : Nat} (hx : w.heap.size ≤ x) (hx' : x < w'.heap.size) : WT w' m B d M nb D (x :: av) s := by
  have hlt := h.lt
  have hM := hlt M (by simp)
  exact {
    sep := (h.sep.add k hx hx').fewer (by simp only [List.mem_cons]; rintro y (h | h | h) <;> simp [h])
    mav := by
      simp only [List.mem_cons, not_or]
      exact ⟨by omega, h.mav⟩
    mM := h.mM
    own := owns_heap h.own (k.block M hM)
    rows := fun i hi => by
      obtain ⟨g, h1, h2, h3⟩ := h.rows i hi
      exact ⟨g, h1, by simp [h2], h3.heap (k.block g (hlt g (by simp [h2])))⟩ }

theorem key_ne {i k : Nat} (h : i ≠ k) : (Lit.int .i64 (i : Int)) ≠ .int .i64 (k : Int) := by
  intro e
  simp only [Lit.int.injEq, true_and] at e
  omega

theorem WT.put (h : WT w m B d M nb D av s) {k x : Nat} {xs : List Int} (hx : x ∈ av) (hr : Row w x xs) (hs : s' k = xs ∧ ∀ i, i ≠ k → s' i = s i) (hown : w'.ownsMap Try.prog 3 rowElem M (nb + 1) (D.put (.int .i64 (k : Int)) (.held (x + 1)))) (hg : w.grownBy w' (some M)) :
    WT w' m B d M (nb + 1) (D.put (.int .i64 (k : Int)) (.held (x + 1))) av s' := by
  have hk : ∀ y ∈ av, w'.heap[y]? = w.heap[y]? := fun y hy => hg.block y (h.lt y (by simp [hy])) (fun e => h.mav (by cases e; exact hy))
  exact {
    sep := h.sep.other (T := [M]) (grown_tn hg) (by simp)
    mav := h.mav
    mM := h.mM
    own := hown
    rows := fun i hi => by
      by_cases hik : i = k
      · subst hik
        exact ⟨x, fun z => Maps.atKey_put_same h.own.isMap (show WideAt.IsKeyLit (.int .i64 (i : Int)) from trivial) _ z, hx, by rw [hs.1]; exact hr.heap (hk x hx)⟩
      · rw [Maps.has_put_other (key_ne hik)] at hi
        obtain ⟨g, h1, h2, h3⟩ := h.rows i hi
        exact ⟨g, fun z => by rw [Maps.atKey_put_other (key_ne hik)]; exact h1 z, h2, by rw [hs.2 i hik]; exact h3.heap (hk g h2)⟩ }

theorem WT.del (h : WT w m B d M nb D av s) {k : Nat} (hown : w'.ownsMap Try.prog 3 rowElem M nb (D.del (.int .i64 (k : Int)))) (hg : w.grownBy w' (some M)) :
    WT w' m B d M nb (D.del (.int .i64 (k : Int))) av s := by
  have hk : ∀ y ∈ av, w'.heap[y]? = w.heap[y]? := fun y hy => hg.block y (h.lt y (by simp [hy])) (fun e => h.mav (by cases e; exact hy))
  exact {
    sep := h.sep.other (T := [M]) (grown_tn hg) (by simp)
    mav := h.mav
    mM := h.mM
    own := hown
    rows := fun i hi => by
      by_cases hik : i = k
      · subst hik
        rw [Maps.has_del_same] at hi
        cases hi
      · rw [Maps.has_del_other (key_ne hik)] at hi
        obtain ⟨g, h1, h2, h3⟩ := h.rows i hi
        exact ⟨g, fun z => by rw [Maps.atKey_del_other (key_ne hik)]; exact h1 z, h2, h3.heap (hk g h2)⟩ }

theorem writeW (h : WT w m B d M nb D av s) (hm : m ≤ w.heap.size) (i : Int) (p : Option Addr) (len c : Nat) (xs : List Int) (hlen : xs.length = len) (hx : Bys w p xs) (hby : ∀ y ∈ xs, 0 ≤ y ∧ y < 256) :
    Calls Try.prog 23 #[.pointer (some ⟨B, 0, none⟩), .int .i64 i, .slice p len c] w fun e w' => e = .returned (.int .i64 (d.write i xs).1) ∧ WT w' m B (d.write i xs).2 M nb D av s ∧ Below m w w' ∧ ∀ x ∈ av, w'.heap[x]? = w.heap[x]? :=
  (writeS h.sep hm i p len c xs hlen hx hby).mono fun e w' ⟨he, hs, hb, hk⟩ => ⟨he, h.turn hs hk, hb, fun x hx => hk x (by simp [hx])⟩
theorem barW (h : WT w m B d M nb D av s) (hm : m ≤ w.heap.size) :
    Calls Try.prog 24 #[.pointer (some ⟨B, 0, none⟩)] w fun e w' => e = .returned (.int .i64 d.bar.1) ∧ WT w' m B d.bar.2 M nb D av s ∧ Below m w w' :=
  (barS h.sep hm).mono fun e w' ⟨he, hs, hb, hk⟩ => ⟨he, h.turn hs hk, hb⟩
theorem crashW (h : WT w m B d M nb D av s) (hm : m ≤ w.heap.size) (p : Option Addr) (c : Nat) (ks : List Bool) (len : Nat) (hlen : ks.length = len) (hks : Bls w p ks) (hkS : ∀ ad, p = some ad → 0 < ks.length → ad.block < m) :
    Calls Try.prog 25 #[.pointer (some ⟨B, 0, none⟩), .slice p len c] w fun e w' => e = .returned (.int .i64 (d.crash ks).1) ∧ WT w' m B (d.crash ks).2 M nb D av s ∧ Below m w w' :=
  (crashS h.sep hm p c ks len hlen hks (fun ad ha hl => .inl (hkS ad ha hl))).mono fun e w' ⟨he, hs, hb, hk⟩ => ⟨he, h.turn hs hk, hb⟩
theorem restartW (h : WT w m B d M nb D av s) (hm : m ≤ w.heap.size) :
    Calls Try.prog 18 #[.pointer (some ⟨B, 0, none⟩)] w fun e w' => e = .returned (.int .i64 0) ∧ WT w' m B { d with down := false } M nb D av s ∧ Below m w w' :=
  (restartS h.sep hm).mono fun e w' ⟨he, hs, hb, hk⟩ => ⟨he, h.turn hs hk, hb⟩
theorem readW (h : WT w m B d M nb D av s) (i : Nat) (hi : i < d.n) (hd : d.down = false) :
    Calls Try.prog 26 #[.pointer (some ⟨B, 0, none⟩), .int .i64 (i : Int)] w fun e w' => ∃ x, e = .returned (.tuple #[.slice (some ⟨x, 0, none⟩) 512 512, .int .i64 0]) ∧ Row w' x (d.last i) ∧ WT w' m B d M nb D av s ∧ Below w.heap.size w w' :=
  (readS h.sep i hi hd).mono fun e w' ⟨x, he, hx, hb, hs, hbel⟩ => ⟨x, he, Row.of_sec hb, h.below hbel, hbel⟩

theorem WT.secs (h : WT w m B d M nb D av s) : ∀ i, i < d.n → Sec (d.last i) := by
  obtain ⟨bs, h1, -⟩ := h.sep
  exact h1.facts.2.2.1
end

/-- A disk beside an empty map. -/
theorem wt_new {w : World} {m B : Nat} {d : Dk} (h : Sep w m B d []) (hm : m ≤ w.heap.size) (s : Nat → List Int) : WT (w.alloc (.map #[] 0)) m B d w.heap.size 0 (.map []) [] s :=
  { sep := h.add ((Below.refl _ _).alloc (Nat.le_refl _) _) (Nat.le_refl _) (by simp)
    mav := by simp
    mM := hm
    own := World.ownsMap_made w Try.prog 3 rowElem
    rows := fun i hi => by cases hi }

section
variable {w : World} {ops : Array Oper} {rest : List Oper} {o : Oper} {a : Act} {Q : Exit → Act → World → Prop}

theorem wp_update_row (hg : o.guard = none) (mm x y : Operand) (hop : o.op = Op.mapUpdate 44 mm x y) {m B M nb : Nat} {d : Dk} {D : DataW Nat} {av : List Nat} {s : Nat → List Int} (h : WT w m B d M nb D av s) (hnb : nb ≤ 1759218604390) (hm : a.eval mm = .map (some M))
    (k : Nat) (hk : k ≤ 16384) (hx : a.eval x = .int .i64 (k : Int)) (g : Nat) (xs : List Int) (hgv : g ∈ av) (hr : Row w g xs) (hy : a.eval y = .slice (some ⟨g, 0, none⟩) 512 512) (s' : Nat → List Int) (hs : s' k = xs ∧ ∀ i, i ≠ k → s' i = s i)
    (hK : ∀ w' D', WT w' m B d M (nb + 1) D' av s' → w.grownBy w' (some M) → wpList Try.prog ops Q rest (a.put o.dst undef) w') : wpList Try.prog ops Q (o :: rest) a w := by
  refine wpList_mapUpdate_own w hg mm x y 44 hop 3 32 int_law Try.underlying44 rowElem M nb D hm h.own (by unfold maxLen; omega) _ _ _ hx hy (keyOf_int_mk Try.underlying3 (WalkArith.wf_i64 (by omega))) (.held (g + 1)) [] rfl ?_
  intro w' hown hgr
  exact hK w' _ (h.put hgv hr hs hown hgr) hgr

theorem wp_delete_row (hg : o.guard = none) (mm x : Operand) (hop : o.op = Op.call { callee := Callee.builtin Builtin.delete, args := #[mm, x], argTypes := #[44, 3] }) {m B M nb : Nat} {d : Dk} {D : DataW Nat} {av : List Nat} {s : Nat → List Int} (h : WT w m B d M nb D av s) (hm : a.eval mm = .map (some M))
    (k : Nat) (hk : k ≤ 16384) (hx : a.eval x = .int .i64 (k : Int))
    (hK : ∀ w', WT w' m B d M nb (D.del (.int .i64 (k : Int))) av s → w.grownBy w' (some M) → wpList Try.prog ops Q rest (a.put o.dst (.tuple #[])) w') : wpList Try.prog ops Q (o :: rest) a w := by
  refine wpList_delete_own w hg mm x 44 3 hop 32 int_law Try.underlying44 rowElem M nb D hm h.own _ _ hx (keyOf_int_mk Try.underlying3 (WalkArith.wf_i64 (by omega))) ?_
  intro w' hown ht
  exact hK w' (h.del hown ht.grown) ht.grown

theorem wp_lookup_hit (hg : o.guard = none) (mm x : Operand) (hop : o.op = Op.lookup 44 mm x true) {m B M nb : Nat} {d : Dk} {D : DataW Nat} {av : List Nat} {s : Nat → List Int} (h : WT w m B d M nb D av s) (hm : a.eval mm = .map (some M))
    (k : Nat) (hk : k ≤ 16384) (hx : a.eval x = .int .i64 (k : Int)) (g : Nat) (hh : Maps.has D (.int .i64 (k : Int)) = true) (ha : ∀ z, D.atKey (.int .i64 (k : Int)) z = .held (g + 1))
    (hK : wpList Try.prog ops Q rest (a.put o.dst (.tuple #[.slice (some ⟨g, 0, none⟩) 512 512, .bool true])) w) : wpList Try.prog ops Q (o :: rest) a w := by
  refine wpList_lookup_own_ok w hg mm x 44 hop 3 32 int_law Try.underlying44 rowElem (bytes_zero _) (.held 0) [] rfl M nb D hm h.own _ _ hx (keyOf_int_mk Try.underlying3 (WalkArith.wf_i64 (by omega))) ?_
  intro v ps hv
  rw [ha] at hv
  rw [rowElem_hit hv, hh]
  exact hK

theorem wp_lookup_miss (hg : o.guard = none) (mm x : Operand) (hop : o.op = Op.lookup 44 mm x true) {m B M nb : Nat} {d : Dk} {D : DataW Nat} {av : List Nat} {s : Nat → List Int} (h : WT w m B d M nb D av s) (hm : a.eval mm = .map (some M))
    (k : Nat) (hk : k ≤ 16384) (hx : a.eval x = .int .i64 (k : Int)) (hh : Maps.has D (.int .i64 (k : Int)) = false)
    (hK : ∀ v, wpList Try.prog ops Q rest (a.put o.dst (.tuple #[v, .bool false])) w) : wpList Try.prog ops Q (o :: rest) a w := by
  refine wpList_lookup_own_ok w hg mm x 44 hop 3 32 int_law Try.underlying44 rowElem (bytes_zero _) (.held 0) [] rfl M nb D hm h.own _ _ hx (keyOf_int_mk Try.underlying3 (WalkArith.wf_i64 (by omega))) ?_
  intro v ps hv
  rw [hh]
  exact hK v
end

end Go.Proofs.Ytahcfpfjijkchaa
