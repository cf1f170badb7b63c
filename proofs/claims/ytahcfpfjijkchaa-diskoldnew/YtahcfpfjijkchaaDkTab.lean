/- A disk beside two tables of sectors. -/
import Derived.Test.YtahcfpfjijkchaaDkFuseM
namespace Go.Proofs.Ytahcfpfjijkchaa
open Go.RowKit Go.Shelf Go.Maps
set_option linter.unusedVariables false

/-- What a table has at a place. -/
def Ent (w : World) (av : List Nat) (v : Value) : Option (List Int) → Prop
  | none => v = .slice none 0 0
  | some xs => ∃ g, v = .slice (some ⟨g, 0, none⟩) 512 512 ∧ g ∈ av ∧ Row w g xs

theorem Ent.keep {w w' : World} {av av' : List Nat} {v : Value} {o : Option (List Int)} (h : Ent w av v o) (hs : ∀ g ∈ av, g ∈ av') (hb : ∀ g ∈ av, w'.heap[g]? = w.heap[g]?) : Ent w' av' v o := by
  cases o with
  | none => exact h
  | some xs =>
    obtain ⟨g, rfl, hg, cur, hr, hc⟩ := h
    exact ⟨g, rfl, hs g hg, cur, (hb g hg).trans hr, hc⟩

/-- A table of n places. -/
def Tab (w : World) (av : List Nat) (O n : Nat) (f : Nat → Option (List Int)) : Prop := ∃ cur : Array Value, Bk w O 32 cur ∧ cur.size = n ∧ ∀ i, i < n → ∃ v, cur[i]? = some v ∧ Ent w av v (f i)

theorem Tab.keep {w w' : World} {av av' : List Nat} {O n : Nat} {f : Nat → Option (List Int)} (h : Tab w av O n f) (hs : ∀ g ∈ av, g ∈ av') (hb : ∀ g ∈ av, w'.heap[g]? = w.heap[g]?) (hO : w'.heap[O]? = w.heap[O]?) : Tab w' av' O n f := by
  obtain ⟨cur, h1, h2, h3⟩ := h
  refine ⟨cur, hO.trans h1, h2, fun i hi => ?_⟩
  obtain ⟨v, hv, he⟩ := h3 i hi
  exact ⟨v, hv, he.keep hs hb⟩

theorem Tab.set {w : World} {av : List Nat} {O n : Nat} {f : Nat → Option (List Int)} (h : Tab w av O n f) (hO : O ∉ av) {i : Nat} (hi : i < n) {g : Nat} {xs : List Int} (hg : g ∈ av) (hr : Row w g xs) :
    Tab (w.setCell ⟨O, i, none⟩ (.slice (some ⟨g, 0, none⟩) 512 512)) av O n (upd f i xs) := by
  obtain ⟨cur, h1, h2, h3⟩ := h
  have hk : ∀ x ∈ av, (w.setCell ⟨O, i, none⟩ (.slice (some ⟨g, 0, none⟩) 512 512)).heap[x]? = w.heap[x]? := fun x hx => Below.heap_setCell _ _ _ _ (fun e => hO (by rw [show x = O from e] at hx; exact hx))
  refine ⟨_, h1.set i _, by simp [h2], fun j hj => ?_⟩
  by_cases hji : j = i
  · subst hji
    refine ⟨_, Array.getElem?_setIfInBounds_self_of_lt (by omega), ?_⟩
    obtain ⟨cur', h1', hc'⟩ := hr
    simp only [upd, if_true]
    exact ⟨g, rfl, hg, cur', (hk g hg).trans h1', hc'⟩
  · obtain ⟨v, hv, he⟩ := h3 j hj
    refine ⟨v, ?_, ?_⟩
    · rw [Array.getElem?_setIfInBounds_ne (by omega)]
      exact hv
    · simp only [upd, if_neg hji]
      exact he.keep (fun _ h => h) hk

/-- What the walk wants of a place. -/
theorem Tab.cell {w : World} {av : List Nat} {O n : Nat} {f : Nat → Option (List Int)} (h : Tab w av O n f) {i : Nat} (hi : i < n) : ∃ v, w.cell? ⟨O, i, none⟩ = some v ∧ w.frozen? ⟨O, i, none⟩ = false ∧ Ent w av v (f i) := by
  obtain ⟨cur, h1, h2, h3⟩ := h
  obtain ⟨v, hv, he⟩ := h3 i hi
  exact ⟨v, by rw [h1.cell]; exact hv, h1.frozen i, he⟩

structure TT (w : World) (m B : Nat) (d : Dk) (O L n : Nat) (f g : Nat → Option (List Int)) (av : List Nat) : Prop where
  sep : Sep w m B d (O :: L :: av)
  oav : O ∉ av
  lav : L ∉ av
  ol : O ≠ L
  mO : m ≤ O
  mL : m ≤ L
  tO : Tab w av O n f
  tL : Tab w av L n g

section
variable {w w' : World} {m B O L n : Nat} {d d' : Dk} {f g : Nat → Option (List Int)} {av : List Nat}

theorem TT.lt (h : TT w m B d O L n f g av) : ∀ x ∈ O :: L :: av, x < w.heap.size := by
  obtain ⟨bs, h1, h2, h3⟩ := h.sep
  exact fun x hx => (h3 x hx).2

theorem TT.turn (h : TT w m B d O L n f g av) (hs : Sep w' m B d' (O :: L :: av)) (hb : ∀ x ∈ O :: L :: av, w'.heap[x]? = w.heap[x]?) : TT w' m B d' O L n f g av :=
  { h with
    sep := hs
    tO := h.tO.keep (fun _ h => h) (fun x hx => hb x (by simp [hx])) (hb O (by simp))
    tL := h.tL.keep (fun _ h => h) (fun x hx => hb x (by simp [hx])) (hb L (by simp)) }

theorem TT.below (h : TT w m B d O L n f g av) (k : Below w.heap.size w w') : TT w' m B d O L n f g av :=
  h.turn (h.sep.below k) (fun x hx => k.block x (h.lt x hx))

theorem TT.add (h : TT w m B d O L n f g av) (k : Below w.heap.size w w') {x : Nat} (hx : w.heap.size ≤ x) (hx' : x < w'.heap.size) : TT w' m B d O L n f g (x :: av) := by
  have hlt := h.lt
  have hO := hlt O (by simp)
  have hL := hlt L (by simp)
  have hk : ∀ y ∈ O :: L :: av, w'.heap[y]? = w.heap[y]? := fun y hy => k.block y (hlt y hy)
  exact {
    sep := (h.sep.add k hx hx').fewer (by simp only [List.mem_cons]; rintro y (h | h | h | h) <;> simp [h])
    oav := by
      simp only [List.mem_cons, not_or]
      exact ⟨by omega, h.oav⟩
    lav := by
      simp only [List.mem_cons, not_or]
      exact ⟨by omega, h.lav⟩
    ol := h.ol
    mO := h.mO
    mL := h.mL
    tO := h.tO.keep (fun y hy => by simp [hy]) (fun y hy => hk y (by simp [hy])) (hk O (by simp))
    tL := h.tL.keep (fun y hy => by simp [hy]) (fun y hy => hk y (by simp [hy])) (hk L (by simp)) }

theorem TT.setO (h : TT w m B d O L n f g av) {i : Nat} (hi : i < n) {x : Nat} {xs : List Int} (hx : x ∈ av) (hr : Row w x xs) :
    TT (w.setCell ⟨O, i, none⟩ (.slice (some ⟨x, 0, none⟩) 512 512)) m B d O L n (upd f i xs) g av :=
  { h with
    sep := h.sep.other (T := [O]) ((Tn.refl _ _).setCell (by simp) _) (by simp)
    tO := h.tO.set h.oav hi hx hr
    tL := h.tL.keep (fun _ h => h) (fun y hy => Below.heap_setCell _ _ _ _ (fun e => h.oav (by rw [show y = O from e] at hy; exact hy))) (Below.heap_setCell _ _ _ _ (fun e => h.ol e.symm)) }

theorem TT.setL (h : TT w m B d O L n f g av) {i : Nat} (hi : i < n) {x : Nat} {xs : List Int} (hx : x ∈ av) (hr : Row w x xs) :
    TT (w.setCell ⟨L, i, none⟩ (.slice (some ⟨x, 0, none⟩) 512 512)) m B d O L n f (upd g i xs) av :=
  { h with
    sep := h.sep.other (T := [L]) ((Tn.refl _ _).setCell (by simp) _) (by simp)
    tL := h.tL.set h.lav hi hx hr
    tO := h.tO.keep (fun _ h => h) (fun y hy => Below.heap_setCell _ _ _ _ (fun e => h.lav (by rw [show y = L from e] at hy; exact hy))) (Below.heap_setCell _ _ _ _ h.ol) }

theorem writeT (h : TT w m B d O L n f g av) (hm : m ≤ w.heap.size) (i : Int) (p : Option Addr) (len c : Nat) (xs : List Int) (hlen : xs.length = len) (hx : Bys w p xs) (hby : ∀ y ∈ xs, 0 ≤ y ∧ y < 256) :
    Calls Try.prog 23 #[.pointer (some ⟨B, 0, none⟩), .int .i64 i, .slice p len c] w fun e w' => e = .returned (.int .i64 (d.write i xs).1) ∧ TT w' m B (d.write i xs).2 O L n f g av ∧ Below m w w' ∧ ∀ x ∈ av, w'.heap[x]? = w.heap[x]? :=
  (writeS h.sep hm i p len c xs hlen hx hby).mono fun e w' ⟨he, hs, hb, hk⟩ => ⟨he, h.turn hs hk, hb, fun x hx => hk x (by simp [hx])⟩
theorem barT (h : TT w m B d O L n f g av) (hm : m ≤ w.heap.size) :
    Calls Try.prog 24 #[.pointer (some ⟨B, 0, none⟩)] w fun e w' => e = .returned (.int .i64 d.bar.1) ∧ TT w' m B d.bar.2 O L n f g av ∧ Below m w w' :=
  (barS h.sep hm).mono fun e w' ⟨he, hs, hb, hk⟩ => ⟨he, h.turn hs hk, hb⟩
theorem crashT (h : TT w m B d O L n f g av) (hm : m ≤ w.heap.size) (p : Option Addr) (c : Nat) (ks : List Bool) (len : Nat) (hlen : ks.length = len) (hks : Bls w p ks) (hkS : ∀ ad, p = some ad → 0 < ks.length → ad.block < m) :
    Calls Try.prog 25 #[.pointer (some ⟨B, 0, none⟩), .slice p len c] w fun e w' => e = .returned (.int .i64 (d.crash ks).1) ∧ TT w' m B (d.crash ks).2 O L n f g av ∧ Below m w w' :=
  (crashS h.sep hm p c ks len hlen hks (fun ad ha hl => .inl (hkS ad ha hl))).mono fun e w' ⟨he, hs, hb, hk⟩ => ⟨he, h.turn hs hk, hb⟩
theorem restartT (h : TT w m B d O L n f g av) (hm : m ≤ w.heap.size) :
    Calls Try.prog 18 #[.pointer (some ⟨B, 0, none⟩)] w fun e w' => e = .returned (.int .i64 0) ∧ TT w' m B { d with down := false } O L n f g av ∧ Below m w w' :=
  (restartS h.sep hm).mono fun e w' ⟨he, hs, hb, hk⟩ => ⟨he, h.turn hs hk, hb⟩
theorem readT (h : TT w m B d O L n f g av) (i : Nat) (hi : i < d.n) (hd : d.down = false) :
    Calls Try.prog 26 #[.pointer (some ⟨B, 0, none⟩), .int .i64 (i : Int)] w fun e w' => ∃ x, e = .returned (.tuple #[.slice (some ⟨x, 0, none⟩) 512 512, .int .i64 0]) ∧ Row w' x (d.last i) ∧ TT w' m B d O L n f g av ∧ Below w.heap.size w w' :=
  (readS h.sep i hi hd).mono fun e w' ⟨x, he, hx, hb, hs, hbel⟩ => ⟨x, he, Row.of_sec hb, h.below hbel, hbel⟩
end

theorem Ent.none_inv {w : World} {av : List Nat} {v : Value} (h : Ent w av v none) : v = .slice none 0 0 := h

/-- 'make([][]byte, n)'. -/
theorem bytessinfo : (Try.prog.info? 32).map (fun i => (i.zero, i.size, i.bytes)) = some (some (.slice none 0 0), 1, 24) := by kernel_rfl

theorem nils_at (m k : Nat) (hk : k < m) : (madeCells (Value.slice none 0 0).cells m)[k]? = some (.slice none 0 0) := by
  have h1 : (Value.slice none 0 0).cells = #[.slice none 0 0] := rfl
  rw [h1, madeCells, Array.getElem?_map, Array.getElem?_range, if_pos hk, Option.map_some]
  simp [Nat.mod_one]

theorem tab_new {w1 : World} {S n : Nat} (h : w1.ownsRow S 32 1 (.slice (some ⟨S, 0, none⟩) n n) n (madeCells (Value.slice none 0 0).cells (n * 1)).toList) : Tab w1 [] S n (fun _ => none) := by
  rcases h.2 with ⟨hv, _⟩ | ⟨g, cap, cur, hv, hbb, hgg, hle, hcm, hcur, htake⟩
  · cases hv
  · simp only [Value.slice.injEq, Option.some.injEq, Addr.mk.injEq] at hv
    obtain ⟨⟨rfl, _⟩, _, rfl⟩ := hv
    refine ⟨cur, hgg, by omega, fun i hi => ⟨.slice none 0 0, ?_, rfl⟩⟩
    have h2 : cur.toList[i]? = (madeCells (Value.slice none 0 0).cells (n * 1)).toList[i]? := by
      rw [← htake, List.getElem?_take, if_pos (by omega)]
    have h3 : cur[i]? = (madeCells (Value.slice none 0 0).cells (n * 1))[i]? := by simpa using h2
    rw [h3, nils_at _ _ (by omega)]

theorem wp_make_tab {w : World} {ops : Array Oper} {rest : List Oper} {o : Oper} {a : Act} {Q : Exit → Act → World → Prop} (hg : o.guard = none) (l c : Operand) (hop : o.op = Op.makeSlice 53 l c) (n : Nat) (hn : n ≤ 16384) (hl : a.eval l = .int .i64 n) (hc : a.eval c = .int .i64 n)
    (hK : ∀ w', Tab w' [] w.heap.size n (fun _ => none) → Below w.heap.size w w' → wpList Try.prog ops Q rest (a.put o.dst (.slice (some ⟨w.heap.size, 0, none⟩) n n)) w') : wpList Try.prog ops Q (o :: rest) a w := by
  obtain ⟨i0, hi, hz0, hz1, hz2⟩ := info_parts bytessinfo
  refine wpList_make_full _ hg _ _ 53 hop w.heap.size 32 i0 (.slice none 0 0) 1 Try.underlying53 hi hz0 hz1 .i64 .i64 _ _ n hl hc rfl rfl (by rw [hz2]; omega) (by unfold maxLen; omega) (Nat.le_refl _) ?_
  intro w1 hown1 hg1
  exact hK w1 (tab_new hown1) ((Below.refl _ _).grown hg1 (Nat.le_refl _) (fun k hk => by cases hk))

end Go.Proofs.Ytahcfpfjijkchaa
