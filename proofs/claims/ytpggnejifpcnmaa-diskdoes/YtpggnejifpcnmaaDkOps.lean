/- Disks: the steps that touch a whole sector. -/
import Derived.Test.YtpggnejifpcnmaaDkBase
import Derived.StillTail
import Derived.Maps.RangeWalk
import Derived.Laws.CopyOwn
namespace Go.Proofs.Ytpggnejifpcnmaa
open Go.RowKit Go.Maps
set_option linter.unusedVariables false

theorem sec_zero (w : World) : (zeroValue 79).run Try.prog w = .ok (secVal zeros) w := by kernel_rfl
theorem sec_size (w : World) : (sizeOf 79).run Try.prog w = .ok 512 w := by kernel_rfl
theorem sec_agg (w : World) : (isAgg 79).run Try.prog w = .ok true w := by kernel_rfl
theorem int_law : Keyed Try.prog 3 := int_keyed Try.underlying3

theorem sec_cells_at (xs : List Int) (j : Nat) : (secCells xs)[j]? = (xs[j]?).map (Value.int .u8) := by simp [secCells]

theorem sec_oneCell (xs : List Int) : ∀ v ∈ (secCells xs).toList, v.oneCell' = true := by
  intro v hv
  simp only [secCells, List.mem_map] at hv
  obtain ⟨y, _, rfl⟩ := hv
  rfl

/-- A sector lies at a place. -/
def SecAt (w : World) (b o : Nat) (xs : List Int) : Prop := ∀ j, j < 512 → w.cell? ⟨b, o + j, none⟩ = some (.int .u8 (xs.getD j 0))

theorem SecAt.of_bk {w : World} {b : Nat} {t : TypeId} {xs : List Int} (h : Bk w b t (secCells xs)) (hx : xs.length = 512) : SecAt w b 0 xs := by
  intro j hj
  rw [h.cell, Nat.zero_add, sec_cells_at]
  have : j < xs.length := by omega
  simp [List.getD, this]

theorem run_loadVar_sec {w : World} {b o : Nat} {xs : List Int} (hx : xs.length = 512) (h : SecAt w b o xs) : (loadVar 79 ⟨b, o, none⟩).run Try.prog w = .ok (secVal xs) w := by
  have hl := run_loadCells_list (P := Try.prog) w ⟨b, o, none⟩ (secCells xs).toList (fun j v hv => by
    have hj : j < 512 := by
      have := (List.getElem?_eq_some_iff.1 hv).1
      simpa [secCells, hx] using this
    rw [Addr.add_lit, h j hj]
    have hv' : (secCells xs)[j]? = some v := by simpa using hv
    rw [sec_cells_at] at hv'
    have : j < xs.length := by omega
    simp [this] at hv'
    simp [List.getD, this, hv'])
  have e : (secCells xs).toList.length = 512 := by simp [secCells, hx]
  rw [e] at hl
  unfold loadVar
  simp only [Sem.run_bind, Result.andThen_ok, sec_agg, sec_size, hl, if_true]
  rfl

theorem run_load_sec {w : World} {b o : Nat} {xs : List Int} (hx : xs.length = 512) (h : SecAt w b o xs) : (Instr.loadAt 79 (.pointer (some ⟨b, o, none⟩))).run Try.prog w = .ok (secVal xs) w := by
  unfold Instr.loadAt
  simp only [Instr.sureAddr, Sem.run_bind, Sem.run_pure, Result.andThen_ok, run_loadVar_sec hx h]

theorem results_sec {fn : Func} {t : Tmp} (h : fn.results = #[.cell t 79]) {tmps : Array Value} {w : World} {b : Nat} (ht : tmps.getD t undef = .pointer (some ⟨b, 0, none⟩)) {xs : List Int} (hx : xs.length = 512) (hs : SecAt w b 0 xs) :
    (results fn tmps).run Try.prog w = .ok (secVal xs) w := by
  have ht' : tmps[t]?.getD undef = .pointer (some ⟨b, 0, none⟩) := by simpa using ht
  simp [results, h, ht', asAddr, run_loadVar_sec hx hs]

/-- The cells with a sector laid in at a place. -/
def laid (cur : Array Value) (o : Nat) (xs : List Int) : Array Value := (cur.toList.take o ++ (secCells xs).toList ++ cur.toList.drop (o + 512)).toArray

theorem laid_size {cur : Array Value} {o : Nat} {xs : List Int} (h : o + 512 ≤ cur.size) (hx : xs.length = 512) : (laid cur o xs).size = cur.size := by
  simp [laid, secCells, hx]
  omega

theorem laid_in {cur : Array Value} {o : Nat} {xs : List Int} (h : o + 512 ≤ cur.size) (hx : xs.length = 512) {j : Nat} (hj : j < 512) : (laid cur o xs)[o + j]? = some (.int .u8 (xs.getD j 0)) := by
  have h1 : o ≤ cur.toList.length := by simp; omega
  have h2 : j < xs.length := by omega
  simp only [laid, List.getElem?_toArray]
  rw [List.append_assoc, List.getElem?_append_right (by simp; omega), List.length_take, Nat.min_eq_left h1, Nat.add_sub_cancel_left, List.getElem?_append_left (by simp [secCells]; omega)]
  simp [secCells, h2, List.getD]

theorem laid_out {cur : Array Value} {o : Nat} {xs : List Int} (h : o + 512 ≤ cur.size) (hx : xs.length = 512) {j : Nat} (hj : j < o ∨ o + 512 ≤ j) : (laid cur o xs)[j]? = cur[j]? := by
  have h1 : o ≤ cur.toList.length := by simp; omega
  simp only [laid, List.getElem?_toArray]
  rcases hj with hj | hj
  · rw [List.append_assoc, List.getElem?_append_left (by simp; omega), List.getElem?_take, if_pos hj]
    simp
  · rw [List.getElem?_append_right (by simp [secCells, hx]; omega), List.getElem?_drop]
    have : o + 512 + (j - (cur.toList.take o ++ (secCells xs).toList).length) = j := by simp [secCells, hx]; omega
    rw [this]
    simp

theorem laid_whole {cur : Array Value} {xs : List Int} (h : cur.size = 512) : laid cur 0 xs = secCells xs := by
  simp [laid, List.drop_eq_nil_of_le (show cur.toList.length ≤ 512 by simp; omega)]

theorem run_store_sec {w : World} {b o : Nat} {t : TypeId} {cur : Array Value} {xs : List Int} (hx : xs.length = 512) (hb : Bk w b t cur) (h : o + 512 ≤ cur.size) :
    (Instr.storeAt 79 (.pointer (some ⟨b, o, none⟩)) (secVal xs)).run Try.prog w = .ok () (w.setRow b (laid cur o xs)) := by
  have hs := run_storeCells_at Try.prog b o t (secCells xs).toList 0 cur w hb (by simp [secCells, hx]; omega) (sec_oneCell xs)
  have e : (secCells xs).toList.length = 512 := by simp [secCells, hx]
  rw [Nat.add_zero, e] at hs
  unfold Instr.storeAt storeVar
  have e2 : (secVal xs).cells.size = 512 := by simp [secVal, Value.cells, secCells, hx]
  have e3 : (secVal xs).cells.toList = (secCells xs).toList := by simp [secVal, Value.cells]
  simp only [Instr.sureAddr, Sem.run_bind, Sem.run_pure, Result.andThen_ok, sec_size, e2, ne_eq, not_true_eq_false, if_false, e3, hs]
  rfl

theorem run_alloc_sec (w : World) : (Instr.alloc 79 true (.tuple #[])).run Try.prog w = .ok (.pointer (some ⟨w.heap.size, 0, none⟩)) (w.alloc (.cells (secCells zeros) 79)) := by
  unfold Instr.alloc
  simp only [Sem.run_bind, sec_zero, Result.andThen_ok]
  rfl

theorem run_make_sec (w : World) : (Instr.makeSlice 32 (.int .i64 512) (.int .i64 512)).run Try.prog w = .ok (.slice (some ⟨w.heap.size, 0, none⟩) 512 512) (w.alloc (.cells (secCells zeros) 5)) := by kernel_rfl

theorem u8size : (Try.prog.info? 5).map (·.size) = some 1 := by kernel_rfl

theorem SecAt.src {w : World} {b o : Nat} {xs : List Int} (hx : xs.length = 512) (h : SecAt w b o xs) : ∀ j v, (secCells xs).toList[j]? = some v → w.cell? ((⟨b, o, none⟩ : Addr).add j) = some v := by
  intro j v hv
  have hj : j < 512 := by
    have := (List.getElem?_eq_some_iff.1 hv).1
    simpa [secCells, hx] using this
  rw [Addr.add_lit, h j hj]
  have hv' : (secCells xs)[j]? = some v := by simpa using hv
  rw [sec_cells_at] at hv'
  have : j < xs.length := by omega
  simp [this] at hv'
  simp [List.getD, this, hv']

theorem run_copy_sec {w : World} {g b o dc sc : Nat} {t : TypeId} {ty : TypeId} {cur : Array Value} {xs : List Int} (hx : xs.length = 512) (hg : Bk w g t cur) (hc : cur.size = 512) (h : SecAt w b o xs) :
    (Builtin.copy_ #[32, 32] ty #[.slice (some ⟨g, 0, none⟩) 512 dc, .slice (some ⟨b, o, none⟩) 512 sc]).run Try.prog w = .ok (.int .i64 512) (w.setRow g (secCells xs)) := by
  have e : (secCells xs).toList.length = 512 := by simp [secCells, hx]
  rw [run_copy_row (P := Try.prog) w 32 32 ty 5 g 0 512 dc ⟨b, o, none⟩ 512 sc cur t (secCells xs).toList Try.underlying32 u8size hg (by rw [e]; rfl) (h.src hx) (by rw [e]; omega) (sec_oneCell xs)]
  rw [e]
  have e2 : cur.toList.drop (0 + 512) = [] := List.drop_eq_nil_of_le (by simp; omega)
  rw [e2, List.take_zero, List.nil_append, List.append_nil]
  rfl

section
variable {w : World} {ops : Array Oper} {rest : List Oper} {o : Oper} {a : Act} {Q : Exit → Act → World → Prop}

theorem wp_alloc_sec (hg : o.guard = none) (hop : o.op = Op.alloc 79)
    (hK : ∀ w' xs, xs.length = 512 → xs = zeros → Bk w' w.heap.size 79 (secCells xs) → Below w.heap.size w w' → w'.heap.size = w.heap.size + 1 → wpList Try.prog ops Q rest (a.put o.dst (.pointer (some ⟨w.heap.size, 0, none⟩))) w') : wpList Try.prog ops Q (o :: rest) a w := by
  refine wpList_plain hg fun K hK' => ?_
  unfold Oper.wp
  simp [execOp, hop, run_alloc_sec, Result.andThen]
  exact hK' _ _ (hK _ zeros sec_zeros.1 rfl (Bk.new _ _ _) ((Below.refl _ _).alloc (Nat.le_refl _) _) (by simp))

theorem wp_load_sec (hg : o.guard = none) (x : Operand) (hop : o.op = Op.load 79 x) (b oo : Nat) (hx : a.eval x = .pointer (some ⟨b, oo, none⟩)) (xs : List Int) (hl : xs.length = 512) (h : SecAt w b oo xs)
    (hK : wpList Try.prog ops Q rest (a.put o.dst (secVal xs)) w) : wpList Try.prog ops Q (o :: rest) a w := by
  refine wpList_plain hg fun K hK' => ?_
  unfold Oper.wp
  simp [execOp, hop, hx, run_load_sec hl h, Result.andThen]
  exact hK' _ _ hK

theorem wp_store_sec (hg : o.guard = none) (x y : Operand) (hop : o.op = Op.store 79 x y) (b oo : Nat) (hx : a.eval x = .pointer (some ⟨b, oo, none⟩)) (xs : List Int) (hy : a.eval y = secVal xs) (hl : xs.length = 512)
    (t : TypeId) (cur : Array Value) (hb : Bk w b t cur) (hfit : oo + 512 ≤ cur.size)
    (hK : wpList Try.prog ops Q rest (a.put o.dst undef) (w.setRow b (laid cur oo xs))) : wpList Try.prog ops Q (o :: rest) a w := by
  refine wpList_plain hg fun K hK' => ?_
  unfold Oper.wp
  simp [execOp, hop, hx, hy, run_store_sec hl hb hfit, Result.andThen]
  exact hK' _ _ hK

/-- .. into a block that has just been made. -/
theorem wp_store_new (hg : o.guard = none) (x y : Operand) (hop : o.op = Op.store 79 x y) (b : Nat) (hx : a.eval x = .pointer (some ⟨b, 0, none⟩)) (xs : List Int) (hy : a.eval y = secVal xs) (hl : xs.length = 512)
    (t : TypeId) (cur : Array Value) (hb : Bk w b t cur) (hfit : cur.size = 512)
    (hK : ∀ w', Bk w' b t (secCells xs) → w.grownBy w' (some b) → w'.heap.size = w.heap.size → wpList Try.prog ops Q rest (a.put o.dst undef) w') : wpList Try.prog ops Q (o :: rest) a w := by
  refine wp_store_sec hg x y hop b 0 hx xs hy hl t cur hb (by omega) ?_
  rw [laid_whole hfit]
  exact hK _ (hb.setRow _) ⟨rfl, rfl, rfl, by simp [World.setRow], fun k hk hn => setRow_other w b k _ (fun e => hn (by rw [e]))⟩ (by simp [World.setRow])

/-- 'make([]byte, 512)'. -/
theorem wp_make_sec (hg : o.guard = none) (l c : Operand) (hop : o.op = Op.makeSlice 32 l c) (hl : a.eval l = .int .i64 512) (hc : a.eval c = .int .i64 512)
    (hK : ∀ w' xs, xs.length = 512 → xs = zeros → Bk w' w.heap.size 5 (secCells xs) → Below w.heap.size w w' → w'.heap.size = w.heap.size + 1 → wpList Try.prog ops Q rest (a.put o.dst (.slice (some ⟨w.heap.size, 0, none⟩) 512 512)) w') : wpList Try.prog ops Q (o :: rest) a w := by
  refine wpList_plain hg fun K hK' => ?_
  unfold Oper.wp
  simp [execOp, hop, hl, hc, run_make_sec, Result.andThen]
  exact hK' _ _ (hK _ zeros sec_zeros.1 rfl (Bk.new _ _ _) ((Below.refl _ _).alloc (Nat.le_refl _) _) (by simp))

/-- 'copy' of a whole sector. -/
theorem wp_copy_sec (hg : o.guard = none) (x y : Operand) (hop : o.op = Op.call { callee := Callee.builtin Builtin.copy, args := #[x, y], argTypes := #[32, 32] }) (g b oo dc sc : Nat)
    (hx : a.eval x = .slice (some ⟨g, 0, none⟩) 512 dc) (hy : a.eval y = .slice (some ⟨b, oo, none⟩) 512 sc) (t : TypeId) (cur : Array Value) (hb : Bk w g t cur) (hz : cur.size = 512) (xs : List Int) (hl : xs.length = 512) (h : SecAt w b oo xs)
    (hK : ∀ w', Bk w' g t (secCells xs) → w.grownBy w' (some g) → w'.heap.size = w.heap.size → wpList Try.prog ops Q rest (a.put o.dst (.int .i64 512)) w') : wpList Try.prog ops Q (o :: rest) a w := by
  refine wpList_plain hg fun K hK' => ?_
  unfold Oper.wp
  simp [execOp, hop, resolve, invoke, builtin, hx, hy, run_copy_sec hl hb hz h, Result.andThen]
  exact hK' _ _ (hK _ (hb.setRow _) ⟨rfl, rfl, rfl, by simp [World.setRow], fun k hk hn => setRow_other w g k _ (fun e => hn (by rw [e]))⟩ (by simp [World.setRow]))

/-- 'v, ok := m[k]' at a map of sectors. -/
theorem wp_lookup_sec (hg : o.guard = none) (m x : Operand) (hop : o.op = Op.lookup 58 m x true) (M n : Nat) (f : Nat → Option (List Int)) (hf : ∀ i x, f i = some x → Sec x) (hm : a.eval m = .map (some M))
    (hown : w.ownsMap Try.prog 3 secElem M n (datum f n)) (i : Nat) (hi : i < n) (hn : n ≤ 16384) (hx : a.eval x = .int .i64 (i : Int))
    (hK : ∀ xs, xs.length = 512 → (∀ y, f i = some y → xs = y) → wpList Try.prog ops Q rest (a.put o.dst (.tuple #[secVal xs, .bool (f i).isSome])) w) : wpList Try.prog ops Q (o :: rest) a w := by
  refine wpList_lookup_own_ok w hg m x 58 hop 3 79 int_law Try.underlying58 secElem (sec_zero _) _ _ (secElem_mk sec_zeros) M n _ hm hown _ _ hx (keyOf_int_mk Try.underlying3 (WalkArith.wf_i64 (by omega))) ?_
  intro v ps hv
  rw [has_datum_nat f n i hi]
  obtain ⟨xs, rfl, hz, hs⟩ := secElem_inv hv
  simp only [Prod.mk.injEq] at hz
  refine hK xs hs.1 fun y hy => ?_
  have := hz.1
  rw [at_datum f n i y hi hy] at this
  simpa using this.symm

/-- 'm[k] = v' at a map of sectors. -/
theorem wp_update_sec (hg : o.guard = none) (m x y : Operand) (hop : o.op = Op.mapUpdate 58 m x y) (M n : Nat) (f : Nat → Option (List Int)) (hm : a.eval m = .map (some M))
    (hown : w.ownsMap Try.prog 3 secElem M n (datum f n)) (i : Nat) (hi : i < n) (hn : n ≤ 16384) (hx : a.eval x = .int .i64 (i : Int)) (xs : List Int) (hs : Sec xs) (hy : a.eval y = secVal xs)
    (hK : ∀ w', w'.ownsMap Try.prog 3 secElem M n (datum (upd f i xs) n) → w.grownBy w' (some M) → w'.heap.size = w.heap.size → wpList Try.prog ops Q rest (a.put o.dst undef) w') : wpList Try.prog ops Q (o :: rest) a w := by
  refine wpList_mapUpdate_in w hg m x y 58 hop 3 79 int_law Try.underlying58 secElem M n _ hm hown (by unfold maxLen; omega) _ _ _ hx hy (keyOf_int_mk Try.underlying3 (WalkArith.wf_i64 (by omega))) _ [] (secElem_mk hs) ?_
  intro w' hown' ht
  have hsz : w'.heap.size = w.heap.size := by
    obtain ⟨es, cl, es', cl', _, rfl⟩ := ht
    simp [ChangeMaps.setBlock]
  have hc := hown'.canon int_law
  rw [put_canon hi hc] at hown'
  exact hK w' (owns_bound hown') ht.grown hsz

end
end Go.Proofs.Ytpggnejifpcnmaa
