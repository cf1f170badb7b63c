/- The sector that the statements write. -/
import Derived.Test.YtpggnejifpcnmaaDkBarrier
import Derived.Lib.MakeNoZero
import Derived.Laws.Externs
namespace Go.Proofs.Ytpggnejifpcnmaa
open Go.RowKit Go.Shelf Go.Maps
set_option linter.unusedVariables false

/-- A row of bytes that begins with these. -/
def Row (w : World) (g : Nat) (xs : List Int) : Prop := ∃ cur, Bk w g 5 cur ∧ ∀ j, j < xs.length → cur[j]? = some (.int .u8 (xs.getD j 0))

theorem Row.sec {w : World} {g : Nat} {xs : List Int} (h : Row w g xs) (hx : xs.length = 512) : SecAt w g 0 xs := by
  obtain ⟨cur, hb, hc⟩ := h
  intro j hj
  rw [hb.cell, Nat.zero_add]
  exact hc j (by omega)

theorem Row.lt {w : World} {g : Nat} {xs : List Int} (h : Row w g xs) : g < w.heap.size := h.choose_spec.1.lt
theorem Row.tn {S : List Nat} {w w' : World} {g : Nat} {xs : List Int} (h : Row w g xs) (k : Tn S w w') (hg : g ∉ S) : Row w' g xs := by
  obtain ⟨cur, hb, hc⟩ := h
  exact ⟨cur, hb.tn k hg, hc⟩
theorem Row.below {w w' : World} {g B : Nat} {xs : List Int} (h : Row w g xs) (k : Below B w w') (hg : g < B) : Row w' g xs := by
  obtain ⟨cur, hb, hc⟩ := h
  exact ⟨cur, hb.below k hg, hc⟩
theorem Row.of_sec {w : World} {g : Nat} {xs : List Int} (h : Bk w g 5 (secCells xs)) : Row w g xs :=
  ⟨_, h, fun j hj => by rw [sec_cells_at]; simp [List.getD, hj]⟩

theorem run_copy_bytes {w : World} {g o b oo dl dc sl sc : Nat} {t ty : TypeId} {cur : Array Value} {xs : List Int} (hg : Bk w g t cur) (hn : xs.length = Nat.min sl dl) (hfit : o + xs.length ≤ cur.size) (h : ∀ j, j < xs.length → w.cell? ⟨b, oo + j, none⟩ = some (.int .u8 (xs.getD j 0))) :
    (Builtin.copy_ #[32, 32] ty #[.slice (some ⟨g, o, none⟩) dl dc, .slice (some ⟨b, oo, none⟩) sl sc]).run Try.prog w = .ok (.int .i64 (xs.length : Int)) (w.setRow g (cur.toList.take o ++ (secCells xs).toList ++ cur.toList.drop (o + xs.length)).toArray) := by
  have e : (secCells xs).toList.length = xs.length := by simp [secCells]
  rw [run_copy_row (P := Try.prog) w 32 32 ty 5 g o dl dc ⟨b, oo, none⟩ sl sc cur t (secCells xs).toList Try.underlying32 u8size hg (by rw [e]; exact hn) ?_ (by rw [e]; exact hfit) (sec_oneCell xs)]
  · rw [e]
    rfl
  · intro j v hv
    have hj : j < xs.length := by
      have := (List.getElem?_eq_some_iff.1 hv).1
      simpa [secCells] using this
    rw [Addr.add_lit, h j hj]
    have hv' : (secCells xs)[j]? = some v := by simpa using hv
    rw [sec_cells_at] at hv'
    simp [hj] at hv'
    simp [List.getD, hj, hv']

section
variable {w : World} {ops : Array Oper} {rest : List Oper} {o : Oper} {a : Act} {Q : Exit → Act → World → Prop}
theorem wp_copy_bytes (hg : o.guard = none) (x y : Operand) (hop : o.op = Op.call { callee := Callee.builtin Builtin.copy, args := #[x, y], argTypes := #[32, 32] }) (g oo b ob dl dc sl sc : Nat)
    (hx : a.eval x = .slice (some ⟨g, oo, none⟩) dl dc) (hy : a.eval y = .slice (some ⟨b, ob, none⟩) sl sc) (t : TypeId) (cur : Array Value) (hb : Bk w g t cur) (xs : List Int) (hn : xs.length = Nat.min sl dl) (hfit : oo + xs.length ≤ cur.size) (h : ∀ j, j < xs.length → w.cell? ⟨b, ob + j, none⟩ = some (.int .u8 (xs.getD j 0)))
    (hK : ∀ w', Bk w' g t (cur.toList.take oo ++ (secCells xs).toList ++ cur.toList.drop (oo + xs.length)).toArray → w.grownBy w' (some g) → w'.heap.size = w.heap.size → wpList Try.prog ops Q rest (a.put o.dst (.int .i64 (xs.length : Int))) w') : wpList Try.prog ops Q (o :: rest) a w := by
  refine wpList_plain hg fun K hK' => ?_
  unfold Oper.wp
  simp only [execOp, hop, resolve, invoke, builtin, List.map_toArray, List.map_cons, List.map_nil, hx, hy, Sem.run_bind, Sem.run_pure, Result.andThen_ok, run_copy_bytes hb hn hfit h]
  simp only [Oper.upon_value]
  exact hK' _ _ (hK _ (hb.setRow _) ⟨rfl, rfl, rfl, by simp [World.setRow], fun k hk hn => setRow_other w g k _ (fun e => hn (by rw [e]))⟩ (by simp [World.setRow]))
end

/-- The cells with more of them laid in. -/
theorem fill_at {cur : Array Value} {k m : Nat} {b : Int} (hk : k + m ≤ cur.size) (h : ∀ j, j < k → cur[j]? = some (.int .u8 b)) :
    (∀ j, j < k + m → (cur.toList.take k ++ (secCells (List.replicate m b)).toList ++ cur.toList.drop (k + m)).toArray[j]? = some (.int .u8 b)) ∧ (cur.toList.take k ++ (secCells (List.replicate m b)).toList ++ cur.toList.drop (k + m)).toArray.size = cur.size := by
  have h1 : k ≤ cur.toList.length := by simp; omega
  constructor
  · intro j hj
    simp only [List.getElem?_toArray]
    by_cases hjk : j < k
    · rw [List.append_assoc, List.getElem?_append_left (by simp; omega), List.getElem?_take, if_pos hjk]
      simpa using h j hjk
    · rw [List.append_assoc, List.getElem?_append_right (by simp; omega), List.length_take, Nat.min_eq_left h1, List.getElem?_append_left (by simp [secCells]; omega)]
      have : j - k < m := by omega
      simp [secCells, this]
  · simp [secCells]
    omega

set_option maxRecDepth 100000 in
set_option maxHeartbeats 4000000 in
theorem mul_any (w : World) : Calls Try.prog 59 #[.int .u64 1, .int .u64 512] w fun e w' => e = .returned (.tuple #[.int .u64 0, .int .u64 512]) ∧ w' = w := by
  go_enter Try.func59, Try.ntmps59
  go_wp2
  go_ret2
  exact ⟨by first | rfl | decide, rfl⟩

set_option maxRecDepth 100000 in
set_option maxHeartbeats 400000 in
theorem repeat_any (g0 c0 : Nat) (b : Int) (w : World) (hc0 : w.cell? ⟨g0, 0, none⟩ = some (.int .u8 b)) :
    Calls Try.prog 43 #[.slice (some ⟨g0, 0, none⟩) 1 c0, .int .i64 512] w fun e w' => ∃ g cur, e = .returned (.slice (some ⟨g, 0, none⟩) 512 512) ∧ w.heap.size ≤ g ∧ Bk w' g 5 cur ∧ 512 ≤ cur.size ∧ (∀ j, j < 512 → cur[j]? = some (.int .u8 b)) ∧ Below w.heap.size w w' := by
  have hlt0 : g0 < w.heap.size := World.block_lt_of_cell? w _ hc0
  have hmul := mul_any w
  obtain ⟨cs, hrunM, hle, _⟩ := Lib.run_makeNoZero (P := Try.prog) w #[3] 32 5 Try.underlying32 512 (by omega)
  have hcall : (callFunc 60 #[.int .i64 512]).run Try.prog w = .ok (.value (.slice (some ⟨w.heap.size, 0, none⟩) 512 cs.size)) ((w.alloc (.cells cs 5)).drewN 2) := by
    have hrunM' : (Extern.BytealgMakeNoZero.makeNoZero #[3] #[32] #[.int .i64 512]).run Try.prog w = .ok (.slice (some ⟨w.heap.size, 0, none⟩) 512 cs.size) (w.drew.drew.alloc (.cells cs 5)) := hrunM
    rw [run_callFunc_extern Try.func60 (by kernel_rfl) (by kernel_rfl) (by kernel_rfl) (e := Extern.BytealgMakeNoZero.makeNoZero #[3] #[32]) (by kernel_rfl), hrunM']
    rfl
  clear hrunM
  have HC0 : Hid (w.cell? ⟨g0, 0, none⟩ = some (.int .u8 b)) := hc0
  clear hc0
  have i1 : (512 : Int) ≤ (cs.size : Int) := by omega
  have HBW : Hid (Below w.heap.size w ((w.alloc (.cells cs 5)).drewN 2)) := (((Below.refl _ w).alloc (Nat.le_refl _) (.cells cs 5)).drew).drew
  have HKW : Hid (Bk ((w.alloc (.cells cs 5)).drewN 2) w.heap.size 5 cs) := Bk.new w _ _
  have HSW : Hid (((w.alloc (.cells cs 5)).drewN 2).heap.size = w.heap.size + 1) := World.size_alloc w _
  generalize (w.alloc (.cells cs 5)).drewN 2 = w1 at *
  go_enter Try.func43, Try.ntmps43
  go_wp2_with fail
  refine hmul.mono ?_
  rintro e w0 ⟨rfl, rfl⟩
  clear hmul
  have HC1 : Hid (∀ j, j < (List.replicate 1 b).length → w1.cell? ⟨g0, 0 + j, none⟩ = some (.int .u8 ((List.replicate 1 b).getD j 0))) := by
    intro j hj
    obtain rfl : j = 0 := by simpa using hj
    exact (HBW.out.cell (p := ⟨g0, 0, none⟩) hlt0).trans HC0.out
  go_wp2_with (refine wp_copy_bytes rfl _ _ rfl w0.heap.size 0 g0 0 _ _ _ _ rfl rfl _ cs HKW.out (List.replicate 1 b) rfl (by simp; omega) HC1.out ?_; intro w2 hz2 hg2 hs2; refine Hid.out ?_)
  unfold Hid
  have hf := fill_at (cur := cs) (k := 0) (m := 1) (b := b) (by omega) (fun j hj => by omega)
  rw [List.length_replicate] at hz2
  have HB2 : Hid (Below w0.heap.size w0 w2) := HBW.out.grown hg2 (by have := HSW.out; omega) (fun k hk => by cases hk; omega)
  have hs1 := HSW.out
  have HS2 : Hid (w2.heap.size = w0.heap.size + 1) := by rw [Hid]; omega
  have HREL : Hid (∃ cur, Bk w2 w0.heap.size 5 cur ∧ 512 ≤ cur.size ∧ ∀ j, j < 1 → cur[j]? = some (.int .u8 b)) := ⟨_, hz2, by rw [hf.2]; exact hle, hf.1⟩
  clear hf hz2 hg2 hs2 hs1 hcall HC1
  go_wp2_with fail
  go_loopw [10] (fun i wr => ∃ (k : Nat) (cur : Array Value), 1 ≤ k ∧ k ≤ 512 ∧ i = .int .i64 k ∧ Bk wr w0.heap.size 5 cur ∧ 512 ≤ cur.size ∧ (∀ j, j < k → cur[j]? = some (.int .u8 b)) ∧ Below w0.heap.size w0 wr) (fun i _ => 512 - (intOf i).toNat)
  case atStart =>
    obtain ⟨cur, h1, h2, h3⟩ := HREL.out
    exact ⟨1, cur, by omega, by omega, rfl, h1, h2, h3, HB2.out⟩
  case round =>
    obtain ⟨k, cur, hk1, hk2, rfl, hbk, hsz, hcs, hbel⟩ := hrel
    have HBK : Hid (Bk wr w0.heap.size 5 cur) := hbk
    have HCS : Hid (∀ j, j < k → cur[j]? = some (.int .u8 b)) := hcs
    have HBE : Hid (Below w0.heap.size w0 wr) := hbel
    have hwlt : w0.heap.size < wr.heap.size := hbk.lt
    clear hbk hcs hbel
    by_cases hq : k < 512
    · have hqi : (k : Int) < 512 := by omega
      have hq2 : ¬ (512 : Nat) = k := by omega
      have hq3 : ¬ (512 : Int) < (k : Int) := by omega
      have hmn : min (k : Int) 512 = (k : Int) := by omega
      go_wp2_with fail
      try rw [hmn]
      clear hmn
      obtain ⟨m, hm⟩ : ∃ m, m = min k (512 - k) := ⟨_, rfl⟩
      have hmb : 1 ≤ m ∧ k + m ≤ 512 ∧ m ≤ k := by omega
      have HMN : Hid (m = Nat.min k (512 - k)) := hm
      have HSL : Hid ((secCells (List.replicate m b)).toList.length = m) := by simp [Hid, secCells]
      have HSRC : Hid (∀ j v, (secCells (List.replicate m b)).toList[j]? = some v → wr.drew.cell? ((⟨w0.heap.size, 0, none⟩ : Addr).add j) = some v) := by
        intro j v hv
        have hj : j < m := by
          have := (List.getElem?_eq_some_iff.1 hv).1
          rw [HSL.out] at this
          exact this
        rw [Addr.add_lit, HBK.out.drew.cell, Nat.zero_add, HCS.out j (by omega)]
        have hv' : (secCells (List.replicate m b))[j]? = some v := by simpa using hv
        rw [sec_cells_at] at hv'
        simpa [hj] using hv'
      have HBD : Hid (wr.drew.heap[w0.heap.size]? = some (.cells cur.toList.toArray 5 (0, 0))) := by
        have : Bk wr.drew w0.heap.size 5 cur := HBK.out.drew
        unfold Bk at this
        simpa [Hid] using this
      have HBED : Hid (Below w0.heap.size w0 wr.drew) := HBE.out.drew
      have HFIT : Hid (k + (secCells (List.replicate m b)).toList.length ≤ cur.toList.length) := by rw [Hid, HSL.out]; simp; omega
      have HN2 : Hid ((secCells (List.replicate m b)).toList.length = Nat.min k (512 - k)) := by rw [Hid, HSL.out]; exact HMN.out
      have HFI : Hid (∃ cur', cur' = (splice cur.toList k (secCells (List.replicate m b)).toList).toArray ∧ 512 ≤ cur'.size ∧ ∀ j, j < k + m → cur'[j]? = some (.int .u8 b)) := by
        have hf := fill_at (cur := cur) (k := k) (m := m) (b := b) (by omega) HCS.out
        refine ⟨_, rfl, ?_⟩
        have e : (splice cur.toList k (secCells (List.replicate m b)).toList).toArray = (cur.toList.take k ++ (secCells (List.replicate m b)).toList ++ cur.toList.drop (k + m)).toArray := by
          rw [splice, HSL.out, List.append_assoc]
        rw [e]
        exact ⟨by rw [hf.2]; exact hsz, hf.1⟩
      clear hm
      go_region_law (refine step_copy_splice rfl (.tmp 70) (.tmp 73) 32 32 rfl 5 Try.underlying32 u8size (some ⟨w0.heap.size, k, none⟩) (some ⟨w0.heap.size, 0, none⟩) (512 - k) (512 - k) k 512 (by go_simp) (by go_simp) w0.heap.size k cur.toList 5 HBD.out (secCells (List.replicate m b)).toList HN2.out (fun _ => ⟨rfl, _, rfl, HSRC.out⟩) HFIT.out (sec_oneCell _) w0.heap.size w0 HBED.out (Nat.le_refl _) ?_; intro w3 hz3 hb3; rw [HSL.out])
      simp only [List.getElem_toArray, List.getElem_cons_zero, List.getElem_cons_succ]
      go_frame
      go_wp2
      go_roundw
      case rel =>
        obtain ⟨cur3, h1, h2, h3⟩ := HFI.out
        refine ⟨k + m, cur3, by omega, by omega, ?_, ?_, h2, h3, hb3⟩
        · rw [IntWalk.i64_in _ (by omega), Int.natCast_add]
        · rw [h1]
          exact hz3.out
      case measure =>
        rw [IntWalk.i64_in _ (by omega)]
        simp only [intOf]
        omega
    · obtain rfl : k = 512 := by omega
      go_wp2
      go_ret
      exact ⟨w0.heap.size, cur, rfl, Nat.le_refl _, HBK.out, hsz, HCS.out, HBE.out⟩

/-- A sector that begins with a byte, all the rest being another one. -/
def sct (a b : Int) : List Int := a :: List.replicate 511 b

theorem sct_len (a b : Int) : (sct a b).length = 512 := by rw [sct, List.length_cons, List.length_replicate]
theorem sec_sct {a b : Int} (ha : 0 ≤ a ∧ a < 256) (hb : 0 ≤ b ∧ b < 256) : Sec (sct a b) := by
  refine ⟨sct_len a b, fun y hy => ?_⟩
  rw [sct, List.mem_cons] at hy
  rcases hy with rfl | hy
  · exact ha
  · rw [List.eq_of_mem_replicate hy]
    exact hb

set_option maxRecDepth 100000 in
set_option maxHeartbeats 1000000 in
theorem sector_any (a b : Int) (w : World) :
    Calls Try.prog 22 #[.int .u8 a, .int .u8 b] w fun e w' => ∃ g, e = .returned (.slice (some ⟨g, 0, none⟩) 512 512) ∧ w.heap.size ≤ g ∧ Row w' g (sct a b) ∧ Below w.heap.size w w' := by
  have hc : (w.alloc (.cells #[.int .u8 b] 5)).cell? ⟨w.heap.size, 0, none⟩ = some (.int .u8 b) := by rw [(Bk.new w 5 #[.int .u8 b]).cell]; rfl
  have hr := repeat_any w.heap.size 1 b (w.alloc (.cells #[.int .u8 b] 5)) hc
  have HR : Hid _ := hr
  clear hr hc
  go_enter Try.func22, Try.ntmps22
  go_wp2_with fail
  refine Calls.mono HR.out ?_
  rintro e w1 ⟨g, cur, rfl, hg, hbk, hsz, hcs, hbel⟩
  clear HR
  have hg' : w.heap.size ≤ g := by simp at hg; omega
  have HBE : Hid (Below w.heap.size w w1) := ((Below.refl _ w).alloc (Nat.le_refl _) _).trans (hbel.mono (by simp))
  have HBK : Hid (Bk w1 g 5 cur) := hbk
  have HCS : Hid (∀ j, j < 512 → cur[j]? = some (.int .u8 b)) := hcs
  have c0 : w1.cell? ⟨g, 0, none⟩ = some (.int .u8 b) := by rw [hbk.cell]; exact hcs 0 (by omega)
  have f0 := hbk.frozen 0
  clear hbk hcs hbel hg
  go_wp2
  go_ret
  refine ⟨g, rfl, hg', ⟨_, HBK.out.set 0 _, fun j hj => ?_⟩, HBE.out.setCell (p := ⟨g, 0, none⟩) hg' _⟩
  rw [sct_len] at hj
  rw [Array.getElem?_setIfInBounds]
  by_cases h0 : 0 = j
  · subst h0
    have : 0 < cur.size := by omega
    simp [this, sct]
  · rw [if_neg h0, HCS.out j hj]
    obtain ⟨i, rfl⟩ : ∃ i, j = i + 1 := ⟨j - 1, by omega⟩
    have hi : i < 511 := by omega
    rw [sct, List.getD_cons_succ, List.getD, List.getElem?_replicate, if_pos hi]
    rfl

end Go.Proofs.Ytpggnejifpcnmaa
