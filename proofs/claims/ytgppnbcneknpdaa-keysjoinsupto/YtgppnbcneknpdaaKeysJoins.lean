/- KeysJoins, where what comes in is of bulk at most 1048576: what ranges have in common, what any of them has, which texts they have, and what is left without another range, are the document's. -/
import Derived.Test.YtgppnbcneknpdaaKyRn
import Derived.Test.YtgppnbcneknpdaaKySm
import Derived.Test.YtgppnbcneknpdaaKyMw
import Derived.Test.YtgppnbcneknpdaaKyLive
import Derived.Test.YtgppnbcneknpdaaKyPu
import Derived.Test.YtgppnbcneknpdaaKyBulk
namespace Go.Proofs.Ytgppnbcneknpdaa
open Go.ChangeShapes Go.WideShapes Go.ChangeAt Go.RowKit Go.Sort
open Go.ChangeMaps (open_string shut_string)
set_option linter.unusedVariables false
set_option maxRecDepth 100000

theorem Ky.puts_len (l : List Rg) : (Ky.puts l).length ≤ l.length := by
  rw [(Ky.puts_perm l).length_eq]
  exact Ky.full_le l

theorem Ky.uni_le (l : List Rg) : (Ky.uni l).length ≤ l.length := by
  have := Ky.uni_len l []
  unfold Ky.uni
  simpa using this

theorem Ky.gath_len (r : Rg) (l : List Rg) : (Ky.gath r l).length ≤ 2 * l.length := by
  have h1 : ∀ m : List Rg, (m.flatMap (Ky.part r)).length ≤ 2 * m.length := fun m => by
    induction m with
    | nil => simp
    | cons x t ih =>
      have := Ky.part_len r x
      simp only [List.flatMap_cons, List.length_append, List.length_cons]
      omega
  have h2 := h1 (Ky.full l)
  have h3 := Ky.full_le l
  unfold Ky.gath
  omega

set_option maxHeartbeats 8000000 in
theorem walk_keysJoins (p : Option Addr) (len cap : Nat) (l : List Rg) (r : Rg) (key : ByteArray) (w : World) (hin : InR w p len cap l) (_ : key.size ≤ 1048576) :
    Calls Try.prog 6 #[.slice p len cap, r.val, .string key] w fun e w' => e = .returned (.bool true) ∧ Below w.heap.size w w' := by
  obtain ⟨hlen, hrgs, hroom, hnil⟩ := hin
  have HL : Hid (l.length = len) := hlen
  have HN : Hid (p = none → len = 0) := hnil
  obtain ⟨w0, hw0⟩ : ∃ w0, w0 = w.alloc (.cells #[.string r.lo, .string r.hi] 24) := ⟨_, rfl⟩
  have HB0 : Hid (Below w.heap.size w w0) := by rw [hw0]; exact (Below.refl _ _).alloc (Nat.le_refl _) _
  have HK0 : Hid (Bk w0 w.heap.size 24 #[.string r.lo, .string r.hi]) := by rw [hw0]; exact Bk.new _ _ _
  have HX0 : Hid (Rgs w0 p l) := hrgs.below HB0.out (Nat.le_refl _)
  have HS0 : Hid (w.heap.size < w0.heap.size) := HK0.out.lt
  have HX : Hid (∀ w', Below w0.heap.size w0 w' → Rgs w' p l ∧ (w'.cell? ⟨w.heap.size, 0, none⟩ = some (.string r.lo) ∧ w'.cell? ⟨w.heap.size, 1, none⟩ = some (.string r.hi)) ∧ Below w.heap.size w w' ∧ w0.heap.size ≤ w'.heap.size) := by
    intro w' hb
    have hk := HK0.out.below hb HS0.out
    exact ⟨HX0.out.below hb (Nat.le_refl _), ⟨hk.cell 0, hk.cell 1⟩, HB0.out.trans (hb.mono HB0.out.size), hb.size⟩
  have hlm : len ≤ 3298534883328 := by omega
  have hl4 : len ≤ 4194304 := by omega
  have hl6 : len ≤ 4611686018427387904 := by omega
  obtain ⟨U, hU⟩ : ∃ U, Ky.uni (Ky.puts l) = U := ⟨_, rfl⟩
  obtain ⟨nU, hnU⟩ : ∃ nU, U.length = nU := ⟨_, rfl⟩
  have hU6 : nU ≤ 4611686018427387904 := by
    have h1 := Ky.uni_le (Ky.puts l)
    have h2 := Ky.puts_len l
    rw [hU] at h1
    omega
  have HU : Hid (∀ l1 : List Rg, l1.Perm (Ky.full l) → Ky.Sorted l1 → Ky.uni l1 = U) := fun l1 h1 h2 => by rw [← hU]; exact Ky.uni_one h1 h2 (Ky.puts_perm l) (Ky.puts_sorted l)
  obtain ⟨M, hM⟩ : ∃ M, (if Ky.emp r then Ky.uni (Ky.puts l) else Ky.uni (Ky.puts (Ky.gath r l))) = M := ⟨_, rfl⟩
  obtain ⟨nM, hnM⟩ : ∃ nM, M.length = nM := ⟨_, rfl⟩
  have hM6 : nM ≤ 4611686018427387904 := by
    rw [← hnM, ← hM]
    split
    · have h1 := Ky.uni_le (Ky.puts l)
      have h2 := Ky.puts_len l
      omega
    · have h1 := Ky.uni_le (Ky.puts (Ky.gath r l))
      have h2 := Ky.puts_len (Ky.gath r l)
      have h3 := Ky.gath_len r l
      omega
  have HM : Hid (∀ l1 l2 : List Rg, l1.Perm (Ky.full l) → Ky.Sorted l1 → l2.Perm (Ky.full (Ky.left (Ky.uni l1) (Ky.around r))) → Ky.Sorted l2 → Ky.uni l2 = M) := fun l1 l2 h1 s1 h2 s2 => by
    rw [← hM]
    cases he : Ky.emp r with
    | true => exact Ky.minus_none h1 s1 h2 s2 he (Ky.puts_perm l) (Ky.puts_sorted l)
    | false => exact Ky.minus_one h1 s1 h2 s2 he (Ky.puts_perm (Ky.gath r l)) (Ky.puts_sorted (Ky.gath r l))
  have HUq : Hid (Ky.uni (Ky.puts l) = U) := hU
  have HMq : Hid ((if Ky.emp r then Ky.uni (Ky.puts l) else Ky.uni (Ky.puts (Ky.gath r l))) = M) := hM
  have HnU : Hid (U.length = nU) := hnU
  have HnM : Hid (M.length = nM) := hnM
  obtain ⟨⟨ml, mh⟩, HME⟩ : ∃ m, Hid (Ky.meet l = m) := ⟨_, rfl⟩
  obtain ⟨t, HT⟩ : ∃ t, Hid (Ky.hits l key = t) := ⟨_, rfl⟩
  have xx0 : (ml.toList == ml.toList) = true := by simp
  have xx1 : (mh.toList == mh.toList) = true := by simp
  have tt1 : (t == t) = true := by simp
  have hB : Below w0.heap.size w0 w0.drew := (Below.refl _ _).drew
  have hk0 := (HX.out _ hB).2.1
  have hk1 := (HX.out _ (Below.refl _ _)).2.1
  clear hlen hrgs hnil hU hM hnU hnM
  go_enter Try.func6, Try.ntmps6
  go_wp2_with fail
  rw [← hw0]
  clear hw0
  refine wp_region_mid (S := (fun w' => w'.cell? ⟨w.heap.size, 0, none⟩ = some (.string r.lo) ∧ w'.cell? ⟨w.heap.size, 1, none⟩ = some (.string r.hi))) 34 (by kernel_rfl) ?_
  refine wpAnyM_ready (rs := [0]) (by kernel_rfl) (by simp) ?_
  refine AllReadyM.cons (o := { dst := some 7, op := Op.call { callee := Callee.value (Operand.func 11), args := #[], argTypes := #[] }, type := 4, pos := _, after := #[], guard := none }) rfl (fun K hK => ?_) AllReadyM.nil
  have HK9 : Hid (∀ a w, _ → K a w) := hK
  clear hK
  go_simp
  refine (live_any _).mono ?_
  rintro e w1 ⟨rfl, hb⟩
  have hB1 := hB.trans (hb.mono (HX.out _ hB).2.2.2)
  clear hb
  refine HK9.out _ _ ⟨fun _ => (HX.out _ hB1).2.1, ?_⟩
  clear HK9 K
  try simp only [Act.put, List.setIfInBounds_toArray, List.set_cons_zero, List.set_cons_succ]
  refine wpAnyM_take (i := 1) [] (oi := { dst := some 8, op := Op.move (Operand.tmp 7), type := 4, pos := _, after := #[{ on := 0, ground := Ground.data }, { on := 0, ground := Ground.chain }], guard := none }) (v := .bool true) rfl (by kernel_rfl) (by kernel_rfl) (by kernel_rfl) (by kernel_rfl) (fun _ _ _ h => h) (Or.inl ⟨by rfl, ?_⟩) (HX.out _ hB1).2.1 ?_
  · (intro w' hSw; obtain ⟨m0, m1⟩ := hSw; go_simp; try with_reducible rfl)
  try simp only [Act.put, List.setIfInBounds_toArray, List.set_cons_zero, List.set_cons_succ]
  refine wpAnyM_take (i := 2) [] (oi := { dst := some 9, op := Op.move (Operand.tmp 0), type := 22, pos := _, after := #[{ on := 1, ground := Ground.guard }], guard := some (1, true) }) (v := .slice p len cap) rfl (by kernel_rfl) (by kernel_rfl) (by kernel_rfl) (by kernel_rfl) (fun _ _ _ h => h) (Or.inl ⟨by rfl, ?_⟩) (HX.out _ hB1).2.1 ?_
  · (intro w' hSw; obtain ⟨m0, m1⟩ := hSw; go_simp; try with_reducible rfl)
  try simp only [Act.put, List.setIfInBounds_toArray, List.set_cons_zero, List.set_cons_succ]
  refine wpAnyM_take (i := 4) [] (oi := { dst := some 11, op := Op.move (Operand.tmp 0), type := 22, pos := _, after := #[{ on := 1, ground := Ground.guard }], guard := some (1, true) }) (v := .slice p len cap) rfl (by kernel_rfl) (by kernel_rfl) (by kernel_rfl) (by kernel_rfl) (fun _ _ _ h => h) (Or.inl ⟨by rfl, ?_⟩) (HX.out _ hB1).2.1 ?_
  · (intro w' hSw; obtain ⟨m0, m1⟩ := hSw; go_simp; try with_reducible rfl)
  try simp only [Act.put, List.setIfInBounds_toArray, List.set_cons_zero, List.set_cons_succ]
  refine wpAnyM_ready (rs := [3]) (by kernel_rfl) (by simp) ?_
  refine AllReadyM.cons (o := { dst := some 10, op := Op.call { callee := Callee.value (Operand.func 15), args := #[Operand.tmp 9], argTypes := #[22] }, type := 24, pos := _, after := #[{ on := 2, ground := Ground.data }, { on := 1, ground := Ground.chain }, { on := 1, ground := Ground.guard }], guard := some (1, true) }) rfl (fun K hK => ?_) AllReadyM.nil
  have HK9 : Hid (∀ a w, _ → K a w) := hK
  clear hK
  go_simp
  refine (meet_any p len cap l _ HL.out (HX.out _ hB1).1 hl6).mono ?_
  rw [HME.out]
  rintro e w2 ⟨rfl, hb⟩
  have hB2 := hB1.trans (hb.mono (HX.out _ hB1).2.2.2)
  clear hb
  refine HK9.out _ _ ⟨fun _ => (HX.out _ hB2).2.1, ?_⟩
  clear HK9 K
  try simp only [Act.put, List.setIfInBounds_toArray, List.set_cons_zero, List.set_cons_succ]
  refine wpAnyM_ready (rs := [5]) (by kernel_rfl) (by simp) ?_
  refine AllReadyM.cons (o := { dst := some 12, op := Op.call { callee := Callee.value (Operand.func 17), args := #[Operand.tmp 11], argTypes := #[22] }, type := 24, pos := _, after := #[{ on := 4, ground := Ground.data }, { on := 3, ground := Ground.chain }, { on := 1, ground := Ground.guard }], guard := some (1, true) }) rfl (fun K hK => ?_) AllReadyM.nil
  have HK9 : Hid (∀ a w, _ → K a w) := hK
  clear hK
  go_simp
  refine (rmeet_any p len cap l _ HL.out (HX.out _ hB2).1 hl6).mono ?_
  rw [HME.out]
  rintro e w3 ⟨rfl, hb⟩
  have hB3 := hB2.trans (hb.mono (HX.out _ hB2).2.2.2)
  clear hb
  refine HK9.out _ _ ⟨fun _ => (HX.out _ hB3).2.1, ?_⟩
  clear HK9 K
  try simp only [Act.put, List.setIfInBounds_toArray, List.set_cons_zero, List.set_cons_succ]
  refine wpAnyM_take (i := 6) [] (oi := { dst := some 13, op := Op.binOp BinOp.eql 24 (Operand.tmp 10) (Operand.tmp 12) 24, type := 4, pos := _, after := #[{ on := 3, ground := Ground.data }, { on := 5, ground := Ground.data }, { on := 1, ground := Ground.guard }], guard := some (1, true) }) (v := .bool true) rfl (by kernel_rfl) (by kernel_rfl) (by kernel_rfl) (by kernel_rfl) (fun _ _ _ h => h) (Or.inl ⟨by rfl, ?_⟩) (HX.out _ hB3).2.1 ?_
  · (intro w' hSw; obtain ⟨m0, m1⟩ := hSw; go_simp; try with_reducible rfl)
  try simp only [Act.put, List.setIfInBounds_toArray, List.set_cons_zero, List.set_cons_succ]
  refine wpAnyM_take (i := 7) [] (oi := { dst := some 14, op := Op.pick (Operand.tmp 8) (Operand.tmp 13) (Operand.const (Value.bool false)), type := 4, pos := _, after := #[{ on := 1, ground := Ground.data }, { on := 6, ground := Ground.data }], guard := none }) (v := .bool true) rfl (by kernel_rfl) (by kernel_rfl) (by kernel_rfl) (by kernel_rfl) (fun _ _ _ h => h) (Or.inl ⟨by rfl, ?_⟩) (HX.out _ hB3).2.1 ?_
  · (intro w' hSw; obtain ⟨m0, m1⟩ := hSw; go_simp; try with_reducible rfl)
  try simp only [Act.put, List.setIfInBounds_toArray, List.set_cons_zero, List.set_cons_succ]
  refine wpAnyM_take (i := 8) [] (oi := { dst := some 15, op := Op.move (Operand.tmp 14), type := 4, pos := _, after := #[{ on := 7, ground := Ground.data }, { on := 5, ground := Ground.chain }], guard := none }) (v := .bool true) rfl (by kernel_rfl) (by kernel_rfl) (by kernel_rfl) (by kernel_rfl) (fun _ _ _ h => h) (Or.inl ⟨by rfl, ?_⟩) (HX.out _ hB3).2.1 ?_
  · (intro w' hSw; obtain ⟨m0, m1⟩ := hSw; go_simp; try with_reducible rfl)
  try simp only [Act.put, List.setIfInBounds_toArray, List.set_cons_zero, List.set_cons_succ]
  refine wpAnyM_take (i := 9) [] (oi := { dst := some 16, op := Op.move (Operand.tmp 0), type := 22, pos := _, after := #[{ on := 8, ground := Ground.guard }], guard := some (8, true) }) (v := .slice p len cap) rfl (by kernel_rfl) (by kernel_rfl) (by kernel_rfl) (by kernel_rfl) (fun _ _ _ h => h) (Or.inl ⟨by rfl, ?_⟩) (HX.out _ hB3).2.1 ?_
  · (intro w' hSw; obtain ⟨m0, m1⟩ := hSw; go_simp; try with_reducible rfl)
  try simp only [Act.put, List.setIfInBounds_toArray, List.set_cons_zero, List.set_cons_succ]
  refine wpAnyM_take (i := 11) [] (oi := { dst := some 18, op := Op.move (Operand.tmp 0), type := 22, pos := _, after := #[{ on := 8, ground := Ground.guard }], guard := some (8, true) }) (v := .slice p len cap) rfl (by kernel_rfl) (by kernel_rfl) (by kernel_rfl) (by kernel_rfl) (fun _ _ _ h => h) (Or.inl ⟨by rfl, ?_⟩) (HX.out _ hB3).2.1 ?_
  · (intro w' hSw; obtain ⟨m0, m1⟩ := hSw; go_simp; try with_reducible rfl)
  try simp only [Act.put, List.setIfInBounds_toArray, List.set_cons_zero, List.set_cons_succ]
  refine wpAnyM_ready (rs := [10]) (by kernel_rfl) (by simp) ?_
  refine AllReadyM.cons (o := { dst := some 17, op := Op.call { callee := Callee.value (Operand.func 9), args := #[Operand.tmp 16], argTypes := #[22] }, type := 22, pos := _, after := #[{ on := 9, ground := Ground.data }, { on := 8, ground := Ground.chain }, { on := 8, ground := Ground.guard }], guard := some (8, true) }) rfl (fun K hK => ?_) AllReadyM.nil
  have HK9 : Hid (∀ a w, _ → K a w) := hK
  clear hK
  go_simp
  refine (union_any p len cap l _ HL.out (HX.out _ hB3).1 hlm HN.out).mono ?_
  rintro e w4 ⟨v4, l4, rfl, hp4, hs4, ho4, hb⟩
  have hB4 := hB3.trans (hb.mono (HX.out _ hB3).2.2.2)
  rw [HU.out l4 hp4 hs4] at ho4
  obtain ⟨pa, ca, rfl, hra, -⟩ := ho4.rgs
  rw [HnU.out]
  clear hp4 hs4 ho4
  clear hb
  refine HK9.out _ _ ⟨fun _ => (HX.out _ hB4).2.1, ?_⟩
  clear HK9 K
  try simp only [Act.put, List.setIfInBounds_toArray, List.set_cons_zero, List.set_cons_succ]
  refine wpAnyM_ready (rs := [12]) (by kernel_rfl) (by simp) ?_
  refine AllReadyM.cons (o := { dst := some 19, op := Op.call { callee := Callee.value (Operand.func 18), args := #[Operand.tmp 18], argTypes := #[22] }, type := 22, pos := _, after := #[{ on := 11, ground := Ground.data }, { on := 10, ground := Ground.chain }, { on := 8, ground := Ground.guard }], guard := some (8, true) }) rfl (fun K hK => ?_) AllReadyM.nil
  have HK9 : Hid (∀ a w, _ → K a w) := hK
  clear hK
  go_simp
  refine (runion_any p len cap l _ HL.out (HX.out _ hB4).1 hl4).mono ?_
  rw [HUq.out]
  rintro e w5 ⟨v5, rfl, ho5, hb⟩
  have hB5 := hB4.trans (hb.mono (HX.out _ hB4).2.2.2)
  obtain ⟨pb, cb, rfl, hrb, -⟩ := ho5.rgs
  have hra5 := hra.below hb (Nat.le_refl _)
  rw [HnU.out]
  clear ho5
  clear hb
  refine HK9.out _ _ ⟨fun _ => (HX.out _ hB5).2.1, ?_⟩
  clear HK9 K
  try simp only [Act.put, List.setIfInBounds_toArray, List.set_cons_zero, List.set_cons_succ]
  refine wpAnyM_ready (rs := [13]) (by kernel_rfl) (by simp) ?_
  refine AllReadyM.cons (o := { dst := some 20, op := Op.call { callee := Callee.value (Operand.func 12), args := #[Operand.tmp 17, Operand.tmp 19], argTypes := #[22, 22] }, type := 4, pos := _, after := #[{ on := 10, ground := Ground.data }, { on := 12, ground := Ground.data }, { on := 12, ground := Ground.chain }, { on := 8, ground := Ground.guard }], guard := some (8, true) }) rfl (fun K hK => ?_) AllReadyM.nil
  have HK9 : Hid (∀ a w, _ → K a w) := hK
  clear hK
  go_simp
  refine (rsame_any HnU.out hra5 hrb hU6).mono ?_
  rintro e w6 ⟨rfl, hb⟩
  have hB6 := hB5.trans (hb.mono (HX.out _ hB5).2.2.2)
  clear hb
  refine HK9.out _ _ ⟨fun _ => (HX.out _ hB6).2.1, ?_⟩
  clear HK9 K
  try simp only [Act.put, List.setIfInBounds_toArray, List.set_cons_zero, List.set_cons_succ]
  refine wpAnyM_take (i := 14) [] (oi := { dst := some 21, op := Op.pick (Operand.tmp 15) (Operand.tmp 20) (Operand.const (Value.bool false)), type := 4, pos := _, after := #[{ on := 8, ground := Ground.data }, { on := 13, ground := Ground.data }], guard := none }) (v := .bool true) rfl (by kernel_rfl) (by kernel_rfl) (by kernel_rfl) (by kernel_rfl) (fun _ _ _ h => h) (Or.inl ⟨by rfl, ?_⟩) (HX.out _ hB6).2.1 ?_
  · (intro w' hSw; obtain ⟨m0, m1⟩ := hSw; go_simp; try with_reducible rfl)
  try simp only [Act.put, List.setIfInBounds_toArray, List.set_cons_zero, List.set_cons_succ]
  refine wpAnyM_take (i := 15) [] (oi := { dst := some 22, op := Op.move (Operand.tmp 21), type := 4, pos := _, after := #[{ on := 14, ground := Ground.data }, { on := 13, ground := Ground.chain }], guard := none }) (v := .bool true) rfl (by kernel_rfl) (by kernel_rfl) (by kernel_rfl) (by kernel_rfl) (fun _ _ _ h => h) (Or.inl ⟨by rfl, ?_⟩) (HX.out _ hB6).2.1 ?_
  · (intro w' hSw; obtain ⟨m0, m1⟩ := hSw; go_simp; try with_reducible rfl)
  try simp only [Act.put, List.setIfInBounds_toArray, List.set_cons_zero, List.set_cons_succ]
  refine wpAnyM_take (i := 16) [] (oi := { dst := some 23, op := Op.move (Operand.tmp 0), type := 22, pos := _, after := #[{ on := 15, ground := Ground.guard }], guard := some (15, true) }) (v := .slice p len cap) rfl (by kernel_rfl) (by kernel_rfl) (by kernel_rfl) (by kernel_rfl) (fun _ _ _ h => h) (Or.inl ⟨by rfl, ?_⟩) (HX.out _ hB6).2.1 ?_
  · (intro w' hSw; obtain ⟨m0, m1⟩ := hSw; go_simp; try with_reducible rfl)
  try simp only [Act.put, List.setIfInBounds_toArray, List.set_cons_zero, List.set_cons_succ]
  refine wpAnyM_take (i := 17) [] (oi := { dst := some 24, op := Op.move (Operand.tmp 2), type := 9, pos := _, after := #[{ on := 15, ground := Ground.guard }], guard := some (15, true) }) (v := .string key) rfl (by kernel_rfl) (by kernel_rfl) (by kernel_rfl) (by kernel_rfl) (fun _ _ _ h => h) (Or.inl ⟨by rfl, ?_⟩) (HX.out _ hB6).2.1 ?_
  · (intro w' hSw; obtain ⟨m0, m1⟩ := hSw; go_simp; try with_reducible rfl)
  try simp only [Act.put, List.setIfInBounds_toArray, List.set_cons_zero, List.set_cons_succ]
  refine wpAnyM_take (i := 19) [] (oi := { dst := some 26, op := Op.move (Operand.tmp 0), type := 22, pos := _, after := #[{ on := 15, ground := Ground.guard }], guard := some (15, true) }) (v := .slice p len cap) rfl (by kernel_rfl) (by kernel_rfl) (by kernel_rfl) (by kernel_rfl) (fun _ _ _ h => h) (Or.inl ⟨by rfl, ?_⟩) (HX.out _ hB6).2.1 ?_
  · (intro w' hSw; obtain ⟨m0, m1⟩ := hSw; go_simp; try with_reducible rfl)
  try simp only [Act.put, List.setIfInBounds_toArray, List.set_cons_zero, List.set_cons_succ]
  refine wpAnyM_take (i := 20) [] (oi := { dst := some 27, op := Op.move (Operand.tmp 2), type := 9, pos := _, after := #[{ on := 15, ground := Ground.guard }], guard := some (15, true) }) (v := .string key) rfl (by kernel_rfl) (by kernel_rfl) (by kernel_rfl) (by kernel_rfl) (fun _ _ _ h => h) (Or.inl ⟨by rfl, ?_⟩) (HX.out _ hB6).2.1 ?_
  · (intro w' hSw; obtain ⟨m0, m1⟩ := hSw; go_simp; try with_reducible rfl)
  try simp only [Act.put, List.setIfInBounds_toArray, List.set_cons_zero, List.set_cons_succ]
  refine wpAnyM_ready (rs := [18]) (by kernel_rfl) (by simp) ?_
  refine AllReadyM.cons (o := { dst := some 25, op := Op.call { callee := Callee.value (Operand.func 16), args := #[Operand.tmp 23, Operand.tmp 24], argTypes := #[22, 9] }, type := 4, pos := _, after := #[{ on := 16, ground := Ground.data }, { on := 17, ground := Ground.data }, { on := 15, ground := Ground.chain }, { on := 15, ground := Ground.guard }], guard := some (15, true) }) rfl (fun K hK => ?_) AllReadyM.nil
  have HK9 : Hid (∀ a w, _ → K a w) := hK
  clear hK
  go_simp
  refine (hits_any p len cap l key _ HL.out (HX.out _ hB6).1 hl6).mono ?_
  rw [HT.out]
  rintro e w7 ⟨rfl, hb⟩
  have hB7 := hB6.trans (hb.mono (HX.out _ hB6).2.2.2)
  clear hb
  refine HK9.out _ _ ⟨fun _ => (HX.out _ hB7).2.1, ?_⟩
  clear HK9 K
  try simp only [Act.put, List.setIfInBounds_toArray, List.set_cons_zero, List.set_cons_succ]
  refine wpAnyM_ready (rs := [21]) (by kernel_rfl) (by simp) ?_
  refine AllReadyM.cons (o := { dst := some 28, op := Op.call { callee := Callee.value (Operand.func 19), args := #[Operand.tmp 26, Operand.tmp 27], argTypes := #[22, 9] }, type := 4, pos := _, after := #[{ on := 19, ground := Ground.data }, { on := 20, ground := Ground.data }, { on := 18, ground := Ground.chain }, { on := 15, ground := Ground.guard }], guard := some (15, true) }) rfl (fun K hK => ?_) AllReadyM.nil
  have HK9 : Hid (∀ a w, _ → K a w) := hK
  clear hK
  go_simp
  refine (rhits_any p len cap l key _ HL.out (HX.out _ hB7).1 hl6).mono ?_
  rw [HT.out]
  rintro e w8 ⟨rfl, hb⟩
  have hB8 := hB7.trans (hb.mono (HX.out _ hB7).2.2.2)
  clear hb
  refine HK9.out _ _ ⟨fun _ => (HX.out _ hB8).2.1, ?_⟩
  clear HK9 K
  try simp only [Act.put, List.setIfInBounds_toArray, List.set_cons_zero, List.set_cons_succ]
  refine wpAnyM_take (i := 22) [] (oi := { dst := some 29, op := Op.binOp BinOp.eql 4 (Operand.tmp 25) (Operand.tmp 28) 4, type := 4, pos := _, after := #[{ on := 18, ground := Ground.data }, { on := 21, ground := Ground.data }, { on := 15, ground := Ground.guard }], guard := some (15, true) }) (v := .bool true) rfl (by kernel_rfl) (by kernel_rfl) (by kernel_rfl) (by kernel_rfl) (fun _ _ _ h => h) (Or.inl ⟨by rfl, ?_⟩) (HX.out _ hB8).2.1 ?_
  · (intro w' hSw; obtain ⟨m0, m1⟩ := hSw; go_simp; try with_reducible rfl)
  try simp only [Act.put, List.setIfInBounds_toArray, List.set_cons_zero, List.set_cons_succ]
  refine wpAnyM_take (i := 23) [] (oi := { dst := some 30, op := Op.pick (Operand.tmp 22) (Operand.tmp 29) (Operand.const (Value.bool false)), type := 4, pos := _, after := #[{ on := 15, ground := Ground.data }, { on := 22, ground := Ground.data }], guard := none }) (v := .bool true) rfl (by kernel_rfl) (by kernel_rfl) (by kernel_rfl) (by kernel_rfl) (fun _ _ _ h => h) (Or.inl ⟨by rfl, ?_⟩) (HX.out _ hB8).2.1 ?_
  · (intro w' hSw; obtain ⟨m0, m1⟩ := hSw; go_simp; try with_reducible rfl)
  try simp only [Act.put, List.setIfInBounds_toArray, List.set_cons_zero, List.set_cons_succ]
  refine wpAnyM_take (i := 24) [] (oi := { dst := some 31, op := Op.move (Operand.tmp 30), type := 4, pos := _, after := #[{ on := 23, ground := Ground.data }, { on := 21, ground := Ground.chain }], guard := none }) (v := .bool true) rfl (by kernel_rfl) (by kernel_rfl) (by kernel_rfl) (by kernel_rfl) (fun _ _ _ h => h) (Or.inl ⟨by rfl, ?_⟩) (HX.out _ hB8).2.1 ?_
  · (intro w' hSw; obtain ⟨m0, m1⟩ := hSw; go_simp; try with_reducible rfl)
  try simp only [Act.put, List.setIfInBounds_toArray, List.set_cons_zero, List.set_cons_succ]
  refine wpAnyM_take (i := 25) [] (oi := { dst := some 32, op := Op.move (Operand.tmp 0), type := 22, pos := _, after := #[{ on := 24, ground := Ground.guard }], guard := some (24, true) }) (v := .slice p len cap) rfl (by kernel_rfl) (by kernel_rfl) (by kernel_rfl) (by kernel_rfl) (fun _ _ _ h => h) (Or.inl ⟨by rfl, ?_⟩) (HX.out _ hB8).2.1 ?_
  · (intro w' hSw; obtain ⟨m0, m1⟩ := hSw; go_simp; try with_reducible rfl)
  try simp only [Act.put, List.setIfInBounds_toArray, List.set_cons_zero, List.set_cons_succ]
  refine wpAnyM_take (i := 26) [] (oi := { dst := some 33, op := Op.load 24 (Operand.tmp 4), type := 24, pos := _, after := #[{ on := 24, ground := Ground.guard }], guard := some (24, true) }) (v := .agg #[.string r.lo, .string r.hi]) rfl (by kernel_rfl) (by kernel_rfl) (by kernel_rfl) (by kernel_rfl) (fun _ _ _ h => h) (Or.inl ⟨by rfl, ?_⟩) (HX.out _ hB8).2.1 ?_
  · (intro w' hSw; obtain ⟨m0, m1⟩ := hSw; go_simp; try with_reducible rfl)
  try simp only [Act.put, List.setIfInBounds_toArray, List.set_cons_zero, List.set_cons_succ]
  refine wpAnyM_take (i := 28) [] (oi := { dst := some 35, op := Op.move (Operand.tmp 0), type := 22, pos := _, after := #[{ on := 24, ground := Ground.guard }], guard := some (24, true) }) (v := .slice p len cap) rfl (by kernel_rfl) (by kernel_rfl) (by kernel_rfl) (by kernel_rfl) (fun _ _ _ h => h) (Or.inl ⟨by rfl, ?_⟩) (HX.out _ hB8).2.1 ?_
  · (intro w' hSw; obtain ⟨m0, m1⟩ := hSw; go_simp; try with_reducible rfl)
  try simp only [Act.put, List.setIfInBounds_toArray, List.set_cons_zero, List.set_cons_succ]
  refine wpAnyM_take (i := 29) [] (oi := { dst := some 36, op := Op.load 24 (Operand.tmp 4), type := 24, pos := _, after := #[{ on := 24, ground := Ground.guard }], guard := some (24, true) }) (v := .agg #[.string r.lo, .string r.hi]) rfl (by kernel_rfl) (by kernel_rfl) (by kernel_rfl) (by kernel_rfl) (fun _ _ _ h => h) (Or.inl ⟨by rfl, ?_⟩) (HX.out _ hB8).2.1 ?_
  · (intro w' hSw; obtain ⟨m0, m1⟩ := hSw; go_simp; try with_reducible rfl)
  try simp only [Act.put, List.setIfInBounds_toArray, List.set_cons_zero, List.set_cons_succ]
  refine wpAnyM_ready (rs := [27]) (by kernel_rfl) (by simp) ?_
  refine AllReadyM.cons (o := { dst := some 34, op := Op.call { callee := Callee.value (Operand.func 10), args := #[Operand.tmp 32, Operand.tmp 33], argTypes := #[22, 24] }, type := 22, pos := _, after := #[{ on := 25, ground := Ground.data }, { on := 26, ground := Ground.data }, { on := 24, ground := Ground.chain }, { on := 24, ground := Ground.guard }], guard := some (24, true) }) rfl (fun K hK => ?_) AllReadyM.nil
  have HK9 : Hid (∀ a w, _ → K a w) := hK
  clear hK
  go_simp
  refine (minus_any p len cap l r _ HL.out (HX.out _ hB8).1 hroom HN.out).mono ?_
  rintro e w9 ⟨v9, l2, l3, rfl, hp2, hs2, hp3, hs3, ho9, hb⟩
  have hB9 := hB8.trans (hb.mono (HX.out _ hB8).2.2.2)
  rw [HM.out l2 l3 hp2 hs2 hp3 hs3] at ho9
  obtain ⟨pc, cc, rfl, hrc, -⟩ := ho9.rgs
  rw [HnM.out]
  clear hp2 hs2 hp3 hs3 ho9
  clear hb
  refine HK9.out _ _ ⟨fun _ => (HX.out _ hB9).2.1, ?_⟩
  clear HK9 K
  try simp only [Act.put, List.setIfInBounds_toArray, List.set_cons_zero, List.set_cons_succ]
  refine wpAnyM_ready (rs := [30]) (by kernel_rfl) (by simp) ?_
  refine AllReadyM.cons (o := { dst := some 37, op := Op.call { callee := Callee.value (Operand.func 20), args := #[Operand.tmp 35, Operand.tmp 36], argTypes := #[22, 24] }, type := 22, pos := _, after := #[{ on := 28, ground := Ground.data }, { on := 29, ground := Ground.data }, { on := 27, ground := Ground.chain }, { on := 24, ground := Ground.guard }], guard := some (24, true) }) rfl (fun K hK => ?_) AllReadyM.nil
  have HK9 : Hid (∀ a w, _ → K a w) := hK
  clear hK
  go_simp
  refine (rminus_any p len cap l r _ HL.out (HX.out _ hB9).1 hroom).mono ?_
  rw [HMq.out]
  rintro e w10 ⟨v10, rfl, ho10, hb⟩
  have hB10 := hB9.trans (hb.mono (HX.out _ hB9).2.2.2)
  obtain ⟨pd, cd, rfl, hrd, -⟩ := ho10.rgs
  have hrc10 := hrc.below hb (Nat.le_refl _)
  rw [HnM.out]
  clear ho10
  clear hb
  refine HK9.out _ _ ⟨fun _ => (HX.out _ hB10).2.1, ?_⟩
  clear HK9 K
  try simp only [Act.put, List.setIfInBounds_toArray, List.set_cons_zero, List.set_cons_succ]
  refine wpAnyM_ready (rs := [31]) (by kernel_rfl) (by simp) ?_
  refine AllReadyM.cons (o := { dst := some 38, op := Op.call { callee := Callee.value (Operand.func 12), args := #[Operand.tmp 34, Operand.tmp 37], argTypes := #[22, 22] }, type := 4, pos := _, after := #[{ on := 27, ground := Ground.data }, { on := 30, ground := Ground.data }, { on := 30, ground := Ground.chain }, { on := 24, ground := Ground.guard }], guard := some (24, true) }) rfl (fun K hK => ?_) AllReadyM.nil
  have HK9 : Hid (∀ a w, _ → K a w) := hK
  clear hK
  go_simp
  refine (rsame_any HnM.out hrc10 hrd hM6).mono ?_
  rintro e w11 ⟨rfl, hb⟩
  have hB11 := hB10.trans (hb.mono (HX.out _ hB10).2.2.2)
  clear hb
  refine HK9.out _ _ ⟨fun _ => (HX.out _ hB11).2.1, ?_⟩
  clear HK9 K
  try simp only [Act.put, List.setIfInBounds_toArray, List.set_cons_zero, List.set_cons_succ]
  refine wpAnyM_take (i := 32) [] (oi := { dst := some 39, op := Op.pick (Operand.tmp 31) (Operand.tmp 38) (Operand.const (Value.bool false)), type := 4, pos := _, after := #[{ on := 24, ground := Ground.data }, { on := 31, ground := Ground.data }], guard := none }) (v := .bool true) rfl (by kernel_rfl) (by kernel_rfl) (by kernel_rfl) (by kernel_rfl) (fun _ _ _ h => h) (Or.inl ⟨by rfl, ?_⟩) (HX.out _ hB11).2.1 ?_
  · (intro w' hSw; obtain ⟨m0, m1⟩ := hSw; go_simp; try with_reducible rfl)
  try simp only [Act.put, List.setIfInBounds_toArray, List.set_cons_zero, List.set_cons_succ]
  refine wpAnyM_ready (rs := [33]) (by kernel_rfl) (by simp) ?_
  refine AllReadyM.cons (o := { dst := some 6, op := Op.assign (Operand.tmp 39), type := 4, pos := _, after := #[{ on := 32, ground := Ground.data }, { on := 31, ground := Ground.chain }, { on := 0, ground := Ground.phase }, { on := 1, ground := Ground.phase }, { on := 2, ground := Ground.phase }, { on := 3, ground := Ground.phase }, { on := 4, ground := Ground.phase }, { on := 5, ground := Ground.phase }, { on := 6, ground := Ground.phase }, { on := 7, ground := Ground.phase }, { on := 8, ground := Ground.phase }, { on := 9, ground := Ground.phase }, { on := 10, ground := Ground.phase }, { on := 11, ground := Ground.phase }, { on := 12, ground := Ground.phase }, { on := 13, ground := Ground.phase }, { on := 14, ground := Ground.phase }, { on := 15, ground := Ground.phase }, { on := 16, ground := Ground.phase }, { on := 17, ground := Ground.phase }, { on := 18, ground := Ground.phase }, { on := 19, ground := Ground.phase }, { on := 20, ground := Ground.phase }, { on := 21, ground := Ground.phase }, { on := 22, ground := Ground.phase }, { on := 23, ground := Ground.phase }, { on := 24, ground := Ground.phase }, { on := 25, ground := Ground.phase }, { on := 26, ground := Ground.phase }, { on := 27, ground := Ground.phase }, { on := 28, ground := Ground.phase }, { on := 29, ground := Ground.phase }, { on := 30, ground := Ground.phase }, { on := 31, ground := Ground.phase }, { on := 32, ground := Ground.phase }], guard := none }) rfl (fun K hK => ?_) AllReadyM.nil
  have HK9 : Hid (∀ a w, _ → K a w) := hK
  clear hK
  go_simp
  refine HK9.out _ _ ⟨fun _ => (HX.out _ hB11).2.1, ?_⟩
  clear HK9 K
  try simp only [Act.put, List.setIfInBounds_toArray, List.set_cons_zero, List.set_cons_succ]
  refine wpAnyM_done (by kernel_rfl) ?_ _
  have HF : Hid (Below w.heap.size w w11) := (HX.out _ hB11).2.2.1
  go_wp2
  go_ret
  exact ⟨rfl, HF.out⟩


theorem contract_keysJoins (H : Type) (enc : TypeId × Value → H) (W : World) (base : Nat) (args : Array Value) (ds gs : List (DataW H)) (before : List MemPlace)
    (hval0 : ∀ (j : Nat) t v, Try.f6.params[j]? = some t → args[j]? = some v → Value.okWide Try.prog W .any base t v)
    (hW : DataW.Whole enc Try.prog Try.f6.params.toList Rows.keysJoinsSpec.vars false W args.toList ds gs before) (hk : Rows.uptoSmall H (ds ++ gs) = true) :
    Calls Try.prog 6 args W fun e W' => ∃ v, e = .returned v ∧ Rows.keysJoinsSpec.post enc Try.prog Try.f6 false true false false W args v W' := by
  have hval : ∀ (j : Nat) t v, Try.f6.params[j]? = some t → args[j]? = some v → Value.okWide Try.prog W .any base t v := hval0
  have hW' := hW
  obtain ⟨p, q, hA0, hV, rfl, hfz, hnd⟩ := hW
  have hA : DataW.TrodAll enc Try.prog W 0 (fun _ => true) true Try.f6.params.toList args.toList ds p := hA0
  rw [Try.params6] at hA hval
  obtain ⟨v0, vs0, d0, ds0, p0, q0, hargs, rfl, rfl, h0, r0⟩ := trodAll_cons hA
  obtain ⟨v1, vs1, d1, ds1, p1, q1, rfl, rfl, rfl, h1, r1⟩ := trodAll_cons r0
  obtain ⟨v2, vs2, d2, ds2, p2, q2, rfl, rfl, rfl, h2, r2⟩ := trodAll_cons r1
  obtain ⟨rfl, rfl, rfl⟩ := trodAll_nil r2
  obtain rfl : args = #[v0, v1, v2] := by cases args; simp_all
  obtain ⟨rfl, rfl⟩ := trodVars_none hV
  simp only [List.append_nil] at hk
  obtain ⟨a0, len0, cap0, rfl⟩ := okWide_slice Try.underlying22 (hval 0 22 v0 rfl rfl)
  have k0 := h0
  have lt0 : ∀ x ∈ p0, x.block < W.heap.size := by obtain ⟨m, hm⟩ := k0; exact DataW.trod_lt m _ _ _ hm
  obtain ⟨z0, w0⟩ := in_rgs h0 (small_slice hk (by simp))
  have k1 := h1
  have lt1 : ∀ x ∈ p1, x.block < W.heap.size := by obtain ⟨m, hm⟩ := k1; exact DataW.trod_lt m _ _ _ hm
  obtain ⟨g1, e1⟩ : ∃ g : Rg, v1 = g.val := by
    obtain ⟨cs, hcs, _⟩ := okWide_struct Try.underlying24 (hval 1 24 v1 rfl rfl)
    obtain ⟨fuel, hf⟩ := h1
    obtain ⟨g, hg⟩ := in_rg hf
    refine ⟨g, ?_⟩
    rw [hcs] at hg ⊢
    congr 1
    apply Array.ext'
    simpa [Value.cells, Rg.cells] using hg
  subst e1
  obtain ⟨a2, rfl, rfl, rfl, w2⟩ := open_string Try.underlying9 (hval 2 9 v2 rfl rfl) h2
  have s2 : a2.size ≤ 1048576 := small_string hk (by simp)
  clear hA0 hval0
  simp only [List.append_nil] at hW'
  refine (walk_keysJoins a0 len0 cap0 z0 g1 a2 W w0 s2).mono fun e W' ⟨he, bel⟩ => ?_
  subst he
  exact ⟨_, rfl, _, _, _, [], _, [], hW', trodAll_mk1 (shut_bool Try.underlying4 _), (trodAll_cons_mk (Below.trod laidOut (by kernel_rfl) (of_decide_eq_true (by kernel_rfl)) k0 bel lt0) (trodAll_cons_mk (Below.trod laidOut (by kernel_rfl) (of_decide_eq_true (by kernel_rfl)) k1 bel lt1) (trodAll_cons_mk (shut_string Try.underlying9 w2) trodAll_mk0))), rfl, bel.frame _, fun h => by cases h⟩

set_option maxRecDepth 100000 in
set_option maxHeartbeats 2000000 in
theorem lifted_keysJoins (os : Os) (started : os.Started) (H : Type) (enc : TypeId × Value → H) (F : Stop.Interp) :
    ReturnsInHanded {} Try.checked os 6 .any ((Rows.OpenSpec.upto Rows.keysJoinsSpec).pre6 enc Try.prog Try.f6 Rows.keysJoinsUptoRow.domain false) (((Rows.OpenSpec.upto Rows.keysJoinsSpec).at F).post enc Try.prog Try.f6 false true false false) := by
  refine returnsInHanded_of_cond (C := Try.checked) (s := Rows.OpenSpec.upto Rows.keysJoinsSpec) (k := Rows.uptoSmall) rfl own started (by kernel_rfl) Try.func6
    (OpenSpec.witness (enc := enc) (C := Try.checked) (s := Rows.OpenSpec.upto Rows.keysJoinsSpec) (k := Rows.uptoSmall) rfl false ⟨#[], #[.slice none 0 0, .agg #[.string .empty, .string .empty], .string .empty], []⟩ 8 (by kernel_rfl) (by kernel_rfl) (by kernel_rfl)
      (x := ([.nil, .agg [.lit (.string []), .lit (.string [])], .lit (.string [])], [], [])) (by kernel_rfl) rfl (by kernel_rfl)) ?_
  intro W base args ds gs before hval hW _ hk _
  exact contract_keysJoins H enc W base args ds gs before hval hW hk

/-- The statement. -/
theorem keysJoins_holds : Rows.KeysJoinsUptoSaid :=
  OpenClaim.holds_of_cond 6 Try.f6 rfl rfl rfl rfl rfl rfl rfl ⟨rfl, rfl, rfl, rfl, rfl⟩ rfl rfl rfl rfl rfl (by kernel_rfl) Try.func6 (by kernel_rfl)
    (of_decide_eq_true (by kernel_rfl)) (by unfold Func.isWrapper; first | (rw [if_pos (by decide +kernel)]; kernel_rfl) | (rw [if_neg (by decide +kernel)]; exact ⟨rfl, rfl⟩))
    (fun os started H enc _ F => lifted_keysJoins os started H enc F)
#print axioms keysJoins_holds
end Go.Proofs.Ytgppnbcneknpdaa
