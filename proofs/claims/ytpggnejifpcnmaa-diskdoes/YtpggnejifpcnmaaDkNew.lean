/- Disks: a new one; bytes held against each other. -/
import Derived.Test.YtpggnejifpcnmaaDkSector
import Derived.OwnWalk
import Derived.Laws.BytesArg
namespace Go.Proofs.Ytpggnejifpcnmaa
open Go.RowKit Go.Shelf Go.Maps
set_option linter.unusedVariables false

/-- Bytes that a slice leads to. -/
def Bys (w : World) (p : Option Addr) (xs : List Int) : Prop :=
  0 < xs.length → ∃ b o, p = some ⟨b, o, none⟩ ∧ ∀ i, i < xs.length → w.cell? ⟨b, o + i, none⟩ = some (.int .u8 (xs.getD i 0))

theorem Bys.nil (w : World) (p : Option Addr) : Bys w p [] := fun h => absurd h (Nat.lt_irrefl 0)
theorem Row.bys {w : World} {g : Nat} {xs : List Int} (h : Row w g xs) : Bys w (some ⟨g, 0, none⟩) xs := by
  obtain ⟨cur, hb, hc⟩ := h
  exact fun _ => ⟨g, 0, rfl, fun i hi => by rw [hb.cell, Nat.zero_add]; exact hc i hi⟩

/-- 'string(b)'. -/
theorem conv_str {w : World} {p : Option Addr} {xs : List Int} (hx : Bys w p xs) (n c : Nat) (hn : xs.length = n) :
    (convert 32 9 (.slice p n c)).run Try.prog w = .ok (.string (strOfNums xs)) w := by
  rcases Nat.eq_zero_or_pos n with h0 | h0
  · subst h0
    obtain rfl : xs = [] := List.eq_nil_of_length_eq_zero hn
    rw [run_convert_bytes_string w _ _ 5 _ 0 c Try.underlying32 Try.underlying5 Try.underlying9]
    cases p <;> simp [Conv.bytesToString, loadCells]
    all_goals rfl
  · obtain ⟨b, o, rfl, hc⟩ := hx (by omega)
    exact run_convert_bytes_arg (P := Try.prog) w 32 5 Try.underlying32 Try.underlying5 b o n c xs hn (by rw [← hn]; exact hc) 9 Try.underlying9

theorem str_eq (xs ys : List Int) (bx : ∀ y ∈ xs, 0 ≤ y ∧ y < 256) (hy : ∀ y ∈ ys, 0 ≤ y ∧ y < 256) : ((strOfNums xs).toList == (strOfNums ys).toList) = decide (xs = ys) := by
  rw [ByteArray.toList_eq, ByteArray.toList_eq, strOfNums_data, strOfNums_data, Bool.eq_iff_iff, beq_iff_eq, decide_eq_true_iff]
  constructor
  · intro h
    induction xs generalizing ys with
    | nil => cases ys with
      | nil => rfl
      | cons b l => simp at h
    | cons a r ih => cases ys with
      | nil => simp at h
      | cons b l =>
        simp only [List.map_cons, List.cons.injEq] at h
        have ha := bx a (by simp)
        have hb := hy b (by simp)
        have e := congrArg UInt8.toNat h.1
        simp at e
        rw [ih l (fun y m => bx y (by simp [m])) (fun y m => hy y (by simp [m])) h.2]
        have : a = b := by omega
        rw [this]
  · rintro rfl
    rfl

set_option maxHeartbeats 400000 in
/-- bytes.Equal. -/
theorem equal_any (p q : Option Addr) (c d n m : Nat) (xs ys : List Int) (w : World) (hn : xs.length = n) (hm : ys.length = m) (hx : Bys w p xs) (hy : Bys w q ys) (bx : ∀ y ∈ xs, 0 ≤ y ∧ y < 256) (b2 : ∀ y ∈ ys, 0 ≤ y ∧ y < 256) :
    Calls Try.prog 27 #[.slice p n c, .slice q m d] w fun e w' => e = .returned (.bool (decide (xs = ys))) ∧ w' = w := by
  have k1 := conv_str hx n c hn
  have k2 := conv_str hy m d hm
  have HS : Hid _ := str_eq xs ys bx b2
  clear hx hy hn hm bx b2
  go_enter Try.func27, Try.ntmps27
  go_wp2
  go_ret
  rw [HS.out]
  exact ⟨rfl, rfl⟩

/-- A new disk. -/
def Dk.fresh (n : Nat) : Dk := { n := n, sure := fun _ => zeros, dirty := fun _ => none, calls := 0, down := false, left := 0, keep := [], cs := n }

theorem secinfo : (Try.prog.info? 79).map (fun i => (i.zero, i.size, i.bytes)) = some (some (secVal zeros), 512, 512) := by kernel_rfl

set_option maxHeartbeats 1000000 in
theorem new_bad (n : Int) (w : World) (h : n < 1 ∨ 16384 < n) :
    Calls Try.prog 9 #[.int .i64 n] w fun e w' => e = .returned (.tuple #[.pointer none, .int .i64 1]) ∧ w' = w := by
  rcases h with h | h
  · go_enter Try.func9, Try.ntmps9
    go_wp2
    go_ret2
    exact ⟨rfl, rfl⟩
  · have h1 : ¬ n < 1 := by omega
    go_enter Try.func9, Try.ntmps9
    go_wp2
    go_ret2
    exact ⟨rfl, rfl⟩

theorem made_at (m k : Nat) (hk : k < m) : (madeCells (secVal zeros).cells m)[k]? = some (.int .u8 0) := by
  have h1 : (secVal zeros).cells.size = 512 := secCells_512 sec_zeros.1
  have h2 : k % 512 < 512 := Nat.mod_lt _ (by omega)
  have h3 : (secVal zeros).cells[k % (secVal zeros).cells.size]! = .int .u8 0 := by
    rw [h1]
    have h4 : (secVal zeros).cells[k % 512]? = some (.int .u8 0) := by
      show (secCells zeros)[k % 512]? = _
      rw [sec_cells_at, zeros, List.getElem?_replicate, if_pos h2]
      rfl
    rw [getElem!_def, h4]
  rw [madeCells, Array.getElem?_map, Array.getElem?_range, if_pos hk, Option.map_some, h3]

theorem sure_new {w1 : World} {S n : Nat} (h : w1.ownsRow S 79 512 (.slice (some ⟨S, 0, none⟩) n n) n (madeCells (secVal zeros).cells (n * 512)).toList) : ∃ cur, Bk w1 S 79 cur ∧ SureAt cur n (fun _ => zeros) := by
  rcases h.2 with ⟨hv, _⟩ | ⟨g, cap, cur, hv, hbb, hgg, hle, hcm, hcur, htake⟩
  · cases hv
  · simp only [Value.slice.injEq, Option.some.injEq, Addr.mk.injEq] at hv
    obtain ⟨⟨rfl, _⟩, _, rfl⟩ := hv
    refine ⟨cur, hgg, Nat.le_of_eq hcur.symm, fun i hi j hj => ?_⟩
    have hk : i * 512 + j < n * 512 := by
      have : (i + 1) * 512 ≤ n * 512 := Nat.mul_le_mul_right _ hi
      omega
    have h1 := made_at (n * 512) (i * 512 + j) hk
    have h2 : cur.toList[i * 512 + j]? = (madeCells (secVal zeros).cells (n * 512)).toList[i * 512 + j]? := by
      rw [← htake, List.getElem?_take, if_pos hk]
    have h3 : cur[i * 512 + j]? = (madeCells (secVal zeros).cells (n * 512))[i * 512 + j]? := by simpa using h2
    rw [h3, h1]
    simp only [zeros, List.getD, List.getElem?_replicate, if_pos hj, Option.getD_some]

set_option maxRecDepth 100000 in
set_option maxHeartbeats 1000000 in
theorem new_any (n : Nat) (w : World) (h1 : 1 ≤ n) (h2 : n ≤ 16384) :
    Calls Try.prog 9 #[.int .i64 (n : Int)] w fun e w' => ∃ B bs, e = .returned (.tuple #[.pointer (some ⟨B, 0, none⟩), .int .i64 0]) ∧ Dsk w' B bs (Dk.fresh n) ∧ (∀ b ∈ bs, w.heap.size ≤ b) ∧ Below w.heap.size w w' := by
  obtain ⟨i0, hi, hz0, hz1, hz2⟩ := info_parts secinfo
  have hmm := @run_makeMap Try.prog
  have i1 : ¬ (n : Int) < 1 := by omega
  have i2 : ¬ (16384 : Int) < (n : Int) := by omega
  go_enter Try.func9, Try.ntmps9
  go_wp2_with (at_make; refine wpList_make_full _ rfl _ _ 57 rfl w.heap.size 79 i0 (secVal zeros) 512 Try.underlying57 hi hz0 hz1 .i64 .i64 _ _ n rfl rfl rfl rfl (by rw [hz2]; omega) (by unfold maxLen; omega) (Nat.le_refl _) ?_; intro w1 hown1 hg1; refine Hid.out ?_)
  unfold Hid
  have HS : Hid (∃ cur, Bk w1 w.heap.size 79 cur ∧ SureAt cur n (fun _ => zeros)) := sure_new hown1
  have HB1 : Hid (Below w.heap.size w w1) := (Below.refl _ _).grown hg1 (Nat.le_refl _) (fun k hk => by cases hk)
  have h11 : w.heap.size ≤ w1.heap.size := hg1.size
  have hlt1 : w.heap.size < w1.heap.size := HS.out.choose_spec.1.lt
  clear hown1 hg1
  go_wp2
  go_ret2
  have t1 : Tn [] w1 ((w1.alloc (Obj.map #[] 0)).alloc (Obj.cells #[Value.slice (some ⟨w.heap.size, 0, none⟩) n n, Value.map (some w1.heap.size), Value.int IntKind.i64 0, Value.bool false, Value.int IntKind.i64 0, Value.slice none 0 0] 62)) := ((Tn.refl _ _).alloc _).alloc _
  have t2 : Tn [] (w1.alloc (Obj.map #[] 0)) ((w1.alloc (Obj.map #[] 0)).alloc (Obj.cells #[Value.slice (some ⟨w.heap.size, 0, none⟩) n n, Value.map (some w1.heap.size), Value.int IntKind.i64 0, Value.bool false, Value.int IntKind.i64 0, Value.slice none 0 0] 62)) := (Tn.refl _ _).alloc _
  have hbk := Bk.new (w1.alloc (Obj.map #[] 0)) 62 #[Value.slice (some ⟨w.heap.size, 0, none⟩) n n, Value.map (some w1.heap.size), Value.int IntKind.i64 0, Value.bool false, Value.int IntKind.i64 0, Value.slice none 0 0]
  rw [World.size_alloc] at hbk
  have hmap : ((w1.alloc (Obj.map #[] 0)).alloc (Obj.cells #[Value.slice (some ⟨w.heap.size, 0, none⟩) n n, Value.map (some w1.heap.size), Value.int IntKind.i64 0, Value.bool false, Value.int IntKind.i64 0, Value.slice none 0 0] 62)).ownsMap Try.prog 3 secElem w1.heap.size n (datum (fun _ => none) n) := by
    have h0 := owns_tn (World.ownsMap_made w1 Try.prog 3 secElem) t2 (by simp)
    have e : datum (fun _ => none) n = .map [] := by
      unfold datum ents
      congr 1
      rw [List.filterMap_eq_nil_iff]
      simp
    rw [e]
    exact h0.mono (Nat.zero_le _)
  obtain ⟨cur, hc, hz⟩ := HS.out
  refine ⟨w1.heap.size + 1, [w1.heap.size + 1, w.heap.size, w1.heap.size], rfl, ⟨w.heap.size, w1.heap.size, none, 0, [], rfl, ?_⟩, ?_, HB1.out.trans ((((Below.refl _ w1).alloc (Nat.le_refl _) _).alloc (by simp) _).mono h11)⟩
  · exact {
      blk := hbk
      sure := ⟨cur, hc.tn t1 (by simp), hz⟩
      map := hmap
      keep := Bls.nil _ _
      kbs := fun ad h => by cases h
      kne := by simp
      klt := by simp
      n1 := h1
      n2 := h2
      secS := fun i _ => sec_zeros
      secD := fun i x h => by cases h
      lowD := fun i _ => rfl
      left := by simp [Dk.fresh]
      knil := fun _ => ⟨rfl, rfl⟩
      kcap := Nat.le_refl _ }
  · intro b hb
    simp at hb
    omega

end Go.Proofs.Ytpggnejifpcnmaa
