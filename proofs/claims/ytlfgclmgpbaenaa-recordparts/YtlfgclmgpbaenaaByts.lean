import Derived.Test.YtlfgclmgpbaenaaBase
import Derived.Laws.BytesArg
namespace Go.Proofs.Ytlfgclmgpbaenaa
open Go.RowKit
set_option linter.unusedVariables false
set_option maxRecDepth 100000

/-- 'string(b)'. -/
theorem conv_str {w : World} {p : Option Addr} {xs : List Int} (hx : Bys w p xs) (n c : Nat) (hn : xs.length = n) :
    (convert 42 9 (.slice p n c)).run Try.prog w = .ok (.string (strOfNums xs)) w := by
  rcases Nat.eq_zero_or_pos n with h0 | h0
  · subst h0
    obtain rfl : xs = [] := List.eq_nil_of_length_eq_zero hn
    rw [run_convert_bytes_string w _ _ 5 _ 0 c Try.underlying42 Try.underlying5 Try.underlying9]
    cases p <;> simp [Conv.bytesToString, loadCells]
    all_goals rfl
  · obtain ⟨b, o, rfl, hc⟩ := hx (by omega)
    exact run_convert_bytes_arg (P := Try.prog) w 42 5 Try.underlying42 Try.underlying5 b o n c xs hn (by rw [← hn]; exact hc) 9 Try.underlying9

theorem str_eq (xs ys : List Int) (bx : ∀ y ∈ xs, 0 ≤ y ∧ y < 256) (hy : ∀ y ∈ ys, 0 ≤ y ∧ y < 256) : ((strOfNums xs).toList == (strOfNums ys).toList) = decide (xs = ys) := by
  rw [ByteArray.toList_eq, ByteArray.toList_eq, strOfNums_data, strOfNums_data, Bool.eq_iff_iff, beq_iff_eq, decide_eq_true_iff]
  constructor
  · intro h
    induction xs generalizing ys with
    | nil => cases ys with
      | nil => rfl
      | cons b l => simp at h
    | cons a r ih => cases ys with
      | nil => simp at h
      | cons b l =>
        simp only [List.map_cons, List.cons.injEq] at h
        have ha := bx a (by simp)
        have hb := hy b (by simp)
        have e := congrArg UInt8.toNat h.1
        simp at e
        rw [ih l (fun y m => bx y (by simp [m])) (fun y m => hy y (by simp [m])) h.2]
        have : a = b := by omega
        rw [this]
  · rintro rfl
    rfl

set_option maxHeartbeats 400000 in
/-- bytes.Equal. -/
theorem equal_any (p q : Option Addr) (c d n m : Nat) (xs ys : List Int) (w : World) (hn : xs.length = n) (hm : ys.length = m) (hx : Bys w p xs) (hy : Bys w q ys) (bx : ∀ y ∈ xs, 0 ≤ y ∧ y < 256) (b2 : ∀ y ∈ ys, 0 ≤ y ∧ y < 256) :
    Calls Try.prog 28 #[.slice p n c, .slice q m d] w fun e w' => e = .returned (.bool (decide (xs = ys))) ∧ w' = w := by
  have k1 := conv_str hx n c hn
  have k2 := conv_str hy m d hm
  have HS : Hid _ := str_eq xs ys bx b2
  clear hx hy hn hm bx b2
  go_enter Try.func28, Try.ntmps28
  go_wp2
  go_ret
  rw [HS.out]
  exact ⟨rfl, rfl⟩

set_option maxHeartbeats 400000 in
/-- bytes.Clone. -/
theorem clone_any (p : Option Addr) (c n : Nat) (xs : List Int) (w : World) (hn : xs.length = n) (hx : Bys w p xs) (hl : n ≤ 140737488355328) (hp : p = none → n = 0 ∧ c = 0) :
    Calls Try.prog 39 #[.slice p n c] w fun e w' => ∃ v, e = .returned v ∧ Own w' w.heap.size v n xs ∧ Below w.heap.size w w' := by
  obtain ⟨i0, hi, hz0, hz1, hz2⟩ := info_parts u8info
  have qnil : ∀ (w : World) (a : Option Addr) (n c n' c' : Nat), (binOp .eql 42 (.slice a n c) (.slice none n' c')).run Try.prog w = .ok (.bool a.isNone) w := fun w a n c n' c' => Lib.run_eql_slice_nil w _ _ a n c n' c' Try.underlying42
  have HX : Hid (Bys w p xs) := hx
  have HN : Hid (xs.length = n) := hn
  clear hx hn
  cases p with
  | none =>
    obtain ⟨rfl, rfl⟩ := hp rfl
    go_enter Try.func39, Try.ntmps39
    go_wp2
    go_ret
    obtain rfl : xs = [] := List.eq_nil_of_length_eq_zero HN.out
    exact ⟨_, rfl, World.ownsRow_nil _ _ _ _, Below.refl _ _⟩
  | some a =>
    clear hp
    go_enter Try.func39, Try.ntmps39
    have hmade : (w.alloc (.cells #[] 5)).ownsRow w.heap.size 5 1 (.slice (some ⟨w.heap.size, 0, none⟩) 0 0) 0 [] := World.ownsRow_made w #[] 0 (Nat.le_refl _) (by decide) rfl
    have hba : Below w.heap.size w (w.alloc (.cells #[] 5)) := (Below.refl _ _).alloc (Nat.le_refl _) _
    have HC : Hid (∀ ad, some a = some ad → ∀ j u, (xs.map (Value.int .u8))[j]? = some u → (w.alloc (.cells #[] 5)).cell? (ad.add j) = some u) := (HX.out.below hba (Nat.le_refl _)).cells
    go_wp2_with (at_builtin; refine wpList_append_own _ rfl _ _ 42 rfl w.heap.size 5 i0 (.int .u8 0) 1 1 Try.underlying42 hi hz0 hz1 hz2 rfl (by decide) _ 0 [] rfl hmade a n c (xs.map (Value.int .u8)) rfl (by simp [HN.out]) (HC.out a rfl) (ints_oneCell _ _) (by unfold maxLen; omega) (by omega) (by simp) ?_)
    intro v' w1 hown' hg _
    have hb1 : Below w.heap.size w w1 := hba.grown hg (by simp) (fun k hk => by simp [Value.ownBlock] at hk; omega)
    clear hg hba hmade HC
    go_wp2
    go_ret
    exact ⟨_, rfl, by simpa [Own] using hown', hb1⟩
end Go.Proofs.Ytlfgclmgpbaenaa
