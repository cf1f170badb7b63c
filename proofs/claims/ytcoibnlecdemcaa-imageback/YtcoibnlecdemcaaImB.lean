/- New, Len, From, TS; the law's live run. -/
import Derived.Test.YtcoibnlecdemcaaImA
namespace Go.Proofs.Ytcoibnlecdemcaa
open Go.RowKit
set_option linter.unusedVariables false
set_option maxRecDepth 100000

theorem IsIm.new (w : World) (ts : Int) : IsIm (w.alloc (.cells #[.bool true, .int .i64 ts, .string ⟨#[]⟩, .slice none 0 0] 87)) w.heap.size w.heap.size (.slice none 0 0) ⟨ts, ⟨#[]⟩, []⟩ :=
  ⟨Bk.new _ _ _, Own.nil _ _ _, fun g h => by cases h⟩

set_option maxHeartbeats 1000000 in
theorem new_any (ts : Int) (w : World) (h1 : 0 ≤ ts) (h2 : ts ≤ 1099511627776) : Calls Try.prog 9 #[.int .i64 ts] w fun e w' => e = .returned (.tuple #[.pointer (some ⟨w.heap.size, 0, none⟩), .int .i64 0]) ∧ IsIm w' w.heap.size w.heap.size (.slice none 0 0) ⟨ts, ⟨#[]⟩, []⟩ ∧ Below w.heap.size w w' := by
  have h1' : decide (ts < 0) = false := by simp; omega
  have h2' : decide (1099511627776 < ts) = false := by simp; omega
  have HN := IsIm.new w ts
  have HI : Hid (IsIm (w.alloc (.cells #[.bool true, .int .i64 ts, .string ⟨#[]⟩, .slice none 0 0] 87)) w.heap.size w.heap.size (.slice none 0 0) ⟨ts, ⟨#[]⟩, []⟩) := HN
  clear h1 h2 HN
  go_enter Try.func9, Try.ntmps9
  go_wp2
  go_ret2
  exact ⟨rfl, HI.out, (Below.refl _ _).alloc (Nat.le_refl _) _⟩

theorem new_bad (ts : Int) (w : World) (h : ts < 0 ∨ 1099511627776 < ts) : Calls Try.prog 9 #[.int .i64 ts] w fun e w' => e = .returned (.tuple #[.pointer none, .int .i64 1]) ∧ w' = w := by
  by_cases h1 : ts < 0
  · have h1' : decide (ts < 0) = true := by simpa using h1
    clear h
    go_enter Try.func9, Try.ntmps9
    go_wp2
    go_ret2
    exact ⟨rfl, rfl⟩
  · have h1' : decide (ts < 0) = false := by simpa using h1
    have h2' : decide (1099511627776 < ts) = true := by simp; omega
    clear h
    go_enter Try.func9, Try.ntmps9
    go_wp2
    go_ret2
    exact ⟨rfl, rfl⟩

section
variable {w : World} {base B : Nat} {v : Value} {m : Im}

theorem ts_any (h : IsIm w base B v m) : Calls Try.prog 20 #[.pointer (some ⟨B, 0, none⟩)] w fun e w' => e = .returned (.int .i64 m.ts) ∧ w' = w := by
  have hmade := isMade_any h
  have c1 : w.cell? ⟨B, 1, none⟩ = some (.int .i64 m.ts) := h.blk.cell 1
  clear h
  go_enter Try.func20, Try.ntmps20
  go_wp2_with fail
  refine hmade.mono ?_
  rintro e w1 ⟨rfl, rfl⟩
  go_wp2
  go_ret
  exact ⟨rfl, rfl⟩

theorem imlen_any (h : IsIm w base B v m) : Calls Try.prog 16 #[.pointer (some ⟨B, 0, none⟩)] w fun e w' => e = .returned (.int .i64 m.list.length) ∧ w' = w := by
  have hmade := isMade_any h
  have c3 : w.cell? ⟨B, 3, none⟩ = some v := h.blk.cell 3
  obtain ⟨q, cc, rfl, -⟩ := row_form h.row
  clear h
  go_enter Try.func16, Try.ntmps16
  go_wp2_with fail
  refine hmade.mono ?_
  rintro e w1 ⟨rfl, rfl⟩
  go_wp2
  go_ret
  exact ⟨rfl, rfl⟩

def Im.from (m : Im) : ByteArray := if m.last.size = 0 then ⟨#[]⟩ else Ky.next m.last

theorem imfrom_any (h : IsIm w base B v m) (hk : m.last.size ≤ 281474976710656) : Calls Try.prog 14 #[.pointer (some ⟨B, 0, none⟩)] w fun e w' => e = .returned (.string m.from) ∧ w' = w := by
  have hmade := isMade_any h
  have c2 : w.cell? ⟨B, 2, none⟩ = some (.string m.last) := h.blk.cell 2
  clear h
  by_cases h0 : m.last.size = 0
  · have he : (m.last.toList == []) = true := by simp [(Rk.Rc.nil_iff m.last).2 h0]
    have HF : Hid (m.from = ⟨#[]⟩) := if_pos h0
    clear h0
    go_enter Try.func14, Try.ntmps14
    go_wp2_with fail
    refine hmade.mono ?_
    rintro e w1 ⟨rfl, rfl⟩
    go_wp2
    go_ret
    exact ⟨by rw [HF.out]; rfl, rfl⟩
  · have he : (m.last.toList == []) = false := by
      have := fun e => h0 ((Rk.Rc.nil_iff m.last).1 e)
      simpa using this
    have HF : Hid (m.from = Ky.next m.last) := if_neg h0
    clear h0
    go_enter Try.func14, Try.ntmps14
    go_wp2_with fail
    refine hmade.mono ?_
    rintro e w1 ⟨rfl, rfl⟩
    go_wp2_with fail
    refine (next_any m.last _ hk).mono ?_
    rintro e w2 ⟨rfl, rfl⟩
    go_wp2
    go_ret
    exact ⟨by rw [HF.out]; rfl, rfl⟩
end
end Go.Proofs.Ytcoibnlecdemcaa
