/- gather and write: a map while it is made. -/
import Derived.Test.YtilabcolfabnmaaPrO
namespace Go.Proofs.Ytilabcolfabnmaa
open Go.RowKit Go.Maps
set_option linter.unusedVariables false
set_option maxRecDepth 100000

/-- A write. -/
structure Wt where
  key : ByteArray
  val : ByteArray
  del : Bool
def Wt.cells (x : Wt) : List Value := [.string x.key, .string x.val, .bool x.del]
theorem wtknd : Knd Wt.cells 3 := ⟨fun _ => rfl, fun x u hu => by simp [Wt.cells] at hu; rcases hu with rfl | rfl | rfl <;> rfl, by decide⟩
abbrev Wts (w : World) (p : Option Addr) (l : List Wt) : Prop := Els Wt.cells 3 w p l
theorem Wts.cells {w : World} {p : Option Addr} {l : List Wt} (h : Wts w p l) {j : Nat} (hj : j < l.length) : ∃ b o x, p = some ⟨b, o, none⟩ ∧ l[j]? = some x ∧ w.cell? ⟨b, o + j * 3, none⟩ = some (.string x.key) ∧ w.cell? ⟨b, o + j * 3 + 1, none⟩ = some (.string x.val) ∧ w.cell? ⟨b, o + j * 3 + 2, none⟩ = some (.bool x.del) := by
  obtain ⟨b, o, x, hp, hx, hc⟩ := Els.at h hj
  exact ⟨b, o, x, hp, hx, hc 0 _ rfl, hc 1 _ rfl, hc 2 _ rfl⟩

namespace Fm
def puts (F : Fm) (l : List Pr) : Fm := l.foldl (fun F x => F.set x.key.data.toList x) F
def doW (F : Fm) (x : Wt) : Fm := if x.del then F.rid x.key.data.toList else F.set x.key.data.toList ⟨x.key, x.val⟩
def writes (F : Fm) (l : List Wt) : Fm := l.foldl doW F
theorem puts_take {F : Fm} {l : List Pr} {k : Nat} {x : Pr} (h : l[k]? = some x) : puts F (l.take (k + 1)) = (puts F (l.take k)).set x.key.data.toList x := by
  rw [List.take_add_one, h]
  simp [puts]
theorem writes_take {F : Fm} {l : List Wt} {k : Nat} {x : Wt} (h : l[k]? = some x) : writes F (l.take (k + 1)) = doW (writes F (l.take k)) x := by
  rw [List.take_add_one, h]
  simp [writes]
theorem Ok.puts {F : Fm} (h : F.Ok) (l : List Pr) : (puts F l).Ok := by
  induction l generalizing F with
  | nil => exact h
  | cons x r ih => exact ih (h.set x)
theorem Ok.writes {F : Fm} (h : F.Ok) (l : List Wt) : (writes F l).Ok := by
  induction l generalizing F with
  | nil => exact h
  | cons x r ih =>
    refine ih ?_
    unfold doW
    split
    · exact h.rid _
    · exact h.set ⟨x.key, x.val⟩
end Fm

set_option maxHeartbeats 2000000 in
theorem gather_any (p : Option Addr) (n c : Nat) (l : List Pr) (w : World) (hn : l.length = n) (hx : Prs w p l) (ho : ∀ (i : Nat) x, l[i]? = some x → x.key.size ≤ maxLen) (hl : n ≤ 4398046510976) :
    Calls Try.prog 26 #[.slice p n c] w fun e w' => ∃ M, e = .returned (.map (some M)) ∧ w.heap.size ≤ M ∧ Sm w' M n (Fm.puts (fun _ => none) l) ∧ Below w.heap.size w w' := by
  have HX : Hid (Prs w p l) := hx
  have HN : Hid (l.length = n) := hn
  have HO : Hid (∀ (i : Nat) x, l[i]? = some x → x.key.size ≤ maxLen) := ho
  obtain ⟨w1, hw1⟩ : ∃ w1, w.alloc (.map #[] 0) = w1 := ⟨_, rfl⟩
  have HM : Hid (Sm w1 w.heap.size 0 (fun _ => none)) := by rw [← hw1]; exact Sm.new w
  have HB1 : Hid (Below w.heap.size w w1) := by rw [← hw1]; exact (Below.refl _ _).alloc (Nat.le_refl _) _
  have HTK : Hid (l.take n = l) := List.take_of_length_le (by omega)
  have hmk : (Instr.makeMap 67 none).run Try.prog w = .ok (.map (some w.heap.size)) w1 := by rw [← hw1]; kernel_rfl
  clear hx hn ho hw1
  go_enter Try.func26, Try.ntmps26
  go_wp2_with fail
  go_loopw [9] (fun i wr => ∃ k : Nat, k ≤ n ∧ i = .int .i64 k ∧ Hid (Below w.heap.size w wr) ∧ Hid (Sm wr w.heap.size k (Fm.puts (fun _ => none) (l.take k)))) (fun i _ => n - (intOf i).toNat)
  case atStart => exact ⟨0, Nat.zero_le _, rfl, HB1, HM⟩
  case round =>
    obtain ⟨k, hk, rfl, HW, HS⟩ := hrel
    by_cases hlt : k < n
    · have hli : (k : Int) < (n : Int) := by omega
      obtain ⟨b, o, x, rfl, hg, c0, c1⟩ := Prs.cells (Els.below HX.out HW.out (Nat.le_refl _)) (j := k) (by have := HN.out; omega)
      have HPT : Hid (Fm.puts (fun _ => none) (l.take (k + 1)) = (Fm.puts (fun _ => none) (l.take k)).set x.key.data.toList x) := Fm.puts_take hg
      have hks := HO.out k x hg
      obtain ⟨x1, x2⟩ := x
      obtain ⟨w2, hw2⟩ : ∃ w2, wr.alloc (.cells #[.string x1, .string x2] 54) = w2 := ⟨_, rfl⟩
      have k2 : Bk w2 wr.heap.size 54 #[.string x1, .string x2] := by rw [← hw2]; exact Bk.new _ _ _
      have hb2 : Below wr.heap.size wr w2 := by rw [← hw2]; exact (Below.refl _ _).alloc (Nat.le_refl _) _
      have d0 : w2.cell? ⟨wr.heap.size, 0, none⟩ = some (.string x1) := k2.cell 0
      have d1 : w2.cell? ⟨wr.heap.size, 1, none⟩ = some (.string x2) := k2.cell 1
      obtain ⟨w3, hr3, hs3, ht3⟩ := (HS.out.below hb2).put Try.underlying67 x1 hks (by unfold maxLen; omega) ⟨x1, x2⟩
      have HS3 : Hid (Sm w3 w.heap.size (k + 1) (Fm.puts (fun _ => none) (l.take (k + 1)))) := by unfold Hid; rw [HPT.out]; exact hs3
      have HW3 : Hid (Below w.heap.size w w3) := by
        have h1 : Below w.heap.size w w2 := HW.out.trans (hb2.mono HW.out.size)
        exact h1.trans (ht3.below h1.size (by simp))
      clear hg k2 hb2 hs3 ht3 hks
      go_wp2
      go_roundw
      case rel => exact ⟨k + 1, by omega, by go_num, HW3, HS3⟩
      case measure => simp [intOf]; omega
    · obtain rfl : k = n := by omega
      have HS2 : Hid (Sm wr w.heap.size k (Fm.puts (fun _ => none) l)) := by rw [← HTK.out]; exact HS
      go_wp2
      go_ret
      exact ⟨_, rfl, Nat.le_refl _, HS2.out, HW.out⟩

set_option maxHeartbeats 2000000 in
theorem write_any (M N : Nat) (F : Fm) (p : Option Addr) (n c : Nat) (l : List Wt) (w : World) (hM : Sm w M N F) (hn : l.length = n) (hx : Wts w p l) (hpM : 0 < n → ∀ b o, p = some ⟨b, o, none⟩ → b ≠ M) (ho : ∀ (i : Nat) x, l[i]? = some x → x.key.size ≤ maxLen) (hl : N + n ≤ 4611686018427387904) :
    Calls Try.prog 30 #[.map (some M), .slice p n c] w fun e w' => e = .returned (.tuple #[]) ∧ Sm w' M (N + n) (F.writes l) ∧ Tn [M] w w' := by
  have HX : Hid (Wts w p l) := hx
  have HN : Hid (l.length = n) := hn
  have HO : Hid (∀ (i : Nat) x, l[i]? = some x → x.key.size ≤ maxLen) := ho
  have HP : Hid (0 < n → ∀ b o, p = some ⟨b, o, none⟩ → b ≠ M) := hpM
  have HTK : Hid (l.take n = l) := List.take_of_length_le (by omega)
  have HM : Hid (Sm w M N F) := hM
  clear hx hn ho hpM hM
  go_enter Try.func30, Try.ntmps30
  go_wp2_with fail
  go_loopw [8] (fun i wr => ∃ k : Nat, k ≤ n ∧ i = .int .i64 k ∧ Hid (Tn [M] w wr) ∧ Hid (Sm wr M (N + k) (F.writes (l.take k)))) (fun i _ => n - (intOf i).toNat)
  case atStart => exact ⟨0, Nat.zero_le _, rfl, Tn.refl _ _, HM⟩
  case round =>
    obtain ⟨k, hk, rfl, HW, HS⟩ := hrel
    by_cases hlt : k < n
    · have hli : (k : Int) < (n : Int) := by omega
      obtain ⟨b, o, x, rfl, hg, c0, c1, c2⟩ := Wts.cells (Els.tn HX.out HW.out (fun b o h hm => HP.out (Nat.lt_of_le_of_lt (Nat.zero_le _) hlt) b o h (by simpa using hm))) (j := k) (by have := HN.out; omega)
      have HPT : Hid (F.writes (l.take (k + 1)) = Fm.doW (F.writes (l.take k)) x) := Fm.writes_take hg
      have hks := HO.out k x hg
      obtain ⟨x1, x2, x3⟩ := x
      obtain ⟨w2, hw2⟩ : ∃ w2, wr.alloc (.cells #[.string x1, .string x2, .bool x3] 50) = w2 := ⟨_, rfl⟩
      have k2 : Bk w2 wr.heap.size 50 #[.string x1, .string x2, .bool x3] := by rw [← hw2]; exact Bk.new _ _ _
      have hb2 : Below wr.heap.size wr w2 := by rw [← hw2]; exact (Below.refl _ _).alloc (Nat.le_refl _) _
      have d0 : w2.cell? ⟨wr.heap.size, 0, none⟩ = some (.string x1) := k2.cell 0
      have d1 : w2.cell? ⟨wr.heap.size, 1, none⟩ = some (.string x2) := k2.cell 1
      have d2 : w2.cell? ⟨wr.heap.size, 2, none⟩ = some (.bool x3) := k2.cell 2
      have ht2 : Tn [M] w w2 := HW.out.trans (Tn.of_below hb2 []) (by simp)
      cases x3 with
      | true =>
        obtain ⟨w3, hr3, hs3, ht3⟩ := (HS.out.below hb2).del Try.underlying67 x1 hks 0
        have HS3 : Hid (Sm w3 M (N + (k + 1)) (F.writes (l.take (k + 1)))) := by
          unfold Hid
          rw [HPT.out]
          obtain ⟨D, q1, q2, q3⟩ := hs3.ex
          exact ⟨D, q1.mono (by omega), q2, q3⟩
        have HW3 : Hid (Tn [M] w w3) := ht2.trans ht3 (by simp)
        clear hg k2 hb2 hs3 ht3 hks ht2
        go_wp2
        go_roundw
        case rel => exact ⟨k + 1, by omega, by go_num, HW3, HS3⟩
        case measure => simp [intOf]; omega
      | false =>
        subst hw2
        obtain ⟨w3, hr3, hs3, ht3⟩ := (HS.out.below hb2).put Try.underlying67 x1 hks (by unfold maxLen; omega) ⟨x1, x2⟩
        have HS3 : Hid (Sm w3 M (N + (k + 1)) (F.writes (l.take (k + 1)))) := by unfold Hid; rw [HPT.out]; exact hs3
        have HW3 : Hid (Tn [M] w w3) := ht2.trans ht3 (by simp)
        clear hg k2 hb2 hs3 ht3 hks ht2
        go_wp2
        go_roundw
        case rel => exact ⟨k + 1, by omega, by go_num, HW3, HS3⟩
        case measure => simp [intOf]; omega
    · obtain rfl : k = n := by omega
      have HS2 : Hid (Sm wr M (N + k) (F.writes l)) := by rw [← HTK.out]; exact HS
      go_wp2
      go_end0
      exact ⟨rfl, HS2.out, HW.out⟩
end Go.Proofs.Ytilabcolfabnmaa
