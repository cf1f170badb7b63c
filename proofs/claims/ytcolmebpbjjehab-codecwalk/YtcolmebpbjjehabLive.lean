import Derived.Test.YtcolmebpbjjehabSums
import Derived.Test.YtcolmebpbjjehabInt
import Derived.Test.YtcolmebpbjjehabByts
import Derived.Test.YtcolmebpbjjehabRefInt
import Derived.Lib.SlBytesConst
namespace Go.Proofs.Ytcolmebpbjjehab
open Go.RowKit
set_option linter.unusedVariables false

/-- The bytes of a row that was just laid, whatever its mark. -/
theorem bys_laid (w : World) (xs : List Int) (mk : Nat × Nat) : Bys (w.alloc (.cells (xs.map (Value.int .u8)).toArray 5 mk)) (some ⟨w.heap.size, 0, none⟩) xs := by
  intro _
  refine ⟨w.heap.size, 0, rfl, fun i hi => ?_⟩
  rw [Nat.zero_add, cell_of_row _ w.heap.size i _ 5 mk (heap_alloc_new w _)]
  simp [List.getD, hi]

theorem bys_alloc {w : World} {p : Option Addr} {xs : List Int} (h : Bys w p xs) (o : Obj) : Bys (w.alloc o) p xs := h.below ((Below.refl _ _).alloc (Nat.le_refl _) o) (Nat.le_refl _)

/-- codec.PutInt, its value under a name. -/
theorem putInt_own (p : Option Addr) (c len : Nat) (xs : List Int) (n : Int) (w : World) (hlen : xs.length = len) (hx : Bys w p xs) (hl : len ≤ 281474976710000) (hp : p = none → len = 0 ∧ c = 0)
    (h0 : -9223372036854775808 ≤ n) (h1 : n ≤ 9223372036854775807) :
    Calls Try.prog 11 #[.slice p len c, .int .i64 n] w fun e w' => ∃ v, e = .returned v ∧ Own w' w.heap.size v (len + Cd.width n) (xs ++ Cd.enc n) ∧ Below w.heap.size w w' :=
  (putInt_any p c len xs n w hlen hx hl hp h0 h1).mono fun _ _ h => ⟨_, h⟩

theorem rows_two (w : World) : Rws (((w.alloc (.cells #[.int .u8 49, .int .u8 50, .int .u8 51, .int .u8 52] 5 (4, 5))).alloc (.cells #[.int .u8 53, .int .u8 54, .int .u8 55, .int .u8 56, .int .u8 57] 5 (5, 6))).alloc (.cells #[.slice (some ⟨w.heap.size, 0, none⟩) 4 4, .slice (some ⟨w.heap.size + 1, 0, none⟩) 5 5] 22))
      (some ⟨w.heap.size + 2, 0, none⟩) [(some ⟨w.heap.size, 0, none⟩, 4, [49, 50, 51, 52]), (some ⟨w.heap.size + 1, 0, none⟩, 5, [53, 54, 55, 56, 57])] := by
  intro _
  have b1 := bys_laid w [49, 50, 51, 52] (4, 5)
  have b2 := bys_laid (w.alloc (.cells #[.int .u8 49, .int .u8 50, .int .u8 51, .int .u8 52] 5 (4, 5))) [53, 54, 55, 56, 57] (5, 6)
  refine ⟨w.heap.size + 2, 0, rfl, fun i hi => ?_⟩
  have hh : ∀ j, (((w.alloc (.cells #[.int .u8 49, .int .u8 50, .int .u8 51, .int .u8 52] 5 (4, 5))).alloc (.cells #[.int .u8 53, .int .u8 54, .int .u8 55, .int .u8 56, .int .u8 57] 5 (5, 6))).alloc (.cells #[.slice (some ⟨w.heap.size, 0, none⟩) 4 4, .slice (some ⟨w.heap.size + 1, 0, none⟩) 5 5] 22)).cell? ⟨w.heap.size + 2, j, none⟩ = #[Value.slice (some ⟨w.heap.size, 0, none⟩) 4 4, Value.slice (some ⟨w.heap.size + 1, 0, none⟩) 5 5][j]? := fun j => by
    have hz := heap_alloc_new ((w.alloc (.cells #[.int .u8 49, .int .u8 50, .int .u8 51, .int .u8 52] 5 (4, 5))).alloc (.cells #[.int .u8 53, .int .u8 54, .int .u8 55, .int .u8 56, .int .u8 57] 5 (5, 6))) (.cells #[.slice (some ⟨w.heap.size, 0, none⟩) 4 4, .slice (some ⟨w.heap.size + 1, 0, none⟩) 5 5] 22)
    exact cell_of_row _ (w.heap.size + 2) j _ 22 (0, 0) (by simpa using hz)
  match i, hi with
  | 0, _ => exact ⟨hh 0, bys_alloc (bys_alloc b1 _) _, (show ([49, 50, 51, 52] : List Int).length ≤ 9223372036854775807 from by decide), (show ∀ y ∈ ([49, 50, 51, 52] : List Int), 0 ≤ y ∧ y < 256 from by decide)⟩
  | 1, _ => exact ⟨hh 1, bys_alloc (by simpa using b2) _, (show ([53, 54, 55, 56, 57] : List Int).length ≤ 9223372036854775807 from by decide), (show ∀ y ∈ ([53, 54, 55, 56, 57] : List Int), 0 ≤ y ∧ y < 256 from by decide)⟩

set_option maxHeartbeats 1000000 in
/-- cressetlaw01.live. -/
theorem live_any (w : World) : Calls Try.prog 9 #[] w fun e w' => e = .returned (.bool true) ∧ Below w.heap.size w w' := by
  have kc := fun (w : World) (C : Array Value) (n c : Nat) => Lib.run_convert_bytes_const (P := Try.prog) w 22 5 C n c Try.underlying22 Try.underlying5
  have kc2 : ∀ (w : World) (o : Obj) (C : Array Value) (n c : Nat), (convert 22 22 (.slice (some ⟨w.heap.size + 1, 0, none⟩) n c)).run Try.prog ((w.alloc o).alloc (.cells C 5)) = .ok (.slice (some ⟨w.heap.size + 1, 0, none⟩) n c) ((w.alloc o).alloc (.cells C 5 (C.size, C.size + 1))) :=
    fun w o C n c => by simpa using kc (w.alloc o) C n c
  have HB1 : Hid (Bys (w.alloc (.cells #[.int .u8 210, .int .u8 1, .int .u8 44, .int .u8 9] 5)) (some ⟨w.heap.size, 0, none⟩) [210, 1, 44, 9]) := bys_laid w [210, 1, 44, 9] _
  go_enter Try.func9, Try.ntmps9
  go_wp2_with fail
  refine (int_any _ 4 4 [210, 1, 44, 9] _ rfl HB1.out (by omega) (by omega) (by decide)).mono ?_
  rintro e w1 ⟨rfl, hw1⟩
  have hb1 : Below w.heap.size w w1 := by rw [hw1]; exact (Below.refl _ _).alloc (Nat.le_refl _) _
  clear hw1 HB1
  rw [show Cd.dec [210, 1, 44, 9] = (300, 3, 0) by decide]
  unfold three
  have HB2 : Hid (Bys (w1.alloc (.cells #[.int .u8 7] 5)) (some ⟨w1.heap.size, 0, none⟩) [7]) := bys_laid w1 [7] _
  go_wp2_with fail
  refine (putInt_own _ 1 1 [7] (-300) _ rfl HB2.out (by omega) (fun h => by cases h) (by omega) (by omega)).mono ?_
  rintro e w2 ⟨v, rfl, HO, hb2⟩
  rw [show Cd.width (-300) = 3 by decide, show [7] ++ Cd.enc (-300) = [7, 6, 254, 212] by decide] at HO
  have hb3 : Below w.heap.size w w2 := (hb1.alloc hb1.size _).trans (hb2.mono (by simp; have := hb1.size; omega))
  obtain ⟨p, c, hv, hc1, hp, hby⟩ := HO.bys
  subst hv
  have HB3 : Hid (Bys (w2.alloc (.cells #[.int .u8 7, .int .u8 6, .int .u8 254, .int .u8 212] 5)) p [7, 6, 254, 212]) := bys_alloc hby _
  have HB4 : Hid (Bys (w2.alloc (.cells #[.int .u8 7, .int .u8 6, .int .u8 254, .int .u8 212] 5)) (some ⟨w2.heap.size, 0, none⟩) [7, 6, 254, 212]) := bys_laid w2 [7, 6, 254, 212] _
  clear HB2 hb1 hb2 HO hp hby hc1
  go_wp2_with fail
  refine (equal_any _ _ _ _ _ _ [7, 6, 254, 212] [7, 6, 254, 212] _ rfl rfl HB3.out HB4.out (by decide) (by decide)).mono ?_
  rintro e w3 ⟨rfl, hw3⟩
  have hb4 : Below w.heap.size w w3 := by rw [hw3]; exact hb3.alloc hb3.size _
  clear hw3 HB3 HB4 hb3
  simp only [decide_true]
  have HR : Hid (Rws (((w3.alloc (.cells #[.int .u8 49, .int .u8 50, .int .u8 51, .int .u8 52] 5 (4, 5))).alloc (.cells #[.int .u8 53, .int .u8 54, .int .u8 55, .int .u8 56, .int .u8 57] 5 (5, 6))).alloc (.cells #[.slice (some ⟨w3.heap.size, 0, none⟩) 4 4, .slice (some ⟨w3.heap.size + 1, 0, none⟩) 5 5] 22))
      (some ⟨w3.heap.size + 2, 0, none⟩) [(some ⟨w3.heap.size, 0, none⟩, 4, [49, 50, 51, 52]), (some ⟨w3.heap.size + 1, 0, none⟩, 5, [53, 54, 55, 56, 57])]) := rows_two w3
  go_wp2_with fail
  refine (sum_any _ _ 2 _ _ rfl HR.out (by omega)).mono ?_
  rintro e w4 ⟨rfl, hw4⟩
  have hb5 : Below w.heap.size w w4 := by
    rw [hw4]
    exact ((hb4.alloc hb4.size _).alloc (by have := hb4.size; simp; omega) _).alloc (by have := hb4.size; simp; omega) _
  clear hw4 HR hb4
  rw [show Cd.sum (flat [(some ⟨w3.heap.size, 0, none⟩, 4, [49, 50, 51, 52]), (some ⟨w3.heap.size + 1, 0, none⟩, 5, [53, 54, 55, 56, 57])]) = 152961502 by simp only [flat, List.map_cons, List.map_nil]; decide]
  go_wp2
  go_ret
  exact ⟨rfl, hb5⟩
end Go.Proofs.Ytcolmebpbjjehab
