/- Boxes of string: what is put and taken, how many wait, a clone. -/
import Derived.Test.YtjfmilfplidepaaCeBS
namespace Go.Proofs.Ytjfmilfplidepaa
open Go.RowKit Go.Conc
set_option linter.unusedVariables false
set_option maxRecDepth 100000

theorem put_anyS {w : World} {B c room : Nat} {bs : List Nat} {xs : List ByteArray} (h : BxS w B c room bs xs) (x : ByteArray) (hr : xs.length < room) :
    Calls Try.prog 18 #[.pointer (some ⟨B, 0, none⟩), (.string x)] w fun e w' => e = .returned (.int .i64 0) ∧ (∃ b, BxS w' B c room (bs ++ [b]) (xs ++ [x])) ∧ Tn [c] w w' := by
  have ht : Below w.heap.size w (w.alloc (.cells #[.string x] 9)) := (Below.refl _ w).alloc (Nat.le_refl _) _
  obtain ⟨w0, hw0⟩ : ∃ w0, w.alloc (.cells #[.string x] 9) = w0 := ⟨_, rfl⟩
  have h1 : BxS w0 B c room bs xs := hw0 ▸ h.below ht
  have hk : Bk w0 w.heap.size 9 #[.string x] := hw0 ▸ Bk.new w _ _
  rw [hw0] at ht
  have c0 := h1.chan
  have H1 : Hid (BxS w0 B c room bs xs ∧ Bk w0 w.heap.size 9 #[.string x] ∧ Below w.heap.size w w0) := ⟨h1, hk, ht⟩
  clear h h1 hk ht
  go_enter Try.func18, Try.ntmps18
  go_wp2_with fail
  refine (bmade_anyS c0).mono ?_
  rintro e w1 ⟨rfl, rfl⟩
  go_wp2_with fail
  refine (push_anyS H1.out.1 H1.out.2.1 hr).mono ?_
  rintro e w2 ⟨rfl, hb, t⟩
  have HE : Hid ((∃ b, BxS w2 B c room (bs ++ [b]) (xs ++ [x])) ∧ Tn [c] w w2) := ⟨⟨_, hb⟩, (Tn.of_below H1.out.2.2 [c]).trans t (by simp)⟩
  clear hb t
  go_wp2
  go_ret
  exact ⟨rfl, HE.out⟩

theorem put_fullS {w : World} {B c room : Nat} {bs : List Nat} {xs : List ByteArray} (h : BxS w B c room bs xs) (x : ByteArray) (hr : room ≤ xs.length) :
    Calls Try.prog 18 #[.pointer (some ⟨B, 0, none⟩), (.string x)] w fun e w' => e = .returned (.int .i64 5) ∧ BxS w' B c room bs xs ∧ Below w.heap.size w w' := by
  have ht : Below w.heap.size w (w.alloc (.cells #[.string x] 9)) := (Below.refl _ w).alloc (Nat.le_refl _) _
  obtain ⟨w0, hw0⟩ : ∃ w0, w.alloc (.cells #[.string x] 9) = w0 := ⟨_, rfl⟩
  have h1 : BxS w0 B c room bs xs := hw0 ▸ h.below ht
  rw [hw0] at ht
  have c0 := h1.chan
  have H1 : Hid (BxS w0 B c room bs xs ∧ Below w.heap.size w w0) := ⟨h1, ht⟩
  clear h h1 ht
  go_enter Try.func18, Try.ntmps18
  go_wp2_with fail
  refine (bmade_anyS c0).mono ?_
  rintro e w1 ⟨rfl, rfl⟩
  go_wp2_with fail
  refine (push_noS H1.out.1 _ hr).mono ?_
  rintro e w2 ⟨rfl, rfl⟩
  go_wp2
  go_ret
  exact ⟨rfl, H1.out⟩

theorem take_anyS {w : World} {B c room b : Nat} {x : ByteArray} {bs : List Nat} {xs : List ByteArray} (h : BxS w B c room (b :: bs) (x :: xs)) :
    Calls Try.prog 20 #[.pointer (some ⟨B, 0, none⟩)] w fun e w' => e = .returned (.tuple #[(.string x), .int .i64 0]) ∧ BxS w' B c room bs xs ∧ Tn [c] w w' := by
  have c0 := h.chan
  have H1 : Hid (BxS w B c room (b :: bs) (x :: xs)) := h
  clear h
  go_enter Try.func20, Try.ntmps20
  go_wp2_with fail
  refine (bmade_anyS c0).mono ?_
  rintro e w1 ⟨rfl, rfl⟩
  go_wp2_with fail
  refine (pull_anyS H1.out).mono ?_
  rintro e w2 ⟨rfl, hb, t⟩
  have hk : Bk w2 b 9 #[.string x] := by
    have := H1.out.el 0 b x rfl rfl
    exact this.tn t (by simpa using H1.out.ch.ne this)
  have k0 := hk.cell 0
  have HE : Hid (BxS w2 B c room bs xs ∧ Tn [c] w1 w2) := ⟨hb, t⟩
  clear hb t hk c0
  simp at k0
  go_wp2
  go_ret2
  exact ⟨rfl, HE.out⟩

theorem take_noneS {w : World} {B c room : Nat} {bs : List Nat} (h : BxS w B c room bs []) :
    Calls Try.prog 20 #[.pointer (some ⟨B, 0, none⟩)] w fun e w' => e = .returned (.tuple #[(.string ByteArray.empty), .int .i64 4]) ∧ w' = w := by
  have c0 := h.chan
  have H1 : Hid (BxS w B c room bs []) := h
  clear h
  go_enter Try.func20, Try.ntmps20
  go_wp2_with fail
  refine (bmade_anyS c0).mono ?_
  rintro e w1 ⟨rfl, rfl⟩
  go_wp2_with fail
  refine (pull_noS H1.out).mono ?_
  rintro e w2 ⟨rfl, rfl⟩
  go_wp2
  go_ret2
  exact ⟨rfl, rfl⟩


theorem blen_anyS {w : World} {B c room : Nat} {bs : List Nat} {xs : List ByteArray} (h : BxS w B c room bs xs) (n : Nat) (hn : n = xs.length) :
    Calls Try.prog 23 #[.pointer (some ⟨B, 0, none⟩)] w fun e w' => e = .returned (.int .i64 (n : Int)) ∧ w' = w := by
  have c0 := h.chan
  obtain ⟨s, r, hc⟩ := h.ch
  have hl := fun ty => run_len_chan (P := Try.prog) 71 ty Try.underlying71 hc
  rw [bufC_sizeS, h.len, ← hn] at hl
  clear h hn hc
  go_enter Try.func23, Try.ntmps23
  go_wp2_with fail
  refine (bmade_anyS c0).mono ?_
  rintro e w1 ⟨rfl, rfl⟩
  go_wp2
  go_ret
  exact ⟨rfl, rfl⟩

theorem broom_anyS {w : World} {B c room : Nat} {bs : List Nat} {xs : List ByteArray} (h : BxS w B c room bs xs) :
    Calls Try.prog 24 #[.pointer (some ⟨B, 0, none⟩)] w fun e w' => e = .returned (.int .i64 (room : Int)) ∧ w' = w := by
  have c0 := h.chan
  obtain ⟨s, r, hc⟩ := h.ch
  have hl := fun ty => run_cap_chan (P := Try.prog) 71 ty Try.underlying71 hc
  clear h hc
  go_enter Try.func24, Try.ntmps24
  go_wp2_with fail
  refine (bmade_anyS c0).mono ?_
  rintro e w1 ⟨rfl, rfl⟩
  go_wp2
  go_ret
  exact ⟨rfl, rfl⟩

theorem rot {α : Type} (l : List α) {j : Nat} (hj : j < l.length) : ∃ x, l[j]? = some x ∧ l.drop j ++ l.take j = x :: (l.drop (j + 1) ++ l.take j) ∧ (l.drop (j + 1) ++ l.take j) ++ [x] = l.drop (j + 1) ++ l.take (j + 1) ∧ l.take j ++ [x] = l.take (j + 1) := by
  have e : l.take j ++ [l[j]] = l.take (j + 1) := by rw [List.take_add_one, List.getElem?_eq_getElem hj]; rfl
  refine ⟨l[j], List.getElem?_eq_getElem hj, ?_, ?_, e⟩
  · rw [List.drop_eq_getElem_cons hj]; rfl
  · rw [List.append_assoc, e]

/-- Where a clone stands behind so many rounds: each one goes round to the end, and to the clone. -/
structure ClS (w wr : World) (B c B' c' room : Nat) (bs : List Nat) (xs : List ByteArray) (j : Nat) : Prop where
  one : BxS wr B c room (bs.drop j ++ bs.take j) (xs.drop j ++ xs.take j)
  two : BxS wr B' c' room (bs.take j) (xs.take j)
  tn : Tn [c] w wr
  new : w.heap.size ≤ c'

set_option maxHeartbeats 1000000 in
theorem bclone_anyS {w : World} {B c room : Nat} {bs : List Nat} {xs : List ByteArray} (h : BxS w B c room bs xs) (hr : room ≤ 4096) :
    Calls Try.prog 22 #[.pointer (some ⟨B, 0, none⟩)] w fun e w' => e = .returned (.pointer (some ⟨w.heap.size + 1, 0, none⟩)) ∧ BxS w' B c room bs xs ∧ BxS w' (w.heap.size + 1) w.heap.size room bs xs ∧ Tn [c] w w' := by
  have c0 := h.chan
  have H1 : Hid (BxS w B c room bs xs) := h
  have hmk := mkCS room hr
  obtain ⟨n, hn⟩ : ∃ n, n = xs.length := ⟨_, rfl⟩
  obtain ⟨w0, hw0⟩ : ∃ w0, (w.alloc (.chan room #[] false 0 0 false)).alloc (.cells #[.chan (some w.heap.size)] 73) = w0 := ⟨_, rfl⟩
  have hf := BxS.fresh w room
  rw [hw0] at hf
  have H0 : Hid (ClS w w0 B c (w.heap.size + 1) w.heap.size room bs xs 0) := ⟨by simpa using h.below hf.2, by simpa using hf.1, Tn.of_below hf.2 _, Nat.le_refl _⟩
  have HN : Hid (n = xs.length) := hn
  have h2 := h.below hf.2
  have H2 : Hid (BxS w0 B c room bs xs) := h2
  have hn4 : n ≤ 4096 := by have := h.fits; omega
  clear h hf h2 hn
  go_enter Try.func22, Try.ntmps22
  go_wp2_with fail
  refine (bmade_anyS c0).mono ?_
  rintro e w1 ⟨rfl, rfl⟩
  go_wp2_with fail
  refine (broom_anyS H1.out).mono ?_
  rintro e w2 ⟨rfl, rfl⟩
  go_wp2_with fail
  refine (blen_anyS H2.out n HN.out).mono ?_
  rintro e w3 ⟨rfl, rfl⟩
  clear hw0 hmk
  go_wp2_with fail
  go_loopw [16] (fun iv wr => ∃ j : Nat, j ≤ n ∧ iv = .int .i64 j ∧ Hid (ClS w2 wr B c (w2.heap.size + 1) w2.heap.size room bs xs j)) (fun iv _ => n - (intOf iv).toNat)
  case atStart => exact ⟨0, by omega, rfl, H0⟩
  case round =>
    obtain ⟨j, hj, rfl, HC⟩ := hrel
    by_cases hlt : j < n
    · have hli : (j : Int) < (n : Int) := by omega
      have hx := rot xs (j := j) (by have := HN.out; omega)
      obtain ⟨x, _, e1, e2, e3⟩ := hx
      obtain ⟨b, _, f1, f2, f3⟩ := rot bs (j := j) (by rw [H1.out.len]; have := HN.out; omega)
      have h1 : Hid (BxS wr B c room (b :: (bs.drop (j + 1) ++ bs.take j)) (x :: (xs.drop (j + 1) ++ xs.take j))) := by
        have := HC.out.one
        rw [e1, f1] at this
        exact this
      have HE : Hid ((bs.drop (j + 1) ++ bs.take j) ++ [b] = bs.drop (j + 1) ++ bs.take (j + 1) ∧ bs.take j ++ [b] = bs.take (j + 1) ∧ (xs.drop (j + 1) ++ xs.take j) ++ [x] = xs.drop (j + 1) ++ xs.take (j + 1) ∧ xs.take j ++ [x] = xs.take (j + 1)) := ⟨f2, f3, e2, e3⟩
      have HL : Hid (xs.length ≤ room ∧ j < xs.length) := ⟨H1.out.fits, by have := HN.out; omega⟩
      clear e1 e2 e3 f1 f2 f3
      go_wp2_with fail
      refine (pull_anyS h1.out).mono ?_
      rintro e w4 ⟨rfl, hb4, t4⟩
      have hk : Hid (Bk w4 b 9 #[.string x]) := by
        have := h1.out.el 0 b x rfl rfl
        exact this.tn t4 (by simpa using h1.out.ch.ne this)
      have H4 : Hid (BxS w4 B c room (bs.drop (j + 1) ++ bs.take j) (xs.drop (j + 1) ++ xs.take j)) := hb4
      have T4 : Hid (Tn [c] wr w4) := t4
      clear hb4 t4
      go_wp2_with fail
      refine (push_anyS H4.out hk.out (by have := HL.out; simp; omega)).mono ?_
      rintro e w5 ⟨rfl, hb5, t5⟩
      have H5 : Hid (BxS w5 B c room (bs.drop (j + 1) ++ bs.take (j + 1)) (xs.drop (j + 1) ++ xs.take (j + 1))) := by
        rw [HE.out.1, HE.out.2.2.1] at hb5
        exact hb5
      have T5 : Hid (Tn [c] wr w5) := T4.out.trans t5 (by simp)
      have hk5 : Hid (Bk w5 b 9 #[.string x]) := hk.out.tn t5 (by simpa using H4.out.ch.ne hk.out)
      have hcne : Hid (w2.heap.size ≠ c) := by
        have := H1.out.ch.lt
        unfold Hid
        omega
      have H6 : Hid (BxS w5 (w2.heap.size + 1) w2.heap.size room (bs.take j) (xs.take j)) := HC.out.two.other h1.out.ch hcne.out T5.out
      clear hb5 t5
      go_wp2_with fail
      refine (push_anyS H6.out hk5.out (by have := HL.out; simp; omega)).mono ?_
      rintro e w6 ⟨rfl, hb6, t6⟩
      have HC6 : Hid (ClS w2 w6 B c (w2.heap.size + 1) w2.heap.size room bs xs (j + 1)) := by
        rw [HE.out.2.1, HE.out.2.2.2] at hb6
        refine ⟨H5.out.other H6.out.ch (fun e => hcne.out e.symm) t6, hb6, ((HC.out.tn.trans T5.out (by simp)).trans t6 ?_), Nat.le_refl _⟩
        intro y hy
        simp at hy
        exact .inr (by omega)
      clear hb6 t6 H6 H5 H4 hk hk5 T4 T5 h1
      go_wp2
      go_roundw
      case rel => exact ⟨j + 1, by omega, by go_num, HC6⟩
      case measure => simp [intOf]; omega
    · have hli : ¬ (j : Int) < (n : Int) := by omega
      have hjn : j = n := by omega
      subst hjn
      have HE : Hid (BxS wr B c room bs xs ∧ BxS wr (w2.heap.size + 1) w2.heap.size room bs xs ∧ Tn [c] w2 wr) := by
        have h1 := HC.out.one
        have h2 := HC.out.two
        have l1 : j = xs.length := HN.out
        have l2 : j = bs.length := by rw [H1.out.len]; exact l1
        rw [show bs.drop j = [] by simp [l2], show bs.take j = bs by simp [l2], show xs.drop j = [] by simp [l1], show xs.take j = xs by simp [l1]] at h1
        rw [show bs.take j = bs by simp [l2], show xs.take j = xs by simp [l1]] at h2
        exact ⟨by simpa using h1, h2, HC.out.tn⟩
      go_wp2
      go_ret
      exact ⟨rfl, HE.out⟩
end Go.Proofs.Ytjfmilfplidepaa
