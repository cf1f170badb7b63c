/- The document's taker. -/
import Derived.Test.YtmjbfelfdhehbaaRcTk0
import Derived.Test.YtmjbfelfdhehbaaRcEnd
namespace Go.Proofs.Ytmjbfelfdhehbaa
open Go.RowKit
set_option linter.unusedVariables false
set_option maxRecDepth 100000

/-- The document's taker in memory. -/
structure Tk (w : World) (K R d0 : Nat) (s : Rs) : Prop where
  k : Bk w K 83 #[.pointer (some ⟨R, 0, none⟩), .int .i64 s.e]
  r : Rr w R d0 s.xs
  ne : K ≠ R
  dk : d0 ≤ K

section
variable {w w' : World} {K R d0 : Nat} {s : Rs}

theorem Rr.lt {xs : List Int} (h : Rr w R d0 xs) : R < w.heap.size ∧ d0 ≤ R := by
  obtain ⟨p, len, cap, hk, _, _, _, hd⟩ := h
  exact ⟨hk.lt, hd⟩

theorem Tk.keep {S : List Nat} (h : Tk w K R d0 s) (ht : Tn S w w') (hK : K ∉ S) (hR : R ∉ S) (hd : ∀ b ∈ S, d0 ≤ b) : Tk w' K R d0 s := ⟨h.k.tn ht hK, h.r.keep ht hR hd, h.ne, h.dk⟩

theorem Tk.below (h : Tk w K R d0 s) (hb : Below w.heap.size w w') : Tk w' K R d0 s := h.keep (Tn.of_below hb []) (by simp) (by simp) (by simp)

/-- The taker's error turned. -/
theorem Tk.setE (h : Tk w K R d0 s) (e : Int) : Tk (w.setCell ⟨K, 1, none⟩ (.int .i64 e)) K R d0 ⟨s.xs, e⟩ ∧ Tn [K, R] w (w.setCell ⟨K, 1, none⟩ (.int .i64 e)) := by
  have ht : Tn [K] w (w.setCell ⟨K, 1, none⟩ (.int .i64 e)) := (Tn.refl _ _).setCell (.inl (by simp)) _
  have hdk := h.dk
  have hne := h.ne
  refine ⟨⟨h.k.set 1 _, h.r.keep ht (by simp; omega) (by simp; exact hdk), h.ne, h.dk⟩, ht.mono (by simp)⟩

theorem Tk.cells (h : Tk w K R d0 s) : w.cell? ⟨K, 0, none⟩ = some (.pointer (some ⟨R, 0, none⟩)) ∧ w.cell? ⟨K, 1, none⟩ = some (.int .i64 s.e) ∧ w.frozen? ⟨K, 1, none⟩ = false := ⟨h.k.cell 0, h.k.cell 1, h.k.frozen 1⟩
end

set_option maxHeartbeats 1000000 in
theorem num_tk {w : World} {K R d0 : Nat} {s : Rs} (h : Tk w K R d0 s) :
    Calls Try.prog 40 #[.pointer (some ⟨K, 0, none⟩)] w fun x w' => x = .returned (.int .i64 s.num.1) ∧ Tk w' K R d0 s.num.2 ∧ Tn [K, R] w w' := by
  obtain ⟨c0, c1, f1⟩ := h.cells
  have H0 : Hid (Tk w K R d0 s) := h
  skip
  clear h
  by_cases he : s.e = 0
  · have hb : (s.e != 0) = false := by simpa using he
    have HN : Hid (s.num = ((Cd.dec s.xs).1, ⟨s.xs.drop (Cd.dec s.xs).2.1.toNat, (Cd.dec s.xs).2.2⟩)) := by unfold Hid Rs.num; rw [if_pos he]
    clear he
    go_enter Try.func40, Try.ntmps40
    go_wp2_with fail
    refine (rint_any H0.out.r).mono ?_
    rintro e w1 ⟨rfl, hr, ht⟩
    have h1 : Tk w1 K R d0 ⟨s.xs.drop (Cd.dec s.xs).2.1.toNat, s.e⟩ := ⟨H0.out.k.tn ht (by have := H0.out.ne; simpa using this), hr, H0.out.ne, H0.out.dk⟩
    have H1 : Hid (Tk w1 K R d0 ⟨s.xs.drop (Cd.dec s.xs).2.1.toNat, s.e⟩) := h1
    have T1 : Hid (Tn [K, R] w w1) := ht.mono (by simp)
    obtain ⟨g0, g1, g2⟩ := h1.cells
    simp only at g1
    clear h1 hr ht c0 c1 f1
    go_wp2
    go_ret
    rw [HN.out]
    have hq := H1.out.setE (Cd.dec s.xs).2.2
    exact ⟨rfl, hq.1, T1.out.trans hq.2 (fun x hx => .inl hx)⟩
  · have hb : (s.e != 0) = true := by simpa using he
    have HN : Hid (s.num = (0, s)) := by unfold Hid Rs.num; rw [if_neg he]
    clear he
    go_enter Try.func40, Try.ntmps40
    go_wp2
    go_ret
    rw [HN.out]
    exact ⟨rfl, H0.out, Tn.refl _ _⟩

set_option maxHeartbeats 1000000 in
theorem flag_tk {w : World} {K R d0 : Nat} {s : Rs} (h : Tk w K R d0 s) :
    Calls Try.prog 52 #[.pointer (some ⟨K, 0, none⟩)] w fun x w' => x = .returned (.bool s.flag.1) ∧ Tk w' K R d0 s.flag.2 ∧ Tn [K, R] w w' := by
  obtain ⟨c0, c1, f1⟩ := h.cells
  have H0 : Hid (Tk w K R d0 s) := h
  skip
  clear h
  by_cases he : s.e = 0
  · have hb : (s.e != 0) = false := by simpa using he
    have HN : Hid (s.flag = ((Cd.decF s.xs).1, ⟨s.xs.drop (Cd.decF s.xs).2.1.toNat, (Cd.decF s.xs).2.2⟩)) := by unfold Hid Rs.flag; rw [if_pos he]
    clear he
    go_enter Try.func52, Try.ntmps52
    go_wp2_with fail
    refine (rflg_any H0.out.r).mono ?_
    rintro e w1 ⟨rfl, hr, ht⟩
    have h1 : Tk w1 K R d0 ⟨s.xs.drop (Cd.decF s.xs).2.1.toNat, s.e⟩ := ⟨H0.out.k.tn ht (by have := H0.out.ne; simpa using this), hr, H0.out.ne, H0.out.dk⟩
    have H1 : Hid (Tk w1 K R d0 ⟨s.xs.drop (Cd.decF s.xs).2.1.toNat, s.e⟩) := h1
    have T1 : Hid (Tn [K, R] w w1) := ht.mono (by simp)
    obtain ⟨g0, g1, g2⟩ := h1.cells
    simp only at g1
    clear h1 hr ht c0 c1 f1
    go_wp2
    go_ret
    rw [HN.out]
    have hq := H1.out.setE (Cd.decF s.xs).2.2
    exact ⟨rfl, hq.1, T1.out.trans hq.2 (fun x hx => .inl hx)⟩
  · have hb : (s.e != 0) = true := by simpa using he
    have HN : Hid (s.flag = (false, s)) := by unfold Hid Rs.flag; rw [if_neg he]
    clear he
    go_enter Try.func52, Try.ntmps52
    go_wp2
    go_ret
    rw [HN.out]
    exact ⟨rfl, H0.out, Tn.refl _ _⟩

set_option maxHeartbeats 1000000 in
theorem text_tk {w : World} {K R d0 : Nat} {s : Rs} (h : Tk w K R d0 s) :
    Calls Try.prog 53 #[.pointer (some ⟨K, 0, none⟩)] w fun x w' => x = .returned (.string s.text.1) ∧ Tk w' K R d0 s.text.2 ∧ Tn [K, R] w w' := by
  obtain ⟨c0, c1, f1⟩ := h.cells
  have H0 : Hid (Tk w K R d0 s) := h
  have HY : Hid (∀ y ∈ s.xs, 0 ≤ y ∧ y < 256) := by obtain ⟨_, _, _, _, hi, _⟩ := h.r; exact hi.byte
  clear h
  by_cases he : s.e = 0
  · have hb : (s.e != 0) = false := by simpa using he
    have HN : Hid (s.text = (strOfNums (Cd.decT s.xs).1, ⟨s.xs.drop (Cd.decT s.xs).2.1.toNat, (Cd.decT s.xs).2.2⟩)) := by unfold Hid Rs.text; rw [if_pos he]
    clear he
    go_enter Try.func53, Try.ntmps53
    go_wp2_with fail
    refine (rbytes_any H0.out.r (by have := H0.out.dk; have := H0.out.k.lt; omega)).mono ?_
    rintro e w1 ⟨v, rfl, ho, hr, ht⟩
    obtain ⟨pv, cv, hv⟩ := own_form' ho
    subst hv
    have hlK : K < w.heap.size := H0.out.k.lt
    have HO : Hid (Own w1 w.heap.size (.slice pv (Cd.decT s.xs).1.length cv) (Cd.decT s.xs).1.length (Cd.decT s.xs).1) := ho
    have h1 : Tk w1 K R d0 ⟨s.xs.drop (Cd.decT s.xs).2.1.toNat, s.e⟩ := ⟨H0.out.k.tn ht (by have := H0.out.ne; simpa using this), hr, H0.out.ne, H0.out.dk⟩
    have H1 : Hid (Tk w1 K R d0 ⟨s.xs.drop (Cd.decT s.xs).2.1.toNat, s.e⟩) := h1
    have T1 : Hid (Tn [K, R] w w1) := ht.mono (by simp)
    obtain ⟨g0, g1, g2⟩ := h1.cells
    simp only at g1
    clear h1 hr ht c0 c1 f1 ho
    have HB : Hid (Bys (w1.setCell ⟨K, 1, none⟩ (.int .i64 (Cd.decT s.xs).2.2)) pv (Cd.decT s.xs).1) := by
      have ho2 : Own (w1.setCell ⟨K, 1, none⟩ (.int .i64 (Cd.decT s.xs).2.2)) w.heap.size (.slice pv (Cd.decT s.xs).1.length cv) (Cd.decT s.xs).1.length (Cd.decT s.xs).1 := HO.out.keptN fun j hj => Below.heap_setCell w1 ⟨K, 1, none⟩ _ j (by have := own_lt' HO.out j hj; show j ≠ K; omega)
      obtain ⟨p, c, hv, _, _, hb⟩ := ho2.bys
      simp only [Value.slice.injEq] at hv
      rw [hv.1]
      exact hb
    have hcs := conv_str HB.out (Cd.decT s.xs).1.length cv rfl
    go_wp2
    go_ret
    rw [HN.out]
    have hq := H1.out.setE (Cd.decT s.xs).2.2
    exact ⟨rfl, hq.1, T1.out.trans hq.2 (fun x hx => .inl hx)⟩
  · have hb : (s.e != 0) = true := by simpa using he
    have HN : Hid (s.text = (.empty, s)) := by unfold Hid Rs.text; rw [if_neg he]
    clear he
    go_enter Try.func53, Try.ntmps53
    go_wp2
    go_ret
    rw [HN.out]
    exact ⟨rfl, H0.out, Tn.refl _ _⟩

set_option maxHeartbeats 400000 in
theorem fails_tk {w : World} {K R d0 : Nat} {s : Rs} (h : Tk w K R d0 s) (e : Int) :
    Calls Try.prog 63 #[.pointer (some ⟨K, 0, none⟩), .int .i64 e] w fun x w' => x = .returned (.tuple #[]) ∧ Tk w' K R d0 (s.note e) ∧ Tn [K, R] w w' := by
  obtain ⟨c0, c1, f1⟩ := h.cells
  have H0 : Hid (Tk w K R d0 s) := h
  clear h
  by_cases he : s.e = 0
  · have hb : (s.e == 0) = true := by simpa using he
    have HE : Hid (s.note e = ⟨s.xs, e⟩) := by unfold Hid Rs.note; rw [if_pos he]
    clear he
    go_enter Try.func63, Try.ntmps63
    go_wp2
    go_end0
    rw [HE.out]
    have hq := H0.out.setE e
    exact ⟨rfl, hq.1, hq.2⟩
  · have hb : (s.e == 0) = false := by simpa using he
    have HE : Hid (s.note e = s) := by unfold Hid Rs.note; rw [if_neg he]
    clear he
    go_enter Try.func63, Try.ntmps63
    go_wp2
    go_end0
    rw [HE.out]
    exact ⟨rfl, H0.out, Tn.refl _ _⟩

theorem Rs.num_e {s : Rs} (h : s.num.2.e ≠ 0) : s.num.1 = 0 ∨ s.e = 0 := by
  unfold Rs.num at h ⊢
  split
  · rename_i h0; exact .inr h0
  · exact .inl rfl

theorem Rs.num_zero {s : Rs} (hb : ∀ y ∈ s.xs, 0 ≤ y ∧ y < 256) (h : s.num.2.e ≠ 0) : s.num.1 = 0 := by
  unfold Rs.num at h ⊢
  split
  · rename_i h0
    rw [if_pos h0] at h
    simp only at h ⊢
    have := Cd.dec_facts s.xs hb
    omega
  · rfl

theorem Tk.byte {w : World} {K R d0 : Nat} {s : Rs} (h : Tk w K R d0 s) : ∀ y ∈ s.xs, 0 ≤ y ∧ y < 256 := by
  obtain ⟨_, _, _, _, hi, _⟩ := h.r
  exact hi.byte

theorem Rs.note_ne {s : Rs} {e : Int} (h : e ≠ 0) : (s.note e).e ≠ 0 := by
  unfold Rs.note
  split
  · exact h
  · assumption

set_option maxHeartbeats 1000000 in
theorem count_tk {w : World} {K R d0 : Nat} {s : Rs} (h : Tk w K R d0 s) (most : Int) (hm : 0 ≤ most) :
    Calls Try.prog 41 #[.pointer (some ⟨K, 0, none⟩), .int .i64 most] w fun x w' => x = .returned (.int .i64 (s.count most).1) ∧ Tk w' K R d0 (s.count most).2 ∧ Tn [K, R] w w' := by
  have H0 : Hid (Tk w K R d0 s) := h
  have HZ : Hid (s.num.2.e ≠ 0 → s.num.1 = 0) := Rs.num_zero h.byte
  clear h
  go_enter Try.func41, Try.ntmps41
  go_wp2_with fail
  refine (num_tk H0.out).mono ?_
  rintro e w1 ⟨rfl, h1, t1⟩
  obtain ⟨N, t, hN⟩ : ∃ N t, s.num = (N, t) := ⟨_, _, rfl⟩
  have HN : Hid (s.num = (N, t)) := hN
  rw [hN] at h1 HZ ⊢
  simp only at h1 HZ ⊢
  have H1 : Hid (Tk w1 K R d0 t) := h1
  have T1 : Hid (Tn [K, R] w w1) := t1
  obtain ⟨-, c1, -⟩ := h1.cells
  clear h1 t1 hN
  by_cases hq : N < 0 ∨ most < N
  · have HC : Hid (s.count most = (0, t.note 32)) := by
      unfold Hid Rs.count
      rw [HN.out, if_neg (by rw [Rc.inn_iff]; omega)]
    have hNE : (t.note 32).e ≠ 0 := Rs.note_ne (by omega)
    by_cases hq1 : N < 0
    · clear hq
      go_wp2_with fail
      refine (fails_tk H1.out 32).mono ?_
      rintro e w3 ⟨rfl, h3, t3⟩
      have H3 : Hid (Tk w3 K R d0 (t.note 32)) := h3
      have T3 : Hid (Tn [K, R] w w3) := T1.out.trans t3 (fun x hx => .inl hx)
      obtain ⟨-, c3, -⟩ := h3.cells
      have hnb : ((t.note 32).e != 0) = true := by simpa using hNE
      clear h3 t3 c1 hNE
      go_wp2
      go_ret
      rw [HC.out]
      exact ⟨rfl, H3.out, T3.out⟩
    · have hq2 : most < N := by omega
      have hq3 : decide (N < 0) = false := by simpa using hq1
      clear hq hq1
      go_wp2_with fail
      refine (fails_tk H1.out 32).mono ?_
      rintro e w3 ⟨rfl, h3, t3⟩
      have H3 : Hid (Tk w3 K R d0 (t.note 32)) := h3
      have T3 : Hid (Tn [K, R] w w3) := T1.out.trans t3 (fun x hx => .inl hx)
      obtain ⟨-, c3, -⟩ := h3.cells
      have hnb : ((t.note 32).e != 0) = true := by simpa using hNE
      clear h3 t3 c1 hNE
      go_wp2
      go_ret
      rw [HC.out]
      exact ⟨rfl, H3.out, T3.out⟩
  · have HC : Hid (s.count most = (N, t)) := by
      unfold Hid Rs.count
      rw [HN.out, if_pos (by rw [Rc.inn_iff]; omega)]
    have hq3 : decide (N < 0) = false := by simp; omega
    have hq4 : decide (most < N) = false := by simp; omega
    clear hq
    by_cases he : t.e = 0
    · have hnb : (t.e != 0) = false := by simpa using he
      clear he
      go_wp2
      go_ret
      rw [HC.out]
      exact ⟨rfl, H1.out, T1.out⟩
    · have hnb : (t.e != 0) = true := by simpa using he
      obtain rfl : N = 0 := HZ.out he
      clear he
      go_wp2
      go_ret
      rw [HC.out]
      exact ⟨rfl, H1.out, T1.out⟩

end Go.Proofs.Ytmjbfelfdhehbaa
