/- The document's taker: writes, and the end. -/
import Derived.Test.YtlfgclmgpbaenaaRcTk
namespace Go.Proofs.Ytlfgclmgpbaenaa
open Go.RowKit
set_option linter.unusedVariables false
set_option maxRecDepth 100000

/-- A taker beside two blocks. -/
structure TkB (S : List Nat) (w0 w : World) (K R d0 : Nat) (s : Rs) (A B : Nat) (T : TypeId) (ca cb : Array Value) : Prop where
  tk : Tk w K R d0 s
  a : Bk w A T ca
  b : Bk w B T cb
  tn : Tn S w0 w
  kS : K ∈ S ∨ w0.heap.size ≤ K
  rS : R ∈ S ∨ w0.heap.size ≤ R
  aS : A ∈ S ∨ w0.heap.size ≤ A
  bS : B ∈ S ∨ w0.heap.size ≤ B
  ne : A ≠ K ∧ A ≠ R ∧ B ≠ K ∧ B ≠ R ∧ A ≠ B
  d : d0 ≤ A ∧ d0 ≤ B

section
variable {S : List Nat} {w0 w : World} {K R d0 : Nat} {s : Rs} {A B : Nat} {T : TypeId} {ca cb : Array Value}

theorem TkB.set (h : TkB S w0 w K R d0 s A B T ca cb) (i : Nat) (u : Value) : TkB S w0 (w.setCell ⟨B, i, none⟩ u) K R d0 s A B T ca (cb.setIfInBounds i u) := by
  obtain ⟨n1, n2, n3, n4, n5⟩ := h.ne
  have hd := h.d.2
  exact ⟨h.tk.keep (S := [B]) ((Tn.refl _ _).setCell (.inl (by simp)) _) (by simp; omega) (by simp; omega) (by simp; exact hd), h.a.other (by show A ≠ B; omega) _, h.b.set i u, h.tn.setCell h.bS _, h.kS, h.rS, h.aS, h.bS, h.ne, h.d⟩

theorem TkB.setA (h : TkB S w0 w K R d0 s A B T ca cb) (i : Nat) (u : Value) : TkB S w0 (w.setCell ⟨A, i, none⟩ u) K R d0 s A B T (ca.setIfInBounds i u) cb := by
  obtain ⟨n1, n2, n3, n4, n5⟩ := h.ne
  have hd := h.d.1
  exact ⟨h.tk.keep (S := [A]) ((Tn.refl _ _).setCell (.inl (by simp)) _) (by simp; omega) (by simp; omega) (by simp; exact hd), h.a.set i u, h.b.other (by show B ≠ A; omega) _, h.tn.setCell h.aS _, h.kS, h.rS, h.aS, h.bS, h.ne, h.d⟩

theorem TkB.step {w' : World} {s' : Rs} (h : TkB S w0 w K R d0 s A B T ca cb) (hr : Tk w' K R d0 s') (ht : Tn [K, R] w w') : TkB S w0 w' K R d0 s' A B T ca cb := by
  obtain ⟨n1, n2, n3, n4, n5⟩ := h.ne
  refine ⟨hr, h.a.tn ht (by simp; omega), h.b.tn ht (by simp; omega), h.tn.trans ht (fun x hx => ?_), h.kS, h.rS, h.aS, h.bS, h.ne, h.d⟩
  simp only [List.mem_cons, List.not_mem_nil, or_false] at hx
  rcases hx with rfl | rfl
  · exact h.kS
  · exact h.rS

theorem TkB.below {w' : World} (h : TkB S w0 w K R d0 s A B T ca cb) (hb : Below w.heap.size w w') : TkB S w0 w' K R d0 s A B T ca cb :=
  ⟨h.tk.below hb, h.a.below hb h.a.lt, h.b.below hb h.b.lt, h.tn.trans (Tn.of_below hb []) (by simp), h.kS, h.rS, h.aS, h.bS, h.ne, h.d⟩

theorem numT (h : TkB S w0 w K R d0 s A B T ca cb) : Calls Try.prog 55 #[.pointer (some ⟨K, 0, none⟩)] w fun x w' => x = .returned (.int .i64 s.num.1) ∧ TkB S w0 w' K R d0 s.num.2 A B T ca cb :=
  (num_tk h.tk).mono fun x w' ⟨a, b, c⟩ => ⟨a, h.step b c⟩
theorem textT (h : TkB S w0 w K R d0 s A B T ca cb) : Calls Try.prog 62 #[.pointer (some ⟨K, 0, none⟩)] w fun x w' => x = .returned (.string s.text.1) ∧ TkB S w0 w' K R d0 s.text.2 A B T ca cb :=
  (text_tk h.tk).mono fun x w' ⟨a, b, c⟩ => ⟨a, h.step b c⟩
theorem flagT (h : TkB S w0 w K R d0 s A B T ca cb) : Calls Try.prog 61 #[.pointer (some ⟨K, 0, none⟩)] w fun x w' => x = .returned (.bool s.flag.1) ∧ TkB S w0 w' K R d0 s.flag.2 A B T ca cb :=
  (flag_tk h.tk).mono fun x w' ⟨a, b, c⟩ => ⟨a, h.step b c⟩
end

set_option maxHeartbeats 2000000 in
theorem write_tk {w : World} {K R d0 : Nat} {s : Rs} (h : Tk w K R d0 s) :
    Calls Try.prog 57 #[.pointer (some ⟨K, 0, none⟩)] w fun x w' => x = .returned (.agg s.write.1.cells.toArray) ∧ Tk w' K R d0 s.write.2 ∧ Tn [K, R] w w' := by
  have hK : K < w.heap.size := h.k.lt
  have hR : R < w.heap.size := h.r.lt.1
  have hd : d0 ≤ w.heap.size := by have := h.dk; omega
  have H0 : Hid (Tk (w.alloc (.cells #[.string .empty, .string .empty, .bool false] 33)) K R d0 s) := h.below ((Below.refl _ _).alloc (Nat.le_refl _) _)
  have HA0 : Hid (Bk (w.alloc (.cells #[.string .empty, .string .empty, .bool false] 33)) w.heap.size 33 #[.string .empty, .string .empty, .bool false]) := Bk.new _ _ _
  have HT0 : Hid (Tn [K, R] w (w.alloc (.cells #[.string .empty, .string .empty, .bool false] 33))) := (Tn.refl _ _).alloc _
  clear h
  go_enter Try.func57, Try.ntmps57
  go_wp2_with fail
  refine (text_tk H0.out).mono ?_
  rintro e w1 ⟨rfl, h1, t1⟩
  have hs1 : w.heap.size < w1.heap.size := by have := t1.size; simp at this; omega
  have H1 : Hid (TkB [K, R] w (w1.alloc (.cells #[.string s.text.1, .string .empty, .bool false] 33)) K R d0 s.text.2 w.heap.size w1.heap.size 33 #[.string .empty, .string .empty, .bool false] #[.string s.text.1, .string .empty, .bool false]) :=
    ⟨h1.below ((Below.refl _ _).alloc (Nat.le_refl _) _), (HA0.out.tn t1 (by simp; omega)).alloc _, Bk.new _ _ _, (HT0.out.trans t1 (fun x hx => .inl hx)).alloc _, by simp, by simp, .inr (Nat.le_refl _), .inr (by omega), ⟨by omega, by omega, by omega, by omega, by omega⟩, ⟨hd, by omega⟩⟩
  clear h1 t1 H0 HA0 HT0
  go_wp2_with fail
  refine (flagT H1.out).mono ?_
  rintro e w2 ⟨rfl, h2⟩
  have H2 : Hid (TkB [K, R] w w2 K R d0 s.text.2.flag.2 w.heap.size w1.heap.size 33 #[.string .empty, .string .empty, .bool false] #[.string s.text.1, .string .empty, .bool false]) := h2
  have c2 : w2.cell? ⟨w1.heap.size, 2, none⟩ = some (.bool false) := h2.b.cell 2
  have f2 : w2.frozen? ⟨w1.heap.size, 2, none⟩ = false := h2.b.frozen 2
  clear h2 H1
  go_wp2_with fail
  refine (textT (H2.out.set 2 _)).mono ?_
  rintro e w3 ⟨rfl, h3⟩
  have h3' : TkB [K, R] w w3 K R d0 s.text.2.flag.2.text.2 w.heap.size w1.heap.size 33 #[.string .empty, .string .empty, .bool false] #[.string s.text.1, .string .empty, .bool s.text.2.flag.1] := h3
  have H3 : Hid (TkB [K, R] w (w3.setCell ⟨w1.heap.size, 1, none⟩ (.string s.text.2.flag.2.text.1)) K R d0 s.text.2.flag.2.text.2 w.heap.size w1.heap.size 33 #[.string .empty, .string .empty, .bool false] s.write.1.cells.toArray) := h3'.set 1 _
  have c3 : w3.cell? ⟨w1.heap.size, 1, none⟩ = some (.string .empty) := h3'.b.cell 1
  have f3 : w3.frozen? ⟨w1.heap.size, 1, none⟩ = false := h3'.b.frozen 1
  have d30 : w3.cell? ⟨w1.heap.size, 0, none⟩ = some (.string s.text.1) := h3'.b.cell 0
  have d32 : w3.cell? ⟨w1.heap.size, 2, none⟩ = some (.bool s.text.2.flag.1) := h3'.b.cell 2
  obtain ⟨-, e3, e4⟩ := h3'.tk.cells
  obtain ⟨-, e5, e6⟩ := H3.out.tk.cells
  have pa0 : w3.cell? ⟨w.heap.size, 0, none⟩ = some (.string .empty) := h3'.a.cell 0
  have pa1 : w3.cell? ⟨w.heap.size, 1, none⟩ = some (.string .empty) := h3'.a.cell 1
  have pa2 : w3.cell? ⟨w.heap.size, 2, none⟩ = some (.bool false) := h3'.a.cell 2
  have qa0 : w3.frozen? ⟨w.heap.size, 0, none⟩ = false := h3'.a.frozen 0
  have qa1 : w3.frozen? ⟨w.heap.size, 1, none⟩ = false := h3'.a.frozen 1
  have qa2 : w3.frozen? ⟨w.heap.size, 2, none⟩ = false := h3'.a.frozen 2
  have hw1A : ¬ (w1.heap.size = w.heap.size) := by omega
  have hw1A2 : ¬ (w.heap.size = w1.heap.size) := by omega
  have hw1K : ¬ (w1.heap.size = K) := by omega
  have hw1K2 : ¬ (K = w1.heap.size) := by omega
  clear h3 h3' H2 c2 f2
  by_cases he : s.text.2.flag.2.text.2.e = 0
  · have heb : (s.text.2.flag.2.text.2.e == 0) = true := by simpa using he
    have HW : Hid (s.write.2 = ⟨s.text.2.flag.2.text.2.xs, Rc.wrE s.write.1⟩) := by
      unfold Hid
      show s.text.2.flag.2.text.2.note _ = _
      unfold Rs.note
      rw [if_pos he]
      rfl
    clear he
    go_wp2_with fail
    refine (rcheckWrite_any s.write.1 _).mono ?_
    rintro e w4 ⟨rfl, hb4⟩
    have h4 := H3.out.below hb4
    have H4 : Hid (TkB [K, R] w w4 K R d0 s.text.2.flag.2.text.2 w.heap.size w1.heap.size 33 #[.string .empty, .string .empty, .bool false] s.write.1.cells.toArray) := h4
    obtain ⟨-, m1, m2⟩ := h4.tk.cells
    have hq := h4.tk.setE (Rc.wrE s.write.1)
    have h5 := h4.step hq.1 hq.2
    rw [← HW.out] at h5
    have H5 : Hid (TkB [K, R] w (w4.setCell ⟨K, 1, none⟩ (.int .i64 (Rc.wrE s.write.1))) K R d0 s.write.2 w.heap.size w1.heap.size 33 #[.string .empty, .string .empty, .bool false] s.write.1.cells.toArray) := h5
    have n0 : w4.cell? ⟨w1.heap.size, 0, none⟩ = some (.string s.write.1.key) := h4.b.cell 0
    have n1 : w4.cell? ⟨w1.heap.size, 1, none⟩ = some (.string s.write.1.val) := h4.b.cell 1
    have n2 : w4.cell? ⟨w1.heap.size, 2, none⟩ = some (.bool s.write.1.del) := h4.b.cell 2
    have p0 : w4.cell? ⟨w.heap.size, 0, none⟩ = some (.string .empty) := h4.a.cell 0
    have p1 : w4.cell? ⟨w.heap.size, 1, none⟩ = some (.string .empty) := h4.a.cell 1
    have p2 : w4.cell? ⟨w.heap.size, 2, none⟩ = some (.bool false) := h4.a.cell 2
    have q0 : w4.frozen? ⟨w.heap.size, 0, none⟩ = false := h4.a.frozen 0
    have q1 : w4.frozen? ⟨w.heap.size, 1, none⟩ = false := h4.a.frozen 1
    have q2 : w4.frozen? ⟨w.heap.size, 2, none⟩ = false := h4.a.frozen 2
    have hwK : ¬ (w.heap.size = K) := by omega
    have hwK2 : ¬ (K = w.heap.size) := by omega
    clear hb4 h4 hq h5 H3 c3 f3 d30 d32 e3 e4 e5 e6 pa0 pa1 pa2 qa0 qa1 qa2
    go_wp2
    have h := ((H5.out.setA 0 (.string s.write.1.key)).setA 1 (.string s.write.1.val)).setA 2 (.bool s.write.1.del)
    try simp only [Exit.inBlock, Exit.then]
    refine bodyPost_ret (results_one (cs := s.write.1.cells) rfl rfl wr_agg wr_size rfl h.a) rfl ?_
    exact ⟨rfl, h.tk, h.tn⟩
  · have heb : (s.text.2.flag.2.text.2.e == 0) = false := by simpa using he
    have HW : Hid (s.write.2 = s.text.2.flag.2.text.2) := by
      unfold Hid
      show s.text.2.flag.2.text.2.note _ = _
      unfold Rs.note
      rw [if_neg he]
    clear he
    go_wp2
    have h := ((H3.out.setA 0 (.string s.write.1.key)).setA 1 (.string s.write.1.val)).setA 2 (.bool s.write.1.del)
    try simp only [Exit.inBlock, Exit.then]
    refine bodyPost_ret (results_one (cs := s.write.1.cells) rfl rfl wr_agg wr_size rfl h.a) rfl ?_
    rw [HW.out]
    exact ⟨rfl, h.tk, h.tn⟩

set_option maxHeartbeats 1000000 in
theorem ends_tk {w : World} {K R d0 : Nat} {s : Rs} (h : Tk w K R d0 s) :
    Calls Try.prog 58 #[.pointer (some ⟨K, 0, none⟩)] w fun x w' => x = .returned (.int .i64 s.more.e) ∧ Tk w' K R d0 s.more ∧ Tn [K, R] w w' := by
  obtain ⟨c0, c1, f1⟩ := h.cells
  obtain ⟨p, len, cap, hk, hi, -⟩ := h.r
  have r0 : w.cell? ⟨R, 0, none⟩ = some (.slice p len cap) := hk.cell 0
  have hlen := hi.lenq
  have H0 : Hid (Tk w K R d0 s) := h
  clear h hk hi
  by_cases he : s.e = 0
  · have heb : (s.e == 0) = true := by simpa using he
    by_cases hl : 0 < len
    · have hlb : decide (0 < len) = true := by simpa using hl
      have HM : Hid (s.more = ⟨s.xs, 13⟩) := by unfold Hid Rs.more Rs.note; rw [if_pos (by omega), if_pos he]
      clear he hl hlen
      go_enter Try.func58, Try.ntmps58
      go_wp2
      go_ret
      rw [HM.out]
      have hq := H0.out.setE 13
      exact ⟨rfl, hq.1, hq.2⟩
    · have hlb : decide (0 < len) = false := by simpa using hl
      have HM : Hid (s.more = s) := by unfold Hid Rs.more; rw [if_neg (by omega)]
      clear he hl hlen
      go_enter Try.func58, Try.ntmps58
      go_wp2
      go_ret
      rw [HM.out]
      exact ⟨rfl, H0.out, Tn.refl _ _⟩
  · have heb : (s.e == 0) = false := by simpa using he
    have HM : Hid (s.more = s) := by
      unfold Hid Rs.more Rs.note
      split
      · first | rfl | rw [if_neg he]
      · rfl
    clear he hlen
    go_enter Try.func58, Try.ntmps58
    go_wp2
    go_ret
    rw [HM.out]
    exact ⟨rfl, H0.out, Tn.refl _ _⟩

end Go.Proofs.Ytlfgclmgpbaenaa
