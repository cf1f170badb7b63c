/- Which chunks are the same; what came in is left as it was, what came out is the caller's alone. -/
import Derived.Test.YtmjbfelfdhehbaaRcTk
import Derived.Test.YtmjbfelfdhehbaaRcCom2
import Derived.Test.YtmjbfelfdhehbaaRcRdC
import Derived.Test.YtmjbfelfdhehbaaRcRd
import Derived.Test.YtmjbfelfdhehbaaRcEnd
import Derived.Test.YtmjbfelfdhehbaaRcBk
import Derived.Test.YtmjbfelfdhehbaaPutText
import Derived.Laws.IdiomStrings
import Derived.Test.YtmjbfelfdhehbaaRcFill2
import Derived.Test.YtmjbfelfdhehbaaRcBytes
import Derived.Test.YtmjbfelfdhehbaaParses
import Derived.Deep.RegionHeld3
import Derived.Test.YtmjbfelfdhehbaaRcCh
import Derived.Test.YtmjbfelfdhehbaaRcMs
import Derived.Test.YtmjbfelfdhehbaaRcLive
import Derived.Test.YtmjbfelfdhehbaaRcEqR
import Derived.Test.YtmjbfelfdhehbaaRcArgs
import Derived.Test.YtmjbfelfdhehbaaRcEqH
namespace Go.Proofs.Ytmjbfelfdhehbaa
open Go.RowKit
set_option linter.unusedVariables false
set_option maxRecDepth 100000

/-- A taker beside two blocks. -/
structure TkB (S : List Nat) (w0 w : World) (K R d0 : Nat) (s : Rs) (A B : Nat) (T : TypeId) (ca cb : Array Value) : Prop where
  tk : Tk w K R d0 s
  a : Bk w A T ca
  b : Bk w B T cb
  tn : Tn S w0 w
  kS : K ∈ S ∨ w0.heap.size ≤ K
  rS : R ∈ S ∨ w0.heap.size ≤ R
  aS : A ∈ S ∨ w0.heap.size ≤ A
  bS : B ∈ S ∨ w0.heap.size ≤ B
  ne : A ≠ K ∧ A ≠ R ∧ B ≠ K ∧ B ≠ R ∧ A ≠ B
  d : d0 ≤ A ∧ d0 ≤ B

section
variable {S : List Nat} {w0 w : World} {K R d0 : Nat} {s : Rs} {A B : Nat} {T : TypeId} {ca cb : Array Value}

theorem TkB.set (h : TkB S w0 w K R d0 s A B T ca cb) (i : Nat) (u : Value) : TkB S w0 (w.setCell ⟨B, i, none⟩ u) K R d0 s A B T ca (cb.setIfInBounds i u) := by
  obtain ⟨n1, n2, n3, n4, n5⟩ := h.ne
  have hd := h.d.2
  exact ⟨h.tk.keep (S := [B]) ((Tn.refl _ _).setCell (.inl (by simp)) _) (by simp; omega) (by simp; omega) (by simp; exact hd), h.a.other (by show A ≠ B; omega) _, h.b.set i u, h.tn.setCell h.bS _, h.kS, h.rS, h.aS, h.bS, h.ne, h.d⟩

theorem TkB.setA (h : TkB S w0 w K R d0 s A B T ca cb) (i : Nat) (u : Value) : TkB S w0 (w.setCell ⟨A, i, none⟩ u) K R d0 s A B T (ca.setIfInBounds i u) cb := by
  obtain ⟨n1, n2, n3, n4, n5⟩ := h.ne
  have hd := h.d.1
  exact ⟨h.tk.keep (S := [A]) ((Tn.refl _ _).setCell (.inl (by simp)) _) (by simp; omega) (by simp; omega) (by simp; exact hd), h.a.set i u, h.b.other (by show B ≠ A; omega) _, h.tn.setCell h.aS _, h.kS, h.rS, h.aS, h.bS, h.ne, h.d⟩

theorem TkB.step {w' : World} {s' : Rs} (h : TkB S w0 w K R d0 s A B T ca cb) (hr : Tk w' K R d0 s') (ht : Tn [K, R] w w') : TkB S w0 w' K R d0 s' A B T ca cb := by
  obtain ⟨n1, n2, n3, n4, n5⟩ := h.ne
  refine ⟨hr, h.a.tn ht (by simp; omega), h.b.tn ht (by simp; omega), h.tn.trans ht (fun x hx => ?_), h.kS, h.rS, h.aS, h.bS, h.ne, h.d⟩
  simp only [List.mem_cons, List.not_mem_nil, or_false] at hx
  rcases hx with rfl | rfl
  · exact h.kS
  · exact h.rS

theorem TkB.below {w' : World} (h : TkB S w0 w K R d0 s A B T ca cb) (hb : Below w.heap.size w w') : TkB S w0 w' K R d0 s A B T ca cb :=
  ⟨h.tk.below hb, h.a.below hb h.a.lt, h.b.below hb h.b.lt, h.tn.trans (Tn.of_below hb []) (by simp), h.kS, h.rS, h.aS, h.bS, h.ne, h.d⟩

theorem numT (h : TkB S w0 w K R d0 s A B T ca cb) : Calls Try.prog 40 #[.pointer (some ⟨K, 0, none⟩)] w fun x w' => x = .returned (.int .i64 s.num.1) ∧ TkB S w0 w' K R d0 s.num.2 A B T ca cb :=
  (num_tk h.tk).mono fun x w' ⟨a, b, c⟩ => ⟨a, h.step b c⟩
theorem textT (h : TkB S w0 w K R d0 s A B T ca cb) : Calls Try.prog 53 #[.pointer (some ⟨K, 0, none⟩)] w fun x w' => x = .returned (.string s.text.1) ∧ TkB S w0 w' K R d0 s.text.2 A B T ca cb :=
  (text_tk h.tk).mono fun x w' ⟨a, b, c⟩ => ⟨a, h.step b c⟩
theorem flagT (h : TkB S w0 w K R d0 s A B T ca cb) : Calls Try.prog 52 #[.pointer (some ⟨K, 0, none⟩)] w fun x w' => x = .returned (.bool s.flag.1) ∧ TkB S w0 w' K R d0 s.flag.2 A B T ca cb :=
  (flag_tk h.tk).mono fun x w' ⟨a, b, c⟩ => ⟨a, h.step b c⟩
end

set_option maxHeartbeats 2000000 in
theorem write_tk {w : World} {K R d0 : Nat} {s : Rs} (h : Tk w K R d0 s) :
    Calls Try.prog 42 #[.pointer (some ⟨K, 0, none⟩)] w fun x w' => x = .returned (.agg s.write.1.cells.toArray) ∧ Tk w' K R d0 s.write.2 ∧ Tn [K, R] w w' := by
  have hK : K < w.heap.size := h.k.lt
  have hR : R < w.heap.size := h.r.lt.1
  have hd : d0 ≤ w.heap.size := by have := h.dk; omega
  have H0 : Hid (Tk (w.alloc (.cells #[.string .empty, .string .empty, .bool false] 42)) K R d0 s) := h.below ((Below.refl _ _).alloc (Nat.le_refl _) _)
  have HA0 : Hid (Bk (w.alloc (.cells #[.string .empty, .string .empty, .bool false] 42)) w.heap.size 42 #[.string .empty, .string .empty, .bool false]) := Bk.new _ _ _
  have HT0 : Hid (Tn [K, R] w (w.alloc (.cells #[.string .empty, .string .empty, .bool false] 42))) := (Tn.refl _ _).alloc _
  clear h
  go_enter Try.func42, Try.ntmps42
  go_wp2_with fail
  refine (text_tk H0.out).mono ?_
  rintro e w1 ⟨rfl, h1, t1⟩
  have hs1 : w.heap.size < w1.heap.size := by have := t1.size; simp at this; omega
  have H1 : Hid (TkB [K, R] w (w1.alloc (.cells #[.string s.text.1, .string .empty, .bool false] 42)) K R d0 s.text.2 w.heap.size w1.heap.size 42 #[.string .empty, .string .empty, .bool false] #[.string s.text.1, .string .empty, .bool false]) :=
    ⟨h1.below ((Below.refl _ _).alloc (Nat.le_refl _) _), (HA0.out.tn t1 (by simp; omega)).alloc _, Bk.new _ _ _, (HT0.out.trans t1 (fun x hx => .inl hx)).alloc _, by simp, by simp, .inr (Nat.le_refl _), .inr (by omega), ⟨by omega, by omega, by omega, by omega, by omega⟩, ⟨hd, by omega⟩⟩
  clear h1 t1 H0 HA0 HT0
  go_wp2_with fail
  refine (flagT H1.out).mono ?_
  rintro e w2 ⟨rfl, h2⟩
  have H2 : Hid (TkB [K, R] w w2 K R d0 s.text.2.flag.2 w.heap.size w1.heap.size 42 #[.string .empty, .string .empty, .bool false] #[.string s.text.1, .string .empty, .bool false]) := h2
  have c2 : w2.cell? ⟨w1.heap.size, 2, none⟩ = some (.bool false) := h2.b.cell 2
  have f2 : w2.frozen? ⟨w1.heap.size, 2, none⟩ = false := h2.b.frozen 2
  clear h2 H1
  go_wp2_with fail
  refine (textT (H2.out.set 2 _)).mono ?_
  rintro e w3 ⟨rfl, h3⟩
  have h3' : TkB [K, R] w w3 K R d0 s.text.2.flag.2.text.2 w.heap.size w1.heap.size 42 #[.string .empty, .string .empty, .bool false] #[.string s.text.1, .string .empty, .bool s.text.2.flag.1] := h3
  have H3 : Hid (TkB [K, R] w (w3.setCell ⟨w1.heap.size, 1, none⟩ (.string s.text.2.flag.2.text.1)) K R d0 s.text.2.flag.2.text.2 w.heap.size w1.heap.size 42 #[.string .empty, .string .empty, .bool false] s.write.1.cells.toArray) := h3'.set 1 _
  have c3 : w3.cell? ⟨w1.heap.size, 1, none⟩ = some (.string .empty) := h3'.b.cell 1
  have f3 : w3.frozen? ⟨w1.heap.size, 1, none⟩ = false := h3'.b.frozen 1
  have d30 : w3.cell? ⟨w1.heap.size, 0, none⟩ = some (.string s.text.1) := h3'.b.cell 0
  have d32 : w3.cell? ⟨w1.heap.size, 2, none⟩ = some (.bool s.text.2.flag.1) := h3'.b.cell 2
  obtain ⟨-, e3, e4⟩ := h3'.tk.cells
  obtain ⟨-, e5, e6⟩ := H3.out.tk.cells
  have pa0 : w3.cell? ⟨w.heap.size, 0, none⟩ = some (.string .empty) := h3'.a.cell 0
  have pa1 : w3.cell? ⟨w.heap.size, 1, none⟩ = some (.string .empty) := h3'.a.cell 1
  have pa2 : w3.cell? ⟨w.heap.size, 2, none⟩ = some (.bool false) := h3'.a.cell 2
  have qa0 : w3.frozen? ⟨w.heap.size, 0, none⟩ = false := h3'.a.frozen 0
  have qa1 : w3.frozen? ⟨w.heap.size, 1, none⟩ = false := h3'.a.frozen 1
  have qa2 : w3.frozen? ⟨w.heap.size, 2, none⟩ = false := h3'.a.frozen 2
  have hw1A : ¬ (w1.heap.size = w.heap.size) := by omega
  have hw1A2 : ¬ (w.heap.size = w1.heap.size) := by omega
  have hw1K : ¬ (w1.heap.size = K) := by omega
  have hw1K2 : ¬ (K = w1.heap.size) := by omega
  clear h3 h3' H2 c2 f2
  by_cases he : s.text.2.flag.2.text.2.e = 0
  · have heb : (s.text.2.flag.2.text.2.e == 0) = true := by simpa using he
    have HW : Hid (s.write.2 = ⟨s.text.2.flag.2.text.2.xs, Rc.wrE s.write.1⟩) := by
      unfold Hid
      show s.text.2.flag.2.text.2.note _ = _
      unfold Rs.note
      rw [if_pos he]
      rfl
    clear he
    go_wp2_with fail
    refine (rcheckWrite_any s.write.1 _).mono ?_
    rintro e w4 ⟨rfl, hb4⟩
    have h4 := H3.out.below hb4
    have H4 : Hid (TkB [K, R] w w4 K R d0 s.text.2.flag.2.text.2 w.heap.size w1.heap.size 42 #[.string .empty, .string .empty, .bool false] s.write.1.cells.toArray) := h4
    obtain ⟨-, m1, m2⟩ := h4.tk.cells
    have hq := h4.tk.setE (Rc.wrE s.write.1)
    have h5 := h4.step hq.1 hq.2
    rw [← HW.out] at h5
    have H5 : Hid (TkB [K, R] w (w4.setCell ⟨K, 1, none⟩ (.int .i64 (Rc.wrE s.write.1))) K R d0 s.write.2 w.heap.size w1.heap.size 42 #[.string .empty, .string .empty, .bool false] s.write.1.cells.toArray) := h5
    have n0 : w4.cell? ⟨w1.heap.size, 0, none⟩ = some (.string s.write.1.key) := h4.b.cell 0
    have n1 : w4.cell? ⟨w1.heap.size, 1, none⟩ = some (.string s.write.1.val) := h4.b.cell 1
    have n2 : w4.cell? ⟨w1.heap.size, 2, none⟩ = some (.bool s.write.1.del) := h4.b.cell 2
    have p0 : w4.cell? ⟨w.heap.size, 0, none⟩ = some (.string .empty) := h4.a.cell 0
    have p1 : w4.cell? ⟨w.heap.size, 1, none⟩ = some (.string .empty) := h4.a.cell 1
    have p2 : w4.cell? ⟨w.heap.size, 2, none⟩ = some (.bool false) := h4.a.cell 2
    have q0 : w4.frozen? ⟨w.heap.size, 0, none⟩ = false := h4.a.frozen 0
    have q1 : w4.frozen? ⟨w.heap.size, 1, none⟩ = false := h4.a.frozen 1
    have q2 : w4.frozen? ⟨w.heap.size, 2, none⟩ = false := h4.a.frozen 2
    have hwK : ¬ (w.heap.size = K) := by omega
    have hwK2 : ¬ (K = w.heap.size) := by omega
    clear hb4 h4 hq h5 H3 c3 f3 d30 d32 e3 e4 e5 e6 pa0 pa1 pa2 qa0 qa1 qa2
    go_wp2
    have h := ((H5.out.setA 0 (.string s.write.1.key)).setA 1 (.string s.write.1.val)).setA 2 (.bool s.write.1.del)
    try simp only [Exit.inBlock, Exit.then]
    refine bodyPost_ret (results_one (cs := s.write.1.cells) rfl rfl wr_agg wr_size rfl h.a) rfl ?_
    exact ⟨rfl, h.tk, h.tn⟩
  · have heb : (s.text.2.flag.2.text.2.e == 0) = false := by simpa using he
    have HW : Hid (s.write.2 = s.text.2.flag.2.text.2) := by
      unfold Hid
      show s.text.2.flag.2.text.2.note _ = _
      unfold Rs.note
      rw [if_neg he]
    clear he
    go_wp2
    have h := ((H3.out.setA 0 (.string s.write.1.key)).setA 1 (.string s.write.1.val)).setA 2 (.bool s.write.1.del)
    try simp only [Exit.inBlock, Exit.then]
    refine bodyPost_ret (results_one (cs := s.write.1.cells) rfl rfl wr_agg wr_size rfl h.a) rfl ?_
    rw [HW.out]
    exact ⟨rfl, h.tk, h.tn⟩

set_option maxHeartbeats 1000000 in
theorem ends_tk {w : World} {K R d0 : Nat} {s : Rs} (h : Tk w K R d0 s) :
    Calls Try.prog 43 #[.pointer (some ⟨K, 0, none⟩)] w fun x w' => x = .returned (.int .i64 s.more.e) ∧ Tk w' K R d0 s.more ∧ Tn [K, R] w w' := by
  obtain ⟨c0, c1, f1⟩ := h.cells
  obtain ⟨p, len, cap, hk, hi, -⟩ := h.r
  have r0 : w.cell? ⟨R, 0, none⟩ = some (.slice p len cap) := hk.cell 0
  have hlen := hi.lenq
  have H0 : Hid (Tk w K R d0 s) := h
  clear h hk hi
  by_cases he : s.e = 0
  · have heb : (s.e == 0) = true := by simpa using he
    by_cases hl : 0 < len
    · have hlb : decide (0 < len) = true := by simpa using hl
      have HM : Hid (s.more = ⟨s.xs, 13⟩) := by unfold Hid Rs.more Rs.note; rw [if_pos (by omega), if_pos he]
      clear he hl hlen
      go_enter Try.func43, Try.ntmps43
      go_wp2
      go_ret
      rw [HM.out]
      have hq := H0.out.setE 13
      exact ⟨rfl, hq.1, hq.2⟩
    · have hlb : decide (0 < len) = false := by simpa using hl
      have HM : Hid (s.more = s) := by unfold Hid Rs.more; rw [if_neg (by omega)]
      clear he hl hlen
      go_enter Try.func43, Try.ntmps43
      go_wp2
      go_ret
      rw [HM.out]
      exact ⟨rfl, H0.out, Tn.refl _ _⟩
  · have heb : (s.e == 0) = false := by simpa using he
    have HM : Hid (s.more = s) := by
      unfold Hid Rs.more Rs.note
      split
      · first | rfl | rw [if_neg he]
      · rfl
    clear he hlen
    go_enter Try.func43, Try.ntmps43
    go_wp2
    go_ret
    rw [HM.out]
    exact ⟨rfl, H0.out, Tn.refl _ _⟩

end Go.Proofs.Ytmjbfelfdhehbaa

namespace Go.Proofs.Ytmjbfelfdhehbaa
open Go.RowKit
set_option linter.unusedVariables false
set_option maxRecDepth 100000

/-- A commit under way. -/
structure TkC (w0 w : World) (K R d0 : Nat) (s : Rs) (A C : Nat) (ts : Int) (v : Value) (l : List Wr) : Prop where
  b : TkB [] w0 w K R d0 s A C 24 #[.int .i64 0, .slice none 0 0] #[.int .i64 ts, v]
  own : OwnW w (C + 1) v l
  lt : K < C ∧ R < C ∧ A < C

section
variable {w0 w : World} {K R d0 : Nat} {s : Rs} {A C : Nat} {ts : Int} {v : Value} {l : List Wr}

theorem TkC.below {w' : World} (h : TkC w0 w K R d0 s A C ts v l) (hb : Below w.heap.size w w') : TkC w0 w' K R d0 s A C ts v l := ⟨h.b.below hb, h.own.below hb, h.lt⟩

theorem TkC.ne (h : TkC w0 w K R d0 s A C ts v l) : v.ownBlock ≠ some C := fun e => by have := (h.own.lt _ e).1; omega

theorem writeTC (h : TkC w0 w K R d0 s A C ts v l) : Calls Try.prog 42 #[.pointer (some ⟨K, 0, none⟩)] w fun x w' => x = .returned (.agg #[.string s.write.1.key, .string s.write.1.val, .bool s.write.1.del]) ∧ TkC w0 w' K R d0 s.write.2 A C ts v l :=
  (write_tk h.b.tk).mono fun x w' ⟨a, b, c⟩ => ⟨a, h.b.step b c, h.own.tn c (by have := h.lt; simp; omega), h.lt⟩

theorem TkC.app {w' : World} {g k : Nat} {l' : List Wr} (h : TkC w0 w K R d0 s A C ts v l) (hg : w.grownBy w' v.ownBlock) (ho : OwnW w' (C + 1) (.slice (some ⟨g, 0, none⟩) l'.length k) l') :
    TkC w0 (w'.setCell ⟨C, 1, none⟩ (.slice (some ⟨g, 0, none⟩) l'.length k)) K R d0 s A C ts (.slice (some ⟨g, 0, none⟩) l'.length k) l' := by
  obtain ⟨l1, l2, l3⟩ := h.lt
  have hdC := h.b.d.2
  have hC0 : w0.heap.size ≤ C := by have := h.b.bS; simpa using this
  have hr : ∀ k, v.ownBlock = some k → C + 1 ≤ k := fun k hk => (h.own.lt k hk).1
  have ht : Tn v.ownBlock.toList w w' := (Tn.refl _ _).grown hg (fun k hk => .inl (by simp [hk]))
  have hS : ∀ b ∈ v.ownBlock.toList, C + 1 ≤ b := fun b hb => hr b (by simpa using hb)
  have hB : TkB [] w0 w' K R d0 s A C 24 #[.int .i64 0, .slice none 0 0] #[.int .i64 ts, v] := by
    refine ⟨h.b.tk.keep ht (fun hm => by have := hS _ hm; omega) (fun hm => by have := hS _ hm; omega) (fun b hb => by have := hS b hb; omega), h.b.a.tn ht (fun hm => by have := hS _ hm; omega), h.b.b.tn ht (fun hm => by have := hS _ hm; omega), h.b.tn.trans ht (fun x hx => .inr (by have := hS x hx; omega)), h.b.kS, h.b.rS, h.b.aS, h.b.bS, h.b.ne, h.b.d⟩
  refine ⟨hB.set 1 _, ho.keptN fun k hk => ?_, h.lt⟩
  refine Below.heap_setCell w' ⟨C, 1, none⟩ _ k ?_
  have := (ho.lt k hk).1
  show k ≠ C
  omega
end

/-- What a taker begins with. -/
theorem tk_new (w : World) (T : TypeId) (ca : Array Value) (p : Option Addr) (len cap : Nat) (xs : List Int) (hi : InB 9223372036854775807 w p len cap xs) (hl : xs.length ≤ 140737488355328) :
    Tk (((w.alloc (.cells ca T)).alloc (.cells #[.slice p len cap] 81)).alloc (.cells #[.pointer (some ⟨w.heap.size + 1, 0, none⟩), .int .i64 0] 83)) (w.heap.size + 2) (w.heap.size + 1) w.heap.size ⟨xs, 0⟩ ∧
    Bk (((w.alloc (.cells ca T)).alloc (.cells #[.slice p len cap] 81)).alloc (.cells #[.pointer (some ⟨w.heap.size + 1, 0, none⟩), .int .i64 0] 83)) w.heap.size T ca ∧
    Tn [] w (((w.alloc (.cells ca T)).alloc (.cells #[.slice p len cap] 81)).alloc (.cells #[.pointer (some ⟨w.heap.size + 1, 0, none⟩), .int .i64 0] 83)) := by
  have b1 := (Bk.new (w.alloc (.cells ca T)) 81 #[.slice p len cap]).alloc (.cells #[.pointer (some ⟨w.heap.size + 1, 0, none⟩), .int .i64 0] 83)
  have b2 := Bk.new ((w.alloc (.cells ca T)).alloc (.cells #[.slice p len cap] 81)) 83 #[.pointer (some ⟨w.heap.size + 1, 0, none⟩), .int .i64 0]
  rw [show (w.alloc (.cells ca T)).heap.size = w.heap.size + 1 by simp] at b1
  rw [show ((w.alloc (.cells ca T)).alloc (.cells #[.slice p len cap] 81)).heap.size = w.heap.size + 2 by simp] at b2
  have ht : Tn [] w (((w.alloc (.cells ca T)).alloc (.cells #[.slice p len cap] 81)).alloc (.cells #[.pointer (some ⟨w.heap.size + 1, 0, none⟩), .int .i64 0] 83)) := (((Tn.refl _ _).alloc _).alloc _).alloc _
  refine ⟨⟨b2, ⟨p, len, cap, b1, hi.tn ht (by simp), hl, fun hp ad had => ?_, by omega⟩, by omega, by omega⟩, ((Bk.new _ _ _).alloc _).alloc _, ht⟩
  obtain ⟨b, o, hpp, hc⟩ := hi.bys hp
  rw [hpp] at had
  cases had
  exact World.block_lt_of_cell? w _ (hc 0 hp)

set_option maxHeartbeats 4000000 in
theorem rtakeCommit_any (p : Option Addr) (len cap : Nat) (xs : List Int) (w : World) (hin : InB 9223372036854775807 w p len cap xs) (hl47 : xs.length ≤ 140737488355328) :
    Calls Try.prog 18 #[.slice p len cap] w fun x w' => ∃ v, x = .returned (.tuple #[.agg #[.int .i64 (Rc.takeCom xs).1, v], .int .i64 (Rc.takeCom xs).2.2]) ∧ OwnW w' w.heap.size v (Rc.takeCom xs).2.1 ∧ Below w.heap.size w w' := by
  obtain ⟨tk0, ba0, tn0⟩ := tk_new w 24 #[.int .i64 0, .slice none 0 0] p len cap xs hin hl47
  have H0 : Hid _ := tk0
  have HA0 : Hid _ := ba0
  have HT0 : Hid _ := tn0
  obtain ⟨i0, hi, hz0, hz1, hz2⟩ := info_parts wrinfo
  have HT : Hid (Rc.takeCom xs = if ((Rs.mk xs 0).commit.2.2.more.note (Rc.comE (Rs.mk xs 0).commit.1 (Rs.mk xs 0).commit.2.1)).e = 0 then ((Rs.mk xs 0).commit.1, (Rs.mk xs 0).commit.2.1, 0) else (0, [], ((Rs.mk xs 0).commit.2.2.more.note (Rc.comE (Rs.mk xs 0).commit.1 (Rs.mk xs 0).commit.2.1)).e)) := rfl
  have HCW : Hid ((Rs.mk xs 0).commit = ((Rs.mk xs 0).num.1, Rs.writes ((Rs.mk xs 0).num.2.count 64).1.toNat ((Rs.mk xs 0).num.2.count 64).2)) := rfl
  clear tk0 ba0 tn0 hin
  go_enter Try.func18, Try.ntmps18
  go_wp2_with fail
  refine (num_tk H0.out).mono ?_
  rintro e w1 ⟨rfl, h1, t1⟩
  obtain ⟨ts, s1, hN⟩ : ∃ n t, (Rs.mk xs 0).num = (n, t) := ⟨_, _, rfl⟩
  rw [hN] at h1 HCW ⊢
  simp only at h1 HCW ⊢
  have hs1 : w.heap.size + 3 ≤ w1.heap.size := by have := t1.size; simp at this; omega
  have H1 : Hid (TkB [] w (w1.alloc (.cells #[.int .i64 ts, .slice none 0 0] 24)) (w.heap.size + 2) (w.heap.size + 1) w.heap.size s1 w.heap.size w1.heap.size 24 #[.int .i64 0, .slice none 0 0] #[.int .i64 ts, .slice none 0 0]) :=
    ⟨h1.below ((Below.refl _ _).alloc (Nat.le_refl _) _), (Bk.tn HA0.out t1 (by simp)).alloc _, Bk.new _ _ _, (HT0.out.trans t1 (by simp)).alloc _, .inr (by omega), .inr (by omega), .inr (Nat.le_refl _), .inr (by omega), ⟨by omega, by omega, by omega, by omega, by omega⟩, ⟨Nat.le_refl _, by omega⟩⟩
  clear h1 t1 H0 HA0 HT0 hN
  go_wp2_with fail
  refine (count_tk H1.out.tk 64 (by omega)).mono ?_
  rintro e w2 ⟨rfl, h2, t2⟩
  have HC2 : Hid (TkC w w2 (w.heap.size + 2) (w.heap.size + 1) w.heap.size (s1.count 64).2 w.heap.size w1.heap.size ts (.slice none 0 0) []) := ⟨H1.out.step h2 t2, OwnW.nil _ _, ⟨by omega, by omega, by omega⟩⟩
  have hcn : 0 ≤ (s1.count 64).1 ∧ (s1.count 64).1 ≤ 64 := by
    unfold Rs.count
    split
    · rename_i hq
      exact Rc.inn_iff.1 hq
    · simp
  generalize (s1.count 64).2 = s2 at *
  generalize (s1.count 64).1 = cn at *
  obtain ⟨N, rfl⟩ := Int.eq_ofNat_of_zero_le hcn.1
  rw [Int.toNat_natCast] at HCW
  clear h2 t2 H1
  generalize hC : w1.heap.size = C at *
  go_wp2_with fail
  go_loopw [7] (fun i wr => ∃ (k : Nat) (v : Value) (l : List Wr) (t : Rs), k ≤ N ∧ i = .int .i64 k ∧ Hid (l.length = k) ∧ Hid (TkC w wr (w.heap.size + 2) (w.heap.size + 1) w.heap.size t w.heap.size C ts v l) ∧ Hid (∀ m, Rs.writes (k + m) s2 = (l ++ (Rs.writes m t).1, (Rs.writes m t).2))) (fun i _ => N - (intOf i).toNat)
  case atStart => exact ⟨0, .slice none 0 0, [], s2, Nat.zero_le _, rfl, rfl, HC2, by simp [Hid]⟩
  case round =>
    obtain ⟨k, v, l, t, hk, rfl, HL, HF, HQ⟩ := hrel
    clear HC2
    by_cases hlt : k < N
    · have hli : (k : Int) < (N : Int) := by omega
      have HD : Hid (TkC w wr.drew (w.heap.size + 2) (w.heap.size + 1) w.heap.size t w.heap.size C ts v l) := HF.out.below ((Below.refl _ _).drew)
      have c0 : wr.drew.cell? ⟨C, 1, none⟩ = some v := HD.out.b.b.cell 1
      have hll : l.length ≤ 64 := by have := HL.out; omega
      clear HF
      go_wp2_with fail
      go_region_law (first
        | (go_simp; go_at_call 42; refine (writeTC HD.out).mono ?_; rintro e w3 ⟨rfl, h3⟩; have c3 : w3.cell? ⟨C, 1, none⟩ = some v := h3.b.b.cell 1; have h4 := h3.below (w' := w3.alloc (.cells #[.string t.write.1.key, .string t.write.1.val, .bool t.write.1.del] 42)) ((Below.refl _ _).alloc (Nat.le_refl _) _); have c4 : (w3.alloc (.cells #[.string t.write.1.key, .string t.write.1.val, .bool t.write.1.del] 42)).cell? ⟨C, 1, none⟩ = some v := h4.b.b.cell 1; have b4 := Bk.new w3 42 #[.string t.write.1.key, .string t.write.1.val, .bool t.write.1.del])
        | (refine step_own rfl _ _ 22 rfl (C + 1) 42 i0 _ 3 40 Try.underlying22 hi hz0 hz1 hz2 rfl (by decide) v l.length (l.map Wr.cells).flatten (by go_simp) h4.own ⟨w3.heap.size, 0, none⟩ 1 1 t.write.1.cells (by go_simp) rfl (fun j u hj => by rw [Addr.add_lit, Nat.zero_add, b4.cell j]; simpa [Wr.cells] using hj) (wr_one _) (by unfold maxLen; omega) (by omega) (by have := h4.b.b.lt; omega) ?_; intro v5 w5 ho5 hg5 hv5; obtain ⟨g5, k5, rfl⟩ := own_some ho5 (by omega); have b5 := h4.b.b.grown hg5 h4.ne; have c5 := b5.cell 1; have f5 := b5.frozen 1; have h6 := h4.app hg5 (OwnW.snoc ho5)))
      all_goals
        have H6 : Hid (TkC w (w5.setCell ⟨C, 1, none⟩ (.slice (some ⟨g5, 0, none⟩) (l.length + 1) k5)) (w.heap.size + 2) (w.heap.size + 1) w.heap.size t.write.2 w.heap.size C ts (.slice (some ⟨g5, 0, none⟩) (l ++ [t.write.1]).length k5) (l ++ [t.write.1])) := by
          simpa [Hid] using h6
        have HQ6 : Hid _ := Rs.writes_snoc s2 t l k HQ.out
        have HL6 : Hid ((l ++ [t.write.1]).length = k + 1) := by have := HL.out; simp [Hid, this]
        clear h3 c3 h4 b4 c4 ho5 hg5 hv5 b5 c5 f5 h6 HD c0
        generalize w5.setCell ⟨C, 1, none⟩ (.slice (some ⟨g5, 0, none⟩) (l.length + 1) k5) = w6 at *
        go_wp2
        go_roundw
        case rel => exact ⟨k + 1, _, _, _, by omega, by go_num, HL6, H6, HQ6⟩
        case measure => simp [intOf]; omega
    · have hli : ¬ ((k : Int) < (N : Int)) := by omega
      have hkn : k = N := by omega
      obtain ⟨pv, cv, rfl⟩ := own_form HF.out.own
      have HW : Hid (Rs.writes N s2 = (l, t)) := by
        have := HQ.out 0
        simp only [Nat.add_zero, Rs.writes, List.append_nil] at this
        rw [hkn] at this
        exact this
      have HT2 : Hid (Rc.takeCom xs = if (t.more.note (Rc.comE ts l)).e = 0 then (ts, l, 0) else (0, [], (t.more.note (Rc.comE ts l)).e)) := by
        unfold Hid
        rw [HT.out, HCW.out, HW.out]
      clear hkn HQ HW HT HCW
      go_wp2_with fail
      refine (ends_tk HF.out.b.tk).mono ?_
      rintro e w7 ⟨rfl, h7, t7⟩
      obtain ⟨z, hz⟩ : ∃ z, t.more = z := ⟨_, rfl⟩
      rw [hz] at h7 HT2 ⊢
      have b7 := HF.out.b.step h7 t7
      have HO7 : Hid (OwnW w7 (C + 1) (.slice pv l.length cv) l) := HF.out.own.tn t7 (by have := HF.out.lt; simp; omega)
      have HB7 : Hid (TkB [] w w7 (w.heap.size + 2) (w.heap.size + 1) w.heap.size z w.heap.size C 24 #[.int .i64 0, .slice none 0 0] #[.int .i64 ts, .slice pv l.length cv]) := b7
      have m0 : w7.cell? ⟨C, 0, none⟩ = some (.int .i64 ts) := b7.b.cell 0
      have m1 : w7.cell? ⟨C, 1, none⟩ = some (.slice pv l.length cv) := b7.b.cell 1
      have hCA : w.heap.size + 3 ≤ C := hs1
      clear h7 t7 b7 hz HF
      by_cases hze : z.e = 0
      · have hzb : (z.e == 0) = true := by simpa using hze
        have HE : Hid ((z.note (Rc.comE ts l)).e = Rc.comE ts l) := by unfold Hid Rs.note; rw [if_pos hze]
        rw [HE.out] at HT2
        go_wp2_with fail
        refine (rcheckCommit_any ts pv l.length cv l _ HO7.out.inw).mono ?_
        rintro e w8 ⟨rfl, hb8⟩
        have b8 := HB7.out.below hb8
        have HO8 : Hid (OwnW w8 (C + 1) (.slice pv l.length cv) l) := HO7.out.below hb8
        have HB8 : Hid (TkB [] w w8 (w.heap.size + 2) (w.heap.size + 1) w.heap.size z w.heap.size C 24 #[.int .i64 0, .slice none 0 0] #[.int .i64 ts, .slice pv l.length cv]) := b8
        have m0 : w8.cell? ⟨C, 0, none⟩ = some (.int .i64 ts) := b8.b.cell 0
        have m1 : w8.cell? ⟨C, 1, none⟩ = some (.slice pv l.length cv) := b8.b.cell 1
        have k0 : w8.cell? ⟨w.heap.size, 0, none⟩ = some (.int .i64 0) := b8.a.cell 0
        have k1 : w8.cell? ⟨w.heap.size, 1, none⟩ = some (.slice none 0 0) := b8.a.cell 1
        have f0 : w8.frozen? ⟨w.heap.size, 0, none⟩ = false := b8.a.frozen 0
        have f1 : w8.frozen? ⟨w.heap.size, 1, none⟩ = false := b8.a.frozen 1
        clear hb8 b8 HO7 HB7 hze
        by_cases hc : Rc.comE ts l = 0
        · have hcb : (Rc.comE ts l != 0) = false := by simpa using hc
          rw [if_pos hc] at HT2
          clear hc
          go_wp2
          try simp only [Exit.inBlock, Exit.then]
          have hk := ((HB8.out.setA 0 (.int .i64 ts)).setA 1 (.slice pv l.length cv))
          refine bodyPost_ret (results_two (cs := [.int .i64 ts, .slice pv l.length cv]) rfl rfl cm_agg cm_size rfl hk.a) rfl ?_
          rw [HT2.out]
          refine ⟨_, rfl, ?_, hk.tn.below (Nat.le_refl _) (by simp)⟩
          refine OwnW.mono (base := C + 1) (HO8.out.keptN fun j hj => ?_) (by omega)
          have h5 := (HO8.out.lt j hj).1
          rw [Below.heap_setCell _ ⟨w.heap.size, 1, none⟩ _ j (by show j ≠ w.heap.size; omega), Below.heap_setCell _ ⟨w.heap.size, 0, none⟩ _ j (by show j ≠ w.heap.size; omega)]
        · have hcb : (Rc.comE ts l != 0) = true := by simpa using hc
          rw [if_neg hc] at HT2
          clear hc
          go_wp2
          try simp only [Exit.inBlock, Exit.then]
          have hk := ((HB8.out.setA 0 (.int .i64 0)).setA 1 (.slice none 0 0))
          refine bodyPost_ret (results_two (cs := [.int .i64 0, .slice none 0 0]) rfl rfl cm_agg cm_size rfl hk.a) rfl ?_
          rw [HT2.out]
          exact ⟨_, rfl, OwnW.nil _ _, hk.tn.below (Nat.le_refl _) (by simp)⟩
      · have hzb : (z.e == 0) = false := by simpa using hze
        have hzb2 : (z.e != 0) = true := by simpa using hze
        have HE : Hid ((z.note (Rc.comE ts l)).e = z.e) := by unfold Hid Rs.note; rw [if_neg hze]
        rw [HE.out, if_neg hze] at HT2
        have k0 : w7.cell? ⟨w.heap.size, 0, none⟩ = some (.int .i64 0) := HB7.out.a.cell 0
        have k1 : w7.cell? ⟨w.heap.size, 1, none⟩ = some (.slice none 0 0) := HB7.out.a.cell 1
        have f0 : w7.frozen? ⟨w.heap.size, 0, none⟩ = false := HB7.out.a.frozen 0
        have f1 : w7.frozen? ⟨w.heap.size, 1, none⟩ = false := HB7.out.a.frozen 1
        clear hze
        go_wp2
        try simp only [Exit.inBlock, Exit.then]
        have hk := ((HB7.out.setA 0 (.int .i64 0)).setA 1 (.slice none 0 0))
        refine bodyPost_ret (results_two (cs := [.int .i64 0, .slice none 0 0]) rfl rfl cm_agg cm_size rfl hk.a) rfl ?_
        rw [HT2.out]
        exact ⟨_, rfl, OwnW.nil _ _, hk.tn.below (Nat.le_refl _) (by simp)⟩

end Go.Proofs.Ytmjbfelfdhehbaa

namespace Go.Proofs.Ytmjbfelfdhehbaa
open Go.RowKit
set_option linter.unusedVariables false
set_option maxRecDepth 100000

theorem stinfo : (Try.prog.info? 90).map (fun i => (i.zero, i.size, i.bytes)) = some (some (.agg #[.string .empty, .string .empty, .int .i64 0]), 3, 40) := by kernel_rfl

/-- A row of writes of the call's own. -/
def OwnS (w : World) (base : Nat) (v : Value) (l : List St) : Prop := w.ownsRow base 90 3 v l.length (l.map St.cells).flatten

theorem OwnS.nil (w : World) (base : Nat) : OwnS w base (.slice none 0 0) [] := World.ownsRow_nil _ _ _ _

theorem OwnS.keptN {w w' : World} {base : Nat} {v : Value} {l : List St} (h : OwnS w base v l) (hb : ∀ k, v.ownBlock = some k → w'.heap[k]? = w.heap[k]?) : OwnS w' base v l := by
  refine ⟨h.1, ?_⟩
  rcases h.2 with hn | ⟨g, cap, cur, hv, hbb, hg, rest⟩
  · exact .inl hn
  · refine .inr ⟨g, cap, cur, hv, hbb, ?_, rest⟩
    rw [hb g (by rw [hv]; rfl)]
    exact hg

theorem OwnS.lt {w : World} {base : Nat} {v : Value} {l : List St} (h : OwnS w base v l) : ∀ k, v.ownBlock = some k → base ≤ k ∧ k < w.heap.size := by
  intro k hk
  rcases h.2 with ⟨hv, _⟩ | ⟨g, cap, cur, hv, hbb, hg, rest⟩
  · rw [hv] at hk
    cases hk
  · rw [hv] at hk
    cases hk
    exact ⟨hbb, (Array.getElem?_eq_some_iff.1 hg).1⟩

theorem OwnS.below {w w' : World} {base : Nat} {v : Value} {l : List St} (h : OwnS w base v l) (hb : Below w.heap.size w w') : OwnS w' base v l := h.keptN fun k hk => hb.block k (h.lt k hk).2

theorem OwnS.tn {w w' : World} {base : Nat} {v : Value} {l : List St} {S : List Nat} (h : OwnS w base v l) (ht : Tn S w w') (hS : ∀ b ∈ S, b < base) : OwnS w' base v l :=
  h.keptN fun k hk => ht.block k (h.lt k hk).2 (fun hm => by have := hS k hm; have := (h.lt k hk).1; omega)

theorem OwnS.mono {w : World} {base base' : Nat} {v : Value} {l : List St} (h : OwnS w base v l) (hb : base' ≤ base) : OwnS w base' v l := by
  refine ⟨h.1, ?_⟩
  rcases h.2 with hn | ⟨g, cap, cur, hv, hbb, rest⟩
  · exact .inl hn
  · exact .inr ⟨g, cap, cur, hv, by omega, rest⟩

theorem st_one (x : St) : ∀ u ∈ x.cells, u.oneCell' = true := by
  intro u hu
  simp only [St.cells, List.mem_cons, List.not_mem_nil, or_false] at hu
  rcases hu with rfl | rfl | rfl <;> rfl

theorem OwnS.snoc {w : World} {base : Nat} {g k : Nat} {l : List St} {x : St} (h : w.ownsRow base 90 3 (.slice (some ⟨g, 0, none⟩) (l.length + 1) k) (l.length + 1) ((l.map St.cells).flatten ++ x.cells)) : OwnS w base (.slice (some ⟨g, 0, none⟩) (l ++ [x]).length k) (l ++ [x]) := by
  unfold OwnS
  simp only [List.length_append, List.length_singleton, List.map_append, List.map_cons, List.map_nil, List.flatten_append, List.flatten_cons, List.flatten_nil, List.append_nil]
  exact h

/-- A commit under way. -/
structure RdH (w0 w : World) (R lo : Nat) (s : Rs) (A : Nat) (ts : Int) (d : Bool) (v : Value) (l : List St) : Prop where
  b : RdB w0 w R lo s A 40 #[.int .i64 0, .slice none 0 0, .bool false] #[.int .i64 ts, v, .bool d]
  own : OwnS w (A + 2) v l

section
variable {w0 w : World} {R lo : Nat} {s : Rs} {A : Nat} {ts : Int} {d : Bool} {v : Value} {l : List St}

theorem RdH.drew (h : RdH w0 w R lo s A ts d v l) : RdH w0 w.drew R lo s A ts d v l :=
  ⟨h.b.below ((Below.refl _ _).drew), h.own.below ((Below.refl _ _).drew)⟩

theorem RdH.alloc (h : RdH w0 w R lo s A ts d v l) (o : Obj) : RdH w0 (w.alloc o) R lo s A ts d v l :=
  ⟨h.b.below ((Below.refl _ _).alloc (Nat.le_refl _) _), h.own.below ((Below.refl _ _).alloc (Nat.le_refl _) _)⟩

theorem RdH.ne (h : RdH w0 w R lo s A ts d v l) : v.ownBlock ≠ some (A + 1) := fun e => by have := (h.own.lt _ e).1; omega

theorem stampedH (h : RdH w0 w R lo s A ts d v l) : Calls Try.prog 65 #[.pointer (some ⟨R, 0, none⟩)] w fun x w' => x = .returned (.agg #[.string s.stamped.1.key, .string s.stamped.1.val, .int .i64 s.stamped.1.ts]) ∧ RdH w0 w' R lo s.stamped.2 A ts d v l :=
  (stamped_rd h.b.rd).mono fun x w' ⟨a, b, c⟩ => ⟨a, h.b.step b c, h.own.tn c (by have := h.b.lo; have := h.b.rd.lt; simp; omega)⟩

theorem RdH.app {w' : World} {g k : Nat} {l' : List St} (h : RdH w0 w R lo s A ts d v l) (hg : w.grownBy w' v.ownBlock) (ho : OwnS w' (A + 2) (.slice (some ⟨g, 0, none⟩) l'.length k) l') :
    RdH w0 (w'.setCell ⟨A + 1, 1, none⟩ (.slice (some ⟨g, 0, none⟩) l'.length k)) R lo s A ts d (.slice (some ⟨g, 0, none⟩) l'.length k) l' := by
  have h1 := h.b.lo
  have h2 := h.b.new
  have h3 := h.b.rd.le
  have hr : ∀ k, v.ownBlock = some k → A + 2 ≤ k := fun k hk => (h.own.lt k hk).1
  have hb : Below lo w w' := (Below.refl _ _).grown hg h3 (fun k hk => by have := hr k hk; omega)
  have hB : RdB w0 w' R lo s A 40 #[.int .i64 0, .slice none 0 0, .bool false] #[.int .i64 ts, v, .bool d] := by
    refine ⟨h.b.rd.below hb, h.b.a.grown hg ?_, h.b.b.grown hg h.ne, h.b.tn.grown hg (fun k hk => .inr (by have := hr k hk; omega)), h1, h2⟩
    intro e
    have := hr _ e
    omega
  refine ⟨hB.set 1 _, ho.keptN fun k hk => ?_⟩
  refine Below.heap_setCell w' ⟨A + 1, 1, none⟩ _ k ?_
  have := (ho.lt k hk).1
  show k ≠ A + 1
  omega
end

theorem Rs.stampeds_snoc (s0 s : Rs) (l : List St) (k : Nat) (h : ∀ m, Rs.stampeds (k + m) s0 = (l ++ (Rs.stampeds m s).1, (Rs.stampeds m s).2)) : ∀ m, Rs.stampeds (k + 1 + m) s0 = ((l ++ [s.stamped.1]) ++ (Rs.stampeds m s.stamped.2).1, (Rs.stampeds m s.stamped.2).2) := by
  intro m
  have := h (1 + m)
  rw [← Nat.add_assoc] at this
  rw [this, Nat.add_comm 1 m, Rs.stampeds]
  simp

set_option maxHeartbeats 2000000 in
theorem chunk_rd {w : World} {R lo : Nat} {s : Rs} (h : Rd w R lo s) :
    Calls Try.prog 46 #[.pointer (some ⟨R, 0, none⟩)] w fun x w' => ∃ v, x = .returned (.agg #[.int .i64 s.chunk.1, v, .bool s.chunk.2.1]) ∧ OwnS w' w.heap.size v s.chunk.2.2.1 ∧ Rd w' R lo s.chunk.2.2.2 ∧ Tn [R] w w' := by
  have H0 : Hid (RdB w ((w.alloc (.cells #[.int .i64 0, .slice none 0 0, .bool false] 40)).alloc (.cells #[.int .i64 0, .slice none 0 0, .bool false] 40)) R lo s w.heap.size 40 #[.int .i64 0, .slice none 0 0, .bool false] #[.int .i64 0, .slice none 0 0, .bool false]) := RdB.begin h _ _ _
  have hlo := h.le
  obtain ⟨i0, hi, hz0, hz1, hz2⟩ := info_parts stinfo
  have HCW : Hid (s.chunk = (s.num.1, s.num.2.flag.1, Rs.stampeds (s.num.2.flag.2.count 16).1.toNat (s.num.2.flag.2.count 16).2)) := rfl
  clear h
  go_enter Try.func46, Try.ntmps46
  go_wp2_with fail
  refine (numB H0.out).mono ?_
  rintro e w1 ⟨rfl, h1⟩
  have H1 : Hid (RdB w w1 R lo s.num.2 w.heap.size 40 #[.int .i64 0, .slice none 0 0, .bool false] #[.int .i64 0, .slice none 0 0, .bool false]) := h1
  have c1 : w1.cell? ⟨w.heap.size + 1, 0, none⟩ = some (.int .i64 0) := h1.b.cell 0
  have f1 : w1.frozen? ⟨w.heap.size + 1, 0, none⟩ = false := h1.b.frozen 0
  clear h1 H0
  go_wp2_with fail
  refine (flagB (H1.out.set 0 _)).mono ?_
  rintro e w1b ⟨rfl, h1b⟩
  have H1b : Hid (RdB w w1b R lo s.num.2.flag.2 w.heap.size 40 #[.int .i64 0, .slice none 0 0, .bool false] #[.int .i64 s.num.1, .slice none 0 0, .bool false]) := h1b
  have c1b : w1b.cell? ⟨w.heap.size + 1, 2, none⟩ = some (.bool false) := h1b.b.cell 2
  have f1b : w1b.frozen? ⟨w.heap.size + 1, 2, none⟩ = false := h1b.b.frozen 2
  clear h1b c1 f1
  go_wp2_with fail
  have H1' : Hid (RdB w (w1b.setCell ⟨w.heap.size + 1, 2, none⟩ (.bool s.num.2.flag.1)) R lo s.num.2.flag.2 w.heap.size 40 #[.int .i64 0, .slice none 0 0, .bool false] #[.int .i64 s.num.1, .slice none 0 0, .bool s.num.2.flag.1]) := H1b.out.set 2 _
  refine (count_rd H1'.out.rd 16).mono ?_
  rintro e w2 ⟨rfl, h2, t2⟩
  have HC2 : Hid (RdH w w2 R lo (s.num.2.flag.2.count 16).2 w.heap.size s.num.1 s.num.2.flag.1 (.slice none 0 0) []) := ⟨H1'.out.step h2 t2, OwnS.nil _ _⟩
  have hcn : 0 ≤ (s.num.2.flag.2.count 16).1 ∧ (s.num.2.flag.2.count 16).1 ≤ 16 := by
    unfold Rs.count
    split
    · rename_i hq
      exact Rc.inn_iff.1 hq
    · simp
  generalize (s.num.2.flag.2.count 16).2 = s2 at *
  generalize (s.num.2.flag.2.count 16).1 = cn at *
  obtain ⟨N, rfl⟩ := Int.eq_ofNat_of_zero_le hcn.1
  rw [Int.toNat_natCast] at HCW
  clear h2 t2 H1 H1b H1' c1b f1b
  go_wp2_with fail
  go_loopw [12] (fun i wr => ∃ (k : Nat) (v : Value) (l : List St) (t : Rs), k ≤ N ∧ i = .int .i64 k ∧ Hid (l.length = k) ∧ Hid (RdH w wr R lo t w.heap.size s.num.1 s.num.2.flag.1 v l) ∧ Hid (∀ m, Rs.stampeds (k + m) s2 = (l ++ (Rs.stampeds m t).1, (Rs.stampeds m t).2))) (fun i _ => N - (intOf i).toNat)
  case atStart => exact ⟨0, .slice none 0 0, [], s2, Nat.zero_le _, rfl, rfl, HC2, by simp [Hid]⟩
  case round =>
    obtain ⟨k, v, l, t, hk, rfl, HL, HF, HQ⟩ := hrel
    clear HC2
    by_cases hlt : k < N
    · have hli : (k : Int) < (N : Int) := by omega
      have HD : Hid (RdH w wr.drew R lo t w.heap.size s.num.1 s.num.2.flag.1 v l) := HF.out.drew
      have c0 : wr.drew.cell? ⟨w.heap.size + 1, 1, none⟩ = some v := HD.out.b.b.cell 1
      have hll : l.length ≤ 64 := by have := HL.out; omega
      clear HF
      go_wp2_with fail
      go_region_law (first
        | (go_simp; go_at_call 65; refine (stampedH HD.out).mono ?_; rintro e w3 ⟨rfl, h3⟩; have c3 : w3.cell? ⟨w.heap.size + 1, 1, none⟩ = some v := h3.b.b.cell 1; have h4 := h3.alloc (.cells #[.string t.stamped.1.key, .string t.stamped.1.val, .int .i64 t.stamped.1.ts] 90); have c4 : (w3.alloc (.cells #[.string t.stamped.1.key, .string t.stamped.1.val, .int .i64 t.stamped.1.ts] 90)).cell? ⟨w.heap.size + 1, 1, none⟩ = some v := h4.b.b.cell 1; have b4 := Bk.new w3 90 #[.string t.stamped.1.key, .string t.stamped.1.val, .int .i64 t.stamped.1.ts])
        | (refine step_own rfl _ _ 38 rfl (w.heap.size + 2) 90 i0 _ 3 40 Try.underlying38 hi hz0 hz1 hz2 rfl (by decide) v l.length (l.map St.cells).flatten (by go_simp) h4.own ⟨w3.heap.size, 0, none⟩ 1 1 t.stamped.1.cells (by go_simp) rfl (fun j u hj => by rw [Addr.add_lit, Nat.zero_add, b4.cell j]; simpa [St.cells] using hj) (st_one _) (by unfold maxLen; omega) (by omega) (by have := h4.b.b.lt; omega) ?_; intro v5 w5 ho5 hg5 hv5; obtain ⟨g5, k5, rfl⟩ := own_some ho5 (by omega); have b5 := h4.b.b.grown hg5 h4.ne; have c5 := b5.cell 1; have f5 := b5.frozen 1; have h6 := h4.app hg5 (OwnS.snoc ho5)))
      all_goals
        have H6 : Hid (RdH w (w5.setCell ⟨w.heap.size + 1, 1, none⟩ (.slice (some ⟨g5, 0, none⟩) (l.length + 1) k5)) R lo t.stamped.2 w.heap.size s.num.1 s.num.2.flag.1 (.slice (some ⟨g5, 0, none⟩) (l ++ [t.stamped.1]).length k5) (l ++ [t.stamped.1])) := by
          simpa [Hid] using h6
        have HQ6 : Hid _ := Rs.stampeds_snoc s2 t l k HQ.out
        have HL6 : Hid ((l ++ [t.stamped.1]).length = k + 1) := by have := HL.out; simp [Hid, this]
        clear h3 c3 h4 b4 c4 ho5 hg5 hv5 b5 c5 f5 h6 HD c0
        generalize w5.setCell ⟨w.heap.size + 1, 1, none⟩ (.slice (some ⟨g5, 0, none⟩) (l.length + 1) k5) = w6 at *
        go_wp2
        go_roundw
        case rel => exact ⟨k + 1, _, _, _, by omega, by go_num, HL6, H6, HQ6⟩
        case measure => simp [intOf]; omega
    · have hli : ¬ ((k : Int) < (N : Int)) := by omega
      have hkn : k = N := by omega
      obtain ⟨pv, cv, rfl⟩ := own_form HF.out.own
      have h := HF.out
      have d0 : wr.cell? ⟨w.heap.size + 1, 0, none⟩ = some (.int .i64 s.num.1) := h.b.b.cell 0
      have d1 : wr.cell? ⟨w.heap.size + 1, 1, none⟩ = some (.slice pv l.length cv) := h.b.b.cell 1
      have d2 : wr.cell? ⟨w.heap.size + 1, 2, none⟩ = some (.bool s.num.2.flag.1) := h.b.b.cell 2
      have a2 : wr.cell? ⟨w.heap.size, 2, none⟩ = some (.bool false) := h.b.a.cell 2
      have g2 : wr.frozen? ⟨w.heap.size, 2, none⟩ = false := h.b.a.frozen 2
      have a0 : wr.cell? ⟨w.heap.size, 0, none⟩ = some (.int .i64 0) := h.b.a.cell 0
      have a1 : wr.cell? ⟨w.heap.size, 1, none⟩ = some (.slice none 0 0) := h.b.a.cell 1
      have g0 : wr.frozen? ⟨w.heap.size, 0, none⟩ = false := h.b.a.frozen 0
      have g1 : wr.frozen? ⟨w.heap.size, 1, none⟩ = false := h.b.a.frozen 1
      have HW : Hid (Rs.stampeds N s2 = (l, t)) := by
        have := HQ.out 0
        simp only [Nat.add_zero, Rs.stampeds, List.append_nil] at this
        rw [hkn] at this
        exact this
      clear h hkn
      go_wp2
      have hs := ((HF.out.b.setA 0 (.int .i64 s.num.1)).setA 1 (.slice pv l.length cv)).setA 2 (.bool s.num.2.flag.1)
      have ho : OwnS (((wr.setCell ⟨w.heap.size, 0, none⟩ (.int .i64 s.num.1)).setCell ⟨w.heap.size, 1, none⟩ (.slice pv l.length cv)).setCell ⟨w.heap.size, 2, none⟩ (.bool s.num.2.flag.1)) w.heap.size (.slice pv l.length cv) l := by
        refine OwnS.mono (base := w.heap.size + 2) (HF.out.own.keptN fun j hj => ?_) (by omega)
        have h5 := (HF.out.own.lt j hj).1
        rw [Below.heap_setCell _ ⟨w.heap.size, 2, none⟩ _ j (by show j ≠ w.heap.size; omega), Below.heap_setCell _ ⟨w.heap.size, 1, none⟩ _ j (by show j ≠ w.heap.size; omega), Below.heap_setCell _ ⟨w.heap.size, 0, none⟩ _ j (by show j ≠ w.heap.size; omega)]
      try simp only [Exit.inBlock, Exit.then]
      refine bodyPost_ret (results_one (cs := [.int .i64 s.num.1, .slice pv l.length cv, .bool s.num.2.flag.1]) rfl rfl ch_agg ch_size rfl hs.a) rfl ?_
      rw [HCW.out, HW.out]
      exact ⟨_, rfl, ho, hs.rd, hs.tn⟩

end Go.Proofs.Ytmjbfelfdhehbaa

namespace Go.Proofs.Ytmjbfelfdhehbaa
open Go.RowKit
set_option linter.unusedVariables false
set_option maxRecDepth 100000

set_option maxHeartbeats 4000000 in
theorem master_rd {w : World} {R lo : Nat} {s : Rs} (h : Rd w R lo s) :
    Calls Try.prog 50 #[.pointer (some ⟨R, 0, none⟩)] w fun x w' => x = .returned (.agg s.master.1.cells.toArray) ∧ Rd w' R lo s.master.2 ∧ Tn [R] w w' := by
  have H0 : Hid (RdB w ((w.alloc (.cells #[.int .i64 0, .int .i64 0, .int .i64 0, .int .i64 0, .int .i64 0, .int .i64 0, .int .i64 0, .int .i64 0] 48)).alloc (.cells #[.int .i64 0, .int .i64 0, .int .i64 0, .int .i64 0, .int .i64 0, .int .i64 0, .int .i64 0, .int .i64 0] 48)) R lo s w.heap.size 48 #[.int .i64 0, .int .i64 0, .int .i64 0, .int .i64 0, .int .i64 0, .int .i64 0, .int .i64 0, .int .i64 0] #[.int .i64 0, .int .i64 0, .int .i64 0, .int .i64 0, .int .i64 0, .int .i64 0, .int .i64 0, .int .i64 0]) := RdB.begin h _ _ _
  obtain ⟨m, hm⟩ : ∃ m, s.master = m := ⟨_, rfl⟩
  have HM : Hid (s.master = m) := hm
  clear h hm
  obtain ⟨n0, s1, hn0⟩ : ∃ n t, s.num = (n, t) := ⟨_, _, rfl⟩
  obtain ⟨n1, s2, hn1⟩ : ∃ n t, s1.num = (n, t) := ⟨_, _, rfl⟩
  obtain ⟨n2, s3, hn2⟩ : ∃ n t, s2.num = (n, t) := ⟨_, _, rfl⟩
  obtain ⟨n3, s4, hn3⟩ : ∃ n t, s3.num = (n, t) := ⟨_, _, rfl⟩
  obtain ⟨n4, s5, hn4⟩ : ∃ n t, s4.num = (n, t) := ⟨_, _, rfl⟩
  obtain ⟨n5, s6, hn5⟩ : ∃ n t, s5.num = (n, t) := ⟨_, _, rfl⟩
  obtain ⟨n6, s7, hn6⟩ : ∃ n t, s6.num = (n, t) := ⟨_, _, rfl⟩
  obtain ⟨n7, s8, hn7⟩ : ∃ n t, s7.num = (n, t) := ⟨_, _, rfl⟩
  have HMM : Hid (m = (⟨n0, n1, n2, n3, n4, n5, n6, n7⟩, s8)) := by
    unfold Hid
    rw [← HM.out]
    unfold Rs.master
    simp only [hn0, hn1, hn2, hn3, hn4, hn5, hn6, hn7]
  have HN0 : Hid _ := hn0
  have HN1 : Hid _ := hn1
  have HN2 : Hid _ := hn2
  have HN3 : Hid _ := hn3
  have HN4 : Hid _ := hn4
  have HN5 : Hid _ := hn5
  have HN6 : Hid _ := hn6
  have HN7 : Hid _ := hn7
  clear hn0 hn1 hn2 hn3 hn4 hn5 hn6 hn7
  go_enter Try.func50, Try.ntmps50
  go_wp2_with fail
  refine (numB H0.out).mono ?_
  rintro e w1 ⟨rfl, h1⟩
  rw [HN0.out] at h1 ⊢
  simp only at h1 ⊢
  have H1 : Hid (RdB w w1 R lo s1 w.heap.size 48 #[.int .i64 0, .int .i64 0, .int .i64 0, .int .i64 0, .int .i64 0, .int .i64 0, .int .i64 0, .int .i64 0] #[.int .i64 0, .int .i64 0, .int .i64 0, .int .i64 0, .int .i64 0, .int .i64 0, .int .i64 0, .int .i64 0]) := h1
  have c1 : w1.cell? ⟨w.heap.size + 1, 0, none⟩ = some (.int .i64 0) := h1.b.cell 0
  have f1 : w1.frozen? ⟨w.heap.size + 1, 0, none⟩ = false := h1.b.frozen 0
  clear h1 H0
  go_wp2_with fail
  refine (numB (H1.out.set 0 _)).mono ?_
  rintro e w2 ⟨rfl, h2⟩
  rw [HN1.out] at h2 ⊢
  simp only at h2 ⊢
  have H2 : Hid (RdB w w2 R lo s2 w.heap.size 48 #[.int .i64 0, .int .i64 0, .int .i64 0, .int .i64 0, .int .i64 0, .int .i64 0, .int .i64 0, .int .i64 0] #[.int .i64 n0, .int .i64 0, .int .i64 0, .int .i64 0, .int .i64 0, .int .i64 0, .int .i64 0, .int .i64 0]) := h2
  have c2 : w2.cell? ⟨w.heap.size + 1, 1, none⟩ = some (.int .i64 0) := h2.b.cell 1
  have f2 : w2.frozen? ⟨w.heap.size + 1, 1, none⟩ = false := h2.b.frozen 1
  clear h2 H1 c1 f1
  go_wp2_with fail
  refine (numB (H2.out.set 1 _)).mono ?_
  rintro e w3 ⟨rfl, h3⟩
  rw [HN2.out] at h3 ⊢
  simp only at h3 ⊢
  have H3 : Hid (RdB w w3 R lo s3 w.heap.size 48 #[.int .i64 0, .int .i64 0, .int .i64 0, .int .i64 0, .int .i64 0, .int .i64 0, .int .i64 0, .int .i64 0] #[.int .i64 n0, .int .i64 n1, .int .i64 0, .int .i64 0, .int .i64 0, .int .i64 0, .int .i64 0, .int .i64 0]) := h3
  have c3 : w3.cell? ⟨w.heap.size + 1, 2, none⟩ = some (.int .i64 0) := h3.b.cell 2
  have f3 : w3.frozen? ⟨w.heap.size + 1, 2, none⟩ = false := h3.b.frozen 2
  clear h3 H2 c2 f2
  go_wp2_with fail
  refine (numB (H3.out.set 2 _)).mono ?_
  rintro e w4 ⟨rfl, h4⟩
  rw [HN3.out] at h4 ⊢
  simp only at h4 ⊢
  have H4 : Hid (RdB w w4 R lo s4 w.heap.size 48 #[.int .i64 0, .int .i64 0, .int .i64 0, .int .i64 0, .int .i64 0, .int .i64 0, .int .i64 0, .int .i64 0] #[.int .i64 n0, .int .i64 n1, .int .i64 n2, .int .i64 0, .int .i64 0, .int .i64 0, .int .i64 0, .int .i64 0]) := h4
  have c4 : w4.cell? ⟨w.heap.size + 1, 3, none⟩ = some (.int .i64 0) := h4.b.cell 3
  have f4 : w4.frozen? ⟨w.heap.size + 1, 3, none⟩ = false := h4.b.frozen 3
  clear h4 H3 c3 f3
  go_wp2_with fail
  refine (numB (H4.out.set 3 _)).mono ?_
  rintro e w5 ⟨rfl, h5⟩
  rw [HN4.out] at h5 ⊢
  simp only at h5 ⊢
  have H5 : Hid (RdB w w5 R lo s5 w.heap.size 48 #[.int .i64 0, .int .i64 0, .int .i64 0, .int .i64 0, .int .i64 0, .int .i64 0, .int .i64 0, .int .i64 0] #[.int .i64 n0, .int .i64 n1, .int .i64 n2, .int .i64 n3, .int .i64 0, .int .i64 0, .int .i64 0, .int .i64 0]) := h5
  have c5 : w5.cell? ⟨w.heap.size + 1, 4, none⟩ = some (.int .i64 0) := h5.b.cell 4
  have f5 : w5.frozen? ⟨w.heap.size + 1, 4, none⟩ = false := h5.b.frozen 4
  clear h5 H4 c4 f4
  go_wp2_with fail
  refine (numB (H5.out.set 4 _)).mono ?_
  rintro e w6 ⟨rfl, h6⟩
  rw [HN5.out] at h6 ⊢
  simp only at h6 ⊢
  have H6 : Hid (RdB w w6 R lo s6 w.heap.size 48 #[.int .i64 0, .int .i64 0, .int .i64 0, .int .i64 0, .int .i64 0, .int .i64 0, .int .i64 0, .int .i64 0] #[.int .i64 n0, .int .i64 n1, .int .i64 n2, .int .i64 n3, .int .i64 n4, .int .i64 0, .int .i64 0, .int .i64 0]) := h6
  have c6 : w6.cell? ⟨w.heap.size + 1, 5, none⟩ = some (.int .i64 0) := h6.b.cell 5
  have f6 : w6.frozen? ⟨w.heap.size + 1, 5, none⟩ = false := h6.b.frozen 5
  clear h6 H5 c5 f5
  go_wp2_with fail
  refine (numB (H6.out.set 5 _)).mono ?_
  rintro e w7 ⟨rfl, h7⟩
  rw [HN6.out] at h7 ⊢
  simp only at h7 ⊢
  have H7 : Hid (RdB w w7 R lo s7 w.heap.size 48 #[.int .i64 0, .int .i64 0, .int .i64 0, .int .i64 0, .int .i64 0, .int .i64 0, .int .i64 0, .int .i64 0] #[.int .i64 n0, .int .i64 n1, .int .i64 n2, .int .i64 n3, .int .i64 n4, .int .i64 n5, .int .i64 0, .int .i64 0]) := h7
  have c7 : w7.cell? ⟨w.heap.size + 1, 6, none⟩ = some (.int .i64 0) := h7.b.cell 6
  have f7 : w7.frozen? ⟨w.heap.size + 1, 6, none⟩ = false := h7.b.frozen 6
  clear h7 H6 c6 f6
  go_wp2_with fail
  refine (numB (H7.out.set 6 _)).mono ?_
  rintro e w8 ⟨rfl, h8⟩
  rw [HN7.out] at h8 ⊢
  simp only at h8 ⊢
  have H8 : Hid (RdB w w8 R lo s8 w.heap.size 48 #[.int .i64 0, .int .i64 0, .int .i64 0, .int .i64 0, .int .i64 0, .int .i64 0, .int .i64 0, .int .i64 0] #[.int .i64 n0, .int .i64 n1, .int .i64 n2, .int .i64 n3, .int .i64 n4, .int .i64 n5, .int .i64 n6, .int .i64 0]) := h8
  have c8 : w8.cell? ⟨w.heap.size + 1, 7, none⟩ = some (.int .i64 0) := h8.b.cell 7
  have f8 : w8.frozen? ⟨w.heap.size + 1, 7, none⟩ = false := h8.b.frozen 7
  have d0 : w8.cell? ⟨w.heap.size + 1, 0, none⟩ = some (.int .i64 n0) := h8.b.cell 0
  have d1 : w8.cell? ⟨w.heap.size + 1, 1, none⟩ = some (.int .i64 n1) := h8.b.cell 1
  have d2 : w8.cell? ⟨w.heap.size + 1, 2, none⟩ = some (.int .i64 n2) := h8.b.cell 2
  have d3 : w8.cell? ⟨w.heap.size + 1, 3, none⟩ = some (.int .i64 n3) := h8.b.cell 3
  have d4 : w8.cell? ⟨w.heap.size + 1, 4, none⟩ = some (.int .i64 n4) := h8.b.cell 4
  have d5 : w8.cell? ⟨w.heap.size + 1, 5, none⟩ = some (.int .i64 n5) := h8.b.cell 5
  have d6 : w8.cell? ⟨w.heap.size + 1, 6, none⟩ = some (.int .i64 n6) := h8.b.cell 6
  have a0 : w8.cell? ⟨w.heap.size, 0, none⟩ = some (.int .i64 0) := h8.a.cell 0
  have g0 : w8.frozen? ⟨w.heap.size, 0, none⟩ = false := h8.a.frozen 0
  have a1 : w8.cell? ⟨w.heap.size, 1, none⟩ = some (.int .i64 0) := h8.a.cell 1
  have g1 : w8.frozen? ⟨w.heap.size, 1, none⟩ = false := h8.a.frozen 1
  have a2 : w8.cell? ⟨w.heap.size, 2, none⟩ = some (.int .i64 0) := h8.a.cell 2
  have g2 : w8.frozen? ⟨w.heap.size, 2, none⟩ = false := h8.a.frozen 2
  have a3 : w8.cell? ⟨w.heap.size, 3, none⟩ = some (.int .i64 0) := h8.a.cell 3
  have g3 : w8.frozen? ⟨w.heap.size, 3, none⟩ = false := h8.a.frozen 3
  have a4 : w8.cell? ⟨w.heap.size, 4, none⟩ = some (.int .i64 0) := h8.a.cell 4
  have g4 : w8.frozen? ⟨w.heap.size, 4, none⟩ = false := h8.a.frozen 4
  have a5 : w8.cell? ⟨w.heap.size, 5, none⟩ = some (.int .i64 0) := h8.a.cell 5
  have g5 : w8.frozen? ⟨w.heap.size, 5, none⟩ = false := h8.a.frozen 5
  have a6 : w8.cell? ⟨w.heap.size, 6, none⟩ = some (.int .i64 0) := h8.a.cell 6
  have g6 : w8.frozen? ⟨w.heap.size, 6, none⟩ = false := h8.a.frozen 6
  have a7 : w8.cell? ⟨w.heap.size, 7, none⟩ = some (.int .i64 0) := h8.a.cell 7
  have g7 : w8.frozen? ⟨w.heap.size, 7, none⟩ = false := h8.a.frozen 7
  clear h8 H7 c7 f7
  go_wp2
  have h := (((((((((H8.out.set 7 (.int .i64 n7)).setA 0 (.int .i64 n0)).setA 1 (.int .i64 n1)).setA 2 (.int .i64 n2)).setA 3 (.int .i64 n3)).setA 4 (.int .i64 n4)).setA 5 (.int .i64 n5)).setA 6 (.int .i64 n6)).setA 7 (.int .i64 n7))
  try simp only [Exit.inBlock, Exit.then]
  refine bodyPost_ret (results_one (cs := [.int .i64 n0, .int .i64 n1, .int .i64 n2, .int .i64 n3, .int .i64 n4, .int .i64 n5, .int .i64 n6, .int .i64 n7]) rfl rfl ms_agg ms_size rfl h.a) rfl ?_
  rw [HM.out, HMM.out]
  exact ⟨rfl, h.rd, h.tn⟩

end Go.Proofs.Ytmjbfelfdhehbaa

namespace Go.Proofs.Ytmjbfelfdhehbaa
open Go.RowKit
set_option linter.unusedVariables false
set_option maxRecDepth 100000

theorem OwnS.ins {w : World} {base : Nat} {p : Option Addr} {c : Nat} {l : List St} (h : OwnS w base (.slice p l.length c) l) (hz : ∀ g ∈ l, -9223372036854775808 ≤ g.ts ∧ g.ts ≤ 9223372036854775807) : InS w p l.length c l := by
  have h0 := h
  rcases h.2 with ⟨hv, hn⟩ | ⟨g, cap, cur, hv, hb, hg, hle, hcm, hcur, htake⟩
  · simp only [Value.slice.injEq] at hv
    obtain ⟨rfl, _, rfl⟩ := hv
    exact ⟨rfl, fun h => by omega, by omega, by omega, fun _ => ⟨hn, rfl⟩, hz⟩
  · simp only [Value.slice.injEq] at hv
    obtain ⟨rfl, _, rfl⟩ := hv
    refine ⟨rfl, fun _ => ⟨g, 0, rfl, fun i x hi j v hj => ?_⟩, hle, by unfold maxLen at hcm; omega, (fun e => by cases e), hz⟩
    have hj3 : j < 3 := by
      have := (List.getElem?_eq_some_iff.1 hj).1
      simpa [St.cells] using this
    have hf : (l.map St.cells).flatten[i * 3 + j]? = some v := by
      rw [flat3 (l.map St.cells) i j x.cells (by intro y hy; obtain ⟨z, _, rfl⟩ := List.mem_map.1 hy; rfl) (by rw [List.getElem?_map, hi]; rfl) hj3]
      exact hj
    have := World.ownsRow.cells h0 (g := g) rfl (i * 3 + j) v hf
    rw [Addr.add_lit, Nat.zero_add] at this
    rw [Nat.zero_add]
    exact this

theorem Rs.num_byte {s : Rs} (h : ∀ y ∈ s.xs, 0 ≤ y ∧ y < 256) : ∀ y ∈ s.num.2.xs, 0 ≤ y ∧ y < 256 := by
  unfold Rs.num
  split
  · exact fun y hy => h y (List.mem_of_mem_drop hy)
  · exact h
theorem Rs.text_byte {s : Rs} (h : ∀ y ∈ s.xs, 0 ≤ y ∧ y < 256) : ∀ y ∈ s.text.2.xs, 0 ≤ y ∧ y < 256 := by
  unfold Rs.text
  split
  · exact fun y hy => h y (List.mem_of_mem_drop hy)
  · exact h
theorem Rs.flag_byte {s : Rs} (h : ∀ y ∈ s.xs, 0 ≤ y ∧ y < 256) : ∀ y ∈ s.flag.2.xs, 0 ≤ y ∧ y < 256 := by
  unfold Rs.flag
  split
  · exact fun y hy => h y (List.mem_of_mem_drop hy)
  · exact h
theorem Rs.note_xs (s : Rs) (e : Int) : (s.note e).xs = s.xs := by unfold Rs.note; split <;> rfl
theorem Rs.count_byte {s : Rs} {m : Int} (h : ∀ y ∈ s.xs, 0 ≤ y ∧ y < 256) : ∀ y ∈ (s.count m).2.xs, 0 ≤ y ∧ y < 256 := by
  unfold Rs.count
  split
  · exact Rs.num_byte h
  · rw [Rs.note_xs]
    exact Rs.num_byte h
theorem Rs.num_fits {s : Rs} (h : ∀ y ∈ s.xs, 0 ≤ y ∧ y < 256) : -9223372036854775808 ≤ s.num.1 ∧ s.num.1 ≤ 9223372036854775807 := by
  have := Cd.dec_zero s.xs h
  unfold Rs.num
  split
  · exact ⟨this.2.2.1, this.2.2.2⟩
  · simp
theorem Rs.stampeds_fits : ∀ (n : Nat) (s : Rs), (∀ y ∈ s.xs, 0 ≤ y ∧ y < 256) → ∀ g ∈ (Rs.stampeds n s).1, -9223372036854775808 ≤ g.ts ∧ g.ts ≤ 9223372036854775807
  | 0, s, h, g, hg => by simp [Rs.stampeds] at hg
  | n + 1, s, h, g, hg => by
    rw [Rs.stampeds] at hg
    rcases List.mem_cons.1 hg with rfl | hg
    · exact Rs.num_fits (Rs.text_byte (Rs.text_byte h))
    · exact Rs.stampeds_fits n s.stamped.2 (Rs.num_byte (Rs.text_byte (Rs.text_byte h))) g hg
theorem Rs.chunk_fits (xs : List Int) (h : ∀ y ∈ xs, 0 ≤ y ∧ y < 256) : ∀ g ∈ (Rs.mk xs 0).chunk.2.2.1, -9223372036854775808 ≤ g.ts ∧ g.ts ≤ 9223372036854775807 := by
  unfold Rs.chunk
  exact Rs.stampeds_fits _ _ (Rs.count_byte (Rs.flag_byte (Rs.num_byte h)))

set_option maxHeartbeats 1000000 in
theorem end_chunk {w : World} {R lo : Nat} {s : Rs} (h : Rd w R lo s) (ts : Int) (d : Bool) (p : Option Addr) (len cap : Nat) (l : List St) (hin : ∀ w', Tn [R] w w' → InS w' p len cap l) :
    Calls Try.prog 38 #[.pointer (some ⟨R, 0, none⟩), .iface 92 (.agg #[.int .i64 ts, .slice p len cap, .bool d])] w fun x w' => x = .returned (.int .i64 (s.more.note (Rc.chE ts l)).e) ∧ Rd w' R lo (s.more.note (Rc.chE ts l)) ∧ Tn [R] w w' := by
  obtain ⟨q, ql, qc, c0, hql, c1⟩ := h.cell
  have H0 : Hid (Rd w R lo s) := h
  have HI : Hid (∀ w', Tn [R] w w' → InS w' p len cap l) := hin
  clear h hin c1
  go_enter Try.func38, Try.ntmps38
  by_cases hm : 0 < ql
  · have hmi : decide (0 < ql) = true := by simpa using hm
    have HM : Hid (s.more = s.note 13) := by unfold Hid Rs.more; rw [if_pos (by omega)]
    clear hm hql
    go_wp2_with fail
    refine (note_any H0.out 13).mono ?_
    rintro e w1 ⟨rfl, h1, t1⟩
    have H1 : Hid (Rd w1 R lo s.more) := by rw [HM.out]; exact h1
    have T1 : Hid (Tn [R] w w1) := t1
    have I1 : Hid (InS w1 p len cap l) := HI.out w1 t1
    clear h1 t1 c0
    go_wp2_with fail
    refine (hcheck_any ts d p len cap l _ I1.out).mono ?_
    rintro e w2 ⟨rfl, hb2⟩
    have H2 : Hid (Rd w2 R lo s.more) := H1.out.below (hb2.mono H1.out.le)
    have T2 : Hid (Tn [R] w w2) := T1.out.trans (Tn.of_below hb2 []) (by simp)
    clear hb2 H1 T1 I1
    go_wp2_with fail
    refine (note_any H2.out _).mono ?_
    rintro e w3 ⟨rfl, h3, t3⟩
    have H3 : Hid (Rd w3 R lo (s.more.note (Rc.chE ts l))) := h3
    have T3 : Hid (Tn [R] w w3) := T2.out.trans t3 (fun x hx => .inl hx)
    obtain ⟨-, -, -, -, -, c3⟩ := h3.cell
    clear h3 t3 H2 T2
    go_wp2
    go_ret
    exact ⟨rfl, H3.out, T3.out⟩
  · have hmi : decide (0 < ql) = false := by simpa using hm
    have HM : Hid (s.more = s) := by unfold Hid Rs.more; rw [if_neg (by omega)]
    have I1 : Hid (InS w p len cap l) := HI.out w (Tn.refl _ _)
    clear hm hql
    go_wp2_with fail
    refine (hcheck_any ts d p len cap l _ I1.out).mono ?_
    rintro e w2 ⟨rfl, hb2⟩
    have H2 : Hid (Rd w2 R lo s.more) := by rw [HM.out]; exact H0.out.below (hb2.mono H0.out.le)
    have T2 : Hid (Tn [R] w w2) := Tn.of_below hb2 _
    clear hb2 I1
    go_wp2_with fail
    refine (note_any H2.out _).mono ?_
    rintro e w3 ⟨rfl, h3, t3⟩
    have H3 : Hid (Rd w3 R lo (s.more.note (Rc.chE ts l))) := h3
    have T3 : Hid (Tn [R] w w3) := T2.out.trans t3 (fun x hx => .inl hx)
    obtain ⟨-, -, -, -, -, c3⟩ := h3.cell
    clear h3 t3 H2 T2
    go_wp2
    go_ret
    exact ⟨rfl, H3.out, T3.out⟩

set_option maxHeartbeats 1000000 in
theorem end_master {w : World} {R lo : Nat} {s : Rs} (h : Rd w R lo s) (m : Ms) :
    Calls Try.prog 38 #[.pointer (some ⟨R, 0, none⟩), .iface 96 (.agg m.cells.toArray)] w fun x w' => x = .returned (.int .i64 (s.more.note (Rc.msE m)).e) ∧ Rd w' R lo (s.more.note (Rc.msE m)) ∧ Tn [R] w w' := by
  obtain ⟨q, ql, qc, c0, hql, c1⟩ := h.cell
  have H0 : Hid (Rd w R lo s) := h
  clear h c1
  go_enter Try.func38, Try.ntmps38
  by_cases hm : 0 < ql
  · have hmi : decide (0 < ql) = true := by simpa using hm
    have HM : Hid (s.more = s.note 13) := by unfold Hid Rs.more; rw [if_pos (by omega)]
    clear hm hql
    go_wp2_with fail
    refine (note_any H0.out 13).mono ?_
    rintro e w1 ⟨rfl, h1, t1⟩
    have H1 : Hid (Rd w1 R lo s.more) := by rw [HM.out]; exact h1
    have T1 : Hid (Tn [R] w w1) := t1
    clear h1 t1 c0
    go_wp2_with fail
    refine (mcheck_any m _).mono ?_
    rintro e w2 ⟨rfl, hb2⟩
    have H2 : Hid (Rd w2 R lo s.more) := H1.out.below (hb2.mono H1.out.le)
    have T2 : Hid (Tn [R] w w2) := T1.out.trans (Tn.of_below hb2 []) (by simp)
    clear hb2 H1 T1
    go_wp2_with fail
    refine (note_any H2.out _).mono ?_
    rintro e w3 ⟨rfl, h3, t3⟩
    have H3 : Hid (Rd w3 R lo (s.more.note (Rc.msE m))) := h3
    have T3 : Hid (Tn [R] w w3) := T2.out.trans t3 (fun x hx => .inl hx)
    obtain ⟨-, -, -, -, -, c3⟩ := h3.cell
    clear h3 t3 H2 T2
    go_wp2
    go_ret
    exact ⟨rfl, H3.out, T3.out⟩
  · have hmi : decide (0 < ql) = false := by simpa using hm
    have HM : Hid (s.more = s) := by unfold Hid Rs.more; rw [if_neg (by omega)]
    clear hm hql
    go_wp2_with fail
    refine (mcheck_any m _).mono ?_
    rintro e w2 ⟨rfl, hb2⟩
    have H2 : Hid (Rd w2 R lo s.more) := by rw [HM.out]; exact H0.out.below (hb2.mono H0.out.le)
    have T2 : Hid (Tn [R] w w2) := Tn.of_below hb2 _
    clear hb2
    go_wp2_with fail
    refine (note_any H2.out _).mono ?_
    rintro e w3 ⟨rfl, h3, t3⟩
    have H3 : Hid (Rd w3 R lo (s.more.note (Rc.msE m))) := h3
    have T3 : Hid (Tn [R] w w3) := T2.out.trans t3 (fun x hx => .inl hx)
    obtain ⟨-, -, -, -, -, c3⟩ := h3.cell
    clear h3 t3 H2 T2
    go_wp2
    go_ret
    exact ⟨rfl, H3.out, T3.out⟩

set_option maxHeartbeats 1000000 in
theorem takeChunk_any (p : Option Addr) (len cap : Nat) (xs : List Int) (w : World) (hin : InB 9223372036854775807 w p len cap xs) :
    Calls Try.prog 22 #[.slice p len cap] w fun x w' => ∃ v, x = .returned (.tuple #[.agg #[.int .i64 (Rc.takeCh xs).1, v, .bool (Rc.takeCh xs).2.1], .int .i64 (Rc.takeCh xs).2.2.2]) ∧ OwnS w' w.heap.size v (Rc.takeCh xs).2.2.1 ∧ Below w.heap.size w w' := by
  have HI : Hid (InB 9223372036854775807 w p len cap xs) := hin
  have HLT : Hid (0 < xs.length → ∀ ad, p = some ad → ad.block < w.heap.size) := by
    intro hl ad had
    obtain ⟨b, o, hp, hc⟩ := hin.bys hl
    rw [hp] at had
    cases had
    exact World.block_lt_of_cell? w _ (hc 0 hl)
  clear hin
  have HR : Hid (Rd ((w.alloc (.cells #[.int .i64 0, .slice none 0 0, .bool false] 40)).alloc (.cells #[.slice p len cap, .int .i64 0] 74)) (w.heap.size + 1) (w.heap.size + 2) ⟨xs, 0⟩) := by
    have b2 := Bk.new (w.alloc (.cells #[.int .i64 0, .slice none 0 0, .bool false] 40)) 74 #[.slice p len cap, .int .i64 0]
    rw [show (w.alloc (.cells #[.int .i64 0, .slice none 0 0, .bool false] 40)).heap.size = w.heap.size + 1 by simp] at b2
    have hb : Below w.heap.size w ((w.alloc (.cells #[.int .i64 0, .slice none 0 0, .bool false] 40)).alloc (.cells #[.slice p len cap, .int .i64 0] 74)) := ((Below.refl _ _).alloc (Nat.le_refl _) _).alloc (by simp) _
    refine ⟨p, len, cap, b2, HI.out.below hb, fun hl ad had => ?_, by omega, by simp⟩
    have := HLT.out hl ad had
    omega
  go_enter Try.func22, Try.ntmps22
  have HA : Hid (Bk ((w.alloc (.cells #[.int .i64 0, .slice none 0 0, .bool false] 40)).alloc (.cells #[.slice p len cap, .int .i64 0] 74)) w.heap.size 40 #[.int .i64 0, .slice none 0 0, .bool false]) := (Bk.new _ _ _).alloc _
  have HB : Hid (Below w.heap.size w ((w.alloc (.cells #[.int .i64 0, .slice none 0 0, .bool false] 40)).alloc (.cells #[.slice p len cap, .int .i64 0] 74))) := ((Below.refl _ _).alloc (Nat.le_refl _) _).alloc (by simp) _
  have HT : Hid (Rc.takeCh xs = if ((Rs.mk xs 0).chunk.2.2.2.more.note (Rc.chE (Rs.mk xs 0).chunk.1 (Rs.mk xs 0).chunk.2.2.1)).e = 0 then ((Rs.mk xs 0).chunk.1, (Rs.mk xs 0).chunk.2.1, (Rs.mk xs 0).chunk.2.2.1, 0) else (0, false, [], ((Rs.mk xs 0).chunk.2.2.2.more.note (Rc.chE (Rs.mk xs 0).chunk.1 (Rs.mk xs 0).chunk.2.2.1)).e)) := rfl
  have HZZ : Hid (∀ g ∈ (Rs.mk xs 0).chunk.2.2.1, -9223372036854775808 ≤ g.ts ∧ g.ts ≤ 9223372036854775807) := Rs.chunk_fits xs HI.out.byte
  go_wp2_with fail
  refine (chunk_rd HR.out).mono ?_
  rintro e w1 ⟨v, rfl, ho, hr, ht⟩
  generalize (Rs.mk xs 0).chunk = C at *
  obtain ⟨ts, d, l, s⟩ := C
  simp only at ho hr HT HZZ ⊢
  obtain ⟨pv, cv, rfl⟩ := own_form ho
  rw [show ((w.alloc (.cells #[.int .i64 0, .slice none 0 0, .bool false] 40)).alloc (.cells #[.slice p len cap, .int .i64 0] 74)).heap.size = w.heap.size + 2 by simp] at ho
  have hs1 : w.heap.size + 2 ≤ w1.heap.size := by have := ht.size; simpa using this
  have HO1 : Hid (OwnS w1 (w.heap.size + 2) (.slice pv l.length cv) l) := ho
  have HR1 : Hid (Rd w1 (w.heap.size + 1) (w.heap.size + 2) s) := hr
  have HA1 : Hid (Bk w1 w.heap.size 40 #[.int .i64 0, .slice none 0 0, .bool false]) := HA.out.tn ht (by simp)
  have HB1 : Hid (Below w.heap.size w w1) := HB.out.trans (ht.below (by simp; omega) (by simp))
  clear ho hr ht HR HA HB
  have hb2 : Below w1.heap.size w1 (w1.alloc (.cells #[.int .i64 ts, .slice pv l.length cv, .bool d] 40)) := (Below.refl _ _).alloc (Nat.le_refl _) _
  have HO2 : Hid (OwnS (w1.alloc (.cells #[.int .i64 ts, .slice pv l.length cv, .bool d] 40)) (w.heap.size + 2) (.slice pv l.length cv) l) := HO1.out.below hb2
  have HR2 : Hid (Rd (w1.alloc (.cells #[.int .i64 ts, .slice pv l.length cv, .bool d] 40)) (w.heap.size + 1) (w.heap.size + 2) s) := HR1.out.below (hb2.mono hs1)
  have HA2 : Hid (Bk (w1.alloc (.cells #[.int .i64 ts, .slice pv l.length cv, .bool d] 40)) w.heap.size 40 #[.int .i64 0, .slice none 0 0, .bool false]) := HA1.out.alloc _
  have HC2 : Hid (Bk (w1.alloc (.cells #[.int .i64 ts, .slice pv l.length cv, .bool d] 40)) w1.heap.size 40 #[.int .i64 ts, .slice pv l.length cv, .bool d]) := Bk.new _ _ _
  have HB2 : Hid (Below w.heap.size w (w1.alloc (.cells #[.int .i64 ts, .slice pv l.length cv, .bool d] 40))) := HB1.out.trans (hb2.mono (by omega))
  clear hb2 HO1 HR1 HA1 HB1
  go_wp2_with fail
  refine (end_chunk HR2.out ts d pv l.length cv l (fun w' ht' => (HO2.out.tn ht' (by simp)).ins HZZ.out)).mono ?_
  rintro e w3 ⟨rfl, hr3, ht3⟩
  generalize (s.more.note (Rc.chE ts l)) = z at *
  have HO3 : Hid (OwnS w3 (w.heap.size + 2) (.slice pv l.length cv) l) := HO2.out.tn ht3 (by simp)
  have a3 := HA2.out.tn ht3 (by simp)
  have c3 := HC2.out.tn ht3 (by simp; omega)
  have HA3 : Hid (Bk w3 w.heap.size 40 #[.int .i64 0, .slice none 0 0, .bool false]) := a3
  have HB3 : Hid (Below w.heap.size w w3) := HB2.out.trans (ht3.below (by simp; omega) (by simp))
  have k0 : w3.cell? ⟨w.heap.size, 0, none⟩ = some (.int .i64 0) := a3.cell 0
  have k1 : w3.cell? ⟨w.heap.size, 1, none⟩ = some (.slice none 0 0) := a3.cell 1
  have f0 : w3.frozen? ⟨w.heap.size, 0, none⟩ = false := a3.frozen 0
  have k2 : w3.cell? ⟨w.heap.size, 2, none⟩ = some (.bool false) := a3.cell 2
  have f2 : w3.frozen? ⟨w.heap.size, 2, none⟩ = false := a3.frozen 2
  have m2 : w3.cell? ⟨w1.heap.size, 2, none⟩ = some (.bool d) := c3.cell 2
  have f1 : w3.frozen? ⟨w.heap.size, 1, none⟩ = false := a3.frozen 1
  have m0 : w3.cell? ⟨w1.heap.size, 0, none⟩ = some (.int .i64 ts) := c3.cell 0
  have m1 : w3.cell? ⟨w1.heap.size, 1, none⟩ = some (.slice pv l.length cv) := c3.cell 1
  clear hr3 ht3 a3 c3 HO2 HR2 HA2 HC2 HB2
  by_cases hz : z.e = 0
  · have hzb : (z.e != 0) = false := by simpa using hz
    have HT2 : Hid (Rc.takeCh xs = (ts, d, l, 0)) := by unfold Hid; rw [HT.out, if_pos hz]
    clear hz HT
    go_wp2
    try simp only [Exit.inBlock, Exit.then]
    have hk := ((HA3.out.set 0 (.int .i64 ts)).set 1 (.slice pv l.length cv)).set 2 (.bool d)
    refine bodyPost_ret (results_two (cs := [.int .i64 ts, .slice pv l.length cv, .bool d]) rfl rfl ch_agg ch_size rfl hk) rfl ?_
    rw [HT2.out]
    refine ⟨_, rfl, ?_, ((HB3.out.setCell (Nat.le_refl _) _).setCell (Nat.le_refl _) _).setCell (Nat.le_refl _) _⟩
    refine OwnS.mono (base := w.heap.size + 2) (HO3.out.keptN fun j hj => ?_) (by omega)
    have h5 := (HO3.out.lt j hj).1
    rw [Below.heap_setCell _ ⟨w.heap.size, 2, none⟩ _ j (by show j ≠ w.heap.size; omega), Below.heap_setCell _ ⟨w.heap.size, 1, none⟩ _ j (by show j ≠ w.heap.size; omega), Below.heap_setCell _ ⟨w.heap.size, 0, none⟩ _ j (by show j ≠ w.heap.size; omega)]
  · have hzb : (z.e != 0) = true := by simpa using hz
    have HT2 : Hid (Rc.takeCh xs = (0, false, [], z.e)) := by unfold Hid; rw [HT.out, if_neg hz]
    clear hz HT
    go_wp2
    try simp only [Exit.inBlock, Exit.then]
    have hk := ((HA3.out.set 0 (.int .i64 0)).set 1 (.slice none 0 0)).set 2 (.bool false)
    refine bodyPost_ret (results_two (cs := [.int .i64 0, .slice none 0 0, .bool false]) rfl rfl ch_agg ch_size rfl hk) rfl ?_
    rw [HT2.out]
    exact ⟨_, rfl, OwnS.nil _ _, ((HB3.out.setCell (Nat.le_refl _) _).setCell (Nat.le_refl _) _).setCell (Nat.le_refl _) _⟩

set_option maxHeartbeats 2000000 in
theorem takeMaster_any (p : Option Addr) (len cap : Nat) (xs : List Int) (w : World) (hin : InB 9223372036854775807 w p len cap xs) :
    Calls Try.prog 26 #[.slice p len cap] w fun x w' => x = .returned (.tuple #[.agg (Rc.takeMs xs).1.cells.toArray, .int .i64 (Rc.takeMs xs).2]) ∧ Below w.heap.size w w' := by
  have HI : Hid (InB 9223372036854775807 w p len cap xs) := hin
  have HLT : Hid (0 < xs.length → ∀ ad, p = some ad → ad.block < w.heap.size) := by
    intro hl ad had
    obtain ⟨b, o, hp, hc⟩ := hin.bys hl
    rw [hp] at had
    cases had
    exact World.block_lt_of_cell? w _ (hc 0 hl)
  clear hin
  have HR : Hid (Rd ((w.alloc (.cells #[.int .i64 0, .int .i64 0, .int .i64 0, .int .i64 0, .int .i64 0, .int .i64 0, .int .i64 0, .int .i64 0] 48)).alloc (.cells #[.slice p len cap, .int .i64 0] 74)) (w.heap.size + 1) (w.heap.size + 2) ⟨xs, 0⟩) := by
    have b2 := Bk.new (w.alloc (.cells #[.int .i64 0, .int .i64 0, .int .i64 0, .int .i64 0, .int .i64 0, .int .i64 0, .int .i64 0, .int .i64 0] 48)) 74 #[.slice p len cap, .int .i64 0]
    rw [show (w.alloc (.cells #[.int .i64 0, .int .i64 0, .int .i64 0, .int .i64 0, .int .i64 0, .int .i64 0, .int .i64 0, .int .i64 0] 48)).heap.size = w.heap.size + 1 by simp] at b2
    have hb : Below w.heap.size w ((w.alloc (.cells #[.int .i64 0, .int .i64 0, .int .i64 0, .int .i64 0, .int .i64 0, .int .i64 0, .int .i64 0, .int .i64 0] 48)).alloc (.cells #[.slice p len cap, .int .i64 0] 74)) := ((Below.refl _ _).alloc (Nat.le_refl _) _).alloc (by simp) _
    refine ⟨p, len, cap, b2, HI.out.below hb, fun hl ad had => ?_, by omega, by simp⟩
    have := HLT.out hl ad had
    omega
  have HA : Hid (Bk ((w.alloc (.cells #[.int .i64 0, .int .i64 0, .int .i64 0, .int .i64 0, .int .i64 0, .int .i64 0, .int .i64 0, .int .i64 0] 48)).alloc (.cells #[.slice p len cap, .int .i64 0] 74)) w.heap.size 48 #[.int .i64 0, .int .i64 0, .int .i64 0, .int .i64 0, .int .i64 0, .int .i64 0, .int .i64 0, .int .i64 0]) := (Bk.new _ _ _).alloc _
  have HB : Hid (Below w.heap.size w ((w.alloc (.cells #[.int .i64 0, .int .i64 0, .int .i64 0, .int .i64 0, .int .i64 0, .int .i64 0, .int .i64 0, .int .i64 0] 48)).alloc (.cells #[.slice p len cap, .int .i64 0] 74))) := ((Below.refl _ _).alloc (Nat.le_refl _) _).alloc (by simp) _
  have HT : Hid (Rc.takeMs xs = if ((Rs.mk xs 0).master.2.more.note (Rc.msE (Rs.mk xs 0).master.1)).e = 0 then ((Rs.mk xs 0).master.1, 0) else (⟨0, 0, 0, 0, 0, 0, 0, 0⟩, ((Rs.mk xs 0).master.2.more.note (Rc.msE (Rs.mk xs 0).master.1)).e)) := rfl
  go_enter Try.func26, Try.ntmps26
  go_wp2_with fail
  refine (master_rd HR.out).mono ?_
  rintro e w1 ⟨rfl, hr, ht⟩
  generalize (Rs.mk xs 0).master = C at *
  obtain ⟨m, s⟩ := C
  simp only at hr HT ⊢
  have hs1 : w.heap.size + 2 ≤ w1.heap.size := by have := ht.size; simpa using this
  have HR1 : Hid (Rd w1 (w.heap.size + 1) (w.heap.size + 2) s) := hr
  have HA1 : Hid (Bk w1 w.heap.size 48 #[.int .i64 0, .int .i64 0, .int .i64 0, .int .i64 0, .int .i64 0, .int .i64 0, .int .i64 0, .int .i64 0]) := HA.out.tn ht (by simp)
  have HB1 : Hid (Below w.heap.size w w1) := HB.out.trans (ht.below (by simp; omega) (by simp))
  clear hr ht HR HA HB
  have hb2 : Below w1.heap.size w1 (w1.alloc (.cells m.cells.toArray 48)) := (Below.refl _ _).alloc (Nat.le_refl _) _
  have HR2 : Hid (Rd (w1.alloc (.cells m.cells.toArray 48)) (w.heap.size + 1) (w.heap.size + 2) s) := HR1.out.below (hb2.mono hs1)
  have HA2 : Hid (Bk (w1.alloc (.cells m.cells.toArray 48)) w.heap.size 48 #[.int .i64 0, .int .i64 0, .int .i64 0, .int .i64 0, .int .i64 0, .int .i64 0, .int .i64 0, .int .i64 0]) := HA1.out.alloc _
  have HC2 : Hid (Bk (w1.alloc (.cells m.cells.toArray 48)) w1.heap.size 48 m.cells.toArray) := Bk.new _ _ _
  have HB2 : Hid (Below w.heap.size w (w1.alloc (.cells m.cells.toArray 48))) := HB1.out.trans (hb2.mono (by omega))
  clear hb2 HR1 HA1 HB1
  rw [show m.cells.toArray = #[.int .i64 m.seq, .int .i64 m.area, .int .i64 m.chunks, .int .i64 m.ts, .int .i64 m.sector, .int .i64 m.offset, .int .i64 m.number, .int .i64 m.run] from rfl] at HR2 HA2 HC2 HB2 ⊢
  go_wp2_with fail
  refine (end_master HR2.out m).mono ?_
  rintro e w3 ⟨rfl, hr3, ht3⟩
  generalize (s.more.note (Rc.msE m)) = z at *
  have a3 := HA2.out.tn ht3 (by simp)
  have c3 := HC2.out.tn ht3 (by simp; omega)
  have HA3 : Hid (Bk w3 w.heap.size 48 #[.int .i64 0, .int .i64 0, .int .i64 0, .int .i64 0, .int .i64 0, .int .i64 0, .int .i64 0, .int .i64 0]) := a3
  have HB3 : Hid (Below w.heap.size w w3) := HB2.out.trans (ht3.below (by simp; omega) (by simp))
  have k0 : w3.cell? ⟨w.heap.size, 0, none⟩ = some (.int .i64 0) := a3.cell 0
  have f0 : w3.frozen? ⟨w.heap.size, 0, none⟩ = false := a3.frozen 0
  have m0 : w3.cell? ⟨w1.heap.size, 0, none⟩ = some (.int .i64 m.seq) := c3.cell 0
  have k1 : w3.cell? ⟨w.heap.size, 1, none⟩ = some (.int .i64 0) := a3.cell 1
  have f1 : w3.frozen? ⟨w.heap.size, 1, none⟩ = false := a3.frozen 1
  have m1 : w3.cell? ⟨w1.heap.size, 1, none⟩ = some (.int .i64 m.area) := c3.cell 1
  have k2 : w3.cell? ⟨w.heap.size, 2, none⟩ = some (.int .i64 0) := a3.cell 2
  have f2 : w3.frozen? ⟨w.heap.size, 2, none⟩ = false := a3.frozen 2
  have m2 : w3.cell? ⟨w1.heap.size, 2, none⟩ = some (.int .i64 m.chunks) := c3.cell 2
  have k3 : w3.cell? ⟨w.heap.size, 3, none⟩ = some (.int .i64 0) := a3.cell 3
  have f3 : w3.frozen? ⟨w.heap.size, 3, none⟩ = false := a3.frozen 3
  have m3 : w3.cell? ⟨w1.heap.size, 3, none⟩ = some (.int .i64 m.ts) := c3.cell 3
  have k4 : w3.cell? ⟨w.heap.size, 4, none⟩ = some (.int .i64 0) := a3.cell 4
  have f4 : w3.frozen? ⟨w.heap.size, 4, none⟩ = false := a3.frozen 4
  have m4 : w3.cell? ⟨w1.heap.size, 4, none⟩ = some (.int .i64 m.sector) := c3.cell 4
  have k5 : w3.cell? ⟨w.heap.size, 5, none⟩ = some (.int .i64 0) := a3.cell 5
  have f5 : w3.frozen? ⟨w.heap.size, 5, none⟩ = false := a3.frozen 5
  have m5 : w3.cell? ⟨w1.heap.size, 5, none⟩ = some (.int .i64 m.offset) := c3.cell 5
  have k6 : w3.cell? ⟨w.heap.size, 6, none⟩ = some (.int .i64 0) := a3.cell 6
  have f6 : w3.frozen? ⟨w.heap.size, 6, none⟩ = false := a3.frozen 6
  have m6 : w3.cell? ⟨w1.heap.size, 6, none⟩ = some (.int .i64 m.number) := c3.cell 6
  have k7 : w3.cell? ⟨w.heap.size, 7, none⟩ = some (.int .i64 0) := a3.cell 7
  have f7 : w3.frozen? ⟨w.heap.size, 7, none⟩ = false := a3.frozen 7
  have m7 : w3.cell? ⟨w1.heap.size, 7, none⟩ = some (.int .i64 m.run) := c3.cell 7
  clear hr3 ht3 a3 c3 HR2 HA2 HC2 HB2
  by_cases hz : z.e = 0
  · have hzb : (z.e != 0) = false := by simpa using hz
    have HT2 : Hid (Rc.takeMs xs = (m, 0)) := by unfold Hid; rw [HT.out, if_pos hz]
    clear hz HT
    go_wp2
    try simp only [Exit.inBlock, Exit.then]
    have hk := ((((((((HA3.out.set 0 (.int .i64 m.seq)).set 1 (.int .i64 m.area)).set 2 (.int .i64 m.chunks)).set 3 (.int .i64 m.ts)).set 4 (.int .i64 m.sector)).set 5 (.int .i64 m.offset)).set 6 (.int .i64 m.number)).set 7 (.int .i64 m.run))
    refine bodyPost_ret (results_two (cs := m.cells) rfl rfl ms_agg ms_size rfl hk) rfl ?_
    rw [HT2.out]
    exact ⟨rfl, ((((((((HB3.out.setCell (Nat.le_refl _) _).setCell (Nat.le_refl _) _).setCell (Nat.le_refl _) _).setCell (Nat.le_refl _) _).setCell (Nat.le_refl _) _).setCell (Nat.le_refl _) _).setCell (Nat.le_refl _) _).setCell (Nat.le_refl _) _)⟩
  · have hzb : (z.e != 0) = true := by simpa using hz
    have HT2 : Hid (Rc.takeMs xs = (⟨0, 0, 0, 0, 0, 0, 0, 0⟩, z.e)) := by unfold Hid; rw [HT.out, if_neg hz]
    clear hz HT
    go_wp2
    try simp only [Exit.inBlock, Exit.then]
    have hk := ((((((((HA3.out.set 0 (.int .i64 0)).set 1 (.int .i64 0)).set 2 (.int .i64 0)).set 3 (.int .i64 0)).set 4 (.int .i64 0)).set 5 (.int .i64 0)).set 6 (.int .i64 0)).set 7 (.int .i64 0))
    refine bodyPost_ret (results_two (cs := [.int .i64 0, .int .i64 0, .int .i64 0, .int .i64 0, .int .i64 0, .int .i64 0, .int .i64 0, .int .i64 0]) rfl rfl ms_agg ms_size rfl hk) rfl ?_
    rw [HT2.out]
    exact ⟨rfl, ((((((((HB3.out.setCell (Nat.le_refl _) _).setCell (Nat.le_refl _) _).setCell (Nat.le_refl _) _).setCell (Nat.le_refl _) _).setCell (Nat.le_refl _) _).setCell (Nat.le_refl _) _).setCell (Nat.le_refl _) _).setCell (Nat.le_refl _) _)⟩

end Go.Proofs.Ytmjbfelfdhehbaa

namespace Go.Proofs.Ytmjbfelfdhehbaa
open Go.RowKit
set_option linter.unusedVariables false
set_option maxRecDepth 100000

namespace Rs
/-- Every byte is a byte. -/
def Byt (s : Rs) : Prop := ∀ y ∈ s.xs, 0 ≤ y ∧ y < 256

theorem num_one {s : Rs} (hb : s.Byt) (h : s.num.2.e = 0) : s.e = 0 ∧ s.xs = Cd.enc s.num.1 ++ s.num.2.xs := by
  unfold num at h ⊢
  split
  · rename_i h0
    rw [if_pos h0] at h
    refine ⟨h0, ?_⟩
    simp only at h ⊢
    rw [Cd.enc_dec s.xs hb h, List.take_append_drop]
  · rename_i h0
    rw [if_neg h0] at h
    exact absurd h h0

theorem text_one {s : Rs} (hb : s.Byt) (h : s.text.2.e = 0) : s.e = 0 ∧ s.xs = Rc.encT s.text.1 ++ s.text.2.xs := by
  unfold text at h ⊢
  split
  · rename_i h0
    rw [if_pos h0] at h
    refine ⟨h0, ?_⟩
    simp only at h ⊢
    rcases Cd.decT_facts s.xs hb with ⟨k, n, _, hd, _, hl, he, hn⟩ | ⟨_, _, hd⟩
    · rw [hd]
      simp only
      have hby : ∀ y ∈ (s.xs.drop k).take n, 0 ≤ y ∧ y < 256 := fun y hy => hb y (List.mem_of_mem_drop (List.mem_of_mem_take hy))
      have hsz : (strOfNums ((s.xs.drop k).take n)).size = n := by
        rw [← strB_length, strB_of _ hby, hn]
      rw [Rc.encT, hsz, strB_of _ hby, he, show ((k : Int) + (n : Int)).toNat = k + n by omega, ← List.drop_drop]
      rw [List.append_assoc, List.take_append_drop, List.take_append_drop]
    · omega
  · rename_i h0
    rw [if_neg h0] at h
    exact absurd h h0

theorem flag_one {s : Rs} (hb : s.Byt) (h : s.flag.2.e = 0) : s.e = 0 ∧ s.xs = Rc.encF s.flag.1 ++ s.flag.2.xs := by
  unfold flag at h ⊢
  split
  · rename_i h0
    rw [if_pos h0] at h
    refine ⟨h0, ?_⟩
    simp only at h ⊢
    unfold Cd.decF at h ⊢
    split
    · rename_i h1
      rw [if_pos h1] at h
      exact absurd h h1
    · rename_i h1
      rw [if_neg h1] at h
      have h1' : (Cd.dec s.xs).2.2 = 0 := by simpa using h1
      have he := Cd.enc_dec s.xs hb h1'
      split
      · rename_i h2
        rw [if_pos h2] at h
        simp at h
      · rename_i h2
        have h3 : (Cd.dec s.xs).1 = 0 ∨ (Cd.dec s.xs).1 = 1 := by omega
        rcases h3 with h3 | h3
        · rw [h3] at he ⊢
          have : Rc.encF (decide ((0 : Int) = 1)) = Cd.enc 0 := by decide
          rw [this, he, List.take_append_drop]
        · rw [h3] at he ⊢
          have : Rc.encF (decide ((1 : Int) = 1)) = Cd.enc 1 := by decide
          rw [this, he, List.take_append_drop]
  · rename_i h0
    rw [if_neg h0] at h
    exact absurd h h0

theorem note_one {s : Rs} {e : Int} (h : (s.note e).e = 0) : s.e = 0 ∧ e = 0 := by
  unfold note at h
  split at h
  · exact ⟨by assumption, h⟩
  · contradiction

theorem count_one {s : Rs} {m : Int} (hb : s.Byt) (h : (s.count m).2.e = 0) : s.e = 0 ∧ s.xs = Cd.enc (s.count m).1 ++ (s.count m).2.xs ∧ 0 ≤ (s.count m).1 := by
  unfold count at h ⊢
  split
  · rename_i h0
    rw [if_pos h0] at h
    have := num_one hb h
    exact ⟨this.1, this.2, (Rc.inn_iff.1 h0).1⟩
  · rename_i h0
    rw [if_neg h0] at h
    have := (note_one h).2
    omega

theorem write_one {s : Rs} (hb : s.Byt) (h : s.write.2.e = 0) : s.e = 0 ∧ s.xs = Rc.wrB s.write.1 ++ s.write.2.xs := by
  have h1 := note_one h
  have b1 : s.text.2.Byt := text_byte hb
  have b2 : s.text.2.flag.2.Byt := flag_byte b1
  have h2 := text_one b2 h1.1
  have h3 := flag_one b1 h2.1
  have h4 := text_one hb h3.1
  refine ⟨h4.1, ?_⟩
  have e : s.write.2.xs = s.text.2.flag.2.text.2.xs := note_xs _ _
  rw [e, h4.2, h3.2, h2.2]
  simp only [Rc.wrB, write, List.append_assoc]

theorem write_byte {s : Rs} (hb : s.Byt) : s.write.2.Byt := by
  unfold Byt
  have e : s.write.2.xs = s.text.2.flag.2.text.2.xs := note_xs _ _
  rw [e]
  exact text_byte (flag_byte (text_byte hb))

theorem stamped_one {s : Rs} (hb : s.Byt) (h : s.stamped.2.e = 0) : s.e = 0 ∧ s.xs = Rc.stB s.stamped.1 ++ s.stamped.2.xs := by
  have b1 : s.text.2.Byt := text_byte hb
  have b2 : s.text.2.text.2.Byt := text_byte b1
  have h2 := num_one b2 h
  have h3 := text_one b1 h2.1
  have h4 := text_one hb h3.1
  refine ⟨h4.1, ?_⟩
  rw [h4.2, h3.2, h2.2]
  simp only [Rc.stB, stamped, List.append_assoc]

theorem stamped_byte {s : Rs} (hb : s.Byt) : s.stamped.2.Byt := num_byte (text_byte (text_byte hb))

theorem writes_one : ∀ (n : Nat) {s : Rs}, s.Byt → (writes n s).2.e = 0 → s.e = 0 ∧ s.xs = Rc.wsB (writes n s).1 ++ (writes n s).2.xs ∧ (writes n s).1.length = n
  | 0, s, hb, h => ⟨h, by simp [writes, Rc.wsB], rfl⟩
  | n + 1, s, hb, h => by
    rw [writes] at h ⊢
    have h1 := writes_one n (write_byte hb) h
    have h2 := write_one hb h1.1
    refine ⟨h2.1, ?_, by simp [h1.2.2]⟩
    rw [h2.2, h1.2.1]
    simp [Rc.wsB]

theorem stampeds_one : ∀ (n : Nat) {s : Rs}, s.Byt → (stampeds n s).2.e = 0 → s.e = 0 ∧ s.xs = Rc.stsB (stampeds n s).1 ++ (stampeds n s).2.xs ∧ (stampeds n s).1.length = n
  | 0, s, hb, h => ⟨h, by simp [stampeds, Rc.stsB], rfl⟩
  | n + 1, s, hb, h => by
    rw [stampeds] at h ⊢
    have h1 := stampeds_one n (stamped_byte hb) h
    have h2 := stamped_one hb h1.1
    refine ⟨h2.1, ?_, by simp [h1.2.2]⟩
    rw [h2.2, h1.2.1]
    simp [Rc.stsB]

theorem more_one {s : Rs} (h : s.more.e = 0) : s.e = 0 ∧ s.xs = [] := by
  unfold more at h
  split at h
  · have := (note_one h).2
    omega
  · rename_i h0
    exact ⟨h, List.eq_nil_of_length_eq_zero (by omega)⟩

theorem commit_one {s : Rs} (hb : s.Byt) (h : s.commit.2.2.e = 0) : s.xs = Rc.comB s.commit.1 s.commit.2.1 ++ s.commit.2.2.xs := by
  have b1 : s.num.2.Byt := num_byte hb
  have b2 : (s.num.2.count 64).2.Byt := count_byte b1
  have h1 := writes_one _ b2 h
  have h2 := count_one b1 h1.1
  have h3 := num_one hb h2.1
  rw [h3.2, h2.2.1, h1.2.1]
  unfold Rc.comB commit
  simp only [List.append_assoc]
  rw [h1.2.2, Int.toNat_of_nonneg h2.2.2]

theorem chunk_one {s : Rs} (hb : s.Byt) (h : s.chunk.2.2.2.e = 0) : s.xs = Rc.chB s.chunk.1 s.chunk.2.1 s.chunk.2.2.1 ++ s.chunk.2.2.2.xs := by
  have b1 : s.num.2.Byt := num_byte hb
  have b2 : s.num.2.flag.2.Byt := flag_byte b1
  have b3 : (s.num.2.flag.2.count 16).2.Byt := count_byte b2
  have h1 := stampeds_one _ b3 h
  have h2 := count_one b2 h1.1
  have h3 := flag_one b1 h2.1
  have h4 := num_one hb h3.1
  rw [h4.2, h3.2, h2.2.1, h1.2.1]
  unfold Rc.chB chunk
  simp only [List.append_assoc]
  rw [h1.2.2, Int.toNat_of_nonneg h2.2.2]

theorem master_one {s : Rs} (hb : s.Byt) (h : s.master.2.e = 0) : s.xs = Rc.msB s.master.1 ++ s.master.2.xs := by
  have b1 : s.num.2.Byt := num_byte hb
  have b2 : s.num.2.num.2.Byt := num_byte b1
  have b3 : s.num.2.num.2.num.2.Byt := num_byte b2
  have b4 : s.num.2.num.2.num.2.num.2.Byt := num_byte b3
  have b5 : s.num.2.num.2.num.2.num.2.num.2.Byt := num_byte b4
  have b6 : s.num.2.num.2.num.2.num.2.num.2.num.2.Byt := num_byte b5
  have b7 : s.num.2.num.2.num.2.num.2.num.2.num.2.num.2.Byt := num_byte b6
  have h8 := num_one b7 h
  have h7 := num_one b6 h8.1
  have h6 := num_one b5 h7.1
  have h5 := num_one b4 h6.1
  have h4 := num_one b3 h5.1
  have h3 := num_one b2 h4.1
  have h2 := num_one b1 h3.1
  have h1 := num_one hb h2.1
  have e : s.master.2.xs = s.num.2.num.2.num.2.num.2.num.2.num.2.num.2.num.2.xs := rfl
  rw [e, h1.2, h2.2, h3.2, h4.2, h5.2, h6.2, h7.2, h8.2]
  simp only [Rc.msB, master, List.append_assoc]
end Rs

namespace Rc
theorem takeCom_one {xs : List Int} (hb : ∀ y ∈ xs, 0 ≤ y ∧ y < 256) (h : (takeCom xs).2.2 = 0) : comE (takeCom xs).1 (takeCom xs).2.1 = 0 ∧ comB (takeCom xs).1 (takeCom xs).2.1 = xs := by
  unfold takeCom at h ⊢
  simp only at h ⊢
  split
  · rename_i h0
    have h1 := Rs.note_one h0
    have h2 := Rs.more_one h1.1
    have h3 := Rs.commit_one (s := Rs.mk xs 0) hb h2.1
    rw [h2.2, List.append_nil] at h3
    exact ⟨h1.2, h3.symm⟩
  · rename_i h0
    rw [if_neg h0] at h
    exact absurd h h0

theorem takeCh_one {xs : List Int} (hb : ∀ y ∈ xs, 0 ≤ y ∧ y < 256) (h : (takeCh xs).2.2.2 = 0) : chE (takeCh xs).1 (takeCh xs).2.2.1 = 0 ∧ chB (takeCh xs).1 (takeCh xs).2.1 (takeCh xs).2.2.1 = xs := by
  unfold takeCh at h ⊢
  simp only at h ⊢
  split
  · rename_i h0
    have h1 := Rs.note_one h0
    have h2 := Rs.more_one h1.1
    have h3 := Rs.chunk_one (s := Rs.mk xs 0) hb h2.1
    rw [h2.2, List.append_nil] at h3
    exact ⟨h1.2, h3.symm⟩
  · rename_i h0
    rw [if_neg h0] at h
    exact absurd h h0

theorem takeMs_one {xs : List Int} (hb : ∀ y ∈ xs, 0 ≤ y ∧ y < 256) (h : (takeMs xs).2 = 0) : msE (takeMs xs).1 = 0 ∧ msB (takeMs xs).1 = xs := by
  unfold takeMs at h ⊢
  simp only at h ⊢
  split
  · rename_i h0
    have h1 := Rs.note_one h0
    have h2 := Rs.more_one h1.1
    have h3 := Rs.master_one (s := Rs.mk xs 0) hb h2.1
    rw [h2.2, List.append_nil] at h3
    exact ⟨h1.2, h3.symm⟩
  · rename_i h0
    rw [if_neg h0] at h
    exact absurd h h0

theorem encT_byte (s : ByteArray) (h : s.size ≤ 9223372036854775807) : ∀ y ∈ encT s, 0 ≤ y ∧ y < 256 := app_byte (enc_byte _ (by omega) (by omega)) (strB_byte s)
theorem encF_byte (b : Bool) : ∀ y ∈ encF b, 0 ≤ y ∧ y < 256 := by cases b <;> simp [encF]
theorem wrB_byte {x : Wr} (h1 : x.key.size ≤ 9223372036854775807) (h2 : x.val.size ≤ 9223372036854775807) : ∀ y ∈ wrB x, 0 ≤ y ∧ y < 256 := app_byte (app_byte (encT_byte _ h1) (encF_byte _)) (encT_byte _ h2)
theorem comB_byte {ts : Int} {l : List Wr} (h : comE ts l = 0) : ∀ y ∈ comB ts l, 0 ≤ y ∧ y < 256 := by
  obtain ⟨⟨t0, t1⟩, hl, _, hz, hw⟩ := comE_sizes h
  refine app_byte (app_byte (enc_byte _ (by omega) (by omega)) (enc_byte _ (by omega) (by omega))) ?_
  intro y hy
  simp only [wsB, List.mem_flatten, List.mem_map] at hy
  obtain ⟨z, ⟨g, hg, rfl⟩, hy⟩ := hy
  have := hz g hg
  exact wrB_byte (by omega) (by omega) y hy
theorem chB_byte {n : Int} {d : Bool} {l : List St} (h : chE n l = 0) (ht : ∀ g ∈ l, -9223372036854775808 ≤ g.ts ∧ g.ts ≤ 9223372036854775807) : ∀ y ∈ chB n d l, 0 ≤ y ∧ y < 256 := by
  obtain ⟨⟨t0, t1⟩, hl, hz, hw⟩ := chE_sizes h
  refine app_byte (app_byte (app_byte (enc_byte _ (by omega) (by omega)) (encF_byte _)) (enc_byte _ (by omega) (by omega))) ?_
  intro y hy
  simp only [stsB, List.mem_flatten, List.mem_map] at hy
  obtain ⟨z, ⟨g, hg, rfl⟩, hy⟩ := hy
  have h1 := hz g hg
  have h2 := ht g hg
  exact app_byte (app_byte (encT_byte _ (by omega)) (encT_byte _ (by omega))) (enc_byte _ h2.1 h2.2) y hy
theorem msB_byte {m : Ms} (h : msE m = 0) : ∀ y ∈ msB m, 0 ≤ y ∧ y < 256 := by
  obtain ⟨⟨a0, b0⟩, ⟨a1, b1⟩, ⟨a2, b2⟩, ⟨a3, b3⟩, ⟨a4, b4⟩, ⟨a5, b5⟩, ⟨a6, b6⟩, ⟨a7, b7⟩⟩ := msE_fits h
  exact app_byte (app_byte (app_byte (app_byte (app_byte (app_byte (app_byte (enc_byte _ a0 b0) (enc_byte _ a1 b1)) (enc_byte _ a2 b2)) (enc_byte _ a3 b3)) (enc_byte _ a4 b4)) (enc_byte _ a5 b5)) (enc_byte _ a6 b6)) (enc_byte _ a7 b7)
end Rc

end Go.Proofs.Ytmjbfelfdhehbaa

namespace Go.Proofs.Ytmjbfelfdhehbaa
open Go.RowKit
set_option linter.unusedVariables false
set_option maxRecDepth 100000

/-- '[]byte(s)'. -/
theorem conv_bytes (w : World) (s : ByteArray) : ∃ c w', (convert 9 26 (.string s)).run Try.prog w = .ok (.slice (some ⟨w.heap.size, 0, none⟩) s.size c) w' ∧ s.size ≤ c ∧ Bys w' (some ⟨w.heap.size, 0, none⟩) (strB s) ∧ Below w.heap.size w w' := by
  refine ⟨_, _, run_bytes_of_string w 9 26 5 s Try.underlying9 Try.underlying26 Try.underlying5, grownCap_ge _ _ _ _, ?_, ((Below.refl _ _).drew).alloc (Nat.le_refl _) _⟩
  intro _
  refine ⟨w.heap.size, 0, rfl, fun i hi => ?_⟩
  rw [strB_length] at hi
  have hi' : i < s.data.size := hi
  rw [Nat.zero_add, cell_of_row _ w.heap.size i _ 5 _ (heap_alloc_new w.drew _), bytesRow_at s _ i hi']
  have : (strB s).getD i 0 = (s.data[i].toNat : Int) := by
    unfold strB
    simp only [List.getD, List.getElem?_map, Array.getElem?_toList]
    rw [Array.getElem?_eq_getElem hi']
    rfl
  rw [this]

end Go.Proofs.Ytmjbfelfdhehbaa

namespace Go.Proofs.Ytmjbfelfdhehbaa
open Go.RowKit
set_option linter.unusedVariables false
set_option maxRecDepth 100000

/-- Bytes of the call's own since w0. -/
def Gt (w0 w : World) (v : Value) (xs : List Int) : Prop := Own w w0.heap.size v xs.length xs ∧ Below w0.heap.size w0 w

theorem Gt.nil (w : World) : Gt w w (.slice none 0 0) [] := ⟨World.ownsRow_nil _ _ _ _, Below.refl _ _⟩

theorem Gt.up {w0 w w' : World} {v : Value} {xs : List Int} (h : Gt w0 w v xs) (hb : Below w.heap.size w w') : Gt w0 w' v xs := ⟨h.1.below hb (Nat.le_refl _), h.2.trans (hb.mono h.2.size)⟩

set_option maxHeartbeats 1000000 in
theorem rnum_any {w0 w : World} {v : Value} {xs : List Int} (h : Gt w0 w v xs) (n : Int) (h0 : -9223372036854775808 ≤ n) (h1 : n ≤ 9223372036854775807) (hl : xs.length ≤ 1099511627776) :
    Calls Try.prog 39 #[v, .int .i64 n] w fun e w' => ∃ v', e = .returned v' ∧ Gt w0 w' v' (xs ++ Cd.enc n) := by
  have HG : Hid (Gt w0 w v xs) := h
  have hw := Cd.width_pos n
  clear h
  go_enter Try.func39, Try.ntmps39
  go_wp2_with fail
  refine (refInt_any n _ h0 h1).mono ?_
  rintro e w1 ⟨v1, rfl, ho1, hb1⟩
  obtain ⟨q, c, hv, -, hq, hby⟩ := ho1.bys
  subst hv
  have H1 : Hid (Gt w0 w1 v xs) := HG.out.up hb1
  have HQ : Hid (q = none → Cd.width n = 0 ∧ c = 0) := hq
  have HY : Hid (Bys w1 q (Cd.enc n)) := hby
  have HS : Hid (w0.heap.size ≤ w1.heap.size) := H1.out.2.size
  clear ho1 hb1 hq hby HG
  go_wp2_with (at_builtin; refine app8 w1 rfl _ _ rfl w0.heap.size v xs.length xs rfl H1.out.1 q (Cd.width n) c (Cd.enc n) rfl HY.out (Cd.enc_length n) HQ.out (by omega) HS.out ?_; intro v2 w2 ho2 hb2; refine Hid.out ?_)
  have HG2 : Hid (Gt w0 w2 v2 (xs ++ Cd.enc n)) := by
    refine ⟨?_, H1.out.2.trans hb2⟩
    rw [List.length_append, Cd.enc_length]
    exact ho2
  clear ho2 hb2
  unfold Hid
  go_wp2
  go_ret
  exact ⟨_, rfl, HG2.out⟩

set_option maxHeartbeats 1000000 in
theorem rflag_any {w0 w : World} {v : Value} {xs : List Int} (h : Gt w0 w v xs) (b : Bool) (hl : xs.length ≤ 1099511627776) :
    Calls Try.prog 55 #[v, .bool b] w fun e w' => ∃ v', e = .returned v' ∧ Gt w0 w' v' (xs ++ Rc.encF b) := by
  have HG : Hid (Gt w0 w v xs) := h
  have e0 : Rc.encF false = Cd.enc 0 := by decide
  have e1 : Rc.encF true = Cd.enc 1 := by decide
  have HE0 : Hid _ := e0
  have HE1 : Hid _ := e1
  clear h e0 e1
  cases b
  · go_enter Try.func55, Try.ntmps55
    go_wp2_with fail
    refine (rnum_any HG.out 0 (by omega) (by omega) hl).mono ?_
    rintro e w1 ⟨v1, rfl, h1⟩
    have H1 : Hid (Gt w0 w1 v1 (xs ++ Rc.encF false)) := by rw [HE0.out]; exact h1
    clear h1
    go_wp2
    go_ret
    exact ⟨_, rfl, H1.out⟩
  · go_enter Try.func55, Try.ntmps55
    go_wp2_with fail
    refine (rnum_any HG.out 1 (by omega) (by omega) hl).mono ?_
    rintro e w1 ⟨v1, rfl, h1⟩
    have H1 : Hid (Gt w0 w1 v1 (xs ++ Rc.encF true)) := by rw [HE1.out]; exact h1
    clear h1
    go_wp2
    go_ret
    exact ⟨_, rfl, H1.out⟩

set_option maxHeartbeats 1000000 in
theorem rtext_any {w0 w : World} {v : Value} {xs : List Int} (h : Gt w0 w v xs) (s : ByteArray) (hs : s.size ≤ 1099511627776) (hl : xs.length ≤ 1099511627776) :
    Calls Try.prog 54 #[v, .string s] w fun e w' => ∃ v', e = .returned v' ∧ Gt w0 w' v' (xs ++ Rc.encT s) := by
  have HG : Hid (Gt w0 w v xs) := h
  have hw := Cd.width_pos s.size
  obtain ⟨c0, w1, hr, hc0, hby1, hb1⟩ := conv_bytes w s
  have H1 : Hid (Gt w0 w1 v xs) := h.up hb1
  have HY1 : Hid (Bys w1 (some ⟨w.heap.size, 0, none⟩) (strB s)) := hby1
  have HSL : Hid ((strB s).length = s.size) := strB_length s
  clear h HG hby1 hb1
  go_enter Try.func54, Try.ntmps54
  go_wp2_with fail
  refine (refBytes_any (some ⟨w.heap.size, 0, none⟩) c0 s.size (strB s) _ HSL.out HY1.out (by omega) (fun h => by cases h)).mono ?_
  rintro e w2 ⟨v2, rfl, ho2, hb2⟩
  obtain ⟨q, c, hv, -, hq, hby⟩ := ho2.bys
  subst hv
  have H2 : Hid (Gt w0 w2 v xs) := H1.out.up hb2
  have HQ : Hid (q = none → Cd.width s.size + s.size = 0 ∧ c = 0) := hq
  have HY : Hid (Bys w2 q (Cd.enc s.size ++ strB s)) := hby
  have HS : Hid (w0.heap.size ≤ w2.heap.size) := H2.out.2.size
  have HL2 : Hid ((Cd.enc s.size ++ strB s).length = Cd.width s.size + s.size) := by simp [Hid, Cd.enc_length, strB_length]
  clear ho2 hb2 hq hby H1 HY1 hr
  go_wp2_with (at_builtin; refine app8 w2 rfl _ _ rfl w0.heap.size v xs.length xs rfl H2.out.1 q (Cd.width s.size + s.size) c (Cd.enc s.size ++ strB s) rfl HY.out HL2.out HQ.out (by omega) HS.out ?_; intro v3 w3 ho3 hb3; refine Hid.out ?_)
  have HG3 : Hid (Gt w0 w3 v3 (xs ++ Rc.encT s)) := by
    refine ⟨?_, H2.out.2.trans hb3⟩
    rw [List.length_append, Rc.encT_length]
    exact ho3
  clear ho3 hb3
  unfold Hid
  go_wp2
  go_ret
  exact ⟨_, rfl, HG3.out⟩

set_option maxHeartbeats 2000000 in
theorem writeForm_any (x : Wr) (w : World) (h1 : x.key.size ≤ 1099511627776) (h2 : x.val.size ≤ 274877906944) (h3 : x.key.size ≤ 274877906944) :
    Calls Try.prog 30 #[.agg x.cells.toArray] w fun e w' => ∃ v, e = .returned v ∧ Gt w w' v (Rc.wrB x) := by
  obtain ⟨k, v, d⟩ := x
  unfold Wr.cells
  simp only at h1 h2 h3
  have HK : Hid (Bk (w.alloc (.cells #[.string k, .string v, .bool d] 42)).drew w.heap.size 42 #[.string k, .string v, .bool d]) := Bk.new _ _ _
  have HG0 : Hid (Gt (w.alloc (.cells #[.string k, .string v, .bool d] 42)).drew (w.alloc (.cells #[.string k, .string v, .bool d] 42)).drew (.slice none 0 0) []) := Gt.nil _
  have HB0 : Hid (Below w.heap.size w (w.alloc (.cells #[.string k, .string v, .bool d] 42)).drew) := ((Below.refl _ _).alloc (Nat.le_refl _) _).drew
  have hek := Rc.encT_le k
  have HCC : Hid (∀ w', Below (w.alloc (.cells #[.string k, .string v, .bool d] 42)).drew.heap.size (w.alloc (.cells #[.string k, .string v, .bool d] 42)).drew w' → w'.cell? ⟨w.heap.size, 0, none⟩ = some (.string k) ∧ w'.cell? ⟨w.heap.size, 1, none⟩ = some (.string v) ∧ w'.cell? ⟨w.heap.size, 2, none⟩ = some (.bool d)) := by
    intro w' hb
    have := HK.out.below hb HK.out.lt
    exact ⟨this.cell 0, this.cell 1, this.cell 2⟩
  go_enter Try.func30, Try.ntmps30
  go_wp2_with fail
  go_region_held3 (fun w' => w'.cell? ⟨w.heap.size, 0, none⟩ = some (.string k) ∧ w'.cell? ⟨w.heap.size, 1, none⟩ = some (.string v) ∧ w'.cell? ⟨w.heap.size, 2, none⟩ = some (.bool d)) (go_keep) (first
    | (go_at_call_of 54 (Value.slice none 0 0); refine (rtext_any HG0.out k h1 (by simp)).mono ?_; rintro e w2 ⟨v2, rfl, hG2⟩; have hk2 := HCC.out w2 hG2.2)
    | (go_at_call 55; refine (rflag_any hG2 d (by simp; omega)).mono ?_; rintro e w3 ⟨v3, rfl, hG3⟩; have hk3 := HCC.out w3 hG3.2)
    | (go_at_call 54; refine (rtext_any hG3 v (by omega) (by simp [Rc.encF]; omega)).mono ?_; rintro e w4 ⟨v4, rfl, hG4⟩; have hk4 := HCC.out w4 hG4.2))
  have HG4 : Hid (Gt w w4 v4 (Rc.wrB ⟨k, v, d⟩)) := by
    have e4 : Rc.wrB ⟨k, v, d⟩ = [] ++ Rc.encT k ++ Rc.encF d ++ Rc.encT v := rfl
    rw [e4]
    exact ⟨hG4.1.mono HB0.out.size, HB0.out.trans (hG4.2.mono HB0.out.size)⟩
  clear hG2 hG3 hG4 hk2 hk3 hk4 HCC HG0 HK HB0
  go_wp2
  go_ret
  exact ⟨_, rfl, HG4.out⟩

end Go.Proofs.Ytmjbfelfdhehbaa

namespace Go.Proofs.Ytmjbfelfdhehbaa
open Go.RowKit
set_option linter.unusedVariables false
set_option maxRecDepth 100000

set_option maxHeartbeats 4000000 in
theorem rcommit_any (ts : Int) (p : Option Addr) (len cap : Nat) (l : List Wr) (w : World) (hin : InW w p len cap l) :
    Calls Try.prog 17 #[.agg #[.int .i64 ts, .slice p len cap]] w fun e w' => ∃ v, e = .returned (.tuple #[v, .int .i64 (Rc.comE ts l)]) ∧ Came w w' v (Rc.comE ts l) (Rc.comB ts l) := by
  have hb0 : Below w.heap.size w (w.alloc (.cells #[.int .i64 ts, .slice p len cap] 24)) := (Below.refl _ _).alloc (Nat.le_refl _) _
  have HK0 : Hid (Bk (w.alloc (.cells #[.int .i64 ts, .slice p len cap] 24)) w.heap.size 24 #[.int .i64 ts, .slice p len cap]) := Bk.new _ _ _
  have HB0 : Hid (Below w.heap.size w (w.alloc (.cells #[.int .i64 ts, .slice p len cap] 24))) := hb0
  have HI0 : Hid (InW (w.alloc (.cells #[.int .i64 ts, .slice p len cap] 24)) p len cap l) := hin.up hb0
  have hll := hin.lenq
  clear hin hb0
  go_enter Try.func17, Try.ntmps17
  go_wp2_with fail
  refine (rcheckCommit_any ts p len cap l _ HI0.out).mono ?_
  rintro e w1 ⟨rfl, hb1⟩
  have HK1 : Hid (Bk w1 w.heap.size 24 #[.int .i64 ts, .slice p len cap]) := HK0.out.below hb1 HK0.out.lt
  have HB1 : Hid (Below w.heap.size w w1) := HB0.out.trans (hb1.mono HB0.out.size)
  have HI1 : Hid (∀ w', Below w1.heap.size w1 w' → InW w' p len cap l) := fun w' hb => (HI0.out.up hb1).up hb
  have HKK : Hid (∀ w', Below w1.heap.size w1 w' → Bk w' w.heap.size 24 #[.int .i64 ts, .slice p len cap]) := fun w' hb => HK1.out.below hb HK1.out.lt
  clear hb1 HK0 HB0 HI0
  by_cases he : Rc.comE ts l = 0
  · have heb : (Rc.comE ts l != 0) = false := by simpa using he
    obtain ⟨⟨t0, t1⟩, hl64, -, hsz, -⟩ := Rc.comE_sizes he
    have HE : Hid (Rc.comE ts l = 0) := he
    have HZ : Hid (∀ g ∈ l, g.key.size ≤ 64 ∧ g.val.size ≤ 256) := hsz
    have HL : Hid (l.length = len) := hll
    have hlen : len ≤ 64 := by omega
    have ca0 : w1.cell? ⟨w.heap.size, 0, none⟩ = some (.int .i64 ts) := HK1.out.cell 0
    have ca1 : w1.cell? ⟨w.heap.size, 1, none⟩ = some (.slice p len cap) := HK1.out.cell 1
    have he1 := Rc.enc_le ts
    have he2 := Rc.enc_le len
    clear he hsz hll hl64
    go_wp2_with fail
    have hG0 : Gt w1 w1.drew (.slice none 0 0) [] := (Gt.nil w1).up ((Below.refl _ _).drew)
    have HG0 : Hid (Gt w1 w1.drew (.slice none 0 0) []) := hG0
    have HCC : Hid (∀ w', Below w1.heap.size w1 w' → w'.cell? ⟨w.heap.size, 0, none⟩ = some (.int .i64 ts) ∧ w'.cell? ⟨w.heap.size, 1, none⟩ = some (.slice p len cap)) := fun w' hb => ⟨(HKK.out w' hb).cell 0, (HKK.out w' hb).cell 1⟩
    clear hG0
    go_region_held3 (fun w' => w'.cell? ⟨w.heap.size, 0, none⟩ = some (.int .i64 ts) ∧ w'.cell? ⟨w.heap.size, 1, none⟩ = some (.slice p len cap)) (go_keep) (first
      | (go_at_call_of 39 (Value.slice none 0 0); refine (rnum_any HG0.out ts (by omega) (by omega) (by simp)).mono ?_; rintro e w2 ⟨v2, rfl, hG2⟩; have hk2 := HCC.out w2 hG2.2)
      | (go_at_call 39; refine (rnum_any hG2 len (by omega) (by omega) (by simp; omega)).mono ?_; rintro e w3 ⟨v3, rfl, hG3⟩; have hk3 := HCC.out w3 hG3.2))
    have HG3 : Hid (Gt w1 w3 v3 (Cd.enc ts ++ Cd.enc l.length ++ Rc.wsB (l.take 0))) := by
      rw [HL.out]
      simpa [Hid, Rc.wsB] using hG3
    clear hG2 hG3 hk2 hk3 HG0 ca0 ca1
    go_wp2_with fail
    go_loopw [5, 6] (fun b i wr => ∃ (k : Nat), k ≤ len ∧ i = .int .i64 k ∧ Hid (Gt w1 wr b (Cd.enc ts ++ Cd.enc l.length ++ Rc.wsB (l.take k))) ∧ Hid ((Rc.wsB (l.take k)).length ≤ 339 * k)) (fun _ i _ => len - (intOf i).toNat)
    case atStart => exact ⟨0, Nat.zero_le _, rfl, HG3, by simp [Hid, Rc.wsB]⟩
    case round =>
      obtain ⟨k, hk, rfl, HG, HQ⟩ := hrel
      clear HG3
      obtain ⟨-, d1⟩ := HCC.out wr HG.out.2
      by_cases hlt : k < len
      · have hli : (k : Int) < (len : Int) := by omega
        obtain ⟨b, o, g, rfl, hg, hblt, c0, c1, c2⟩ := (HI1.out wr HG.out.2).at hlt
        have hgz := HZ.out g (List.mem_of_getElem? hg)
        have HS : Hid (Rc.wsB (l.take (k + 1)) = Rc.wsB (l.take k) ++ Rc.wrB g) := Rc.wsB_snoc hg
        obtain ⟨X, hX⟩ : ∃ X, Cd.enc ts ++ Cd.enc (l.length : Int) ++ Rc.wsB (l.take k) = X := ⟨_, rfl⟩
        have HX : Hid (Cd.enc ts ++ Cd.enc (l.length : Int) ++ Rc.wsB (l.take k) = X) := hX
        rw [hX] at HG
        have hln : X.length ≤ 1000000 := by
          have := HQ.out
          rw [← hX]
          simp only [List.length_append]
          rw [HL.out]
          omega
        have hwl := Rc.wrB_le hgz.1 hgz.2
        clear hg hX
        go_wp2_with fail
        refine (writeForm_any g _ (by omega) (by omega) (by omega)).mono ?_
        rintro e w5 ⟨v5, rfl, h5⟩
        obtain ⟨q5, c5, hv5, -, hq5, hby5⟩ := h5.1.bys
        subst hv5
        have HG5 : Hid (Gt w1 w5 u5 X) := HG.out.up h5.2
        have HY5 : Hid (Bys w5 q5 (Rc.wrB g)) := hby5
        have HN5 : Hid (q5 = none → (Rc.wrB g).length = 0 ∧ c5 = 0) := hq5
        have HS5 : Hid (w1.heap.size ≤ w5.heap.size) := HG5.out.2.size
        clear h5 hq5 hby5 HG c0 c1 c2 d1
        go_wp2_with (at_builtin; refine app8 w5 rfl _ _ rfl w1.heap.size u5 X.length X rfl HG5.out.1 q5 (Rc.wrB g).length c5 (Rc.wrB g) rfl HY5.out rfl HN5.out (by omega) HS5.out ?_; intro v6 w6 ho6 hb6; refine Hid.out ?_)
        have HG6 : Hid (Gt w1 w6 v6 (Cd.enc ts ++ Cd.enc l.length ++ Rc.wsB (l.take (k + 1)))) := by
          rw [HS.out, ← List.append_assoc, HX.out]
          refine ⟨?_, HG5.out.2.trans hb6⟩
          rw [List.length_append]
          exact ho6
        have HQ6 : Hid ((Rc.wsB (l.take (k + 1))).length ≤ 339 * (k + 1)) := by
          have := HQ.out
          unfold Hid
          rw [HS.out, List.length_append]
          omega
        clear ho6 hb6 HG5 HY5 HN5
        unfold Hid
        go_wp2
        go_roundw
        case rel => exact ⟨k + 1, by omega, by go_num, HG6, HQ6⟩
        case measure => simp [intOf]; omega
      · have hli : ¬ ((k : Int) < (len : Int)) := by omega
        have hG := HG.out
        rw [List.take_of_length_le (by have := HL.out; omega)] at hG
        have HC : Hid (Came w wr u5 (Rc.comE ts l) (Rc.comB ts l)) := ⟨HB1.out.trans (hG.2.mono HB1.out.size), fun _ => hG.1.mono HB1.out.size, fun h => absurd HE.out h⟩
        clear hG
        go_wp2
        go_ret2
        exact ⟨_, by rw [HE.out]; rfl, HC.out⟩
  · have heb : (Rc.comE ts l != 0) = true := by simpa using he
    have HC : Hid (Came w w1 (.slice none 0 0) (Rc.comE ts l) (Rc.comB ts l)) := ⟨HB1.out, fun h => absurd h he, fun _ => rfl⟩
    clear he
    go_wp2
    go_ret2
    exact ⟨_, rfl, HC.out⟩

end Go.Proofs.Ytmjbfelfdhehbaa

namespace Go.Proofs.Ytmjbfelfdhehbaa
open Go.ChangeShapes Go.WideShapes Go.ChangeAt Go.RowKit
set_option linter.unusedVariables false
set_option maxRecDepth 100000

theorem flat_len (l : List Wr) : (l.map Wr.cells).flatten.length = l.length * 3 := by
  induction l with
  | nil => rfl
  | cons x r ih =>
    simp only [List.map_cons, List.flatten_cons, List.length_append, List.length_cons, ih]
    simp [Wr.cells]
    omega

theorem InW.news {w : World} {p : Option Addr} {n c : Nat} {l : List Wr} (h : InW w p n c l) : ∀ ad, p = some ad → ∀ j u, (l.map Wr.cells).flatten[j]? = some u → w.cell? (ad.add j) = some u := by
  intro ad had j u hu
  have hj : j < l.length * 3 := by
    have := (List.getElem?_eq_some_iff.1 hu).1
    rw [flat_len] at this
    exact this
  have hn := h.lenq
  obtain ⟨b, o, hp, hc⟩ := h.cel (by omega)
  rw [hp] at had
  obtain rfl := Option.some.inj had
  have hi : j / 3 < l.length := by omega
  have hg := List.getElem?_eq_getElem hi
  have hr : j % 3 < 3 := Nat.mod_lt _ (by decide)
  have hf := flat3 (l.map Wr.cells) (j / 3) (j % 3) (l[j / 3]).cells (by intro y hy; obtain ⟨z, _, rfl⟩ := List.mem_map.1 hy; rfl) (by rw [List.getElem?_map, hg]; rfl) hr
  rw [show j / 3 * 3 + j % 3 = j by omega] at hf
  rw [hf] at hu
  have := hc (j / 3) _ hg (j % 3) u hu
  rw [Addr.add_lit]
  rw [show o + j / 3 * 3 + j % 3 = o + j by omega] at this
  exact this

/-- 'append(v, x...)', v an empty row of the call's own, x writes that came in. -/
theorem appWr {ops : Array Oper} {rest : List Oper} {o : Oper} {a : Act} {Q : Exit → Act → World → Prop} (w : World) (hw : Region.wanted o (yielded ops a.tmps) = true) (s x : Operand)
    (ho : o.op = .call { callee := .builtin .append, args := #[s, x], argTypes := #[22, 22] })
    (base : Nat) (v : Value) (hs : a.eval s = v) (hown : OwnW w base v [])
    (q : Option Addr) (m c : Nat) (l : List Wr) (hx : a.eval x = .slice q m c) (hy : InW w q m c l)
    (hb : m * 40 ≤ 140737488355328) (hbase : base ≤ w.heap.size)
    (h : ∀ v' w', OwnW w' base v' l → Below base w w' → wpList Try.prog ops Q rest (a.put o.dst v') w') : wpList Try.prog ops Q (o :: rest) a w := by
  obtain ⟨i0, hi, hz0, hz1, hz2⟩ := info_parts wrinfo
  have hm := hy.lenq
  cases q with
  | some ad =>
    refine BigFrame.wpList_want hw fun _ hK => wp_append_own w s x _ ho base 42 i0 _ 3 40 Try.underlying22 hi hz0 hz1 hz2 rfl (by decide) v 0 [] hs hown ad m c ((l.map Wr.cells).flatten) hx (by rw [flat_len, hm]) (hy.news ad rfl) ?_ (by unfold maxLen; omega) (by omega) hbase fun v' w' h2 h3 _ => hK _ _ (h v' w' ?_ ?_)
    · intro u hu
      obtain ⟨y, hy1, hy2⟩ := List.mem_flatten.1 hu
      obtain ⟨z, _, rfl⟩ := List.mem_map.1 hy1
      exact wr_one z u hy2
    · unfold OwnW
      rw [hm]
      simpa using h2
    · exact (Below.refl _ _).grown h3 hbase (fun k hk => (hown.lt k hk).1)
  | none =>
    obtain ⟨rfl, rfl⟩ := hy.nil rfl
    obtain rfl : l = [] := List.eq_nil_of_length_eq_zero hm
    refine BigFrame.wpList_want hw fun K hK => ?_
    have hrun := run_append_owned_none (P := Try.prog) (w := w) base 22 o.type 42 i0 3 Try.underlying22 hi v 0 [] hown
    unfold Oper.wp
    simp [execOp, ho, resolve, invoke, builtin, hs, hx, hrun, Result.andThen]
    exact hK _ _ (h v w hown (Below.refl _ _))

/-- An empty row that was laid. -/
theorem OwnW.laid (w : World) (base : Nat) (hb : base ≤ w.heap.size) : OwnW (w.alloc (.cells #[] 42)) base (.slice (some ⟨w.heap.size, 0, none⟩) 0 0) [] := by
  refine ⟨rfl, .inr ⟨w.heap.size, 0, #[], rfl, hb, ?_, Nat.le_refl _, by unfold maxLen; omega, rfl, rfl⟩⟩
  exact Bk.new _ _ _

theorem Came.own {w w' : World} {v : Value} {e : Int} {xs : List Int} (h : Came w w' v e xs) : ∃ p n c zs, v = .slice p n c ∧ Own w' w.heap.size (.slice p n c) n zs := by
  by_cases he : e = 0
  · have ho := h.2.1 he
    obtain ⟨p, c, hv, -, -, -⟩ := ho.bys
    subst hv
    exact ⟨p, _, c, xs, rfl, ho⟩
  · exact ⟨none, 0, 0, [], h.2.2 he, World.ownsRow_nil _ _ _ _⟩

theorem Rc.comB_le {ts : Int} {l : List Wr} (h : Rc.comE ts l = 0) : (Rc.comB ts l).length ≤ 1000000 := by
  obtain ⟨-, hl, _, hz, -⟩ := Rc.comE_sizes h
  have a := Cd.width_pos ts
  have b := Cd.width_pos l.length
  have e1 := Cd.enc_length ts
  have e2 := Cd.enc_length l.length
  have hw : ∀ l : List Wr, (∀ g ∈ l, g.key.size ≤ 64 ∧ g.val.size ≤ 256) → (Rc.wsB l).length ≤ 339 * l.length := by
    intro l
    induction l with
    | nil => simp [Rc.wsB]
    | cons x r ih =>
      intro h
      have h1 := h x (by simp)
      have h2 := Rc.wrB_le h1.1 h1.2
      have h3 := ih (fun g hg => h g (by simp [hg]))
      have e : Rc.wsB (x :: r) = Rc.wrB x ++ Rc.wsB r := by simp [Rc.wsB]
      rw [e, List.length_append, List.length_cons]
      omega
  have h5 := hw l hz
  simp only [Rc.comB, List.length_append]
  omega

theorem came_in {w w' : World} {v : Value} {ts : Int} {l : List Wr} (h : Came w w' v (Rc.comE ts l) (Rc.comB ts l)) : ∃ p n c ys, v = .slice p n c ∧ InB 9223372036854775807 w' p n c ys ∧ ys.length ≤ 140737488355328 := by
  by_cases he : Rc.comE ts l = 0
  · have ho := h.2.1 he
    obtain ⟨p, c, hv, -, -, -⟩ := ho.bys
    subst hv
    exact ⟨p, _, c, _, rfl, ho.inb (Rc.comB_byte he), by have := Rc.comB_le he; omega⟩
  · exact ⟨none, 0, 0, [], h.2.2 he, ⟨rfl, fun h => by simp at h, Nat.le_refl _, by omega, fun _ => ⟨rfl, rfl⟩, by simp⟩, by simp⟩

/-- A row that is stored into. -/
theorem row_set {w w1 : World} {B base n c g : Nat} {T : TypeId} {zs : List Value} (h : w.ownsRow base T 3 (.slice (some ⟨g, 0, none⟩) n c) n zs) (hb : Below B w1 w) (hB : B ≤ base) (hs : B ≤ w.heap.size) (j : Nat) (u : Value) :
    (w.setCell ⟨g, j, none⟩ u).ownsRow base T 3 (.slice (some ⟨g, 0, none⟩) n c) n (zs.set j u) ∧ Below B w1 (w.setCell ⟨g, j, none⟩ u) := by
  have := World.ownsRow.stored h j u
  exact ⟨this.1, hb.grown this.2 hs (fun k hk => by cases hk; exact Nat.le_trans hB (World.ownsRow.lt h g rfl).1)⟩

theorem in_commitW {H : Type} {enc : TypeId × Value → H} {W : World} {fuel : Nat} {cs : List Value} {x : DataW H × List MemPlace} (hf : DataW.trod enc Try.prog W 0 (fun _ => true) true fuel 24 cs = some x) (hB : ∀ n ∈ x.1.weights Try.prog 24, n ≤ 140737488351232) : ∃ ts a len cap l, cs = [.int .i64 ts, .slice a len cap] ∧ (-9223372036854775808 ≤ ts ∧ ts ≤ 9223372036854775807) ∧ InW W a len cap l ∧ len * 40 ≤ 140737488351232 := by
  have hf0 := hf
  obtain ⟨ts, a, len, cap, l, rfl, hts, hin⟩ := in_commit hf
  refine ⟨ts, a, len, cap, l, rfl, hts, hin, ?_⟩
  obtain ⟨ys, n, -, rfl, hlen, hys, hall⟩ := DataW.trod_struct Try.underlying24 hf0
  obtain ⟨y0, y1, rfl⟩ := list2 (l := ys) hys
  have h1 : DataW.trod enc Try.prog W 0 (fun _ => true) true n 22 [.slice a len cap] = some y1 := by
    have h : DataW.trod enc Try.prog W 0 (fun _ => true) true n 22 (List.take (Try.prog.cellsOf 22) (List.drop 1 [.int .i64 ts, .slice a len cap])) = some y1 := hall 1 _ rfl
    rw [show Try.prog.cellsOf 22 = 1 by kernel_rfl] at h
    exact h
  have e40 : Try.prog.bytesOf 42 = 40 := by kernel_rfl
  rcases Go.Deep.open_slice Try.underlying22 h1 with ⟨hcs, _⟩ | ⟨x, l, c, m, n, D, Pl, hcs, _, hl, hm, hmm, hx, hall⟩
  · simp at hcs
    obtain ⟨rfl, rfl, rfl⟩ := hcs
    omega
  · simp at hcs
    obtain ⟨rfl, rfl, rfl⟩ := hcs
    have := hB ((len + (m - len)) * Try.prog.bytesOf 42) (by
      rw [DataW.weights, Try.underlying24]
      simp [hx, DataW.weights, DataW.weightsEach, Try.underlying22])
    rw [e40] at this
    omega

end Go.Proofs.Ytmjbfelfdhehbaa

namespace Go.Proofs.Ytmjbfelfdhehbaa
open Go.ChangeShapes Go.WideShapes Go.ChangeAt Go.RowKit
set_option linter.unusedVariables false
set_option maxRecDepth 100000

theorem told_eq {b bb : Bool} {P : Prop} (h : b = true ↔ P) (h2 : bb = true ↔ P) : b = bb := by
  cases b <;> cases bb <;> simp_all

set_option maxHeartbeats 8000000 in
theorem walk_recordSame (n : Int) (pa : Option Addr) (la ca : Nat) (l1 : List St) (d : Bool) (n2 : Int) (pb : Option Addr) (lb cb : Nat) (l2 : List St) (d2 : Bool) (ts : Int) (p : Option Addr) (len cap : Nat) (l : List Wr) (w : World) (hn1 : -9223372036854775808 ≤ n ∧ n ≤ 9223372036854775807) (hin1 : InS w pa la ca l1) (hn2 : -9223372036854775808 ≤ n2 ∧ n2 ≤ 9223372036854775807) (hin2 : InS w pb lb cb l2) (hts : -9223372036854775808 ≤ ts ∧ ts ≤ 9223372036854775807) (hin : InW w p len cap l) (hwt : len * 40 ≤ 140737488351232) :
    Calls Try.prog 4 #[.agg #[.int .i64 n, .slice pa la ca, .bool d], .agg #[.int .i64 n2, .slice pb lb cb, .bool d2], .agg #[.int .i64 ts, .slice p len cap]] w fun e w' => e = .returned (.bool true) ∧ Below w.heap.size w w' := by
  have HI : Hid (∀ w', Below w.heap.size w w' → InW w' p len cap l) := fun w' hb => hin.up hb
  have HJ1 : Hid (∀ w', Below w.heap.size w w' → InS w' pa la ca l1) := fun w' hb => hin1.up hb
  have HJ2 : Hid (∀ w', Below w.heap.size w w' → InS w' pb lb cb l2) := fun w' hb => hin2.up hb
  have HWT : Hid (len * 40 ≤ 140737488351232) := hwt
  have HLL : Hid (l.length = len) := hin.lenq
  clear hin hin1 hin2 hts hn1 hn2 hwt
  have hbx : Below w.heap.size w (((w.alloc (.cells #[.int .i64 n, .slice pa la ca, .bool d] 40)).alloc (.cells #[.int .i64 n2, .slice pb lb cb, .bool d2] 40)).alloc (.cells #[.int .i64 ts, .slice p len cap] 24)) := (((Below.refl _ _).alloc (Nat.le_refl _) _).alloc (by simp) _).alloc (by simp; omega) _
  have k1 : Bk (((w.alloc (.cells #[.int .i64 n, .slice pa la ca, .bool d] 40)).alloc (.cells #[.int .i64 n2, .slice pb lb cb, .bool d2] 40)).alloc (.cells #[.int .i64 ts, .slice p len cap] 24)) w.heap.size 40 #[.int .i64 n, .slice pa la ca, .bool d] := ((Bk.new _ _ _).alloc _).alloc _
  have k2 : Bk (((w.alloc (.cells #[.int .i64 n, .slice pa la ca, .bool d] 40)).alloc (.cells #[.int .i64 n2, .slice pb lb cb, .bool d2] 40)).alloc (.cells #[.int .i64 ts, .slice p len cap] 24)) (w.heap.size + 1) 40 #[.int .i64 n2, .slice pb lb cb, .bool d2] := by
    have := (Bk.new (w.alloc (.cells #[.int .i64 n, .slice pa la ca, .bool d] 40)) 40 #[.int .i64 n2, .slice pb lb cb, .bool d2]).alloc (.cells #[.int .i64 ts, .slice p len cap] 24)
    simpa using this
  have k3 : Bk (((w.alloc (.cells #[.int .i64 n, .slice pa la ca, .bool d] 40)).alloc (.cells #[.int .i64 n2, .slice pb lb cb, .bool d2] 40)).alloc (.cells #[.int .i64 ts, .slice p len cap] 24)) (w.heap.size + 2) 24 #[.int .i64 ts, .slice p len cap] := by
    have := Bk.new ((w.alloc (.cells #[.int .i64 n, .slice pa la ca, .bool d] 40)).alloc (.cells #[.int .i64 n2, .slice pb lb cb, .bool d2] 40)) 24 #[.int .i64 ts, .slice p len cap]
    simpa using this
  have hs : (((w.alloc (.cells #[.int .i64 n, .slice pa la ca, .bool d] 40)).alloc (.cells #[.int .i64 n2, .slice pb lb cb, .bool d2] 40)).alloc (.cells #[.int .i64 ts, .slice p len cap] 24)).heap.size = w.heap.size + 3 := by simp
  have HBK : Hid (∀ w', Below (w.heap.size + 3) (((w.alloc (.cells #[.int .i64 n, .slice pa la ca, .bool d] 40)).alloc (.cells #[.int .i64 n2, .slice pb lb cb, .bool d2] 40)).alloc (.cells #[.int .i64 ts, .slice p len cap] 24)) w' → Below w.heap.size w w' ∧ Bk w' w.heap.size 40 #[.int .i64 n, .slice pa la ca, .bool d] ∧ Bk w' (w.heap.size + 1) 40 #[.int .i64 n2, .slice pb lb cb, .bool d2] ∧ Bk w' (w.heap.size + 2) 24 #[.int .i64 ts, .slice p len cap]) :=
    fun w' hb => ⟨hbx.trans (hb.mono (by omega)), k1.below hb (by omega), k2.below hb (by omega), k3.below hb (by omega)⟩
  have HB0 : Hid (Below (w.heap.size + 3) (((w.alloc (.cells #[.int .i64 n, .slice pa la ca, .bool d] 40)).alloc (.cells #[.int .i64 n2, .slice pb lb cb, .bool d2] 40)).alloc (.cells #[.int .i64 ts, .slice p len cap] 24)) (((w.alloc (.cells #[.int .i64 n, .slice pa la ca, .bool d] 40)).alloc (.cells #[.int .i64 n2, .slice pb lb cb, .bool d2] 40)).alloc (.cells #[.int .i64 ts, .slice p len cap] 24))) := Below.refl _ _
  have HSZ : Hid (∀ w', Below (w.heap.size + 3) (((w.alloc (.cells #[.int .i64 n, .slice pa la ca, .bool d] 40)).alloc (.cells #[.int .i64 n2, .slice pb lb cb, .bool d2] 40)).alloc (.cells #[.int .i64 ts, .slice p len cap] 24)) w' → w.heap.size + 3 ≤ w'.heap.size) := fun w' hb => by have := hb.size; omega
  have OL : Hid (OwnW ((((w.alloc (.cells #[.int .i64 n, .slice pa la ca, .bool d] 40)).alloc (.cells #[.int .i64 n2, .slice pb lb cb, .bool d2] 40)).alloc (.cells #[.int .i64 ts, .slice p len cap] 24)).alloc (.cells #[] 42)) (w.heap.size + 3) (.slice (some ⟨w.heap.size + 1 + 1 + 1, 0, none⟩) 0 0) []) := by
    have := OwnW.laid (((w.alloc (.cells #[.int .i64 n, .slice pa la ca, .bool d] 40)).alloc (.cells #[.int .i64 n2, .slice pb lb cb, .bool d2] 40)).alloc (.cells #[.int .i64 ts, .slice p len cap] 24)) (w.heap.size + 3) (by simp)
    simpa [Hid] using this
  have IL : Hid (InW ((((w.alloc (.cells #[.int .i64 n, .slice pa la ca, .bool d] 40)).alloc (.cells #[.int .i64 n2, .slice pb lb cb, .bool d2] 40)).alloc (.cells #[.int .i64 ts, .slice p len cap] 24)).alloc (.cells #[] 42)) p len cap l) := HI.out _ (hbx.alloc hbx.size _)
  have S0 : Hid (w.heap.size + 3 ≤ ((((w.alloc (.cells #[.int .i64 n, .slice pa la ca, .bool d] 40)).alloc (.cells #[.int .i64 n2, .slice pb lb cb, .bool d2] 40)).alloc (.cells #[.int .i64 ts, .slice p len cap] 24)).alloc (.cells #[] 42)).heap.size) := by simp [Hid]
  have HBL : Hid (Below (w.heap.size + 3) (((w.alloc (.cells #[.int .i64 n, .slice pa la ca, .bool d] 40)).alloc (.cells #[.int .i64 n2, .slice pb lb cb, .bool d2] 40)).alloc (.cells #[.int .i64 ts, .slice p len cap] 24)) ((((w.alloc (.cells #[.int .i64 n, .slice pa la ca, .bool d] 40)).alloc (.cells #[.int .i64 n2, .slice pb lb cb, .bool d2] 40)).alloc (.cells #[.int .i64 ts, .slice p len cap] 24)).alloc (.cells #[] 42))) := (Below.refl _ _).alloc (by simp) _
  clear k1 k2 k3 hs hbx
  obtain ⟨w0, hw0⟩ : ∃ w0, (((w.alloc (.cells #[.int .i64 n, .slice pa la ca, .bool d] 40)).alloc (.cells #[.int .i64 n2, .slice pb lb cb, .bool d2] 40)).alloc (.cells #[.int .i64 ts, .slice p len cap] 24)) = w0 := ⟨_, rfl⟩
  rw [hw0] at HBK HB0 HSZ
  have HW0 : Hid _ := hw0
  clear hw0
  have HC : Hid (∀ w', Below (w.heap.size + 3) w0 w' → (w'.cell? ⟨w.heap.size, 0, none⟩ = some (.int .i64 n) ∧ w'.cell? ⟨w.heap.size, 1, none⟩ = some (.slice pa la ca) ∧ w'.cell? ⟨w.heap.size, 2, none⟩ = some (.bool d)) ∧ (w'.cell? ⟨w.heap.size + 1, 0, none⟩ = some (.int .i64 n2) ∧ w'.cell? ⟨w.heap.size + 1, 1, none⟩ = some (.slice pb lb cb) ∧ w'.cell? ⟨w.heap.size + 1, 2, none⟩ = some (.bool d2)) ∧ (w'.cell? ⟨w.heap.size + 2, 0, none⟩ = some (.int .i64 ts) ∧ w'.cell? ⟨w.heap.size + 2, 1, none⟩ = some (.slice p len cap))) := by
    intro w' hb
    obtain ⟨-, b1, b2, b3⟩ := HBK.out w' hb
    exact ⟨⟨b1.cell 0, b1.cell 1, b1.cell 2⟩, ⟨b2.cell 0, b2.cell 1, b2.cell 2⟩, ⟨b3.cell 0, b3.cell 1⟩⟩
  obtain ⟨-, -, c1, c2⟩ := HC.out _ HB0.out
  go_enter Try.func4, Try.ntmps4
  go_wp2_with (at_builtin; refine appWr _ rfl _ _ rfl (w.heap.size + 3) _ rfl OL.out p len cap l rfl IL.out (by have := HWT.out; omega) S0.out ?_; intro v1 w1 ho1 hb1; refine Hid.out ?_)
  obtain ⟨pw, cw, rfl⟩ := own_form ho1
  have H1 : Hid (Below (w.heap.size + 3) w0 w1) := by
    rw [← HW0.out]
    exact HBL.out.trans hb1
  have HV : Hid (∀ w', Below w1.heap.size w1 w' → Below (w.heap.size + 3) w0 w' ∧ InW w' pw l.length cw l) := fun w' hb => ⟨H1.out.trans (hb.mono (HSZ.out _ H1.out)), ho1.inw.up hb⟩
  clear c1 c2 ho1 hb1 OL IL S0 HBL HB0
  obtain ⟨-, -, c1, c2⟩ := HC.out _ H1.out
  unfold Hid
  go_wp2_with fail
  refine (commit_any ts p len cap l _ (HI.out _ (HBK.out _ H1.out).1)).mono ?_
  rintro e w2 ⟨v1, rfl, hcm⟩
  have hb2 : Below w1.heap.size w1 w2 := hcm.1
  obtain ⟨px, nx, cx, zs, rfl, hox⟩ := hcm.own
  have hnx : nx ≤ 9223372036854775807 := hox.n_le
  have HO2 : Hid (Own w2 w1.heap.size (.slice px nx cx) nx zs) := hox
  have HB2 : Hid (Below w1.heap.size w1 w2) := hb2
  clear hcm hox hb2 c1 c2
  go_wp2_with fail
  go_loopw [31] (fun i wr => ∃ (k : Nat) (ZL : List Int), k ≤ nx ∧ i = .int .i64 k ∧ Hid (Own wr w1.heap.size (.slice px nx cx) nx ZL) ∧ Hid (Below w1.heap.size w1 wr)) (fun i _ => nx - (intOf i).toNat)
  case atStart => exact ⟨0, _, Nat.zero_le _, rfl, HO2, HB2⟩
  case round =>
    obtain ⟨k, ZL, hk, rfl, HZ, HBZ⟩ := hrel
    by_cases hlt : k < nx
    · obtain ⟨g, cx', hgx⟩ := HZ.out.some (by omega)
      obtain ⟨rfl, -, rfl⟩ := by simpa using hgx
      have hcz := HZ.out.cell k hlt
      have hfz := HZ.out.frozen k
      have hset := HZ.out.set k 255
      have HO3 : Hid _ := hset.1
      have HB3 : Hid (Below w1.heap.size w1 (wr.setCell ⟨g, k, none⟩ (.int .u8 255))) := below_grown_own (v := .slice (some ⟨g, 0, none⟩) nx _) HBZ.out hset.2 HZ.out (Nat.le_refl _) HBZ.out.size
      clear hset HZ HBZ HO2 HB2
      go_wp2
      go_roundw
      case rel => exact ⟨k + 1, _, by omega, by go_num, HO3, HB3⟩
      case measure => simp [intOf]; omega
    · obtain rfl : k = nx := by omega
      obtain ⟨hH, -⟩ := HV.out _ HBZ.out
      have H3 : Hid (Below (w.heap.size + 3) w0 wr) := hH
      have HV3 : Hid (∀ w', Below wr.heap.size wr w' → Below (w.heap.size + 3) w0 w' ∧ InW w' pw l.length cw l) := fun w' hb => HV.out w' (HBZ.out.trans (hb.mono HBZ.out.size))
      clear hH HZ HBZ HO2 HB2 HV H1 hlt hk
      obtain ⟨-, -, c1, c2⟩ := HC.out _ H3.out
      go_wp2_with fail
      refine (rcommit_any ts p len cap l _ (HI.out _ (HBK.out _ H3.out).1)).mono ?_
      rintro e w4 ⟨v4, rfl, hcm⟩
      obtain ⟨py, ny, cy, ys, rfl, hiy, hly⟩ := came_in hcm
      have HV4 : Hid (∀ w', Below w4.heap.size w4 w' → (Below (w.heap.size + 3) w0 w' ∧ InW w' pw l.length cw l) ∧ InB 9223372036854775807 w' py ny cy ys) := fun w' hb => ⟨HV3.out w' (hcm.1.trans (hb.mono hcm.1.size)), hiy.below hb⟩
      have HLY : Hid (ys.length ≤ 140737488355328) := hly
      clear hcm hiy hly c1 c2 H3 HV3
      go_wp2_with fail
      refine (takeCommit_any py ny cy ys _ (HV4.out _ (Below.refl _ _)).2).mono ?_
      rintro e w5 ⟨v5, rfl, ho5, hb5⟩
      obtain ⟨tt, ll, ee, hq⟩ : ∃ a b c, Rc.takeCom ys = (a, b, c) := ⟨_, _, _, rfl⟩
      have HQ : Hid (Rc.takeCom ys = (tt, ll, ee)) := hq
      rw [hq] at ho5 ⊢
      simp only at ho5 ⊢
      obtain ⟨pd, cd, rfl⟩ := own_form ho5
      have hbx : Below w5.heap.size w5 (w5.alloc (.cells #[.int .i64 tt, .slice pd ll.length cd] 24)) := (Below.refl _ _).alloc (Nat.le_refl _) _
      have HD5 : Hid (Bk (w5.alloc (.cells #[.int .i64 tt, .slice pd ll.length cd] 24)) w5.heap.size 24 #[.int .i64 tt, .slice pd ll.length cd]) := Bk.new _ _ _
      have HR5 : Hid ((w5.alloc (.cells #[.int .i64 tt, .slice pd ll.length cd] 24)).ownsRow w4.heap.size 42 3 (.slice pd ll.length cd) ll.length (ll.map Wr.cells).flatten) := ho5.below hbx
      have HG5 : Hid (∀ g, pd = some ⟨g, 0, none⟩ → g < w5.heap.size) := fun g hg => (ho5.lt g (by rw [hg]; rfl)).2
      have HB5 : Hid (Below w4.heap.size w4 (w5.alloc (.cells #[.int .i64 tt, .slice pd ll.length cd] 24))) := hb5.trans (hbx.mono hb5.size)
      have HNL : Hid (ll.length ≤ 9223372036854775807) := by
        have := ho5.inw.le
        have := ho5.inw.room
        unfold Hid
        omega
      have hnl := HNL.out
      have hc5 : (w5.alloc (.cells #[.int .i64 tt, .slice pd ll.length cd] 24)).cell? ⟨w5.heap.size, 1, none⟩ = some (.slice pd ll.length cd) := HD5.out.cell 1
      clear hq ho5 hb5 hbx
      go_wp2_with fail
      generalize w5.alloc (.cells #[.int .i64 tt, .slice pd ll.length cd] 24) = w6 at *
      generalize w5.heap.size = D at *
      clear hc5
      go_loopw [51] (fun i wr => ∃ (k : Nat) (ZL : List Value), k ≤ ll.length ∧ i = .int .i64 k ∧ Hid (wr.ownsRow w4.heap.size 42 3 (.slice pd ll.length cd) ll.length ZL) ∧ Hid (Bk wr D 24 #[.int .i64 tt, .slice pd ll.length cd]) ∧ Hid (Below w4.heap.size w4 wr)) (fun i _ => ll.length - (intOf i).toNat)
      case atStart => exact ⟨0, _, Nat.zero_le _, rfl, HR5, HD5, HB5⟩
      case round =>
        obtain ⟨k2, ZL2, hk2, rfl, HZ2, HDZ, HBZ2⟩ := hrel
        have hcd : wr.cell? ⟨D, 1, none⟩ = some (.slice pd ll.length cd) := HDZ.out.cell 1
        by_cases hlt : k2 < ll.length
        · have hli : (k2 : Int) < (ll.length : Int) := by omega
          obtain ⟨g, cx', hgx⟩ := own_some HZ2.out (by omega)
          obtain ⟨rfl, rfl⟩ := by simpa using hgx
          have hlen := HZ2.out.1
          have hcz := World.ownsRow.cellAt HZ2.out (k2 * 3) (by omega)
          rw [List.getElem?_eq_getElem (by omega)] at hcz
          have hfz := World.ownsRow.frozenAt HZ2.out (k2 * 3)
          have hset := row_set HZ2.out HBZ2.out (Nat.le_refl _) HBZ2.out.size (k2 * 3) (.string ⟨#[115, 112, 111, 105, 108, 116]⟩)
          have HO7 : Hid _ := hset.1
          have HB7 : Hid _ := hset.2
          have HD7 : Hid (Bk (wr.setCell ⟨g, k2 * 3, none⟩ (.string ⟨#[115, 112, 111, 105, 108, 116]⟩)) D 24 #[.int .i64 tt, .slice (some ⟨g, 0, none⟩) ll.length cd]) := by
            have := HG5.out g rfl
            exact (Below.heap_setCell wr ⟨g, k2 * 3, none⟩ _ D (by show D ≠ g; omega)).trans HDZ.out
          obtain ⟨u, hcu⟩ : ∃ u, wr.cell? ⟨g, k2 * 3, none⟩ = some u := ⟨_, hcz⟩
          clear hcz hset HZ2 HBZ2 HDZ hlen
          go_wp2
          go_roundw
          case rel => exact ⟨k2 + 1, _, by omega, by go_num, HO7, HD7, HB7⟩
          case measure => simp [intOf]; omega
        · have hli : ¬ ((k2 : Int) < (ll.length : Int)) := by omega
          have HV6 : Hid (∀ w', Below wr.heap.size wr w' → (Below (w.heap.size + 3) w0 w' ∧ InW w' pw l.length cw l) ∧ InB 9223372036854775807 w' py ny cy ys) := fun w' hb => HV4.out w' (HBZ2.out.trans (hb.mono HBZ2.out.size))
          clear HZ2 HDZ HBZ2 HV4 HR5 HD5 HB5 HG5 hcd
          go_wp2_with fail
          refine (takeCommit_any py ny cy ys _ (HV6.out _ (Below.refl _ _)).2).mono ?_
          rintro e w7 ⟨v7, rfl, ho7, hb7⟩
          rw [HQ.out] at ho7 ⊢
          simp only at ho7 ⊢
          obtain ⟨pz, cz, rfl⟩ := own_form ho7
          have hbx : Below w7.heap.size w7 (w7.alloc (.cells #[.int .i64 tt, .slice pz ll.length cz] 24)) := (Below.refl _ _).alloc (Nat.le_refl _) _
          have HV7 : Hid (∀ w', Below (w7.alloc (.cells #[.int .i64 tt, .slice pz ll.length cz] 24)).heap.size (w7.alloc (.cells #[.int .i64 tt, .slice pz ll.length cz] 24)) w' → ((Below (w.heap.size + 3) w0 w' ∧ InW w' pw l.length cw l) ∧ InB 9223372036854775807 w' py ny cy ys) ∧ InW w' pz ll.length cz ll ∧ Bk w' w7.heap.size 24 #[.int .i64 tt, .slice pz ll.length cz]) :=
            fun w' hb => ⟨HV6.out w' ((hb7.trans (hbx.mono hb7.size)).trans (hb.mono (hb7.trans (hbx.mono hb7.size)).size)), (ho7.inw.up hbx).up hb, (Bk.new _ _ _).below hb (by simp)⟩
          clear ho7 hb7 hbx HV6
          go_wp2_with fail
          refine (rtakeCommit_any py ny cy ys _ (HV7.out _ (Below.refl _ _)).1.2 HLY.out).mono ?_
          rintro e w8 ⟨v8, rfl, ho8, hb8⟩
          rw [HQ.out] at ho8 ⊢
          simp only at ho8 ⊢
          obtain ⟨pt, ct, rfl⟩ := own_form ho8
          have hbx : Below w8.heap.size w8 (w8.alloc (.cells #[.int .i64 tt, .slice pt ll.length ct] 24)) := (Below.refl _ _).alloc (Nat.le_refl _) _
          have hb9 := hb8.trans (hbx.mono hb8.size)
          have HV9 : Hid (∀ w', Below (w8.alloc (.cells #[.int .i64 tt, .slice pt ll.length ct] 24)).heap.size (w8.alloc (.cells #[.int .i64 tt, .slice pt ll.length ct] 24)) w' → Below (w.heap.size + 3) w0 w' ∧ InW w' pw l.length cw l ∧ InW w' pz ll.length cz ll ∧ InW w' pt ll.length ct ll ∧ Bk w' w7.heap.size 24 #[.int .i64 tt, .slice pz ll.length cz] ∧ Bk w' w8.heap.size 24 #[.int .i64 tt, .slice pt ll.length ct]) := by
            intro w' hb
            obtain ⟨⟨⟨h1, h2⟩, -⟩, h3, h4⟩ := HV7.out w' (hb9.trans (hb.mono hb9.size))
            exact ⟨h1, h2, h3, (ho8.inw.up hbx).up hb, h4, (Bk.new _ _ _).below hb (by simp)⟩
          clear ho8 hb8 hbx hb9 HV7
          go_wp2_with fail
          generalize (w8.alloc (.cells #[.int .i64 tt, .slice pt ll.length ct] 24)) = w9 at *
          generalize w7.heap.size = ZB at *
          generalize w8.heap.size = TB at *
          obtain ⟨b1, hb1⟩ : ∃ b : Bool, (b = true ↔ (n = n2 ∧ d = d2 ∧ l1 = l2)) := by
            by_cases h : n = n2 ∧ d = d2 ∧ l1 = l2
            · exact ⟨true, by simp [h]⟩
            · exact ⟨false, by simp [h]⟩
          have HE1 : Hid (b1 = true ↔ (n = n2 ∧ d = d2 ∧ l1 = l2)) := hb1
          have HC9 : Hid (∀ w', Below w9.heap.size w9 w' → (w'.cell? ⟨w.heap.size, 0, none⟩ = some (.int .i64 n) ∧ w'.cell? ⟨w.heap.size, 1, none⟩ = some (.slice pa la ca) ∧ w'.cell? ⟨w.heap.size, 2, none⟩ = some (.bool d)) ∧ (w'.cell? ⟨w.heap.size + 1, 0, none⟩ = some (.int .i64 n2) ∧ w'.cell? ⟨w.heap.size + 1, 1, none⟩ = some (.slice pb lb cb) ∧ w'.cell? ⟨w.heap.size + 1, 2, none⟩ = some (.bool d2)) ∧ (w'.cell? ⟨w.heap.size + 1 + 1, 0, none⟩ = some (.int .i64 ts) ∧ w'.cell? ⟨w.heap.size + 1 + 1, 1, none⟩ = some (.slice p len cap)) ∧ (w'.cell? ⟨ZB, 0, none⟩ = some (.int .i64 tt) ∧ w'.cell? ⟨ZB, 1, none⟩ = some (.slice pz ll.length cz)) ∧ (w'.cell? ⟨TB, 0, none⟩ = some (.int .i64 tt) ∧ w'.cell? ⟨TB, 1, none⟩ = some (.slice pt ll.length ct))) := by
            intro w' hb
            obtain ⟨h0, -, -, -, h4, h5⟩ := HV9.out w' hb
            obtain ⟨q1, q2, q3⟩ := HC.out w' h0
            exact ⟨q1, q2, q3, ⟨h4.cell 0, h4.cell 1⟩, h5.cell 0, h5.cell 1⟩
          have HW9 : Hid (∀ w', Below w9.heap.size w9 w' → Below w.heap.size w w') := fun w' hb => (HBK.out w' (HV9.out w' hb).1).1
          have HD : Hid (Below w9.heap.size w9 w9.drew) := (Below.refl _ _).drew
          have hk0 := HC9.out _ (Below.refl _ _)
          obtain ⟨⟨k1, k2', k3⟩, ⟨k4, k5, k6⟩, ⟨k7, k8⟩, ⟨k9, k10⟩, k11, k12⟩ := hk0
          clear hb1 HQ HLY hnl HNL hli hlt hk2 hnx HWT HW0
          go_region_held3 (fun w' => (w'.cell? ⟨w.heap.size, 0, none⟩ = some (.int .i64 n) ∧ w'.cell? ⟨w.heap.size, 1, none⟩ = some (.slice pa la ca) ∧ w'.cell? ⟨w.heap.size, 2, none⟩ = some (.bool d)) ∧ (w'.cell? ⟨w.heap.size + 1, 0, none⟩ = some (.int .i64 n2) ∧ w'.cell? ⟨w.heap.size + 1, 1, none⟩ = some (.slice pb lb cb) ∧ w'.cell? ⟨w.heap.size + 1, 2, none⟩ = some (.bool d2)) ∧ (w'.cell? ⟨w.heap.size + 1 + 1, 0, none⟩ = some (.int .i64 ts) ∧ w'.cell? ⟨w.heap.size + 1 + 1, 1, none⟩ = some (.slice p len cap)) ∧ (w'.cell? ⟨ZB, 0, none⟩ = some (.int .i64 tt) ∧ w'.cell? ⟨ZB, 1, none⟩ = some (.slice pz ll.length cz)) ∧ (w'.cell? ⟨TB, 0, none⟩ = some (.int .i64 tt) ∧ w'.cell? ⟨TB, 1, none⟩ = some (.slice pt ll.length ct))) (go_keep) (first
            | (go_at_call 11; refine (live_any _).mono ?_; rintro e v1 ⟨rfl, hb⟩; have hB1 := HD.out.trans (hb.mono HD.out.size); have hk1 := HC9.out v1 hB1)
            | (go_at_call 19; refine (sameChunk_any n n d d pa pa la la ca ca l1 l1 _ (HJ1.out _ (HW9.out _ hB3)) (HJ1.out _ (HW9.out _ hB3))).mono ?_; rintro e v4 ⟨b, rfl, hq, hb⟩; obtain rfl : b = true := hq.2 ⟨rfl, rfl, rfl⟩; have hB4 := hB3.trans (hb.mono hB3.size); clear hq; have hk4 := HC9.out v4 hB4)
            | (go_at_call 19; refine (sameChunk_any n n2 d d2 pa pb la lb ca cb l1 l2 _ (HJ1.out _ (HW9.out _ hB1)) (HJ2.out _ (HW9.out _ hB1))).mono ?_; rintro e v2 ⟨b, rfl, hq, hb⟩; obtain rfl : b = b1 := told_eq hq HE1.out; have hB2 := hB1.trans (hb.mono hB1.size); clear hq; have hk2 := HC9.out v2 hB2)
            | (go_at_call 20; refine (rsameChunk_any n n2 d d2 pa pb la lb ca cb l1 l2 _ (HJ1.out _ (HW9.out _ hB2)) (HJ2.out _ (HW9.out _ hB2))).mono ?_; rintro e v3 ⟨b', rfl, hq, hb⟩; have hbe := told_eq hq HE1.out; subst hbe; have hB3 := hB2.trans (hb.mono hB2.size); clear hq; have hk3 := HC9.out v3 hB3)
            | (go_at_call 13; refine (rsameCommit_any tt tt pz pt ll.length ll.length cz ct ll ll _ (HV9.out _ hB5).2.2.1 (HV9.out _ hB5).2.2.2.1).mono ?_; rintro e v6 ⟨b', rfl, hq, hb⟩; obtain rfl : b' = true := hq.2 ⟨rfl, rfl⟩; have hB6 := hB5.trans (hb.mono hB5.size); clear hq; have hk6 := HC9.out v6 hB6)
            | (go_at_call 13; refine (rsameCommit_any ts ts p pw len l.length cap cw l l _ (HI.out _ (HW9.out _ hB4)) (HV9.out _ hB4).2.1).mono ?_; rintro e v5 ⟨b', rfl, hq, hb⟩; obtain rfl : b' = true := hq.2 ⟨rfl, rfl⟩; have hB5 := hB4.trans (hb.mono hB4.size); clear hq; have hk5 := HC9.out v5 hB5))
          have H10 : Hid (Below w.heap.size w v6) := HW9.out _ hB6
          clear hB1 hB2 hB3 hB4 hB5 hB6
          go_wp2
          go_ret
          exact ⟨by simp, H10.out⟩

set_option maxRecDepth 100000 in
set_option maxHeartbeats 2000000 in
theorem lifted_recordSame (os : Os) (started : os.Started) (H : Type) (enc : TypeId × Value → H) :
    ReturnsInHanded {} Try.checked os 4 .any (Rows.recordSameSpec.pre6 enc Try.prog Try.f4 Rows.recordSameRow.domain false) (Rows.recordSameSpec.post enc Try.prog Try.f4 false true false false) := by
  refine returnsInHanded_of_change_sized (C := Try.checked) own started (by kernel_rfl) Try.func4
    (ChangeSpec.witness6 (enc := enc) (C := Try.checked) false ⟨#[], #[.agg #[.int .i64 0, .slice none 0 0, .bool false], .agg #[.int .i64 0, .slice none 0 0, .bool false], .agg #[.int .i64 0, .slice none 0 0]], []⟩ 8 (by kernel_rfl) (by kernel_rfl) (by kernel_rfl) (by kernel_rfl)) ?_
  intro W base args ds gs before hval0 hW _ hsz0 _
  have hsz : (DataW.weightsEach Try.prog (Try.f4.params.toList ++ Rows.recordSameSpec.plain.varTypes Try.prog) (ds ++ gs)).all (· ≤ reachBytes) = true := hsz0
  clear hsz0
  have hval : ∀ (j : Nat) t v, Try.f4.params[j]? = some t → args[j]? = some v → Value.okWide Try.prog W .any base t v := hval0
  have hW' := hW
  obtain ⟨p, q, hA0, hV, rfl, hfz, hnd⟩ := hW
  have hA : DataW.TrodAll enc Try.prog W 0 (fun _ => true) true Try.f4.params.toList args.toList ds p := hA0
  rw [Try.params4] at hA hval hsz
  obtain ⟨v0, vs0, d0, ds0, p0, q0, hargs, rfl, rfl, h0, r0⟩ := trodAll_cons hA
  obtain ⟨v1, vs1, d1, ds1, p1, q1, rfl, rfl, rfl, h1, r1⟩ := trodAll_cons r0
  obtain ⟨v2, vs2, d2, ds2, p2, q2, rfl, rfl, rfl, h2, r2⟩ := trodAll_cons r1
  obtain ⟨rfl, rfl, rfl⟩ := trodAll_nil r2
  obtain rfl : args = #[v0, v1, v2] := by cases args; simp_all
  obtain ⟨rfl, rfl⟩ := trodVars_none hV
  have k0 := h0
  have lt0 : ∀ x ∈ p0, x.block < W.heap.size := by obtain ⟨m, hm⟩ := k0; exact DataW.trod_lt m _ _ _ hm
  obtain ⟨n0, a0, len0, cap0, l0, b0, e0, u0, w0⟩ : ∃ n0 a0 len0 cap0 l0 b0, v0 = .agg #[.int .i64 n0, .slice a0 len0 cap0, .bool b0] ∧ (-9223372036854775808 ≤ n0 ∧ n0 ≤ 9223372036854775807) ∧ InS W a0 len0 cap0 l0 := by
    obtain ⟨cs, hcs, _⟩ := okWide_struct Try.underlying40 (hval 0 40 v0 rfl rfl)
    obtain ⟨fuel, hf⟩ := h0
    obtain ⟨n0, a0, len0, cap0, l0, b0, hg, ho⟩ := in_chunk hf
    refine ⟨n0, a0, len0, cap0, l0, b0, ?_, ho⟩
    rw [hcs] at hg ⊢
    congr 1
    apply Array.ext'
    simpa [Value.cells] using hg
  subst e0
  have k1 := h1
  have lt1 : ∀ x ∈ p1, x.block < W.heap.size := by obtain ⟨m, hm⟩ := k1; exact DataW.trod_lt m _ _ _ hm
  obtain ⟨n1, a1, len1, cap1, l1, b1, e1, u1, w1⟩ : ∃ n1 a1 len1 cap1 l1 b1, v1 = .agg #[.int .i64 n1, .slice a1 len1 cap1, .bool b1] ∧ (-9223372036854775808 ≤ n1 ∧ n1 ≤ 9223372036854775807) ∧ InS W a1 len1 cap1 l1 := by
    obtain ⟨cs, hcs, _⟩ := okWide_struct Try.underlying40 (hval 1 40 v1 rfl rfl)
    obtain ⟨fuel, hf⟩ := h1
    obtain ⟨n1, a1, len1, cap1, l1, b1, hg, ho⟩ := in_chunk hf
    refine ⟨n1, a1, len1, cap1, l1, b1, ?_, ho⟩
    rw [hcs] at hg ⊢
    congr 1
    apply Array.ext'
    simpa [Value.cells] using hg
  subst e1
  have k2 := h2
  have lt2 : ∀ x ∈ p2, x.block < W.heap.size := by obtain ⟨m, hm⟩ := k2; exact DataW.trod_lt m _ _ _ hm
  obtain ⟨n2, a2, len2, cap2, l2, e2, u2, w2, x2⟩ : ∃ n2 a2 len2 cap2 l2, v2 = .agg #[.int .i64 n2, .slice a2 len2 cap2] ∧ (-9223372036854775808 ≤ n2 ∧ n2 ≤ 9223372036854775807) ∧ InW W a2 len2 cap2 l2 ∧ len2 * 40 ≤ 140737488351232 := by
    obtain ⟨cs, hcs, _⟩ := okWide_struct Try.underlying24 (hval 2 24 v2 rfl rfl)
    obtain ⟨fuel, hf⟩ := h2
    obtain ⟨n2, a2, len2, cap2, l2, hg, ho⟩ := in_commitW hf (fun n hn => by
      have := of_decide_eq_true (List.all_eq_true.1 hsz _ (DataW.weights_mem_each (j := 2) (t := 24) rfl rfl n hn))
      simp only [reachBytes] at this
      omega)
    refine ⟨n2, a2, len2, cap2, l2, ?_, ho⟩
    rw [hcs] at hg ⊢
    congr 1
    apply Array.ext'
    simpa [Value.cells] using hg
  subst e2
  clear hA0 hval0
  refine (walk_recordSame n0 a0 len0 cap0 l0 b0 n1 a1 len1 cap1 l1 b1 n2 a2 len2 cap2 l2 W u0 w0 u1 w1 u2 w2 x2).mono fun e W' ⟨he, bel⟩ => ?_
  subst he
  exact ⟨_, rfl, _, _, _, [], _, [], hW', trodAll_mk1 (shut_bool Try.underlying4 _), (trodAll_cons_mk (Below.trod laidOut (by kernel_rfl) (of_decide_eq_true (by kernel_rfl)) k0 bel lt0) (trodAll_cons_mk (Below.trod laidOut (by kernel_rfl) (of_decide_eq_true (by kernel_rfl)) k1 bel lt1) (trodAll_cons_mk (Below.trod laidOut (by kernel_rfl) (of_decide_eq_true (by kernel_rfl)) k2 bel lt2) trodAll_mk0))), rfl, bel.frame _, fun h => by cases h⟩

/-- The statement. -/
theorem recordSame_holds : Rows.RecordSameSaid :=
  OpenClaim.holds_of_wide 4 Try.f4 rfl rfl rfl rfl rfl rfl rfl ⟨rfl, rfl, rfl, rfl, rfl⟩ rfl rfl rfl rfl rfl (by kernel_rfl) Try.func4 (by kernel_rfl)
    (of_decide_eq_true (by kernel_rfl)) (by unfold Func.isWrapper; first | (rw [if_pos (by decide +kernel)]; kernel_rfl) | (rw [if_neg (by decide +kernel)]; exact ⟨rfl, rfl⟩))
    (fun os started H enc _ => lifted_recordSame os started H enc)
#print axioms recordSame_holds

end Go.Proofs.Ytmjbfelfdhehbaa
