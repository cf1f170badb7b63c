/- An arena beside the document's, and the handles that were answered. -/
import Derived.Test.YtfbmbjbokmomhaaArCl
namespace Go.Proofs.Ytfbmbjbokmomhaa
open Go.RowKit
set_option linter.unusedVariables false
set_option maxRecDepth 100000

/-- What holds of an arena behind j operations. -/
structure Iv (a : Ar) (j : Nat) : Prop where
  gens : Gens a.us j
  st0 : 0 ≤ a.stale
  st1 : a.stale ≤ j
  tx : Txs a.us

theorem Iv.bad {a : Ar} {j : Nat} (h : Iv a j) : Iv a.bad (j + 1) := ⟨h.gens.mono (by omega), by have := h.st0; show 0 ≤ a.stale + 1; omega, by have := h.st1; show a.stale + 1 ≤ ((j + 1 : Nat) : Int); omega, h.tx⟩
theorem Iv.more {a : Ar} {j : Nat} (h : Iv a j) : Iv a (j + 1) := ⟨h.gens.mono (by omega), h.st0, by have := h.st1; omega, h.tx⟩
theorem Iv.put {a : Ar} {j : Nat} (h : Iv a j) (x : ByteArray) : Iv (a.put (.string x)) (j + 1) := ⟨h.gens.put (by omega) _, h.st0, by have := h.st1; show a.stale ≤ _; omega, h.tx.put x⟩
theorem Iv.set {a : Ar} {j : Nat} (h : Iv a j) {i : Nat} (hi : i < a.us.length) (x : ByteArray) : Iv (a.set i (.string x)) (j + 1) := ⟨(h.gens.setv hi _).mono (by omega), h.st0, by have := h.st1; show a.stale ≤ _; omega, h.tx.set i ⟨x, rfl⟩⟩
theorem Iv.free {a : Ar} {j : Nat} (h : Iv a j) {i : Nat} (hi : i < a.us.length) : Iv (a.free i (.string ⟨#[]⟩)) (j + 1) := ⟨(h.gens.free hi _).mono (by omega), h.st0, by have := h.st1; show a.stale ≤ _; omega, h.tx.set i ⟨_, rfl⟩⟩
theorem Iv.stale {a : Ar} {j : Nat} (h : Iv a j) (hj : j ≤ 1000000000000000) : a.stale < 9223372036854775807 := by have := h.st1; omega

/-- What a call of both comes to. -/
structure Two (a : Ar) (hs : List ByteArray) (j : Nat) (f : FuncId) (rf : FuncId) (args : List Value) (v : Value) (a' : Ar) (hs' : List ByteArray) : Prop where
  prog : ∀ m W B av, AsS m W B a av → Calls Try.prog f (.pointer (some ⟨B, 0, none⟩) :: args).toArray W fun r W' => r = .returned v ∧ AftS m W W' B a' av
  doc : ∀ W R G N H, IsRa W R G N H a hs → Calls Try.prog rf (.pointer (some ⟨R, 0, none⟩) :: args).toArray W fun r W' => r = .returned v ∧ IsRa W' R G N H a' hs' ∧ Tn (ras R G N H) W W'
  iv : Iv a' (j + 1)

section
variable {a : Ar} {hs : List ByteArray} {j : Nat}

theorem both_set (h : Iv a j) (hj : j ≤ 1000000000000000) (s g : Int) (x : ByteArray) : ∃ e a' hs', Two a hs j 18 30 [.agg #[.int .i64 s, .int .i64 g], .string x] (.int .i64 e) a' hs' := by
  by_cases hg : a.Good s g
  · obtain ⟨i, rfl, hi, -, -⟩ := hg.nat
    refine ⟨0, a.set i (.string x), hs.set i x, fun m W B av hA => ?_, fun W R G N H hR => ?_, h.set hi x⟩
    · exact setSS hA _ _ x hg
    · exact (rset_yes hR _ _ hg x).mono fun r W' ⟨q1, q2, q3⟩ => ⟨q1, q2, q3.mono (by simp [ras])⟩
  · refine ⟨7, a.bad, hs, fun m W B av hA => ?_, fun W R G N H hR => ?_, h.bad⟩
    · exact setBadSS hA _ _ x hg h.st0 (h.stale hj)
    · exact (rset_no hR _ _ hg x h.st0 (h.stale hj)).mono fun r W' ⟨q1, q2, q3⟩ => ⟨q1, q2, q3.mono (by simp [ras])⟩

theorem both_free (h : Iv a j) (hj : j ≤ 1000000000000000) (s g : Int) : ∃ e a' hs', Two a hs j 17 31 [.agg #[.int .i64 s, .int .i64 g]] (.int .i64 e) a' hs' := by
  by_cases hg : a.Good s g
  · obtain ⟨i, rfl, hi, -, -⟩ := hg.nat
    refine ⟨0, a.free i (.string ⟨#[]⟩), hs, fun m W B av hA => ?_, fun W R G N H hR => ?_, h.free hi⟩
    · exact freeSS hA _ _ hg
    · exact (rfree_yes hR _ _ hg _).mono fun r W' ⟨q1, q2, q3⟩ => ⟨q1, q2, q3.mono (by simp [ras])⟩
  · refine ⟨7, a.bad, hs, fun m W B av hA => ?_, fun W R G N H hR => ?_, h.bad⟩
    · exact freeBadSS hA _ _ hg h.st0 (h.stale hj)
    · exact (rfree_no hR _ _ hg h.st0 (h.stale hj)).mono fun r W' ⟨q1, q2, q3⟩ => ⟨q1, q2, q3.mono (by simp [ras])⟩

theorem both_get (h : Iv a j) (hj : j ≤ 1000000000000000) (s g : Int) (hrel : ∀ i, (slAt a.us i).given = true → (slAt a.us i).val = .string (tAt hs i)) : ∃ y e a', Two a hs j 19 32 [.agg #[.int .i64 s, .int .i64 g]] (.tuple #[.string y, .int .i64 e]) a' hs := by
  by_cases hg : a.Good s g
  · have hv : (slAt a.us s.toNat).val = .string (tAt hs s.toNat) := hrel _ hg.2.2.1
    refine ⟨tAt hs s.toNat, 0, a, fun m W B av hA => ?_, fun W R G N H hR => ?_, h.more⟩
    · have := getSS hA s g hg
      rw [hv] at this
      exact this.mono fun r W' ⟨q1, q2⟩ => ⟨q1, AftS.quiet hA q2⟩
    · exact (rget_yes hR _ _ hg).mono fun r W' ⟨q1, q2⟩ => ⟨q1, hR.quiet q2, q2.mono (by simp)⟩
  · refine ⟨⟨#[]⟩, 7, a.bad, fun m W B av hA => ?_, fun W R G N H hR => ?_, h.bad⟩
    · exact getBadSS hA _ _ hg h.st0 (h.stale hj)
    · exact (rget_no hR _ _ hg h.st0 (h.stale hj)).mono fun r W' ⟨q1, q2, q3⟩ => ⟨q1, q2, q3.mono (by simp [ras])⟩

theorem both_put (h : Iv a j) (hj : j ≤ 1000000000000000) (x : ByteArray) (hle : a.us.length ≤ a.size) : ∃ s g e a' hs', (e = 0 ∨ e = 5) ∧ Two a hs j 16 29 [.string x] (.tuple #[.agg #[.int .i64 s, .int .i64 g], .int .i64 e]) a' hs' := by
  have hg := h.gens.gen (a := a) (by omega)
  have hll := live_le a.us
  by_cases hf : live a.us < a.size
  · refine ⟨(low a.us : Int), a.gen, 0, a.put (.string x), hs.set (low a.us) x, .inl rfl, fun m W B av hA => ?_, fun W R G N H hR => ?_, h.put x⟩
    · exact putSS hA x hf hg.1 (by omega)
    · exact (rput_any hR x hf (by omega) hg.1).mono fun r W' ⟨q1, q2, q3⟩ => ⟨q1, q2, q3.mono (by simp [ras])⟩
  · have he : live a.us = a.size := by omega
    refine ⟨0, 0, 5, a, hs, .inr rfl, fun m W B av hA => ?_, fun W R G N H hR => ?_, h.more⟩
    · exact fullSS hA x he
    · exact (rput_full hR x he).mono fun r W' ⟨q1, q2⟩ => ⟨q1, hR.quiet q2, q2.mono (by simp)⟩
end

/-- The blocks beside the arena. -/
def avs (P R G N H : Nat) (lv : Value) : List Nat := P :: (lv.ownBlock.toList ++ ras R G N H)

/-- Both, and the handles; X: boxes that are kept. -/
structure Pw (w wr : World) (X : List Nat) (P B R G N H : Nat) (lv : Value) (L : List (Int × Int)) (a : Ar) (hs : List ByteArray) (j : Nat) : Prop where
  pb : Bk wr P 34 #[.pointer (some ⟨B, 0, none⟩), .pointer (some ⟨R, 0, none⟩), lv]
  ar : AsS w.heap.size wr B a (X ++ avs P R G N H lv)
  ra : IsRa wr R G N H a hs
  lr : Hr wr lv L
  below : Below w.heap.size w wr
  ge : ∀ x ∈ avs P R G N H lv, w.heap.size ≤ x
  nx : ∀ x ∈ X, x ∉ avs P R G N H lv
  iv : Iv a j
  ll : L.length ≤ j

section
variable {w wr w1 w2 : World} {X : List Nat} {P B R G N H : Nat} {lv : Value} {L : List (Int × Int)} {a a' : Ar} {hs hs' : List ByteArray} {j : Nat}

theorem row_bk {w : World} {base size n : Nat} {e : TypeId} {v : Value} {xs : List Value} (h : w.ownsRow base e size v n xs) {k : Nat} (hk : v.ownBlock = some k) : ∃ cs, Bk w k e cs := by
  rcases h.2 with ⟨rfl, _⟩ | ⟨g, cap, cur, rfl, _, hgg, _⟩
  · cases hk
  · cases hk
    exact ⟨_, hgg⟩

theorem Pw.lt (h : Pw w wr X P B R G N H lv L a hs j) : ∀ x ∈ avs P R G N H lv, x < wr.heap.size := by
  intro x hx
  simp only [avs, List.mem_cons, List.mem_append, opt_toList] at hx
  rcases hx with rfl | hx | hx
  · exact h.pb.lt
  · exact h.lr.lt x hx
  · exact h.ra.lt x hx
theorem Pw.xlt (h : Pw w wr X P B R G N H lv L a hs j) : ∀ x ∈ X, x < wr.heap.size := by
  obtain ⟨bs, -, -, h3⟩ := h.ar
  exact fun x hx => (h3 x (by simp [hx])).2
theorem Pw.neP (h : Pw w wr X P B R G N H lv L a hs j) : P ∉ ras R G N H := by
  simp only [ras, List.mem_cons, List.not_mem_nil, or_false, not_or]
  exact ⟨h.pb.ne h.ra.blk (by decide), h.pb.ne h.ra.bg (by decide), h.pb.ne h.ra.bn (by decide), h.pb.ne h.ra.bh (by decide)⟩
theorem Pw.neL (h : Pw w wr X P B R G N H lv L a hs j) : ∀ k, lv.ownBlock = some k → k ∉ ras R G N H ∧ k ≠ P := by
  intro k hk
  obtain ⟨cs, hb⟩ := row_bk h.lr hk
  simp only [ras, List.mem_cons, List.not_mem_nil, or_false, not_or]
  exact ⟨⟨hb.ne h.ra.blk (by decide), hb.ne h.ra.bg (by decide), hb.ne h.ra.bn (by decide), hb.ne h.ra.bh (by decide)⟩, hb.ne h.pb (by decide)⟩

/-- Boxes are laid. -/
theorem Pw.box (h : Pw w wr X P B R G N H lv L a hs j) (k : Tn [] wr w1) (Y : List Nat) (hY : ∀ y ∈ Y, wr.heap.size ≤ y ∧ y < w1.heap.size) : Pw w w1 (Y ++ X) P B R G N H lv L a hs j where
  pb := h.pb.tn k (by simp)
  ar := h.ar.grow k (by simp) (fun x hx => by
    simp only [List.append_assoc, List.mem_append] at hx ⊢
    rcases hx with hx | hx
    · exact .inr (hY x hx).1
    · exact .inl hx) (fun x hx => by
    simp only [List.append_assoc, List.mem_append] at hx
    rcases hx with hx | hx | hx
    · exact (hY x hx).2
    · exact Nat.lt_of_lt_of_le (h.xlt x hx) k.size
    · exact Nat.lt_of_lt_of_le (h.lt x hx) k.size)
  ra := h.ra.quiet k
  lr := h.lr.tn k (by simp)
  below := h.below.trans (k.below h.below.size (by simp))
  ge := h.ge
  nx := fun x hx hm => by
    rcases List.mem_append.1 hx with hx | hx
    · have := h.lt x hm
      have := (hY x hx).1
      omega
    · exact h.nx x hx hm
  iv := h.iv
  ll := h.ll
theorem Pw.quiet (h : Pw w wr X P B R G N H lv L a hs j) (k : Tn [] wr w1) : Pw w w1 X P B R G N H lv L a hs j := h.box k [] (by simp)
theorem Pw.bare (h : Pw w wr X P B R G N H lv L a hs j) : Pw w wr [] P B R G N H lv L a hs j :=
  ⟨h.pb, h.ar.sub (fun x hx => by simp at hx; simp [hx]), h.ra, h.lr, h.below, h.ge, by simp, h.iv, h.ll⟩

/-- What a call of the program's leaves. -/
theorem Pw.half (h : Pw w wr X P B R G N H lv L a hs j) (f : AftS w.heap.size wr w1 B a' (X ++ avs P R G N H lv)) : Bk w1 P 34 #[.pointer (some ⟨B, 0, none⟩), .pointer (some ⟨R, 0, none⟩), lv] ∧ IsRa w1 R G N H a hs ∧ Hr w1 lv L ∧ Below w.heap.size w w1 ∧ ∀ x ∈ X, w1.heap[x]? = wr.heap[x]? := by
  obtain ⟨-, f2, f3⟩ := f
  have e : ∀ x ∈ avs P R G N H lv, w1.heap[x]? = wr.heap[x]? := fun x hx => f3 x (by simp [hx])
  have er : ∀ x ∈ ras R G N H, w1.heap[x]? = wr.heap[x]? := fun x hx => e x (by simp [avs, hx])
  refine ⟨(e P (by simp [avs])).trans h.pb, ⟨(er R (by simp [ras])).trans h.ra.blk, (er G (by simp [ras])).trans h.ra.bg, (er N (by simp [ras])).trans h.ra.bn, (er H (by simp [ras])).trans h.ra.bh, h.ra.hl, h.ra.le, h.ra.s2, h.ra.rel⟩, h.lr.keep (fun k hk => e k (by simp only [avs, List.mem_cons, List.mem_append]; exact .inr (.inl hk))), h.below.trans f2, fun x hx => f3 x (by simp [hx])⟩

/-- One call of the program's, then one of the document's. -/
theorem Pw.two (h : Pw w wr X P B R G N H lv L a hs j) (f : AftS w.heap.size wr w1 B a' (X ++ avs P R G N H lv)) (r : IsRa w2 R G N H a' hs') (t : Tn (ras R G N H) w1 w2) (hi : Iv a' (j + 1)) : Pw w w2 X P B R G N H lv L a' hs' (j + 1) ∧ ∀ x ∈ X, w2.heap[x]? = wr.heap[x]? := by
  obtain ⟨q1, q2, q3, q4, q5⟩ := h.half f
  have hlt : ∀ x ∈ X, x < w1.heap.size := fun x hx => by
    obtain ⟨bs, -, -, h3⟩ := f.1
    exact (h3 x (by simp [hx])).2
  have hxr : ∀ x ∈ X, x ∉ ras R G N H := fun x hx hm => h.nx x hx (by simp [avs, hm])
  refine ⟨⟨q1.tn t h.neP, f.1.other t (fun x hx => by simp [avs, hx]), r, q3.tn t (fun k hk => (h.neL k hk).1), q4.trans (t.below q4.size (fun x hx => h.ge x (by simp [avs, hx]))), h.ge, h.nx, hi, by have := h.ll; omega⟩, fun x hx => (t.block x (hlt x hx) (hxr x hx)).trans (q5 x hx)⟩
end
end Go.Proofs.Ytfbmbjbokmomhaa
