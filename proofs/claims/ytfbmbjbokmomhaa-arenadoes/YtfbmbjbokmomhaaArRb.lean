/- The document's arena: the other calls. -/
import Derived.Test.YtfbmbjbokmomhaaArRa
namespace Go.Proofs.Ytfbmbjbokmomhaa
open Go.RowKit
set_option linter.unusedVariables false
set_option maxRecDepth 100000

section
variable {w w' : World} {R G N H : Nat} {a : Ar} {hs : List ByteArray}

theorem Ar.Good.nat {a : Ar} {s g : Int} (h : a.Good s g) : ∃ i : Nat, s = (i : Int) ∧ i < a.us.length ∧ (slAt a.us i).given = true ∧ (slAt a.us i).gen = g := by
  obtain ⟨h1, h2, h3, h4⟩ := h
  obtain ⟨i, rfl⟩ : ∃ i : Nat, s = (i : Int) := ⟨s.toNat, by omega⟩
  exact ⟨i, rfl, by omega, h3, h4⟩

theorem IsRa.bad (h : IsRa w R G N H a hs) (x : Int) (hx : x = a.stale + 1) : IsRa (w.setCell ⟨R, 3, none⟩ (.int .i64 x)) R G N H a.bad hs ∧ Tn [R] w (w.setCell ⟨R, 3, none⟩ (.int .i64 x)) := by
  have t : Tn [R] w (w.setCell ⟨R, 3, none⟩ (.int .i64 x)) := (Tn.refl _ _).setCell (.inl (by simp)) _
  obtain ⟨d1, d2, d3, -⟩ := h.dis
  subst hx
  exact ⟨⟨h.blk.set 3 _, h.bg.tn t (by simpa using Ne.symm d1), h.bn.tn t (by simpa using Ne.symm d2), h.bh.tn t (by simpa using Ne.symm d3), h.hl, h.le, h.s2, h.rel⟩, t⟩

set_option maxHeartbeats 2000000 in
theorem rmay_yes (h : IsRa w R G N H a hs) (s g : Int) (hg : a.Good s g) : Calls Try.prog 47 #[.pointer (some ⟨R, 0, none⟩), .agg #[.int .i64 s, .int .i64 g]] w fun e w' => e = .returned (.bool true) ∧ Tn [] w w' := by
  obtain ⟨w0, hw0, h0, k0, t0⟩ := h.box s g
  obtain ⟨B, hB⟩ : ∃ B, w.heap.size = B := ⟨_, rfl⟩
  rw [hB] at k0
  have b0 : w0.cell? ⟨B, 0, none⟩ = some (.int .i64 s) := k0.cell 0
  have b1 : w0.cell? ⟨B, 1, none⟩ = some (.int .i64 g) := k0.cell 1
  have HC : Hid (Calls Try.prog 57 #[.pointer (some ⟨R, 0, none⟩), .agg #[.int .i64 s, .int .i64 g]] w0 fun e w' => e = .returned (.bool true) ∧ Tn [] w0 w') := rgood_any h0 s g (b := true) ⟨fun _ => hg, fun _ => rfl⟩
  have HT : Hid (Tn [] w w0) := t0
  clear h h0 k0 t0 hg
  go_enter Try.func47, Try.ntmps47
  go_wp2_with fail
  refine Calls.mono HC.out ?_
  rintro r w1 ⟨rfl, t1⟩
  have HE : Hid (Tn [] w w1) := HT.out.trans t1 (by simp)
  clear t1
  go_wp2
  go_ret
  exact ⟨rfl, HE.out⟩

set_option maxHeartbeats 2000000 in
theorem rmay_no (h : IsRa w R G N H a hs) (s g : Int) (hg : ¬ a.Good s g) (hs0 : 0 ≤ a.stale) (hs9 : a.stale < 9223372036854775807) : Calls Try.prog 47 #[.pointer (some ⟨R, 0, none⟩), .agg #[.int .i64 s, .int .i64 g]] w fun e w' => e = .returned (.bool false) ∧ IsRa w' R G N H a.bad hs ∧ Tn [R] w w' := by
  obtain ⟨w0, hw0, h0, k0, t0⟩ := h.box s g
  obtain ⟨B, hB⟩ : ∃ B, w.heap.size = B := ⟨_, rfl⟩
  rw [hB] at k0
  have b0 : w0.cell? ⟨B, 0, none⟩ = some (.int .i64 s) := k0.cell 0
  have b1 : w0.cell? ⟨B, 1, none⟩ = some (.int .i64 g) := k0.cell 1
  have HC : Hid (Calls Try.prog 57 #[.pointer (some ⟨R, 0, none⟩), .agg #[.int .i64 s, .int .i64 g]] w0 fun e w' => e = .returned (.bool false) ∧ Tn [] w0 w') := rgood_any h0 s g (b := false) ⟨fun e => (by cases e), fun e => absurd e hg⟩
  have HT : Hid (Tn [] w w0 ∧ IsRa w0 R G N H a hs) := ⟨t0, h0⟩
  obtain ⟨st, hst⟩ : ∃ st, a.stale = st := ⟨_, rfl⟩
  have HST : Hid (a.stale = st) := hst
  rw [hst] at hs0 hs9
  obtain ⟨x, hx⟩ : ∃ x, st + 1 = x := ⟨_, rfl⟩
  have hw : wrap64 (st + 1) = x := by rw [← hx]; unfold wrap64; omega
  have HX : Hid (x = a.stale + 1) := by show _ = _; rw [hst, hx]
  clear h h0 k0 t0 hg hst
  go_enter Try.func47, Try.ntmps47
  go_wp2_with fail
  refine Calls.mono HC.out ?_
  rintro r w1 ⟨rfl, t1⟩
  have h1 := HT.out.2.quiet t1
  have c3 := h1.c3
  rw [HST.out] at c3
  have f3 : w1.frozen? ⟨R, 3, none⟩ = false := h1.blk.frozen 3
  have HE : Hid (IsRa (w1.setCell ⟨R, 3, none⟩ (.int .i64 x)) R G N H a.bad hs ∧ Tn [R] w (w1.setCell ⟨R, 3, none⟩ (.int .i64 x))) := by
    obtain ⟨i1, i2⟩ := h1.bad x HX.out
    exact ⟨i1, ((HT.out.1.trans t1 (by simp)).mono (by simp)).trans i2 (by simp)⟩
  clear t1 h1 hx hs0 hs9
  go_wp2
  go_ret
  exact ⟨rfl, HE.out⟩

set_option maxHeartbeats 2000000 in
theorem rget_yes (h : IsRa w R G N H a hs) (s g : Int) (hg : a.Good s g) : Calls Try.prog 32 #[.pointer (some ⟨R, 0, none⟩), .agg #[.int .i64 s, .int .i64 g]] w fun e w' => e = .returned (.tuple #[.string (tAt hs s.toNat), .int .i64 0]) ∧ Tn [] w w' := by
  obtain ⟨w0, hw0, h0, k0, t0⟩ := h.box s g
  obtain ⟨B, hB⟩ : ∃ B, w.heap.size = B := ⟨_, rfl⟩
  rw [hB] at k0
  have b0 : w0.cell? ⟨B, 0, none⟩ = some (.int .i64 s) := k0.cell 0
  have b1 : w0.cell? ⟨B, 1, none⟩ = some (.int .i64 g) := k0.cell 1
  have HC : Hid _ := rmay_yes h0 s g hg
  have HT : Hid (Tn [] w w0 ∧ IsRa w0 R G N H a hs ∧ Bk w0 B 36 #[.int .i64 s, .int .i64 g]) := ⟨t0, h0, k0⟩
  obtain ⟨i, rfl, hi, -, -⟩ := hg.nat
  have hin : i < a.size := Nat.lt_of_lt_of_le hi h.le
  obtain ⟨n, hn⟩ : ∃ n, a.size = n := ⟨_, rfl⟩
  have HN : Hid (a.size = n) := hn
  have hn6 : n ≤ 65536 := by rw [← hn]; exact h.s2
  have HIN : Hid (i < a.size) := hin
  rw [hn] at hin
  have hi0 : (0 : Int) ≤ (i : Int) := by omega
  have hii : (i : Int) < (n : Int) := by omega
  clear h h0 k0 t0 hg hn hi
  go_enter Try.func32, Try.ntmps32
  go_wp2_with fail
  refine Calls.mono HC.out ?_
  rintro r w1 ⟨rfl, t1⟩
  have h1 := HT.out.2.1.quiet t1
  have e0 : w1.cell? ⟨B, 0, none⟩ = some (.int .i64 (i : Int)) := (HT.out.2.2.tn t1 (by simp)).cell 0
  have c2 := h1.c2
  have ch := h1.ch HIN.out
  rw [HN.out] at c2
  have HE : Hid (∀ k, Tn [] w (w1.drewN k)) := fun k => (HT.out.1.trans t1 (by simp)).trans (drewN_tn _ _) (by simp)
  clear t1 h1 HC HT
  obtain ⟨tx, htx⟩ : ∃ tx, tAt hs i = tx := ⟨_, rfl⟩
  have HX : Hid (tAt hs i = tx) := htx
  rw [htx] at ch
  clear htx
  go_wp2_with fail
  go_quiet (fail)
  go_wp2
  go_ret2
  exact ⟨by rw [Int.toNat_natCast, HX.out]; rfl, HE.out _⟩

set_option maxHeartbeats 2000000 in
theorem rget_no (h : IsRa w R G N H a hs) (s g : Int) (hg : ¬ a.Good s g) (hs0 : 0 ≤ a.stale) (hs9 : a.stale < 9223372036854775807) : Calls Try.prog 32 #[.pointer (some ⟨R, 0, none⟩), .agg #[.int .i64 s, .int .i64 g]] w fun e w' => e = .returned (.tuple #[.string ⟨#[]⟩, .int .i64 7]) ∧ IsRa w' R G N H a.bad hs ∧ Tn [R] w w' := by
  obtain ⟨w0, hw0, h0, k0, t0⟩ := h.box s g
  obtain ⟨B, hB⟩ : ∃ B, w.heap.size = B := ⟨_, rfl⟩
  rw [hB] at k0
  have b0 : w0.cell? ⟨B, 0, none⟩ = some (.int .i64 s) := k0.cell 0
  have b1 : w0.cell? ⟨B, 1, none⟩ = some (.int .i64 g) := k0.cell 1
  have HC : Hid _ := rmay_no h0 s g hg hs0 hs9
  have HT : Hid (Tn [] w w0) := t0
  clear h h0 k0 t0 hg hs0 hs9
  go_enter Try.func32, Try.ntmps32
  go_wp2_with fail
  refine Calls.mono HC.out ?_
  rintro r w1 ⟨rfl, h1, t1⟩
  have HE : Hid (IsRa w1 R G N H a.bad hs ∧ Tn [R] w w1) := ⟨h1, (HT.out.mono (by simp)).trans t1 (fun x hx => .inl hx)⟩
  clear t1 h1 HC HT
  go_wp2
  go_ret2
  exact ⟨rfl, HE.out⟩

set_option maxHeartbeats 2000000 in
theorem rset_yes (h : IsRa w R G N H a hs) (s g : Int) (hg : a.Good s g) (x : ByteArray) : Calls Try.prog 30 #[.pointer (some ⟨R, 0, none⟩), .agg #[.int .i64 s, .int .i64 g], .string x] w fun e w' => e = .returned (.int .i64 0) ∧ IsRa w' R G N H (a.set s.toNat (.string x)) (hs.set s.toNat x) ∧ Tn [H] w w' := by
  obtain ⟨w0, hw0, h0, k0, t0⟩ := h.box s g
  obtain ⟨B, hB⟩ : ∃ B, w.heap.size = B := ⟨_, rfl⟩
  rw [hB] at k0
  have b0 : w0.cell? ⟨B, 0, none⟩ = some (.int .i64 s) := k0.cell 0
  have b1 : w0.cell? ⟨B, 1, none⟩ = some (.int .i64 g) := k0.cell 1
  have HC : Hid _ := rmay_yes h0 s g hg
  have HT : Hid (Tn [] w w0 ∧ IsRa w0 R G N H a hs ∧ Bk w0 B 36 #[.int .i64 s, .int .i64 g]) := ⟨t0, h0, k0⟩
  obtain ⟨i, rfl, hi, -, -⟩ := hg.nat
  have hin : i < a.size := Nat.lt_of_lt_of_le hi h.le
  obtain ⟨n, hn⟩ : ∃ n, a.size = n := ⟨_, rfl⟩
  have HN : Hid (a.size = n) := hn
  have hn6 : n ≤ 65536 := by rw [← hn]; exact h.s2
  have HIN : Hid (i < a.size ∧ i < a.us.length) := ⟨hin, hi⟩
  rw [hn] at hin
  have hi0 : (0 : Int) ≤ (i : Int) := by omega
  have hii : (i : Int) < (n : Int) := by omega
  clear h h0 k0 t0 hg hn hi
  go_enter Try.func30, Try.ntmps30
  go_wp2_with fail
  refine Calls.mono HC.out ?_
  rintro r w1 ⟨rfl, t1⟩
  have h1 : IsRa w1.drew R G N H a hs := HT.out.2.1.quiet t1.drew
  have e0 : w1.drew.cell? ⟨B, 0, none⟩ = some (.int .i64 (i : Int)) := (HT.out.2.2.tn t1.drew (by simp)).cell 0
  have c2 := h1.c2
  have ch := h1.ch HIN.out.1
  have fh : w1.drew.frozen? ⟨H, i, none⟩ = false := h1.bh.frozen i
  rw [HN.out] at c2
  have HE : Hid (IsRa (w1.drew.setCell ⟨H, i, none⟩ (.string x)) R G N H (a.set i (.string x)) (hs.set i x) ∧ Tn [H] w (w1.drew.setCell ⟨H, i, none⟩ (.string x))) := by
    have t2 : Tn [H] w1.drew (w1.drew.setCell ⟨H, i, none⟩ (.string x)) := (Tn.refl _ _).setCell (.inl (by simp)) _
    obtain ⟨d1, d2, d3, d4, d5, d6⟩ := h1.dis
    have k3 := h1.bh.set i (.string x)
    rw [hcs_set] at k3
    have hat : ∀ k, slAt (a.set i (.string x)).us k = if k = i then { slAt a.us i with val := .string x } else slAt a.us k := fun k => slAt_set _ _ _ _ HIN.out.2
    have eg : gcs (a.set i (.string x)) = gcs a := by
      simp only [gcs]
      congr 1
      refine List.map_congr_left (fun k _ => ?_)
      rw [hat]
      split
      · rename_i e; subst e; rfl
      · rfl
    have en : ncs (a.set i (.string x)) = ncs a := by
      simp only [ncs]
      congr 1
      refine List.map_congr_left (fun k _ => ?_)
      rw [hat]
      split
      · rename_i e; subst e; rfl
      · rfl
    refine ⟨h1.turn (t2.mono (by simp)) rfl rfl (by rw [eg]; exact h1.bg.tn t2 (by simpa using d5)) (by rw [en]; exact h1.bn.tn t2 (by simpa using d6)) k3 (by simp) (by simp [Ar.set]; exact h1.le) (fun k hk => ?_), ((HT.out.1.trans t1.drew (by simp)).mono (by simp)).trans t2 (by simp)⟩
    rw [hat] at hk ⊢
    by_cases hki : k = i
    · subst hki
      rw [if_pos rfl]
      simp [tAt, List.getD, h1.hl, HIN.out.1]
    · rw [if_neg hki] at hk ⊢
      rw [h1.rel k hk]
      simp [tAt, List.getD, Ne.symm hki]
  clear t1 h1 HC HT
  generalize tAt hs i = tx at *
  go_wp2_with fail
  go_region
  go_wp2
  go_ret
  exact ⟨rfl, HE.out⟩

set_option maxHeartbeats 2000000 in
theorem rset_no (h : IsRa w R G N H a hs) (s g : Int) (hg : ¬ a.Good s g) (x : ByteArray) (hs0 : 0 ≤ a.stale) (hs9 : a.stale < 9223372036854775807) : Calls Try.prog 30 #[.pointer (some ⟨R, 0, none⟩), .agg #[.int .i64 s, .int .i64 g], .string x] w fun e w' => e = .returned (.int .i64 7) ∧ IsRa w' R G N H a.bad hs ∧ Tn [R] w w' := by
  obtain ⟨w0, hw0, h0, k0, t0⟩ := h.box s g
  obtain ⟨B, hB⟩ : ∃ B, w.heap.size = B := ⟨_, rfl⟩
  rw [hB] at k0
  have b0 : w0.cell? ⟨B, 0, none⟩ = some (.int .i64 s) := k0.cell 0
  have b1 : w0.cell? ⟨B, 1, none⟩ = some (.int .i64 g) := k0.cell 1
  have HC : Hid _ := rmay_no h0 s g hg hs0 hs9
  have HT : Hid (Tn [] w w0) := t0
  clear h h0 k0 t0 hg hs0 hs9
  go_enter Try.func30, Try.ntmps30
  go_wp2_with fail
  refine Calls.mono HC.out ?_
  rintro r w1 ⟨rfl, h1, t1⟩
  have HE : Hid (IsRa w1 R G N H a.bad hs ∧ Tn [R] w w1) := ⟨h1, (HT.out.mono (by simp)).trans t1 (fun x hx => .inl hx)⟩
  clear t1 h1 HC HT
  go_wp2
  go_ret
  exact ⟨rfl, HE.out⟩

set_option maxHeartbeats 2000000 in
theorem rfree_yes (h : IsRa w R G N H a hs) (s g : Int) (hg : a.Good s g) (z : Value) : Calls Try.prog 31 #[.pointer (some ⟨R, 0, none⟩), .agg #[.int .i64 s, .int .i64 g]] w fun e w' => e = .returned (.int .i64 0) ∧ IsRa w' R G N H (a.free s.toNat z) hs ∧ Tn [G] w w' := by
  obtain ⟨w0, hw0, h0, k0, t0⟩ := h.box s g
  obtain ⟨B, hB⟩ : ∃ B, w.heap.size = B := ⟨_, rfl⟩
  rw [hB] at k0
  have b0 : w0.cell? ⟨B, 0, none⟩ = some (.int .i64 s) := k0.cell 0
  have b1 : w0.cell? ⟨B, 1, none⟩ = some (.int .i64 g) := k0.cell 1
  have HC : Hid _ := rmay_yes h0 s g hg
  have HT : Hid (Tn [] w w0 ∧ IsRa w0 R G N H a hs ∧ Bk w0 B 36 #[.int .i64 s, .int .i64 g]) := ⟨t0, h0, k0⟩
  obtain ⟨i, rfl, hi, -, -⟩ := hg.nat
  have hin : i < a.size := Nat.lt_of_lt_of_le hi h.le
  obtain ⟨n, hn⟩ : ∃ n, a.size = n := ⟨_, rfl⟩
  have HN : Hid (a.size = n) := hn
  have hn6 : n ≤ 65536 := by rw [← hn]; exact h.s2
  have HIN : Hid (i < a.size ∧ i < a.us.length) := ⟨hin, hi⟩
  rw [hn] at hin
  have hi0 : (0 : Int) ≤ (i : Int) := by omega
  have hii : (i : Int) < (n : Int) := by omega
  clear h h0 k0 t0 hg hn hi
  go_enter Try.func31, Try.ntmps31
  go_wp2_with fail
  refine Calls.mono HC.out ?_
  rintro r w1 ⟨rfl, t1⟩
  have h1 : IsRa w1.drew R G N H a hs := HT.out.2.1.quiet t1.drew
  have e0 : w1.drew.cell? ⟨B, 0, none⟩ = some (.int .i64 (i : Int)) := (HT.out.2.2.tn t1.drew (by simp)).cell 0
  have c0 := h1.c0
  have cg := h1.cg HIN.out.1
  have fg : w1.drew.frozen? ⟨G, i, none⟩ = false := h1.bg.frozen i
  rw [HN.out] at c0
  have HE : Hid (IsRa (w1.drew.setCell ⟨G, i, none⟩ (.bool false)) R G N H (a.free i z) hs ∧ Tn [G] w (w1.drew.setCell ⟨G, i, none⟩ (.bool false))) := by
    have t2 : Tn [G] w1.drew (w1.drew.setCell ⟨G, i, none⟩ (.bool false)) := (Tn.refl _ _).setCell (.inl (by simp)) _
    obtain ⟨d1, d2, d3, d4, d5, d6⟩ := h1.dis
    have hat : ∀ k, slAt (a.free i z).us k = if k = i then ⟨(slAt a.us i).gen, false, z⟩ else slAt a.us k := fun k => slAt_set _ _ _ _ HIN.out.2
    have k3 := h1.bg.set i (.bool false)
    rw [gcs_set (a := a) (b := a.free i z) rfl (i := i) (y := false) (fun k => by rw [hat]; split <;> rfl)] at k3
    have en : ncs (a.free i z) = ncs a := by
      simp only [ncs]
      congr 1
      refine List.map_congr_left (fun k _ => ?_)
      rw [hat]
      split
      · rename_i e; subst e; rfl
      · rfl
    refine ⟨h1.turn (t2.mono (by simp)) rfl rfl k3 (by rw [en]; exact h1.bn.tn t2 (by simpa using Ne.symm d4)) (h1.bh.tn t2 (by simpa using Ne.symm d5)) rfl (by simp [Ar.free]; exact h1.le) (fun k hk => ?_), ((HT.out.1.trans t1.drew (by simp)).mono (by simp)).trans t2 (by simp)⟩
    rw [hat] at hk ⊢
    by_cases hki : k = i
    · subst hki
      rw [if_pos rfl] at hk
      cases hk
    · rw [if_neg hki] at hk ⊢
      exact h1.rel k hk
  clear t1 h1 HC HT
  generalize (slAt a.us i).given = bx at *
  go_wp2_with fail
  go_region
  go_wp2
  go_ret
  exact ⟨rfl, HE.out⟩

set_option maxHeartbeats 2000000 in
theorem rfree_no (h : IsRa w R G N H a hs) (s g : Int) (hg : ¬ a.Good s g) (hs0 : 0 ≤ a.stale) (hs9 : a.stale < 9223372036854775807) : Calls Try.prog 31 #[.pointer (some ⟨R, 0, none⟩), .agg #[.int .i64 s, .int .i64 g]] w fun e w' => e = .returned (.int .i64 7) ∧ IsRa w' R G N H a.bad hs ∧ Tn [R] w w' := by
  obtain ⟨w0, hw0, h0, k0, t0⟩ := h.box s g
  obtain ⟨B, hB⟩ : ∃ B, w.heap.size = B := ⟨_, rfl⟩
  rw [hB] at k0
  have b0 : w0.cell? ⟨B, 0, none⟩ = some (.int .i64 s) := k0.cell 0
  have b1 : w0.cell? ⟨B, 1, none⟩ = some (.int .i64 g) := k0.cell 1
  have HC : Hid _ := rmay_no h0 s g hg hs0 hs9
  have HT : Hid (Tn [] w w0) := t0
  clear h h0 k0 t0 hg hs0 hs9
  go_enter Try.func31, Try.ntmps31
  go_wp2_with fail
  refine Calls.mono HC.out ?_
  rintro r w1 ⟨rfl, h1, t1⟩
  have HE : Hid (IsRa w1 R G N H a.bad hs ∧ Tn [R] w w1) := ⟨h1, (HT.out.mono (by simp)).trans t1 (fun x hx => .inl hx)⟩
  clear t1 h1 HC HT
  go_wp2
  go_ret
  exact ⟨rfl, HE.out⟩
end
end Go.Proofs.Ytfbmbjbokmomhaa
