/- An oracle: Next, Publish, and how Published catches up. -/
import Derived.Test.YtdgphlghmjnjfaaOrA
namespace Go.Proofs.Ytdgphlghmjnjfaa
open Go.RowKit Go.Maps
set_option linter.unusedVariables false
set_option maxRecDepth 100000

theorem rid_at {α : Type} (f : Nat → Option α) (i j : Nat) : rid f (i : Int) j = if j = i then none else f j := by
  unfold rid
  by_cases h : j = i
  · simp [h]
  · rw [if_neg (by omega), if_neg h]

/-- The next one is let in. -/
def Or.rise (o : Or) : Or := { o with pub := o.pub + 1, ah := rid o.ah ((o.pub + 1 : Nat) : Int) }

theorem Or.rise_ok {o : Or} (h : o.Ok0) (hn : (o.ah (o.pub + 1)).isSome = true) : o.rise.Ok0 where
  le := (h.ah _ hn).2
  max := h.max
  ah := fun i hi => by
    simp only [Or.rise, rid_at] at hi
    split at hi
    · cases hi
    · rename_i hne
      have := h.ah i hi
      simp only [Or.rise]
      omega
  v17 := h.v17
  vle := fun v hv => by
    have := h.vle v hv
    simp only [Or.rise]
    omega

theorem Or.rise_isP {o : Or} (hn : (o.ah (o.pub + 1)).isSome = true) (i : Nat) : o.rise.isP i = o.isP i := by
  unfold Or.isP Or.rise
  simp only [rid_at]
  by_cases h : i = o.pub + 1
  · subst h
    simp [hn]
  · rw [if_neg h]
    congr 1
    by_cases h2 : i ≤ o.pub
    · simp [h2]; omega
    · simp [h2]; omega

/-- What Published's rise makes of it. -/
structure Or.Up (o o' : Or) : Prop where
  ok : o'.Ok0
  last : o'.last = o.last
  views : o'.views = o.views
  pub : o.pub ≤ o'.pub
  isP : ∀ i, o'.isP i = o.isP i

theorem Or.Up.refl {o : Or} (h : o.Ok0) : o.Up o := ⟨h, rfl, rfl, Nat.le_refl _, fun _ => rfl⟩
theorem Or.Up.rise {o o' : Or} (h : o.Up o') (hn : (o'.ah (o'.pub + 1)).isSome = true) : o.Up o'.rise :=
  ⟨Or.rise_ok h.ok hn, h.last, h.views, by have := h.pub; simp only [Or.rise]; omega, fun i => (Or.rise_isP hn i).trans (h.isP i)⟩

/-- A number in a cell. -/
def cellN (v : Option Value) : Nat := match v with | some (.int _ n) => n.toNat | _ => 0

set_option maxHeartbeats 2000000 in
theorem catchUp_any {w : World} {B M : Nat} {o : Or} (h : IsOr w B M o) (hk : o.Ok0) : Calls Try.prog 37 #[.pointer (some ⟨B, 0, none⟩)] w fun e w' => (∃ v, e = .returned v) ∧ ∃ o', Ort w w' B M o' ∧ o.Up o' ∧ o'.ah (o'.pub + 1) = none := by
  have HH : Hid (IsOr w B M o ∧ o.Ok0) := ⟨h, hk⟩
  obtain ⟨L, hL⟩ : ∃ L, o.last = L := ⟨_, rfl⟩
  have HL : Hid (o.last = L) := hL
  clear h hk hL
  go_enter Try.func37, Try.ntmps37
  go_wp2_with fail
  go_loopw [] (fun wr => ∃ o', Hid (Ort w wr B M o' ∧ o.Up o')) (fun wr => L - cellN (wr.cell? ⟨B, 1, none⟩))
  case atStart => exact ⟨o, Ort.refl HH.out.1, Or.Up.refl HH.out.2⟩
  case round =>
    obtain ⟨o', HO⟩ := hrel
    have his := HO.out.1.is
    have c1 := his.c1
    have c2 := his.c2
    have hmx := HO.out.2.ok.max
    have hle := HO.out.2.ok.le
    obtain ⟨n, hn⟩ : ∃ n, o'.pub = n := ⟨_, rfl⟩
    have HN : Hid (o'.pub = n ∧ o'.last = L) := ⟨hn, HO.out.2.last.trans HL.out⟩
    have HM : Hid (cellN (wr.cell? ⟨B, 1, none⟩) = n) := by rw [c1, hn]; simp [cellN, Hid]
    rw [hn] at c1 hle
    obtain ⟨m, hnm⟩ : ∃ m, n + 1 = m := ⟨_, rfl⟩
    have hw : wrap64 ((n : Int) + 1) = (m : Int) := by unfold wrap64; omega
    have hl := his.mp.look uReads (t := 58) Try.underlying58 (uZero wr) (m : Int) (WalkArith.wf_i64 (by omega))
    rw [getI_nat _ _ _ (by simp only [NN]; omega)] at hl
    obtain ⟨w1, hw1⟩ : ∃ w1, wr.alloc (.cells #[] 53) = w1 := ⟨_, rfl⟩
    have hb : Below wr.heap.size wr w1 := hw1 ▸ (Below.refl _ wr).alloc (Nat.le_refl _) _
    have his1 := his.below hb
    have ht1 : Ort w w1 B M o' := HO.out.1.trans (Ort.of_below his hb)
    by_cases hg : o'.ah m = none
    · rw [hg] at hl
      simp only [Option.isSome_none, uv] at hl
      have HE : Hid (∃ o', Ort w w1 B M o' ∧ o.Up o' ∧ o'.ah (o'.pub + 1) = none) := ⟨o', ht1, HO.out.2, by rw [hn, hnm]; exact hg⟩
      clear hb his his1 ht1 hn hg hmx hle hnm
      go_wp2_with fail
      refine (aload_any c1).mono ?_
      rintro e w2 ⟨rfl, rfl⟩
      go_wp2
      refine bodyPost_ret (results_none rfl _ _ _) rfl ?_
      exact ⟨⟨_, rfl⟩, HE.out⟩
    · obtain ⟨u, hu⟩ := Option.ne_none_iff_exists'.1 hg
      rw [hu] at hl
      simp only [Option.isSome_some, uv] at hl
      have hs : (o'.ah (o'.pub + 1)).isSome = true := by rw [hn, hnm, hu]; rfl
      have c21 := his1.c2
      obtain ⟨w3, hd, hm3, ht3⟩ := his1.mp.del (t := 58) Try.underlying58 (m : Int) (WalkArith.wf_i64 (by omega)) 0
      have his3 := his1.setMap hm3 ht3
      have c13 := his3.c1
      have f13 : w3.frozen? ⟨B, 1, none⟩ = false := his3.blk.frozen 1
      simp only [hn] at c13
      obtain ⟨w4, hw4⟩ : ∃ w4, w3.setCell ⟨B, 1, none⟩ (.int .i64 (m : Int)) = w4 := ⟨_, rfl⟩
      have his4 : IsOr w4 B M o'.rise := by
        have := his3.setPub m
        rw [hw4] at this
        have e : o'.rise = { o' with pub := m, ah := rid o'.ah (m : Int) } := by simp only [Or.rise, hn, hnm]
        rw [e]
        exact this
      have ht4 : Tn [B, M] w1 w4 := by
        rw [← hw4]
        exact (ht3.mono (by simp)).setCell (.inl (by simp)) _
      have HE : Hid (Ort w w4 B M o'.rise ∧ o.Up o'.rise) := ⟨⟨his4, ht1.tn.trans ht4 (fun x hx => .inl hx)⟩, HO.out.2.rise hs⟩
      have hrl := (Or.rise_ok HO.out.2.ok hs).le
      have HR : Hid (cellN (w4.cell? ⟨B, 1, none⟩) = m ∧ m ≤ L) := by
        refine ⟨?_, ?_⟩
        · rw [his4.c1]
          simp [cellN, Or.rise, hn, hnm]
        · rw [← HN.out.2, ← hnm, ← hn]; exact hrl
      clear hb his his1 ht1 hn hg hmx hle hm3 ht3 his3 his4 ht4 hrl hs hu
      have HW4 : Hid _ := hw4
      clear hw4
      have HNM : Hid (n + 1 = m) := hnm
      clear hnm
      go_wp2_with fail
      refine (aload_any c1).mono ?_
      rintro e w2 ⟨rfl, rfl⟩
      go_wp2_with fail
      refine (astore_any c13 f13).mono ?_
      rintro e w5 ⟨rfl, hw5⟩
      obtain rfl : w5 = w4 := hw5.trans HW4.out
      clear hw5 HW4
      go_wp2
      go_roundw
      case rel => exact ⟨_, HE⟩
      case measure =>
        have h1 := HR.out
        have h2 := HM.out
        have h3 := HNM.out
        omega

section
variable {w : World} {B M : Nat} {o : Or}

theorem next_full (h : IsOr w B M o) (hm : o.last = 1099511627776) : Calls Try.prog 17 #[.pointer (some ⟨B, 0, none⟩)] w fun e w' => e = .returned (.tuple #[.int .i64 0, .int .i64 5]) ∧ w' = w := by
  have c0 := h.c0
  have c2 := h.c2
  rw [hm] at c0
  clear h hm
  go_enter Try.func17, Try.ntmps17
  go_wp2_with fail
  refine (made_any c2).mono ?_
  rintro e w1 ⟨rfl, rfl⟩
  go_wp2_with fail
  refine (aload_any c0).mono ?_
  rintro e w1 ⟨rfl, rfl⟩
  go_wp2
  go_ret2
  exact ⟨rfl, rfl⟩

theorem next_any (h : IsOr w B M o) (hm : o.last < 1099511627776) : Calls Try.prog 17 #[.pointer (some ⟨B, 0, none⟩)] w fun e w' => e = .returned (.tuple #[.int .i64 ((o.last + 1 : Nat) : Int), .int .i64 0]) ∧ Ort w w' B M { o with last := o.last + 1 } := by
  have c0 := h.c0
  have c2 := h.c2
  have f0 : w.frozen? ⟨B, 0, none⟩ = false := h.blk.frozen 0
  have HE : Hid (Ort w (w.setCell ⟨B, 0, none⟩ (.int .i64 ((o.last + 1 : Nat) : Int))) B M { o with last := o.last + 1 }) := ⟨h.setLast _, (Tn.refl _ w).setCell (.inl (by simp)) _⟩
  clear h
  generalize o.last = n at *
  have hne : ¬ (n : Int) = 1099511627776 := by omega
  go_enter Try.func17, Try.ntmps17
  go_wp2_with fail
  refine (made_any c2).mono ?_
  rintro e w1 ⟨rfl, rfl⟩
  go_wp2_with fail
  refine (aload_any c0).mono ?_
  rintro e w1 ⟨rfl, rfl⟩
  go_wp2_with fail
  refine (aadd_any c0 f0 (by omega)).mono ?_
  rintro e w1 ⟨rfl, rfl⟩
  go_wp2
  go_ret2
  exact ⟨rfl, HE.out⟩

theorem Or.next_ok (h : o.Ok) (hm : o.last < 1099511627776) : Or.Ok { o with last := o.last + 1 } where
  le := by have := h.le; simp only; omega
  max := by simp only; omega
  ah := fun i hi => by have := h.ah i hi; simp only; omega
  v17 := h.v17
  vle := h.vle
  gap := h.gap

theorem next_no {v : Value} (h : Nm w v) : Calls Try.prog 17 #[v] w fun e w' => e = .returned (.tuple #[.int .i64 0, .int .i64 2]) ∧ w' = w := by
  go_enter Try.func17, Try.ntmps17
  go_wp2_with fail
  refine (made_no h).mono ?_
  rintro e w1 ⟨rfl, rfl⟩
  go_wp2
  go_ret2
  exact ⟨rfl, rfl⟩

theorem publish_no {v : Value} (h : Nm w v) (q : Int) : Calls Try.prog 18 #[v, .int .i64 q] w fun e w' => e = .returned (.int .i64 2) ∧ w' = w := by
  go_enter Try.func18, Try.ntmps18
  go_wp2_with fail
  refine (made_no h).mono ?_
  rintro e w1 ⟨rfl, rfl⟩
  go_wp2
  go_ret
  exact ⟨rfl, rfl⟩

theorem publish_bad (h : IsOr w B M o) (q : Int) (hq : (Lit.int .i64 q).wf = true) (hb : (o.last : Int) < q ∨ o.isPub q = true) : Calls Try.prog 18 #[.pointer (some ⟨B, 0, none⟩), .int .i64 q] w fun e w' => e = .returned (.int .i64 1) ∧ Below w.heap.size w w' := by
  have c0 := h.c0
  have c2 := h.c2
  by_cases h1 : (o.last : Int) < q
  · clear hb
    go_enter Try.func18, Try.ntmps18
    go_wp2_with fail
    refine (made_any c2).mono ?_
    rintro e w1 ⟨rfl, rfl⟩
    go_wp2_with fail
    refine (aload_any c0).mono ?_
    rintro e w1 ⟨rfl, rfl⟩
    go_wp2
    go_ret
    exact ⟨rfl, Below.refl _ _⟩
  · have hb : Hid (o.isPub q = true) := hb.resolve_left h1
    go_enter Try.func18, Try.ntmps18
    go_wp2_with fail
    refine (made_any c2).mono ?_
    rintro e w1 ⟨rfl, rfl⟩
    go_wp2_with fail
    refine (aload_any c0).mono ?_
    rintro e w1 ⟨rfl, rfl⟩
    go_wp2_with fail
    refine (isPub_any h q hq).mono ?_
    rintro e w1 ⟨rfl, hbl⟩
    rw [hb.out]
    go_wp2
    go_ret
    exact ⟨rfl, hbl⟩

/-- What Publish makes of it. -/
structure Or.Pubd (o : Or) (ts : Nat) (o' : Or) : Prop where
  ok : o'.Ok
  last : o'.last = o.last
  views : o'.views = o.views
  pub : o.pub ≤ o'.pub
  isP : ∀ i, o'.isP i = (o.isP i || decide (i = ts))

end
end Go.Proofs.Ytdgphlghmjnjfaa
