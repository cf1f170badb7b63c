/- An oracle: each call, with whatever it is asked. -/
import Derived.Test.YtdgphlghmjnjfaaOrBg
import Derived.Test.YtdgphlghmjnjfaaOrOpen
namespace Go.Proofs.Ytdgphlghmjnjfaa
open Go.RowKit Go.Maps Go.Shelf
set_option linter.unusedVariables false
set_option maxRecDepth 100000

/-- Nothing falls. -/
structure Or.Le (o o' : Or) : Prop where
  ok : o'.Ok
  pub : o.pub ≤ o'.pub
  water : o.water ≤ o'.water

theorem le_waterL (k p : Nat) (l : List Nat) : k ≤ waterL p l ↔ k ≤ p ∧ ∀ v ∈ l, v = 0 ∨ k + 1 ≤ v := by
  unfold waterL
  induction l generalizing p with
  | nil => simp
  | cons v l ih =>
    simp only [List.foldl_cons, List.mem_cons, forall_eq_or_imp]
    rw [ih]
    by_cases hv : v = 0
    · rw [if_pos hv]
      simp [hv]
    · rw [if_neg hv]
      constructor
      · rintro ⟨h1, h2⟩
        exact ⟨by omega, .inr (by omega), h2⟩
      · rintro ⟨h1, h2, h3⟩
        exact ⟨by omega, h3⟩

theorem Or.Le.refl {o : Or} (h : o.Ok) : o.Le o := ⟨h, Nat.le_refl _, Nat.le_refl _⟩
theorem Or.water_le (o : Or) : o.water ≤ o.pub := waterL_le _ _
theorem Or.water_of {o o' : Or} (hp : o.pub ≤ o'.pub) (hv : ∀ v ∈ o'.views, v ∈ o.views ∨ v = 0 ∨ o.pub + 1 ≤ v) : o.water ≤ o'.water := by
  have h0 : o.water ≤ waterL o.pub o.views := Nat.le_refl _
  have h1 := (le_waterL _ _ _).1 h0
  refine (le_waterL _ _ _).2 ⟨by omega, fun v hm => ?_⟩
  rcases hv v hm with h | h | h
  · exact h1.2 v h
  · exact .inl h
  · exact .inr (by omega)

/-- What Next answers, and makes of it. -/
def Or.nextR (o : Or) : Int × Int × Or := if o.last = 1099511627776 then (0, 5, o) else (((o.last + 1 : Nat) : Int), 0, { o with last := o.last + 1 })
theorem Or.nextR_le {o : Or} (h : o.Ok) : o.Le o.nextR.2.2 := by
  unfold Or.nextR
  split
  · exact Or.Le.refl h
  · have := h.max
    exact ⟨Or.next_ok h (by omega), Nat.le_refl _, Nat.le_refl _⟩
/-- A session's number. -/
def ses (s : Int) : Bool := decide (0 ≤ s) && decide (s ≤ 16)
def Or.openR (o : Or) (s : Int) : Int × Int × Or := if ses s then if o.view s.toNat = 0 then ((o.pub : Int), 0, o.setView s.toNat (o.pub + 1)) else (0, 140, o) else (0, 1, o)
def Or.closeR (o : Or) (s : Int) : Int × Or := if ses s then (if o.view s.toNat = 0 then 141 else 0, o.setView s.toNat 0) else (1, o)
def Or.snapR (o : Or) (s : Int) : Int × Bool := if ses s then (((o.view s.toNat - 1 : Nat) : Int), decide (o.view s.toNat ≠ 0)) else (0, false)
theorem Or.openR_le {o : Or} (h : o.Ok) (s : Int) : o.Le (o.openR s).2.2 := by
  unfold Or.openR
  split
  · split
    · exact ⟨Or.setView_ok h _ _ (Nat.le_refl _), Nat.le_refl _, Or.water_of (Nat.le_refl _) (fun v hv => by
        rcases List.mem_or_eq_of_mem_set hv with hv | rfl
        · exact .inl hv
        · exact .inr (.inr (Nat.le_refl _)))⟩
    · exact Or.Le.refl h
  · exact Or.Le.refl h
theorem Or.closeR_le {o : Or} (h : o.Ok) (s : Int) : o.Le (o.closeR s).2 := by
  unfold Or.closeR
  split
  · exact ⟨Or.setView_ok h _ _ (Nat.zero_le _), Nat.le_refl _, Or.water_of (Nat.le_refl _) (fun v hv => by
      rcases List.mem_or_eq_of_mem_set hv with hv | rfl
      · exact .inl hv
      · exact .inr (.inl rfl))⟩
  · exact Or.Le.refl h

theorem ses_yes {s : Int} (h : ses s = true) : ∃ n : Nat, s = (n : Int) ∧ n < 17 := by
  simp [ses] at h
  exact ⟨s.toNat, by omega, by omega⟩
theorem ses_no {s : Int} (h : ses s = false) : s < 0 ∨ (16 : Int) < s := by
  simp [ses] at h
  omega

/-- What Publish answers, and makes of it. -/
def Or.PubR (o : Or) (q : Int) (e : Int) (o' : Or) : Prop := (e = 1 ∧ o' = o ∧ ((o.last : Int) < q ∨ o.isPub q = true)) ∨ ∃ ts : Nat, q = (ts : Int) ∧ e = 0 ∧ ts ≤ o.last ∧ o.isP ts = false ∧ o.Pubd ts o'
theorem Or.PubR.le {o o' : Or} {q e : Int} (h : o.PubR q e o') (hk : o.Ok) : o.Le o' := by
  rcases h with ⟨_, rfl, _⟩ | ⟨ts, _, _, _, _, p⟩
  · exact Or.Le.refl hk
  · exact ⟨p.ok, p.pub, Or.water_of p.pub (fun v hv => by rw [p.views] at hv; exact .inl hv)⟩

section
variable {w : World} {B M : Nat} {o : Or}
theorem next_all (h : IsOr w B M o) (hk : o.Ok) : Calls Try.prog 17 #[.pointer (some ⟨B, 0, none⟩)] w fun e w' => e = .returned (.tuple #[.int .i64 o.nextR.1, .int .i64 o.nextR.2.1]) ∧ Ort w w' B M o.nextR.2.2 := by
  unfold Or.nextR
  by_cases hm : o.last = 1099511627776
  · simp only [if_pos hm]
    refine (next_full h hm).mono ?_
    rintro e w' ⟨rfl, rfl⟩
    exact ⟨rfl, Ort.refl h⟩
  · simp only [if_neg hm]
    have := hk.max
    exact next_any h (by omega)
theorem open_all (h : IsOr w B M o) (hk : o.Ok) (s : Int) : Calls Try.prog 20 #[.pointer (some ⟨B, 0, none⟩), .int .i64 s] w fun e w' => e = .returned (.tuple #[.int .i64 (o.openR s).1, .int .i64 (o.openR s).2.1]) ∧ Ort w w' B M (o.openR s).2.2 := by
  unfold Or.openR
  by_cases hs : ses s = true
  · simp only [if_pos hs]
    obtain ⟨n, rfl, hn⟩ := ses_yes hs
    rw [Int.toNat_natCast]
    by_cases hv : o.view n = 0
    · simp only [if_pos hv]
      exact open_free h hk n hn hv
    · simp only [if_neg hv]
      refine (open_has h hk n hn hv).mono ?_
      rintro e w' ⟨rfl, rfl⟩
      exact ⟨rfl, Ort.refl h⟩
  · simp only [if_neg hs]
    refine (open_bad h.c2 s (ses_no (by simpa using hs))).mono ?_
    rintro e w' ⟨rfl, rfl⟩
    exact ⟨rfl, Ort.refl h⟩
theorem close_all (h : IsOr w B M o) (hk : o.Ok) (s : Int) : Calls Try.prog 21 #[.pointer (some ⟨B, 0, none⟩), .int .i64 s] w fun e w' => e = .returned (.int .i64 (o.closeR s).1) ∧ Ort w w' B M (o.closeR s).2 := by
  unfold Or.closeR
  by_cases hs : ses s = true
  · simp only [if_pos hs]
    obtain ⟨n, rfl, hn⟩ := ses_yes hs
    rw [Int.toNat_natCast]
    exact close_any h hk n hn
  · simp only [if_neg hs]
    refine (close_bad h.c2 s (ses_no (by simpa using hs))).mono ?_
    rintro e w' ⟨rfl, rfl⟩
    exact ⟨rfl, Ort.refl h⟩
theorem snap_all (h : IsOr w B M o) (hk : o.Ok) (s : Int) : Calls Try.prog 23 #[.pointer (some ⟨B, 0, none⟩), .int .i64 s] w fun e w' => e = .returned (.tuple #[.int .i64 (o.snapR s).1, .bool (o.snapR s).2]) ∧ w' = w := by
  unfold Or.snapR
  by_cases hs : ses s = true
  · simp only [if_pos hs]
    obtain ⟨n, rfl, hn⟩ := ses_yes hs
    rw [Int.toNat_natCast]
    have h1 := Or.view_le hk.toOk0 n
    have h2 := hk.le
    have h3 := hk.max
    exact snap_any h.c2 n (o.view n) hn (h.cv n (by rw [hk.v17]; exact hn)) (by omega)
  · simp only [if_neg hs]
    exact snap_bad h.c2 s (ses_no (by simpa using hs))
theorem publish_all (h : IsOr w B M o) (hk : o.Ok) (q : Int) (hq : (Lit.int .i64 q).wf = true) : Calls Try.prog 18 #[.pointer (some ⟨B, 0, none⟩), .int .i64 q] w fun e w' => ∃ x o', e = .returned (.int .i64 x) ∧ Ort w w' B M o' ∧ o.PubR q x o' := by
  by_cases hb : (o.last : Int) < q ∨ o.isPub q = true
  · refine (publish_bad h q hq hb).mono ?_
    rintro e w' ⟨rfl, hbl⟩
    exact ⟨1, o, rfl, Ort.of_below h hbl, .inl ⟨rfl, rfl, hb⟩⟩
  · have h1 : ¬ (o.last : Int) < q := fun x => hb (.inl x)
    have h2 : o.isPub q = false := by simpa using fun x => hb (.inr x)
    have h3 : ¬ q < 0 := fun x => by rw [Or.isPub_neg x] at h2; cases h2
    obtain ⟨ts, rfl⟩ : ∃ ts : Nat, q = (ts : Int) := ⟨q.toNat, by omega⟩
    have hm := hk.max
    rw [Or.isPub_nat ts (by simp only [NN]; omega)] at h2
    refine (publish_any h hk ts (by omega) h2).mono ?_
    rintro e w' ⟨rfl, o', t, p⟩
    exact ⟨0, o', rfl, t, .inr ⟨ts, rfl, rfl, by omega, h2, p⟩⟩
end

/-- An operation's timestamp. -/
def Oop.stamp (g : Oop) (last : Nat) : Int := if g.odd = true ∨ g.ts < 0 ∨ 1099511627776 < g.ts then g.ts else (last : Int) - g.ts
theorem Oop.stamp_wf {g : Oop} (h : g.ok) (last : Nat) (hl : last ≤ 1099511627776) : (Lit.int .i64 (g.stamp last)).wf = true := by
  refine WalkArith.wf_i64 ?_
  unfold Oop.stamp
  have := h.2
  split
  · omega
  · omega

set_option maxHeartbeats 1000000 in
theorem stamp_any (w : World) (g : Oop) (last : Nat) (hl : last ≤ 1099511627776) : Calls Try.prog 19 #[g.val, .int .i64 (last : Int)] w fun e w' => e = .returned (.int .i64 (g.stamp last)) ∧ Below w.heap.size w w' := by
  obtain ⟨dd, s, ts, odd⟩ := g
  have HB : Hid (∀ o, Below w.heap.size w (w.alloc o)) := fun o => (Below.refl _ w).alloc (Nat.le_refl _) _
  unfold Oop.stamp
  cases odd with
  | true =>
    simp only [true_or, if_true]
    go_enter Try.func19, Try.ntmps19
    go_wp2
    go_ret
    exact ⟨rfl, HB.out _⟩
  | false =>
    by_cases h1 : ts < 0
    · simp only [h1, true_or, or_true, if_true]
      go_enter Try.func19, Try.ntmps19
      go_wp2
      go_ret
      exact ⟨rfl, HB.out _⟩
    · by_cases h2 : (1099511627776 : Int) < ts
      · simp only [h2, or_true, if_true]
        go_enter Try.func19, Try.ntmps19
        go_wp2
        go_ret
        exact ⟨rfl, HB.out _⟩
      · rw [if_neg (by simp [h1, h2])]
        go_enter Try.func19, Try.ntmps19
        go_wp2
        go_ret
        exact ⟨rfl, HB.out _⟩
/-- The same, of an operation that was loaded. -/
theorem stamp_box {g : Oop} {d : Int} (hd : g.dd = d) (w : World) (last : Nat) (hl : last ≤ 1099511627776) : Calls Try.prog 19 #[.agg #[.int .i64 d, .int .i64 g.s, .int .i64 g.ts, .bool g.odd], .int .i64 (last : Int)] w fun e w' => e = .returned (.int .i64 (g.stamp last)) ∧ Below w.heap.size w w' := by
  subst hd
  exact stamp_any w g last hl
end Go.Proofs.Ytdgphlghmjnjfaa
