/- The order in which timestamps are published: the boxes of the law, and its check. -/
import Derived.Test.YtdgphlghmjnjfaaOrD
namespace Go.Proofs.Ytdgphlghmjnjfaa
open Go.RowKit Go.Maps Go.Shelf
set_option linter.unusedVariables false
set_option maxRecDepth 100000

def bElem : Value → Option (DataW Bool × List MemPlace)
  | .bool b => some (.held b, [])
  | _ => none
theorem bReads : Reads bElem Value.bool where
  can := fun x => rfl
  inv := fun v z h => by
    unfold bElem at h
    split at h
    · rename_i b
      cases h
      exact ⟨b, rfl, rfl⟩
    · cases h
theorem bZero (w : World) : (zeroValue 4).run Try.prog w = .ok (.bool false) w := by kernel_rfl

theorem Bk.ne {w : World} {a b : Nat} {t u : TypeId} {cs ds : Array Value} (h : Bk w a t cs) (k : Bk w b u ds) (hn : t ≠ u) : a ≠ b := by
  rintro rfl
  have h1 : w.heap[a]? = _ := h
  rw [show w.heap[a]? = _ from k] at h1
  injection h1 with h2
  injection h2 with _ h3 _
  exact hn h3.symm
theorem Mp.neBk {α : Type} {R : Value → Option (DataW α × List MemPlace)} {w : World} {M n b : Nat} {f : Nat → Option α} {t : TypeId} {cs : Array Value} (h : Mp R w M n f) (k : Bk w b t cs) : M ≠ b := by
  rintro rfl
  obtain ⟨es, clock, hb⟩ := h.block
  rw [Bk, hb] at k
  cases k

/-- What is pending. -/
def Or.pendF (o : Or) (i : Nat) : Option Bool := if (decide (i ≤ o.last) && !o.isP i) = true then some true else none

theorem Or.pendF_next {o : Or} (h : o.Ok) : upd o.pendF (o.last + 1) true = Or.pendF { o with last := o.last + 1 } := by
  funext i
  have e : ∀ i, Or.isP { o with last := o.last + 1 } i = o.isP i := fun i => rfl
  unfold upd Or.pendF
  rw [e]
  by_cases hi : i = o.last + 1
  · subst hi
    rw [Or.isP_above h.toOk0 (by omega)]
    simp
  · rw [if_neg hi]
    by_cases h2 : i ≤ o.last
    · have : i ≤ o.last + 1 := by omega
      simp [h2, this]
    · have : ¬ i ≤ o.last + 1 := by omega
      simp [h2, this]
theorem Or.pendF_pub {o o' : Or} {ts : Nat} (h : o.Pubd ts o') : rid o.pendF (ts : Int) = o'.pendF := by
  funext i
  rw [rid_at]
  unfold Or.pendF
  rw [h.isP, h.last]
  by_cases hi : i = ts
  · simp [hi]
  · simp [hi]
theorem Or.pendF_skip {o : Or} {ts : Nat} (h : o.isP ts = true) : rid o.pendF (ts : Int) = o.pendF := by
  funext i
  rw [rid_at]
  unfold Or.pendF
  by_cases hi : i = ts
  · simp [hi, h]
  · simp [hi]

/-- Where all of it lies. -/
structure OdB where
  X3 : Nat
  X7 : Nat
  X9 : Nat
  X10 : Nat
  P : Nat
  B : Nat
  M : Nat

structure Od (w wr : World) (g : OdB) (L n : Nat) (o : Or) (f : Nat → Option Bool) : Prop where
  k3 : Bk wr g.X3 49 #[.int .u32 (L : Int)]
  k7 : Bk wr g.X7 23 #[.pointer (some ⟨g.B, 0, none⟩)]
  k9 : Bk wr g.X9 2 #[.int .i64 (n : Int)]
  k10 : Bk wr g.X10 51 #[.map (some g.P)]
  mp : Mp bElem wr g.P NN f
  is : IsOr wr g.B g.M o
  ok : o.Ok
  low : ∀ i, i ≤ L → o.isP i = true
  nPM : g.P ≠ g.M
  below : Below w.heap.size w wr
  gP : w.heap.size ≤ g.P
  gB : w.heap.size ≤ g.B
  gM : w.heap.size ≤ g.M
  hL : L < 4294967296
  hn : 1 ≤ n ∧ n ≤ 30

section
variable {w wr w' : World} {g : OdB} {L n : Nat} {o o' : Or} {f f' : Nat → Option Bool}
theorem Od.ort (h : Od w wr g L n o f) (t : Ort wr w' g.B g.M o') (hk : o'.Ok) (hlow : ∀ i, i ≤ L → o'.isP i = true) : Od w w' g L n o' f := by
  have b := h.is.blk
  refine { k3 := h.k3.tn t.tn ?_, k7 := h.k7.tn t.tn ?_, k9 := h.k9.tn t.tn ?_, k10 := h.k10.tn t.tn ?_, mp := h.mp.tn t.tn ?_, is := t.is, ok := hk, low := hlow, nPM := h.nPM, below := h.below.trans (t.tn.below h.below.size (by simp; exact ⟨h.gB, h.gM⟩)), gP := h.gP, gB := h.gB, gM := h.gM, hL := h.hL, hn := h.hn }
  · simp; exact ⟨h.k3.ne b (by decide), fun e => h.is.mp.neBk h.k3 e.symm⟩
  · simp; exact ⟨h.k7.ne b (by decide), fun e => h.is.mp.neBk h.k7 e.symm⟩
  · simp; exact ⟨h.k9.ne b (by decide), fun e => h.is.mp.neBk h.k9 e.symm⟩
  · simp; exact ⟨h.k10.ne b (by decide), fun e => h.is.mp.neBk h.k10 e.symm⟩
  · simp; exact ⟨h.mp.neBk b, h.nPM⟩
theorem Od.map (h : Od w wr g L n o f) (hm : Mp bElem w' g.P NN f') (t : Tn [g.P] wr w') : Od w w' g L n o f' := by
  refine { k3 := h.k3.tn t ?_, k7 := h.k7.tn t ?_, k9 := h.k9.tn t ?_, k10 := h.k10.tn t ?_, mp := hm, is := h.is.tn t ?_ ?_, ok := h.ok, low := h.low, nPM := h.nPM, below := h.below.trans (t.below h.below.size (by simp; exact h.gP)), gP := h.gP, gB := h.gB, gM := h.gM, hL := h.hL, hn := h.hn }
  · simp; exact fun e => h.mp.neBk h.k3 e.symm
  · simp; exact fun e => h.mp.neBk h.k7 e.symm
  · simp; exact fun e => h.mp.neBk h.k9 e.symm
  · simp; exact fun e => h.mp.neBk h.k10 e.symm
  · simp; exact fun e => h.mp.neBk h.is.blk e.symm
  · simp; exact fun e => h.nPM e.symm
theorem Od.blw (h : Od w wr g L n o f) (hb : Below wr.heap.size wr w') : Od w w' g L n o f :=
  { k3 := h.k3.below hb h.k3.lt, k7 := h.k7.below hb h.k7.lt, k9 := h.k9.below hb h.k9.lt, k10 := h.k10.below hb h.k10.lt, mp := h.mp.below hb, is := h.is.below hb, ok := h.ok, low := h.low, nPM := h.nPM, below := h.below.trans (hb.mono h.below.size), gP := h.gP, gB := h.gB, gM := h.gM, hL := h.hL, hn := h.hn }

/-- What the check's loop has found, from above down to j. -/
structure Wt (o : Or) (z j x : Nat) : Prop where
  le : j ≤ x ∧ x ≤ z
  all : ∀ i, j < i → i ≤ x → o.isP i = true
  at_ : x = z ∨ (x + 1 ≤ z ∧ o.isP (x + 1) = false)

theorem Wt.start (o : Or) (z : Nat) : Wt o z z z := ⟨⟨Nat.le_refl _, Nat.le_refl _⟩, fun i h1 h2 => by omega, .inl rfl⟩
theorem Wt.yes {o : Or} {z j x : Nat} (h : Wt o z (j + 1) x) (hp : o.isP (j + 1) = false) : Wt o z j j := by
  have := h.le
  exact ⟨⟨Nat.le_refl _, by omega⟩, fun i h1 h2 => by omega, .inr ⟨by omega, hp⟩⟩
theorem Wt.no {o : Or} {z j x : Nat} (h : Wt o z (j + 1) x) (hp : o.isP (j + 1) = true) : Wt o z j x := by
  have := h.le
  refine ⟨⟨by omega, by omega⟩, fun i h1 h2 => ?_, h.at_⟩
  by_cases hi : i = j + 1
  · rw [hi]; exact hp
  · exact h.all i (by omega) h2
theorem Wt.fin {o : Or} {L x : Nat} (h : Wt o o.last L x) (hk : o.Ok) (hlow : ∀ i, i ≤ L → o.isP i = true) : o.pub = x := by
  refine Or.pub_eq hk (fun i hi => ?_) ?_
  · by_cases h1 : i ≤ L
    · exact hlow i h1
    · exact h.all i (by omega) hi
  · rcases h.at_ with h1 | h1
    · rw [h1]; exact Or.isP_above hk.toOk0 (by omega)
    · exact h1.2

set_option maxHeartbeats 4000000 in
theorem check_any (h : Od w wr g L n o o.pendF) (hl : o.last = L + n) : Calls Try.prog 22 #[.pointer (some ⟨g.X3, 0, none⟩), .pointer (some ⟨g.X9, 0, none⟩), .pointer (some ⟨g.X10, 0, none⟩), .pointer (some ⟨g.X7, 0, none⟩)] wr fun e w' => e = .returned (.bool true) ∧ Below wr.heap.size wr w' := by
  have c3 : wr.cell? ⟨g.X3, 0, none⟩ = some (.int .u32 (L : Int)) := h.k3.cell 0
  have c7 : wr.cell? ⟨g.X7, 0, none⟩ = some (.pointer (some ⟨g.B, 0, none⟩)) := h.k7.cell 0
  have c9 : wr.cell? ⟨g.X9, 0, none⟩ = some (.int .i64 (n : Int)) := h.k9.cell 0
  have c10 : wr.cell? ⟨g.X10, 0, none⟩ = some (.map (some g.P)) := h.k10.cell 0
  have b0 := h.is.c0
  have b1 := h.is.c1
  have b2 := h.is.c2
  have hL := h.hL
  have hn1 := h.hn.1
  have hn2 := h.hn.2
  obtain ⟨z, hz⟩ : ∃ z, L + n = z := ⟨_, rfl⟩
  have hzi : (L : Int) + (n : Int) = (z : Int) := by omega
  have HW0 : Hid (Wt o z z z) := Wt.start o z
  have HLK : Hid (∀ j : Nat, j ≤ z → (Instr.lookup 51 (.map (some g.P)) (.int .i64 (j : Int)) false).run Try.prog wr = .ok (.bool (!o.isP j)) wr) := fun j hj => by
    have := h.mp.look1 bReads (t := 51) Try.underlying51 (bZero wr) (j : Int) (WalkArith.wf_i64 (by omega))
    rw [getI_nat _ _ _ (by simp only [NN]; omega)] at this
    rw [this]
    have e : (o.pendF j).getD false = !o.isP j := by
      unfold Or.pendF
      have : j ≤ o.last := by omega
      cases o.isP j <;> simp [this]
    rw [e]
  have HF : Hid (∀ x, Wt o z L x → o.pub = x) := fun x hx => by
    rw [← hz, ← hl] at hx
    exact hx.fin h.ok h.low
  have HLast : Hid (o.last = z) := by rw [hl, hz]; rfl
  rw [HLast.out] at b0
  clear h hl hz
  go_enter Try.func22, Try.ntmps22
  go_wp2_with fail
  go_loopw [5, 6] (fun m i wq => ∃ j x : Nat, L ≤ j ∧ j ≤ z ∧ i = .int .i64 (j : Int) ∧ m = .int .i64 (x : Int) ∧ Hid (Wt o z j x) ∧ wq = wr) (fun m i _ => (intOf i).toNat - L)
  case atStart => exact ⟨z, z, by omega, Nat.le_refl _, by rw [← hzi], by rw [← hzi], HW0, rfl⟩
  case round =>
    obtain ⟨j, x, hjL, hjz, rfl, rfl, HW, rfl⟩ := hrel
    by_cases hlt : L < j
    · obtain ⟨k, rfl⟩ : ∃ k, j = k + 1 := ⟨j - 1, by omega⟩
      have hli : (L : Int) < ((k + 1 : Nat) : Int) := by omega
      have hlk := HLK.out (k + 1) hjz
      obtain ⟨b, hb⟩ : ∃ b, o.isP (k + 1) = b := ⟨_, rfl⟩
      rw [hb] at hlk
      obtain ⟨j, hj⟩ : ∃ j, k + 1 = j := ⟨_, rfl⟩
      have hjk : (j : Int) - 1 = (k : Int) := by omega
      rw [hj] at hlk hli hjz
      have HP : Hid (o.isP (k + 1) = b ∧ k + 1 = j) := ⟨hb, hj⟩
      rw [hj] at hjL ⊢
      cases b with
      | false =>
        have HW2 : Hid (Wt o z k k) := by
          have h := HW.out
          rw [hj, ← HP.out.2] at h
          exact h.yes HP.out.1
        simp only [Bool.not_false] at hlk
        clear HW hb hj hlt
        go_wp2
        go_roundw
        case rel =>
          have := HP.out.2
          exact ⟨k, k, by omega, by omega, by rw [← hjk], by rw [← hjk], HW2, trivial⟩
        case measure =>
          have := HP.out.2
          simp [intOf]; omega
      | true =>
        have HW2 : Hid (Wt o z k x) := by
          have h := HW.out
          rw [hj, ← HP.out.2] at h
          exact h.no HP.out.1
        simp only [Bool.not_true] at hlk
        clear HW hb hj hlt
        go_wp2
        go_roundw
        case rel =>
          have := HP.out.2
          exact ⟨k, x, by omega, by omega, by rw [← hjk], rfl, HW2, trivial⟩
        case measure =>
          have := HP.out.2
          simp [intOf]; omega
    · obtain rfl : j = L := by omega
      have hx := HF.out x HW.out
      have hd : decide (x = x) = true := by simp
      have hd2 : ((x : Int) == (x : Int)) = true := by simp
      have hz2 : ((z : Int) == (z : Int)) = true := by simp
      have HB : Hid (∀ k, Below wr.heap.size wr (wr.drewN k)) := fun k => ⟨rfl, rfl, rfl, Nat.le_refl _, fun _ _ => rfl⟩
      rw [hx] at b1
      have e1 : IntKind.i64.wrap (j : Int) = (j : Int) := by rw [IntKind.wrap_i64]; omega
      have e2 : IntKind.i64.wrap ((j : Int) + (n : Int)) = (z : Int) := by rw [IntKind.wrap_i64]; omega
      clear hx
      go_wp2_with fail
      go_quiet (first
        | (go_at_call 12; refine Calls.quiet_of_same (published_any (M := g.M) (n := (x : Int)) (by exact b1) (by exact b2)))
        | (go_at_call 11; refine Calls.quiet_of_same (last_any (M := g.M) (n := (z : Int)) (by exact b0) (by exact b2))))
      go_wp2
      go_ret
      exact ⟨rfl, HB.out _⟩
end
/-- What Publish of a timestamp that was given comes to. -/
theorem Or.PubR.ans {o o' : Or} {ts : Nat} {x : Int} (h : o.PubR (ts : Int) x o') (hk : o.Ok) (hl : ts ≤ o.last) : x = (if o.isP ts = true then 1 else 0) ∧ rid o.pendF (ts : Int) = o'.pendF ∧ o'.last = o.last ∧ (∀ i, o.isP i = true → o'.isP i = true) ∧ o'.isP ts = true ∧ o'.Ok := by
  have hm := hk.max
  rcases h with ⟨rfl, rfl, h1⟩ | ⟨t, h0, rfl, h1, h2, h3⟩
  · have hp : o'.isP ts = true := by
      rcases h1 with h1 | h1
      · omega
      · rwa [Or.isPub_nat ts (by simp only [NN]; omega)] at h1
    exact ⟨by rw [if_pos hp], Or.pendF_skip hp, rfl, fun i hi => hi, hp, hk⟩
  · obtain rfl : ts = t := by omega
    refine ⟨by rw [h2]; rfl, Or.pendF_pub h3, h3.last, fun i hi => ?_, ?_, h3.ok⟩
    · rw [h3.isP, hi]; rfl
    · rw [h3.isP]; simp
end Go.Proofs.Ytdgphlghmjnjfaa
