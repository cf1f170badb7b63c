/- Prune: which versions are kept. -/
import Derived.Test.YtilabcolfabnmaaVsE
import Derived.Test.YtilabcolfabnmaaGnT
namespace Go.Proofs.Ytilabcolfabnmaa
open Go.RowKit Go.Sort
set_option linter.unusedVariables false
set_option maxRecDepth 100000

/-- What was kept and not, and whether one was met that is not above the mark. -/
structure Ps where
  kept : List Vs
  rest : List Vs
  found : Bool

namespace Vr
def pstep (mark : Int) (s : Ps) (x : Vs) : Ps :=
  if mark < x.ts then ⟨s.kept ++ [x], s.rest, s.found⟩ else if (!s.found && !x.del) = true then ⟨s.kept ++ [x], s.rest, true⟩ else ⟨s.kept, s.rest ++ [x], true⟩
def prune (mark : Int) (l : List Vs) : Ps := l.foldl (pstep mark) ⟨[], [], false⟩

theorem prune_snoc (mark : Int) (l : List Vs) (x : Vs) : prune mark (l ++ [x]) = pstep mark (prune mark l) x := by simp [prune]
theorem prune_take {mark : Int} {l : List Vs} {k : Nat} {x : Vs} (h : l[k]? = some x) : prune mark (l.take (k + 1)) = pstep mark (prune mark (l.take k)) x := by
  rw [List.take_add_one, h]
  exact prune_snoc _ _ _

theorem pstep_up {mark : Int} {s : Ps} {x : Vs} (h : mark < x.ts) : pstep mark s x = ⟨s.kept ++ [x], s.rest, s.found⟩ := if_pos h
theorem pstep_first {mark : Int} {s : Ps} {x : Vs} (h : x.ts ≤ mark) (hf : s.found = false) (hd : x.del = false) : pstep mark s x = ⟨s.kept ++ [x], s.rest, true⟩ := by
  unfold pstep
  rw [if_neg (by omega), hf, hd]
  rfl
theorem pstep_found {mark : Int} {s : Ps} {x : Vs} (h : x.ts ≤ mark) (hf : s.found = true) : pstep mark s x = ⟨s.kept, s.rest ++ [x], true⟩ := by
  unfold pstep
  rw [if_neg (by omega), hf]
  rfl
theorem pstep_del {mark : Int} {s : Ps} {x : Vs} (h : x.ts ≤ mark) (hd : x.del = true) : pstep mark s x = ⟨s.kept, s.rest ++ [x], true⟩ := by
  unfold pstep
  rw [if_neg (by omega), hd, Bool.not_true, Bool.and_false]
  rfl

theorem prune_len (mark : Int) (l : List Vs) : (prune mark l).kept.length + (prune mark l).rest.length = l.length := by
  suffices h : ∀ (l : List Vs) (s : Ps), (l.foldl (pstep mark) s).kept.length + (l.foldl (pstep mark) s).rest.length = s.kept.length + s.rest.length + l.length by
    have := h l ⟨[], [], false⟩
    simpa [prune] using this
  intro l
  induction l with
  | nil => intro s; simp
  | cons x r ih =>
    intro s
    rw [List.foldl_cons, ih, List.length_cons]
    unfold pstep
    split
    · simp only [List.length_append, List.length_cons, List.length_nil]; omega
    · split <;> (simp only [List.length_append, List.length_cons, List.length_nil]; omega)

theorem found_some {mark : Int} {l : List Vs} {b : Nat} (h : seen l mark = some b) (k : Nat) : (prune mark (l.take k)).found = decide (b < k) := by
  obtain ⟨x, hx, -, hle, hup⟩ := seen_some h
  induction k with
  | zero => simp [prune]
  | succ k ih =>
    cases hk : l[k]? with
    | none =>
      have hlk : l.length ≤ k := by simpa using hk
      have hb : b < l.length := (List.getElem?_eq_some_iff.1 hx).1
      rw [List.take_of_length_le (by omega)] at ih ⊢
      rw [ih]
      simp
      omega
    | some y =>
      rw [prune_take hk]
      by_cases hy : mark < y.ts
      · rw [pstep_up hy]
        show (prune mark (l.take k)).found = _
        rw [ih]
        have : b ≠ k := fun e => by
          subst e
          rw [hx] at hk
          cases hk
          omega
        simp
        omega
      · have hbk : b ≤ k := by
          rcases Nat.lt_or_ge k b with h1 | h1
          · exact absurd (show y.ts ≤ mark by omega) (hup k y h1 hk)
          · exact h1
        rw [decide_eq_true (by omega)]
        unfold pstep
        rw [if_neg hy]
        split <;> rfl

theorem found_none {mark : Int} {l : List Vs} (h : seen l mark = none) (k : Nat) : (prune mark (l.take k)).found = false := by
  have hup := (seen_none h).2
  induction k with
  | zero => simp [prune]
  | succ k ih =>
    cases hk : l[k]? with
    | none =>
      have hlk : l.length ≤ k := by simpa using hk
      rw [List.take_of_length_le (by omega)] at ih ⊢
      exact ih
    | some y =>
      rw [prune_take hk, pstep_up (by have := hup y (List.mem_of_getElem? hk); omega)]
      exact ih

/-- The code's place of the one that is kept besides. -/
def base (l : List Vs) (mark : Int) : Int := match seen l mark with | some b => if (l.getD b Vs.zero).del then -1 else b | none => -1

theorem base_iff {l : List Vs} {mark : Int} {k : Nat} {x : Vs} (hx : l[k]? = some x) (hle : x.ts ≤ mark) : ((k : Int) == base l mark) = (!(prune mark (l.take k)).found && !x.del) := by
  unfold base
  cases h : seen l mark with
  | none => exact absurd hle ((seen_none h).2 x (List.mem_of_getElem? hx))
  | some b =>
    obtain ⟨y, hy, -, hyl, hup⟩ := seen_some h
    rw [found_some h]
    have hbk : b ≤ k := by
      rcases Nat.lt_or_ge k b with h1 | h1
      · exact absurd hle (hup k x h1 hx)
      · exact h1
    show ((k : Int) == if (l.getD b Vs.zero).del = true then -1 else (b : Int)) = _
    have hd : l.getD b Vs.zero = y := by simp [List.getD, hy]
    rw [hd]
    by_cases e : b = k
    · subst e
      rw [hx] at hy
      cases hy
      cases hdel : x.del <;> simp
    · have h1 : b < k := by omega
      rw [decide_eq_true h1, Bool.not_true, Bool.false_and, beq_eq_false_iff_ne]
      split <;> omega
end Vr

abbrev TwoV (w W : World) (v1 v2 : Value) (a b : List Vs) : Prop := TwoR Vs.cells 3 48 w W v1 v2 a b

theorem TwoV.room {w W : World} {v1 v2 : Value} {mark : Int} {l : List Vs} {k n : Nat} (h : TwoV w W v1 v2 (Vr.prune mark (l.take k)).kept (Vr.prune mark (l.take k)).rest) (hk : k < n) (hn : n ≤ 4398046510976) : (Vr.prune mark (l.take k)).kept.length < n ∧ (Vr.prune mark (l.take k)).rest.length < n := by
  have := Vr.prune_len mark (l.take k)
  have h2 := List.length_take_le k l
  omega

set_option maxHeartbeats 4000000 in
theorem prune_any (p : Option Addr) (n c : Nat) (l : List Vs) (mark : Int) (w : World) (hn : l.length = n) (hx : Vrs w p l) (hl : n ≤ 4398046510976) :
    Calls Try.prog 23 #[.slice p n c, .int .i64 mark] w fun e w' => ∃ v1 v2, e = .returned (.tuple #[v1, v2]) ∧ TwoV w w' v1 v2 (Vr.prune mark l).kept (Vr.prune mark l).rest := by
  have hcall := seen_any p n c l mark w hn hx (by omega)
  have HX : Hid (Vrs w p l) := hx
  have HN : Hid (l.length = n) := hn
  have HBI : Hid (∀ (k : Nat) x, l[k]? = some x → x.ts ≤ mark → ((k : Int) == Vr.base l mark) = (!(Vr.prune mark (l.take k)).found && !x.del)) := fun k x h1 h2 => Vr.base_iff h1 h2
  obtain ⟨bs, hbs⟩ : ∃ bs, Vr.base l mark = bs := ⟨_, rfl⟩
  have HTK : Hid (l.take n = l) := List.take_of_length_le (by omega)
  rw [hbs] at HBI
  -- the base
  have HB : Hid (∀ W : World, Below w.heap.size w W → (∃ k : Nat, k < n ∧ Vr.atI l mark = (k : Int) ∧ ∃ b o d, p = some ⟨b, o, none⟩ ∧ W.cell? ⟨b, o + k * 3 + 2, none⟩ = some (.bool d) ∧ bs = if d then -1 else (k : Int)) ∨ (Vr.atI l mark = -1 ∧ bs = -1)) := fun W hW => by
    unfold Vr.atI
    rw [← hbs]
    unfold Vr.base
    cases h : Vr.seen l mark with
    | none => exact .inr ⟨rfl, rfl⟩
    | some k =>
      obtain ⟨y, hy, -, -, -⟩ := Vr.seen_some h
      have hkl : k < l.length := (List.getElem?_eq_some_iff.1 hy).1
      obtain ⟨b, o, x, rfl, hxk, -, -, c2⟩ := Vrs.cells (Els.below hx hW (Nat.le_refl _)) (j := k) hkl
      rw [hy] at hxk
      cases hxk
      exact .inl ⟨k, by omega, rfl, b, o, y.del, rfl, c2, by simp [List.getD, hy]⟩
  clear hx hn hbs
  go_enter Try.func23, Try.ntmps23
  go_wp2_with fail
  refine hcall.mono ?_
  rintro e w1 ⟨rfl, hb1⟩
  have HW1 : Hid (Below w.heap.size w w1) := hb1
  have HEND : Hid (∀ v1 v2 W, TwoV w W v1 v2 (Vr.prune mark (l.take n)).kept (Vr.prune mark (l.take n)).rest → TwoV w W v1 v2 (Vr.prune mark l).kept (Vr.prune mark l).rest) := fun v1 v2 W h => by rw [HTK.out] at h; exact h
  obtain ⟨at0, hat0⟩ : ∃ x, Vr.atI l mark = x := ⟨_, rfl⟩
  have hbase := HB.out w1 hb1
  rw [hat0] at hbase ⊢
  clear hcall hb1 hat0 HB
  rcases hbase with ⟨k0, hk0, rfl, b0, o0, d0, rfl, hc0, hbs0⟩ | ⟨rfl, hbs0⟩
  · have hk0i : (k0 : Int) < (n : Int) := by omega
    have hk00 : (0 : Int) ≤ (k0 : Int) := by omega
    cases d0 with
    | true =>
      simp only [if_true] at hbs0
      subst hbs0
      go_wp2_with fail
      go_loopw [7, 8, 25] (fun a1 a2 i wr => ∃ k : Nat, k ≤ n ∧ i = .int .i64 k ∧ Hid (TwoV w wr a1 a2 (Vr.prune mark (l.take k)).kept (Vr.prune mark (l.take k)).rest)) (fun _ _ i _ => n - (intOf i).toNat)
      case atStart => exact ⟨0, Nat.zero_le _, rfl, TwoR.nil _ HW1.out⟩
      case round =>
        obtain ⟨k, hk, rfl, HT⟩ := hrel
        by_cases hlt : k < n
        · have hli : (k : Int) < (n : Int) := by omega
          obtain ⟨b, o, x, hp, hg, c0, c1, c2⟩ := Vrs.cells (Els.below HX.out HT.out.below (Nat.le_refl _)) (j := k) (by have := HN.out; omega)
          try cases hp
          have HPT : Hid (Vr.prune mark (l.take (k + 1)) = Vr.pstep mark (Vr.prune mark (l.take k)) x) := Vr.prune_take hg
          have HR : Hid ((Vr.prune mark (l.take k)).kept.length < n ∧ (Vr.prune mark (l.take k)).rest.length < n) := HT.out.room hlt hl
          have HBX := HBI.out k x hg
          obtain ⟨x1, x2, x3⟩ := x
          obtain ⟨w2, hw2⟩ : ∃ w2, wr.alloc (.cells #[.int .i64 x1, .string x2, .bool x3] 48) = w2 := ⟨_, rfl⟩
          have k2 : Bk w2 wr.heap.size 48 #[.int .i64 x1, .string x2, .bool x3] := by rw [← hw2]; exact Bk.new _ _ _
          have d0 : w2.cell? ⟨wr.heap.size, 0, none⟩ = some (.int .i64 x1) := k2.cell 0
          have d1 : w2.cell? ⟨wr.heap.size, 1, none⟩ = some (.string x2) := k2.cell 1
          have d2 : w2.cell? ⟨wr.heap.size, 2, none⟩ = some (.bool x3) := k2.cell 2
          have HT2 : Hid (TwoV w w2 u7 u8 (Vr.prune mark (l.take k)).kept (Vr.prune mark (l.take k)).rest) := by rw [← hw2]; exact TwoR.up HT.out ((Below.refl _ _).alloc (Nat.le_refl _) _)
          clear hg k2
          by_cases hm : mark < x1
          · have HP2 : Hid (Vr.prune mark (l.take (k + 1)) = ⟨(Vr.prune mark (l.take k)).kept ++ [⟨x1, x2, x3⟩], (Vr.prune mark (l.take k)).rest, (Vr.prune mark (l.take k)).found⟩) := HPT.out.trans (Vr.pstep_up hm)
            clear HBX
            go_wp2_with (at_builtin; refine app1L vknd Try.underlying44 vinfo rfl w2 rfl _ _ rfl w.heap.size u7 _ rfl ⟨x1, x2, x3⟩ _ rfl rfl _ rfl HT2.out.o1 (by have := HR.out; unfold maxLen; omega) (by have := HR.out; omega) HT2.out.below.size ?_; intro v3 w3 h1 h2 h3)
            have HT3 : Hid (TwoV w w3 v3 u8 (Vr.prune mark (l.take (k + 1))).kept (Vr.prune mark (l.take (k + 1))).rest) := by unfold Hid; rw [HP2.out]; exact TwoR.app HT2.out h1 h2 h3
            clear h1 h2 h3
            go_wp2
            go_roundw
            case rel => exact ⟨k + 1, by omega, by go_num, HT3⟩
            case measure => simp [intOf]; omega
          · have hle : x1 ≤ mark := by omega
            have hmm : ¬ mark < x1 := hm
            have hbx := HBX hle
            clear HBX
            cases hkeep : (!(Vr.prune mark (l.take k)).found && !x3) with
            | true =>
              rw [hkeep] at hbx
              exact absurd (eq_of_beq hbx) (by omega)
            | false =>
              rw [hkeep] at hbx
              have HP2 : Hid (Vr.prune mark (l.take (k + 1)) = ⟨(Vr.prune mark (l.take k)).kept, (Vr.prune mark (l.take k)).rest ++ [⟨x1, x2, x3⟩], true⟩) := by
                unfold Hid
                rw [HPT.out]
                unfold Vr.pstep
                rw [if_neg hm, hkeep]
                rfl
              clear hkeep
              go_wp2_with (at_builtin; refine app1L vknd Try.underlying44 vinfo rfl w2 rfl _ _ rfl w.heap.size u8 _ rfl ⟨x1, x2, x3⟩ _ rfl rfl _ rfl HT2.out.o2 (by have := HR.out; unfold maxLen; omega) (by have := HR.out; omega) HT2.out.below.size ?_; intro v3 w3 h1 h2 h3)
              have HT3 : Hid (TwoV w w3 u7 v3 (Vr.prune mark (l.take (k + 1))).kept (Vr.prune mark (l.take (k + 1))).rest) := by unfold Hid; rw [HP2.out]; exact (TwoR.app HT2.out.swap h1 h2 h3).swap
              clear h1 h2 h3
              go_wp2
              go_roundw
              case rel => exact ⟨k + 1, by omega, by go_num, HT3⟩
              case measure => simp [intOf]; omega
        · obtain rfl : k = n := by omega
          go_wp2
          go_ret2
          exact ⟨_, _, rfl, HEND.out _ _ _ HT.out⟩
    | false =>
      simp only [Bool.false_eq_true, if_false] at hbs0
      subst hbs0
      go_wp2_with fail
      go_loopw [7, 8, 25] (fun a1 a2 i wr => ∃ k : Nat, k ≤ n ∧ i = .int .i64 k ∧ Hid (TwoV w wr a1 a2 (Vr.prune mark (l.take k)).kept (Vr.prune mark (l.take k)).rest)) (fun _ _ i _ => n - (intOf i).toNat)
      case atStart => exact ⟨0, Nat.zero_le _, rfl, TwoR.nil _ HW1.out⟩
      case round =>
        obtain ⟨k, hk, rfl, HT⟩ := hrel
        by_cases hlt : k < n
        · have hli : (k : Int) < (n : Int) := by omega
          obtain ⟨b, o, x, hp, hg, c0, c1, c2⟩ := Vrs.cells (Els.below HX.out HT.out.below (Nat.le_refl _)) (j := k) (by have := HN.out; omega)
          try cases hp
          have HPT : Hid (Vr.prune mark (l.take (k + 1)) = Vr.pstep mark (Vr.prune mark (l.take k)) x) := Vr.prune_take hg
          have HR : Hid ((Vr.prune mark (l.take k)).kept.length < n ∧ (Vr.prune mark (l.take k)).rest.length < n) := HT.out.room hlt hl
          have HBX := HBI.out k x hg
          obtain ⟨x1, x2, x3⟩ := x
          obtain ⟨w2, hw2⟩ : ∃ w2, wr.alloc (.cells #[.int .i64 x1, .string x2, .bool x3] 48) = w2 := ⟨_, rfl⟩
          have k2 : Bk w2 wr.heap.size 48 #[.int .i64 x1, .string x2, .bool x3] := by rw [← hw2]; exact Bk.new _ _ _
          have d0 : w2.cell? ⟨wr.heap.size, 0, none⟩ = some (.int .i64 x1) := k2.cell 0
          have d1 : w2.cell? ⟨wr.heap.size, 1, none⟩ = some (.string x2) := k2.cell 1
          have d2 : w2.cell? ⟨wr.heap.size, 2, none⟩ = some (.bool x3) := k2.cell 2
          have HT2 : Hid (TwoV w w2 u7 u8 (Vr.prune mark (l.take k)).kept (Vr.prune mark (l.take k)).rest) := by rw [← hw2]; exact TwoR.up HT.out ((Below.refl _ _).alloc (Nat.le_refl _) _)
          clear hg k2
          by_cases hm : mark < x1
          · have HP2 : Hid (Vr.prune mark (l.take (k + 1)) = ⟨(Vr.prune mark (l.take k)).kept ++ [⟨x1, x2, x3⟩], (Vr.prune mark (l.take k)).rest, (Vr.prune mark (l.take k)).found⟩) := HPT.out.trans (Vr.pstep_up hm)
            clear HBX
            go_wp2_with (at_builtin; refine app1L vknd Try.underlying44 vinfo rfl w2 rfl _ _ rfl w.heap.size u7 _ rfl ⟨x1, x2, x3⟩ _ rfl rfl _ rfl HT2.out.o1 (by have := HR.out; unfold maxLen; omega) (by have := HR.out; omega) HT2.out.below.size ?_; intro v3 w3 h1 h2 h3)
            have HT3 : Hid (TwoV w w3 v3 u8 (Vr.prune mark (l.take (k + 1))).kept (Vr.prune mark (l.take (k + 1))).rest) := by unfold Hid; rw [HP2.out]; exact TwoR.app HT2.out h1 h2 h3
            clear h1 h2 h3
            go_wp2
            go_roundw
            case rel => exact ⟨k + 1, by omega, by go_num, HT3⟩
            case measure => simp [intOf]; omega
          · have hle : x1 ≤ mark := by omega
            have hmm : ¬ mark < x1 := hm
            have hbx := HBX hle
            clear HBX
            cases hkeep : (!(Vr.prune mark (l.take k)).found && !x3) with
            | true =>
              rw [hkeep] at hbx
              have HP2 : Hid (Vr.prune mark (l.take (k + 1)) = ⟨(Vr.prune mark (l.take k)).kept ++ [⟨x1, x2, x3⟩], (Vr.prune mark (l.take k)).rest, true⟩) := by
                have : (Vr.prune mark (l.take k)).found = false ∧ x3 = false := by simpa using hkeep
                exact HPT.out.trans (Vr.pstep_first hle this.1 this.2)
              clear hkeep
              go_wp2_with (at_builtin; refine app1L vknd Try.underlying44 vinfo rfl w2 rfl _ _ rfl w.heap.size u7 _ rfl ⟨x1, x2, x3⟩ _ rfl rfl _ rfl HT2.out.o1 (by have := HR.out; unfold maxLen; omega) (by have := HR.out; omega) HT2.out.below.size ?_; intro v3 w3 h1 h2 h3)
              have HT3 : Hid (TwoV w w3 v3 u8 (Vr.prune mark (l.take (k + 1))).kept (Vr.prune mark (l.take (k + 1))).rest) := by unfold Hid; rw [HP2.out]; exact TwoR.app HT2.out h1 h2 h3
              clear h1 h2 h3
              go_wp2
              go_roundw
              case rel => exact ⟨k + 1, by omega, by go_num, HT3⟩
              case measure => simp [intOf]; omega
            | false =>
              rw [hkeep] at hbx
              have HP2 : Hid (Vr.prune mark (l.take (k + 1)) = ⟨(Vr.prune mark (l.take k)).kept, (Vr.prune mark (l.take k)).rest ++ [⟨x1, x2, x3⟩], true⟩) := by
                unfold Hid
                rw [HPT.out]
                unfold Vr.pstep
                rw [if_neg hm, hkeep]
                rfl
              clear hkeep
              go_wp2_with (at_builtin; refine app1L vknd Try.underlying44 vinfo rfl w2 rfl _ _ rfl w.heap.size u8 _ rfl ⟨x1, x2, x3⟩ _ rfl rfl _ rfl HT2.out.o2 (by have := HR.out; unfold maxLen; omega) (by have := HR.out; omega) HT2.out.below.size ?_; intro v3 w3 h1 h2 h3)
              have HT3 : Hid (TwoV w w3 u7 v3 (Vr.prune mark (l.take (k + 1))).kept (Vr.prune mark (l.take (k + 1))).rest) := by unfold Hid; rw [HP2.out]; exact (TwoR.app HT2.out.swap h1 h2 h3).swap
              clear h1 h2 h3
              go_wp2
              go_roundw
              case rel => exact ⟨k + 1, by omega, by go_num, HT3⟩
              case measure => simp [intOf]; omega
        · obtain rfl : k = n := by omega
          go_wp2
          go_ret2
          exact ⟨_, _, rfl, HEND.out _ _ _ HT.out⟩
  · subst hbs0
    go_wp2_with fail
    go_loopw [7, 8, 25] (fun a1 a2 i wr => ∃ k : Nat, k ≤ n ∧ i = .int .i64 k ∧ Hid (TwoV w wr a1 a2 (Vr.prune mark (l.take k)).kept (Vr.prune mark (l.take k)).rest)) (fun _ _ i _ => n - (intOf i).toNat)
    case atStart => exact ⟨0, Nat.zero_le _, rfl, TwoR.nil _ HW1.out⟩
    case round =>
      obtain ⟨k, hk, rfl, HT⟩ := hrel
      by_cases hlt : k < n
      · have hli : (k : Int) < (n : Int) := by omega
        obtain ⟨b, o, x, hp, hg, c0, c1, c2⟩ := Vrs.cells (Els.below HX.out HT.out.below (Nat.le_refl _)) (j := k) (by have := HN.out; omega)
        try cases hp
        have HPT : Hid (Vr.prune mark (l.take (k + 1)) = Vr.pstep mark (Vr.prune mark (l.take k)) x) := Vr.prune_take hg
        have HR : Hid ((Vr.prune mark (l.take k)).kept.length < n ∧ (Vr.prune mark (l.take k)).rest.length < n) := HT.out.room hlt hl
        have HBX := HBI.out k x hg
        obtain ⟨x1, x2, x3⟩ := x
        obtain ⟨w2, hw2⟩ : ∃ w2, wr.alloc (.cells #[.int .i64 x1, .string x2, .bool x3] 48) = w2 := ⟨_, rfl⟩
        have k2 : Bk w2 wr.heap.size 48 #[.int .i64 x1, .string x2, .bool x3] := by rw [← hw2]; exact Bk.new _ _ _
        have d0 : w2.cell? ⟨wr.heap.size, 0, none⟩ = some (.int .i64 x1) := k2.cell 0
        have d1 : w2.cell? ⟨wr.heap.size, 1, none⟩ = some (.string x2) := k2.cell 1
        have d2 : w2.cell? ⟨wr.heap.size, 2, none⟩ = some (.bool x3) := k2.cell 2
        have HT2 : Hid (TwoV w w2 u7 u8 (Vr.prune mark (l.take k)).kept (Vr.prune mark (l.take k)).rest) := by rw [← hw2]; exact TwoR.up HT.out ((Below.refl _ _).alloc (Nat.le_refl _) _)
        clear hg k2
        by_cases hm : mark < x1
        · have HP2 : Hid (Vr.prune mark (l.take (k + 1)) = ⟨(Vr.prune mark (l.take k)).kept ++ [⟨x1, x2, x3⟩], (Vr.prune mark (l.take k)).rest, (Vr.prune mark (l.take k)).found⟩) := HPT.out.trans (Vr.pstep_up hm)
          clear HBX
          go_wp2_with (at_builtin; refine app1L vknd Try.underlying44 vinfo rfl w2 rfl _ _ rfl w.heap.size u7 _ rfl ⟨x1, x2, x3⟩ _ rfl rfl _ rfl HT2.out.o1 (by have := HR.out; unfold maxLen; omega) (by have := HR.out; omega) HT2.out.below.size ?_; intro v3 w3 h1 h2 h3)
          have HT3 : Hid (TwoV w w3 v3 u8 (Vr.prune mark (l.take (k + 1))).kept (Vr.prune mark (l.take (k + 1))).rest) := by unfold Hid; rw [HP2.out]; exact TwoR.app HT2.out h1 h2 h3
          clear h1 h2 h3
          go_wp2
          go_roundw
          case rel => exact ⟨k + 1, by omega, by go_num, HT3⟩
          case measure => simp [intOf]; omega
        · have hle : x1 ≤ mark := by omega
          have hmm : ¬ mark < x1 := hm
          have hbx := HBX hle
          clear HBX
          cases hkeep : (!(Vr.prune mark (l.take k)).found && !x3) with
          | true =>
            rw [hkeep] at hbx
            exact absurd (eq_of_beq hbx) (by omega)
          | false =>
            rw [hkeep] at hbx
            have HP2 : Hid (Vr.prune mark (l.take (k + 1)) = ⟨(Vr.prune mark (l.take k)).kept, (Vr.prune mark (l.take k)).rest ++ [⟨x1, x2, x3⟩], true⟩) := by
              unfold Hid
              rw [HPT.out]
              unfold Vr.pstep
              rw [if_neg hm, hkeep]
              rfl
            clear hkeep
            go_wp2_with (at_builtin; refine app1L vknd Try.underlying44 vinfo rfl w2 rfl _ _ rfl w.heap.size u8 _ rfl ⟨x1, x2, x3⟩ _ rfl rfl _ rfl HT2.out.o2 (by have := HR.out; unfold maxLen; omega) (by have := HR.out; omega) HT2.out.below.size ?_; intro v3 w3 h1 h2 h3)
            have HT3 : Hid (TwoV w w3 u7 v3 (Vr.prune mark (l.take (k + 1))).kept (Vr.prune mark (l.take (k + 1))).rest) := by unfold Hid; rw [HP2.out]; exact (TwoR.app HT2.out.swap h1 h2 h3).swap
            clear h1 h2 h3
            go_wp2
            go_roundw
            case rel => exact ⟨k + 1, by omega, by go_num, HT3⟩
            case measure => simp [intOf]; omega
      · obtain rfl : k = n := by omega
        go_wp2
        go_ret2
        exact ⟨_, _, rfl, HEND.out _ _ _ HT.out⟩
end Go.Proofs.Ytilabcolfabnmaa
