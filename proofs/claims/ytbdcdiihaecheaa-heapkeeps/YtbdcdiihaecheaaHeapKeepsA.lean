/- Heaps: a chain is cut. -/
import Derived.Test.YtbdcdiihaecheaaGnM
import Derived.Test.YtbdcdiihaecheaaVsE
import Derived.Test.YtbdcdiihaecheaaHpB
import Derived.Test.YtbdcdiihaecheaaHpS
import Derived.Test.YtbdcdiihaecheaaVsS
import Derived.Deep.MidRow
import Derived.Test.YtbdcdiihaecheaaMem
import Derived.OrdersHeld
import Derived.Deep.RegionHeld
import Derived.Laws.BitsLemmas
namespace Go.Proofs.Ytbdcdiihaecheaa
open Go.RowKit
set_option linter.unusedVariables false
set_option maxRecDepth 100000

section
variable {α : Type} {cells : α → List Value} {k : Nat}

theorem app1L (K : Knd cells k) {e t : TypeId} {z : Value} {bytes : Nat} (ht : Try.prog.underlying t = some (.slice e)) (hinfo : (Try.prog.info? e).map (fun i => (i.zero, i.size, i.bytes)) = some (some z, k, bytes)) (hzs : z.cells.size = k)
    {ops : Array Oper} {rest : List Oper} {o : Oper} {a : Act} {Q : Exit → Act → World → Prop} (w : World) (hw : Region.wanted o (yielded ops a.tmps) = true) (s x : Operand)
    (ho : o.op = .call { callee := .builtin .append, args := #[s, x], argTypes := #[t, t] })
    (base : Nat) (v : Value) (l : List α) (hs : a.eval s = v) (y : α) (B : Nat) (hx : a.eval x = .slice (some ⟨B, 0, none⟩) 1 1) (hB : B = w.heap.size) (cs : Array Value) (hcs : cs = (cells y).toArray) (hown : Own cells k e w base v l)
    (h63 : l.length + 1 ≤ maxLen) (hb : (l.length + 1) * bytes ≤ 140737488355328) (hbase : base ≤ w.heap.size)
    (h : ∀ v' w', Own cells k e w' base v' (l ++ [y]) → (w.alloc (.cells cs e)).grownBy w' v.ownBlock → (v'.ownBlock = v.ownBlock ∨ v'.ownBlock = some (w.heap.size + 1)) → wpList Try.prog ops Q rest (a.put o.dst v') w') : wpList Try.prog ops Q (o :: rest) a (w.alloc (.cells cs e)) := by
  subst hB
  subst hcs
  refine appL K ht hinfo hzs _ hw s x ho base v l [y] hs (some ⟨w.heap.size, 0, none⟩) 1 1 hx rfl (els_one K w e y) (fun h => by cases h) (hown.below ((Below.refl _ _).alloc (Nat.le_refl _) _) (Nat.le_refl _)) h63 hb (by simp; omega) ?_
  intro v' w' h1 h2 h3
  exact h v' w' h1 h2 (by simpa using h3)

/-- Two rows of the call's own. -/
structure TwoR (cells : α → List Value) (k : Nat) (t : TypeId) (w W : World) (v1 v2 : Value) (a b : List α) : Prop where
  o1 : Own cells k t W w.heap.size v1 a
  o2 : Own cells k t W w.heap.size v2 b
  ne : ∀ g, v1.ownBlock = some g → v2.ownBlock ≠ some g
  below : Below w.heap.size w W

theorem TwoR.swap {t : TypeId} {w W : World} {v1 v2 : Value} {a b : List α} (h : TwoR cells k t w W v1 v2 a b) : TwoR cells k t w W v2 v1 b a := ⟨h.o2, h.o1, fun g h2 h1 => h.ne g h1 h2, h.below⟩

theorem TwoR.nil (t : TypeId) {w W : World} (h : Below w.heap.size w W) : TwoR cells k t w W (.slice none 0 0) (.slice none 0 0) [] [] := ⟨Own.nil _ _ _, Own.nil _ _ _, fun g h => (by cases h), h⟩

theorem TwoR.up {t : TypeId} {w W W' : World} {v1 v2 : Value} {a b : List α} (h : TwoR cells k t w W v1 v2 a b) (hb : Below W.heap.size W W') : TwoR cells k t w W' v1 v2 a b := ⟨h.o1.below hb (Nat.le_refl _), h.o2.below hb (Nat.le_refl _), h.ne, h.below.trans (hb.mono h.below.size)⟩

theorem TwoR.app {t : TypeId} {w W w' : World} {v1 v2 v' : Value} {a b a' : List α} {cs : Array Value} {e : TypeId} (h : TwoR cells k t w W v1 v2 a b) (h1 : Own cells k t w' w.heap.size v' a') (h2 : (W.alloc (.cells cs e)).grownBy w' v1.ownBlock) (h3 : v'.ownBlock = v1.ownBlock ∨ v'.ownBlock = some (W.heap.size + 1)) : TwoR cells k t w w' v' v2 a' b := by
  have hal : Below W.heap.size W (W.alloc (.cells cs e)) := (Below.refl _ _).alloc (Nat.le_refl _) _
  refine ⟨h1, ?_, fun g hg => ?_, ?_⟩
  · exact (h.o2.below hal (Nat.le_refl _)).tn (grown_tn h2) (fun g hg hm => h.ne g (opt_toList.1 hm) hg)
  · rcases h3 with h3 | h3
    · exact h.ne g (h3.symm.trans hg)
    · rw [hg] at h3
      cases h3
      intro hh
      have := (h.o2.blk hh).2
      omega
  · exact (h.below.trans (hal.mono h.below.size)).grown h2 (by have := h.below.size; simp; omega) (fun g hg => (h.o1.blk hg).1)
end
end Go.Proofs.Ytbdcdiihaecheaa

namespace Go.Proofs.Ytbdcdiihaecheaa
open Go.RowKit Go.Sort
set_option linter.unusedVariables false
set_option maxRecDepth 100000

/-- What was kept and not, and whether one was met that is not above the mark. -/
structure Ps where
  kept : List Vs
  rest : List Vs
  found : Bool

namespace Vr
def pstep (mark : Int) (s : Ps) (x : Vs) : Ps :=
  if mark < x.ts then ⟨s.kept ++ [x], s.rest, s.found⟩ else if (!s.found && !x.del) = true then ⟨s.kept ++ [x], s.rest, true⟩ else ⟨s.kept, s.rest ++ [x], true⟩
def prune (mark : Int) (l : List Vs) : Ps := l.foldl (pstep mark) ⟨[], [], false⟩

theorem prune_snoc (mark : Int) (l : List Vs) (x : Vs) : prune mark (l ++ [x]) = pstep mark (prune mark l) x := by simp [prune]
theorem prune_take {mark : Int} {l : List Vs} {k : Nat} {x : Vs} (h : l[k]? = some x) : prune mark (l.take (k + 1)) = pstep mark (prune mark (l.take k)) x := by
  rw [List.take_add_one, h]
  exact prune_snoc _ _ _

theorem pstep_up {mark : Int} {s : Ps} {x : Vs} (h : mark < x.ts) : pstep mark s x = ⟨s.kept ++ [x], s.rest, s.found⟩ := if_pos h
theorem pstep_first {mark : Int} {s : Ps} {x : Vs} (h : x.ts ≤ mark) (hf : s.found = false) (hd : x.del = false) : pstep mark s x = ⟨s.kept ++ [x], s.rest, true⟩ := by
  unfold pstep
  rw [if_neg (by omega), hf, hd]
  rfl
theorem pstep_found {mark : Int} {s : Ps} {x : Vs} (h : x.ts ≤ mark) (hf : s.found = true) : pstep mark s x = ⟨s.kept, s.rest ++ [x], true⟩ := by
  unfold pstep
  rw [if_neg (by omega), hf]
  rfl
theorem pstep_del {mark : Int} {s : Ps} {x : Vs} (h : x.ts ≤ mark) (hd : x.del = true) : pstep mark s x = ⟨s.kept, s.rest ++ [x], true⟩ := by
  unfold pstep
  rw [if_neg (by omega), hd, Bool.not_true, Bool.and_false]
  rfl

theorem prune_len (mark : Int) (l : List Vs) : (prune mark l).kept.length + (prune mark l).rest.length = l.length := by
  suffices h : ∀ (l : List Vs) (s : Ps), (l.foldl (pstep mark) s).kept.length + (l.foldl (pstep mark) s).rest.length = s.kept.length + s.rest.length + l.length by
    have := h l ⟨[], [], false⟩
    simpa [prune] using this
  intro l
  induction l with
  | nil => intro s; simp
  | cons x r ih =>
    intro s
    rw [List.foldl_cons, ih, List.length_cons]
    unfold pstep
    split
    · simp only [List.length_append, List.length_cons, List.length_nil]; omega
    · split <;> (simp only [List.length_append, List.length_cons, List.length_nil]; omega)

theorem found_some {mark : Int} {l : List Vs} {b : Nat} (h : seen l mark = some b) (k : Nat) : (prune mark (l.take k)).found = decide (b < k) := by
  obtain ⟨x, hx, -, hle, hup⟩ := seen_some h
  induction k with
  | zero => simp [prune]
  | succ k ih =>
    cases hk : l[k]? with
    | none =>
      have hlk : l.length ≤ k := by simpa using hk
      have hb : b < l.length := (List.getElem?_eq_some_iff.1 hx).1
      rw [List.take_of_length_le (by omega)] at ih ⊢
      rw [ih]
      simp
      omega
    | some y =>
      rw [prune_take hk]
      by_cases hy : mark < y.ts
      · rw [pstep_up hy]
        show (prune mark (l.take k)).found = _
        rw [ih]
        have : b ≠ k := fun e => by
          subst e
          rw [hx] at hk
          cases hk
          omega
        simp
        omega
      · have hbk : b ≤ k := by
          rcases Nat.lt_or_ge k b with h1 | h1
          · exact absurd (show y.ts ≤ mark by omega) (hup k y h1 hk)
          · exact h1
        rw [decide_eq_true (by omega)]
        unfold pstep
        rw [if_neg hy]
        split <;> rfl

theorem found_none {mark : Int} {l : List Vs} (h : seen l mark = none) (k : Nat) : (prune mark (l.take k)).found = false := by
  have hup := (seen_none h).2
  induction k with
  | zero => simp [prune]
  | succ k ih =>
    cases hk : l[k]? with
    | none =>
      have hlk : l.length ≤ k := by simpa using hk
      rw [List.take_of_length_le (by omega)] at ih ⊢
      exact ih
    | some y =>
      rw [prune_take hk, pstep_up (by have := hup y (List.mem_of_getElem? hk); omega)]
      exact ih

/-- The code's place of the one that is kept besides. -/
def base (l : List Vs) (mark : Int) : Int := match seen l mark with | some b => if (l.getD b Vs.zero).del then -1 else b | none => -1

theorem base_iff {l : List Vs} {mark : Int} {k : Nat} {x : Vs} (hx : l[k]? = some x) (hle : x.ts ≤ mark) : ((k : Int) == base l mark) = (!(prune mark (l.take k)).found && !x.del) := by
  unfold base
  cases h : seen l mark with
  | none => exact absurd hle ((seen_none h).2 x (List.mem_of_getElem? hx))
  | some b =>
    obtain ⟨y, hy, -, hyl, hup⟩ := seen_some h
    rw [found_some h]
    have hbk : b ≤ k := by
      rcases Nat.lt_or_ge k b with h1 | h1
      · exact absurd hle (hup k x h1 hx)
      · exact h1
    show ((k : Int) == if (l.getD b Vs.zero).del = true then -1 else (b : Int)) = _
    have hd : l.getD b Vs.zero = y := by simp [List.getD, hy]
    rw [hd]
    by_cases e : b = k
    · subst e
      rw [hx] at hy
      cases hy
      cases hdel : x.del <;> simp
    · have h1 : b < k := by omega
      rw [decide_eq_true h1, Bool.not_true, Bool.false_and, beq_eq_false_iff_ne]
      split <;> omega
end Vr

abbrev TwoV (w W : World) (v1 v2 : Value) (a b : List Vs) : Prop := TwoR Vs.cells 3 34 w W v1 v2 a b

theorem TwoV.room {w W : World} {v1 v2 : Value} {mark : Int} {l : List Vs} {k n : Nat} (h : TwoV w W v1 v2 (Vr.prune mark (l.take k)).kept (Vr.prune mark (l.take k)).rest) (hk : k < n) (hn : n ≤ 4398046510976) : (Vr.prune mark (l.take k)).kept.length < n ∧ (Vr.prune mark (l.take k)).rest.length < n := by
  have := Vr.prune_len mark (l.take k)
  have h2 := List.length_take_le k l
  omega

set_option maxHeartbeats 4000000 in
theorem prune_any (p : Option Addr) (n c : Nat) (l : List Vs) (mark : Int) (w : World) (hn : l.length = n) (hx : Vrs w p l) (hl : n ≤ 4398046510976) :
    Calls Try.prog 45 #[.slice p n c, .int .i64 mark] w fun e w' => ∃ v1 v2, e = .returned (.tuple #[v1, v2]) ∧ TwoV w w' v1 v2 (Vr.prune mark l).kept (Vr.prune mark l).rest := by
  have hcall := seen_any p n c l mark w hn hx (by omega)
  have HX : Hid (Vrs w p l) := hx
  have HN : Hid (l.length = n) := hn
  have HBI : Hid (∀ (k : Nat) x, l[k]? = some x → x.ts ≤ mark → ((k : Int) == Vr.base l mark) = (!(Vr.prune mark (l.take k)).found && !x.del)) := fun k x h1 h2 => Vr.base_iff h1 h2
  obtain ⟨bs, hbs⟩ : ∃ bs, Vr.base l mark = bs := ⟨_, rfl⟩
  have HTK : Hid (l.take n = l) := List.take_of_length_le (by omega)
  rw [hbs] at HBI
  -- the base
  have HB : Hid (∀ W : World, Below w.heap.size w W → (∃ k : Nat, k < n ∧ Vr.atI l mark = (k : Int) ∧ ∃ b o d, p = some ⟨b, o, none⟩ ∧ W.cell? ⟨b, o + k * 3 + 2, none⟩ = some (.bool d) ∧ bs = if d then -1 else (k : Int)) ∨ (Vr.atI l mark = -1 ∧ bs = -1)) := fun W hW => by
    unfold Vr.atI
    rw [← hbs]
    unfold Vr.base
    cases h : Vr.seen l mark with
    | none => exact .inr ⟨rfl, rfl⟩
    | some k =>
      obtain ⟨y, hy, -, -, -⟩ := Vr.seen_some h
      have hkl : k < l.length := (List.getElem?_eq_some_iff.1 hy).1
      obtain ⟨b, o, x, rfl, hxk, -, -, c2⟩ := Vrs.cells (Els.below hx hW (Nat.le_refl _)) (j := k) hkl
      rw [hy] at hxk
      cases hxk
      exact .inl ⟨k, by omega, rfl, b, o, y.del, rfl, c2, by simp [List.getD, hy]⟩
  clear hx hn hbs
  go_enter Try.func45, Try.ntmps45
  go_wp2_with fail
  refine hcall.mono ?_
  rintro e w1 ⟨rfl, hb1⟩
  have HW1 : Hid (Below w.heap.size w w1) := hb1
  have HEND : Hid (∀ v1 v2 W, TwoV w W v1 v2 (Vr.prune mark (l.take n)).kept (Vr.prune mark (l.take n)).rest → TwoV w W v1 v2 (Vr.prune mark l).kept (Vr.prune mark l).rest) := fun v1 v2 W h => by rw [HTK.out] at h; exact h
  obtain ⟨at0, hat0⟩ : ∃ x, Vr.atI l mark = x := ⟨_, rfl⟩
  have hbase := HB.out w1 hb1
  rw [hat0] at hbase ⊢
  clear hcall hb1 hat0 HB
  rcases hbase with ⟨k0, hk0, rfl, b0, o0, d0, rfl, hc0, hbs0⟩ | ⟨rfl, hbs0⟩
  · have hk0i : (k0 : Int) < (n : Int) := by omega
    have hk00 : (0 : Int) ≤ (k0 : Int) := by omega
    cases d0 with
    | true =>
      simp only [if_true] at hbs0
      subst hbs0
      go_wp2_with fail
      go_loopw [7, 8, 25] (fun a1 a2 i wr => ∃ k : Nat, k ≤ n ∧ i = .int .i64 k ∧ Hid (TwoV w wr a1 a2 (Vr.prune mark (l.take k)).kept (Vr.prune mark (l.take k)).rest)) (fun _ _ i _ => n - (intOf i).toNat)
      case atStart => exact ⟨0, Nat.zero_le _, rfl, TwoR.nil _ HW1.out⟩
      case round =>
        obtain ⟨k, hk, rfl, HT⟩ := hrel
        by_cases hlt : k < n
        · have hli : (k : Int) < (n : Int) := by omega
          obtain ⟨b, o, x, hp, hg, c0, c1, c2⟩ := Vrs.cells (Els.below HX.out HT.out.below (Nat.le_refl _)) (j := k) (by have := HN.out; omega)
          try cases hp
          have HPT : Hid (Vr.prune mark (l.take (k + 1)) = Vr.pstep mark (Vr.prune mark (l.take k)) x) := Vr.prune_take hg
          have HR : Hid ((Vr.prune mark (l.take k)).kept.length < n ∧ (Vr.prune mark (l.take k)).rest.length < n) := HT.out.room hlt hl
          have HBX := HBI.out k x hg
          obtain ⟨x1, x2, x3⟩ := x
          obtain ⟨w2, hw2⟩ : ∃ w2, wr.alloc (.cells #[.int .i64 x1, .string x2, .bool x3] 34) = w2 := ⟨_, rfl⟩
          have k2 : Bk w2 wr.heap.size 34 #[.int .i64 x1, .string x2, .bool x3] := by rw [← hw2]; exact Bk.new _ _ _
          have d0 : w2.cell? ⟨wr.heap.size, 0, none⟩ = some (.int .i64 x1) := k2.cell 0
          have d1 : w2.cell? ⟨wr.heap.size, 1, none⟩ = some (.string x2) := k2.cell 1
          have d2 : w2.cell? ⟨wr.heap.size, 2, none⟩ = some (.bool x3) := k2.cell 2
          have HT2 : Hid (TwoV w w2 u7 u8 (Vr.prune mark (l.take k)).kept (Vr.prune mark (l.take k)).rest) := by rw [← hw2]; exact TwoR.up HT.out ((Below.refl _ _).alloc (Nat.le_refl _) _)
          clear hg k2
          by_cases hm : mark < x1
          · have HP2 : Hid (Vr.prune mark (l.take (k + 1)) = ⟨(Vr.prune mark (l.take k)).kept ++ [⟨x1, x2, x3⟩], (Vr.prune mark (l.take k)).rest, (Vr.prune mark (l.take k)).found⟩) := HPT.out.trans (Vr.pstep_up hm)
            clear HBX
            go_wp2_with (at_builtin; refine app1L vknd Try.underlying46 vinfo rfl w2 rfl _ _ rfl w.heap.size u7 _ rfl ⟨x1, x2, x3⟩ _ rfl rfl _ rfl HT2.out.o1 (by have := HR.out; unfold maxLen; omega) (by have := HR.out; omega) HT2.out.below.size ?_; intro v3 w3 h1 h2 h3)
            have HT3 : Hid (TwoV w w3 v3 u8 (Vr.prune mark (l.take (k + 1))).kept (Vr.prune mark (l.take (k + 1))).rest) := by unfold Hid; rw [HP2.out]; exact TwoR.app HT2.out h1 h2 h3
            clear h1 h2 h3
            go_wp2
            go_roundw
            case rel => exact ⟨k + 1, by omega, by go_num, HT3⟩
            case measure => simp [intOf]; omega
          · have hle : x1 ≤ mark := by omega
            have hmm : ¬ mark < x1 := hm
            have hbx := HBX hle
            clear HBX
            cases hkeep : (!(Vr.prune mark (l.take k)).found && !x3) with
            | true =>
              rw [hkeep] at hbx
              exact absurd (eq_of_beq hbx) (by omega)
            | false =>
              rw [hkeep] at hbx
              have HP2 : Hid (Vr.prune mark (l.take (k + 1)) = ⟨(Vr.prune mark (l.take k)).kept, (Vr.prune mark (l.take k)).rest ++ [⟨x1, x2, x3⟩], true⟩) := by
                unfold Hid
                rw [HPT.out]
                unfold Vr.pstep
                rw [if_neg hm, hkeep]
                rfl
              clear hkeep
              go_wp2_with (at_builtin; refine app1L vknd Try.underlying46 vinfo rfl w2 rfl _ _ rfl w.heap.size u8 _ rfl ⟨x1, x2, x3⟩ _ rfl rfl _ rfl HT2.out.o2 (by have := HR.out; unfold maxLen; omega) (by have := HR.out; omega) HT2.out.below.size ?_; intro v3 w3 h1 h2 h3)
              have HT3 : Hid (TwoV w w3 u7 v3 (Vr.prune mark (l.take (k + 1))).kept (Vr.prune mark (l.take (k + 1))).rest) := by unfold Hid; rw [HP2.out]; exact (TwoR.app HT2.out.swap h1 h2 h3).swap
              clear h1 h2 h3
              go_wp2
              go_roundw
              case rel => exact ⟨k + 1, by omega, by go_num, HT3⟩
              case measure => simp [intOf]; omega
        · obtain rfl : k = n := by omega
          go_wp2
          go_ret2
          exact ⟨_, _, rfl, HEND.out _ _ _ HT.out⟩
    | false =>
      simp only [Bool.false_eq_true, if_false] at hbs0
      subst hbs0
      go_wp2_with fail
      go_loopw [7, 8, 25] (fun a1 a2 i wr => ∃ k : Nat, k ≤ n ∧ i = .int .i64 k ∧ Hid (TwoV w wr a1 a2 (Vr.prune mark (l.take k)).kept (Vr.prune mark (l.take k)).rest)) (fun _ _ i _ => n - (intOf i).toNat)
      case atStart => exact ⟨0, Nat.zero_le _, rfl, TwoR.nil _ HW1.out⟩
      case round =>
        obtain ⟨k, hk, rfl, HT⟩ := hrel
        by_cases hlt : k < n
        · have hli : (k : Int) < (n : Int) := by omega
          obtain ⟨b, o, x, hp, hg, c0, c1, c2⟩ := Vrs.cells (Els.below HX.out HT.out.below (Nat.le_refl _)) (j := k) (by have := HN.out; omega)
          try cases hp
          have HPT : Hid (Vr.prune mark (l.take (k + 1)) = Vr.pstep mark (Vr.prune mark (l.take k)) x) := Vr.prune_take hg
          have HR : Hid ((Vr.prune mark (l.take k)).kept.length < n ∧ (Vr.prune mark (l.take k)).rest.length < n) := HT.out.room hlt hl
          have HBX := HBI.out k x hg
          obtain ⟨x1, x2, x3⟩ := x
          obtain ⟨w2, hw2⟩ : ∃ w2, wr.alloc (.cells #[.int .i64 x1, .string x2, .bool x3] 34) = w2 := ⟨_, rfl⟩
          have k2 : Bk w2 wr.heap.size 34 #[.int .i64 x1, .string x2, .bool x3] := by rw [← hw2]; exact Bk.new _ _ _
          have d0 : w2.cell? ⟨wr.heap.size, 0, none⟩ = some (.int .i64 x1) := k2.cell 0
          have d1 : w2.cell? ⟨wr.heap.size, 1, none⟩ = some (.string x2) := k2.cell 1
          have d2 : w2.cell? ⟨wr.heap.size, 2, none⟩ = some (.bool x3) := k2.cell 2
          have HT2 : Hid (TwoV w w2 u7 u8 (Vr.prune mark (l.take k)).kept (Vr.prune mark (l.take k)).rest) := by rw [← hw2]; exact TwoR.up HT.out ((Below.refl _ _).alloc (Nat.le_refl _) _)
          clear hg k2
          by_cases hm : mark < x1
          · have HP2 : Hid (Vr.prune mark (l.take (k + 1)) = ⟨(Vr.prune mark (l.take k)).kept ++ [⟨x1, x2, x3⟩], (Vr.prune mark (l.take k)).rest, (Vr.prune mark (l.take k)).found⟩) := HPT.out.trans (Vr.pstep_up hm)
            clear HBX
            go_wp2_with (at_builtin; refine app1L vknd Try.underlying46 vinfo rfl w2 rfl _ _ rfl w.heap.size u7 _ rfl ⟨x1, x2, x3⟩ _ rfl rfl _ rfl HT2.out.o1 (by have := HR.out; unfold maxLen; omega) (by have := HR.out; omega) HT2.out.below.size ?_; intro v3 w3 h1 h2 h3)
            have HT3 : Hid (TwoV w w3 v3 u8 (Vr.prune mark (l.take (k + 1))).kept (Vr.prune mark (l.take (k + 1))).rest) := by unfold Hid; rw [HP2.out]; exact TwoR.app HT2.out h1 h2 h3
            clear h1 h2 h3
            go_wp2
            go_roundw
            case rel => exact ⟨k + 1, by omega, by go_num, HT3⟩
            case measure => simp [intOf]; omega
          · have hle : x1 ≤ mark := by omega
            have hmm : ¬ mark < x1 := hm
            have hbx := HBX hle
            clear HBX
            cases hkeep : (!(Vr.prune mark (l.take k)).found && !x3) with
            | true =>
              rw [hkeep] at hbx
              have HP2 : Hid (Vr.prune mark (l.take (k + 1)) = ⟨(Vr.prune mark (l.take k)).kept ++ [⟨x1, x2, x3⟩], (Vr.prune mark (l.take k)).rest, true⟩) := by
                have : (Vr.prune mark (l.take k)).found = false ∧ x3 = false := by simpa using hkeep
                exact HPT.out.trans (Vr.pstep_first hle this.1 this.2)
              clear hkeep
              go_wp2_with (at_builtin; refine app1L vknd Try.underlying46 vinfo rfl w2 rfl _ _ rfl w.heap.size u7 _ rfl ⟨x1, x2, x3⟩ _ rfl rfl _ rfl HT2.out.o1 (by have := HR.out; unfold maxLen; omega) (by have := HR.out; omega) HT2.out.below.size ?_; intro v3 w3 h1 h2 h3)
              have HT3 : Hid (TwoV w w3 v3 u8 (Vr.prune mark (l.take (k + 1))).kept (Vr.prune mark (l.take (k + 1))).rest) := by unfold Hid; rw [HP2.out]; exact TwoR.app HT2.out h1 h2 h3
              clear h1 h2 h3
              go_wp2
              go_roundw
              case rel => exact ⟨k + 1, by omega, by go_num, HT3⟩
              case measure => simp [intOf]; omega
            | false =>
              rw [hkeep] at hbx
              have HP2 : Hid (Vr.prune mark (l.take (k + 1)) = ⟨(Vr.prune mark (l.take k)).kept, (Vr.prune mark (l.take k)).rest ++ [⟨x1, x2, x3⟩], true⟩) := by
                unfold Hid
                rw [HPT.out]
                unfold Vr.pstep
                rw [if_neg hm, hkeep]
                rfl
              clear hkeep
              go_wp2_with (at_builtin; refine app1L vknd Try.underlying46 vinfo rfl w2 rfl _ _ rfl w.heap.size u8 _ rfl ⟨x1, x2, x3⟩ _ rfl rfl _ rfl HT2.out.o2 (by have := HR.out; unfold maxLen; omega) (by have := HR.out; omega) HT2.out.below.size ?_; intro v3 w3 h1 h2 h3)
              have HT3 : Hid (TwoV w w3 u7 v3 (Vr.prune mark (l.take (k + 1))).kept (Vr.prune mark (l.take (k + 1))).rest) := by unfold Hid; rw [HP2.out]; exact (TwoR.app HT2.out.swap h1 h2 h3).swap
              clear h1 h2 h3
              go_wp2
              go_roundw
              case rel => exact ⟨k + 1, by omega, by go_num, HT3⟩
              case measure => simp [intOf]; omega
        · obtain rfl : k = n := by omega
          go_wp2
          go_ret2
          exact ⟨_, _, rfl, HEND.out _ _ _ HT.out⟩
  · subst hbs0
    go_wp2_with fail
    go_loopw [7, 8, 25] (fun a1 a2 i wr => ∃ k : Nat, k ≤ n ∧ i = .int .i64 k ∧ Hid (TwoV w wr a1 a2 (Vr.prune mark (l.take k)).kept (Vr.prune mark (l.take k)).rest)) (fun _ _ i _ => n - (intOf i).toNat)
    case atStart => exact ⟨0, Nat.zero_le _, rfl, TwoR.nil _ HW1.out⟩
    case round =>
      obtain ⟨k, hk, rfl, HT⟩ := hrel
      by_cases hlt : k < n
      · have hli : (k : Int) < (n : Int) := by omega
        obtain ⟨b, o, x, hp, hg, c0, c1, c2⟩ := Vrs.cells (Els.below HX.out HT.out.below (Nat.le_refl _)) (j := k) (by have := HN.out; omega)
        try cases hp
        have HPT : Hid (Vr.prune mark (l.take (k + 1)) = Vr.pstep mark (Vr.prune mark (l.take k)) x) := Vr.prune_take hg
        have HR : Hid ((Vr.prune mark (l.take k)).kept.length < n ∧ (Vr.prune mark (l.take k)).rest.length < n) := HT.out.room hlt hl
        have HBX := HBI.out k x hg
        obtain ⟨x1, x2, x3⟩ := x
        obtain ⟨w2, hw2⟩ : ∃ w2, wr.alloc (.cells #[.int .i64 x1, .string x2, .bool x3] 34) = w2 := ⟨_, rfl⟩
        have k2 : Bk w2 wr.heap.size 34 #[.int .i64 x1, .string x2, .bool x3] := by rw [← hw2]; exact Bk.new _ _ _
        have d0 : w2.cell? ⟨wr.heap.size, 0, none⟩ = some (.int .i64 x1) := k2.cell 0
        have d1 : w2.cell? ⟨wr.heap.size, 1, none⟩ = some (.string x2) := k2.cell 1
        have d2 : w2.cell? ⟨wr.heap.size, 2, none⟩ = some (.bool x3) := k2.cell 2
        have HT2 : Hid (TwoV w w2 u7 u8 (Vr.prune mark (l.take k)).kept (Vr.prune mark (l.take k)).rest) := by rw [← hw2]; exact TwoR.up HT.out ((Below.refl _ _).alloc (Nat.le_refl _) _)
        clear hg k2
        by_cases hm : mark < x1
        · have HP2 : Hid (Vr.prune mark (l.take (k + 1)) = ⟨(Vr.prune mark (l.take k)).kept ++ [⟨x1, x2, x3⟩], (Vr.prune mark (l.take k)).rest, (Vr.prune mark (l.take k)).found⟩) := HPT.out.trans (Vr.pstep_up hm)
          clear HBX
          go_wp2_with (at_builtin; refine app1L vknd Try.underlying46 vinfo rfl w2 rfl _ _ rfl w.heap.size u7 _ rfl ⟨x1, x2, x3⟩ _ rfl rfl _ rfl HT2.out.o1 (by have := HR.out; unfold maxLen; omega) (by have := HR.out; omega) HT2.out.below.size ?_; intro v3 w3 h1 h2 h3)
          have HT3 : Hid (TwoV w w3 v3 u8 (Vr.prune mark (l.take (k + 1))).kept (Vr.prune mark (l.take (k + 1))).rest) := by unfold Hid; rw [HP2.out]; exact TwoR.app HT2.out h1 h2 h3
          clear h1 h2 h3
          go_wp2
          go_roundw
          case rel => exact ⟨k + 1, by omega, by go_num, HT3⟩
          case measure => simp [intOf]; omega
        · have hle : x1 ≤ mark := by omega
          have hmm : ¬ mark < x1 := hm
          have hbx := HBX hle
          clear HBX
          cases hkeep : (!(Vr.prune mark (l.take k)).found && !x3) with
          | true =>
            rw [hkeep] at hbx
            exact absurd (eq_of_beq hbx) (by omega)
          | false =>
            rw [hkeep] at hbx
            have HP2 : Hid (Vr.prune mark (l.take (k + 1)) = ⟨(Vr.prune mark (l.take k)).kept, (Vr.prune mark (l.take k)).rest ++ [⟨x1, x2, x3⟩], true⟩) := by
              unfold Hid
              rw [HPT.out]
              unfold Vr.pstep
              rw [if_neg hm, hkeep]
              rfl
            clear hkeep
            go_wp2_with (at_builtin; refine app1L vknd Try.underlying46 vinfo rfl w2 rfl _ _ rfl w.heap.size u8 _ rfl ⟨x1, x2, x3⟩ _ rfl rfl _ rfl HT2.out.o2 (by have := HR.out; unfold maxLen; omega) (by have := HR.out; omega) HT2.out.below.size ?_; intro v3 w3 h1 h2 h3)
            have HT3 : Hid (TwoV w w3 u7 v3 (Vr.prune mark (l.take (k + 1))).kept (Vr.prune mark (l.take (k + 1))).rest) := by unfold Hid; rw [HP2.out]; exact (TwoR.app HT2.out.swap h1 h2 h3).swap
            clear h1 h2 h3
            go_wp2
            go_roundw
            case rel => exact ⟨k + 1, by omega, by go_num, HT3⟩
            case measure => simp [intOf]; omega
      · obtain rfl : k = n := by omega
        go_wp2
        go_ret2
        exact ⟨_, _, rfl, HEND.out _ _ _ HT.out⟩
end Go.Proofs.Ytbdcdiihaecheaa

namespace Go.Proofs.Ytbdcdiihaecheaa
open Go.RowKit
set_option linter.unusedVariables false
set_option maxRecDepth 100000
set_option linter.unusedSectionVars false
variable [Inhabited Cl] [Inhabited Ln]

/-- Does a chain end here? -/
theorem empty_any (w : World) (x : Cl) : Calls Try.prog 44 #[x.v] w fun e w' => e = .returned (.bool (decide (x.s = 0 ∧ x.g = 0))) ∧ Below w.heap.size w w' := by
  have HB : Hid (∀ o, Below w.heap.size w (w.alloc o)) := fun o => (Below.refl _ w).alloc (Nat.le_refl _) o
  obtain ⟨k, s, g, c⟩ := x
  by_cases hs : s = 0
  · by_cases hg : g = 0
    · subst hs
      subst hg
      go_enter Try.func44, Try.ntmps44
      go_wp2
      go_ret
      exact ⟨rfl, HB.out _⟩
    · subst hs
      go_enter Try.func44, Try.ntmps44
      go_wp2
      go_ret
      exact ⟨by simp [hg], HB.out _⟩
  · go_enter Try.func44, Try.ntmps44
    go_wp2
    go_ret
    exact ⟨by simp [hs], HB.out _⟩

end Go.Proofs.Ytbdcdiihaecheaa

namespace Go.Proofs.Ytbdcdiihaecheaa
open Go.RowKit
set_option linter.unusedVariables false
set_option maxRecDepth 100000
set_option linter.unusedSectionVars false
variable [Inhabited Cl] [Inhabited Ln]

set_option maxHeartbeats 1000000 in
theorem look_good {w : World} {H cB : Nat} {bs : List Nat} {a : Ar Cl} (h0 : w.cell? ⟨H, 0, none⟩ = some (.pointer (some ⟨cB, 0, none⟩))) (h : Arn Cl.cells 4 tAC tSC w cB bs a) (s g : Int) (hg : a.Good s g) : Calls Try.prog 43 #[.pointer (some ⟨H, 0, none⟩), .agg #[.int .i64 s, .int .i64 g]] w fun e w' => e = .returned (.tuple #[(slAt a.us s.toNat).val.v, .int .i64 0]) ∧ Below w.heap.size w w' := by
  obtain ⟨w1, hw1, hz1, hb1, hkh⟩ : ∃ w1, w.alloc (.cells #[.int .i64 s, .int .i64 g] 36) = w1 ∧ w1.heap.size = w.heap.size + 1 ∧ Below w.heap.size w w1 ∧ Bk w1 w.heap.size 36 #[.int .i64 s, .int .i64 g] := ⟨_, rfl, by simp, (Below.refl _ w).alloc (Nat.le_refl _) _, Bk.new _ _ _⟩
  obtain ⟨w2, hw2, hz2, hb2, hkx⟩ : ∃ w2, w1.alloc (.cells #[.string ⟨#[]⟩, .int .i64 0, .int .i64 0, .bool false] 93) = w2 ∧ w2.heap.size = w.heap.size + 2 ∧ Below w1.heap.size w1 w2 ∧ Bk w2 (w.heap.size + 1) 93 #[.string ⟨#[]⟩, .int .i64 0, .int .i64 0, .bool false] := ⟨_, rfl, by simp [hz1], (Below.refl _ w1).alloc (Nat.le_refl _) _, by rw [← hz1]; exact Bk.new _ _ _⟩
  have HX2 : Hid (Bk w2 (w.heap.size + 1) 93 #[.string ⟨#[]⟩, .int .i64 0, .int .i64 0, .bool false]) := hkx
  have HB2 : Hid (Below w.heap.size w w2) := hb1.trans (hb2.mono hb1.size)
  have hkh2 := hkh.tn (Tn.of_below hb2 []) (by simp)
  have k0 : w2.cell? ⟨w.heap.size, 0, none⟩ = some (.int .i64 s) := hkh2.cell 0
  have k1 : w2.cell? ⟨w.heap.size, 1, none⟩ = some (.int .i64 g) := hkh2.cell 1
  have h02 : w2.cell? ⟨H, 0, none⟩ = some (.pointer (some ⟨cB, 0, none⟩)) := by rw [HB2.out.cell (p := ⟨H, 0, none⟩) (World.block_lt_of_cell? w _ h0)]; exact h0
  have HA : Hid (Arn Cl.cells 4 tAC tSC w2 cB bs a) := h.tn (Tn.of_below HB2.out []) (by simp)
  have HLT : Hid (∀ b ∈ bs, b < w.heap.size) := h.lt
  have HG : Hid (a.Good s g) := hg
  clear hkx hb1 hb2 hkh hkh2 h0 h hg
  go_enter Try.func43, Try.ntmps43
  go_wp2_with fail
  refine (hmade_ok h02).mono ?_
  rintro e w3 ⟨rfl, rfl⟩
  go_wp2_with fail
  generalize hx : (slAt a.us s.toNat).val = x at *
  go_region_with (go_at_call 65; refine (getGoodC (Arn.tn HA.out (Tn.refl [] _).drew (by simp)) s g HG.out).mono ?_; rintro e w4 ⟨rfl, hb4⟩; have HX4 : Hid (Bk w4 (w.heap.size + 1) 93 #[.string ⟨#[]⟩, .int .i64 0, .int .i64 0, .bool false]) := (HX2.out.tn (Tn.refl [] _).drew (by simp)).tn (Tn.of_below hb4 []) (by simp); have HB4 : Hid (Below w.heap.size w w4) := HB2.out.drew.trans (hb4.mono HB2.out.drew.size); have x0 : w4.cell? ⟨w.heap.size + 1, 0, none⟩ = some (.string ⟨#[]⟩) := HX4.out.cell 0; have f0 : w4.frozen? ⟨w.heap.size + 1, 0, none⟩ = false := HX4.out.frozen 0; have x1 : w4.cell? ⟨w.heap.size + 1, 1, none⟩ = some (.int .i64 0) := HX4.out.cell 1; have f1 : w4.frozen? ⟨w.heap.size + 1, 1, none⟩ = false := HX4.out.frozen 1; have x2 : w4.cell? ⟨w.heap.size + 1, 2, none⟩ = some (.int .i64 0) := HX4.out.cell 2; have f2 : w4.frozen? ⟨w.heap.size + 1, 2, none⟩ = false := HX4.out.frozen 2; have x3 : w4.cell? ⟨w.heap.size + 1, 3, none⟩ = some (.bool false) := HX4.out.cell 3; have f3 : w4.frozen? ⟨w.heap.size + 1, 3, none⟩ = false := HX4.out.frozen 3; simp only [hx])
  all_goals (
    go_wp2
    refine bodyPost_ret (results_elC (x := x) rfl rfl (by exact ((((HX4.out.set 0 _).set 1 _).set 2 _).set 3 _))) rfl ?_
    exact ⟨by rw [← hx]; rfl, (((HB4.out.setCell (Nat.le_succ _) _).setCell (Nat.le_succ _) _).setCell (Nat.le_succ _) _).setCell (Nat.le_succ _) _⟩)

/-- A block of the call's own is none of the arena's. -/
theorem aside_blk {w2 w4 : World} {cB R : Nat} {bs : List Nat} {a : Ar Cl} {t : TypeId} {cs : Array Value} (hk : Bk w2 R t cs) (hlt : ∀ b ∈ bs, b < R) (ht : ArT Cl.cells 4 tAC tSC w2 w4 cB bs a) : Bk w4 R t cs := by
  obtain ⟨_, _, ht, _⟩ := ht
  exact hk.tn ht (fun hb => by have := hlt _ hb; omega)

theorem aside_post {w w2 w4 : World} {cB : Nat} {bs : List Nat} {a : Ar Cl} (hb : Below w.heap.size w w2) (hz : w2.heap.size = w.heap.size + 2) (hlt : ∀ b ∈ bs, b < w.heap.size) (ht4 : ArT Cl.cells 4 tAC tSC w2 w4 cB bs a) : ∀ w5, Tn [w.heap.size + 1] w4 w5 → ArT Cl.cells 4 tAC tSC w w5 cB bs a := by
  obtain ⟨bs3, ha, ht, hm⟩ := ht4
  intro w5 h5
  refine ⟨bs3, ha.tn h5 (fun b hb hm5 => ?_), (((Tn.of_below hb []).mono (by simp)).trans ht (fun x hx => .inl hx)).trans h5 (fun x hx => ?_), fun b hb => ?_⟩
  · simp at hm5
    rcases hm b hb with h1 | h1
    · have := hlt b h1
      omega
    · omega
  · simp at hx
    subst hx
    exact .inr (by omega)
  · rcases hm b hb with h1 | h1
    · exact .inl h1
    · exact .inr (by omega)

set_option maxHeartbeats 1000000 in
theorem look_bad {w : World} {H cB : Nat} {bs : List Nat} {a : Ar Cl} (h0 : w.cell? ⟨H, 0, none⟩ = some (.pointer (some ⟨cB, 0, none⟩))) (h : Arn Cl.cells 4 tAC tSC w cB bs a) (s g : Int) (hg : ¬ a.Good s g) (hs0 : 0 ≤ a.stale) (hs9 : a.stale < 9223372036854775807) : Calls Try.prog 43 #[.pointer (some ⟨H, 0, none⟩), .agg #[.int .i64 s, .int .i64 g]] w fun e w' => e = .returned (.tuple #[Cl.zero.v, .int .i64 7]) ∧ ArT Cl.cells 4 tAC tSC w w' cB bs a.bad := by
  obtain ⟨w1, hw1, hz1, hb1, hkh⟩ : ∃ w1, w.alloc (.cells #[.int .i64 s, .int .i64 g] 36) = w1 ∧ w1.heap.size = w.heap.size + 1 ∧ Below w.heap.size w w1 ∧ Bk w1 w.heap.size 36 #[.int .i64 s, .int .i64 g] := ⟨_, rfl, by simp, (Below.refl _ w).alloc (Nat.le_refl _) _, Bk.new _ _ _⟩
  obtain ⟨w2, hw2, hz2, hb2, hkx⟩ : ∃ w2, w1.alloc (.cells #[.string ⟨#[]⟩, .int .i64 0, .int .i64 0, .bool false] 93) = w2 ∧ w2.heap.size = w.heap.size + 2 ∧ Below w1.heap.size w1 w2 ∧ Bk w2 (w.heap.size + 1) 93 #[.string ⟨#[]⟩, .int .i64 0, .int .i64 0, .bool false] := ⟨_, rfl, by simp [hz1], (Below.refl _ w1).alloc (Nat.le_refl _) _, by rw [← hz1]; exact Bk.new _ _ _⟩
  have HX2 : Hid (Bk w2 (w.heap.size + 1) 93 #[.string ⟨#[]⟩, .int .i64 0, .int .i64 0, .bool false]) := hkx
  have HB2 : Hid (Below w.heap.size w w2) := hb1.trans (hb2.mono hb1.size)
  have hkh2 := hkh.tn (Tn.of_below hb2 []) (by simp)
  have k0 : w2.cell? ⟨w.heap.size, 0, none⟩ = some (.int .i64 s) := hkh2.cell 0
  have k1 : w2.cell? ⟨w.heap.size, 1, none⟩ = some (.int .i64 g) := hkh2.cell 1
  have h02 : w2.cell? ⟨H, 0, none⟩ = some (.pointer (some ⟨cB, 0, none⟩)) := by rw [HB2.out.cell (p := ⟨H, 0, none⟩) (World.block_lt_of_cell? w _ h0)]; exact h0
  have HA : Hid (Arn Cl.cells 4 tAC tSC w2 cB bs a) := h.tn (Tn.of_below HB2.out []) (by simp)
  have HLT : Hid (∀ b ∈ bs, b < w.heap.size) := h.lt
  have HG : Hid (¬ a.Good s g) := hg
  clear hkx hb1 hb2 hkh hkh2 h0 h hg
  go_enter Try.func43, Try.ntmps43
  go_wp2_with fail
  refine (hmade_ok h02).mono ?_
  rintro e w3 ⟨rfl, rfl⟩
  go_wp2_with fail
  go_region_with (go_at_call 65; refine (getBadC (Arn.tn HA.out (Tn.refl [] _).drew (by simp)) s g HG.out hs0 hs9).mono ?_; rintro e w4 ⟨rfl, ht4⟩; have HX4 : Hid (Bk w4 (w.heap.size + 1) 93 #[.string ⟨#[]⟩, .int .i64 0, .int .i64 0, .bool false]) := aside_blk HX2.out.drew (fun b hb => Nat.lt_succ_of_lt (HLT.out b hb)) ht4; have HE : Hid (∀ w5, Tn [w.heap.size + 1] w4 w5 → ArT Cl.cells 4 tAC tSC w w5 cB bs a.bad) := aside_post HB2.out.drew hz2 HLT.out ht4; have x0 : w4.cell? ⟨w.heap.size + 1, 0, none⟩ = some (.string ⟨#[]⟩) := HX4.out.cell 0; have f0 : w4.frozen? ⟨w.heap.size + 1, 0, none⟩ = false := HX4.out.frozen 0; have x1 : w4.cell? ⟨w.heap.size + 1, 1, none⟩ = some (.int .i64 0) := HX4.out.cell 1; have f1 : w4.frozen? ⟨w.heap.size + 1, 1, none⟩ = false := HX4.out.frozen 1; have x2 : w4.cell? ⟨w.heap.size + 1, 2, none⟩ = some (.int .i64 0) := HX4.out.cell 2; have f2 : w4.frozen? ⟨w.heap.size + 1, 2, none⟩ = false := HX4.out.frozen 2; have x3 : w4.cell? ⟨w.heap.size + 1, 3, none⟩ = some (.bool false) := HX4.out.cell 3; have f3 : w4.frozen? ⟨w.heap.size + 1, 3, none⟩ = false := HX4.out.frozen 3)
  all_goals (
    go_wp2
    refine bodyPost_ret (results_elC (x := Cl.zero) rfl rfl (by exact ((((HX4.out.set 0 _).set 1 _).set 2 _).set 3 _))) rfl ?_
    exact ⟨rfl, HE.out _ (((((Tn.refl _ _).setCell (.inl (by simp)) _).setCell (.inl (by simp)) _).setCell (.inl (by simp)) _).setCell (.inl (by simp)) _)⟩)

end Go.Proofs.Ytbdcdiihaecheaa

namespace Go.Proofs.Ytbdcdiihaecheaa
open Go.RowKit
set_option linter.unusedVariables false
set_option maxRecDepth 100000
set_option linter.unusedSectionVars false
variable [Inhabited Cl] [Inhabited Ln]

/-- A heap as plain data. -/
structure Hp where
  c : Ar Cl
  v : Ar Ln
  e : Ep
  sh : List Sh

/-- A heap, the blocks of its parts apart from each other and from some others. -/
structure HpI (m : Nat) (w : World) (H cB vB eB : Nat) (cb vb eb : List Nat) (h : Hp) (av : List Nat) : Prop where
  blk : Bk w H 70 (hpCells cB vB eB h.sh)
  c : Arn Cl.cells 4 tAC tSC w cB cb h.c
  v : Arn Ln.cells 5 tAL tSL w vB vb h.v
  e : Epn w eB eb h.e
  s17 : h.sh.length = 17
  mH : m ≤ H
  mc : ∀ b ∈ cb, m ≤ b
  mv : ∀ b ∈ vb, m ≤ b
  me : ∀ b ∈ eb, m ≤ b
  Hc : H ∉ cb
  Hv : H ∉ vb
  He : H ∉ eb
  cv : ∀ b ∈ cb, b ∉ vb
  ce : ∀ b ∈ cb, b ∉ eb
  ve : ∀ b ∈ vb, b ∉ eb
  av : ∀ g ∈ av, g < w.heap.size ∧ g ≠ H ∧ g ∉ cb ∧ g ∉ vb ∧ g ∉ eb

def Hpn (m : Nat) (w : World) (H cB vB eB : Nat) (h : Hp) (av : List Nat) : Prop := ∃ cb vb eb, HpI m w H cB vB eB cb vb eb h av

/-- Behind a call. -/
def AftH (m : Nat) (w w' : World) (H cB vB eB : Nat) (h : Hp) (av : List Nat) : Prop := Hpn m w' H cB vB eB h av ∧ Below m w w' ∧ ∀ g ∈ av, w'.heap[g]? = w.heap[g]?

variable {m : Nat} {w w' : World} {H cB vB eB : Nat} {cb vb eb : List Nat} {h : Hp} {av : List Nat}

theorem HpI.ge (hh : HpI m w H cB vB eB cb vb eb h av) : m ≤ w.heap.size := by have := hh.mH; have := hh.blk.lt; omega

/-- Others have turned, and grown. -/
theorem HpI.grow {S av' : List Nat} (hh : HpI m w H cB vB eB cb vb eb h av) (kt : Tn S w w') (hS : ∀ x ∈ S, x ∈ av ∨ w.heap.size ≤ x) (hav : ∀ x ∈ av', x ∈ av ∨ w.heap.size ≤ x) (hlt : ∀ x ∈ av', x < w'.heap.size) : HpI m w' H cB vB eB cb vb eb h av' := by
  have k1 : H ∉ S := fun hm => by
    rcases hS _ hm with h1 | h1
    · exact (hh.av _ h1).2.1 rfl
    · have := hh.blk.lt; omega
  have k2 : ∀ b ∈ cb, b ∉ S := fun b hb hm => by
    rcases hS _ hm with h1 | h1
    · exact (hh.av _ h1).2.2.1 hb
    · have := hh.c.lt b hb; omega
  have k3 : ∀ b ∈ vb, b ∉ S := fun b hb hm => by
    rcases hS _ hm with h1 | h1
    · exact (hh.av _ h1).2.2.2.1 hb
    · have := hh.v.lt b hb; omega
  have k4 : ∀ b ∈ eb, b ∉ S := fun b hb hm => by
    rcases hS _ hm with h1 | h1
    · exact (hh.av _ h1).2.2.2.2 hb
    · have := hh.e.lt b hb; omega
  refine { hh with blk := hh.blk.tn kt k1, c := hh.c.tn kt k2, v := hh.v.tn kt k3, e := hh.e.tn kt k4, av := fun g hg => ?_ }
  rcases hav g hg with h1 | h1
  · exact ⟨hlt g hg, (hh.av g h1).2⟩
  · have a1 := hh.blk.lt
    exact ⟨hlt g hg, by omega, fun hb => by have := hh.c.lt g hb; omega, fun hb => by have := hh.v.lt g hb; omega, fun hb => by have := hh.e.lt g hb; omega⟩

theorem Hpn.grow {S av' : List Nat} (hh : Hpn m w H cB vB eB h av) (kt : Tn S w w') (hS : ∀ x ∈ S, x ∈ av ∨ w.heap.size ≤ x) (hav : ∀ x ∈ av', x ∈ av ∨ w.heap.size ≤ x) (hlt : ∀ x ∈ av', x < w'.heap.size) : Hpn m w' H cB vB eB h av' := by
  obtain ⟨cb, vb, eb, hh⟩ := hh
  exact ⟨cb, vb, eb, hh.grow kt hS hav hlt⟩

theorem Hpn.avlt (hh : Hpn m w H cB vB eB h av) : ∀ g ∈ av, g < w.heap.size := by
  obtain ⟨cb, vb, eb, hh⟩ := hh
  exact fun g hg => (hh.av g hg).1

theorem Hpn.ge (hh : Hpn m w H cB vB eB h av) : m ≤ w.heap.size := by
  obtain ⟨cb, vb, eb, hh⟩ := hh
  exact hh.ge

theorem Hpn.s17 (hh : Hpn m w H cB vB eB h av) : h.sh.length = 17 := by
  obtain ⟨cb, vb, eb, hh⟩ := hh
  exact hh.s17

theorem Hpn.quiet (hh : Hpn m w H cB vB eB h av) (kt : Tn [] w w') : Hpn m w' H cB vB eB h av :=
  hh.grow kt (by simp) (fun x hx => .inl hx) (fun x hx => Nat.lt_of_lt_of_le (hh.avlt x hx) kt.size)

theorem Hpn.below (hh : Hpn m w H cB vB eB h av) (hb : Below w.heap.size w w') : Hpn m w' H cB vB eB h av := hh.quiet (Tn.of_below hb [])

theorem Hpn.other {S : List Nat} (hh : Hpn m w H cB vB eB h av) (kt : Tn S w w') (hS : ∀ x ∈ S, x ∈ av) : Hpn m w' H cB vB eB h av :=
  hh.grow kt (fun x hx => .inl (hS x hx)) (fun x hx => .inl hx) (fun x hx => Nat.lt_of_lt_of_le (hh.avlt x hx) kt.size)

theorem Hpn.add (hh : Hpn m w H cB vB eB h av) (kt : Tn [] w w') {g : Nat} (hg : w.heap.size ≤ g) (hg' : g < w'.heap.size) : Hpn m w' H cB vB eB h (g :: av) :=
  hh.grow kt (by simp) (fun x hx => by
    rcases List.mem_cons.1 hx with rfl | hx
    · exact .inr hg
    · exact .inl hx) (fun x hx => by
    rcases List.mem_cons.1 hx with rfl | hx
    · exact hg'
    · exact Nat.lt_of_lt_of_le (hh.avlt x hx) kt.size)

theorem Hpn.sub {av' : List Nat} (hh : Hpn m w H cB vB eB h av) (hs : ∀ x ∈ av', x ∈ av) : Hpn m w H cB vB eB h av' := by
  obtain ⟨cb, vb, eb, hh⟩ := hh
  exact ⟨cb, vb, eb, { hh with av := fun g hg => hh.av g (hs g hg) }⟩

theorem Hpn.old (hh : Hpn m w H cB vB eB h av) {g : Nat} (hg : g < m) : Hpn m w H cB vB eB h (g :: av) := by
  obtain ⟨cb, vb, eb, hh⟩ := hh
  refine ⟨cb, vb, eb, { hh with av := fun x hx => ?_ }⟩
  rcases List.mem_cons.1 hx with rfl | hx
  · have := hh.ge
    have := hh.mH
    exact ⟨by omega, by omega, fun hb => by have := hh.mc _ hb; omega, fun hb => by have := hh.mv _ hb; omega, fun hb => by have := hh.me _ hb; omega⟩
  · exact hh.av x hx

theorem AftH.refl (hh : Hpn m w H cB vB eB h av) : AftH m w w H cB vB eB h av := ⟨hh, Below.refl _ _, fun _ _ => rfl⟩

theorem AftH.quiet (hh : Hpn m w H cB vB eB h av) (kt : Tn [] w w') : AftH m w w' H cB vB eB h av :=
  ⟨hh.quiet kt, kt.below hh.ge (by simp), fun g hg => kt.block g (hh.avlt g hg) (by simp)⟩

theorem AftH.trans {w1 : World} {h1 h2 : Hp} (k1 : AftH m w w1 H cB vB eB h1 av) (k2 : AftH m w1 w' H cB vB eB h2 av) : AftH m w w' H cB vB eB h2 av :=
  ⟨k2.1, k1.2.1.trans k2.2.1, fun g hg => (k2.2.2 g hg).trans (k1.2.2 g hg)⟩

theorem AftH.sub {av' : List Nat} (k : AftH m w w' H cB vB eB h av) (hs : ∀ x ∈ av', x ∈ av) : AftH m w w' H cB vB eB h av' :=
  ⟨k.1.sub hs, k.2.1, fun g hg => k.2.2 g (hs g hg)⟩

/-- Something new is laid first .. -/
theorem AftH.pre {w1 : World} {h0 : Hp} {av' : List Nat} (h0 : Hpn m w H cB vB eB h0 av) (k1 : Tn [] w w1) (hs : ∀ x ∈ av, x ∈ av') (k2 : AftH m w1 w' H cB vB eB h av') : AftH m w w' H cB vB eB h av :=
  ⟨k2.1.sub hs, (k1.below h0.ge (by simp)).trans k2.2.1, fun g hg => (k2.2.2 g (hs g hg)).trans (k1.block g (h0.avlt g hg) (by simp))⟩

/-- .. and what is new turns behind it. -/
theorem AftH.post {w1 : World} {S av' : List Nat} (k1 : AftH m w w1 H cB vB eB h av') (hav : ∀ g ∈ av, g < w.heap.size) (hge : m ≤ w.heap.size) (hs : ∀ x ∈ av, x ∈ av') (kt : Tn S w1 w') (hS : ∀ x ∈ S, (x ∈ av' ∨ w1.heap.size ≤ x) ∧ w.heap.size ≤ x) : AftH m w w' H cB vB eB h av := by
  have hsz := k1.2.1.size
  refine ⟨k1.1.grow kt (fun x hx => (hS x hx).1) (fun x hx => .inl (hs x hx)) (fun x hx => ?_), ?_, fun g hg => ?_⟩
  · have := hav x hx; have := kt.size; omega
  · exact k1.2.1.trans (kt.below (by omega) (fun x hx => by have := (hS x hx).2; omega))
  · refine (kt.block g (by have := hav g hg; omega) (fun hm => ?_)).trans (k1.2.2 g (hs g hg))
    have := (hS g hm).2
    have := hav g hg
    omega

theorem AftH.blk {g : Nat} {t : TypeId} {cs : Array Value} (k : AftH m w w' H cB vB eB h av) (hg : g ∈ av) (hk : Bk w g t cs) : Bk w' g t cs := (k.2.2 g hg).trans hk

/-- The cells have become others. -/
theorem HpI.stepC (hh : HpI m w H cB vB eB cb vb eb h av) {c' : Ar Cl} (ht : ArT Cl.cells 4 tAC tSC w w' cB cb c') : AftH m w w' H cB vB eB { h with c := c' } av := by
  obtain ⟨cb', ha, ht, hm⟩ := ht
  have new : ∀ (b : Nat), b < w.heap.size → b ∉ cb → b ∉ cb' := fun b h1 h2 h3 => by
    rcases hm b h3 with h4 | h4
    · exact h2 h4
    · omega
  refine ⟨⟨cb', vb, eb, { blk := hh.blk.tn ht hh.Hc, c := ha, v := hh.v.tn ht (fun b hb hc => hh.cv b hc hb), e := hh.e.tn ht (fun b hb hc => hh.ce b hc hb), s17 := hh.s17, mH := hh.mH, mc := fun b hb => ?_, mv := hh.mv, me := hh.me, Hc := new _ hh.blk.lt hh.Hc, Hv := hh.Hv, He := hh.He, cv := fun b hb hv => new b (hh.v.lt b hv) (fun hc => hh.cv b hc hv) hb, ce := fun b hb hv => new b (hh.e.lt b hv) (fun hc => hh.ce b hc hv) hb, ve := hh.ve, av := fun g hg => ?_ }⟩, ht.below hh.ge hh.mc, fun g hg => ht.block g (hh.av g hg).1 (hh.av g hg).2.2.1⟩
  · rcases hm b hb with h4 | h4
    · exact hh.mc b h4
    · have := hh.ge; omega
  · have k := hh.av g hg
    have := ht.size
    exact ⟨by omega, k.2.1, new g k.1 k.2.2.1, k.2.2.2.1, k.2.2.2.2⟩

/-- The versions have become others. -/
theorem HpI.stepV (hh : HpI m w H cB vB eB cb vb eb h av) {v' : Ar Ln} (ht : ArT Ln.cells 5 tAL tSL w w' vB vb v') : AftH m w w' H cB vB eB { h with v := v' } av := by
  obtain ⟨vb', ha, ht, hm⟩ := ht
  have new : ∀ (b : Nat), b < w.heap.size → b ∉ vb → b ∉ vb' := fun b h1 h2 h3 => by
    rcases hm b h3 with h4 | h4
    · exact h2 h4
    · omega
  refine ⟨⟨cb, vb', eb, { blk := hh.blk.tn ht hh.Hv, c := hh.c.tn ht hh.cv, v := ha, e := hh.e.tn ht (fun b hb hc => hh.ve b hc hb), s17 := hh.s17, mH := hh.mH, mc := hh.mc, mv := fun b hb => ?_, me := hh.me, Hc := hh.Hc, Hv := new _ hh.blk.lt hh.Hv, He := hh.He, cv := fun b hb => new b (hh.c.lt b hb) (hh.cv b hb), ce := hh.ce, ve := fun b hb hv => new b (hh.e.lt b hv) (fun hc => hh.ve b hc hv) hb, av := fun g hg => ?_ }⟩, ht.below hh.ge hh.mv, fun g hg => ht.block g (hh.av g hg).1 (hh.av g hg).2.2.2.1⟩
  · rcases hm b hb with h4 | h4
    · exact hh.mv b h4
    · have := hh.ge; omega
  · have k := hh.av g hg
    have := ht.size
    exact ⟨by omega, k.2.1, k.2.2.1, new g k.1 k.2.2.2.1, k.2.2.2.2⟩

/-- The epoch has become another. -/
theorem HpI.stepE (hh : HpI m w H cB vB eB cb vb eb h av) {e' : Ep} (ht : EpT w w' eB eb e') : AftH m w w' H cB vB eB { h with e := e' } av := by
  obtain ⟨eb', ha, ht, hm⟩ := ht
  have new : ∀ (b : Nat), b < w.heap.size → b ∉ eb → b ∉ eb' := fun b h1 h2 h3 => by
    rcases hm b h3 with h4 | h4
    · exact h2 h4
    · omega
  refine ⟨⟨cb, vb, eb', { blk := hh.blk.tn ht hh.He, c := hh.c.tn ht hh.ce, v := hh.v.tn ht hh.ve, e := ha, s17 := hh.s17, mH := hh.mH, mc := hh.mc, mv := hh.mv, me := fun b hb => ?_, Hc := hh.Hc, Hv := hh.Hv, He := new _ hh.blk.lt hh.He, cv := hh.cv, ce := fun b hb => new b (hh.c.lt b hb) (hh.ce b hb), ve := fun b hb => new b (hh.v.lt b hb) (hh.ve b hb), av := fun g hg => ?_ }⟩, ht.below hh.ge hh.me, fun g hg => ht.block g (hh.av g hg).1 (hh.av g hg).2.2.2.2⟩
  · rcases hm b hb with h4 | h4
    · exact hh.me b h4
    · have := hh.ge; omega
  · have k := hh.av g hg
    have := ht.size
    exact ⟨by omega, k.2.1, k.2.2.1, k.2.2.2.1, new g k.1 k.2.2.2.2⟩

/-- What is reserved has become other. -/
theorem HpI.stepS (hh : HpI m w H cB vB eB cb vb eb h av) {sh' : List Sh} (h17 : sh'.length = 17) (hB : Bk w' H 70 (hpCells cB vB eB sh')) (ht : Tn [H] w w') : AftH m w w' H cB vB eB { h with sh := sh' } av := by
  have hz := ht.size
  refine ⟨⟨cb, vb, eb, { hh with blk := hB, c := hh.c.tn ht (fun b hb hm => ?_), v := hh.v.tn ht (fun b hb hm => ?_), e := hh.e.tn ht (fun b hb hm => ?_), s17 := h17, av := fun g hg => ⟨by have := (hh.av g hg).1; omega, (hh.av g hg).2⟩ }⟩, ht.below hh.ge (by simp; exact hh.mH), fun g hg => ht.block g (hh.av g hg).1 (by simp; exact (hh.av g hg).2.1)⟩
  · simp at hm; subst hm; exact hh.Hc hb
  · simp at hm; subst hm; exact hh.Hv hb
  · simp at hm; subst hm; exact hh.He hb

/-- The pointers of a heap's block. -/
theorem HpI.ptrs (hh : HpI m w H cB vB eB cb vb eb h av) : w.cell? ⟨H, 0, none⟩ = some (.pointer (some ⟨cB, 0, none⟩)) ∧ w.cell? ⟨H, 1, none⟩ = some (.pointer (some ⟨vB, 0, none⟩)) ∧ w.cell? ⟨H, 2, none⟩ = some (.pointer (some ⟨eB, 0, none⟩)) :=
  ⟨hh.blk.cell 0, hh.blk.cell 1, hh.blk.cell 2⟩

/-- The cells of what a session has reserved. -/
theorem HpI.shc (hh : HpI m w H cB vB eB cb vb eb h av) (s : Nat) (hs : s < 17) : w.cell? ⟨H, 3 + s * 3, none⟩ = some (.bool (shAt h.sh s).has) ∧ w.cell? ⟨H, 3 + s * 3 + 1, none⟩ = some (.int .i64 ((shAt h.sh s).c : Int)) ∧ w.cell? ⟨H, 3 + s * 3 + 2, none⟩ = some (.int .i64 ((shAt h.sh s).v : Int)) :=
  ⟨(hh.blk.cell _).trans (hpCells_at _ _ _ _ s (by rw [hh.s17]; exact hs) 0 _ rfl), (hh.blk.cell _).trans (hpCells_at _ _ _ _ s (by rw [hh.s17]; exact hs) 1 _ rfl), (hh.blk.cell _).trans (hpCells_at _ _ _ _ s (by rw [hh.s17]; exact hs) 2 _ rfl)⟩

theorem Hpn.ptrs (hh : Hpn m w H cB vB eB h av) : w.cell? ⟨H, 0, none⟩ = some (.pointer (some ⟨cB, 0, none⟩)) ∧ w.cell? ⟨H, 1, none⟩ = some (.pointer (some ⟨vB, 0, none⟩)) ∧ w.cell? ⟨H, 2, none⟩ = some (.pointer (some ⟨eB, 0, none⟩)) := by
  obtain ⟨cb, vb, eb, hh⟩ := hh
  exact hh.ptrs

theorem Hpn.shc (hh : Hpn m w H cB vB eB h av) (s : Nat) (hs : s < 17) : w.cell? ⟨H, 3 + s * 3, none⟩ = some (.bool (shAt h.sh s).has) ∧ w.cell? ⟨H, 3 + s * 3 + 1, none⟩ = some (.int .i64 ((shAt h.sh s).c : Int)) ∧ w.cell? ⟨H, 3 + s * 3 + 2, none⟩ = some (.int .i64 ((shAt h.sh s).v : Int)) := by
  obtain ⟨cb, vb, eb, hh⟩ := hh
  exact hh.shc s hs

theorem Hpn.frz (hh : Hpn m w H cB vB eB h av) (i : Nat) : w.frozen? ⟨H, i, none⟩ = false := by
  obtain ⟨cb, vb, eb, hh⟩ := hh
  exact hh.blk.frozen i

end Go.Proofs.Ytbdcdiihaecheaa

namespace Go.Proofs.Ytbdcdiihaecheaa
open Go.RowKit
set_option linter.unusedVariables false
set_option maxRecDepth 100000
set_option linter.unusedSectionVars false
variable [Inhabited Cl] [Inhabited Ln]

theorem livedC {w : World} {B : Nat} {bs : List Nat} {a : Ar Cl} (h : Arn Cl.cells 4 tAC tSC w B bs a) : Calls Try.prog 53 #[.pointer (some ⟨B, 0, none⟩)] w fun e w' => e = .returned (.int .i64 (live a.us)) ∧ ∃ k, w' = w.drewN k := by
  obtain ⟨uv, fv, fr, -, h⟩ := h
  obtain ⟨c0, c1, c2, c3⟩ := h.four
  obtain ⟨p, c, rfl⟩ := h.uform
  obtain ⟨q, d, rfl⟩ := h.fform
  have hs1 := h.s1
  have hl := h.frlen
  have hle := h.le
  have hs := h.s2
  have he : (a.us.length : Int) - (fr.length : Int) = (live a.us : Int) := by omega
  generalize live a.us = lv at *
  generalize a.us.length = n at *
  generalize fr.length = m at *
  clear h
  go_enter Try.func53, Try.ntmps53
  go_wp2_with fail
  refine (madeC c0 hs1).mono ?_
  rintro e w1 ⟨rfl, rfl⟩
  go_wp2_with fail
  go_quiet (fail)
  go_wp2
  go_ret
  exact ⟨by simp, _, rfl⟩

theorem livedL {w : World} {B : Nat} {bs : List Nat} {a : Ar Ln} (h : Arn Ln.cells 5 tAL tSL w B bs a) : Calls Try.prog 54 #[.pointer (some ⟨B, 0, none⟩)] w fun e w' => e = .returned (.int .i64 (live a.us)) ∧ ∃ k, w' = w.drewN k := by
  obtain ⟨uv, fv, fr, -, h⟩ := h
  obtain ⟨c0, c1, c2, c3⟩ := h.four
  obtain ⟨p, c, rfl⟩ := h.uform
  obtain ⟨q, d, rfl⟩ := h.fform
  have hs1 := h.s1
  have hl := h.frlen
  have hle := h.le
  have hs := h.s2
  have he : (a.us.length : Int) - (fr.length : Int) = (live a.us : Int) := by omega
  generalize live a.us = lv at *
  generalize a.us.length = n at *
  generalize fr.length = m at *
  clear h
  go_enter Try.func54, Try.ntmps54
  go_wp2_with fail
  refine (madeL c0 hs1).mono ?_
  rintro e w1 ⟨rfl, rfl⟩
  go_wp2_with fail
  go_quiet (fail)
  go_wp2
  go_ret
  exact ⟨by simp, _, rfl⟩

/-- What is reserved, all in all. -/
def sumC (l : List Sh) : Nat := (l.map Sh.c).sum
def sumV (l : List Sh) : Nat := (l.map Sh.v).sum

theorem sumC_take (l : List Sh) (j : Nat) (hj : j < l.length) : sumC (l.take (j + 1)) = sumC (l.take j) + (shAt l j).c := by
  unfold sumC shAt
  rw [List.take_add_one, List.getElem?_eq_getElem hj, List.map_append, List.sum_append]
  simp only [Option.toList_some, List.map_cons, List.map_nil, List.sum_cons, List.sum_nil, Nat.add_zero, List.getD, List.getElem?_eq_getElem hj, Option.getD_some]
theorem sumV_take (l : List Sh) (j : Nat) (hj : j < l.length) : sumV (l.take (j + 1)) = sumV (l.take j) + (shAt l j).v := by
  unfold sumV shAt
  rw [List.take_add_one, List.getElem?_eq_getElem hj, List.map_append, List.sum_append]
  simp only [Option.toList_some, List.map_cons, List.map_nil, List.sum_cons, List.sum_nil, Nat.add_zero, List.getD, List.getElem?_eq_getElem hj, Option.getD_some]
theorem sumC_le (l : List Sh) (j : Nat) : sumC (l.take j) ≤ sumC l := by
  have h : l.take j ++ l.drop j = l := List.take_append_drop j l
  have h2 : sumC (l.take j ++ l.drop j) = sumC (l.take j) + sumC (l.drop j) := by unfold sumC; rw [List.map_append, List.sum_append]
  rw [h] at h2
  omega
theorem sumV_le (l : List Sh) (j : Nat) : sumV (l.take j) ≤ sumV l := by
  have h : l.take j ++ l.drop j = l := List.take_append_drop j l
  have h2 : sumV (l.take j ++ l.drop j) = sumV (l.take j) + sumV (l.drop j) := by unfold sumV; rw [List.map_append, List.sum_append]
  rw [h] at h2
  omega

/-- No more is reserved than is free. -/
structure Hp.Fit (h : Hp) : Prop where
  c : live h.c.us + sumC h.sh ≤ h.c.size
  v : live h.v.us + sumV h.sh ≤ h.v.size

theorem run_index_sh (w : World) (sh : List Sh) (h17 : sh.length = 17) (j : Nat) (hj : j < 17) :
    (Instr.index 68 (.agg (flat Sh.cells sh).toArray) (.int .i64 (j : Int))).run Try.prog w = .ok (.agg #[.bool (shAt sh j).has, .int .i64 ((shAt sh j).c : Int), .int .i64 ((shAt sh j).v : Int)]) w := by
  have hu : Try.prog.underlying 68 = some (.array 17 67) := by kernel_rfl
  have ha : (isAgg 67).run Try.prog w = .ok true w := by
    unfold isAgg
    rw [Sem.run_bind, run_underlying (d := (Try.prog.underlying 67).get!) (by kernel_rfl) w]
    rfl
  have hs : (sizeOf 67).run Try.prog w = .ok 3 w := by
    have hi : (Try.prog.info? 67).map (·.size) = some 3 := by kernel_rfl
    cases hq : Try.prog.info? 67 with
    | none => simp [hq] at hi
    | some i =>
      have : i.size = 3 := by simpa [hq] using hi
      simp [sizeOf, typeInfo, Sem.run_bind, hq, this]
  have h1 : (0 : Int) ≤ (j : Int) ∧ (j : Int) < ((17 : Nat) : Int) := by omega
  have hx : (flat Sh.cells sh).toArray.extract (j * 3) (j * 3 + 3) = #[.bool (shAt sh j).has, .int .i64 ((shAt sh j).c : Int), .int .i64 ((shAt sh j).v : Int)] := by
    apply Array.ext'
    simp only [Array.toList_extract, List.extract_eq_take_drop, show j * 3 + 3 - j * 3 = 3 by omega]
    apply List.ext_getElem?
    intro i
    rw [List.getElem?_take]
    split
    · rename_i hi
      rw [List.getElem?_drop]
      match i, hi with
      | 0, _ => exact flat_at shK sh j _ (shAt_get (by omega)) 0 _ rfl
      | 1, _ => exact flat_at shK sh j _ (shAt_get (by omega)) 1 _ rfl
      | 2, _ => exact flat_at shK sh j _ (shAt_get (by omega)) 2 _ rfl
    · rename_i hi
      rw [List.getElem?_eq_none]
      simp
      omega
  have hn : ((j : Int)).toNat = j := by simp
  simp only [Instr.index, asIntOf, Sem.run_bind, Sem.run_pure, Result.andThen_ok, run_underlying hu, if_pos h1, part, ha, hs, if_true, hn, hx]

end Go.Proofs.Ytbdcdiihaecheaa

namespace Go.Proofs.Ytbdcdiihaecheaa
open Go.RowKit
set_option linter.unusedVariables false
set_option maxRecDepth 100000
set_option linter.unusedSectionVars false
variable [Inhabited Cl] [Inhabited Ln]

/-- Room, of cells and of versions. -/
def Hp.rc (h : Hp) : Nat := h.c.size - live h.c.us - sumC h.sh
def Hp.rv (h : Hp) : Nat := h.v.size - live h.v.us - sumV h.sh

variable {m : Nat} {w w' : World} {H cB vB eB : Nat} {cb vb eb : List Nat} {h : Hp} {av : List Nat}

theorem drewN_twice (w : World) (a b : Nat) : (w.drewN a).drewN b = w.drewN (a + b) := by simp [World.drewN, Nat.add_assoc]

set_option maxHeartbeats 2000000 in
theorem room_any (hh : Hpn m w H cB vB eB h av) (hf : h.Fit) : Calls Try.prog 23 #[.pointer (some ⟨H, 0, none⟩)] w fun e w' => e = .returned (.tuple #[.int .i64 (h.rc : Int), .int .i64 (h.rv : Int)]) ∧ Below w.heap.size w w' := by
  obtain ⟨cb, vb, eb, hh⟩ := hh
  obtain ⟨p0, p1, p2⟩ := hh.ptrs
  have HC : Hid (Arn Cl.cells 4 tAC tSC w cB cb h.c) := hh.c
  have HV : Hid (Arn Ln.cells 5 tAL tSL w vB vb h.v) := hh.v
  have hzc : h.c.size ≤ 65536 := by obtain ⟨_, _, _, _, hi⟩ := hh.c; exact hi.s2
  have hzv : h.v.size ≤ 65536 := by obtain ⟨_, _, _, _, hi⟩ := hh.v; exact hi.s2
  have HR : Hid (∀ k, (w.drewN k).rangeAt H 3 (flat Sh.cells h.sh)) := by
    intro k j v hv
    have := (hh.blk.tn (Tn.of_below (below_drewN (Below.refl _ w) k) []) (by simp)).cell (3 + j)
    refine this.trans ?_
    have e : 3 + j = j + 1 + 1 + 1 := by omega
    simp only [hpCells, List.getElem?_toArray, e, List.getElem?_cons_succ]
    exact hv
  have h17 := hh.s17
  have hfl : (flat Sh.cells h.sh).length = 51 := by rw [flat_len shK, h17]
  have hu : Try.prog.underlying 68 = some (.array 17 67) := by kernel_rfl
  have hi : (Try.prog.info? 68).map (·.size) = some 51 := by kernel_rfl
  have HU : Hid (Try.prog.underlying 68 = some (.array 17 67)) := hu
  have HI : Hid ((Try.prog.info? 68).map (·.size) = some (flat Sh.cells h.sh).length) := by rw [hfl]; exact hi
  have HIX : Hid (∀ (W : World) (j : Nat), j < 17 → (Instr.index 68 (.agg (flat Sh.cells h.sh).toArray) (.int .i64 (j : Int))).run Try.prog W = .ok (.agg #[.bool (shAt h.sh j).has, .int .i64 ((shAt h.sh j).c : Int), .int .i64 ((shAt h.sh j).v : Int)]) W) := fun W j hj => run_index_sh W _ h17 j hj
  have HF : Hid h.Fit := hf
  have HS : Hid (∀ j, j < 17 → sumC (h.sh.take (j + 1)) = sumC (h.sh.take j) + (shAt h.sh j).c ∧ sumV (h.sh.take (j + 1)) = sumV (h.sh.take j) + (shAt h.sh j).v) := fun j hj => ⟨sumC_take _ _ (by omega), sumV_take _ _ (by omega)⟩
  have HT : Hid (h.sh.take 17 = h.sh) := List.take_of_length_le (by omega)
  obtain ⟨sc, hsc⟩ : ∃ x, h.c.size = x := ⟨_, rfl⟩
  obtain ⟨sv, hsv⟩ : ∃ x, h.v.size = x := ⟨_, rfl⟩
  obtain ⟨lc, hlc⟩ : ∃ x, live h.c.us = x := ⟨_, rfl⟩
  obtain ⟨lv, hlv⟩ : ∃ x, live h.v.us = x := ⟨_, rfl⟩
  have hb : lc + sumC h.sh ≤ sc ∧ lv + sumV h.sh ≤ sv := by rw [← hsc, ← hsv, ← hlc, ← hlv]; exact ⟨hf.c, hf.v⟩
  have HLC : Hid (∀ k, Calls Try.prog 53 #[.pointer (some ⟨cB, 0, none⟩)] (w.drewN k) fun e w' => e = .returned (.int .i64 lc) ∧ ∃ k, w' = (w.drewN k)) := fun k => (livedC (HC.out.tn (Tn.of_below (below_drewN (Below.refl _ w) k) []) (by simp))).mono fun e w' ⟨he, k2, hk⟩ => ⟨by rw [he, hlc], k + k2, by rw [hk]; exact (drewN_twice _ _ _)⟩
  have HLV : Hid (∀ k, Calls Try.prog 54 #[.pointer (some ⟨vB, 0, none⟩)] (w.drewN k) fun e w' => e = .returned (.int .i64 lv) ∧ ∃ k, w' = (w.drewN k)) := fun k => (livedL (HV.out.tn (Tn.of_below (below_drewN (Below.refl _ w) k) []) (by simp))).mono fun e w' ⟨he, k2, hk⟩ => ⟨by rw [he, hlv], k + k2, by rw [hk]; exact (drewN_twice _ _ _)⟩
  have HSC : Hid (∀ k, Calls Try.prog 60 #[.pointer (some ⟨cB, 0, none⟩)] (w.drewN k) fun e w' => e = .returned (.int .i64 sc) ∧ w' = w.drewN k) := fun k => (slotsC (HC.out.tn (Tn.of_below (below_drewN (Below.refl _ w) k) []) (by simp))).mono fun e w' ⟨he, hk⟩ => ⟨by rw [he, hsc], hk⟩
  have HSV : Hid (∀ k, Calls Try.prog 61 #[.pointer (some ⟨vB, 0, none⟩)] (w.drewN k) fun e w' => e = .returned (.int .i64 sv) ∧ w' = w.drewN k) := fun k => (slotsL (HV.out.tn (Tn.of_below (below_drewN (Below.refl _ w) k) []) (by simp))).mono fun e w' ⟨he, hk⟩ => ⟨by rw [he, hsv], hk⟩
  have HRC : Hid ((h.rc : Int) = (sc : Int) - lc - sumC h.sh ∧ (h.rv : Int) = (sv : Int) - lv - sumV h.sh) := by
    unfold Hp.rc Hp.rv
    rw [hsc, hsv, hlc, hlv]
    exact ⟨by omega, by omega⟩
  have hs17 := h17
  rw [hsc] at hzc
  rw [hsv] at hzv
  generalize h.sh = sh at *
  generalize h.rc = rc at *
  generalize h.rv = rv at *
  clear hh hf HF HC HV hsc hsv hlc hlv hu hi hfl h17
  go_enter Try.func23, Try.ntmps23
  go_wp2_with fail
  refine (hmade_ok p0).mono ?_
  rintro e w1 ⟨rfl, rfl⟩
  go_wp2_with fail
  go_region_held3 (fun w' => w'.cell? ⟨H, 0, none⟩ = some (.pointer (some ⟨cB, 0, none⟩)) ∧ w'.cell? ⟨H, 1, none⟩ = some (.pointer (some ⟨vB, 0, none⟩))) (go_keep) (first
    | (go_at_call 60; refine (HSC.out _).mono ?_; rintro e w2 ⟨rfl, rfl⟩)
    | (go_at_call 61; refine (HSV.out _).mono ?_; rintro e w2 ⟨rfl, rfl⟩)
    | (go_at_call 53; refine (HLC.out _).mono ?_; rintro e w2 ⟨rfl, k1, rfl⟩)
    | (go_at_call 54; refine (HLV.out _).mono ?_; rintro e w2 ⟨rfl, k2, rfl⟩))
  have HB2 : Hid (Below w1.heap.size w1 (w1.drewN k2)) := below_drewN (Below.refl _ _) _
  clear HLC HLV HSC HSV
  have wc : IntKind.i64.wrap ((sc : Int) - lc) = (sc : Int) - lc := by rw [IntKind.wrap_i64]; omega
  have wv : IntKind.i64.wrap ((sv : Int) - lv) = (sv : Int) - lv := by rw [IntKind.wrap_i64]; omega
  rw [wc, wv]
  go_wp2_with (refine wpList_load_mid rfl 68 _ rfl H 3 rfl (flat Sh.cells sh) _ (HR.out _) HU.out rfl HI.out ?_)
  clear wc wv HR HU HI
  go_loopw [4, 5, 37] (fun a b i wr => ∃ j : Nat, j ≤ 17 ∧ a = .int .i64 ((sc : Int) - lc - sumC (sh.take j)) ∧ b = .int .i64 ((sv : Int) - lv - sumV (sh.take j)) ∧ i = .int .i64 j ∧ Hid (Below w1.heap.size w1 wr)) (fun _ _ i _ => 17 - (intOf i).toNat)
  case atStart => exact ⟨0, by omega, by simp [sumC], by simp [sumV], rfl, HB2⟩
  case round =>
    obtain ⟨j, hj, rfl, rfl, rfl, HW⟩ := hrel
    by_cases hlt : j < 17
    · have hli : (j : Int) < 17 := by omega
      have g0 : (0 : Int) ≤ (j : Int) := by omega
      have hix := HIX.out wr j hlt
      obtain ⟨hs1, hs2⟩ := HS.out j hlt
      have l1 := sumC_le sh (j + 1)
      have l2 := sumV_le sh (j + 1)
      have HSU : Hid (((sumC (sh.take (j + 1)) : Nat) : Int) = ((sumC (sh.take j) : Nat) : Int) + ((shAt sh j).c : Int) ∧ ((sumV (sh.take (j + 1)) : Nat) : Int) = ((sumV (sh.take j) : Nat) : Int) + ((shAt sh j).v : Int)) := ⟨by omega, by omega⟩
      obtain ⟨hb1, hb2⟩ := hb
      have d1 : (sumC (sh.take j) : Int) + ((shAt sh j).c : Int) ≤ 65536 := by omega
      have d2 : (sumV (sh.take j) : Int) + ((shAt sh j).v : Int) ≤ 65536 := by omega
      have d3 : (0 : Int) ≤ sumC (sh.take j) ∧ (0 : Int) ≤ (shAt sh j).c ∧ (0 : Int) ≤ sumV (sh.take j) ∧ (0 : Int) ≤ (shAt sh j).v ∧ (0 : Int) ≤ lc ∧ (lc : Int) ≤ 65536 ∧ (0 : Int) ≤ lv ∧ (lv : Int) ≤ 65536 ∧ (0 : Int) ≤ sc ∧ (sc : Int) ≤ 65536 ∧ (0 : Int) ≤ sv ∧ (sv : Int) ≤ 65536 := by omega
      obtain ⟨d30, d31, d32, d33, d34, d35, d36, d37, d38, d39, d40, d41⟩ := d3
      clear hs1 hs2 l1 l2
      generalize ((sumC (sh.take j) : Nat) : Int) = xc at *
      generalize ((sumV (sh.take j) : Nat) : Int) = xv at *
      generalize (shAt sh j).has = yh at *
      obtain ⟨w2, hw2⟩ : ∃ w2, wr.alloc (.cells #[.bool yh, .int .i64 ((shAt sh j).c : Int), .int .i64 ((shAt sh j).v : Int)] 67) = w2 := ⟨_, rfl⟩
      have k2 : Bk w2 wr.heap.size 67 #[.bool yh, .int .i64 ((shAt sh j).c : Int), .int .i64 ((shAt sh j).v : Int)] := by rw [← hw2]; exact Bk.new _ _ _
      have d0 : w2.cell? ⟨wr.heap.size, 0, none⟩ = some (.bool yh) := k2.cell 0
      have d1 : w2.cell? ⟨wr.heap.size, 1, none⟩ = some (.int .i64 ((shAt sh j).c : Int)) := k2.cell 1
      have d2 : w2.cell? ⟨wr.heap.size, 2, none⟩ = some (.int .i64 ((shAt sh j).v : Int)) := k2.cell 2
      have HW2 : Hid (Below w1.heap.size w1 w2) := by rw [← hw2]; exact HW.out.alloc HW.out.size _
      clear k2 hb1 hb2
      go_wp2
      go_roundw
      case rel => exact ⟨j + 1, by omega, by rw [HSU.out.1, Int.sub_sub _ xc], by rw [HSU.out.2, Int.sub_sub _ xv], by go_num, HW2⟩
      case measure => simp [intOf]; omega
    · obtain rfl : j = 17 := by omega
      have HT1 := HT.out
      go_wp2
      go_ret2
      exact ⟨by rw [HRC.out.1, HRC.out.2, HT1]; rfl, HW.out⟩

end Go.Proofs.Ytbdcdiihaecheaa

namespace Go.Proofs.Ytbdcdiihaecheaa
open Go.RowKit
set_option linter.unusedVariables false
set_option maxRecDepth 100000
set_option linter.unusedSectionVars false
variable [Inhabited Cl] [Inhabited Ln]

variable {m : Nat} {w w' : World} {H cB vB eB : Nat} {cb vb eb : List Nat} {h : Hp} {av : List Nat}

/-- A session's share, another. -/
def Hp.setSh (h : Hp) (s : Nat) (x : Sh) : Hp := { h with sh := h.sh.set s x }

/-- The three cells of a share are written. -/
theorem HpI.put3 (hh : HpI m w H cB vB eB cb vb eb h av) (s : Nat) (hs : s < 17) (x : Sh) (hw : w' = ((w.setCell ⟨H, 3 + s * 3, none⟩ (.bool x.has)).setCell ⟨H, 3 + s * 3 + 1, none⟩ (.int .i64 (x.c : Int))).setCell ⟨H, 3 + s * 3 + 2, none⟩ (.int .i64 (x.v : Int))) : AftH m w w' H cB vB eB (h.setSh s x) av := by
  subst hw
  refine hh.stepS (sh' := h.sh.set s x) (by simp [hh.s17]) ?_ ?_
  · have := ((hh.blk.set (3 + s * 3) (.bool x.has)).set (3 + s * 3 + 1) (.int .i64 (x.c : Int))).set (3 + s * 3 + 2) (.int .i64 (x.v : Int))
    rw [hpCells_set _ _ _ _ s (by rw [hh.s17]; exact hs)] at this
    exact this
  · exact (((Tn.refl _ _).setCell (.inl (by simp)) _).setCell (.inl (by simp)) _).setCell (.inl (by simp)) _

theorem Hpn.put3 (hh : Hpn m w H cB vB eB h av) (s : Nat) (hs : s < 17) (x : Sh) (hw : w' = ((w.setCell ⟨H, 3 + s * 3, none⟩ (.bool x.has)).setCell ⟨H, 3 + s * 3 + 1, none⟩ (.int .i64 (x.c : Int))).setCell ⟨H, 3 + s * 3 + 2, none⟩ (.int .i64 (x.v : Int))) : AftH m w w' H cB vB eB (h.setSh s x) av := by
  obtain ⟨cb, vb, eb, hh⟩ := hh
  exact hh.put3 s hs x hw

theorem set_same {l : Array Value} {i : Nat} {v : Value} (h : l[i]? = some v) : l.setIfInBounds i v = l := by
  apply Array.ext_getElem?
  intro j
  by_cases hj : i = j
  · subst hj
    have hi : i < l.size := (Array.getElem?_eq_some_iff.1 h).1
    rw [Array.getElem?_setIfInBounds_self_of_lt hi, h]
  · rw [Array.getElem?_setIfInBounds_ne hj]

/-- One cell of a share is written. -/
theorem HpI.putC (hh : HpI m w H cB vB eB cb vb eb h av) (s : Nat) (hs : s < 17) (n : Nat) (hw : w' = w.setCell ⟨H, 3 + s * 3 + 1, none⟩ (.int .i64 (n : Int))) : AftH m w w' H cB vB eB (h.setSh s { shAt h.sh s with c := n }) av := by
  subst hw
  refine hh.stepS (sh' := h.sh.set s { shAt h.sh s with c := n }) (by simp [hh.s17]) ?_ ((Tn.refl _ _).setCell (.inl (by simp)) _)
  rw [← hpCells_set _ _ _ _ s (by rw [hh.s17]; exact hs)]
  have hl : s < h.sh.length := by rw [hh.s17]; exact hs
  have e0 : (hpCells cB vB eB h.sh).setIfInBounds (3 + s * 3) (.bool (shAt h.sh s).has) = hpCells cB vB eB h.sh := set_same (hpCells_at _ _ _ _ s hl 0 _ rfl)
  have e2 : ((hpCells cB vB eB h.sh).setIfInBounds (3 + s * 3 + 1) (.int .i64 (n : Int))).setIfInBounds (3 + s * 3 + 2) (.int .i64 ((shAt h.sh s).v : Int)) = (hpCells cB vB eB h.sh).setIfInBounds (3 + s * 3 + 1) (.int .i64 (n : Int)) := set_same (by rw [Array.getElem?_setIfInBounds_ne (by omega)]; exact hpCells_at _ _ _ _ s hl 2 _ rfl)
  rw [e0, e2]
  exact hh.blk.set _ _

theorem HpI.putV (hh : HpI m w H cB vB eB cb vb eb h av) (s : Nat) (hs : s < 17) (n : Nat) (hw : w' = w.setCell ⟨H, 3 + s * 3 + 2, none⟩ (.int .i64 (n : Int))) : AftH m w w' H cB vB eB (h.setSh s { shAt h.sh s with v := n }) av := by
  subst hw
  refine hh.stepS (sh' := h.sh.set s { shAt h.sh s with v := n }) (by simp [hh.s17]) ?_ ((Tn.refl _ _).setCell (.inl (by simp)) _)
  rw [← hpCells_set _ _ _ _ s (by rw [hh.s17]; exact hs)]
  have hl : s < h.sh.length := by rw [hh.s17]; exact hs
  have e0 : (hpCells cB vB eB h.sh).setIfInBounds (3 + s * 3) (.bool (shAt h.sh s).has) = hpCells cB vB eB h.sh := set_same (hpCells_at _ _ _ _ s hl 0 _ rfl)
  have e1 : (hpCells cB vB eB h.sh).setIfInBounds (3 + s * 3 + 1) (.int .i64 ((shAt h.sh s).c : Int)) = hpCells cB vB eB h.sh := set_same (hpCells_at _ _ _ _ s hl 1 _ rfl)
  rw [e0, e1]
  exact hh.blk.set _ _

set_option maxHeartbeats 1000000 in
theorem reserve_ok (hh : Hpn m w H cB vB eB h av) (hf : h.Fit) (s c v : Nat) (hs : s < 17) (hn : (shAt h.sh s).has = false) (hc : c ≤ h.rc) (hv : v ≤ h.rv) :
    Calls Try.prog 10 #[.pointer (some ⟨H, 0, none⟩), .int .i64 (s : Int), .int .i64 (c : Int), .int .i64 (v : Int)] w fun e w' => e = .returned (.int .i64 0) ∧ AftH m w w' H cB vB eB (h.setSh s ⟨true, c, v⟩) av := by
  obtain ⟨p0, -, -⟩ := hh.ptrs
  obtain ⟨s0, s1, s2⟩ := hh.shc s hs
  rw [hn] at s0
  have HR := room_any hh hf
  have HH : Hid (Hpn m w H cB vB eB h av) := hh
  have HE : Hid (∀ w1 w', Below w.heap.size w w1 → w' = ((w1.setCell ⟨H, 3 + s * 3, none⟩ (.bool true)).setCell ⟨H, 3 + s * 3 + 1, none⟩ (.int .i64 (c : Int))).setCell ⟨H, 3 + s * 3 + 2, none⟩ (.int .i64 (v : Int)) → AftH m w w' H cB vB eB (h.setSh s ⟨true, c, v⟩) av) := fun w1 w' hb hw => (AftH.quiet hh (Tn.of_below hb [])).trans ((hh.below hb).put3 s hs ⟨true, c, v⟩ hw)
  have hci : ¬ (h.rc : Int) < (c : Int) := by omega
  have hvi : ¬ (h.rv : Int) < (v : Int) := by omega
  have g1 : (0 : Int) ≤ (s : Int) := by omega
  have g2 : (s : Int) ≤ 16 := by omega
  have g3 : (s : Int) < 17 := by omega
  have g4 : ¬ (c : Int) < 0 := by omega
  have g5 : ¬ (v : Int) < 0 := by omega
  clear hh hf hn hc hv
  generalize h.rc = rc at *
  generalize h.rv = rv at *
  go_enter Try.func10, Try.ntmps10
  go_wp2_with fail
  refine (hmade_ok p0).mono ?_
  rintro e w1 ⟨rfl, rfl⟩
  go_wp2_with fail
  refine (isSession_yes _ (s : Int) g1 g2).mono ?_
  rintro e w2 ⟨rfl, rfl⟩
  go_wp2_with fail
  refine HR.mono ?_
  rintro e w3 ⟨rfl, hb3⟩
  have H3 : Hid (Hpn m w3 H cB vB eB h av) := HH.out.below hb3
  have HB3 : Hid _ := hb3
  obtain ⟨t0, t1, t2⟩ := H3.out.shc s (by omega)
  have f0 := H3.out.frz (3 + s * 3)
  have f1 := H3.out.frz (3 + s * 3 + 1)
  have f2 := H3.out.frz (3 + s * 3 + 2)
  clear hb3
  go_wp2
  go_ret
  exact ⟨rfl, HE.out _ _ HB3.out rfl⟩

theorem reserve_arg (hh : Hpn m w H cB vB eB h av) (s c v : Int) (hb : s < 0 ∨ (16 : Int) < s ∨ c < 0 ∨ v < 0) :
    Calls Try.prog 10 #[.pointer (some ⟨H, 0, none⟩), .int .i64 s, .int .i64 c, .int .i64 v] w fun e w' => e = .returned (.int .i64 1) ∧ w' = w := by
  obtain ⟨p0, -, -⟩ := hh.ptrs
  clear hh
  by_cases h1 : s < 0 ∨ (16 : Int) < s
  · have HS : Hid (s < 0 ∨ (16 : Int) < s) := h1
    clear hb h1
    go_enter Try.func10, Try.ntmps10
    go_wp2_with fail
    refine (hmade_ok p0).mono ?_
    rintro e w1 ⟨rfl, rfl⟩
    go_wp2_with fail
    refine (isSession_no _ s HS.out).mono ?_
    rintro e w2 ⟨rfl, rfl⟩
    go_wp2
    go_ret
    exact ⟨rfl, rfl⟩
  · have g1 : 0 ≤ s := by omega
    have g2 : s ≤ 16 := by omega
    by_cases h2 : c < 0
    · clear hb h1
      go_enter Try.func10, Try.ntmps10
      go_wp2_with fail
      refine (hmade_ok p0).mono ?_
      rintro e w1 ⟨rfl, rfl⟩
      go_wp2_with fail
      refine (isSession_yes _ s g1 g2).mono ?_
      rintro e w2 ⟨rfl, rfl⟩
      go_wp2
      go_ret
      exact ⟨rfl, rfl⟩
    · have h3 : v < 0 := by omega
      clear hb h1
      go_enter Try.func10, Try.ntmps10
      go_wp2_with fail
      refine (hmade_ok p0).mono ?_
      rintro e w1 ⟨rfl, rfl⟩
      go_wp2_with fail
      refine (isSession_yes _ s g1 g2).mono ?_
      rintro e w2 ⟨rfl, rfl⟩
      go_wp2
      go_ret
      exact ⟨rfl, rfl⟩

theorem reserve_has (hh : Hpn m w H cB vB eB h av) (s c v : Nat) (hs : s < 17) (hn : (shAt h.sh s).has = true) :
    Calls Try.prog 10 #[.pointer (some ⟨H, 0, none⟩), .int .i64 (s : Int), .int .i64 (c : Int), .int .i64 (v : Int)] w fun e w' => e = .returned (.int .i64 161) ∧ w' = w := by
  obtain ⟨p0, -, -⟩ := hh.ptrs
  obtain ⟨s0, -, -⟩ := hh.shc s hs
  rw [hn] at s0
  have g1 : (0 : Int) ≤ (s : Int) := by omega
  have g2 : (s : Int) ≤ 16 := by omega
  have g3 : (s : Int) < 17 := by omega
  have g4 : ¬ (c : Int) < 0 := by omega
  have g5 : ¬ (v : Int) < 0 := by omega
  clear hh hn
  go_enter Try.func10, Try.ntmps10
  go_wp2_with fail
  refine (hmade_ok p0).mono ?_
  rintro e w1 ⟨rfl, rfl⟩
  go_wp2_with fail
  refine (isSession_yes _ (s : Int) g1 g2).mono ?_
  rintro e w2 ⟨rfl, rfl⟩
  go_wp2
  go_ret
  exact ⟨rfl, rfl⟩

theorem reserve_full (hh : Hpn m w H cB vB eB h av) (hf : h.Fit) (s c v : Nat) (hs : s < 17) (hn : (shAt h.sh s).has = false) (hb : h.rc < c ∨ h.rv < v) :
    Calls Try.prog 10 #[.pointer (some ⟨H, 0, none⟩), .int .i64 (s : Int), .int .i64 (c : Int), .int .i64 (v : Int)] w fun e w' => e = .returned (.int .i64 5) ∧ Below w.heap.size w w' := by
  obtain ⟨p0, -, -⟩ := hh.ptrs
  obtain ⟨s0, -, -⟩ := hh.shc s hs
  rw [hn] at s0
  have HR := room_any hh hf
  have g1 : (0 : Int) ≤ (s : Int) := by omega
  have g2 : (s : Int) ≤ 16 := by omega
  have g3 : (s : Int) < 17 := by omega
  have g4 : ¬ (c : Int) < 0 := by omega
  have g5 : ¬ (v : Int) < 0 := by omega
  clear hh hf hn
  generalize h.rc = rc at *
  generalize h.rv = rv at *
  by_cases h1 : rc < c
  · have hci : (rc : Int) < (c : Int) := by omega
    clear hb h1
    go_enter Try.func10, Try.ntmps10
    go_wp2_with fail
    refine (hmade_ok p0).mono ?_
    rintro e w1 ⟨rfl, rfl⟩
    go_wp2_with fail
    refine (isSession_yes _ (s : Int) g1 g2).mono ?_
    rintro e w2 ⟨rfl, rfl⟩
    go_wp2_with fail
    refine HR.mono ?_
    rintro e w3 ⟨rfl, hb3⟩
    have HB3 : Hid _ := hb3
    clear hb3
    go_wp2
    go_ret
    exact ⟨rfl, HB3.out⟩
  · have hci : ¬ (rc : Int) < (c : Int) := by omega
    have hvi : (rv : Int) < (v : Int) := by omega
    clear hb h1
    go_enter Try.func10, Try.ntmps10
    go_wp2_with fail
    refine (hmade_ok p0).mono ?_
    rintro e w1 ⟨rfl, rfl⟩
    go_wp2_with fail
    refine (isSession_yes _ (s : Int) g1 g2).mono ?_
    rintro e w2 ⟨rfl, rfl⟩
    go_wp2_with fail
    refine HR.mono ?_
    rintro e w3 ⟨rfl, hb3⟩
    have HB3 : Hid _ := hb3
    clear hb3
    go_wp2
    go_ret
    exact ⟨rfl, HB3.out⟩

theorem release_ok (hh : Hpn m w H cB vB eB h av) (s : Nat) (hs : s < 17) (hn : (shAt h.sh s).has = true) :
    Calls Try.prog 11 #[.pointer (some ⟨H, 0, none⟩), .int .i64 (s : Int)] w fun e w' => e = .returned (.int .i64 0) ∧ AftH m w w' H cB vB eB (h.setSh s Sh.zero) av := by
  obtain ⟨p0, -, -⟩ := hh.ptrs
  obtain ⟨s0, s1, s2⟩ := hh.shc s hs
  rw [hn] at s0
  have HE : Hid (∀ w', w' = ((w.setCell ⟨H, 3 + s * 3, none⟩ (.bool false)).setCell ⟨H, 3 + s * 3 + 1, none⟩ (.int .i64 0)).setCell ⟨H, 3 + s * 3 + 2, none⟩ (.int .i64 0) → AftH m w w' H cB vB eB (h.setSh s Sh.zero) av) := fun w' hw => hh.put3 s hs Sh.zero hw
  have f0 := hh.frz (3 + s * 3)
  have f1 := hh.frz (3 + s * 3 + 1)
  have f2 := hh.frz (3 + s * 3 + 2)
  clear hh hn
  go_enter Try.func11, Try.ntmps11
  go_wp2_with fail
  refine (share_ok p0 s (by omega) s0).mono ?_
  rintro e w1 ⟨rfl, rfl⟩
  go_wp2
  go_ret
  exact ⟨rfl, HE.out _ rfl⟩

theorem release_none (hh : Hpn m w H cB vB eB h av) (s : Nat) (hs : s < 17) (hn : (shAt h.sh s).has = false) :
    Calls Try.prog 11 #[.pointer (some ⟨H, 0, none⟩), .int .i64 (s : Int)] w fun e w' => e = .returned (.int .i64 161) ∧ w' = w := by
  obtain ⟨p0, -, -⟩ := hh.ptrs
  obtain ⟨s0, s1, s2⟩ := hh.shc s hs
  rw [hn] at s0
  clear hh hn
  go_enter Try.func11, Try.ntmps11
  go_wp2_with fail
  refine (share_none p0 s (by omega) s0).mono ?_
  rintro e w1 ⟨rfl, rfl⟩
  go_wp2
  go_ret
  exact ⟨rfl, rfl⟩

theorem release_arg (hh : Hpn m w H cB vB eB h av) (s : Int) (hs : s < 0 ∨ (16 : Int) < s) :
    Calls Try.prog 11 #[.pointer (some ⟨H, 0, none⟩), .int .i64 s] w fun e w' => e = .returned (.int .i64 1) ∧ w' = w := by
  obtain ⟨p0, -, -⟩ := hh.ptrs
  have HS : Hid (s < 0 ∨ (16 : Int) < s) := hs
  clear hh hs
  go_enter Try.func11, Try.ntmps11
  go_wp2_with fail
  refine (share_arg p0 s HS.out).mono ?_
  rintro e w1 ⟨rfl, rfl⟩
  go_wp2
  go_ret
  exact ⟨rfl, rfl⟩

end Go.Proofs.Ytbdcdiihaecheaa

namespace Go.Proofs.Ytbdcdiihaecheaa
open Go.RowKit
set_option linter.unusedVariables false
set_option maxRecDepth 100000
set_option linter.unusedSectionVars false
variable [Inhabited Cl] [Inhabited Ln]

variable {m : Nat} {w w1 w2 w' : World} {H cB vB eB : Nat} {cb vb eb : List Nat} {h h' : Hp} {av L L' : List Nat}

/-- In the midst of a call that began at w and has blocks L of its own. -/
def MidH (m : Nat) (w : World) (L : List Nat) (w' : World) (H cB vB eB : Nat) (h : Hp) (av : List Nat) : Prop :=
  Hpn m w' H cB vB eB h (L ++ av) ∧ Below m w w' ∧ (∀ g ∈ av, g < w.heap.size ∧ w'.heap[g]? = w.heap[g]?) ∧ (∀ x ∈ L, w.heap.size ≤ x) ∧ m ≤ w.heap.size

theorem MidH.start (hh : Hpn m w H cB vB eB h av) : MidH m w [] w H cB vB eB h av := ⟨by simpa using hh, Below.refl _ _, fun g hg => ⟨hh.avlt g hg, rfl⟩, by simp, hh.ge⟩

theorem MidH.new (k : MidH m w L w1 H cB vB eB h av) (t : Tn [] w1 w2) (hL : ∀ x ∈ L', x ∈ L ∨ w1.heap.size ≤ x) (hlt : ∀ x ∈ L', x < w2.heap.size) : MidH m w L' w2 H cB vB eB h av := by
  have hz := k.2.1.size
  have hz2 := t.size
  refine ⟨k.1.grow t (by simp) (fun x hx => ?_) (fun x hx => ?_), k.2.1.trans (t.below (by have := k.2.2.2.2; omega) (by simp)), fun g hg => ⟨(k.2.2.1 g hg).1, (t.block g (by have := (k.2.2.1 g hg).1; omega) (by simp)).trans (k.2.2.1 g hg).2⟩, fun x hx => ?_, k.2.2.2.2⟩
  · rcases List.mem_append.1 hx with hx | hx
    · rcases hL x hx with h1 | h1
      · exact .inl (List.mem_append.2 (.inl h1))
      · exact .inr h1
    · exact .inl (List.mem_append.2 (.inr hx))
  · rcases List.mem_append.1 hx with hx | hx
    · exact hlt x hx
    · have := (k.2.2.1 x hx).1; omega
  · rcases hL x hx with h1 | h1
    · exact k.2.2.2.1 x h1
    · omega

theorem MidH.quiet (k : MidH m w L w1 H cB vB eB h av) (t : Tn [] w1 w2) : MidH m w L w2 H cB vB eB h av :=
  k.new t (fun x hx => .inl hx) (fun x hx => Nat.lt_of_lt_of_le (k.1.avlt x (List.mem_append.2 (.inl hx))) t.size)

theorem MidH.call (k : MidH m w L w1 H cB vB eB h av) (a : AftH m w1 w2 H cB vB eB h' (L ++ av)) : MidH m w L w2 H cB vB eB h' av :=
  ⟨a.1, k.2.1.trans a.2.1, fun g hg => ⟨(k.2.2.1 g hg).1, (a.2.2 g (List.mem_append.2 (.inr hg))).trans (k.2.2.1 g hg).2⟩, k.2.2.2.1, k.2.2.2.2⟩

theorem MidH.own (k : MidH m w L w1 H cB vB eB h av) (t : Tn L w1 w2) : MidH m w L w2 H cB vB eB h av :=
  ⟨k.1.other t (fun x hx => List.mem_append.2 (.inl hx)), k.2.1.trans (t.below (by have := k.2.1.size; have := k.2.2.2.2; omega) (fun x hx => by have := k.2.2.2.1 x hx; have := k.2.2.2.2; omega)), fun g hg => ⟨(k.2.2.1 g hg).1, (t.block g (by have := (k.2.2.1 g hg).1; have := k.2.1.size; omega) (fun hx => by have := k.2.2.2.1 g hx; have := (k.2.2.1 g hg).1; omega)).trans (k.2.2.1 g hg).2⟩, k.2.2.2.1, k.2.2.2.2⟩

theorem MidH.fin (k : MidH m w L w' H cB vB eB h av) : AftH m w w' H cB vB eB h av :=
  ⟨k.1.sub (fun x hx => List.mem_append.2 (.inr hx)), k.2.1, fun g hg => (k.2.2.1 g hg).2⟩

/-- What Cell makes of it. -/
def Hp.cellPut (h : Hp) (s : Nat) (key : ByteArray) : Hp := { (h.setSh s { shAt h.sh s with c := (shAt h.sh s).c - 1 }) with c := h.c.put ⟨key, 0, 0, false⟩ }

theorem list_nil_iff (s : ByteArray) : s.toList = [] ↔ s.size = 0 := by
  rw [ByteArray.toList_eq]
  constructor
  · intro h
    have := congrArg List.length h
    simpa using this
  · intro h
    apply List.eq_nil_of_length_eq_zero
    simpa using h

def keyOk (s : ByteArray) : Prop := 1 ≤ s.size ∧ s.size ≤ 64

theorem hkey_ok (s : ByteArray) (w : World) (h : keyOk s) : Calls Try.prog 36 #[.string s] w fun e w' => e = .returned (.int .i64 0) ∧ w' = w := by
  have hn : ¬ s.toList = [] := fun e => by have := (list_nil_iff s).1 e; have := h.1; omega
  have h3 : ¬ (64 : Int) < (s.size : Int) := by have := h.2; omega
  clear h
  go_enter Try.func36, Try.ntmps36
  go_wp2
  all_goals go_ret
  all_goals (first | exact ⟨rfl, rfl⟩ | (exfalso; simp_all))

theorem hkey_bad (s : ByteArray) (w : World) (h : ¬ keyOk s) : Calls Try.prog 36 #[.string s] w fun e w' => e = .returned (.int .i64 30) ∧ w' = w := by
  by_cases hn : s.toList = []
  · clear h
    go_enter Try.func36, Try.ntmps36
    go_wp2
    all_goals go_ret
    all_goals (first | exact ⟨rfl, rfl⟩ | (exfalso; simp_all))
  · have h3 : (64 : Int) < (s.size : Int) := by
      have h0 : s.size ≠ 0 := fun e => hn ((list_nil_iff s).2 e)
      unfold keyOk at h
      omega
    clear h
    go_enter Try.func36, Try.ntmps36
    go_wp2
    all_goals go_ret
    all_goals (first | exact ⟨rfl, rfl⟩ | (exfalso; simp_all))

theorem cell_none (hh : Hpn m w H cB vB eB h av) (s : Nat) (key : ByteArray) (hs : s < 17) (hn : (shAt h.sh s).has = false) :
    Calls Try.prog 12 #[.pointer (some ⟨H, 0, none⟩), .int .i64 (s : Int), .string key] w fun e w' => e = .returned (.tuple #[.agg #[.int .i64 0, .int .i64 0], .int .i64 161]) ∧ Below w.heap.size w w' := by
  obtain ⟨w1, hw1, hz1, hb1, hk1⟩ : ∃ w1, w.alloc (.cells #[.int .i64 0, .int .i64 0] 36) = w1 ∧ w1.heap.size = w.heap.size + 1 ∧ Below w.heap.size w w1 ∧ Bk w1 w.heap.size 36 #[.int .i64 0, .int .i64 0] := ⟨_, rfl, by simp, (Below.refl _ w).alloc (Nat.le_refl _) _, Bk.new _ _ _⟩
  have H1 := hh.below hb1
  obtain ⟨p0, -, -⟩ := H1.ptrs
  obtain ⟨s0, s1, s2⟩ := H1.shc s hs
  rw [hn] at s0
  have HK : Hid (Bk w1 w.heap.size 36 #[.int .i64 0, .int .i64 0]) := hk1
  have c0 : w1.cell? ⟨w.heap.size, 0, none⟩ = some (.int .i64 0) := hk1.cell 0
  have c1 : w1.cell? ⟨w.heap.size, 1, none⟩ = some (.int .i64 0) := hk1.cell 1
  have f0 : w1.frozen? ⟨w.heap.size, 0, none⟩ = false := hk1.frozen 0
  have f1 : w1.frozen? ⟨w.heap.size, 1, none⟩ = false := hk1.frozen 1
  have HB : Hid (Below w.heap.size w w1) := hb1
  clear hh H1 hk1 hb1 hn
  go_enter Try.func12, Try.ntmps12
  go_wp2_with fail
  refine (share_none p0 s (by omega) s0).mono ?_
  rintro e w2 ⟨rfl, rfl⟩
  go_wp2
  refine bodyPost_ret (results_hndC (s := 0) (g := 0) rfl rfl (by exact (HK.out.set 0 _).set 1 _)) rfl ?_
  exact ⟨rfl, (HB.out.setCell (Nat.le_refl _) _).setCell (Nat.le_refl _) _⟩

theorem cell_arg (hh : Hpn m w H cB vB eB h av) (s : Int) (key : ByteArray) (hs : s < 0 ∨ (16 : Int) < s) :
    Calls Try.prog 12 #[.pointer (some ⟨H, 0, none⟩), .int .i64 s, .string key] w fun e w' => e = .returned (.tuple #[.agg #[.int .i64 0, .int .i64 0], .int .i64 1]) ∧ Below w.heap.size w w' := by
  obtain ⟨w1, hw1, hz1, hb1, hk1⟩ : ∃ w1, w.alloc (.cells #[.int .i64 0, .int .i64 0] 36) = w1 ∧ w1.heap.size = w.heap.size + 1 ∧ Below w.heap.size w w1 ∧ Bk w1 w.heap.size 36 #[.int .i64 0, .int .i64 0] := ⟨_, rfl, by simp, (Below.refl _ w).alloc (Nat.le_refl _) _, Bk.new _ _ _⟩
  have H1 := hh.below hb1
  obtain ⟨p0, -, -⟩ := H1.ptrs
  have HS : Hid (s < 0 ∨ (16 : Int) < s) := hs
  have HK : Hid (Bk w1 w.heap.size 36 #[.int .i64 0, .int .i64 0]) := hk1
  have c0 : w1.cell? ⟨w.heap.size, 0, none⟩ = some (.int .i64 0) := hk1.cell 0
  have c1 : w1.cell? ⟨w.heap.size, 1, none⟩ = some (.int .i64 0) := hk1.cell 1
  have f0 : w1.frozen? ⟨w.heap.size, 0, none⟩ = false := hk1.frozen 0
  have f1 : w1.frozen? ⟨w.heap.size, 1, none⟩ = false := hk1.frozen 1
  have HB : Hid (Below w.heap.size w w1) := hb1
  clear hh H1 hk1 hb1 hs
  go_enter Try.func12, Try.ntmps12
  go_wp2_with fail
  refine (share_arg p0 s HS.out).mono ?_
  rintro e w2 ⟨rfl, rfl⟩
  go_wp2
  refine bodyPost_ret (results_hndC (s := 0) (g := 0) rfl rfl (by exact (HK.out.set 0 _).set 1 _)) rfl ?_
  exact ⟨rfl, (HB.out.setCell (Nat.le_refl _) _).setCell (Nat.le_refl _) _⟩

theorem cell_key (hh : Hpn m w H cB vB eB h av) (s : Nat) (key : ByteArray) (hs : s < 17) (hn : (shAt h.sh s).has = true) (hk : ¬ keyOk key) :
    Calls Try.prog 12 #[.pointer (some ⟨H, 0, none⟩), .int .i64 (s : Int), .string key] w fun e w' => e = .returned (.tuple #[.agg #[.int .i64 0, .int .i64 0], .int .i64 30]) ∧ Below w.heap.size w w' := by
  obtain ⟨w1, hw1, hz1, hb1, hk1⟩ : ∃ w1, w.alloc (.cells #[.int .i64 0, .int .i64 0] 36) = w1 ∧ w1.heap.size = w.heap.size + 1 ∧ Below w.heap.size w w1 ∧ Bk w1 w.heap.size 36 #[.int .i64 0, .int .i64 0] := ⟨_, rfl, by simp, (Below.refl _ w).alloc (Nat.le_refl _) _, Bk.new _ _ _⟩
  have H1 := hh.below hb1
  obtain ⟨p0, -, -⟩ := H1.ptrs
  obtain ⟨s0, s1, s2⟩ := H1.shc s hs
  rw [hn] at s0
  have HKB : Hid (¬ keyOk key) := hk
  have HK : Hid (Bk w1 w.heap.size 36 #[.int .i64 0, .int .i64 0]) := hk1
  have c0 : w1.cell? ⟨w.heap.size, 0, none⟩ = some (.int .i64 0) := hk1.cell 0
  have c1 : w1.cell? ⟨w.heap.size, 1, none⟩ = some (.int .i64 0) := hk1.cell 1
  have f0 : w1.frozen? ⟨w.heap.size, 0, none⟩ = false := hk1.frozen 0
  have f1 : w1.frozen? ⟨w.heap.size, 1, none⟩ = false := hk1.frozen 1
  have HB : Hid (Below w.heap.size w w1) := hb1
  clear hh H1 hk1 hb1 hn hk
  go_enter Try.func12, Try.ntmps12
  go_wp2_with fail
  refine (share_ok p0 s (by omega) s0).mono ?_
  rintro e w2 ⟨rfl, rfl⟩
  go_wp2_with fail
  refine (hkey_bad key _ HKB.out).mono ?_
  rintro e w3 ⟨rfl, rfl⟩
  go_wp2
  refine bodyPost_ret (results_hndC (s := 0) (g := 0) rfl rfl (by exact (HK.out.set 0 _).set 1 _)) rfl ?_
  exact ⟨rfl, (HB.out.setCell (Nat.le_refl _) _).setCell (Nat.le_refl _) _⟩

theorem cell_full (hh : Hpn m w H cB vB eB h av) (s : Nat) (key : ByteArray) (hs : s < 17) (hn : (shAt h.sh s).has = true) (hk : keyOk key) (hc : (shAt h.sh s).c = 0) :
    Calls Try.prog 12 #[.pointer (some ⟨H, 0, none⟩), .int .i64 (s : Int), .string key] w fun e w' => e = .returned (.tuple #[.agg #[.int .i64 0, .int .i64 0], .int .i64 5]) ∧ Below w.heap.size w w' := by
  obtain ⟨w1, hw1, hz1, hb1, hk1⟩ : ∃ w1, w.alloc (.cells #[.int .i64 0, .int .i64 0] 36) = w1 ∧ w1.heap.size = w.heap.size + 1 ∧ Below w.heap.size w w1 ∧ Bk w1 w.heap.size 36 #[.int .i64 0, .int .i64 0] := ⟨_, rfl, by simp, (Below.refl _ w).alloc (Nat.le_refl _) _, Bk.new _ _ _⟩
  have H1 := hh.below hb1
  obtain ⟨p0, -, -⟩ := H1.ptrs
  obtain ⟨s0, s1, s2⟩ := H1.shc s hs
  rw [hn] at s0
  rw [hc] at s1
  have HKB : Hid (keyOk key) := hk
  have HK : Hid (Bk w1 w.heap.size 36 #[.int .i64 0, .int .i64 0]) := hk1
  have c0 : w1.cell? ⟨w.heap.size, 0, none⟩ = some (.int .i64 0) := hk1.cell 0
  have c1 : w1.cell? ⟨w.heap.size, 1, none⟩ = some (.int .i64 0) := hk1.cell 1
  have f0 : w1.frozen? ⟨w.heap.size, 0, none⟩ = false := hk1.frozen 0
  have f1 : w1.frozen? ⟨w.heap.size, 1, none⟩ = false := hk1.frozen 1
  have HB : Hid (Below w.heap.size w w1) := hb1
  clear hh H1 hk1 hb1 hn hk hc
  go_enter Try.func12, Try.ntmps12
  go_wp2_with fail
  refine (share_ok p0 s (by omega) s0).mono ?_
  rintro e w2 ⟨rfl, rfl⟩
  go_wp2_with fail
  refine (hkey_ok key _ HKB.out).mono ?_
  rintro e w3 ⟨rfl, rfl⟩
  go_wp2
  refine bodyPost_ret (results_hndC (s := 0) (g := 0) rfl rfl (by exact (HK.out.set 0 _).set 1 _)) rfl ?_
  exact ⟨rfl, (HB.out.setCell (Nat.le_refl _) _).setCell (Nat.le_refl _) _⟩

/-- A handle's box. -/
theorem hbox_end {S : List Nat} {w w' : World} {R : Nat} {a b : Value} (hk : Bk w R 36 #[a, b]) (s g : Int) (hw : w' = (w.setCell ⟨R, 0, none⟩ (.int .i64 s)).setCell ⟨R, 1, none⟩ (.int .i64 g)) : Bk w' R 36 #[.int .i64 s, .int .i64 g] ∧ Tn [R] w w' := by
  subst hw
  exact ⟨(hk.set 0 _).set 1 _, ((Tn.refl _ _).setCell (.inl (by simp)) _).setCell (.inl (by simp)) _⟩

set_option maxHeartbeats 1000000 in
theorem cell_ok (hh : Hpn m w H cB vB eB h av) (s : Nat) (key : ByteArray) (hs : s < 17) (hn : (shAt h.sh s).has = true) (hk : keyOk key) (hc : 0 < (shAt h.sh s).c) (hc9 : (shAt h.sh s).c ≤ 65536) (hl : live h.c.us < h.c.size) (hg1 : 1 ≤ h.c.gen) (hg2 : h.c.gen ≤ 9223372036854775807) :
    Calls Try.prog 12 #[.pointer (some ⟨H, 0, none⟩), .int .i64 (s : Int), .string key] w fun e w' => e = .returned (.tuple #[.agg #[.int .i64 (low h.c.us : Int), .int .i64 h.c.gen], .int .i64 0]) ∧ AftH m w w' H cB vB eB (h.cellPut s key) av := by
  obtain ⟨w1, hw1, hz1, hb1, hk1⟩ : ∃ w1, w.alloc (.cells #[.int .i64 0, .int .i64 0] 36) = w1 ∧ w1.heap.size = w.heap.size + 1 ∧ Below w.heap.size w w1 ∧ Bk w1 w.heap.size 36 #[.int .i64 0, .int .i64 0] := ⟨_, rfl, by simp, (Below.refl _ w).alloc (Nat.le_refl _) _, Bk.new _ _ _⟩
  have H1 := hh.below hb1
  obtain ⟨p0, -, -⟩ := H1.ptrs
  obtain ⟨s0, s1, s2⟩ := H1.shc s hs
  rw [hn] at s0
  have HK : Hid (Bk w1 w.heap.size 36 #[.int .i64 0, .int .i64 0]) := hk1
  have c0 : w1.cell? ⟨w.heap.size, 0, none⟩ = some (.int .i64 0) := hk1.cell 0
  have c1 : w1.cell? ⟨w.heap.size, 1, none⟩ = some (.int .i64 0) := hk1.cell 1
  have f0 : w1.frozen? ⟨w.heap.size, 0, none⟩ = false := hk1.frozen 0
  have f1 : w1.frozen? ⟨w.heap.size, 1, none⟩ = false := hk1.frozen 1
  have HB : Hid (Below w.heap.size w w1) := hb1
  have K1 : Hid (MidH m w [w.heap.size] w1 H cB vB eB h av) := (MidH.start hh).new (Tn.of_below hb1 []) (by simp) (by simp; omega)
  have HKB : Hid (keyOk key) := hk
  obtain ⟨k, hck⟩ : ∃ k : Nat, (shAt h.sh s).c = k + 1 := ⟨(shAt h.sh s).c - 1, by omega⟩
  rw [hck] at s1 hc9
  have e1 : ((k + 1 : Nat) : Int) = (k : Int) + 1 := by omega
  rw [e1] at s1
  obtain ⟨z, hz⟩ : ∃ z, (k : Int) + 1 = z := ⟨_, rfl⟩
  rw [hz] at s1
  have hne : ¬ z = 0 := by omega
  have hz9 : z ≤ 65536 := by omega
  have hz0 : 1 ≤ z := by omega
  have hzk : z - 1 = (k : Int) := by omega
  clear hz
  have f3 := H1.frz (3 + s * 3 + 1)
  -- the share
  obtain ⟨w2, hw2⟩ : ∃ w2, w1.setCell ⟨H, 3 + s * 3 + 1, none⟩ (.int .i64 (k : Int)) = w2 := ⟨_, rfl⟩
  have K2 : Hid (MidH m w [w.heap.size] w2 H cB vB eB (h.setSh s { shAt h.sh s with c := k }) av) := by
    obtain ⟨cb, vb, eb, hI⟩ := K1.out.1
    exact K1.out.call (hI.putC s hs k hw2.symm)
  have HKh : Hid (Bk w2 w.heap.size 36 #[.int .i64 0, .int .i64 0]) := by
    rw [← hw2]
    exact hk1.other (fun e => by have := (K1.out.1); obtain ⟨_, _, _, hI⟩ := this; exact (hI.av w.heap.size (by simp)).2.1 e) _
  have q0 : w2.cell? ⟨H, 0, none⟩ = some (.pointer (some ⟨cB, 0, none⟩)) := K2.out.1.ptrs.1
  have HPUT : Hid (Calls Try.prog 37 #[.pointer (some ⟨cB, 0, none⟩), .agg #[.string key, .int .i64 0, .int .i64 0, .bool false]] w2 fun e w' => e = .returned (.tuple #[.agg #[.int .i64 (low h.c.us : Int), .int .i64 h.c.gen], .int .i64 0]) ∧ MidH m w [w.heap.size] w' H cB vB eB (h.cellPut s key) av ∧ Bk w' w.heap.size 36 #[.int .i64 0, .int .i64 0]) := by
    obtain ⟨cb, vb, eb, hI⟩ := K2.out.1
    refine (putOkC hI.c ⟨key, 0, 0, false⟩ hl hg1 hg2).mono ?_
    rintro e w3 ⟨rfl, ht⟩
    have ha := hI.stepC ht
    refine ⟨rfl, ?_, ha.blk (by simp) HKh.out⟩
    have e : h.cellPut s key = { (h.setSh s { shAt h.sh s with c := k }) with c := h.c.put ⟨key, 0, 0, false⟩ } := by unfold Hp.cellPut; rw [hck]; rfl
    rw [e]
    exact K2.out.call ha
  have HHD : Hid ((low h.c.us : Int) = low h.c.us) := rfl
  clear hh H1 hk1 hb1 hn hk hc hl hg1 hg2 hc9 hck K1 K2 HB HK HKh e1
  generalize (low h.c.us : Int) = hs1 at *
  generalize h.c.gen = hg1 at *
  go_enter Try.func12, Try.ntmps12
  go_wp2_with fail
  refine (share_ok p0 s (by omega) s0).mono ?_
  rintro e w2 ⟨rfl, rfl⟩
  go_wp2_with fail
  refine (hkey_ok key _ HKB.out).mono ?_
  rintro e w3 ⟨rfl, rfl⟩
  go_wp2_with fail
  refine HPUT.out.mono ?_
  rintro e w4 ⟨rfl, K4, k4⟩
  have HK4 : Hid (MidH m w [w.heap.size] w4 H cB vB eB (h.cellPut s key) av) := K4
  have HX4 : Hid (Bk w4 w.heap.size 36 #[.int .i64 0, .int .i64 0]) := k4
  have x0 : w4.cell? ⟨w.heap.size, 0, none⟩ = some (.int .i64 0) := k4.cell 0
  have y0 : w4.frozen? ⟨w.heap.size, 0, none⟩ = false := k4.frozen 0
  have x1 : w4.cell? ⟨w.heap.size, 1, none⟩ = some (.int .i64 0) := k4.cell 1
  have y1 : w4.frozen? ⟨w.heap.size, 1, none⟩ = false := k4.frozen 1
  clear K4 k4
  go_wp2
  refine bodyPost_ret (results_hndC (s := hs1) (g := hg1) rfl rfl (by exact (HX4.out.set 0 _).set 1 _)) rfl ?_
  exact ⟨rfl, (HK4.out.own (((Tn.refl _ _).setCell (.inl (by simp)) _).setCell (.inl (by simp)) _)).fin⟩

end Go.Proofs.Ytbdcdiihaecheaa

namespace Go.Proofs.Ytbdcdiihaecheaa
open Go.RowKit
set_option linter.unusedVariables false
set_option maxRecDepth 100000
set_option linter.unusedSectionVars false
variable [Inhabited Cl] [Inhabited Ln]

variable {m : Nat} {w w1 w2 w' : World} {H cB vB eB : Nat} {cb vb eb : List Nat} {h h' : Hp} {av L L' : List Nat}

set_option maxHeartbeats 2000000 in
theorem ask_good (hh : Hpn m w H cB vB eB h av) (s : Nat) (hs : s < 17) (hn : (shAt h.sh s).has = true) (hS hG : Int) (hg : h.c.Good hS hG) :
    Calls Try.prog 38 #[.pointer (some ⟨H, 0, none⟩), .int .i64 (s : Int), .agg #[.int .i64 hS, .int .i64 hG]] w fun e w' => e = .returned (.tuple #[.pointer (some ⟨H, 3 + s * 3, none⟩), (slAt h.c.us hS.toNat).val.v, .int .i64 0]) ∧ Below w.heap.size w w' := by
  obtain ⟨w1, hw1, hz1, hb1, hkh⟩ : ∃ w1, w.alloc (.cells #[.int .i64 hS, .int .i64 hG] 36) = w1 ∧ w1.heap.size = w.heap.size + 1 ∧ Below w.heap.size w w1 ∧ Bk w1 w.heap.size 36 #[.int .i64 hS, .int .i64 hG] := ⟨_, rfl, by simp, (Below.refl _ w).alloc (Nat.le_refl _) _, Bk.new _ _ _⟩
  obtain ⟨w2, hw2, hz2, hb2, hkx⟩ : ∃ w2, w1.alloc (.cells #[.string ⟨#[]⟩, .int .i64 0, .int .i64 0, .bool false] 93) = w2 ∧ w2.heap.size = w.heap.size + 2 ∧ Below w1.heap.size w1 w2 ∧ Bk w2 (w.heap.size + 1) 93 #[.string ⟨#[]⟩, .int .i64 0, .int .i64 0, .bool false] := ⟨_, rfl, by simp [hz1], (Below.refl _ w1).alloc (Nat.le_refl _) _, by rw [← hz1]; exact Bk.new _ _ _⟩
  obtain ⟨wx, hwx, hzx, hbx, hkX⟩ : ∃ wx, w2.alloc (.cells #[.string ⟨#[]⟩, .int .i64 0, .int .i64 0, .bool false] 93) = wx ∧ wx.heap.size = w.heap.size + 3 ∧ Below w2.heap.size w2 wx ∧ Bk wx (w.heap.size + 2) 93 #[.string ⟨#[]⟩, .int .i64 0, .int .i64 0, .bool false] := ⟨_, rfl, by simp [hz2], (Below.refl _ w2).alloc (Nat.le_refl _) _, by rw [← hz2]; exact Bk.new _ _ _⟩
  have HX3 : Hid (Bk wx (w.heap.size + 2) 93 #[.string ⟨#[]⟩, .int .i64 0, .int .i64 0, .bool false] ∧ Bk wx (w.heap.size + 1) 93 #[.string ⟨#[]⟩, .int .i64 0, .int .i64 0, .bool false] ∧ Below w2.heap.size w2 wx) := ⟨hkX, hkx.tn (Tn.of_below hbx []) (by simp), hbx⟩
  have HX2 : Hid (Bk w2 (w.heap.size + 1) 93 #[.string ⟨#[]⟩, .int .i64 0, .int .i64 0, .bool false]) := hkx
  have HB2 : Hid (Below w.heap.size w w2) := hb1.trans (hb2.mono hb1.size)
  have hkh2 := hkh.tn (Tn.of_below hb2 []) (by simp)
  have k0 : w2.cell? ⟨w.heap.size, 0, none⟩ = some (.int .i64 hS) := hkh2.cell 0
  have k1 : w2.cell? ⟨w.heap.size, 1, none⟩ = some (.int .i64 hG) := hkh2.cell 1
  have H2 := hh.below HB2.out
  obtain ⟨p0, -, -⟩ := H2.ptrs
  obtain ⟨s0, -, -⟩ := H2.shc s hs
  rw [hn] at s0
  have HA : Hid (Hpn m w2 H cB vB eB h av) := H2
  have HG : Hid (h.c.Good hS hG) := hg
  have hkh3 := hkh2.tn (Tn.of_below hbx []) (by simp)
  have j0 : wx.cell? ⟨w.heap.size, 0, none⟩ = some (.int .i64 hS) := hkh3.cell 0
  have j1 : wx.cell? ⟨w.heap.size, 1, none⟩ = some (.int .i64 hG) := hkh3.cell 1
  have q0 : wx.cell? ⟨H, 0, none⟩ = some (.pointer (some ⟨cB, 0, none⟩)) := (H2.below hbx).ptrs.1
  have HB3 : Hid (Below w.heap.size w wx) := HB2.out.trans (hbx.mono HB2.out.size)
  have HAX : Hid (Hpn m wx H cB vB eB h av) := H2.below hbx
  clear hkx hkX hbx hkh3 hb1 hb2 hkh hkh2 hg hh H2 hn
  go_enter Try.func38, Try.ntmps38
  go_wp2_with fail
  refine (share_ok p0 s (by omega) s0).mono ?_
  rintro e w3 ⟨rfl, rfl⟩
  go_wp2_with fail
  generalize hx : (slAt h.c.us hS.toNat).val = x at *
  have HGET : Hid (Calls Try.prog 65 #[.pointer (some ⟨cB, 0, none⟩), .agg #[.int .i64 hS, .int .i64 hG]] wx.drew fun e w' => e = .returned (.tuple #[x.v, .int .i64 0]) ∧ Below wx.drew.heap.size wx.drew w') := by
    obtain ⟨cb, vb, eb, hI⟩ := HAX.out.quiet (Tn.refl [] _).drew
    rw [← hx]
    exact getGoodC hI.c hS hG HG.out
  have HGET3 : Hid (Calls Try.prog 65 #[.pointer (some ⟨cB, 0, none⟩), .agg #[.int .i64 hS, .int .i64 hG]] w3.drew fun e w' => e = .returned (.tuple #[x.v, .int .i64 0]) ∧ Below w3.drew.heap.size w3.drew w') := by
    obtain ⟨cb, vb, eb, hI⟩ := HA.out.quiet (Tn.refl [] _).drew
    rw [← hx]
    exact getGoodC hI.c hS hG HG.out
  go_region_with (go_at_call 65; first
    | (refine HGET.out.mono ?_; rintro e w4 ⟨rfl, hb4⟩; have HX4 : Hid (Bk w4 (w.heap.size + 2) 93 #[.string ⟨#[]⟩, .int .i64 0, .int .i64 0, .bool false]) := (HX3.out.1.tn (Tn.refl [] _).drew (by simp)).tn (Tn.of_below hb4 []) (by simp); have HY4 : Hid (Bk w4 (w.heap.size + 1) 93 #[.string ⟨#[]⟩, .int .i64 0, .int .i64 0, .bool false]) := (HX3.out.2.1.tn (Tn.refl [] _).drew (by simp)).tn (Tn.of_below hb4 []) (by simp); have HB4 : Hid (Below w.heap.size w w4) := HB3.out.drew.trans (hb4.mono HB3.out.drew.size); have HBX : Hid (w.heap.size ≤ w.heap.size + 2) := Nat.le_add_right _ _; have HNE : Hid (w.heap.size + 1 ≠ w.heap.size + 2) := (by omega : w.heap.size + 1 ≠ w.heap.size + 2); have x0 : w4.cell? ⟨w.heap.size + 2, 0, none⟩ = some (.string ⟨#[]⟩) := HX4.out.cell 0; have f0 : w4.frozen? ⟨w.heap.size + 2, 0, none⟩ = false := HX4.out.frozen 0; have x1 : w4.cell? ⟨w.heap.size + 2, 1, none⟩ = some (.int .i64 0) := HX4.out.cell 1; have f1 : w4.frozen? ⟨w.heap.size + 2, 1, none⟩ = false := HX4.out.frozen 1; have x2 : w4.cell? ⟨w.heap.size + 2, 2, none⟩ = some (.int .i64 0) := HX4.out.cell 2; have f2 : w4.frozen? ⟨w.heap.size + 2, 2, none⟩ = false := HX4.out.frozen 2; have x3 : w4.cell? ⟨w.heap.size + 2, 3, none⟩ = some (.bool false) := HX4.out.cell 3; have f3 : w4.frozen? ⟨w.heap.size + 2, 3, none⟩ = false := HX4.out.frozen 3; have y0 : w4.cell? ⟨w.heap.size + 1, 0, none⟩ = some (.string ⟨#[]⟩) := HY4.out.cell 0; have g0 : w4.frozen? ⟨w.heap.size + 1, 0, none⟩ = false := HY4.out.frozen 0; have y1 : w4.cell? ⟨w.heap.size + 1, 1, none⟩ = some (.int .i64 0) := HY4.out.cell 1; have g1 : w4.frozen? ⟨w.heap.size + 1, 1, none⟩ = false := HY4.out.frozen 1; have y2 : w4.cell? ⟨w.heap.size + 1, 2, none⟩ = some (.int .i64 0) := HY4.out.cell 2; have g2 : w4.frozen? ⟨w.heap.size + 1, 2, none⟩ = false := HY4.out.frozen 2; have y3 : w4.cell? ⟨w.heap.size + 1, 3, none⟩ = some (.bool false) := HY4.out.cell 3; have g3 : w4.frozen? ⟨w.heap.size + 1, 3, none⟩ = false := HY4.out.frozen 3)
    | (refine HGET3.out.mono ?_; rintro e w5 ⟨rfl, hb4⟩; have HB5 : Hid (Below w.heap.size w w5 ∧ Bk w5 (w.heap.size + 1) 93 #[.string ⟨#[]⟩, .int .i64 0, .int .i64 0, .bool false] ∧ w.heap.size + 2 ≤ w5.heap.size) := ⟨HB2.out.drew.trans (hb4.mono HB2.out.drew.size), (HX2.out.tn (Tn.refl [] _).drew (by simp)).tn (Tn.of_below hb4 []) (by simp), Nat.le_trans (Nat.le_of_eq hz2.symm) hb4.size⟩))
  all_goals (first
    | (obtain ⟨X, hX⟩ : ∃ X, w5.heap.size = X := ⟨_, rfl⟩
       obtain ⟨W, hW⟩ : ∃ W, w5.alloc (.cells #[.string x.key, .int .i64 x.s, .int .i64 x.g, .bool x.closed] 93) = W := ⟨_, rfl⟩
       have HF : Hid (Bk W X 93 #[.string x.key, .int .i64 x.s, .int .i64 x.g, .bool x.closed] ∧ Bk W (w.heap.size + 1) 93 #[.string ⟨#[]⟩, .int .i64 0, .int .i64 0, .bool false] ∧ Below w.heap.size w W ∧ ¬ w.heap.size + 1 = X) := by
         obtain ⟨hb, hk, hz⟩ := HB5.out
         have hne : w.heap.size + 1 ≠ w5.heap.size := by omega
         rw [← hW, ← hX]
         exact ⟨Bk.new w5 _ _, hk.alloc _, hb.alloc (by omega) _, by omega⟩
       rw [hW, hX]
       clear hW hX)
    | (obtain ⟨X, hX⟩ : ∃ X, w.heap.size + 2 = X := ⟨_, rfl⟩
       obtain ⟨W, hW⟩ : ∃ W, (((w4.setCell ⟨w.heap.size + 2, 0, none⟩ (.string x.key)).setCell ⟨w.heap.size + 2, 1, none⟩ (.int .i64 x.s)).setCell ⟨w.heap.size + 2, 2, none⟩ (.int .i64 x.g)).setCell ⟨w.heap.size + 2, 3, none⟩ (.bool x.closed) = W := ⟨_, rfl⟩
       have HF : Hid (Bk W X 93 #[.string x.key, .int .i64 x.s, .int .i64 x.g, .bool x.closed] ∧ Bk W (w.heap.size + 1) 93 #[.string ⟨#[]⟩, .int .i64 0, .int .i64 0, .bool false] ∧ Below w.heap.size w W ∧ ¬ w.heap.size + 1 = X) := by
         have hne : w.heap.size + 1 ≠ w.heap.size + 2 := by omega
         rw [← hW, ← hX]
         exact ⟨(((HX4.out.set 0 _).set 1 _).set 2 _).set 3 _, (((HY4.out.other hne _).other hne _).other hne _).other hne _, (((HB4.out.setCell (Nat.le_add_right _ _) _).setCell (Nat.le_add_right _ _) _).setCell (Nat.le_add_right _ _) _).setCell (Nat.le_add_right _ _) _, by omega⟩
       rw [hW, hX]
       clear hW hX))
  all_goals (
    obtain ⟨hkx, hky, -, hne⟩ := HF.out
    have x0 : W.cell? ⟨X, 0, none⟩ = some (.string x.key) := hkx.cell 0
    have x1 : W.cell? ⟨X, 1, none⟩ = some (.int .i64 x.s) := hkx.cell 1
    have x2 : W.cell? ⟨X, 2, none⟩ = some (.int .i64 x.g) := hkx.cell 2
    have x3 : W.cell? ⟨X, 3, none⟩ = some (.bool x.closed) := hkx.cell 3
    have y0 : W.cell? ⟨w.heap.size + 1, 0, none⟩ = some (.string ⟨#[]⟩) := hky.cell 0
    have y1 : W.cell? ⟨w.heap.size + 1, 1, none⟩ = some (.int .i64 0) := hky.cell 1
    have y2 : W.cell? ⟨w.heap.size + 1, 2, none⟩ = some (.int .i64 0) := hky.cell 2
    have y3 : W.cell? ⟨w.heap.size + 1, 3, none⟩ = some (.bool false) := hky.cell 3
    have g0 : W.frozen? ⟨w.heap.size + 1, 0, none⟩ = false := hky.frozen 0
    have g1 : W.frozen? ⟨w.heap.size + 1, 1, none⟩ = false := hky.frozen 1
    have g2 : W.frozen? ⟨w.heap.size + 1, 2, none⟩ = false := hky.frozen 2
    have g3 : W.frozen? ⟨w.heap.size + 1, 3, none⟩ = false := hky.frozen 3
    clear hkx hky
    go_wp2_with fail
    go_region_with (fail))
  all_goals (
    go_wp2
    refine bodyPost_ret (results_ask (x := x) rfl rfl (by exact (((((HF.out.2.1.set 0 _).set 1 _).set 2 _).set 3 _)).drew)) rfl ?_
    exact ⟨by rw [← hx]; rfl, ((((HF.out.2.2.1.setCell (Nat.le_succ _) _).setCell (Nat.le_succ _) _).setCell (Nat.le_succ _) _).setCell (Nat.le_succ _) _).drew⟩)

end Go.Proofs.Ytbdcdiihaecheaa

namespace Go.Proofs.Ytbdcdiihaecheaa
open Go.RowKit
set_option linter.unusedVariables false
set_option maxRecDepth 100000

section
variable {P : Program} {ops : Array Oper} {Q : Exit → Act → World → Prop} {md : Region.Mode} {S : World → Prop} {l n m : Nat}

/-- Whatever order is picked from here on, AND S holds behind each of the first m operations. -/
def wpAnyM (P : Program) (md : Region.Mode) (ops : Array Oper) (Q : Exit → Act → World → Prop) (S : World → Prop) (m : Nat) : Nat → Array Bool → Act → World → Prop
  | 0, listed, a, w => Region.ready md ops listed = [] ∧ Q .normal a w
  | fuel + 1, listed, a, w =>
    (Region.ready md ops listed = [] → Q .normal a w) ∧
    ∀ i ∈ Region.ready md ops listed, wpOp P ops Q i (fun a' w' => (i < m → S w') ∧ wpAnyM P md ops Q S m fuel (listed.setIfInBounds i true) a' w') a w

theorem wpAny_of_mid : ∀ (fuel : Nat) (listed : Array Bool) (a : Act) (w : World), wpAnyM P md ops Q S m fuel listed a w → wpAny P md ops Q fuel listed a w
  | 0, _, _, _, h => h
  | fuel + 1, _, _, _, h => ⟨h.1, fun i hi => wpOp_mono (fun a' w' h' => wpAny_of_mid fuel _ a' w' h'.2) (h.2 i hi)⟩

theorem getD_un {listed : Array Bool} {k : Nat} (h0 : listed.getD k true = false) (h1 : listed.getD k false = true) : False := by
  rcases Nat.lt_or_ge k listed.size with h' | h'
  · simp [h'] at h0 h1; rw [h0] at h1; cases h1
  · simp [Array.getElem?_eq_none h'] at h1

/-- Number i may be taken first, if each who may come ahead of it is one of the first m; ps are some that wait for it. -/
theorem wpAnyM_first {i : Nat} {oi : Oper} {v : Value} {ps : List Nat} (hi : ops[i]? = some oi) (hsel : ∀ (j : Nat) (o : Oper) cs b, ops[j]? = some o → o.op ≠ .select cs b)
    (hQ : ∀ c a w, Q (.panic c) (a.put oi.dst v) w → Q (.panic c) a w)
    (hdep : ∀ p ∈ ps, ∀ op, ops[p]? = some op → ∃ e ∈ op.after, Region.binds md e = true ∧ (e.on = i ∨ e.on ∈ ps)) :
    ∀ (fuel : Nat) (listed : Array Bool) (a : Act) (w : World),
      (∀ p ∈ ps, listed.getD p true = false) →
      (∀ j oj, ops[j]? = some oj → j ≠ i → listed.getD j true = false → (∀ e ∈ oj.after, Region.binds md e = true → e.on ≠ i) → oi.apart ops oj = true) →
      (∀ j oj, ops[j]? = some oj → j ≠ i → listed.getD j true = false → (∀ e ∈ oj.after, Region.binds md e = true → e.on ≠ i ∧ e.on ∉ ps) → j < m) →
      i ∈ Region.ready md ops listed → YieldsIf P ops S oi v a → S w →
      wpAnyM P md ops Q S m fuel (listed.setIfInBounds i true) (a.put oi.dst v) w → wpAnyM P md ops Q S m (fuel + 1) listed a w := by
  intro fuel
  induction fuel with
  | zero =>
    intro listed a w _ _ _ hr hy hS H
    refine ⟨fun h => (by rw [h] at hr; cases hr), fun j hj => ?_⟩
    by_cases hji : j = i
    · subst hji; exact hy.wpOp hi hS ⟨fun _ => hS, H⟩
    · have := ready_mono hj hji
      rw [H.1] at this
      cases this
  | succ fuel ih =>
    intro listed a w hps hfree hearly hr hy hS H
    refine ⟨fun h => (by rw [h] at hr; cases hr), fun j hj => ?_⟩
    by_cases hji : j = i
    · subst hji; exact hy.wpOp hi hS ⟨fun _ => hS, H⟩
    · have h1 := H.2 j (ready_mono hj hji)
      obtain ⟨hjun, oj, hoj, hall⟩ := mem_ready.1 hj
      have hnot : ∀ e ∈ oj.after, Region.binds md e = true → e.on ≠ i := fun e he hb heq => getD_un (mem_ready.1 hr).1 (by rw [← heq]; exact hall e he hb)
      have hnotp : ∀ e ∈ oj.after, Region.binds md e = true → e.on ∉ ps := fun e he hb hm => getD_un (hps _ hm) (hall e he hb)
      have hjp : j ∉ ps := fun hm => by
        obtain ⟨e, he, hb, hx⟩ := hdep j hm oj hoj
        rcases hx with hx | hx
        · exact hnot e he hb hx
        · exact hnotp e he hb hx
      have hjm : j < m := hearly j oj hoj hji hjun (fun e he hb => ⟨hnot e he hb, hnotp e he hb⟩)
      have h2 := wpOp_putIf hoj (hfree j oj hoj hji hjun hnot) (fun cs b => hsel i oi cs b hi) (fun cs b => hsel j oj cs b hoj) hQ hy h1
      have un : ∀ k, (listed.setIfInBounds j true).getD k true = false → listed.getD k true = false := fun k hun => by
        by_cases hjk : j = k
        · subst hjk; exact hjun
        · rw [getD_set_ne true hjk] at hun; exact hun
      have hps' : ∀ p ∈ ps, (listed.setIfInBounds j true).getD p true = false := fun p hp => by
        have hjp' : j ≠ p := fun e => hjp (by rw [e]; exact hp)
        rw [getD_set_ne true hjp']
        exact hps p hp
      refine wpOp_mono (fun a' w' h3 => ⟨fun _ => h3.2.1 hjm, ih (listed.setIfInBounds j true) a' w' hps' (fun k ok hk hki hun hno => hfree k ok hk hki (un k hun) hno) (fun k ok hk hki hun hno => hearly k ok hk hki (un k hun) hno) (ready_mono hr (Ne.symm hji)) h3.1 (h3.2.1 hjm) ?_⟩) h2
      rw [Array.setIfInBounds_comm _ _ hji]
      exact h3.2.2

/-- Who may come ahead of number i is one of the first m. -/
def earlyB (md : Region.Mode) (ops : Array Oper) (listed : Array Bool) (i : Nat) (ps : List Nat) (m : Nat) : Bool :=
  (ps.all fun p => !listed.getD p true && ((ops[p]?).map (·.after.any fun e => Region.binds md e && (e.on == i || ps.contains e.on))).getD true) &&
  (List.range ops.size).all fun j => j == i || listed.getD j true || ((ops[j]?).map (·.after.any fun e => Region.binds md e && (e.on == i || ps.contains e.on))).getD true || decide (j < m)

theorem earlyB_spec {i : Nat} {ps : List Nat} {listed : Array Bool} (h : earlyB md ops listed i ps m = true) (j : Nat) (oj : Oper) (ho : ops[j]? = some oj) (hji : j ≠ i) (hl : listed.getD j true = false) (hn : ∀ e ∈ oj.after, Region.binds md e = true → e.on ≠ i ∧ e.on ∉ ps) : j < m := by
  have hj : j < ops.size := (Array.getElem?_eq_some_iff.1 ho).1
  unfold earlyB at h
  rw [Bool.and_eq_true] at h
  have := List.all_eq_true.1 h.2 j (List.mem_range.2 hj)
  simp only [Bool.or_eq_true, beq_iff_eq, ho, Option.map_some, Option.getD_some, decide_eq_true_eq] at this
  rcases this with ((h1 | h1) | h1) | h1
  · exact absurd h1 hji
  · rw [hl] at h1
    cases h1
  · obtain ⟨e, he, hb⟩ := Array.any_eq_true'.1 h1
    simp only [Bool.and_eq_true, Bool.or_eq_true, beq_iff_eq, List.contains_iff_mem] at hb
    rcases hb.2 with hx | hx
    · exact absurd hx (hn e he hb.1).1
    · exact absurd hx (hn e he hb.1).2
  · exact h1

theorem earlyB_dep {i : Nat} {ps : List Nat} {listed : Array Bool} (h : earlyB md ops listed i ps m = true) : (∀ p ∈ ps, listed.getD p true = false) ∧ ∀ p ∈ ps, ∀ op, ops[p]? = some op → ∃ e ∈ op.after, Region.binds md e = true ∧ (e.on = i ∨ e.on ∈ ps) := by
  unfold earlyB at h
  rw [Bool.and_eq_true] at h
  have hh := fun p hp => List.all_eq_true.1 h.1 p hp
  refine ⟨fun p hp => ?_, fun p hp op ho => ?_⟩
  · have := hh p hp
    simp only [Bool.and_eq_true, Bool.not_eq_true'] at this
    exact this.1
  · have := hh p hp
    simp only [Bool.and_eq_true, ho, Option.map_some, Option.getD_some] at this
    obtain ⟨e, he, hb⟩ := Array.any_eq_true'.1 this.2
    simp only [Bool.and_eq_true, Bool.or_eq_true, beq_iff_eq, List.contains_iff_mem] at hb
    exact ⟨e, he, hb.1, hb.2⟩

theorem wpAnyM_take {i : Nat} {oi : Oper} {v : Value} (ps : List Nat) {fuel : Nat} {listed : Array Bool} {a : Act} {w : World} (hi : ops[i]? = some oi)
    (hs : Region.noSelect ops = true) (hf : Region.free md ops listed i = true) (he : earlyB md ops listed i ps m = true) (hr : (Region.ready md ops listed).contains i = true)
    (hQ : ∀ c a w, Q (.panic c) (a.put oi.dst v) w → Q (.panic c) a w) (hy : YieldsIf P ops S oi v a) (hS : S w)
    (h : wpAnyM P md ops Q S m fuel (listed.setIfInBounds i true) (a.put oi.dst v) w) : wpAnyM P md ops Q S m (fuel + 1) listed a w :=
  wpAnyM_first hi (Region.noSelect_spec hs) hQ (earlyB_dep he).2 fuel listed a w (earlyB_dep he).1 (Region.free_spec hi hf) (earlyB_spec he) (by simpa using hr) hy hS h

def AllReadyM (P : Program) (md : Region.Mode) (ops : Array Oper) (Q : Exit → Act → World → Prop) (S : World → Prop) (m fuel : Nat) (listed : Array Bool) (a : Act) (w : World) (rs : List Nat) : Prop :=
  ∀ i ∈ rs, wpOp P ops Q i (fun a' w' => (i < m → S w') ∧ wpAnyM P md ops Q S m fuel (listed.setIfInBounds i true) a' w') a w

theorem AllReadyM.nil {fuel : Nat} {listed : Array Bool} {a : Act} {w : World} : AllReadyM P md ops Q S m fuel listed a w [] := fun _ h => by cases h

theorem AllReadyM.cons {fuel : Nat} {listed : Array Bool} {a : Act} {w : World} {i : Nat} {o : Oper} {rs : List Nat} (ho : ops[i]? = some o)
    (h : ∀ K' : Act → World → Prop, (∀ a w, ((i < m → S w) ∧ wpAnyM P md ops Q S m fuel (listed.setIfInBounds i true) a w) → K' a w) → if Region.wanted o (yielded ops a.tmps) = true then Oper.wp P o a w K' Q else K' (a.put o.dst undef) w)
    (hs : AllReadyM P md ops Q S m fuel listed a w rs) : AllReadyM P md ops Q S m fuel listed a w (i :: rs) := fun j hj => by
  rcases List.mem_cons.1 hj with rfl | hj
  · exact wpOp_step ho h
  · exact hs j hj

theorem wpAnyM_ready {rs : List Nat} {fuel : Nat} {listed : Array Bool} {a : Act} {w : World} (hr : Region.ready md ops listed = rs) (hne : rs ≠ [])
    (h : AllReadyM P md ops Q S m fuel listed a w rs) : wpAnyM P md ops Q S m (fuel + 1) listed a w := ⟨fun h0 => absurd (hr ▸ h0) hne, hr ▸ h⟩

theorem wpAnyM_done {listed : Array Bool} {a : Act} {w : World} (hr : Region.ready md ops listed = []) (h : Q .normal a w) :
    ∀ fuel, wpAnyM P md ops Q S m fuel listed a w
  | 0 => ⟨hr, h⟩
  | _ + 1 => ⟨fun _ => h, by rw [hr]; simp⟩

theorem wp_region_mid {id : Nat} {a : Act} {w : World} (m : Nat) (hm : P.follows .mixedOrders = true)
    (h : wpAnyM P .any ops Q S m ops.size (Array.replicate ops.size false) a w.drew) : (Code.region id ops true).wp P Q a w :=
  wp_region_any hm (wpAny_of_mid _ _ _ _ h)
end

theorem wrap_id9 {x : Int} (h : -9223372036854775808 ≤ x ∧ x ≤ 9223372036854775807) : IntKind.i64.wrap x = x := by
  rw [IntKind.wrap_i64]
  omega
end Go.Proofs.Ytbdcdiihaecheaa

namespace Go.Proofs.Ytbdcdiihaecheaa
open Go.RowKit
set_option linter.unusedVariables false
set_option maxRecDepth 100000
set_option linter.unusedSectionVars false
variable [Inhabited Cl] [Inhabited Ln]

/-- A handle. -/
abbrev Hd := Int × Int
def Hd.cells (x : Hd) : List Value := [.int .i64 x.1, .int .i64 x.2]
theorem hdK : Knd Hd.cells 2 := ⟨fun _ => rfl, fun x u hu => by simp [Hd.cells] at hu; rcases hu with rfl | rfl <;> rfl, by decide⟩
theorem hdinfo : (Try.prog.info? 36).map (fun i => (i.zero, i.size, i.bytes)) = some (some (.agg #[.int .i64 0, .int .i64 0]), 2, 16) := by kernel_rfl
def Ln.ver (x : Ln) : Vs := ⟨x.ts, x.val, x.del⟩

/-- A chain that ends: the newest one first. -/
def Chn (v : Ar Ln) : Int → Int → List Ln → Prop
  | s, g, [] => s = 0 ∧ g = 0
  | s, g, x :: r => (v.Good s g ∧ 1 ≤ g ∧ (slAt v.us s.toNat).val = x) ∧ Chn v x.s x.g r
/-- .. and where its versions are. -/
def hds : Int → Int → List Ln → List Hd
  | _, _, [] => []
  | s, g, x :: r => (s, g) :: hds x.s x.g r

theorem hds_len : ∀ (l : List Ln) (s g : Int), (hds s g l).length = l.length
  | [], _, _ => rfl
  | x :: r, s, g => by simp [hds, hds_len r]

/-- Where the chain goes on behind j of its versions. -/
def nextS (s : Int) (l : List Ln) : Nat → Int
  | 0 => s
  | j + 1 => ((l[j]?).getD Ln.zero).s
def nextG (g : Int) (l : List Ln) : Nat → Int
  | 0 => g
  | j + 1 => ((l[j]?).getD Ln.zero).g

theorem Chn.drop {v : Ar Ln} : ∀ {l : List Ln} {s g : Int} (h : Chn v s g l) (j : Nat), j ≤ l.length → Chn v (nextS s l j) (nextG g l j) (l.drop j)
  | l, s, g, h, 0, _ => by simpa [nextS, nextG] using h
  | [], s, g, h, j + 1, hj => by simp at hj
  | x :: r, s, g, h, 1, hj => by simpa [nextS, nextG] using h.2
  | x :: r, s, g, h, j + 2, hj => by
    have := Chn.drop h.2 (j + 1) (by simpa using hj)
    simpa [nextS, nextG] using this

theorem hds_take : ∀ (l : List Ln) (s g : Int) (j : Nat), j < l.length → (hds s g l).take (j + 1) = (hds s g l).take j ++ [(nextS s l j, nextG g l j)]
  | [], s, g, j, hj => by simp at hj
  | x :: r, s, g, 0, hj => by simp [hds, nextS, nextG]
  | x :: r, s, g, 1, hj => by
    have := hds_take r x.s x.g 0 (by simpa using hj)
    simp only [hds, List.take_succ_cons, this, nextS, nextG]
    simp
  | x :: r, s, g, j + 2, hj => by
    have := hds_take r x.s x.g (j + 1) (by simp at hj; omega)
    simp only [hds, List.take_succ_cons, this, nextS, nextG]
    simp

theorem ver_take (l : List Ln) (j : Nat) (x : Ln) (hx : l[j]? = some x) : (l.take (j + 1)).map Ln.ver = (l.take j).map Ln.ver ++ [x.ver] := by
  rw [List.take_add_one, hx]
  simp

section
variable {α : Type} {cells : α → List Value} {k : Nat}
/-- One more of an element that lies in memory, whatever is done to the row's own block. -/
theorem app_entryB (K : Knd cells k) {e t : TypeId} {z : Value} {bytes : Nat} (ht : Try.prog.underlying t = some (.slice e)) (hinfo : (Try.prog.info? e).map (fun i => (i.zero, i.size, i.bytes)) = some (some z, k, bytes)) (hzs : z.cells.size = k)
    {W : World} {base : Nat} {v : Value} {l : List α} {y : α} {E : Nat} (hv : Own cells k e W base v l) (hE : Els cells k W (some ⟨E, 0, none⟩) [y]) (hbase : base ≤ W.heap.size) (h63 : l.length + 1 ≤ maxLen) (hb : (l.length + 1) * bytes ≤ 140737488355328) :
    ∃ v' W', (Builtin.append_ #[t, t] t #[v, .slice (some ⟨E, 0, none⟩) 1 1]).run Try.prog W = .ok v' W' ∧ Own cells k e W' base v' (l ++ [y]) ∧ Tn v.ownBlock.toList W W' ∧ (∀ j, v'.ownBlock = some j → v.ownBlock = some j ∨ W.heap.size ≤ j) := by
  obtain ⟨v', W', hr, ho, hg, hk⟩ := run_appL K ht hinfo hzs W base t v l [y] (some ⟨E, 0, none⟩) 1 1 rfl hE (fun h => by cases h) hv h63 hb hbase
  refine ⟨v', W', hr, ho, (Tn.refl _ W).grown hg (fun j hj => .inl (by rw [hj]; simp)), fun j hj => ?_⟩
  rcases hk with hk | hk
  · exact .inl (by rw [← hk]; exact hj)
  · rw [hk] at hj
    exact .inr (Nat.le_of_eq (Option.some.inj hj))
end

/-- An append in a drawn region. -/
theorem step_appH {ops : Array Oper} {o : Oper} {a : Act} {w : World} {K : Act → World → Prop} {Q : Exit → Act → World → Prop} {E : Prop}
    (hg : o.guard = none) (s x : Operand) (t : TypeId) (hop : o.op = Op.call { callee := Callee.builtin Builtin.append, args := #[s, x], argTypes := #[t, t] })
    (v u : Value) (hs : a.eval s = v) (hx : a.eval x = u) {v' : Value} {w' : World} (hr : (Builtin.append_ #[t, t] o.type #[v, u]).run Try.prog w = .ok v' w') (hK : K (a.put o.dst v') w') :
    if Region.wanted o (yielded ops a.tmps) = true then Oper.wp Try.prog o a w K Q else E := by
  have hw : Region.wanted o (yielded ops a.tmps) = true := by simp [Region.wanted, hg]
  rw [if_pos hw]
  unfold Oper.wp
  simp [execOp, hop, resolve, invoke, builtin, hs, hx, hr, Result.andThen]
  exact hK

/-- Two rows of one call's own, of versions and of handles. -/
structure TwoH (base : Nat) (W : World) (v1 v2 : Value) (a : List Vs) (b : List Hd) : Prop where
  o1 : Own Vs.cells 3 34 W base v1 a
  o2 : Own Hd.cells 2 36 W base v2 b
  ne : ∀ k, v1.ownBlock = some k → v2.ownBlock ≠ some k

theorem TwoH.tn {base : Nat} {W W' : World} {v1 v2 : Value} {a : List Vs} {b : List Hd} {S : List Nat} (h : TwoH base W v1 v2 a b) (t : Tn S W W') (hS : ∀ x ∈ S, v1.ownBlock ≠ some x ∧ v2.ownBlock ≠ some x) : TwoH base W' v1 v2 a b :=
  ⟨h.o1.tn t (fun b hb hm => (hS b hm).1 hb), h.o2.tn t (fun b hb hm => (hS b hm).2 hb), h.ne⟩

/-- Its own blocks. -/
def own2 (v1 v2 : Value) : List Nat := v1.ownBlock.toList ++ v2.ownBlock.toList
theorem mem_own2 {v1 v2 : Value} {k : Nat} : k ∈ own2 v1 v2 ↔ v1.ownBlock = some k ∨ v2.ownBlock = some k := by simp [own2]

theorem TwoH.lt {base : Nat} {W : World} {v1 v2 : Value} {a : List Vs} {b : List Hd} (h : TwoH base W v1 v2 a b) : ∀ k ∈ own2 v1 v2, base ≤ k ∧ k < W.heap.size := by
  intro k hk
  rcases mem_own2.1 hk with hk | hk
  · exact h.o1.blk hk
  · exact h.o2.blk hk

/-- What two appends have made of it: the rows have one element more each; no other old block has turned. -/
structure Grew (base : Nat) (W W' : World) (v1 v2 v1' v2' : Value) (a : List Vs) (b : List Hd) : Prop where
  two : TwoH base W' v1' v2' a b
  tn : Tn (own2 v1 v2) W W'
  b1 : ∀ j, v1'.ownBlock = some j → v1.ownBlock = some j ∨ W.heap.size ≤ j
  b2 : ∀ j, v2'.ownBlock = some j → v2.ownBlock = some j ∨ W.heap.size ≤ j

theorem grew_end {base : Nat} {W W1 W2 W3 W4 : World} {v1 v2 v1' v2' : Value} {a a' : List Vs} {b b' : List Hd} (h : TwoH base W v1 v2 a b) (t1 : Tn [] W W1)
    (o1 : Own Vs.cells 3 34 W2 base v1' a') (t2 : Tn v1.ownBlock.toList W1 W2) (k1 : ∀ j, v1'.ownBlock = some j → v1.ownBlock = some j ∨ W1.heap.size ≤ j) (t3 : Tn [] W2 W3)
    (o2 : Own Hd.cells 2 36 W4 base v2' b') (t4 : Tn v2.ownBlock.toList W3 W4) (k2 : ∀ j, v2'.ownBlock = some j → v2.ownBlock = some j ∨ W3.heap.size ≤ j) : Grew base W W4 v1 v2 v1' v2' a' b' := by
  have z1 := t1.size
  have z2 := t2.size
  have z3 := t3.size
  refine ⟨⟨(o1.tn t3 (by simp)).tn t4 (fun j hj hm => ?_), o2, fun j hj hj2 => ?_⟩, ?_, fun j hj => ?_, fun j hj => ?_⟩
  · have hm' : v2.ownBlock = some j := by simpa [opt_toList] using hm
    rcases k1 j hj with h1 | h1
    · exact h.ne j h1 hm'
    · have := (h.o2.blk hm').2; omega
  · have hlt := (o1.blk hj).2
    rcases k2 j hj2 with h1 | h1
    · rcases k1 j hj with h2 | h2
      · exact h.ne j h2 h1
      · have := (h.o2.blk h1).2; omega
    · omega
  · refine (((t1.mono (by simp)).trans (t2.mono (T := own2 v1 v2) ?_) ?_).trans (t3.mono (T := own2 v1 v2) (by simp)) ?_).trans (t4.mono (T := own2 v1 v2) ?_) ?_
    · intro x hx; exact List.mem_append.2 (.inl hx)
    · intro x hx; exact .inl hx
    · intro x hx; exact .inl hx
    · intro x hx; exact List.mem_append.2 (.inr hx)
    · intro x hx; exact .inl hx
  · rcases k1 j hj with h1 | h1
    · exact .inl h1
    · exact .inr (by omega)
  · rcases k2 j hj with h1 | h1
    · exact .inl h1
    · exact .inr (by omega)

end Go.Proofs.Ytbdcdiihaecheaa

namespace Go.Proofs.Ytbdcdiihaecheaa
open Go.RowKit
set_option linter.unusedVariables false
set_option maxRecDepth 100000
set_option linter.unusedSectionVars false
variable [Inhabited Cl] [Inhabited Ln]

variable {m : Nat} {w w1 w2 w' : World} {H cB vB eB : Nat} {cb vb eb : List Nat} {h h' : Hp} {av L L' : List Nat}

/-- In the midst of it: the variable 'at' (block A) has the handle (s, g), the chain so far lies at F, the answer's variable at R. -/
structure ChS (w W : World) (A : Nat) (v1 v2 : Value) (a : List Vs) (b : List Hd) (s g : Int) : Prop where
  below : Below w.heap.size w W
  kA : Bk W A 36 #[.int .i64 s, .int .i64 g]
  kF : Bk W (w.heap.size + 2) 107 #[v1, v2]
  kR : Bk W (w.heap.size + 1) 107 #[.slice none 0 0, .slice none 0 0]
  A3 : w.heap.size + 3 ≤ A
  two : TwoH (w.heap.size + 3) W v1 v2 a b
  nA : A ∉ own2 v1 v2

theorem ChS.size {w W : World} {A : Nat} {v1 v2 : Value} {a : List Vs} {b : List Hd} {s g : Int} (h : ChS w W A v1 v2 a b s g) : w.heap.size + 3 < W.heap.size := by have := h.A3; have := h.kA.lt; omega

/-- Nothing of it has turned. -/
theorem ChS.tn {w W W' : World} {A : Nat} {v1 v2 : Value} {a : List Vs} {b : List Hd} {s g : Int} {S : List Nat} (h : ChS w W A v1 v2 a b s g) (t : Tn S W W') (hS : ∀ x ∈ S, W.heap.size ≤ x) : ChS w W' A v1 v2 a b s g := by
  have hz := h.size
  refine ⟨h.below.trans (t.below (by omega) (fun x hx => by have := hS x hx; omega)), h.kA.tn t (fun hm => by have := hS _ hm; have := h.kA.lt; omega), h.kF.tn t (fun hm => by have := hS _ hm; omega), h.kR.tn t (fun hm => by have := hS _ hm; omega), h.A3, h.two.tn t (fun x hx => ⟨fun e => ?_, fun e => ?_⟩), h.nA⟩
  · have := hS x hx
    have := (h.two.lt x (mem_own2.2 (.inl e))).2
    omega
  · have := hS x hx
    have := (h.two.lt x (mem_own2.2 (.inr e))).2
    omega

def slen : Option Value → Nat
  | some (.slice _ n _) => n
  | _ => 0

theorem ChS.len {w W : World} {A : Nat} {v1 v2 : Value} {a : List Vs} {b : List Hd} {s g : Int} (h : ChS w W A v1 v2 a b s g) : slen (W.cell? ⟨w.heap.size + 2, 0, none⟩) = a.length := by
  have h0 : W.cell? ⟨w.heap.size + 2, 0, none⟩ = some v1 := h.kF.cell 0
  obtain ⟨p, c, hv, -⟩ := h.two.o1.els vknd
  rw [h0, hv]
  rfl

/-- The chain's two rows have grown, and are stored. -/
theorem ChS.grown {w W W4 W6 : World} {A X : Nat} {v1 v2 v1' v2' : Value} {a a' : List Vs} {b b' : List Hd} {s g : Int} {cs : Array Value} {t : TypeId} (h : ChS w W A v1 v2 a b s g) (hx : Bk W X t cs) (hX : X ∉ own2 v1 v2) (hXF : X ≠ w.heap.size + 2) (hg : Grew (w.heap.size + 3) W W4 v1 v2 v1' v2' a' b') (hw : W6 = (W4.setCell ⟨w.heap.size + 2, 0, none⟩ v1').setCell ⟨w.heap.size + 2, 1, none⟩ v2') :
    ChS w W6 A v1' v2' a' b' s g ∧ Bk W6 X t cs := by
  have hz := h.size
  have hz4 := hg.tn.size
  have hlo : ∀ k ∈ own2 v1 v2, w.heap.size + 3 ≤ k := fun k hk => (h.two.lt k hk).1
  have hF : w.heap.size + 2 ∉ own2 v1 v2 := fun hm => by have := hlo _ hm; omega
  have hR : w.heap.size + 1 ∉ own2 v1 v2 := fun hm => by have := hlo _ hm; omega
  have t6 : Tn [w.heap.size + 2] W4 W6 := by rw [hw]; exact ((Tn.refl _ _).setCell (.inl (by simp)) _).setCell (.inl (by simp)) _
  have hA3 := h.A3
  refine ⟨⟨?_, (h.kA.tn hg.tn h.nA).tn t6 (by simp; omega), ?_, (h.kR.tn hg.tn hR).tn t6 (by simp), h.A3, hg.two.tn t6 (fun x hx => ?_), fun hm => ?_⟩, (hx.tn hg.tn hX).tn t6 (by simpa using hXF)⟩
  · exact (h.below.trans (hg.tn.below (by omega) (fun x hx => by have := hlo x hx; omega))).trans (t6.below (by omega) (by simp))
  · rw [hw]
    exact ((h.kF.tn hg.tn hF).set 0 _).set 1 _
  · have hx' : x = w.heap.size + 2 := by simpa using hx
    subst hx'
    exact ⟨fun e => by have := (hg.two.lt _ (mem_own2.2 (.inl e))).1; omega, fun e => by have := (hg.two.lt _ (mem_own2.2 (.inr e))).1; omega⟩
  · have hAlt := h.kA.lt
    rcases mem_own2.1 hm with e | e
    · rcases hg.b1 A e with h1 | h1
      · exact h.nA (mem_own2.2 (.inl h1))
      · omega
    · rcases hg.b2 A e with h1 | h1
      · exact h.nA (mem_own2.2 (.inr h1))
      · omega

/-- The next handle. -/
theorem ChS.next {w W W8 : World} {A : Nat} {v1 v2 : Value} {a : List Vs} {b : List Hd} {s g s' g' : Int} (h : ChS w W A v1 v2 a b s g) (hw : W8 = ((W.setCell ⟨A, 0, none⟩ (.int .i64 s')).setCell ⟨A, 1, none⟩ (.int .i64 g')).alloc (.cells #[.int .i64 s', .int .i64 g'] 36)) :
    ChS w W8 W.heap.size v1 v2 a b s' g' := by
  have hz := h.size
  have hA3 := h.A3
  have t8 : Tn [A] W W8 := by rw [hw]; exact (((Tn.refl _ _).setCell (.inl (by simp)) _).setCell (.inl (by simp)) _).alloc _
  refine ⟨h.below.trans (t8.below (by omega) (by simp; omega)), ?_, h.kF.tn t8 (by simp; omega), h.kR.tn t8 (by simp; omega), by omega, h.two.tn t8 (fun x hx => ?_), fun hm => ?_⟩
  · rw [hw]
    have := Bk.new ((W.setCell ⟨A, 0, none⟩ (.int .i64 s')).setCell ⟨A, 1, none⟩ (.int .i64 g')) 36 #[.int .i64 s', .int .i64 g']
    simpa using this
  · have hx' : x = A := by simpa using hx
    subst hx'
    exact ⟨fun e => h.nA (mem_own2.2 (.inl e)), fun e => h.nA (mem_own2.2 (.inr e))⟩
  · have := (h.two.lt _ hm).2
    omega

theorem results_ch {fn : Func} {t u : Tmp} (h : fn.results = #[.cell t 107, .tmp u]) {tmps : Array Value} {w : World} {b : Nat} (ht : tmps.getD t undef = .pointer (some ⟨b, 0, none⟩)) {v1 v2 : Value} (hk : Bk w b 107 #[v1, v2]) :
    (results fn tmps).run Try.prog w = .ok (.tuple #[.agg #[v1, v2], tmps.getD u undef]) w := by
  have c0 : w.cell? ⟨b, 0, none⟩ = some v1 := hk.cell 0
  have c1 : w.cell? ⟨b, 1, none⟩ = some v2 := hk.cell 1
  have hz : ∀ w : World, (loadVar 107 ⟨b, 0, none⟩).run Try.prog w = (do let x0 ← load ⟨b, 0, none⟩; let x1 ← load ⟨b, 1, none⟩; pure (.agg #[x0, x1]) : Sem Value).run Try.prog w := fun w => by kernel_rfl
  have hl : (loadVar 107 ⟨b, 0, none⟩).run Try.prog w = .ok (.agg #[v1, v2]) w := by
    rw [hz]
    simp [c0, c1]
  have ht' : tmps[t]?.getD undef = .pointer (some ⟨b, 0, none⟩) := by simpa using ht
  simp [results, h, ht', asAddr, hl]

set_option maxHeartbeats 8000000 in
theorem chain_good (hh : Hpn m w H cB vB eB h av) (c : Cl) (l : List Ln) (hc : Chn h.v c.s c.g l) (hl : l.length ≤ 65536) :
    Calls Try.prog 39 #[.pointer (some ⟨H, 0, none⟩), c.v] w fun e w' => ∃ v1 v2, e = .returned (.tuple #[.agg #[v1, v2], .int .i64 0]) ∧ TwoH w.heap.size w' v1 v2 (l.map Ln.ver) (hds c.s c.g l) ∧ Below w.heap.size w w' := by
  obtain ⟨c1, c2, c3, c4⟩ := c
  obtain ⟨w1, hw1, hz1, hb1, hk1⟩ : ∃ w1, w.alloc (.cells #[.string c1, .int .i64 c2, .int .i64 c3, .bool c4] 93) = w1 ∧ w1.heap.size = w.heap.size + 1 ∧ Below w.heap.size w w1 ∧ Bk w1 w.heap.size 93 #[.string c1, .int .i64 c2, .int .i64 c3, .bool c4] := ⟨_, rfl, by simp, (Below.refl _ w).alloc (Nat.le_refl _) _, Bk.new _ _ _⟩
  obtain ⟨w2, hw2, hz2, hb2, hk2⟩ : ∃ w2, w1.alloc (.cells #[.slice none 0 0, .slice none 0 0] 107) = w2 ∧ w2.heap.size = w.heap.size + 2 ∧ Below w1.heap.size w1 w2 ∧ Bk w2 (w.heap.size + 1) 107 #[.slice none 0 0, .slice none 0 0] := ⟨_, rfl, by simp [hz1], (Below.refl _ w1).alloc (Nat.le_refl _) _, by rw [← hz1]; exact Bk.new _ _ _⟩
  obtain ⟨w3, hw3, hz3, hb3, hk3⟩ : ∃ w3, w2.alloc (.cells #[.slice none 0 0, .slice none 0 0] 107) = w3 ∧ w3.heap.size = w.heap.size + 3 ∧ Below w2.heap.size w2 w3 ∧ Bk w3 (w.heap.size + 2) 107 #[.slice none 0 0, .slice none 0 0] := ⟨_, rfl, by simp [hz2], (Below.refl _ w2).alloc (Nat.le_refl _) _, by rw [← hz2]; exact Bk.new _ _ _⟩
  obtain ⟨w4, hw4, hz4, hb4, hk4⟩ : ∃ w4, w3.alloc (.cells #[.int .i64 c2, .int .i64 c3] 36) = w4 ∧ w4.heap.size = w.heap.size + 4 ∧ Below w3.heap.size w3 w4 ∧ Bk w4 (w.heap.size + 3) 36 #[.int .i64 c2, .int .i64 c3] := ⟨_, rfl, by simp [hz3], (Below.refl _ w3).alloc (Nat.le_refl _) _, by rw [← hz3]; exact Bk.new _ _ _⟩
  have hk13 := (hk1.tn (Tn.of_below hb2 []) (by simp)).tn (Tn.of_below hb3 []) (by simp)
  have u1 : w3.cell? ⟨w.heap.size, 1, none⟩ = some (.int .i64 c2) := hk13.cell 1
  have u2 : w3.cell? ⟨w.heap.size, 2, none⟩ = some (.int .i64 c3) := hk13.cell 2
  have HI : Hid (ChS w w4 (w.heap.size + 3) (.slice none 0 0) (.slice none 0 0) [] [] c2 c3) := ⟨((hb1.trans (hb2.mono hb1.size)).trans (hb3.mono (by omega))).trans (hb4.mono (by omega)), hk4, hk3.tn (Tn.of_below hb4 []) (by simp), (hk2.tn (Tn.of_below hb3 []) (by simp)).tn (Tn.of_below hb4 []) (by simp), Nat.le_refl _, ⟨Own.nil _ _ _, Own.nil _ _ _, fun k hk => by cases hk⟩, by simp [own2, Value.ownBlock]⟩
  have HH : Hid (∀ W, Below w.heap.size w W → Hpn m W H cB vB eB h av) := fun W hW => hh.below hW
  have HGET : Hid (∀ (W : World) (s g : Int) (x : Ln), Below w.heap.size w W → h.v.Good s g → (slAt h.v.us s.toNat).val = x → Calls Try.prog 66 #[.pointer (some ⟨vB, 0, none⟩), .agg #[.int .i64 s, .int .i64 g]] W fun e w' => e = .returned (.tuple #[x.v, .int .i64 0]) ∧ Below W.heap.size W w') := fun W s g x hW hg hx => by
    obtain ⟨cb, vb, eb, hI⟩ := hh.below hW
    rw [← hx]
    exact getGoodL hI.v s g hg
  have HCD : Hid (∀ j, j ≤ l.length → Chn h.v (nextS c2 l j) (nextG c3 l j) (l.drop j)) := fun j hj => hc.drop j hj
  have HAL : Hid (l.take l.length = l ∧ (hds c2 c3 l).take l.length = hds c2 c3 l) := ⟨List.take_length, List.take_of_length_le (by rw [hds_len]; exact Nat.le_refl _)⟩
  clear hk1 hk2 hk3 hk4 hk13 hb1 hb2 hb3 hb4 hh hc
  go_enter Try.func39, Try.ntmps39
  go_wp2_with fail
  go_loopw [7] (fun a wr => ∃ (j A : Nat) (v1 v2 : Value), j ≤ l.length ∧ a = .pointer (some ⟨A, 0, none⟩) ∧ Hid (ChS w wr A v1 v2 ((l.take j).map Ln.ver) ((hds c2 c3 l).take j) (nextS c2 l j) (nextG c3 l j))) (fun _ W => l.length - slen (W.cell? ⟨w.heap.size + 2, 0, none⟩))
  case atStart => exact ⟨0, _, _, _, Nat.zero_le _, rfl, by unfold Hid; simpa [nextS, nextG] using HI.out⟩
  case round =>
    obtain ⟨j, A, v1, v2, hj, rfl, HS⟩ := hrel
    by_cases hlt : j < l.length
    · obtain ⟨x, hx⟩ : ∃ x, l[j]? = some x := ⟨_, List.getElem?_eq_getElem hlt⟩
      have HC : Hid ((h.v.Good (nextS c2 l j) (nextG c3 l j) ∧ 1 ≤ nextG c3 l j ∧ (slAt h.v.us (nextS c2 l j).toNat).val = x)) := by
        have h1 := HCD.out j hj
        have h2 : l.drop j = x :: l.drop (j + 1) := by
          rw [List.drop_eq_getElem_cons hlt]
          congr 1
          rw [List.getElem?_eq_getElem hlt] at hx
          exact Option.some.inj hx
        rw [h2] at h1
        exact h1.1
      have HNX : Hid (nextS c2 l (j + 1) = x.s ∧ nextG c3 l (j + 1) = x.g ∧ (l.take (j + 1)).map Ln.ver = (l.take j).map Ln.ver ++ [x.ver] ∧ (hds c2 c3 l).take (j + 1) = (hds c2 c3 l).take j ++ [(nextS c2 l j, nextG c3 l j)] ∧ ((l.take j).map Ln.ver).length = j ∧ ((hds c2 c3 l).take j).length = j ∧ j < l.length) := by
        refine ⟨by simp [nextS, hx], by simp [nextG, hx], ver_take l j x hx, hds_take l c2 c3 j hlt, by simp; omega, by rw [List.length_take, hds_len]; omega, hlt⟩
      have hg1 := HC.out.2.1
      generalize hsj : nextS c2 l j = s at *
      generalize hgj : nextG c3 l j = g at *
      generalize hva : (l.take j).map Ln.ver = va at *
      generalize hvb : (hds c2 c3 l).take j = vb at *
      have hne : ¬ g = 0 := by omega
      have hk := HS.out.kA
      have a0 : wr.cell? ⟨A, 0, none⟩ = some (.int .i64 s) := hk.cell 0
      have a1 : wr.cell? ⟨A, 1, none⟩ = some (.int .i64 g) := hk.cell 1
      obtain ⟨wx, hwx, hzx, hbx, hkX⟩ : ∃ wx, wr.alloc (.cells #[.int .i64 0, .string ⟨#[]⟩, .bool false, .int .i64 0, .int .i64 0] 97) = wx ∧ wx.heap.size = wr.heap.size + 1 ∧ Below wr.heap.size wr wx ∧ Bk wx wr.heap.size 97 #[.int .i64 0, .string ⟨#[]⟩, .bool false, .int .i64 0, .int .i64 0] := ⟨_, rfl, by simp, (Below.refl _ wr).alloc (Nat.le_refl _) _, Bk.new _ _ _⟩
      have HX : Hid (Bk wx wr.heap.size 97 #[.int .i64 0, .string ⟨#[]⟩, .bool false, .int .i64 0, .int .i64 0] ∧ Below wr.heap.size wr wx) := ⟨hkX, hbx⟩
      have b0 : wx.cell? ⟨A, 0, none⟩ = some (.int .i64 s) := (hk.tn (Tn.of_below hbx []) (by simp)).cell 0
      have b1 : wx.cell? ⟨A, 1, none⟩ = some (.int .i64 g) := (hk.tn (Tn.of_below hbx []) (by simp)).cell 1
      have p0 := (HH.out wr HS.out.below).ptrs.2.1
      have p1 := (HH.out wx (HS.out.below.trans (hbx.mono HS.out.below.size))).ptrs.2.1
      have HG1 : Hid (Calls Try.prog 66 #[.pointer (some ⟨vB, 0, none⟩), .agg #[.int .i64 s, .int .i64 g]] wr.drew fun e w' => e = .returned (.tuple #[x.v, .int .i64 0]) ∧ Below wr.drew.heap.size wr.drew w') := HGET.out _ s g x HS.out.below.drew HC.out.1 HC.out.2.2
      have HG2 : Hid (Calls Try.prog 66 #[.pointer (some ⟨vB, 0, none⟩), .agg #[.int .i64 s, .int .i64 g]] wx.drew fun e w' => e = .returned (.tuple #[x.v, .int .i64 0]) ∧ Below wx.drew.heap.size wx.drew w') := HGET.out _ s g x (HS.out.below.trans (hbx.mono HS.out.below.size)).drew HC.out.1 HC.out.2.2
      clear hk hkX hbx hg1 hx hsj hgj hva hvb hlt hj
      go_wp2_with fail
      go_region_with (go_at_call 66; first
        | (refine HG1.out.mono ?_; rintro e w5 ⟨rfl, hb5⟩; have HB5 : Hid (Below wr.heap.size wr w5) := (Below.refl _ wr).drew.trans hb5)
        | (refine HG2.out.mono ?_; rintro e w6 ⟨rfl, hb6⟩; have HB6 : Hid (Below wr.heap.size wr w6 ∧ Bk w6 wr.heap.size 97 #[.int .i64 0, .string ⟨#[]⟩, .bool false, .int .i64 0, .int .i64 0]) := ⟨(HX.out.2.drew).trans (hb6.mono HX.out.2.drew.size), (HX.out.1.tn (Tn.refl [] _).drew (by simp)).tn (Tn.of_below hb6 []) (by simp)⟩; have hkx6 := HB6.out.2; have x0 : w6.cell? ⟨wr.heap.size, 0, none⟩ = some (.int .i64 0) := hkx6.cell 0; have f0 : w6.frozen? ⟨wr.heap.size, 0, none⟩ = false := hkx6.frozen 0; have x1 : w6.cell? ⟨wr.heap.size, 1, none⟩ = some (.string ⟨#[]⟩) := hkx6.cell 1; have f1 : w6.frozen? ⟨wr.heap.size, 1, none⟩ = false := hkx6.frozen 1; have x2 : w6.cell? ⟨wr.heap.size, 2, none⟩ = some (.bool false) := hkx6.cell 2; have f2 : w6.frozen? ⟨wr.heap.size, 2, none⟩ = false := hkx6.frozen 2; have x3 : w6.cell? ⟨wr.heap.size, 3, none⟩ = some (.int .i64 0) := hkx6.cell 3; have f3 : w6.frozen? ⟨wr.heap.size, 3, none⟩ = false := hkx6.frozen 3; have x4 : w6.cell? ⟨wr.heap.size, 4, none⟩ = some (.int .i64 0) := hkx6.cell 4; have f4 : w6.frozen? ⟨wr.heap.size, 4, none⟩ = false := hkx6.frozen 4; clear hkx6))
      all_goals (first
        | (obtain ⟨X, hX⟩ : ∃ X, w5.heap.size = X := ⟨_, rfl⟩
           obtain ⟨W, hW⟩ : ∃ W, w5.alloc (.cells #[.int .i64 x.ts, .string x.val, .bool x.del, .int .i64 x.s, .int .i64 x.g] 97) = W := ⟨_, rfl⟩
           have HF : Hid (ChS w W A v1 v2 va vb s g ∧ Bk W X 97 #[.int .i64 x.ts, .string x.val, .bool x.del, .int .i64 x.s, .int .i64 x.g] ∧ X ∉ own2 v1 v2 ∧ X ≠ w.heap.size + 2 ∧ X ≠ A) := by
             have h5 := HS.out.tn (Tn.of_below HB5.out []) (by simp)
             have hz := HB5.out.size
             have hz2 := HS.out.size
             rw [← hW, ← hX]
             exact ⟨h5.tn ((Tn.refl [] _).alloc _) (by simp), Bk.new w5 _ _, fun hm => by have := (h5.two.lt _ hm).2; omega, by omega, fun e => by have := HS.out.kA.lt; omega⟩
           rw [hW, hX]
           clear hW hX)
        | (obtain ⟨X, hX⟩ : ∃ X, wr.heap.size = X := ⟨_, rfl⟩
           obtain ⟨W, hW⟩ : ∃ W, ((((w6.setCell ⟨wr.heap.size, 0, none⟩ (.int .i64 x.ts)).setCell ⟨wr.heap.size, 1, none⟩ (.string x.val)).setCell ⟨wr.heap.size, 2, none⟩ (.bool x.del)).setCell ⟨wr.heap.size, 3, none⟩ (.int .i64 x.s)).setCell ⟨wr.heap.size, 4, none⟩ (.int .i64 x.g) = W := ⟨_, rfl⟩
           have HF : Hid (ChS w W A v1 v2 va vb s g ∧ Bk W X 97 #[.int .i64 x.ts, .string x.val, .bool x.del, .int .i64 x.s, .int .i64 x.g] ∧ X ∉ own2 v1 v2 ∧ X ≠ w.heap.size + 2 ∧ X ≠ A) := by
             have hz2 := HS.out.size
             have ht : Tn [wr.heap.size] wr W := by rw [← hW]; exact (((((Tn.of_below HB6.out.1 _).setCell (.inl (by simp)) _).setCell (.inl (by simp)) _).setCell (.inl (by simp)) _).setCell (.inl (by simp)) _).setCell (.inl (by simp)) _
             refine ⟨HS.out.tn ht (by simp), ?_, fun hm => by have := (HS.out.two.lt _ hm).2; omega, by omega, fun e => by have := HS.out.kA.lt; omega⟩
             rw [← hW, ← hX]
             exact ((((HB6.out.2.set 0 _).set 1 _).set 2 _).set 3 _).set 4 _
           rw [hW, hX]
           clear hW hX))
      all_goals (
        clear HG1 HG2 HX HC
        go_wp2_with fail
        have HS7 : Hid (∀ w', Tn (own2 v1 v2) W w' → w'.cell? ⟨w.heap.size + 2, 0, none⟩ = some v1 ∧ w'.cell? ⟨w.heap.size + 2, 1, none⟩ = some v2 ∧ w'.cell? ⟨X, 0, none⟩ = some (.int .i64 x.ts) ∧ w'.cell? ⟨X, 1, none⟩ = some (.string x.val) ∧ w'.cell? ⟨X, 2, none⟩ = some (.bool x.del) ∧ w'.cell? ⟨A, 0, none⟩ = some (.int .i64 s) ∧ w'.cell? ⟨A, 1, none⟩ = some (.int .i64 g)) := fun w' t => by
          have hlo : ∀ k ∈ own2 v1 v2, w.heap.size + 3 ≤ k := fun k hk => (HF.out.1.two.lt k hk).1
          have kF := HF.out.1.kF.tn t (fun hm => by have := hlo _ hm; omega)
          have kA := HF.out.1.kA.tn t HF.out.1.nA
          have kX := HF.out.2.1.tn t HF.out.2.2.1
          exact ⟨kF.cell 0, kF.cell 1, kX.cell 0, kX.cell 1, kX.cell 2, kA.cell 0, kA.cell 1⟩
        have hS := HS7.out W.drew (Tn.refl _ _).drew
        have tD : Tn [] W W.drew := (Tn.refl _ _).drew
        have HO1 : Hid (Own Vs.cells 3 34 W (w.heap.size + 3) v1 va) := HF.out.1.two.o1
        have HO2 : Hid (Own Hd.cells 2 36 W (w.heap.size + 3) v2 vb) := HF.out.1.two.o2
        have HZW : Hid (w.heap.size + 3 ≤ W.heap.size) := Nat.le_of_lt HF.out.1.size
        refine wp_region_mid (S := (fun w' => w'.cell? ⟨w.heap.size + 2, 0, none⟩ = some v1 ∧ w'.cell? ⟨w.heap.size + 2, 1, none⟩ = some v2 ∧ w'.cell? ⟨X, 0, none⟩ = some (.int .i64 x.ts) ∧ w'.cell? ⟨X, 1, none⟩ = some (.string x.val) ∧ w'.cell? ⟨X, 2, none⟩ = some (.bool x.del) ∧ w'.cell? ⟨A, 0, none⟩ = some (.int .i64 s) ∧ w'.cell? ⟨A, 1, none⟩ = some (.int .i64 g))) 12 (by kernel_rfl) ?_
        refine wpAnyM_take (i := 0) [] (oi := { dst := some 28, op := Op.fieldAddr 107 (Operand.tmp 6) 0, type := 0, pos := _, after := #[], guard := none }) (v := .pointer (some ⟨w.heap.size + 2, 0, none⟩)) rfl (by kernel_rfl) (by kernel_rfl) (by kernel_rfl) (by kernel_rfl) (fun _ _ _ h => h) (Or.inl ⟨by rfl, ?_⟩) hS ?_
        · (intro w' hSw; obtain ⟨m0, m1, m2, m3, m4, m5, m6⟩ := hSw; go_simp; try with_reducible rfl)
        try simp only [Act.put, List.setIfInBounds_toArray, List.set_cons_zero, List.set_cons_succ]
        refine wpAnyM_take (i := 1) [] (oi := { dst := some 29, op := Op.load 46 (Operand.tmp 28), type := 46, pos := _, after := #[{ on := 0, ground := Ground.data }], guard := none }) (v := v1) rfl (by kernel_rfl) (by kernel_rfl) (by kernel_rfl) (by kernel_rfl) (fun _ _ _ h => h) (Or.inl ⟨by rfl, ?_⟩) hS ?_
        · (intro w' hSw; obtain ⟨m0, m1, m2, m3, m4, m5, m6⟩ := hSw; go_simp; try with_reducible rfl)
        try simp only [Act.put, List.setIfInBounds_toArray, List.set_cons_zero, List.set_cons_succ]
        refine wpAnyM_take (i := 2) [] (oi := { dst := some 30, op := Op.fieldAddr 97 (Operand.tmp 8) 0, type := 0, pos := _, after := #[], guard := none }) (v := .pointer (some ⟨X, 0, none⟩)) rfl (by kernel_rfl) (by kernel_rfl) (by kernel_rfl) (by kernel_rfl) (fun _ _ _ h => h) (Or.inl ⟨by rfl, ?_⟩) hS ?_
        · (intro w' hSw; obtain ⟨m0, m1, m2, m3, m4, m5, m6⟩ := hSw; go_simp; try with_reducible rfl)
        try simp only [Act.put, List.setIfInBounds_toArray, List.set_cons_zero, List.set_cons_succ]
        refine wpAnyM_take (i := 3) [] (oi := { dst := some 31, op := Op.load 34 (Operand.tmp 30), type := 34, pos := _, after := #[{ on := 2, ground := Ground.data }], guard := none }) (v := .agg #[.int .i64 x.ts, .string x.val, .bool x.del]) rfl (by kernel_rfl) (by kernel_rfl) (by kernel_rfl) (by kernel_rfl) (fun _ _ _ h => h) (Or.inl ⟨by rfl, ?_⟩) hS ?_
        · (intro w' hSw; obtain ⟨m0, m1, m2, m3, m4, m5, m6⟩ := hSw; go_simp; try with_reducible rfl)
        try simp only [Act.put, List.setIfInBounds_toArray, List.set_cons_zero, List.set_cons_succ]
        refine wpAnyM_take (i := 6) [] (oi := { dst := some 34, op := Op.fieldAddr 107 (Operand.tmp 6) 1, type := 0, pos := _, after := #[], guard := none }) (v := .pointer (some ⟨w.heap.size + 2, 1, none⟩)) rfl (by kernel_rfl) (by kernel_rfl) (by kernel_rfl) (by kernel_rfl) (fun _ _ _ h => h) (Or.inl ⟨by rfl, ?_⟩) hS ?_
        · (intro w' hSw; obtain ⟨m0, m1, m2, m3, m4, m5, m6⟩ := hSw; go_simp; try with_reducible rfl)
        try simp only [Act.put, List.setIfInBounds_toArray, List.set_cons_zero, List.set_cons_succ]
        refine wpAnyM_take (i := 7) [] (oi := { dst := some 35, op := Op.load 32 (Operand.tmp 34), type := 32, pos := _, after := #[{ on := 6, ground := Ground.data }], guard := none }) (v := v2) rfl (by kernel_rfl) (by kernel_rfl) (by kernel_rfl) (by kernel_rfl) (fun _ _ _ h => h) (Or.inl ⟨by rfl, ?_⟩) hS ?_
        · (intro w' hSw; obtain ⟨m0, m1, m2, m3, m4, m5, m6⟩ := hSw; go_simp; try with_reducible rfl)
        try simp only [Act.put, List.setIfInBounds_toArray, List.set_cons_zero, List.set_cons_succ]
        refine wpAnyM_take (i := 8) [9, 10] (oi := { dst := some 36, op := Op.load 36 (Operand.tmp 7), type := 36, pos := _, after := #[], guard := none }) (v := .agg #[.int .i64 s, .int .i64 g]) rfl (by kernel_rfl) (by kernel_rfl) (by kernel_rfl) (by kernel_rfl) (fun _ _ _ h => h) (Or.inl ⟨by rfl, ?_⟩) hS ?_
        · (intro w' hSw; obtain ⟨m0, m1, m2, m3, m4, m5, m6⟩ := hSw; go_simp; try with_reducible rfl)
        try simp only [Act.put, List.setIfInBounds_toArray, List.set_cons_zero, List.set_cons_succ]
        refine wpAnyM_ready (rs := [4, 9]) (by kernel_rfl) (by simp) ?_
        refine AllReadyM.cons (o := { dst := some 32, op := Op.buildSlice 46 1 #[(0, Operand.tmp 31)], type := 46, pos := _, after := #[{ on := 3, ground := Ground.data }], guard := none }) rfl (fun K hK => ?_) (AllReadyM.cons (o := { dst := some 37, op := Op.buildSlice 32 1 #[(0, Operand.tmp 36)], type := 32, pos := _, after := #[{ on := 8, ground := Ground.data }], guard := none }) rfl (fun K hK => ?_) AllReadyM.nil)
        · have HK9' : Hid (∀ a w, _ → K a w) := hK
          clear hK
          go_simp
          have t1 : Tn [] W (W.drew.alloc (.cells #[.int .i64 x.ts, .string x.val, .bool x.del] 34)) := tD.alloc _
          refine HK9'.out _ _ ⟨fun _ => HS7.out _ (t1.mono (by simp)), ?_⟩
          clear HK9' K
          try simp only [Act.put, List.setIfInBounds_toArray, List.set_cons_zero, List.set_cons_succ]
          refine wpAnyM_ready (rs := [5, 9]) (by kernel_rfl) (by simp) ?_
          refine AllReadyM.cons (o := { dst := some 33, op := Op.call { callee := Callee.builtin Builtin.append, args := #[Operand.tmp 29, Operand.tmp 32], argTypes := #[46, 46] }, type := 46, pos := _, after := #[{ on := 1, ground := Ground.data }, { on := 4, ground := Ground.data }], guard := none }) rfl (fun K hK => ?_) (AllReadyM.cons (o := { dst := some 37, op := Op.buildSlice 32 1 #[(0, Operand.tmp 36)], type := 32, pos := _, after := #[{ on := 8, ground := Ground.data }], guard := none }) rfl (fun K hK => ?_) AllReadyM.nil)
          · have HK9' : Hid (∀ a w, _ → K a w) := hK
            clear hK
            obtain ⟨v1', W2, hr, o1', t2, k1⟩ := app_entryB vknd Try.underlying46 vinfo rfl (y := x.ver) (E := W.heap.size) (HO1.out.tn t1 (by simp)) (els_one vknd W.drew _ x.ver) (Nat.le_trans HZW.out t1.size) (by have := HNX.out; unfold maxLen; omega) (by have := HNX.out; omega)
            refine step_appH rfl _ _ _ rfl _ _ rfl rfl hr ?_
            have tA : Tn (own2 v1 v2) W W2 := (t1.mono (by simp)).trans (t2.mono (T := own2 v1 v2) (fun x hx => List.mem_append.2 (.inl hx))) (fun x hx => .inl hx)
            refine HK9'.out _ _ ⟨fun _ => HS7.out _ (tA), ?_⟩
            clear HK9' K
            try simp only [Act.put, List.setIfInBounds_toArray, List.set_cons_zero, List.set_cons_succ]
            refine wpAnyM_take (i := 11) [] (oi := { dst := some 39, op := Op.fieldAddr 107 (Operand.tmp 6) 0, type := 0, pos := _, after := #[{ on := 0, ground := Ground.phase }, { on := 1, ground := Ground.phase }, { on := 2, ground := Ground.phase }, { on := 3, ground := Ground.phase }, { on := 4, ground := Ground.phase }, { on := 5, ground := Ground.phase }, { on := 6, ground := Ground.phase }, { on := 7, ground := Ground.phase }, { on := 8, ground := Ground.textOnly Departure.lateStores }, { on := 9, ground := Ground.textOnly Departure.lateStores }, { on := 10, ground := Ground.textOnly Departure.lateStoresUnsure }], guard := none }) (v := .pointer (some ⟨w.heap.size + 2, 0, none⟩)) rfl (by kernel_rfl) (by kernel_rfl) (by kernel_rfl) (by kernel_rfl) (fun _ _ _ h => h) (Or.inl ⟨by rfl, ?_⟩) (HS7.out _ tA) ?_
            · (intro w' hSw; go_simp; try with_reducible rfl)
            try simp only [Act.put, List.setIfInBounds_toArray, List.set_cons_zero, List.set_cons_succ]
            refine wpAnyM_ready (rs := [9]) (by kernel_rfl) (by simp) ?_
            refine AllReadyM.cons (o := { dst := some 37, op := Op.buildSlice 32 1 #[(0, Operand.tmp 36)], type := 32, pos := _, after := #[{ on := 8, ground := Ground.data }], guard := none }) rfl (fun K hK => ?_) AllReadyM.nil
            have HK9' : Hid (∀ a w, _ → K a w) := hK
            clear hK
            go_simp
            have t3 : Tn [] W2 (W2.alloc (.cells #[.int .i64 s, .int .i64 g] 36)) := (Tn.refl _ _).alloc _
            have tB : Tn (own2 v1 v2) W (W2.alloc (.cells #[.int .i64 s, .int .i64 g] 36)) := tA.trans t3 (by simp)
            refine HK9'.out _ _ ⟨fun _ => HS7.out _ (tB), ?_⟩
            clear HK9' K
            try simp only [Act.put, List.setIfInBounds_toArray, List.set_cons_zero, List.set_cons_succ]
            refine wpAnyM_ready (rs := [10]) (by kernel_rfl) (by simp) ?_
            refine AllReadyM.cons (o := { dst := some 38, op := Op.call { callee := Callee.builtin Builtin.append, args := #[Operand.tmp 35, Operand.tmp 37], argTypes := #[32, 32] }, type := 32, pos := _, after := #[{ on := 7, ground := Ground.data }, { on := 9, ground := Ground.data }, { on := 5, ground := Ground.chain }], guard := none }) rfl (fun K hK => ?_) AllReadyM.nil
            have HK9' : Hid (∀ a w, _ → K a w) := hK
            clear hK
            have o2W : Own Hd.cells 2 36 W2 (w.heap.size + 3) v2 vb := (HO2.out.tn t1 (by simp)).tn t2 (fun b hb hm => HF.out.1.two.ne b (by simpa [opt_toList] using hm) hb)
            obtain ⟨v2', W4, hr, o2', t4, k2⟩ := app_entryB hdK Try.underlying32 hdinfo rfl (y := (s, g)) (E := W2.heap.size) (o2W.tn t3 (by simp)) (els_one hdK W2 _ (s, g)) (Nat.le_trans HZW.out tB.size) (by have := HNX.out; unfold maxLen; omega) (by have := HNX.out; omega)
            refine step_appH rfl _ _ _ rfl _ _ rfl rfl hr ?_
            have HG : Hid (Grew (w.heap.size + 3) W W4 v1 v2 v1' v2' (va ++ [x.ver]) (vb ++ [(s, g)])) := grew_end HF.out.1.two t1 o1' t2 k1 t3 o2' t4 k2
            refine HK9'.out _ _ ⟨fun _ => HS7.out _ (HG.out.tn), ?_⟩
            clear HK9' K
            try simp only [Act.put, List.setIfInBounds_toArray, List.set_cons_zero, List.set_cons_succ]
            obtain ⟨q1, n1, d1, hq1⟩ : ∃ p n c, v1' = .slice p n c := by obtain ⟨p, c, hv, -⟩ := HG.out.two.o1.els vknd; exact ⟨_, _, _, hv⟩
            obtain ⟨q2, n2, d2, hq2⟩ : ∃ p n c, v2' = .slice p n c := by obtain ⟨p, c, hv, -⟩ := HG.out.two.o2.els hdK; exact ⟨_, _, _, hv⟩
            subst hq1 hq2
            have hS4 := HS7.out _ HG.out.tn
            refine wpAnyM_ready (rs := [12]) (by kernel_rfl) (by simp) ?_
            refine AllReadyM.cons (o := { dst := none, op := Op.store 46 (Operand.tmp 39) (Operand.tmp 33), type := 0, pos := _, after := #[{ on := 11, ground := Ground.data }, { on := 5, ground := Ground.data }, { on := 10, ground := Ground.chain }, { on := 0, ground := Ground.phase }, { on := 1, ground := Ground.phase }, { on := 2, ground := Ground.phase }, { on := 3, ground := Ground.phase }, { on := 4, ground := Ground.phase }, { on := 5, ground := Ground.phase }, { on := 6, ground := Ground.phase }, { on := 7, ground := Ground.phase }, { on := 8, ground := Ground.textOnly Departure.lateStores }, { on := 9, ground := Ground.textOnly Departure.lateStores }, { on := 10, ground := Ground.textOnly Departure.lateStoresUnsure }], guard := none }) rfl (fun K hK => ?_) AllReadyM.nil
            have HK9' : Hid (∀ a w, _ → K a w) := hK
            clear hK
            obtain ⟨m0, m1, -, -, -, -, -⟩ := hS4
            have kF4 := HF.out.1.kF.tn HG.out.tn (fun hm => by have := (HF.out.1.two.lt _ hm).1; omega)
            have fz0 : W4.frozen? ⟨w.heap.size + 2, 0, none⟩ = false := kF4.frozen 0
            have fz1 : W4.frozen? ⟨w.heap.size + 2, 1, none⟩ = false := kF4.frozen 1
            clear kF4
            go_simp
            refine HK9'.out _ _ ⟨fun h => absurd h (by omega), ?_⟩
            clear HK9' K
            try simp only [Act.put, List.setIfInBounds_toArray, List.set_cons_zero, List.set_cons_succ]
            refine wpAnyM_ready (rs := [13]) (by kernel_rfl) (by simp) ?_
            refine AllReadyM.cons (o := { dst := some 40, op := Op.fieldAddr 107 (Operand.tmp 6) 1, type := 0, pos := _, after := #[{ on := 0, ground := Ground.phase }, { on := 1, ground := Ground.phase }, { on := 2, ground := Ground.phase }, { on := 3, ground := Ground.phase }, { on := 4, ground := Ground.phase }, { on := 5, ground := Ground.phase }, { on := 6, ground := Ground.phase }, { on := 7, ground := Ground.phase }, { on := 8, ground := Ground.phase }, { on := 9, ground := Ground.phase }, { on := 10, ground := Ground.phase }, { on := 11, ground := Ground.phase }, { on := 12, ground := Ground.phase }], guard := none }) rfl (fun K hK => ?_) AllReadyM.nil
            have HK9' : Hid (∀ a w, _ → K a w) := hK
            clear hK
            go_simp
            refine HK9'.out _ _ ⟨fun h => absurd h (by omega), ?_⟩
            clear HK9' K
            try simp only [Act.put, List.setIfInBounds_toArray, List.set_cons_zero, List.set_cons_succ]
            refine wpAnyM_ready (rs := [14]) (by kernel_rfl) (by simp) ?_
            refine AllReadyM.cons (o := { dst := none, op := Op.store 32 (Operand.tmp 40) (Operand.tmp 38), type := 0, pos := _, after := #[{ on := 13, ground := Ground.data }, { on := 10, ground := Ground.data }, { on := 12, ground := Ground.chain }, { on := 0, ground := Ground.phase }, { on := 1, ground := Ground.phase }, { on := 2, ground := Ground.phase }, { on := 3, ground := Ground.phase }, { on := 4, ground := Ground.phase }, { on := 5, ground := Ground.phase }, { on := 6, ground := Ground.phase }, { on := 7, ground := Ground.phase }, { on := 8, ground := Ground.phase }, { on := 9, ground := Ground.phase }, { on := 10, ground := Ground.phase }, { on := 11, ground := Ground.phase }, { on := 12, ground := Ground.phase }], guard := none }) rfl (fun K hK => ?_) AllReadyM.nil
            have HK9' : Hid (∀ a w, _ → K a w) := hK
            clear hK
            go_simp
            refine HK9'.out _ _ ⟨fun h => absurd h (by omega), ?_⟩
            clear HK9' K
            try simp only [Act.put, List.setIfInBounds_toArray, List.set_cons_zero, List.set_cons_succ]
            refine wpAnyM_done (by kernel_rfl) ?_ _
            obtain ⟨W6, hW6⟩ : ∃ W6, (W4.setCell ⟨w.heap.size + 2, 0, none⟩ (.slice q1 n1 d1)).setCell ⟨w.heap.size + 2, 1, none⟩ (.slice q2 n2 d2) = W6 := ⟨_, rfl⟩
            have H6 : Hid (ChS w W6 A (.slice q1 n1 d1) (.slice q2 n2 d2) (va ++ [x.ver]) (vb ++ [(s, g)]) s g ∧ Bk W6 X 97 #[.int .i64 x.ts, .string x.val, .bool x.del, .int .i64 x.s, .int .i64 x.g]) := HF.out.1.grown HF.out.2.1 HF.out.2.2.1 HF.out.2.2.2.1 HG.out hW6.symm
            rw [hW6]
            clear hW6 HG m0 m1 fz0 fz1
            have c3 : W6.cell? ⟨X, 3, none⟩ = some (.int .i64 x.s) := H6.out.2.cell 3
            have c4 : W6.cell? ⟨X, 4, none⟩ = some (.int .i64 x.g) := H6.out.2.cell 4
            have a0 : W6.cell? ⟨A, 0, none⟩ = some (.int .i64 s) := H6.out.1.kA.cell 0
            have a1 : W6.cell? ⟨A, 1, none⟩ = some (.int .i64 g) := H6.out.1.kA.cell 1
            have g0 : W6.frozen? ⟨A, 0, none⟩ = false := H6.out.1.kA.frozen 0
            have g1 : W6.frozen? ⟨A, 1, none⟩ = false := H6.out.1.kA.frozen 1
            obtain ⟨W8, hW8⟩ : ∃ W8, ((W6.setCell ⟨A, 0, none⟩ (.int .i64 x.s)).setCell ⟨A, 1, none⟩ (.int .i64 x.g)).alloc (.cells #[.int .i64 x.s, .int .i64 x.g] 36) = W8 := ⟨_, rfl⟩
            have H8 : Hid (ChS w W8 W6.heap.size (.slice q1 n1 d1) (.slice q2 n2 d2) (va ++ [x.ver]) (vb ++ [(s, g)]) x.s x.g) := H6.out.1.next hW8.symm
            go_wp2
            go_roundw
            case rel => exact ⟨j + 1, W6.heap.size, _, _, HNX.out.2.2.2.2.2.2, rfl, by unfold Hid; rw [HNX.out.1, HNX.out.2.1, HNX.out.2.2.1, HNX.out.2.2.2.1]; exact H8.out⟩
            case measure =>
              rw [H8.out.len, HS.out.len, List.length_append, List.length_singleton]
              have := HNX.out
              omega
          · have HK9' : Hid (∀ a w, _ → K a w) := hK
            clear hK
            go_simp
            have t3 : Tn [] W ((W.drew.alloc (.cells #[.int .i64 x.ts, .string x.val, .bool x.del] 34)).alloc (.cells #[.int .i64 s, .int .i64 g] 36)) := t1.alloc _
            refine HK9'.out _ _ ⟨fun _ => HS7.out _ (t3.mono (by simp)), ?_⟩
            clear HK9' K
            try simp only [Act.put, List.setIfInBounds_toArray, List.set_cons_zero, List.set_cons_succ]
            refine wpAnyM_ready (rs := [5]) (by kernel_rfl) (by simp) ?_
            refine AllReadyM.cons (o := { dst := some 33, op := Op.call { callee := Callee.builtin Builtin.append, args := #[Operand.tmp 29, Operand.tmp 32], argTypes := #[46, 46] }, type := 46, pos := _, after := #[{ on := 1, ground := Ground.data }, { on := 4, ground := Ground.data }], guard := none }) rfl (fun K hK => ?_) AllReadyM.nil
            have HK9' : Hid (∀ a w, _ → K a w) := hK
            clear hK
            have hent : Els Vs.cells 3 ((W.drew.alloc (.cells #[.int .i64 x.ts, .string x.val, .bool x.del] 34)).alloc (.cells #[.int .i64 s, .int .i64 g] 36)) (some ⟨W.heap.size, 0, none⟩) [x.ver] := Els.below (els_one vknd W.drew _ x.ver) ((Below.refl _ _).alloc (Nat.le_refl _) _) (Nat.le_refl _)
            obtain ⟨v1', W2, hr, o1', t2, k1⟩ := app_entryB vknd Try.underlying46 vinfo rfl (y := x.ver) (E := W.heap.size) (HO1.out.tn t3 (by simp)) hent (Nat.le_trans HZW.out t3.size) (by have := HNX.out; unfold maxLen; omega) (by have := HNX.out; omega)
            refine step_appH rfl _ _ _ rfl _ _ rfl rfl hr ?_
            have tA : Tn (own2 v1 v2) W W2 := (t3.mono (by simp)).trans (t2.mono (T := own2 v1 v2) (fun x hx => List.mem_append.2 (.inl hx))) (fun x hx => .inl hx)
            refine HK9'.out _ _ ⟨fun _ => HS7.out _ (tA), ?_⟩
            clear HK9' K
            try simp only [Act.put, List.setIfInBounds_toArray, List.set_cons_zero, List.set_cons_succ]
            refine wpAnyM_take (i := 11) [] (oi := { dst := some 39, op := Op.fieldAddr 107 (Operand.tmp 6) 0, type := 0, pos := _, after := #[{ on := 0, ground := Ground.phase }, { on := 1, ground := Ground.phase }, { on := 2, ground := Ground.phase }, { on := 3, ground := Ground.phase }, { on := 4, ground := Ground.phase }, { on := 5, ground := Ground.phase }, { on := 6, ground := Ground.phase }, { on := 7, ground := Ground.phase }, { on := 8, ground := Ground.textOnly Departure.lateStores }, { on := 9, ground := Ground.textOnly Departure.lateStores }, { on := 10, ground := Ground.textOnly Departure.lateStoresUnsure }], guard := none }) (v := .pointer (some ⟨w.heap.size + 2, 0, none⟩)) rfl (by kernel_rfl) (by kernel_rfl) (by kernel_rfl) (by kernel_rfl) (fun _ _ _ h => h) (Or.inl ⟨by rfl, ?_⟩) (HS7.out _ tA) ?_
            · (intro w' hSw; go_simp; try with_reducible rfl)
            try simp only [Act.put, List.setIfInBounds_toArray, List.set_cons_zero, List.set_cons_succ]
            refine wpAnyM_ready (rs := [10]) (by kernel_rfl) (by simp) ?_
            refine AllReadyM.cons (o := { dst := some 38, op := Op.call { callee := Callee.builtin Builtin.append, args := #[Operand.tmp 35, Operand.tmp 37], argTypes := #[32, 32] }, type := 32, pos := _, after := #[{ on := 7, ground := Ground.data }, { on := 9, ground := Ground.data }, { on := 5, ground := Ground.chain }], guard := none }) rfl (fun K hK => ?_) AllReadyM.nil
            have HK9' : Hid (∀ a w, _ → K a w) := hK
            clear hK
            have o2W : Own Hd.cells 2 36 W2 (w.heap.size + 3) v2 vb := (HO2.out.tn t3 (by simp)).tn t2 (fun b hb hm => HF.out.1.two.ne b (by simpa [opt_toList] using hm) hb)
            have hent2 : Els Hd.cells 2 W2 (some ⟨W.heap.size + 1, 0, none⟩) [(s, g)] := by
              have h1 := els_one hdK (W.drew.alloc (.cells #[.int .i64 x.ts, .string x.val, .bool x.del] 34)) 36 (s, g)
              have h2 : (W.drew.alloc (.cells #[.int .i64 x.ts, .string x.val, .bool x.del] 34)).heap.size = W.heap.size + 1 := by simp
              rw [h2] at h1
              exact Els.tn h1 t2 (fun b o hb hm => by cases hb; have := (HF.out.1.two.o1.blk (b := W.heap.size + 1) (by simpa [opt_toList] using hm)).2; omega)
            obtain ⟨v2', W4, hr, o2', t4, k2⟩ := app_entryB hdK Try.underlying32 hdinfo rfl (y := (s, g)) (E := W.heap.size + 1) o2W hent2 (Nat.le_trans HZW.out tA.size) (by have := HNX.out; unfold maxLen; omega) (by have := HNX.out; omega)
            refine step_appH rfl _ _ _ rfl _ _ rfl rfl hr ?_
            have HG : Hid (Grew (w.heap.size + 3) W W4 v1 v2 v1' v2' (va ++ [x.ver]) (vb ++ [(s, g)])) := grew_end HF.out.1.two t3 o1' t2 k1 (Tn.refl [] W2) o2' t4 k2
            refine HK9'.out _ _ ⟨fun _ => HS7.out _ (HG.out.tn), ?_⟩
            clear HK9' K
            try simp only [Act.put, List.setIfInBounds_toArray, List.set_cons_zero, List.set_cons_succ]
            obtain ⟨q1, n1, d1, hq1⟩ : ∃ p n c, v1' = .slice p n c := by obtain ⟨p, c, hv, -⟩ := HG.out.two.o1.els vknd; exact ⟨_, _, _, hv⟩
            obtain ⟨q2, n2, d2, hq2⟩ : ∃ p n c, v2' = .slice p n c := by obtain ⟨p, c, hv, -⟩ := HG.out.two.o2.els hdK; exact ⟨_, _, _, hv⟩
            subst hq1 hq2
            have hS4 := HS7.out _ HG.out.tn
            refine wpAnyM_ready (rs := [12]) (by kernel_rfl) (by simp) ?_
            refine AllReadyM.cons (o := { dst := none, op := Op.store 46 (Operand.tmp 39) (Operand.tmp 33), type := 0, pos := _, after := #[{ on := 11, ground := Ground.data }, { on := 5, ground := Ground.data }, { on := 10, ground := Ground.chain }, { on := 0, ground := Ground.phase }, { on := 1, ground := Ground.phase }, { on := 2, ground := Ground.phase }, { on := 3, ground := Ground.phase }, { on := 4, ground := Ground.phase }, { on := 5, ground := Ground.phase }, { on := 6, ground := Ground.phase }, { on := 7, ground := Ground.phase }, { on := 8, ground := Ground.textOnly Departure.lateStores }, { on := 9, ground := Ground.textOnly Departure.lateStores }, { on := 10, ground := Ground.textOnly Departure.lateStoresUnsure }], guard := none }) rfl (fun K hK => ?_) AllReadyM.nil
            have HK9' : Hid (∀ a w, _ → K a w) := hK
            clear hK
            obtain ⟨m0, m1, -, -, -, -, -⟩ := hS4
            have kF4 := HF.out.1.kF.tn HG.out.tn (fun hm => by have := (HF.out.1.two.lt _ hm).1; omega)
            have fz0 : W4.frozen? ⟨w.heap.size + 2, 0, none⟩ = false := kF4.frozen 0
            have fz1 : W4.frozen? ⟨w.heap.size + 2, 1, none⟩ = false := kF4.frozen 1
            clear kF4
            go_simp
            refine HK9'.out _ _ ⟨fun h => absurd h (by omega), ?_⟩
            clear HK9' K
            try simp only [Act.put, List.setIfInBounds_toArray, List.set_cons_zero, List.set_cons_succ]
            refine wpAnyM_ready (rs := [13]) (by kernel_rfl) (by simp) ?_
            refine AllReadyM.cons (o := { dst := some 40, op := Op.fieldAddr 107 (Operand.tmp 6) 1, type := 0, pos := _, after := #[{ on := 0, ground := Ground.phase }, { on := 1, ground := Ground.phase }, { on := 2, ground := Ground.phase }, { on := 3, ground := Ground.phase }, { on := 4, ground := Ground.phase }, { on := 5, ground := Ground.phase }, { on := 6, ground := Ground.phase }, { on := 7, ground := Ground.phase }, { on := 8, ground := Ground.phase }, { on := 9, ground := Ground.phase }, { on := 10, ground := Ground.phase }, { on := 11, ground := Ground.phase }, { on := 12, ground := Ground.phase }], guard := none }) rfl (fun K hK => ?_) AllReadyM.nil
            have HK9' : Hid (∀ a w, _ → K a w) := hK
            clear hK
            go_simp
            refine HK9'.out _ _ ⟨fun h => absurd h (by omega), ?_⟩
            clear HK9' K
            try simp only [Act.put, List.setIfInBounds_toArray, List.set_cons_zero, List.set_cons_succ]
            refine wpAnyM_ready (rs := [14]) (by kernel_rfl) (by simp) ?_
            refine AllReadyM.cons (o := { dst := none, op := Op.store 32 (Operand.tmp 40) (Operand.tmp 38), type := 0, pos := _, after := #[{ on := 13, ground := Ground.data }, { on := 10, ground := Ground.data }, { on := 12, ground := Ground.chain }, { on := 0, ground := Ground.phase }, { on := 1, ground := Ground.phase }, { on := 2, ground := Ground.phase }, { on := 3, ground := Ground.phase }, { on := 4, ground := Ground.phase }, { on := 5, ground := Ground.phase }, { on := 6, ground := Ground.phase }, { on := 7, ground := Ground.phase }, { on := 8, ground := Ground.phase }, { on := 9, ground := Ground.phase }, { on := 10, ground := Ground.phase }, { on := 11, ground := Ground.phase }, { on := 12, ground := Ground.phase }], guard := none }) rfl (fun K hK => ?_) AllReadyM.nil
            have HK9' : Hid (∀ a w, _ → K a w) := hK
            clear hK
            go_simp
            refine HK9'.out _ _ ⟨fun h => absurd h (by omega), ?_⟩
            clear HK9' K
            try simp only [Act.put, List.setIfInBounds_toArray, List.set_cons_zero, List.set_cons_succ]
            refine wpAnyM_done (by kernel_rfl) ?_ _
            obtain ⟨W6, hW6⟩ : ∃ W6, (W4.setCell ⟨w.heap.size + 2, 0, none⟩ (.slice q1 n1 d1)).setCell ⟨w.heap.size + 2, 1, none⟩ (.slice q2 n2 d2) = W6 := ⟨_, rfl⟩
            have H6 : Hid (ChS w W6 A (.slice q1 n1 d1) (.slice q2 n2 d2) (va ++ [x.ver]) (vb ++ [(s, g)]) s g ∧ Bk W6 X 97 #[.int .i64 x.ts, .string x.val, .bool x.del, .int .i64 x.s, .int .i64 x.g]) := HF.out.1.grown HF.out.2.1 HF.out.2.2.1 HF.out.2.2.2.1 HG.out hW6.symm
            rw [hW6]
            clear hW6 HG m0 m1 fz0 fz1
            have c3 : W6.cell? ⟨X, 3, none⟩ = some (.int .i64 x.s) := H6.out.2.cell 3
            have c4 : W6.cell? ⟨X, 4, none⟩ = some (.int .i64 x.g) := H6.out.2.cell 4
            have a0 : W6.cell? ⟨A, 0, none⟩ = some (.int .i64 s) := H6.out.1.kA.cell 0
            have a1 : W6.cell? ⟨A, 1, none⟩ = some (.int .i64 g) := H6.out.1.kA.cell 1
            have g0 : W6.frozen? ⟨A, 0, none⟩ = false := H6.out.1.kA.frozen 0
            have g1 : W6.frozen? ⟨A, 1, none⟩ = false := H6.out.1.kA.frozen 1
            obtain ⟨W8, hW8⟩ : ∃ W8, ((W6.setCell ⟨A, 0, none⟩ (.int .i64 x.s)).setCell ⟨A, 1, none⟩ (.int .i64 x.g)).alloc (.cells #[.int .i64 x.s, .int .i64 x.g] 36) = W8 := ⟨_, rfl⟩
            have H8 : Hid (ChS w W8 W6.heap.size (.slice q1 n1 d1) (.slice q2 n2 d2) (va ++ [x.ver]) (vb ++ [(s, g)]) x.s x.g) := H6.out.1.next hW8.symm
            go_wp2
            go_roundw
            case rel => exact ⟨j + 1, W6.heap.size, _, _, HNX.out.2.2.2.2.2.2, rfl, by unfold Hid; rw [HNX.out.1, HNX.out.2.1, HNX.out.2.2.1, HNX.out.2.2.2.1]; exact H8.out⟩
            case measure =>
              rw [H8.out.len, HS.out.len, List.length_append, List.length_singleton]
              have := HNX.out
              omega
        · have HK9' : Hid (∀ a w, _ → K a w) := hK
          clear hK
          go_simp
          have t1 : Tn [] W (W.drew.alloc (.cells #[.int .i64 s, .int .i64 g] 36)) := tD.alloc _
          refine HK9'.out _ _ ⟨fun _ => HS7.out _ (t1.mono (by simp)), ?_⟩
          clear HK9' K
          try simp only [Act.put, List.setIfInBounds_toArray, List.set_cons_zero, List.set_cons_succ]
          refine wpAnyM_ready (rs := [4]) (by kernel_rfl) (by simp) ?_
          refine AllReadyM.cons (o := { dst := some 32, op := Op.buildSlice 46 1 #[(0, Operand.tmp 31)], type := 46, pos := _, after := #[{ on := 3, ground := Ground.data }], guard := none }) rfl (fun K hK => ?_) AllReadyM.nil
          have HK9' : Hid (∀ a w, _ → K a w) := hK
          clear hK
          go_simp
          have t3 : Tn [] W ((W.drew.alloc (.cells #[.int .i64 s, .int .i64 g] 36)).alloc (.cells #[.int .i64 x.ts, .string x.val, .bool x.del] 34)) := t1.alloc _
          refine HK9'.out _ _ ⟨fun _ => HS7.out _ (t3.mono (by simp)), ?_⟩
          clear HK9' K
          try simp only [Act.put, List.setIfInBounds_toArray, List.set_cons_zero, List.set_cons_succ]
          refine wpAnyM_ready (rs := [5]) (by kernel_rfl) (by simp) ?_
          refine AllReadyM.cons (o := { dst := some 33, op := Op.call { callee := Callee.builtin Builtin.append, args := #[Operand.tmp 29, Operand.tmp 32], argTypes := #[46, 46] }, type := 46, pos := _, after := #[{ on := 1, ground := Ground.data }, { on := 4, ground := Ground.data }], guard := none }) rfl (fun K hK => ?_) AllReadyM.nil
          have HK9' : Hid (∀ a w, _ → K a w) := hK
          clear hK
          have hent : Els Vs.cells 3 ((W.drew.alloc (.cells #[.int .i64 s, .int .i64 g] 36)).alloc (.cells #[.int .i64 x.ts, .string x.val, .bool x.del] 34)) (some ⟨W.heap.size + 1, 0, none⟩) [x.ver] := by
            have h1 := els_one vknd (W.drew.alloc (.cells #[.int .i64 s, .int .i64 g] 36)) 34 x.ver
            have h2 : (W.drew.alloc (.cells #[.int .i64 s, .int .i64 g] 36)).heap.size = W.heap.size + 1 := by simp
            rw [h2] at h1
            exact h1
          obtain ⟨v1', W2, hr, o1', t2, k1⟩ := app_entryB vknd Try.underlying46 vinfo rfl (y := x.ver) (E := W.heap.size + 1) (HO1.out.tn t3 (by simp)) hent (Nat.le_trans HZW.out t3.size) (by have := HNX.out; unfold maxLen; omega) (by have := HNX.out; omega)
          refine step_appH rfl _ _ _ rfl _ _ rfl rfl hr ?_
          have tA : Tn (own2 v1 v2) W W2 := (t3.mono (by simp)).trans (t2.mono (T := own2 v1 v2) (fun x hx => List.mem_append.2 (.inl hx))) (fun x hx => .inl hx)
          refine HK9'.out _ _ ⟨fun _ => HS7.out _ (tA), ?_⟩
          clear HK9' K
          try simp only [Act.put, List.setIfInBounds_toArray, List.set_cons_zero, List.set_cons_succ]
          refine wpAnyM_take (i := 11) [] (oi := { dst := some 39, op := Op.fieldAddr 107 (Operand.tmp 6) 0, type := 0, pos := _, after := #[{ on := 0, ground := Ground.phase }, { on := 1, ground := Ground.phase }, { on := 2, ground := Ground.phase }, { on := 3, ground := Ground.phase }, { on := 4, ground := Ground.phase }, { on := 5, ground := Ground.phase }, { on := 6, ground := Ground.phase }, { on := 7, ground := Ground.phase }, { on := 8, ground := Ground.textOnly Departure.lateStores }, { on := 9, ground := Ground.textOnly Departure.lateStores }, { on := 10, ground := Ground.textOnly Departure.lateStoresUnsure }], guard := none }) (v := .pointer (some ⟨w.heap.size + 2, 0, none⟩)) rfl (by kernel_rfl) (by kernel_rfl) (by kernel_rfl) (by kernel_rfl) (fun _ _ _ h => h) (Or.inl ⟨by rfl, ?_⟩) (HS7.out _ tA) ?_
          · (intro w' hSw; go_simp; try with_reducible rfl)
          try simp only [Act.put, List.setIfInBounds_toArray, List.set_cons_zero, List.set_cons_succ]
          refine wpAnyM_ready (rs := [10]) (by kernel_rfl) (by simp) ?_
          refine AllReadyM.cons (o := { dst := some 38, op := Op.call { callee := Callee.builtin Builtin.append, args := #[Operand.tmp 35, Operand.tmp 37], argTypes := #[32, 32] }, type := 32, pos := _, after := #[{ on := 7, ground := Ground.data }, { on := 9, ground := Ground.data }, { on := 5, ground := Ground.chain }], guard := none }) rfl (fun K hK => ?_) AllReadyM.nil
          have HK9' : Hid (∀ a w, _ → K a w) := hK
          clear hK
          have o2W : Own Hd.cells 2 36 W2 (w.heap.size + 3) v2 vb := (HO2.out.tn t3 (by simp)).tn t2 (fun b hb hm => HF.out.1.two.ne b (by simpa [opt_toList] using hm) hb)
          have hent2 : Els Hd.cells 2 W2 (some ⟨W.heap.size, 0, none⟩) [(s, g)] := Els.tn (Els.below (els_one hdK W.drew 36 (s, g)) ((Below.refl _ _).alloc (Nat.le_refl _) (.cells #[.int .i64 x.ts, .string x.val, .bool x.del] 34)) (Nat.le_refl _)) t2 (fun b o hb hm => by cases hb; have := (HF.out.1.two.o1.blk (b := W.heap.size) (by simpa [opt_toList] using hm)).2; omega)
          obtain ⟨v2', W4, hr, o2', t4, k2⟩ := app_entryB hdK Try.underlying32 hdinfo rfl (y := (s, g)) (E := W.heap.size) o2W hent2 (Nat.le_trans HZW.out tA.size) (by have := HNX.out; unfold maxLen; omega) (by have := HNX.out; omega)
          refine step_appH rfl _ _ _ rfl _ _ rfl rfl hr ?_
          have HG : Hid (Grew (w.heap.size + 3) W W4 v1 v2 v1' v2' (va ++ [x.ver]) (vb ++ [(s, g)])) := grew_end HF.out.1.two t3 o1' t2 k1 (Tn.refl [] W2) o2' t4 k2
          refine HK9'.out _ _ ⟨fun _ => HS7.out _ (HG.out.tn), ?_⟩
          clear HK9' K
          try simp only [Act.put, List.setIfInBounds_toArray, List.set_cons_zero, List.set_cons_succ]
          obtain ⟨q1, n1, d1, hq1⟩ : ∃ p n c, v1' = .slice p n c := by obtain ⟨p, c, hv, -⟩ := HG.out.two.o1.els vknd; exact ⟨_, _, _, hv⟩
          obtain ⟨q2, n2, d2, hq2⟩ : ∃ p n c, v2' = .slice p n c := by obtain ⟨p, c, hv, -⟩ := HG.out.two.o2.els hdK; exact ⟨_, _, _, hv⟩
          subst hq1 hq2
          have hS4 := HS7.out _ HG.out.tn
          refine wpAnyM_ready (rs := [12]) (by kernel_rfl) (by simp) ?_
          refine AllReadyM.cons (o := { dst := none, op := Op.store 46 (Operand.tmp 39) (Operand.tmp 33), type := 0, pos := _, after := #[{ on := 11, ground := Ground.data }, { on := 5, ground := Ground.data }, { on := 10, ground := Ground.chain }, { on := 0, ground := Ground.phase }, { on := 1, ground := Ground.phase }, { on := 2, ground := Ground.phase }, { on := 3, ground := Ground.phase }, { on := 4, ground := Ground.phase }, { on := 5, ground := Ground.phase }, { on := 6, ground := Ground.phase }, { on := 7, ground := Ground.phase }, { on := 8, ground := Ground.textOnly Departure.lateStores }, { on := 9, ground := Ground.textOnly Departure.lateStores }, { on := 10, ground := Ground.textOnly Departure.lateStoresUnsure }], guard := none }) rfl (fun K hK => ?_) AllReadyM.nil
          have HK9' : Hid (∀ a w, _ → K a w) := hK
          clear hK
          obtain ⟨m0, m1, -, -, -, -, -⟩ := hS4
          have kF4 := HF.out.1.kF.tn HG.out.tn (fun hm => by have := (HF.out.1.two.lt _ hm).1; omega)
          have fz0 : W4.frozen? ⟨w.heap.size + 2, 0, none⟩ = false := kF4.frozen 0
          have fz1 : W4.frozen? ⟨w.heap.size + 2, 1, none⟩ = false := kF4.frozen 1
          clear kF4
          go_simp
          refine HK9'.out _ _ ⟨fun h => absurd h (by omega), ?_⟩
          clear HK9' K
          try simp only [Act.put, List.setIfInBounds_toArray, List.set_cons_zero, List.set_cons_succ]
          refine wpAnyM_ready (rs := [13]) (by kernel_rfl) (by simp) ?_
          refine AllReadyM.cons (o := { dst := some 40, op := Op.fieldAddr 107 (Operand.tmp 6) 1, type := 0, pos := _, after := #[{ on := 0, ground := Ground.phase }, { on := 1, ground := Ground.phase }, { on := 2, ground := Ground.phase }, { on := 3, ground := Ground.phase }, { on := 4, ground := Ground.phase }, { on := 5, ground := Ground.phase }, { on := 6, ground := Ground.phase }, { on := 7, ground := Ground.phase }, { on := 8, ground := Ground.phase }, { on := 9, ground := Ground.phase }, { on := 10, ground := Ground.phase }, { on := 11, ground := Ground.phase }, { on := 12, ground := Ground.phase }], guard := none }) rfl (fun K hK => ?_) AllReadyM.nil
          have HK9' : Hid (∀ a w, _ → K a w) := hK
          clear hK
          go_simp
          refine HK9'.out _ _ ⟨fun h => absurd h (by omega), ?_⟩
          clear HK9' K
          try simp only [Act.put, List.setIfInBounds_toArray, List.set_cons_zero, List.set_cons_succ]
          refine wpAnyM_ready (rs := [14]) (by kernel_rfl) (by simp) ?_
          refine AllReadyM.cons (o := { dst := none, op := Op.store 32 (Operand.tmp 40) (Operand.tmp 38), type := 0, pos := _, after := #[{ on := 13, ground := Ground.data }, { on := 10, ground := Ground.data }, { on := 12, ground := Ground.chain }, { on := 0, ground := Ground.phase }, { on := 1, ground := Ground.phase }, { on := 2, ground := Ground.phase }, { on := 3, ground := Ground.phase }, { on := 4, ground := Ground.phase }, { on := 5, ground := Ground.phase }, { on := 6, ground := Ground.phase }, { on := 7, ground := Ground.phase }, { on := 8, ground := Ground.phase }, { on := 9, ground := Ground.phase }, { on := 10, ground := Ground.phase }, { on := 11, ground := Ground.phase }, { on := 12, ground := Ground.phase }], guard := none }) rfl (fun K hK => ?_) AllReadyM.nil
          have HK9' : Hid (∀ a w, _ → K a w) := hK
          clear hK
          go_simp
          refine HK9'.out _ _ ⟨fun h => absurd h (by omega), ?_⟩
          clear HK9' K
          try simp only [Act.put, List.setIfInBounds_toArray, List.set_cons_zero, List.set_cons_succ]
          refine wpAnyM_done (by kernel_rfl) ?_ _
          obtain ⟨W6, hW6⟩ : ∃ W6, (W4.setCell ⟨w.heap.size + 2, 0, none⟩ (.slice q1 n1 d1)).setCell ⟨w.heap.size + 2, 1, none⟩ (.slice q2 n2 d2) = W6 := ⟨_, rfl⟩
          have H6 : Hid (ChS w W6 A (.slice q1 n1 d1) (.slice q2 n2 d2) (va ++ [x.ver]) (vb ++ [(s, g)]) s g ∧ Bk W6 X 97 #[.int .i64 x.ts, .string x.val, .bool x.del, .int .i64 x.s, .int .i64 x.g]) := HF.out.1.grown HF.out.2.1 HF.out.2.2.1 HF.out.2.2.2.1 HG.out hW6.symm
          rw [hW6]
          clear hW6 HG m0 m1 fz0 fz1
          have c3 : W6.cell? ⟨X, 3, none⟩ = some (.int .i64 x.s) := H6.out.2.cell 3
          have c4 : W6.cell? ⟨X, 4, none⟩ = some (.int .i64 x.g) := H6.out.2.cell 4
          have a0 : W6.cell? ⟨A, 0, none⟩ = some (.int .i64 s) := H6.out.1.kA.cell 0
          have a1 : W6.cell? ⟨A, 1, none⟩ = some (.int .i64 g) := H6.out.1.kA.cell 1
          have g0 : W6.frozen? ⟨A, 0, none⟩ = false := H6.out.1.kA.frozen 0
          have g1 : W6.frozen? ⟨A, 1, none⟩ = false := H6.out.1.kA.frozen 1
          obtain ⟨W8, hW8⟩ : ∃ W8, ((W6.setCell ⟨A, 0, none⟩ (.int .i64 x.s)).setCell ⟨A, 1, none⟩ (.int .i64 x.g)).alloc (.cells #[.int .i64 x.s, .int .i64 x.g] 36) = W8 := ⟨_, rfl⟩
          have H8 : Hid (ChS w W8 W6.heap.size (.slice q1 n1 d1) (.slice q2 n2 d2) (va ++ [x.ver]) (vb ++ [(s, g)]) x.s x.g) := H6.out.1.next hW8.symm
          go_wp2
          go_roundw
          case rel => exact ⟨j + 1, W6.heap.size, _, _, HNX.out.2.2.2.2.2.2, rfl, by unfold Hid; rw [HNX.out.1, HNX.out.2.1, HNX.out.2.2.1, HNX.out.2.2.2.1]; exact H8.out⟩
          case measure =>
            rw [H8.out.len, HS.out.len, List.length_append, List.length_singleton]
            have := HNX.out
            omega)
    · obtain rfl : j = l.length := by omega
      have h0 := HCD.out l.length (Nat.le_refl _)
      rw [List.drop_length] at h0
      have HSE := HS.out
      rw [h0.1, h0.2, HAL.out.1, HAL.out.2] at HSE
      have HSF : Hid (ChS w wr A v1 v2 (l.map Ln.ver) (hds c2 c3 l) 0 0) := HSE
      obtain ⟨q1, n1, d1, rfl⟩ : ∃ p n c, v1 = .slice p n c := by
        obtain ⟨p, c, hv, -⟩ := HSE.two.o1.els vknd
        exact ⟨_, _, _, hv⟩
      obtain ⟨q2, n2, d2, rfl⟩ : ∃ p n c, v2 = .slice p n c := by
        obtain ⟨p, c, hv, -⟩ := HSE.two.o2.els hdK
        exact ⟨_, _, _, hv⟩
      have a0 : wr.cell? ⟨A, 0, none⟩ = some (.int .i64 0) := HSE.kA.cell 0
      have a1 : wr.cell? ⟨A, 1, none⟩ = some (.int .i64 0) := HSE.kA.cell 1
      have b0 : wr.cell? ⟨w.heap.size + 2, 0, none⟩ = some (.slice q1 n1 d1) := HSE.kF.cell 0
      have b1 : wr.cell? ⟨w.heap.size + 2, 1, none⟩ = some (.slice q2 n2 d2) := HSE.kF.cell 1
      have r0 : wr.cell? ⟨w.heap.size + 1, 0, none⟩ = some (.slice none 0 0) := HSE.kR.cell 0
      have r1 : wr.cell? ⟨w.heap.size + 1, 1, none⟩ = some (.slice none 0 0) := HSE.kR.cell 1
      have g0 : wr.frozen? ⟨w.heap.size + 1, 0, none⟩ = false := HSE.kR.frozen 0
      have g1 : wr.frozen? ⟨w.heap.size + 1, 1, none⟩ = false := HSE.kR.frozen 1
      clear h0 HSE HS hlt hj
      go_wp2
      refine bodyPost_ret (results_ch rfl rfl (by exact (HSF.out.kR.set 0 _).set 1 _)) rfl ?_
      have t9 : Tn [w.heap.size + 1] wr ((wr.setCell ⟨w.heap.size + 1, 0, none⟩ (.slice q1 n1 d1)).setCell ⟨w.heap.size + 1, 1, none⟩ (.slice q2 n2 d2)) := ((Tn.refl _ _).setCell (.inl (by simp)) _).setCell (.inl (by simp)) _
      have hz := HSF.out.size
      have h2 := HSF.out.two.tn t9 (fun x hx => by
        have hx' : x = w.heap.size + 1 := by simpa using hx
        subst hx'
        exact ⟨fun e => by have := (HSF.out.two.lt _ (mem_own2.2 (.inl e))).1; omega, fun e => by have := (HSF.out.two.lt _ (mem_own2.2 (.inr e))).1; omega⟩)
      exact ⟨_, _, rfl, ⟨h2.o1.mono (by omega), h2.o2.mono (by omega), h2.ne⟩, HSF.out.below.trans (t9.below (by omega) (by simp))⟩

end Go.Proofs.Ytbdcdiihaecheaa

namespace Go.Proofs.Ytbdcdiihaecheaa
open Go.RowKit
set_option linter.unusedVariables false
set_option maxRecDepth 100000
set_option linter.unusedSectionVars false
variable [Inhabited Cl] [Inhabited Ln]

variable {m : Nat} {w w1 w2 w' : World} {H cB vB eB : Nat} {cb vb eb : List Nat} {h h' : Hp} {av L L' : List Nat}

theorem hlook_good (hh : Hpn m w H cB vB eB h av) (hS hG : Int) (hg : h.c.Good hS hG) : Calls Try.prog 43 #[.pointer (some ⟨H, 0, none⟩), .agg #[.int .i64 hS, .int .i64 hG]] w fun e w' => e = .returned (.tuple #[(slAt h.c.us hS.toNat).val.v, .int .i64 0]) ∧ Below w.heap.size w w' := by
  obtain ⟨cb, vb, eb, hI⟩ := hh
  exact look_good hI.ptrs.1 hI.c hS hG hg

/-- What a chain's list is. -/
def Lst (w : World) (v : Value) (l : List Vs) : Prop := ∃ p c, v = .slice p l.length c ∧ Vrs w p l ∧ (p = none → l.length = 0 ∧ c = 0)

set_option maxHeartbeats 2000000 in
theorem list_good (hh : Hpn m w H cB vB eB h av) (hS hG : Int) (hg : h.c.Good hS hG) (l : List Ln) (hc : Chn h.v (slAt h.c.us hS.toNat).val.s (slAt h.c.us hS.toNat).val.g l) (hl : l.length ≤ 65536) :
    Calls Try.prog 26 #[.pointer (some ⟨H, 0, none⟩), .agg #[.int .i64 hS, .int .i64 hG]] w fun e w' => ∃ v, e = .returned (.tuple #[v, .bool (slAt h.c.us hS.toNat).val.closed, .int .i64 0]) ∧ Lst w' v (l.map Ln.ver) ∧ Below w.heap.size w w' := by
  obtain ⟨w1, hw1, hz1, hb1, hk1⟩ : ∃ w1, w.alloc (.cells #[.int .i64 hS, .int .i64 hG] 36) = w1 ∧ w1.heap.size = w.heap.size + 1 ∧ Below w.heap.size w w1 ∧ Bk w1 w.heap.size 36 #[.int .i64 hS, .int .i64 hG] := ⟨_, rfl, by simp, (Below.refl _ w).alloc (Nat.le_refl _) _, Bk.new _ _ _⟩
  have a0 : w1.cell? ⟨w.heap.size, 0, none⟩ = some (.int .i64 hS) := hk1.cell 0
  have a1 : w1.cell? ⟨w.heap.size, 1, none⟩ = some (.int .i64 hG) := hk1.cell 1
  have H1 := hh.below hb1
  have HH1 : Hid (Hpn m w1 H cB vB eB h av) := H1
  have HB1 : Hid (Below w.heap.size w w1) := hb1
  obtain ⟨cl, hcl⟩ : ∃ cl, (slAt h.c.us hS.toNat).val = cl := ⟨_, rfl⟩
  have hlook := hlook_good H1 hS hG hg
  rw [hcl] at hc hlook ⊢
  obtain ⟨c1, c2, c3, c4⟩ := cl
  have HLK : Hid (Calls Try.prog 43 #[.pointer (some ⟨H, 0, none⟩), .agg #[.int .i64 hS, .int .i64 hG]] w1 fun e w' => e = .returned (.tuple #[.agg #[.string c1, .int .i64 c2, .int .i64 c3, .bool c4], .int .i64 0]) ∧ Below w1.heap.size w1 w') := hlook
  have HCN : Hid (Chn h.v c2 c3 l) := hc
  clear hh H1 hk1 hb1 hlook hg hcl hc
  go_enter Try.func26, Try.ntmps26
  go_wp2_with fail
  refine HLK.out.mono ?_
  rintro e w2 ⟨rfl, hb2⟩
  obtain ⟨w3, hw3, hz3, hk3⟩ : ∃ w3, w2.alloc (.cells #[.string c1, .int .i64 c2, .int .i64 c3, .bool c4] 93) = w3 ∧ w3.heap.size = w2.heap.size + 1 ∧ Bk w3 w2.heap.size 93 #[.string c1, .int .i64 c2, .int .i64 c3, .bool c4] := ⟨_, rfl, by simp, Bk.new _ _ _⟩
  have hb23 : Below w2.heap.size w2 w3 := by rw [← hw3]; exact (Below.refl _ _).alloc (Nat.le_refl _) _
  have HB3 : Hid (Below w1.heap.size w1 w3) := hb2.trans (hb23.mono hb2.size)
  have HK3 : Hid (Bk w3 w2.heap.size 93 #[.string c1, .int .i64 c2, .int .i64 c3, .bool c4]) := hk3
  have c0' : w3.cell? ⟨w2.heap.size, 0, none⟩ = some (.string c1) := hk3.cell 0
  have c1' : w3.cell? ⟨w2.heap.size, 1, none⟩ = some (.int .i64 c2) := hk3.cell 1
  have c2' : w3.cell? ⟨w2.heap.size, 2, none⟩ = some (.int .i64 c3) := hk3.cell 2
  have c3' : w3.cell? ⟨w2.heap.size, 3, none⟩ = some (.bool c4) := hk3.cell 3
  have HCH : Hid (Calls Try.prog 39 #[.pointer (some ⟨H, 0, none⟩), .agg #[.string c1, .int .i64 c2, .int .i64 c3, .bool c4]] w3 fun e w' => ∃ v1 v2, e = .returned (.tuple #[.agg #[v1, v2], .int .i64 0]) ∧ TwoH w3.heap.size w' v1 v2 (l.map Ln.ver) (hds c2 c3 l) ∧ Below w3.heap.size w3 w') := chain_good (HH1.out.below HB3.out) ⟨c1, c2, c3, c4⟩ l HCN.out hl
  clear hk3 hb2 hb23
  go_wp2_with fail
  refine HCH.out.mono ?_
  rintro e w5 ⟨v1, v2, rfl, htw, hb5⟩
  obtain ⟨q1, n1, d1, rfl, hels, hnil, hn1⟩ : ∃ p n c, v1 = .slice p n c ∧ Vrs w5 p (l.map Ln.ver) ∧ (p = none → n = 0 ∧ c = 0) ∧ (l.map Ln.ver).length = n := by
    obtain ⟨p, c, hv, he, hn, -⟩ := htw.o1.els vknd
    exact ⟨p, _, c, hv, he, hn, rfl⟩
  obtain ⟨q2, n2, d2, rfl⟩ : ∃ p n c, v2 = .slice p n c := by
    obtain ⟨p, c, hv, -⟩ := htw.o2.els hdK
    exact ⟨p, _, c, hv⟩
  have hk5 := HK3.out.tn (Tn.of_below hb5 []) (by simp)
  obtain ⟨w6, hw6, hz6, hk6⟩ : ∃ w6, w5.alloc (.cells #[.slice q1 n1 d1, .slice q2 n2 d2] 107) = w6 ∧ w6.heap.size = w5.heap.size + 1 ∧ Bk w6 w5.heap.size 107 #[.slice q1 n1 d1, .slice q2 n2 d2] := ⟨_, rfl, by simp, Bk.new _ _ _⟩
  have hb56 : Below w5.heap.size w5 w6 := by rw [← hw6]; exact (Below.refl _ _).alloc (Nat.le_refl _) _
  have HL6 : Hid (Vrs w6 q1 (l.map Ln.ver) ∧ (q1 = none → n1 = 0 ∧ d1 = 0) ∧ (l.map Ln.ver).length = n1) := ⟨hels.below hb56 (Nat.le_refl _), hnil, hn1⟩
  have HB6 : Hid (Below w.heap.size w w6) := HB1.out.trans ((HB3.out.trans ((hb5.trans (hb56.mono hb5.size)).mono HB3.out.size)).mono HB1.out.size)
  have hk5' := hk5.tn (Tn.of_below hb56 []) (by simp)
  have e3 : w6.cell? ⟨w2.heap.size, 3, none⟩ = some (.bool c4) := hk5'.cell 3
  have f0 : w6.cell? ⟨w5.heap.size, 0, none⟩ = some (.slice q1 n1 d1) := hk6.cell 0
  clear htw hels hnil hn1 hk5 hk5' hk6 hb5 hb56 c0' c1' c2' c3' HCH HLK
  go_wp2_with fail
  go_quiet (fail)
  go_wp2
  go_ret3
  refine ⟨_, rfl, ⟨q1, d1, ?_, Els.below HL6.out.1 (below_drewN (Below.refl _ _) _) (Nat.le_refl _), ?_⟩, below_drewN HB6.out _⟩
  · rw [HL6.out.2.2]; rfl
  · rw [HL6.out.2.2]; exact HL6.out.2.1

set_option maxHeartbeats 2000000 in
theorem read_good (hh : Hpn m w H cB vB eB h av) (hS hG ts : Int) (hg : h.c.Good hS hG) (l : List Ln) (hc : Chn h.v (slAt h.c.us hS.toNat).val.s (slAt h.c.us hS.toNat).val.g l) (hl : l.length ≤ 65536) :
    Calls Try.prog 15 #[.pointer (some ⟨H, 0, none⟩), .agg #[.int .i64 hS, .int .i64 hG], .int .i64 ts] w fun e w' => e = .returned (.tuple #[((Vr.at? (l.map Ln.ver) ts).getD Vs.zero).v, .bool (Vr.at? (l.map Ln.ver) ts).isSome, .int .i64 0]) ∧ Below w.heap.size w w' := by
  obtain ⟨w2, hw2, hz2, hk1, hk2⟩ : ∃ w2, (w.alloc (.cells #[.int .i64 hS, .int .i64 hG] 36)).alloc (.cells #[.int .i64 0, .string ⟨#[]⟩, .bool false] 34) = w2 ∧ w2.heap.size = w.heap.size + 2 ∧ Bk w2 w.heap.size 36 #[.int .i64 hS, .int .i64 hG] ∧ Bk w2 (w.heap.size + 1) 34 #[.int .i64 0, .string ⟨#[]⟩, .bool false] := ⟨_, rfl, by simp, (Bk.new _ _ _).alloc _, bk_new2 _ _ _ _⟩
  have hb2 : Below w.heap.size w w2 := by rw [← hw2]; exact ((Below.refl _ w).alloc (Nat.le_refl _) _).alloc (by simp) _
  have a0 : w2.cell? ⟨w.heap.size, 0, none⟩ = some (.int .i64 hS) := hk1.cell 0
  have a1 : w2.cell? ⟨w.heap.size, 1, none⟩ = some (.int .i64 hG) := hk1.cell 1
  have HK2 : Hid (Bk w2 (w.heap.size + 1) 34 #[.int .i64 0, .string ⟨#[]⟩, .bool false] ∧ Below w.heap.size w w2) := ⟨hk2, hb2⟩
  obtain ⟨cd, hcd⟩ : ∃ cd, (slAt h.c.us hS.toNat).val.closed = cd := ⟨_, rfl⟩
  have HLI := list_good (hh.below hb2) hS hG hg l hc hl
  rw [hcd] at HLI
  have HL : Hid (Calls Try.prog 26 #[.pointer (some ⟨H, 0, none⟩), .agg #[.int .i64 hS, .int .i64 hG]] w2 fun e w' => ∃ v, e = .returned (.tuple #[v, .bool cd, .int .i64 0]) ∧ Lst w' v (l.map Ln.ver) ∧ Below w2.heap.size w2 w') := HLI
  have hlen : (l.map Ln.ver).length ≤ 65536 := by rw [List.length_map]; exact hl
  generalize l.map Ln.ver = vl at *
  obtain ⟨o, ho⟩ : ∃ o, Vr.at? vl ts = o := ⟨_, rfl⟩
  obtain ⟨⟨o1, o2, o3⟩, hov⟩ : ∃ y, o.getD Vs.zero = y := ⟨_, rfl⟩
  obtain ⟨os, hos⟩ : ∃ b, o.isSome = b := ⟨_, rfl⟩
  have HATG : Hid (∀ (W : World) (p : Option Addr) (n c : Nat), vl.length = n → Vrs W p vl → Calls Try.prog 47 #[.slice p n c, .int .i64 ts] W fun e w' => e = .returned (.tuple #[.agg #[.int .i64 o1, .string o2, .bool o3], .bool os]) ∧ Below W.heap.size W w') := fun W p n c hn he => by
    have := at_any p n c vl ts W hn he (by omega)
    unfold Vr.atV at this
    rw [ho, hov, hos] at this
    exact this
  rw [ho, hov, hos]
  clear ho hov hos
  clear hh hg hc hcd HLI hk1 hk2 hb2
  go_enter Try.func15, Try.ntmps15
  go_wp2_with fail
  refine HL.out.mono ?_
  rintro e w3 ⟨v, rfl, ⟨p, c, rfl, hels, hnil⟩, hb3⟩
  obtain ⟨n, hn⟩ : ∃ n, vl.length = n := ⟨_, rfl⟩
  rw [hn]
  have HA : Hid (Calls Try.prog 47 #[.slice p n c, .int .i64 ts] w3 fun e w' => e = .returned (.tuple #[.agg #[.int .i64 o1, .string o2, .bool o3], .bool os]) ∧ Below w3.heap.size w3 w') := HATG.out w3 p n c hn hels
  have HB3 : Hid (Below w2.heap.size w2 w3) := hb3
  clear hels hnil hb3 hn
  go_wp2_with fail
  refine HA.out.mono ?_
  rintro e w4 ⟨rfl, hb4⟩
  have hb24 : Below w2.heap.size w2 w4 := HB3.out.trans (hb4.mono HB3.out.size)
  obtain ⟨w5, hw5, hk5⟩ : ∃ w5, w4.alloc (.cells #[.int .i64 o1, .string o2, .bool o3] 34) = w5 ∧ Bk w5 w4.heap.size 34 #[.int .i64 o1, .string o2, .bool o3] := ⟨_, rfl, Bk.new _ _ _⟩
  have hb25 : Below w2.heap.size w2 w5 := by rw [← hw5]; exact hb24.alloc hb24.size _
  have HR5 : Hid (Bk w5 (w.heap.size + 1) 34 #[.int .i64 0, .string ⟨#[]⟩, .bool false] ∧ Below w.heap.size w w5) := ⟨HK2.out.1.tn (Tn.of_below hb25 []) (by simp), HK2.out.2.trans (hb25.mono HK2.out.2.size)⟩
  have x0 : w5.cell? ⟨w4.heap.size, 0, none⟩ = some (.int .i64 o1) := hk5.cell 0
  have x1 : w5.cell? ⟨w4.heap.size, 1, none⟩ = some (.string o2) := hk5.cell 1
  have x2 : w5.cell? ⟨w4.heap.size, 2, none⟩ = some (.bool o3) := hk5.cell 2
  have y0 : w5.cell? ⟨w.heap.size + 1, 0, none⟩ = some (.int .i64 0) := HR5.out.1.cell 0
  have y1 : w5.cell? ⟨w.heap.size + 1, 1, none⟩ = some (.string ⟨#[]⟩) := HR5.out.1.cell 1
  have y2 : w5.cell? ⟨w.heap.size + 1, 2, none⟩ = some (.bool false) := HR5.out.1.cell 2
  have g0 : w5.frozen? ⟨w.heap.size + 1, 0, none⟩ = false := HR5.out.1.frozen 0
  have g1 : w5.frozen? ⟨w.heap.size + 1, 1, none⟩ = false := HR5.out.1.frozen 1
  have g2 : w5.frozen? ⟨w.heap.size + 1, 2, none⟩ = false := HR5.out.1.frozen 2
  clear hb4 hb24 hb25 hk5 HA HL
  go_wp2
  refine bodyPost_ret (results_ver (x := ⟨o1, o2, o3⟩) rfl rfl (by exact ((HR5.out.1.set 0 _).set 1 _).set 2 _)) rfl ?_
  exact ⟨rfl, ((HR5.out.2.setCell (Nat.le_succ _) _).setCell (Nat.le_succ _) _).setCell (Nat.le_succ _) _⟩

end Go.Proofs.Ytbdcdiihaecheaa

namespace Go.Proofs.Ytbdcdiihaecheaa
open Go.RowKit
set_option linter.unusedVariables false
set_option maxRecDepth 100000
set_option linter.unusedSectionVars false
variable [Inhabited Cl] [Inhabited Ln]

variable {m : Nat} {w w1 w2 w' : World} {H cB vB eB : Nat} {cb vb eb : List Nat} {h h' : Hp} {av L L' : List Nat}

/-- A cell with another value. -/
def Hp.setC (h : Hp) (i : Nat) (x : Cl) : Hp := { h with c := h.c.set i x }

set_option maxHeartbeats 2000000 in
theorem prune_shut (hh : Hpn m w H cB vB eB h av) (hS hG mark : Int) (hg : h.c.Good hS hG) (l : List Ln) (hc : Chn h.v (slAt h.c.us hS.toNat).val.s (slAt h.c.us hS.toNat).val.g l) (hl : l.length ≤ 65536) (hne : 1 ≤ (slAt h.c.us hS.toNat).val.g) (hcd : (slAt h.c.us hS.toNat).val.closed = false)
    (hk : (Vr.prune mark (l.map Ln.ver)).kept = []) :
    Calls Try.prog 14 #[.pointer (some ⟨H, 0, none⟩), .agg #[.int .i64 hS, .int .i64 hG], .int .i64 mark] w fun e w' => e = .returned (.tuple #[.int .i64 0, .bool true, .int .i64 0]) ∧ AftH m w w' H cB vB eB (h.setC hS.toNat { (slAt h.c.us hS.toNat).val with closed := true }) av := by
  obtain ⟨w2, hw2, hz2, hk1⟩ : ∃ w2, w.alloc (.cells #[.int .i64 hS, .int .i64 hG] 36) = w2 ∧ w2.heap.size = w.heap.size + 1 ∧ Bk w2 w.heap.size 36 #[.int .i64 hS, .int .i64 hG] := ⟨_, rfl, by simp, Bk.new _ _ _⟩
  have t2 : Tn [] w w2 := by rw [← hw2]; exact (Tn.refl _ _).alloc _
  have K2 : MidH m w [w.heap.size] w2 H cB vB eB h av := (MidH.start hh).new t2 (by simp) (by simp; omega)
  have HK2 : Hid (MidH m w [w.heap.size] w2 H cB vB eB h av) := K2
  have HA2 : Hid (Bk w2 w.heap.size 36 #[.int .i64 hS, .int .i64 hG]) := hk1
  have a0 : w2.cell? ⟨w.heap.size, 0, none⟩ = some (.int .i64 hS) := hk1.cell 0
  have a1 : w2.cell? ⟨w.heap.size, 1, none⟩ = some (.int .i64 hG) := hk1.cell 1
  obtain ⟨cl, hcl⟩ : ∃ cl, (slAt h.c.us hS.toNat).val = cl := ⟨_, rfl⟩
  have hlk := hlook_good K2.1 hS hG hg
  rw [hcl] at hlk hc hne hcd ⊢
  obtain ⟨c1, c2, c3, c4⟩ := cl
  obtain rfl : c4 = false := hcd
  have HLK : Hid (Calls Try.prog 43 #[.pointer (some ⟨H, 0, none⟩), .agg #[.int .i64 hS, .int .i64 hG]] w2 fun e w' => e = .returned (.tuple #[.agg #[.string c1, .int .i64 c2, .int .i64 c3, .bool false], .int .i64 0]) ∧ Below w2.heap.size w2 w') := hlk
  have HG : Hid (h.c.Good hS hG) := hg
  have HNE : Hid (decide (c2 = 0 ∧ c3 = 0) = false) := by unfold Hid; simp; intro _; have : 1 ≤ c3 := hne; omega
  clear hh t2 K2 hk1 hg hcl hlk hne
  go_enter Try.func14, Try.ntmps14
  go_wp2_with fail
  refine HLK.out.mono ?_
  rintro e w3 ⟨rfl, hb3⟩
  obtain ⟨wz, hwz, hzz, hkz⟩ : ∃ wz, w3.alloc (.cells #[.string ⟨#[]⟩, .int .i64 0, .int .i64 0, .bool false] 93) = wz ∧ wz.heap.size = w3.heap.size + 1 ∧ Bk wz w3.heap.size 93 #[.string ⟨#[]⟩, .int .i64 0, .int .i64 0, .bool false] := ⟨_, rfl, by simp, Bk.new _ _ _⟩
  have z0 : wz.cell? ⟨w3.heap.size, 0, none⟩ = some (.string ⟨#[]⟩) := hkz.cell 0
  have z1 : wz.cell? ⟨w3.heap.size, 1, none⟩ = some (.int .i64 0) := hkz.cell 1
  have z2 : wz.cell? ⟨w3.heap.size, 2, none⟩ = some (.int .i64 0) := hkz.cell 2
  have z3 : wz.cell? ⟨w3.heap.size, 3, none⟩ = some (.bool false) := hkz.cell 3
  have y0 : wz.frozen? ⟨w3.heap.size, 0, none⟩ = false := hkz.frozen 0
  have y1 : wz.frozen? ⟨w3.heap.size, 1, none⟩ = false := hkz.frozen 1
  have y2 : wz.frozen? ⟨w3.heap.size, 2, none⟩ = false := hkz.frozen 2
  have y3 : wz.frozen? ⟨w3.heap.size, 3, none⟩ = false := hkz.frozen 3
  obtain ⟨w4, hw4, hz4, hk4, t34⟩ : ∃ w4, (((wz.setCell ⟨w3.heap.size, 0, none⟩ (.string c1)).setCell ⟨w3.heap.size, 1, none⟩ (.int .i64 c2)).setCell ⟨w3.heap.size, 2, none⟩ (.int .i64 c3)).setCell ⟨w3.heap.size, 3, none⟩ (.bool false) = w4 ∧ w4.heap.size = w3.heap.size + 1 ∧ Bk w4 w3.heap.size 93 #[.string c1, .int .i64 c2, .int .i64 c3, .bool false] ∧ Tn [] w3 w4 := ⟨_, rfl, by simp [hzz], (((hkz.set 0 _).set 1 _).set 2 _).set 3 _, by rw [← hwz]; exact (((((Tn.refl [] w3).alloc _).setCell (.inr (Nat.le_refl _)) _).setCell (.inr (Nat.le_refl _)) _).setCell (.inr (Nat.le_refl _)) _).setCell (.inr (Nat.le_refl _)) _⟩
  obtain ⟨C, hC⟩ : ∃ C, w3.heap.size = C := ⟨_, rfl⟩
  rw [hC] at hw4 z0 z1 z2 z3 y0 y1 y2 y3 hk4
  have hz3 := hb3.size
  have HK4 : Hid (MidH m w [C, w.heap.size] w4 H cB vB eB h av) := (HK2.out.quiet (Tn.of_below hb3 [])).new t34 (by rw [← hC]; simp) (by rw [← hC]; simp; omega)
  have HA4 : Hid (Bk w4 w.heap.size 36 #[.int .i64 hS, .int .i64 hG] ∧ Bk w4 C 93 #[.string c1, .int .i64 c2, .int .i64 c3, .bool false] ∧ w.heap.size + 1 ≤ C) := ⟨(HA2.out.tn (Tn.of_below hb3 []) (by simp)).tn t34 (by simp), hk4, by omega⟩
  have c0' : w4.cell? ⟨C, 0, none⟩ = some (.string c1) := HA4.out.2.1.cell 0
  have c1' : w4.cell? ⟨C, 1, none⟩ = some (.int .i64 c2) := HA4.out.2.1.cell 1
  have c2' : w4.cell? ⟨C, 2, none⟩ = some (.int .i64 c3) := HA4.out.2.1.cell 2
  have c3' : w4.cell? ⟨C, 3, none⟩ = some (.bool false) := HA4.out.2.1.cell 3
  clear hk4 t34 hb3 HLK a0 a1 hz3
  go_wp2_with fail
  refine (empty_any w4 ⟨c1, c2, c3, false⟩).mono ?_
  rintro e w5 ⟨rfl, hb5⟩
  rw [HNE.out]
  have HK5 : Hid (MidH m w [C, w.heap.size] w5 H cB vB eB h av) := HK4.out.quiet (Tn.of_below hb5 [])
  have HA5 : Hid (Bk w5 w.heap.size 36 #[.int .i64 hS, .int .i64 hG] ∧ Bk w5 C 93 #[.string c1, .int .i64 c2, .int .i64 c3, .bool false] ∧ w.heap.size + 1 ≤ C) := ⟨HA4.out.1.tn (Tn.of_below hb5 []) (by simp), HA4.out.2.1.tn (Tn.of_below hb5 []) (by simp), HA4.out.2.2⟩
  have d0' : w5.cell? ⟨C, 0, none⟩ = some (.string c1) := HA5.out.2.1.cell 0
  have d1' : w5.cell? ⟨C, 1, none⟩ = some (.int .i64 c2) := HA5.out.2.1.cell 1
  have d2' : w5.cell? ⟨C, 2, none⟩ = some (.int .i64 c3) := HA5.out.2.1.cell 2
  have d3' : w5.cell? ⟨C, 3, none⟩ = some (.bool false) := HA5.out.2.1.cell 3
  have HCH : Hid (Calls Try.prog 39 #[.pointer (some ⟨H, 0, none⟩), .agg #[.string c1, .int .i64 c2, .int .i64 c3, .bool false]] w5 fun e w' => ∃ v1 v2, e = .returned (.tuple #[.agg #[v1, v2], .int .i64 0]) ∧ TwoH w5.heap.size w' v1 v2 (l.map Ln.ver) (hds c2 c3 l) ∧ Below w5.heap.size w5 w') := chain_good HK5.out.1 ⟨c1, c2, c3, false⟩ l hc hl
  clear hb5 c0' c1' c2' c3' hc z0 z1 z2 z3 y0 y1 y2 y3
  go_wp2_with fail
  refine HCH.out.mono ?_
  rintro e w6 ⟨v1, v2, rfl, htw, hb6⟩
  obtain ⟨q1, n1, d1, rfl, hels, hnil, hn1⟩ : ∃ p n c, v1 = .slice p n c ∧ Vrs w6 p (l.map Ln.ver) ∧ (p = none → n = 0 ∧ c = 0) ∧ (l.map Ln.ver).length = n := by
    obtain ⟨p, c, hv, he, hn, -⟩ := htw.o1.els vknd
    exact ⟨p, _, c, hv, he, hn, rfl⟩
  obtain ⟨q2, n2, d2, rfl⟩ : ∃ p n c, v2 = .slice p n c := by
    obtain ⟨p, c, hv, -⟩ := htw.o2.els hdK
    exact ⟨p, _, c, hv⟩
  have hn9 : n1 ≤ 65536 := by rw [← hn1, List.length_map]; exact hl
  obtain ⟨w7, hw7, hz7, hk7⟩ : ∃ w7, w6.alloc (.cells #[.slice q1 n1 d1, .slice q2 n2 d2] 107) = w7 ∧ w7.heap.size = w6.heap.size + 1 ∧ Bk w7 w6.heap.size 107 #[.slice q1 n1 d1, .slice q2 n2 d2] := ⟨_, rfl, by simp, Bk.new _ _ _⟩
  have hb7 : Below w6.heap.size w6 w7 := by rw [← hw7]; exact (Below.refl _ _).alloc (Nat.le_refl _) _
  have hb57 : Below w5.heap.size w5 w7 := hb6.trans (hb7.mono hb6.size)
  have f0 : w7.cell? ⟨w6.heap.size, 0, none⟩ = some (.slice q1 n1 d1) := hk7.cell 0
  have HK7 : Hid (MidH m w [C, w.heap.size] w7 H cB vB eB h av) := HK5.out.quiet (Tn.of_below hb57 [])
  have HA7 : Hid (Bk w7 w.heap.size 36 #[.int .i64 hS, .int .i64 hG] ∧ Bk w7 C 93 #[.string c1, .int .i64 c2, .int .i64 c3, .bool false] ∧ w.heap.size + 1 ≤ C) := ⟨HA5.out.1.tn (Tn.of_below hb57 []) (by simp), HA5.out.2.1.tn (Tn.of_below hb57 []) (by simp), HA5.out.2.2⟩
  have HPR : Hid (Calls Try.prog 45 #[.slice q1 n1 d1, .int .i64 mark] w7 fun e w' => ∃ p c u, e = .returned (.tuple #[.slice p 0 c, u]) ∧ Below w7.heap.size w7 w') := by
    refine (prune_any q1 n1 d1 (l.map Ln.ver) mark w7 hn1 (hels.below hb7 (Nat.le_refl _)) (by omega)).mono ?_
    rintro e w' ⟨u1, u2, rfl, ht⟩
    obtain ⟨p, c, hv, -⟩ := ht.o1.els vknd
    rw [hk] at hv
    exact ⟨p, c, u2, by rw [hv]; rfl, ht.below⟩
  clear htw hels hnil hb6 hb7 hb57 hk7 HCH hn1 d0' d1' d2' d3'
  go_wp2_with fail
  refine HPR.out.mono ?_
  rintro e w8 ⟨pp, pc, u2, rfl, hb8⟩
  have HK8 : Hid (MidH m w [C, w.heap.size] w8 H cB vB eB h av) := HK7.out.quiet (Tn.of_below hb8 [])
  have hkC := HA7.out.2.1.tn (Tn.of_below hb8 []) (by simp)
  have hkA := HA7.out.1.tn (Tn.of_below hb8 []) (by simp)
  have g3 : w8.cell? ⟨C, 3, none⟩ = some (.bool false) := hkC.cell 3
  have k3 : w8.frozen? ⟨C, 3, none⟩ = false := hkC.frozen 3
  obtain ⟨w10, hw10⟩ : ∃ w10, w8.setCell ⟨C, 3, none⟩ (.bool true) = w10 := ⟨_, rfl⟩
  have hCA2 : ¬ w.heap.size = C := by have := HA7.out.2.2; omega
  have HK10 : Hid (MidH m w [C, w.heap.size] w10 H cB vB eB h av) := by
    rw [← hw10]
    exact HK8.out.own ((Tn.refl _ _).setCell (.inl (by simp)) _)
  have HA10 : Hid (Bk w10 w.heap.size 36 #[.int .i64 hS, .int .i64 hG] ∧ Bk w10 C 93 #[.string c1, .int .i64 c2, .int .i64 c3, .bool true]) := by
    rw [← hw10]
    exact ⟨hkA.other hCA2 _, hkC.set 3 _⟩
  have HSET : Hid (Calls Try.prog 42 #[.pointer (some ⟨cB, 0, none⟩), .agg #[.int .i64 hS, .int .i64 hG], .agg #[.string c1, .int .i64 c2, .int .i64 c3, .bool true]] w10.drew fun e w' => e = .returned (.int .i64 0) ∧ MidH m w [C, w.heap.size] w' H cB vB eB (h.setC hS.toNat ⟨c1, c2, c3, true⟩) av ∧ Bk w' w.heap.size 36 #[.int .i64 hS, .int .i64 hG] ∧ Bk w' C 93 #[.string c1, .int .i64 c2, .int .i64 c3, .bool true]) := by
    have K10 := HK10.out.quiet (Tn.refl [] _).drew
    obtain ⟨cb, vb, eb, hI⟩ := K10.1
    refine (setGoodC hI.c hS hG ⟨c1, c2, c3, true⟩ HG.out).mono ?_
    rintro e w11 ⟨rfl, ht⟩
    have ha := hI.stepC ht
    exact ⟨rfl, K10.call ha, ha.blk (by simp) HA10.out.1.drew, ha.blk (by simp) HA10.out.2.drew⟩
  have p0 : w10.cell? ⟨H, 0, none⟩ = some (.pointer (some ⟨cB, 0, none⟩)) := HK10.out.1.ptrs.1
  have m0 : w10.cell? ⟨w.heap.size, 0, none⟩ = some (.int .i64 hS) := HA10.out.1.cell 0
  have m1 : w10.cell? ⟨w.heap.size, 1, none⟩ = some (.int .i64 hG) := HA10.out.1.cell 1
  have n0 : w10.cell? ⟨C, 0, none⟩ = some (.string c1) := HA10.out.2.cell 0
  have n1 : w10.cell? ⟨C, 1, none⟩ = some (.int .i64 c2) := HA10.out.2.cell 1
  have n2 : w10.cell? ⟨C, 2, none⟩ = some (.int .i64 c3) := HA10.out.2.cell 2
  have n3 : w10.cell? ⟨C, 3, none⟩ = some (.bool true) := HA10.out.2.cell 3
  clear HK10 HA10 hkC hkA HK8 HA7 HK7 HA5 HK5 HA4 HK4 HPR f0 hk hl hn9 hw2 hw4 hw7 hz2 hz4 hz7 hzz hwz hC
  go_wp2_with fail
  go_region_held3 (fun w' => w'.cell? ⟨H, 0, none⟩ = some (.pointer (some ⟨cB, 0, none⟩)) ∧ w'.cell? ⟨w.heap.size, 0, none⟩ = some (.int .i64 hS) ∧ w'.cell? ⟨w.heap.size, 1, none⟩ = some (.int .i64 hG) ∧ w'.cell? ⟨C, 0, none⟩ = some (.string c1) ∧ w'.cell? ⟨C, 1, none⟩ = some (.int .i64 c2) ∧ w'.cell? ⟨C, 2, none⟩ = some (.int .i64 c3) ∧ w'.cell? ⟨C, 3, none⟩ = some (.bool true)) (go_keep) (first
    | (go_at_call 42; refine HSET.out.mono ?_; rintro e w11 ⟨rfl, K11, k11a, k11c⟩; have HK11 : Hid (MidH m w [C, w.heap.size] w11 H cB vB eB (h.setC hS.toNat ⟨c1, c2, c3, true⟩) av) := K11; have o0 : w11.cell? ⟨H, 0, none⟩ = some (.pointer (some ⟨cB, 0, none⟩)) := HK11.out.1.ptrs.1; have o1 : w11.cell? ⟨w.heap.size, 0, none⟩ = some (.int .i64 hS) := k11a.cell 0; have o2 : w11.cell? ⟨w.heap.size, 1, none⟩ = some (.int .i64 hG) := k11a.cell 1; have o3 : w11.cell? ⟨C, 0, none⟩ = some (.string c1) := k11c.cell 0; have o4 : w11.cell? ⟨C, 1, none⟩ = some (.int .i64 c2) := k11c.cell 1; have o5 : w11.cell? ⟨C, 2, none⟩ = some (.int .i64 c3) := k11c.cell 2; have o6 : w11.cell? ⟨C, 3, none⟩ = some (.bool true) := k11c.cell 3; clear K11 k11a k11c))
  go_wp2
  go_ret3
  exact ⟨rfl, HK11.out.fin⟩

end Go.Proofs.Ytbdcdiihaecheaa

namespace Go.Proofs.Ytbdcdiihaecheaa
open Go.RowKit
set_option linter.unusedVariables false
set_option maxRecDepth 100000
set_option linter.unusedSectionVars false
variable [Inhabited Cl] [Inhabited Ln]

variable {m : Nat} {w w1 w2 w' : World} {H cB vB eB : Nat} {cb vb eb : List Nat} {h h' : Hp} {av L L' : List Nat}

/-- Handles wait, of a kind. -/
def Hp.wait (h : Hp) (k : Int) (l : List Hd) : Hp := { h with e := { h.e with cur := h.e.cur ++ l.map fun x => ⟨k, x.1, x.2⟩ } }

theorem Hp.wait_snoc (h : Hp) (k : Int) (l : List Hd) (x : Hd) : h.wait k (l ++ [x]) = { (h.wait k l) with e := (h.wait k l).e.retire ⟨k, x.1, x.2⟩ } := by
  simp [Hp.wait, Ep.retire]

theorem MidH.sub (k : MidH m w L w1 H cB vB eB h av) (hL : ∀ x ∈ L', x ∈ L) : MidH m w L' w1 H cB vB eB h av :=
  k.new (Tn.refl _ _) (fun x hx => .inl (hL x hx)) (fun x hx => k.1.avlt x (List.mem_append.2 (.inl (hL x hx))))

set_option maxHeartbeats 2000000 in
theorem hretire_any (hh : Hpn m w H cB vB eB h av) (p : Option Addr) (n c : Nat) (l : List Hd) (hn : l.length = n) (hx : Els Hd.cells 2 w p l) (hp : ∀ b o, p = some ⟨b, o, none⟩ → b ∈ av) (hl : n ≤ 65536) (hc : h.e.cur.length ≤ 3500000000000) :
    Calls Try.prog 51 #[.pointer (some ⟨H, 0, none⟩), .slice p n c] w fun e w' => e = .returned (.tuple #[]) ∧ AftH m w w' H cB vB eB (h.wait 3 l) av := by
  have HX : Hid (Els Hd.cells 2 w p l ∧ ∀ b o, p = some ⟨b, o, none⟩ → b ∈ av) := ⟨hx, hp⟩
  have HI : Hid (MidH m w [] w H cB vB eB (h.wait 3 (l.take 0)) av) := by
    have : h.wait 3 (l.take 0) = h := by simp [Hp.wait]
    rw [this]
    exact MidH.start hh
  have HN : Hid (l.length = n) := hn
  have HCU : Hid (∀ j, j ≤ n → (h.wait 3 (l.take j)).e.cur.length ≤ 3600000000000) := fun j hj => by simp [Hp.wait]; omega
  have HAL : Hid (l.take n = l) := List.take_of_length_le (by omega)
  clear hx hp hh hn
  go_enter Try.func51, Try.ntmps51
  go_wp2_with fail
  go_loopw [8] (fun i wr => ∃ j : Nat, j ≤ n ∧ i = .int .i64 j ∧ Hid (MidH m w [] wr H cB vB eB (h.wait 3 (l.take j)) av)) (fun i _ => n - (intOf i).toNat)
  case atStart => exact ⟨0, Nat.zero_le _, rfl, HI.out⟩
  case round =>
    obtain ⟨j, hj, rfl, HK⟩ := hrel
    by_cases hlt : j < n
    · have hli : (j : Int) < (n : Int) := by omega
      have g0 : (0 : Int) ≤ (j : Int) := by omega
      have hels : Els Hd.cells 2 wr p l := by
        intro h0
        obtain ⟨b, o, hp, hcells⟩ := HX.out.1 h0
        refine ⟨b, o, hp, fun i x hx q v hv => ?_⟩
        have hb := (HK.out.2.2.1 b (HX.out.2 b o hp)).2
        have := hcells i x hx q v hv
        simp only [World.cell?] at this ⊢
        rw [hb]
        exact this
      obtain ⟨b, o, x, rfl, hgx, hcx⟩ := Els.at hels (j := j) (by have := HN.out; omega)
      have c0 : wr.cell? ⟨b, o + j * 2, none⟩ = some (.int .i64 x.1) := hcx 0 _ rfl
      have c1 : wr.cell? ⟨b, o + j * 2 + 1, none⟩ = some (.int .i64 x.2) := hcx 1 _ rfl
      have HTK : Hid (h.wait 3 (l.take (j + 1)) = { (h.wait 3 (l.take j)) with e := (h.wait 3 (l.take j)).e.retire ⟨3, x.1, x.2⟩ }) := by
        unfold Hid
        rw [List.take_add_one, hgx]
        exact Hp.wait_snoc h 3 _ x
      obtain ⟨xs, xg⟩ := x
      obtain ⟨w2, hw2, hk2⟩ : ∃ w2, wr.alloc (.cells #[.int .i64 xs, .int .i64 xg] 36) = w2 ∧ Bk w2 wr.heap.size 36 #[.int .i64 xs, .int .i64 xg] := ⟨_, rfl, Bk.new _ _ _⟩
      have t2 : Tn [] wr w2 := by rw [← hw2]; exact (Tn.refl _ _).alloc _
      have HK2 : Hid (MidH m w [wr.heap.size] w2 H cB vB eB (h.wait 3 (l.take j)) av) := HK.out.new t2 (by simp) (by simp; exact hk2.lt)
      have p2 : w2.cell? ⟨H, 2, none⟩ = some (.pointer (some ⟨eB, 0, none⟩)) := HK2.out.1.ptrs.2.2
      have a0 : w2.cell? ⟨wr.heap.size, 0, none⟩ = some (.int .i64 xs) := hk2.cell 0
      have a1 : w2.cell? ⟨wr.heap.size, 1, none⟩ = some (.int .i64 xg) := hk2.cell 1
      have HRT : Hid (Calls Try.prog 52 #[.pointer (some ⟨eB, 0, none⟩), .agg #[.int .i64 3, .int .i64 xs, .int .i64 xg]] w2.drew fun r w' => r = .returned (.int .i64 0) ∧ MidH m w [wr.heap.size] w' H cB vB eB (h.wait 3 (l.take (j + 1))) av ∧ Bk w' wr.heap.size 36 #[.int .i64 xs, .int .i64 xg]) := by
        have K2 := HK2.out.quiet (Tn.refl [] _).drew
        obtain ⟨cb, vb, eb, hI⟩ := K2.1
        refine (retire_any hI.e ⟨3, xs, xg⟩ (HCU.out j hj)).mono ?_
        rintro e w3 ⟨rfl, ht⟩
        have ha := hI.stepE ht
        rw [HTK.out]
        exact ⟨rfl, K2.call ha, ha.blk (by simp) hk2.drew⟩
      clear hels hgx hcx hk2 t2
      go_wp2_with fail
      go_region_held3 (fun w' => w'.cell? ⟨H, 2, none⟩ = some (.pointer (some ⟨eB, 0, none⟩)) ∧ w'.cell? ⟨wr.heap.size, 0, none⟩ = some (.int .i64 xs) ∧ w'.cell? ⟨wr.heap.size, 1, none⟩ = some (.int .i64 xg)) (go_keep) (first
        | (go_at_call 52; refine HRT.out.mono ?_; rintro e w3 ⟨rfl, K3, k3⟩; have HK3 : Hid (MidH m w [] w3 H cB vB eB (h.wait 3 (l.take (j + 1))) av) := K3.sub (by simp); have o0 : w3.cell? ⟨H, 2, none⟩ = some (.pointer (some ⟨eB, 0, none⟩)) := HK3.out.1.ptrs.2.2; have o1 : w3.cell? ⟨wr.heap.size, 0, none⟩ = some (.int .i64 xs) := k3.cell 0; have o2 : w3.cell? ⟨wr.heap.size, 1, none⟩ = some (.int .i64 xg) := k3.cell 1; clear K3 k3))
      go_wp2
      go_roundw
      case rel => exact ⟨j + 1, by omega, by go_num, HK3⟩
      case measure => simp [intOf]; omega
    · have hli : ¬ (j : Int) < (n : Int) := by omega
      obtain rfl : j = n := by omega
      have HK9 : Hid (MidH m w [] wr H cB vB eB (h.wait 3 l) av) := by have := HK.out; rw [HAL.out] at this; exact this
      go_wp2
      go_end0
      exact ⟨rfl, HK9.out.fin⟩

/-- A cell that was retired? -/
theorem retired_no (w : World) (x : Cl) (hx : x.closed = true) (hg : 1 ≤ x.g) : Calls Try.prog 75 #[x.v] w fun e w' => e = .returned (.bool false) ∧ Below w.heap.size w w' := by
  obtain ⟨c1, c2, c3, c4⟩ := x
  obtain rfl : c4 = true := hx
  have hd : decide (c2 = 0 ∧ c3 = 0) = false := by simp; intro _; have : 1 ≤ c3 := hg; omega
  obtain ⟨w1, hw1, hb1, hk1⟩ : ∃ w1, w.alloc (.cells #[.string c1, .int .i64 c2, .int .i64 c3, .bool true] 93) = w1 ∧ Below w.heap.size w w1 ∧ Bk w1 w.heap.size 93 #[.string c1, .int .i64 c2, .int .i64 c3, .bool true] := ⟨_, rfl, (Below.refl _ w).alloc (Nat.le_refl _) _, Bk.new _ _ _⟩
  have c0' : w1.cell? ⟨w.heap.size, 0, none⟩ = some (.string c1) := hk1.cell 0
  have c1' : w1.cell? ⟨w.heap.size, 1, none⟩ = some (.int .i64 c2) := hk1.cell 1
  have c2' : w1.cell? ⟨w.heap.size, 2, none⟩ = some (.int .i64 c3) := hk1.cell 2
  have c3' : w1.cell? ⟨w.heap.size, 3, none⟩ = some (.bool true) := hk1.cell 3
  have HB1 : Hid (Below w.heap.size w w1) := hb1
  clear hb1 hk1 hg
  go_enter Try.func75, Try.ntmps75
  go_wp2_with fail
  refine (empty_any w1 ⟨c1, c2, c3, true⟩).mono ?_
  rintro e w2 ⟨rfl, hb2⟩
  have HB2 : Hid (Below w.heap.size w w2) := HB1.out.trans (hb2.mono HB1.out.size)
  clear hb2
  rw [hd]
  go_wp2
  go_ret
  exact ⟨rfl, HB2.out⟩

set_option maxHeartbeats 1000000 in
theorem closedCell_good (hh : Hpn m w H cB vB eB h av) (hS hG : Int) (hg : h.c.Good hS hG) (hcd : (slAt h.c.us hS.toNat).val.closed = true) (hne : 1 ≤ (slAt h.c.us hS.toNat).val.g) :
    Calls Try.prog 50 #[.pointer (some ⟨H, 0, none⟩), .agg #[.int .i64 hS, .int .i64 hG]] w fun e w' => e = .returned (.tuple #[(slAt h.c.us hS.toNat).val.v, .int .i64 0]) ∧ Below w.heap.size w w' := by
  obtain ⟨w2, hw2, hz2, hk1, hk2⟩ : ∃ w2, (w.alloc (.cells #[.int .i64 hS, .int .i64 hG] 36)).alloc (.cells #[.string ⟨#[]⟩, .int .i64 0, .int .i64 0, .bool false] 93) = w2 ∧ w2.heap.size = w.heap.size + 2 ∧ Bk w2 w.heap.size 36 #[.int .i64 hS, .int .i64 hG] ∧ Bk w2 (w.heap.size + 1) 93 #[.string ⟨#[]⟩, .int .i64 0, .int .i64 0, .bool false] := ⟨_, rfl, by simp, (Bk.new _ _ _).alloc _, bk_new2 _ _ _ _⟩
  have hb2 : Below w.heap.size w w2 := by rw [← hw2]; exact ((Below.refl _ w).alloc (Nat.le_refl _) _).alloc (by simp) _
  have a0 : w2.cell? ⟨w.heap.size, 0, none⟩ = some (.int .i64 hS) := hk1.cell 0
  have a1 : w2.cell? ⟨w.heap.size, 1, none⟩ = some (.int .i64 hG) := hk1.cell 1
  have HK2 : Hid (Bk w2 (w.heap.size + 1) 93 #[.string ⟨#[]⟩, .int .i64 0, .int .i64 0, .bool false] ∧ Below w.heap.size w w2 ∧ w2.heap.size = w.heap.size + 2) := ⟨hk2, hb2, hz2⟩
  obtain ⟨cl, hcl⟩ : ∃ cl, (slAt h.c.us hS.toNat).val = cl := ⟨_, rfl⟩
  have hlk := hlook_good (hh.below hb2) hS hG hg
  rw [hcl] at hlk hne hcd ⊢
  obtain ⟨c1, c2, c3, c4⟩ := cl
  obtain rfl : c4 = true := hcd
  have HLK : Hid (Calls Try.prog 43 #[.pointer (some ⟨H, 0, none⟩), .agg #[.int .i64 hS, .int .i64 hG]] w2 fun e w' => e = .returned (.tuple #[.agg #[.string c1, .int .i64 c2, .int .i64 c3, .bool true], .int .i64 0]) ∧ Below w2.heap.size w2 w') := hlk
  have HNE : Hid (1 ≤ c3) := hne
  clear hh hg hlk hne hk1 hk2 hb2 hcl
  go_enter Try.func50, Try.ntmps50
  go_wp2_with fail
  refine HLK.out.mono ?_
  rintro e w3 ⟨rfl, hb3⟩
  obtain ⟨w4, hw4, hk4⟩ : ∃ w4, w3.alloc (.cells #[.string c1, .int .i64 c2, .int .i64 c3, .bool true] 93) = w4 ∧ Bk w4 w3.heap.size 93 #[.string c1, .int .i64 c2, .int .i64 c3, .bool true] := ⟨_, rfl, Bk.new _ _ _⟩
  have hb34 : Below w3.heap.size w3 w4 := by rw [← hw4]; exact (Below.refl _ _).alloc (Nat.le_refl _) _
  have HB4 : Hid (Below w2.heap.size w2 w4 ∧ Bk w4 w3.heap.size 93 #[.string c1, .int .i64 c2, .int .i64 c3, .bool true]) := ⟨hb3.trans (hb34.mono hb3.size), hk4⟩
  have c0' : w4.cell? ⟨w3.heap.size, 0, none⟩ = some (.string c1) := hk4.cell 0
  have c1' : w4.cell? ⟨w3.heap.size, 1, none⟩ = some (.int .i64 c2) := hk4.cell 1
  have c2' : w4.cell? ⟨w3.heap.size, 2, none⟩ = some (.int .i64 c3) := hk4.cell 2
  have c3' : w4.cell? ⟨w3.heap.size, 3, none⟩ = some (.bool true) := hk4.cell 3
  have hz3 := hb3.size
  have hC : ¬ w3.heap.size = w.heap.size + 1 := by have := HK2.out.2.2; omega
  have hC2 : ¬ w.heap.size + 1 = w3.heap.size := fun e => hC e.symm
  clear hk4 hb3 hb34 hz3 HLK
  go_wp2_with fail
  refine (retired_no w4 ⟨c1, c2, c3, true⟩ rfl HNE.out).mono ?_
  rintro e w5 ⟨rfl, hb5⟩
  have hk5 := HB4.out.2.tn (Tn.of_below hb5 []) (by simp)
  have hb25 := HB4.out.1.trans (hb5.mono HB4.out.1.size)
  have HR5 : Hid (Bk w5 (w.heap.size + 1) 93 #[.string ⟨#[]⟩, .int .i64 0, .int .i64 0, .bool false] ∧ Below w.heap.size w w5) := ⟨HK2.out.1.tn (Tn.of_below hb25 []) (by simp), HK2.out.2.1.trans (hb25.mono HK2.out.2.1.size)⟩
  have x0 : w5.cell? ⟨w3.heap.size, 0, none⟩ = some (.string c1) := hk5.cell 0
  have x1 : w5.cell? ⟨w3.heap.size, 1, none⟩ = some (.int .i64 c2) := hk5.cell 1
  have x2 : w5.cell? ⟨w3.heap.size, 2, none⟩ = some (.int .i64 c3) := hk5.cell 2
  have x3 : w5.cell? ⟨w3.heap.size, 3, none⟩ = some (.bool true) := hk5.cell 3
  have y0 : w5.cell? ⟨w.heap.size + 1, 0, none⟩ = some (.string ⟨#[]⟩) := HR5.out.1.cell 0
  have y1 : w5.cell? ⟨w.heap.size + 1, 1, none⟩ = some (.int .i64 0) := HR5.out.1.cell 1
  have y2 : w5.cell? ⟨w.heap.size + 1, 2, none⟩ = some (.int .i64 0) := HR5.out.1.cell 2
  have y3 : w5.cell? ⟨w.heap.size + 1, 3, none⟩ = some (.bool false) := HR5.out.1.cell 3
  have g0 : w5.frozen? ⟨w.heap.size + 1, 0, none⟩ = false := HR5.out.1.frozen 0
  have g1 : w5.frozen? ⟨w.heap.size + 1, 1, none⟩ = false := HR5.out.1.frozen 1
  have g2 : w5.frozen? ⟨w.heap.size + 1, 2, none⟩ = false := HR5.out.1.frozen 2
  have g3 : w5.frozen? ⟨w.heap.size + 1, 3, none⟩ = false := HR5.out.1.frozen 3
  clear hk5 hb25 hb5 c0' c1' c2' c3'
  go_wp2
  refine bodyPost_ret (results_elC (x := ⟨c1, c2, c3, true⟩) rfl rfl (by exact (((HR5.out.1.set 0 _).set 1 _).set 2 _).set 3 _)) rfl ?_
  exact ⟨rfl, (((HR5.out.2.setCell (Nat.le_succ _) _).setCell (Nat.le_succ _) _).setCell (Nat.le_succ _) _).setCell (Nat.le_succ _) _⟩

end Go.Proofs.Ytbdcdiihaecheaa

namespace Go.Proofs.Ytbdcdiihaecheaa
open Go.RowKit
set_option linter.unusedVariables false
set_option maxRecDepth 100000
set_option linter.unusedSectionVars false
variable [Inhabited Cl] [Inhabited Ln]

variable {m : Nat} {w w1 w2 w' : World} {H cB vB eB : Nat} {cb vb eb : List Nat} {h h' : Hp} {av L L' : List Nat}

theorem els_blk {α : Type} {cells : α → List Value} {k : Nat} {p : Option Addr} {l : List α} (he : Els cells k w p l) (hb : ∀ b o, p = some ⟨b, o, none⟩ → w'.heap[b]? = w.heap[b]?) : Els cells k w' p l := by
  intro h0
  obtain ⟨b, o, hp, hcells⟩ := he h0
  refine ⟨b, o, hp, fun i x hx q v hv => ?_⟩
  have hb := hb b o hp
  have := hcells i x hx q v hv
  simp only [World.cell?] at this ⊢
  rw [hb]
  exact this

/-- What Retire makes of it. -/
def Hp.retired (h : Hp) (s g : Int) (x : Cl) (l : List Ln) : Hp := ((h.setC s.toNat { x with s := 0, g := 0 }).wait 3 (hds x.s x.g l)).wait 4 [(s, g)]

set_option maxHeartbeats 2000000 in
theorem retire_good (hh : Hpn m w H cB vB eB h av) (hS hG : Int) (hg : h.c.Good hS hG) (l : List Ln) (hc : Chn h.v (slAt h.c.us hS.toNat).val.s (slAt h.c.us hS.toNat).val.g l) (hl : l.length ≤ 65536) (hne : 1 ≤ (slAt h.c.us hS.toNat).val.g) (hcd : (slAt h.c.us hS.toNat).val.closed = true) (hcu : h.e.cur.length ≤ 3400000000000) :
    Calls Try.prog 18 #[.pointer (some ⟨H, 0, none⟩), .agg #[.int .i64 hS, .int .i64 hG]] w fun e w' => e = .returned (.int .i64 0) ∧ AftH m w w' H cB vB eB (h.retired hS hG (slAt h.c.us hS.toNat).val l) av := by
  obtain ⟨w2, hw2, hz2, hk1⟩ : ∃ w2, w.alloc (.cells #[.int .i64 hS, .int .i64 hG] 36) = w2 ∧ w2.heap.size = w.heap.size + 1 ∧ Bk w2 w.heap.size 36 #[.int .i64 hS, .int .i64 hG] := ⟨_, rfl, by simp, Bk.new _ _ _⟩
  have t2 : Tn [] w w2 := by rw [← hw2]; exact (Tn.refl _ _).alloc _
  have K2 : MidH m w [w.heap.size] w2 H cB vB eB h av := (MidH.start hh).new t2 (by simp) (by simp; omega)
  have HK2 : Hid (MidH m w [w.heap.size] w2 H cB vB eB h av) := K2
  have HA2 : Hid (Bk w2 w.heap.size 36 #[.int .i64 hS, .int .i64 hG]) := hk1
  have a0 : w2.cell? ⟨w.heap.size, 0, none⟩ = some (.int .i64 hS) := hk1.cell 0
  have a1 : w2.cell? ⟨w.heap.size, 1, none⟩ = some (.int .i64 hG) := hk1.cell 1
  have hlk := closedCell_good K2.1 hS hG hg hcd hne
  obtain ⟨cl, hcl⟩ : ∃ cl, (slAt h.c.us hS.toNat).val = cl := ⟨_, rfl⟩
  rw [hcl] at hlk hc hne hcd ⊢
  obtain ⟨c1, c2, c3, c4⟩ := cl
  obtain rfl : c4 = true := hcd
  have HLK : Hid (Calls Try.prog 50 #[.pointer (some ⟨H, 0, none⟩), .agg #[.int .i64 hS, .int .i64 hG]] w2 fun e w' => e = .returned (.tuple #[.agg #[.string c1, .int .i64 c2, .int .i64 c3, .bool true], .int .i64 0]) ∧ Below w2.heap.size w2 w') := hlk
  have HG : Hid (h.c.Good hS hG) := hg
  clear hh t2 K2 hk1 hg hcl hlk hne
  go_enter Try.func18, Try.ntmps18
  go_wp2_with fail
  refine HLK.out.mono ?_
  rintro e w3 ⟨rfl, hb3⟩
  obtain ⟨C, hC⟩ : ∃ C, w3.heap.size = C := ⟨_, rfl⟩
  obtain ⟨w5, hw5, hk5, t35⟩ : ∃ w5, w3.alloc (.cells #[.string c1, .int .i64 c2, .int .i64 c3, .bool true] 93) = w5 ∧ Bk w5 C 93 #[.string c1, .int .i64 c2, .int .i64 c3, .bool true] ∧ Tn [] w3 w5 := ⟨_, rfl, by rw [← hC]; exact Bk.new _ _ _, (Tn.refl _ _).alloc _⟩
  have hz3 := hb3.size
  have hlt5 := hk5.lt
  have HK5 : Hid (MidH m w [C, w.heap.size] w5 H cB vB eB h av) := (HK2.out.quiet (Tn.of_below hb3 [])).new t35 (by rw [← hC]; simp) (by have := t35.size; simp; omega)
  have HA5 : Hid (Bk w5 w.heap.size 36 #[.int .i64 hS, .int .i64 hG] ∧ Bk w5 C 93 #[.string c1, .int .i64 c2, .int .i64 c3, .bool true] ∧ w.heap.size + 1 ≤ C) := ⟨(HA2.out.tn (Tn.of_below hb3 []) (by simp)).tn t35 (by simp), hk5, by omega⟩
  have d0' : w5.cell? ⟨C, 0, none⟩ = some (.string c1) := HA5.out.2.1.cell 0
  have d1' : w5.cell? ⟨C, 1, none⟩ = some (.int .i64 c2) := HA5.out.2.1.cell 1
  have d2' : w5.cell? ⟨C, 2, none⟩ = some (.int .i64 c3) := HA5.out.2.1.cell 2
  have d3' : w5.cell? ⟨C, 3, none⟩ = some (.bool true) := HA5.out.2.1.cell 3
  have HCH : Hid (Calls Try.prog 39 #[.pointer (some ⟨H, 0, none⟩), .agg #[.string c1, .int .i64 c2, .int .i64 c3, .bool true]] w5 fun e w' => ∃ v1 v2, e = .returned (.tuple #[.agg #[v1, v2], .int .i64 0]) ∧ TwoH w5.heap.size w' v1 v2 (l.map Ln.ver) (hds c2 c3 l) ∧ Below w5.heap.size w5 w') := chain_good HK5.out.1 ⟨c1, c2, c3, true⟩ l hc hl
  clear hb3 hk5 t35 hz3 hlt5 hc a0 a1 HLK
  go_wp2_with fail
  refine HCH.out.mono ?_
  rintro e w6 ⟨v1, v2, rfl, htw, hb6⟩
  obtain ⟨q1, n1, d1, rfl⟩ : ∃ p n c, v1 = .slice p n c := by
    obtain ⟨p, c, hv, -⟩ := htw.o1.els vknd
    exact ⟨p, _, c, hv⟩
  obtain ⟨q2, n2, d2, rfl, hels, hn2⟩ : ∃ p n c, v2 = .slice p n c ∧ Els Hd.cells 2 w6 p (hds c2 c3 l) ∧ (hds c2 c3 l).length = n := by
    obtain ⟨p, c, hv, he, -⟩ := htw.o2.els hdK
    exact ⟨p, _, c, hv, he, rfl⟩
  have hqb : ∀ b o, q2 = some ⟨b, o, none⟩ → w5.heap.size ≤ b ∧ b < w6.heap.size := fun b o e => by
    subst e
    exact htw.o2.blk rfl
  obtain ⟨Q, hQ⟩ : ∃ Q : List Nat, ∀ b, b ∈ Q ↔ ∃ o, q2 = some ⟨b, o, none⟩ := by
    cases q2 with
    | none => exact ⟨[], fun b => by simp⟩
    | some a =>
      rcases htw.o2.2 with ⟨hv, -⟩ | ⟨g, cap, cur, hv, -⟩
      · cases hv
      · cases hv
        exact ⟨[g], fun b => ⟨fun hm => ⟨0, by simp at hm; subst hm; rfl⟩, fun ⟨o, e⟩ => by cases e; simp⟩⟩
  obtain ⟨F, hF⟩ : ∃ F, w6.heap.size = F := ⟨_, rfl⟩
  obtain ⟨w7, hw7, hk7⟩ : ∃ w7, w6.alloc (.cells #[.slice q1 n1 d1, .slice q2 n2 d2] 107) = w7 ∧ Bk w7 F 107 #[.slice q1 n1 d1, .slice q2 n2 d2] := ⟨_, rfl, by rw [← hF]; exact Bk.new _ _ _⟩
  have hb7 : Below w6.heap.size w6 w7 := by rw [← hw7]; exact (Below.refl _ _).alloc (Nat.le_refl _) _
  have hb57 : Below w5.heap.size w5 w7 := hb6.trans (hb7.mono hb6.size)
  have hz6 := hb6.size
  have hz7 := hb7.size
  have hFlt := hk7.lt
  have HEL : Hid (Els Hd.cells 2 w7 q2 (hds c2 c3 l) ∧ (hds c2 c3 l).length = n2 ∧ n2 ≤ 65536 ∧ ∀ b o, q2 = some ⟨b, o, none⟩ → b ∈ Q) := ⟨hels.below hb7 (Nat.le_refl _), hn2, by rw [← hn2, hds_len]; exact hl, fun b o e => (hQ b).2 ⟨o, e⟩⟩
  have HK7 : Hid (MidH m w (F :: (Q ++ [C, w.heap.size])) w7 H cB vB eB h av) := by
    refine HK5.out.new (Tn.of_below hb57 []) (fun x hx => ?_) (fun x hx => ?_)
    · rcases List.mem_cons.1 hx with rfl | hx
      · exact .inr (by omega)
      · rcases List.mem_append.1 hx with hx | hx
        · obtain ⟨o, e⟩ := (hQ x).1 hx
          exact .inr (hqb x o e).1
        · exact .inl hx
    · rcases List.mem_cons.1 hx with rfl | hx
      · exact hFlt
      · rcases List.mem_append.1 hx with hx | hx
        · obtain ⟨o, e⟩ := (hQ x).1 hx
          have := (hqb x o e).2
          omega
        · have := HK5.out.1.avlt x (List.mem_append.2 (.inl hx))
          omega
  have hClt := HA5.out.2.1.lt
  have HNE : Hid (C ≠ F ∧ (∀ b ∈ Q, C ≠ b) ∧ C ≠ w.heap.size) := by
    refine ⟨by omega, fun b hb => ?_, by have := HA5.out.2.2; omega⟩
    obtain ⟨o, e⟩ := (hQ b).1 hb
    have := (hqb b o e).1
    omega
  have HA7 : Hid (Bk w7 w.heap.size 36 #[.int .i64 hS, .int .i64 hG] ∧ Bk w7 C 93 #[.string c1, .int .i64 c2, .int .i64 c3, .bool true] ∧ Bk w7 F 107 #[.slice q1 n1 d1, .slice q2 n2 d2]) := ⟨HA5.out.1.tn (Tn.of_below hb57 []) (by simp), HA5.out.2.1.tn (Tn.of_below hb57 []) (by simp), hk7⟩
  -- the cell has no version
  have g1 : w7.cell? ⟨C, 1, none⟩ = some (.int .i64 c2) := HA7.out.2.1.cell 1
  have g2 : w7.cell? ⟨C, 2, none⟩ = some (.int .i64 c3) := HA7.out.2.1.cell 2
  have k1 : w7.frozen? ⟨C, 1, none⟩ = false := HA7.out.2.1.frozen 1
  have k2 : w7.frozen? ⟨C, 2, none⟩ = false := HA7.out.2.1.frozen 2
  obtain ⟨w10, hw10⟩ : ∃ w10, (w7.setCell ⟨C, 1, none⟩ (.int .i64 0)).setCell ⟨C, 2, none⟩ (.int .i64 0) = w10 := ⟨_, rfl⟩
  have HK10 : Hid (MidH m w (F :: (Q ++ [C, w.heap.size])) w10 H cB vB eB h av) := by
    rw [← hw10]
    exact HK7.out.own (((Tn.refl _ _).setCell (.inl (by simp)) _).setCell (.inl (by simp)) _)
  have HA10 : Hid (Bk w10 w.heap.size 36 #[.int .i64 hS, .int .i64 hG] ∧ Bk w10 C 93 #[.string c1, .int .i64 0, .int .i64 0, .bool true] ∧ Bk w10 F 107 #[.slice q1 n1 d1, .slice q2 n2 d2] ∧ Els Hd.cells 2 w10 q2 (hds c2 c3 l)) := by
    have t : Tn [C] w7 w10 := by rw [← hw10]; exact (((Tn.refl _ _).setCell (.inl (by simp)) _).setCell (.inl (by simp)) _)
    refine ⟨HA7.out.1.tn t (by simp; exact fun e => HNE.out.2.2 e.symm), by rw [← hw10]; exact (HA7.out.2.1.set 1 _).set 2 _, HA7.out.2.2.tn t (by simp; exact fun e => HNE.out.1 e.symm), HEL.out.1.tn t (fun b o e hm => ?_)⟩
    have hm' : b = C := by simpa using hm
    exact HNE.out.2.1 b (HEL.out.2.2.2 b o e) hm'.symm
  have HSET : Hid (Calls Try.prog 42 #[.pointer (some ⟨cB, 0, none⟩), .agg #[.int .i64 hS, .int .i64 hG], .agg #[.string c1, .int .i64 0, .int .i64 0, .bool true]] w10.drew fun e w' => e = .returned (.int .i64 0) ∧ MidH m w (F :: (Q ++ [C, w.heap.size])) w' H cB vB eB (h.setC hS.toNat ⟨c1, 0, 0, true⟩) av ∧ Bk w' w.heap.size 36 #[.int .i64 hS, .int .i64 hG] ∧ Bk w' C 93 #[.string c1, .int .i64 0, .int .i64 0, .bool true] ∧ Bk w' F 107 #[.slice q1 n1 d1, .slice q2 n2 d2] ∧ Els Hd.cells 2 w' q2 (hds c2 c3 l)) := by
    have K10 := HK10.out.quiet (Tn.refl [] _).drew
    obtain ⟨cb, vb, eb, hI⟩ := K10.1
    refine (setGoodC hI.c hS hG ⟨c1, 0, 0, true⟩ HG.out).mono ?_
    rintro e w11 ⟨rfl, ht⟩
    have ha := hI.stepC ht
    exact ⟨rfl, K10.call ha, ha.blk (by simp) HA10.out.1.drew, ha.blk (by simp) HA10.out.2.1.drew, ha.blk (by simp) HA10.out.2.2.1.drew, els_blk (els_blk HA10.out.2.2.2 (w' := w10.drew) (fun _ _ _ => rfl)) (fun b o e => ha.2.2 b (by have := HEL.out.2.2.2 b o e; simp [this]))⟩
  have p0 : w10.cell? ⟨H, 0, none⟩ = some (.pointer (some ⟨cB, 0, none⟩)) := HK10.out.1.ptrs.1
  have m0 : w10.cell? ⟨w.heap.size, 0, none⟩ = some (.int .i64 hS) := HA10.out.1.cell 0
  have m1 : w10.cell? ⟨w.heap.size, 1, none⟩ = some (.int .i64 hG) := HA10.out.1.cell 1
  have n0' : w10.cell? ⟨C, 0, none⟩ = some (.string c1) := HA10.out.2.1.cell 0
  have n1' : w10.cell? ⟨C, 1, none⟩ = some (.int .i64 0) := HA10.out.2.1.cell 1
  have n2' : w10.cell? ⟨C, 2, none⟩ = some (.int .i64 0) := HA10.out.2.1.cell 2
  have n3' : w10.cell? ⟨C, 3, none⟩ = some (.bool true) := HA10.out.2.1.cell 3
  clear HK10 HA10 HA7 HK7 HA5 HK5 hk7 hb7 hb57 hb6 hz6 hz7 hFlt hClt htw hels hn2 hqb hQ hl hw2 hw5 hz2 hC HCH d0' d1' d2' d3'
  go_wp2_with fail
  go_region_held3 (fun w' => w'.cell? ⟨H, 0, none⟩ = some (.pointer (some ⟨cB, 0, none⟩)) ∧ w'.cell? ⟨w.heap.size, 0, none⟩ = some (.int .i64 hS) ∧ w'.cell? ⟨w.heap.size, 1, none⟩ = some (.int .i64 hG) ∧ w'.cell? ⟨C, 0, none⟩ = some (.string c1) ∧ w'.cell? ⟨C, 1, none⟩ = some (.int .i64 0) ∧ w'.cell? ⟨C, 2, none⟩ = some (.int .i64 0) ∧ w'.cell? ⟨C, 3, none⟩ = some (.bool true)) (go_keep) (first
    | (go_at_call 42; refine HSET.out.mono ?_; rintro e w11 ⟨rfl, K11, k11a, k11c, k11f, k11e⟩; have HK11 : Hid (MidH m w (F :: (Q ++ [C, w.heap.size])) w11 H cB vB eB (h.setC hS.toNat ⟨c1, 0, 0, true⟩) av ∧ Bk w11 w.heap.size 36 #[.int .i64 hS, .int .i64 hG] ∧ Els Hd.cells 2 w11 q2 (hds c2 c3 l)) := ⟨K11, k11a, k11e⟩; have o0 : w11.cell? ⟨H, 0, none⟩ = some (.pointer (some ⟨cB, 0, none⟩)) := HK11.out.1.1.ptrs.1; have o1 : w11.cell? ⟨w.heap.size, 0, none⟩ = some (.int .i64 hS) := k11a.cell 0; have o2 : w11.cell? ⟨w.heap.size, 1, none⟩ = some (.int .i64 hG) := k11a.cell 1; have o3 : w11.cell? ⟨C, 0, none⟩ = some (.string c1) := k11c.cell 0; have o4 : w11.cell? ⟨C, 1, none⟩ = some (.int .i64 0) := k11c.cell 1; have o5 : w11.cell? ⟨C, 2, none⟩ = some (.int .i64 0) := k11c.cell 2; have o6 : w11.cell? ⟨C, 3, none⟩ = some (.bool true) := k11c.cell 3; have o7 : w11.cell? ⟨F, 1, none⟩ = some (.slice q2 n2 d2) := k11f.cell 1; clear K11 k11a k11c k11f k11e))
  have HRT : Hid (Calls Try.prog 51 #[.pointer (some ⟨H, 0, none⟩), .slice q2 n2 d2] w11 fun e w' => e = .returned (.tuple #[]) ∧ MidH m w (F :: (Q ++ [C, w.heap.size])) w' H cB vB eB ((h.setC hS.toNat ⟨c1, 0, 0, true⟩).wait 3 (hds c2 c3 l)) av ∧ Bk w' w.heap.size 36 #[.int .i64 hS, .int .i64 hG]) := by
    refine (hretire_any HK11.out.1.1 q2 n2 d2 (hds c2 c3 l) HEL.out.2.1 HK11.out.2.2 (fun b o e => by have := HEL.out.2.2.2 b o e; simp [this]) HEL.out.2.2.1 (by show h.e.cur.length ≤ _; omega)).mono ?_
    rintro e w12 ⟨rfl, ha⟩
    exact ⟨rfl, HK11.out.1.call ha, ha.blk (by simp) HK11.out.2.1⟩
  go_wp2_with fail
  refine HRT.out.mono ?_
  rintro e w12 ⟨rfl, K12, k12⟩
  have HK12 : Hid (MidH m w (F :: (Q ++ [C, w.heap.size])) w12 H cB vB eB ((h.setC hS.toNat ⟨c1, 0, 0, true⟩).wait 3 (hds c2 c3 l)) av) := K12
  have HL2 : Hid ((hds c2 c3 l).length ≤ 65536) := by unfold Hid; rw [HEL.out.2.1]; exact HEL.out.2.2.1
  have HRC : Hid (Calls Try.prog 52 #[.pointer (some ⟨eB, 0, none⟩), .agg #[.int .i64 4, .int .i64 hS, .int .i64 hG]] w12.drew fun r w' => r = .returned (.int .i64 0) ∧ MidH m w (F :: (Q ++ [C, w.heap.size])) w' H cB vB eB (h.retired hS hG ⟨c1, c2, c3, true⟩ l) av ∧ Bk w' w.heap.size 36 #[.int .i64 hS, .int .i64 hG]) := by
    have K := HK12.out.quiet (Tn.refl [] _).drew
    obtain ⟨cb, vb, eb, hI⟩ := K.1
    refine (retire_any hI.e ⟨4, hS, hG⟩ (by have := HL2.out; simp [Hp.wait, Hp.setC]; omega)).mono ?_
    rintro e w13 ⟨rfl, ht⟩
    have ha := hI.stepE ht
    have e : h.retired hS hG ⟨c1, c2, c3, true⟩ l = { ((h.setC hS.toNat ⟨c1, 0, 0, true⟩).wait 3 (hds c2 c3 l)) with e := ((h.setC hS.toNat ⟨c1, 0, 0, true⟩).wait 3 (hds c2 c3 l)).e.retire ⟨4, hS, hG⟩ } := by
      simp [Hp.retired, Hp.wait, Ep.retire]
    rw [e]
    exact ⟨rfl, K.call ha, ha.blk (by simp) k12.drew⟩
  have s0 : w12.cell? ⟨H, 2, none⟩ = some (.pointer (some ⟨eB, 0, none⟩)) := HK12.out.1.ptrs.2.2
  have s1 : w12.cell? ⟨w.heap.size, 0, none⟩ = some (.int .i64 hS) := k12.cell 0
  have s2 : w12.cell? ⟨w.heap.size, 1, none⟩ = some (.int .i64 hG) := k12.cell 1
  clear K12 k12 HRT HSET HK11 HEL hcu
  go_wp2_with fail
  go_region_held3 (fun w' => w'.cell? ⟨H, 2, none⟩ = some (.pointer (some ⟨eB, 0, none⟩)) ∧ w'.cell? ⟨w.heap.size, 0, none⟩ = some (.int .i64 hS) ∧ w'.cell? ⟨w.heap.size, 1, none⟩ = some (.int .i64 hG)) (go_keep) (first
    | (go_at_call 52; refine HRC.out.mono ?_; rintro e w13 ⟨rfl, K13, k13⟩; have HK13 : Hid (MidH m w (F :: (Q ++ [C, w.heap.size])) w13 H cB vB eB (h.retired hS hG ⟨c1, c2, c3, true⟩ l) av) := K13; have r0 : w13.cell? ⟨H, 2, none⟩ = some (.pointer (some ⟨eB, 0, none⟩)) := HK13.out.1.ptrs.2.2; have r1 : w13.cell? ⟨w.heap.size, 0, none⟩ = some (.int .i64 hS) := k13.cell 0; have r2 : w13.cell? ⟨w.heap.size, 1, none⟩ = some (.int .i64 hG) := k13.cell 1; clear K13 k13))
  go_wp2
  go_ret
  exact ⟨rfl, HK13.out.fin⟩

end Go.Proofs.Ytbdcdiihaecheaa

namespace Go.Proofs.Ytbdcdiihaecheaa
open Go.RowKit
set_option linter.unusedVariables false
set_option maxRecDepth 100000
set_option linter.unusedSectionVars false
variable [Inhabited Cl] [Inhabited Ln]

variable {m : Nat} {w w1 w2 w' : World} {H cB vB eB : Nat} {cb vb eb : List Nat} {h h' : Hp} {av L L' : List Nat}

/-- Stale, where nothing was. -/
theorem hstale_zero (hh : Hpn m w H cB vB eB h av) (h1 : h.c.stale = 0) (h2 : h.v.stale = 0) : Calls Try.prog 16 #[.pointer (some ⟨H, 0, none⟩)] w fun e w' => e = .returned (.int .i64 0) ∧ Below w.heap.size w w' := by
  obtain ⟨cb, vb, eb, hh⟩ := hh
  obtain ⟨p0, p1, p2⟩ := hh.ptrs
  have HC : Hid (∀ k, Calls Try.prog 48 #[.pointer (some ⟨cB, 0, none⟩)] (w.drewN k) fun e w' => e = .returned (.int .i64 0) ∧ w' = w.drewN k) := fun k => (staleC (hh.c.tn (Tn.of_below (below_drewN (Below.refl _ w) k) []) (by simp))).mono fun e w' ⟨he, hk⟩ => ⟨by rw [he, h1], hk⟩
  have HV : Hid (∀ k, Calls Try.prog 49 #[.pointer (some ⟨vB, 0, none⟩)] (w.drewN k) fun e w' => e = .returned (.int .i64 0) ∧ w' = w.drewN k) := fun k => (staleL (hh.v.tn (Tn.of_below (below_drewN (Below.refl _ w) k) []) (by simp))).mono fun e w' ⟨he, hk⟩ => ⟨by rw [he, h2], hk⟩
  have HB : Hid (Below w.heap.size w w.drew) := below_drewN (Below.refl _ w) 1
  clear hh h1 h2
  go_enter Try.func16, Try.ntmps16
  go_wp2_with fail
  refine (hmade_ok p0).mono ?_
  rintro e w' ⟨rfl, rfl⟩
  go_wp2_with fail
  go_region_held3 (fun W => W.cell? ⟨H, 0, none⟩ = some (.pointer (some ⟨cB, 0, none⟩)) ∧ W.cell? ⟨H, 1, none⟩ = some (.pointer (some ⟨vB, 0, none⟩))) (go_keep) (first
    | (go_at_call 48; refine (HC.out 1).mono ?_; rintro e w3 ⟨rfl, rfl⟩)
    | (go_at_call 49; refine (HV.out 1).mono ?_; rintro e w3 ⟨rfl, rfl⟩))
  all_goals
    go_wp2
    go_ret
    exact ⟨rfl, HB.out⟩

theorem hcells_good (hh : Hpn m w H cB vB eB h av) : Calls Try.prog 19 #[.pointer (some ⟨H, 0, none⟩)] w fun e w' => e = .returned (.int .i64 (live h.c.us)) ∧ Below w.heap.size w w' := by
  obtain ⟨cb, vb, eb, hh⟩ := hh
  obtain ⟨p0, p1, p2⟩ := hh.ptrs
  have HL : Hid (Calls Try.prog 53 #[.pointer (some ⟨cB, 0, none⟩)] w fun e w' => e = .returned (.int .i64 (live h.c.us)) ∧ Below w.heap.size w w') := (livedC hh.c).mono fun e w' ⟨he, k, hk⟩ => ⟨he, by rw [hk]; exact below_drewN (Below.refl _ w) k⟩
  clear hh
  go_enter Try.func19, Try.ntmps19
  go_wp2_with fail
  refine (hmade_ok p0).mono ?_
  rintro e w' ⟨rfl, rfl⟩
  go_wp2_with fail
  refine HL.out.mono ?_
  rintro e w3 ⟨rfl, hb⟩
  go_wp2
  go_ret
  exact ⟨rfl, hb⟩

theorem hversions_good (hh : Hpn m w H cB vB eB h av) : Calls Try.prog 20 #[.pointer (some ⟨H, 0, none⟩)] w fun e w' => e = .returned (.int .i64 (live h.v.us)) ∧ Below w.heap.size w w' := by
  obtain ⟨cb, vb, eb, hh⟩ := hh
  obtain ⟨p0, p1, p2⟩ := hh.ptrs
  have HL : Hid (Calls Try.prog 54 #[.pointer (some ⟨vB, 0, none⟩)] w fun e w' => e = .returned (.int .i64 (live h.v.us)) ∧ Below w.heap.size w w') := (livedL hh.v).mono fun e w' ⟨he, k, hk⟩ => ⟨he, by rw [hk]; exact below_drewN (Below.refl _ w) k⟩
  clear hh
  go_enter Try.func20, Try.ntmps20
  go_wp2_with fail
  refine (hmade_ok p0).mono ?_
  rintro e w' ⟨rfl, rfl⟩
  go_wp2_with fail
  refine HL.out.mono ?_
  rintro e w3 ⟨rfl, hb⟩
  go_wp2
  go_ret
  exact ⟨rfl, hb⟩

/-- A version is freed. -/
theorem hfree_ver (hh : Hpn m w H cB vB eB h av) (hS hG : Int) (hg : h.v.Good hS hG) : Calls Try.prog 22 #[.pointer (some ⟨H, 0, none⟩), .agg #[.int .i64 3, .int .i64 hS, .int .i64 hG]] w fun e w' => e = .returned (.int .i64 0) ∧ AftH m w w' H cB vB eB { h with v := h.v.free hS.toNat Ln.zero } av := by
  obtain ⟨w2, hw2, hz2, hk⟩ : ∃ w2, w.alloc (.cells #[.int .i64 3, .int .i64 hS, .int .i64 hG] 59) = w2 ∧ w2.heap.size = w.heap.size + 1 ∧ Bk w2 w.heap.size 59 #[.int .i64 3, .int .i64 hS, .int .i64 hG] := ⟨_, rfl, by simp, Bk.new _ _ _⟩
  have t2 : Tn [] w w2 := by rw [← hw2]; exact (Tn.refl _ _).alloc _
  have K2 : MidH m w [w.heap.size] w2 H cB vB eB h av := (MidH.start hh).new t2 (by simp) (by simp; omega)
  have HK2 : Hid (MidH m w [w.heap.size] w2 H cB vB eB h av) := K2
  have HF : Hid (Calls Try.prog 58 #[.pointer (some ⟨vB, 0, none⟩), .agg #[.int .i64 hS, .int .i64 hG]] w2.drew fun e w' => e = .returned (.int .i64 0) ∧ MidH m w [w.heap.size] w' H cB vB eB { h with v := h.v.free hS.toNat Ln.zero } av ∧ Bk w' w.heap.size 59 #[.int .i64 3, .int .i64 hS, .int .i64 hG]) := by
    have K := HK2.out.quiet (Tn.refl [] _).drew
    obtain ⟨cb, vb, eb, hI⟩ := K.1
    refine (freeGoodL hI.v hS hG hg).mono ?_
    rintro e w3 ⟨rfl, ht⟩
    have ha := hI.stepV ht
    exact ⟨rfl, K.call ha, ha.blk (by simp) hk.drew⟩
  have p0 : w2.cell? ⟨H, 0, none⟩ = some (.pointer (some ⟨cB, 0, none⟩)) := K2.1.ptrs.1
  have p1 : w2.cell? ⟨H, 1, none⟩ = some (.pointer (some ⟨vB, 0, none⟩)) := K2.1.ptrs.2.1
  have a0 : w2.cell? ⟨w.heap.size, 0, none⟩ = some (.int .i64 3) := hk.cell 0
  have a1 : w2.cell? ⟨w.heap.size, 1, none⟩ = some (.int .i64 hS) := hk.cell 1
  have a2 : w2.cell? ⟨w.heap.size, 2, none⟩ = some (.int .i64 hG) := hk.cell 2
  clear K2 hk t2 hh hg
  go_enter Try.func22, Try.ntmps22
  go_wp2_with fail
  refine (hmade_ok p0).mono ?_
  rintro e w' ⟨rfl, rfl⟩
  go_wp2_with fail
  go_region_held3 (fun W => W.cell? ⟨H, 1, none⟩ = some (.pointer (some ⟨vB, 0, none⟩)) ∧ W.cell? ⟨w.heap.size, 0, none⟩ = some (.int .i64 3) ∧ W.cell? ⟨w.heap.size, 1, none⟩ = some (.int .i64 hS) ∧ W.cell? ⟨w.heap.size, 2, none⟩ = some (.int .i64 hG)) (go_keep) (first
    | (go_at_call 58; refine HF.out.mono ?_; rintro e w3 ⟨rfl, K3, k3⟩; have HK3 : Hid (MidH m w [w.heap.size] w3 H cB vB eB { h with v := h.v.free hS.toNat Ln.zero } av) := K3; have o0 : w3.cell? ⟨H, 1, none⟩ = some (.pointer (some ⟨vB, 0, none⟩)) := HK3.out.1.ptrs.2.1; have o1 : w3.cell? ⟨w.heap.size, 0, none⟩ = some (.int .i64 3) := k3.cell 0; have o2 : w3.cell? ⟨w.heap.size, 1, none⟩ = some (.int .i64 hS) := k3.cell 1; have o3 : w3.cell? ⟨w.heap.size, 2, none⟩ = some (.int .i64 hG) := k3.cell 2; clear K3 k3))
  go_wp2
  go_ret
  exact ⟨rfl, HK3.out.fin⟩

/-- A cell is freed. -/
theorem hfree_cell (hh : Hpn m w H cB vB eB h av) (hS hG : Int) (hg : h.c.Good hS hG) : Calls Try.prog 22 #[.pointer (some ⟨H, 0, none⟩), .agg #[.int .i64 4, .int .i64 hS, .int .i64 hG]] w fun e w' => e = .returned (.int .i64 0) ∧ AftH m w w' H cB vB eB { h with c := h.c.free hS.toNat Cl.zero } av := by
  obtain ⟨w2, hw2, hz2, hk⟩ : ∃ w2, w.alloc (.cells #[.int .i64 4, .int .i64 hS, .int .i64 hG] 59) = w2 ∧ w2.heap.size = w.heap.size + 1 ∧ Bk w2 w.heap.size 59 #[.int .i64 4, .int .i64 hS, .int .i64 hG] := ⟨_, rfl, by simp, Bk.new _ _ _⟩
  have t2 : Tn [] w w2 := by rw [← hw2]; exact (Tn.refl _ _).alloc _
  have K2 : MidH m w [w.heap.size] w2 H cB vB eB h av := (MidH.start hh).new t2 (by simp) (by simp; omega)
  have HK2 : Hid (MidH m w [w.heap.size] w2 H cB vB eB h av) := K2
  have HF : Hid (Calls Try.prog 59 #[.pointer (some ⟨cB, 0, none⟩), .agg #[.int .i64 hS, .int .i64 hG]] w2.drew fun e w' => e = .returned (.int .i64 0) ∧ MidH m w [w.heap.size] w' H cB vB eB { h with c := h.c.free hS.toNat Cl.zero } av ∧ Bk w' w.heap.size 59 #[.int .i64 4, .int .i64 hS, .int .i64 hG]) := by
    have K := HK2.out.quiet (Tn.refl [] _).drew
    obtain ⟨cb, vb, eb, hI⟩ := K.1
    refine (freeGoodC hI.c hS hG hg).mono ?_
    rintro e w3 ⟨rfl, ht⟩
    have ha := hI.stepC ht
    exact ⟨rfl, K.call ha, ha.blk (by simp) hk.drew⟩
  have p0 : w2.cell? ⟨H, 0, none⟩ = some (.pointer (some ⟨cB, 0, none⟩)) := K2.1.ptrs.1
  have a0 : w2.cell? ⟨w.heap.size, 0, none⟩ = some (.int .i64 4) := hk.cell 0
  have a1 : w2.cell? ⟨w.heap.size, 1, none⟩ = some (.int .i64 hS) := hk.cell 1
  have a2 : w2.cell? ⟨w.heap.size, 2, none⟩ = some (.int .i64 hG) := hk.cell 2
  clear K2 hk t2 hh hg
  go_enter Try.func22, Try.ntmps22
  go_wp2_with fail
  refine (hmade_ok p0).mono ?_
  rintro e w' ⟨rfl, rfl⟩
  go_wp2_with fail
  go_region_held3 (fun W => W.cell? ⟨H, 0, none⟩ = some (.pointer (some ⟨cB, 0, none⟩)) ∧ W.cell? ⟨w.heap.size, 0, none⟩ = some (.int .i64 4) ∧ W.cell? ⟨w.heap.size, 1, none⟩ = some (.int .i64 hS) ∧ W.cell? ⟨w.heap.size, 2, none⟩ = some (.int .i64 hG)) (go_keep) (first
    | (go_at_call 59; refine HF.out.mono ?_; rintro e w3 ⟨rfl, K3, k3⟩; have HK3 : Hid (MidH m w [w.heap.size] w3 H cB vB eB { h with c := h.c.free hS.toNat Cl.zero } av) := K3; have o0 : w3.cell? ⟨H, 0, none⟩ = some (.pointer (some ⟨cB, 0, none⟩)) := HK3.out.1.ptrs.1; have o1 : w3.cell? ⟨w.heap.size, 0, none⟩ = some (.int .i64 4) := k3.cell 0; have o2 : w3.cell? ⟨w.heap.size, 1, none⟩ = some (.int .i64 hS) := k3.cell 1; have o3 : w3.cell? ⟨w.heap.size, 2, none⟩ = some (.int .i64 hG) := k3.cell 2; clear K3 k3))
  go_wp2
  go_ret
  exact ⟨rfl, HK3.out.fin⟩

end Go.Proofs.Ytbdcdiihaecheaa

namespace Go.Proofs.Ytbdcdiihaecheaa
open Go.RowKit
set_option linter.unusedVariables false
set_option maxRecDepth 100000
set_option linter.unusedSectionVars false
variable [Inhabited Cl] [Inhabited Ln]

variable {m : Nat} {w w1 w2 w' : World} {H cB vB eB : Nat} {cb vb eb : List Nat} {h h' : Hp} {av L L' : List Nat}

theorem retired_yes (w : World) (x : Cl) (hx : x.closed = true) (hg : x.s = 0 ∧ x.g = 0) : Calls Try.prog 75 #[x.v] w fun e w' => e = .returned (.bool true) ∧ Below w.heap.size w w' := by
  obtain ⟨c1, c2, c3, c4⟩ := x
  obtain rfl : c4 = true := hx
  have hd : decide (c2 = 0 ∧ c3 = 0) = true := decide_eq_true hg
  obtain ⟨w1, hw1, hb1, hk1⟩ : ∃ w1, w.alloc (.cells #[.string c1, .int .i64 c2, .int .i64 c3, .bool true] 93) = w1 ∧ Below w.heap.size w w1 ∧ Bk w1 w.heap.size 93 #[.string c1, .int .i64 c2, .int .i64 c3, .bool true] := ⟨_, rfl, (Below.refl _ w).alloc (Nat.le_refl _) _, Bk.new _ _ _⟩
  have c0' : w1.cell? ⟨w.heap.size, 0, none⟩ = some (.string c1) := hk1.cell 0
  have c1' : w1.cell? ⟨w.heap.size, 1, none⟩ = some (.int .i64 c2) := hk1.cell 1
  have c2' : w1.cell? ⟨w.heap.size, 2, none⟩ = some (.int .i64 c3) := hk1.cell 2
  have c3' : w1.cell? ⟨w.heap.size, 3, none⟩ = some (.bool true) := hk1.cell 3
  have HB1 : Hid (Below w.heap.size w w1) := hb1
  clear hb1 hk1 hg
  go_enter Try.func75, Try.ntmps75
  go_wp2_with fail
  refine (empty_any w1 ⟨c1, c2, c3, true⟩).mono ?_
  rintro e w2 ⟨rfl, hb2⟩
  have HB2 : Hid (Below w.heap.size w w2) := HB1.out.trans (hb2.mono HB1.out.size)
  clear hb2
  rw [hd]
  go_wp2
  go_ret
  exact ⟨rfl, HB2.out⟩

set_option maxHeartbeats 1000000 in
/-- One that was retired. -/
theorem closedCell_retired (hh : Hpn m w H cB vB eB h av) (hS hG : Int) (hg : h.c.Good hS hG) (hcd : (slAt h.c.us hS.toNat).val.closed = true) (hne : (slAt h.c.us hS.toNat).val.s = 0 ∧ (slAt h.c.us hS.toNat).val.g = 0) :
    Calls Try.prog 50 #[.pointer (some ⟨H, 0, none⟩), .agg #[.int .i64 hS, .int .i64 hG]] w fun e w' => e = .returned (.tuple #[Cl.zero.v, .int .i64 162]) ∧ Below w.heap.size w w' := by
  obtain ⟨w2, hw2, hz2, hk1, hk2⟩ : ∃ w2, (w.alloc (.cells #[.int .i64 hS, .int .i64 hG] 36)).alloc (.cells #[.string ⟨#[]⟩, .int .i64 0, .int .i64 0, .bool false] 93) = w2 ∧ w2.heap.size = w.heap.size + 2 ∧ Bk w2 w.heap.size 36 #[.int .i64 hS, .int .i64 hG] ∧ Bk w2 (w.heap.size + 1) 93 #[.string ⟨#[]⟩, .int .i64 0, .int .i64 0, .bool false] := ⟨_, rfl, by simp, (Bk.new _ _ _).alloc _, bk_new2 _ _ _ _⟩
  have hb2 : Below w.heap.size w w2 := by rw [← hw2]; exact ((Below.refl _ w).alloc (Nat.le_refl _) _).alloc (by simp) _
  have a0 : w2.cell? ⟨w.heap.size, 0, none⟩ = some (.int .i64 hS) := hk1.cell 0
  have a1 : w2.cell? ⟨w.heap.size, 1, none⟩ = some (.int .i64 hG) := hk1.cell 1
  have HK2 : Hid (Bk w2 (w.heap.size + 1) 93 #[.string ⟨#[]⟩, .int .i64 0, .int .i64 0, .bool false] ∧ Below w.heap.size w w2 ∧ w2.heap.size = w.heap.size + 2) := ⟨hk2, hb2, hz2⟩
  obtain ⟨cl, hcl⟩ : ∃ cl, (slAt h.c.us hS.toNat).val = cl := ⟨_, rfl⟩
  have hlk := hlook_good (hh.below hb2) hS hG hg
  rw [hcl] at hlk hne hcd
  obtain ⟨c1, c2, c3, c4⟩ := cl
  obtain rfl : c4 = true := hcd
  have HLK : Hid (Calls Try.prog 43 #[.pointer (some ⟨H, 0, none⟩), .agg #[.int .i64 hS, .int .i64 hG]] w2 fun e w' => e = .returned (.tuple #[.agg #[.string c1, .int .i64 c2, .int .i64 c3, .bool true], .int .i64 0]) ∧ Below w2.heap.size w2 w') := hlk
  have HNE : Hid (c2 = 0 ∧ c3 = 0) := hne
  clear hh hg hlk hne hk1 hk2 hb2 hcl
  go_enter Try.func50, Try.ntmps50
  go_wp2_with fail
  refine HLK.out.mono ?_
  rintro e w3 ⟨rfl, hb3⟩
  obtain ⟨w4, hw4, hk4⟩ : ∃ w4, w3.alloc (.cells #[.string c1, .int .i64 c2, .int .i64 c3, .bool true] 93) = w4 ∧ Bk w4 w3.heap.size 93 #[.string c1, .int .i64 c2, .int .i64 c3, .bool true] := ⟨_, rfl, Bk.new _ _ _⟩
  have hb34 : Below w3.heap.size w3 w4 := by rw [← hw4]; exact (Below.refl _ _).alloc (Nat.le_refl _) _
  have HB4 : Hid (Below w2.heap.size w2 w4 ∧ Bk w4 w3.heap.size 93 #[.string c1, .int .i64 c2, .int .i64 c3, .bool true]) := ⟨hb3.trans (hb34.mono hb3.size), hk4⟩
  have c0' : w4.cell? ⟨w3.heap.size, 0, none⟩ = some (.string c1) := hk4.cell 0
  have c1' : w4.cell? ⟨w3.heap.size, 1, none⟩ = some (.int .i64 c2) := hk4.cell 1
  have c2' : w4.cell? ⟨w3.heap.size, 2, none⟩ = some (.int .i64 c3) := hk4.cell 2
  have c3' : w4.cell? ⟨w3.heap.size, 3, none⟩ = some (.bool true) := hk4.cell 3
  have hz3 := hb3.size
  have hC : ¬ w3.heap.size = w.heap.size + 1 := by have := HK2.out.2.2; omega
  have hC2 : ¬ w.heap.size + 1 = w3.heap.size := fun e => hC e.symm
  clear hk4 hb3 hb34 hz3 HLK
  go_wp2_with fail
  refine (retired_yes w4 ⟨c1, c2, c3, true⟩ rfl HNE.out).mono ?_
  rintro e w5 ⟨rfl, hb5⟩
  have hb25 := HB4.out.1.trans (hb5.mono HB4.out.1.size)
  have HR5 : Hid (Bk w5 (w.heap.size + 1) 93 #[.string ⟨#[]⟩, .int .i64 0, .int .i64 0, .bool false] ∧ Below w.heap.size w w5) := ⟨HK2.out.1.tn (Tn.of_below hb25 []) (by simp), HK2.out.2.1.trans (hb25.mono HK2.out.2.1.size)⟩
  have y0 : w5.cell? ⟨w.heap.size + 1, 0, none⟩ = some (.string ⟨#[]⟩) := HR5.out.1.cell 0
  have y1 : w5.cell? ⟨w.heap.size + 1, 1, none⟩ = some (.int .i64 0) := HR5.out.1.cell 1
  have y2 : w5.cell? ⟨w.heap.size + 1, 2, none⟩ = some (.int .i64 0) := HR5.out.1.cell 2
  have y3 : w5.cell? ⟨w.heap.size + 1, 3, none⟩ = some (.bool false) := HR5.out.1.cell 3
  have g0 : w5.frozen? ⟨w.heap.size + 1, 0, none⟩ = false := HR5.out.1.frozen 0
  have g1 : w5.frozen? ⟨w.heap.size + 1, 1, none⟩ = false := HR5.out.1.frozen 1
  have g2 : w5.frozen? ⟨w.heap.size + 1, 2, none⟩ = false := HR5.out.1.frozen 2
  have g3 : w5.frozen? ⟨w.heap.size + 1, 3, none⟩ = false := HR5.out.1.frozen 3
  clear hb25 hb5 c0' c1' c2' c3'
  go_wp2
  refine bodyPost_ret (results_elC (x := Cl.zero) rfl rfl (by exact (((HR5.out.1.set 0 _).set 1 _).set 2 _).set 3 _)) rfl ?_
  exact ⟨rfl, (((HR5.out.2.setCell (Nat.le_succ _) _).setCell (Nat.le_succ _) _).setCell (Nat.le_succ _) _).setCell (Nat.le_succ _) _⟩

set_option maxHeartbeats 1000000 in
/-- One that is not closed. -/
theorem closedCell_open (hh : Hpn m w H cB vB eB h av) (hS hG : Int) (hg : h.c.Good hS hG) (hcd : (slAt h.c.us hS.toNat).val.closed = false) :
    Calls Try.prog 50 #[.pointer (some ⟨H, 0, none⟩), .agg #[.int .i64 hS, .int .i64 hG]] w fun e w' => e = .returned (.tuple #[Cl.zero.v, .int .i64 162]) ∧ Below w.heap.size w w' := by
  obtain ⟨w2, hw2, hz2, hk1, hk2⟩ : ∃ w2, (w.alloc (.cells #[.int .i64 hS, .int .i64 hG] 36)).alloc (.cells #[.string ⟨#[]⟩, .int .i64 0, .int .i64 0, .bool false] 93) = w2 ∧ w2.heap.size = w.heap.size + 2 ∧ Bk w2 w.heap.size 36 #[.int .i64 hS, .int .i64 hG] ∧ Bk w2 (w.heap.size + 1) 93 #[.string ⟨#[]⟩, .int .i64 0, .int .i64 0, .bool false] := ⟨_, rfl, by simp, (Bk.new _ _ _).alloc _, bk_new2 _ _ _ _⟩
  have hb2 : Below w.heap.size w w2 := by rw [← hw2]; exact ((Below.refl _ w).alloc (Nat.le_refl _) _).alloc (by simp) _
  have a0 : w2.cell? ⟨w.heap.size, 0, none⟩ = some (.int .i64 hS) := hk1.cell 0
  have a1 : w2.cell? ⟨w.heap.size, 1, none⟩ = some (.int .i64 hG) := hk1.cell 1
  have HK2 : Hid (Bk w2 (w.heap.size + 1) 93 #[.string ⟨#[]⟩, .int .i64 0, .int .i64 0, .bool false] ∧ Below w.heap.size w w2 ∧ w2.heap.size = w.heap.size + 2) := ⟨hk2, hb2, hz2⟩
  obtain ⟨cl, hcl⟩ : ∃ cl, (slAt h.c.us hS.toNat).val = cl := ⟨_, rfl⟩
  have hlk := hlook_good (hh.below hb2) hS hG hg
  rw [hcl] at hlk hcd
  obtain ⟨c1, c2, c3, c4⟩ := cl
  obtain rfl : c4 = false := hcd
  have HLK : Hid (Calls Try.prog 43 #[.pointer (some ⟨H, 0, none⟩), .agg #[.int .i64 hS, .int .i64 hG]] w2 fun e w' => e = .returned (.tuple #[.agg #[.string c1, .int .i64 c2, .int .i64 c3, .bool false], .int .i64 0]) ∧ Below w2.heap.size w2 w') := hlk
  clear hh hg hlk hk1 hk2 hb2 hcl
  go_enter Try.func50, Try.ntmps50
  go_wp2_with fail
  refine HLK.out.mono ?_
  rintro e w3 ⟨rfl, hb3⟩
  obtain ⟨C, hC⟩ : ∃ C, w3.heap.size = C := ⟨_, rfl⟩
  obtain ⟨wz, hwz, hzz, hkz⟩ : ∃ wz, w3.alloc (.cells #[.string ⟨#[]⟩, .int .i64 0, .int .i64 0, .bool false] 93) = wz ∧ wz.heap.size = w3.heap.size + 1 ∧ Bk wz C 93 #[.string ⟨#[]⟩, .int .i64 0, .int .i64 0, .bool false] := ⟨_, rfl, by simp, by rw [← hC]; exact Bk.new _ _ _⟩
  have z0 : wz.cell? ⟨C, 0, none⟩ = some (.string ⟨#[]⟩) := hkz.cell 0
  have z1 : wz.cell? ⟨C, 1, none⟩ = some (.int .i64 0) := hkz.cell 1
  have z2 : wz.cell? ⟨C, 2, none⟩ = some (.int .i64 0) := hkz.cell 2
  have z3 : wz.cell? ⟨C, 3, none⟩ = some (.bool false) := hkz.cell 3
  have x0 : wz.frozen? ⟨C, 0, none⟩ = false := hkz.frozen 0
  have x1 : wz.frozen? ⟨C, 1, none⟩ = false := hkz.frozen 1
  have x2 : wz.frozen? ⟨C, 2, none⟩ = false := hkz.frozen 2
  have x3 : wz.frozen? ⟨C, 3, none⟩ = false := hkz.frozen 3
  obtain ⟨w4, hw4, hk4, t34⟩ : ∃ w4, (((wz.setCell ⟨C, 0, none⟩ (.string c1)).setCell ⟨C, 1, none⟩ (.int .i64 c2)).setCell ⟨C, 2, none⟩ (.int .i64 c3)).setCell ⟨C, 3, none⟩ (.bool false) = w4 ∧ Bk w4 C 93 #[.string c1, .int .i64 c2, .int .i64 c3, .bool false] ∧ Tn [] w3 w4 := ⟨_, rfl, (((hkz.set 0 _).set 1 _).set 2 _).set 3 _, by rw [← hwz, ← hC]; exact (((((Tn.refl [] w3).alloc _).setCell (.inr (Nat.le_refl _)) _).setCell (.inr (Nat.le_refl _)) _).setCell (.inr (Nat.le_refl _)) _).setCell (.inr (Nat.le_refl _)) _⟩
  have t24 : Tn [] w2 w4 := (Tn.of_below hb3 []).trans t34 (by simp)
  have HR5 : Hid (Bk w4 (w.heap.size + 1) 93 #[.string ⟨#[]⟩, .int .i64 0, .int .i64 0, .bool false] ∧ Below w.heap.size w w4) := ⟨HK2.out.1.tn t24 (by simp), HK2.out.2.1.trans (t24.below HK2.out.2.1.size (by simp))⟩
  have c3' : w4.cell? ⟨C, 3, none⟩ = some (.bool false) := hk4.cell 3
  have y0 : w4.cell? ⟨w.heap.size + 1, 0, none⟩ = some (.string ⟨#[]⟩) := HR5.out.1.cell 0
  have y1 : w4.cell? ⟨w.heap.size + 1, 1, none⟩ = some (.int .i64 0) := HR5.out.1.cell 1
  have y2 : w4.cell? ⟨w.heap.size + 1, 2, none⟩ = some (.int .i64 0) := HR5.out.1.cell 2
  have y3 : w4.cell? ⟨w.heap.size + 1, 3, none⟩ = some (.bool false) := HR5.out.1.cell 3
  have g0 : w4.frozen? ⟨w.heap.size + 1, 0, none⟩ = false := HR5.out.1.frozen 0
  have g1 : w4.frozen? ⟨w.heap.size + 1, 1, none⟩ = false := HR5.out.1.frozen 1
  have g2 : w4.frozen? ⟨w.heap.size + 1, 2, none⟩ = false := HR5.out.1.frozen 2
  have g3 : w4.frozen? ⟨w.heap.size + 1, 3, none⟩ = false := HR5.out.1.frozen 3
  have hC1 : ¬ C = w.heap.size + 1 := by have := HK2.out.2.2; have := hb3.size; omega
  have hC2 : ¬ w.heap.size + 1 = C := fun e => hC1 e.symm
  clear hk4 hb3 t34 t24 HLK hkz
  go_wp2
  refine bodyPost_ret (results_elC (x := Cl.zero) rfl rfl (by exact (((HR5.out.1.set 0 _).set 1 _).set 2 _).set 3 _)) rfl ?_
  exact ⟨rfl, (((HR5.out.2.setCell (Nat.le_succ _) _).setCell (Nat.le_succ _) _).setCell (Nat.le_succ _) _).setCell (Nat.le_succ _) _⟩

end Go.Proofs.Ytbdcdiihaecheaa

namespace Go.Proofs.Ytbdcdiihaecheaa
open Go.RowKit
set_option linter.unusedVariables false
set_option maxRecDepth 100000
set_option linter.unusedSectionVars false
variable [Inhabited Cl] [Inhabited Ln]

variable {m : Nat} {w w1 w2 w' : World} {H cB vB eB : Nat} {cb vb eb : List Nat} {h h' : Hp} {av L L' : List Nat}

set_option maxHeartbeats 1000000 in
theorem reopen_good (hh : Hpn m w H cB vB eB h av) (hS hG : Int) (hg : h.c.Good hS hG) (hne : 1 ≤ (slAt h.c.us hS.toNat).val.g) (hcd : (slAt h.c.us hS.toNat).val.closed = true) :
    Calls Try.prog 17 #[.pointer (some ⟨H, 0, none⟩), .agg #[.int .i64 hS, .int .i64 hG]] w fun e w' => e = .returned (.int .i64 0) ∧ AftH m w w' H cB vB eB (h.setC hS.toNat { (slAt h.c.us hS.toNat).val with closed := false }) av := by
  obtain ⟨w2, hw2, hz2, hk1⟩ : ∃ w2, w.alloc (.cells #[.int .i64 hS, .int .i64 hG] 36) = w2 ∧ w2.heap.size = w.heap.size + 1 ∧ Bk w2 w.heap.size 36 #[.int .i64 hS, .int .i64 hG] := ⟨_, rfl, by simp, Bk.new _ _ _⟩
  have t2 : Tn [] w w2 := by rw [← hw2]; exact (Tn.refl _ _).alloc _
  have K2 : MidH m w [w.heap.size] w2 H cB vB eB h av := (MidH.start hh).new t2 (by simp) (by simp; omega)
  have HK2 : Hid (MidH m w [w.heap.size] w2 H cB vB eB h av) := K2
  have HA2 : Hid (Bk w2 w.heap.size 36 #[.int .i64 hS, .int .i64 hG]) := hk1
  have a0 : w2.cell? ⟨w.heap.size, 0, none⟩ = some (.int .i64 hS) := hk1.cell 0
  have a1 : w2.cell? ⟨w.heap.size, 1, none⟩ = some (.int .i64 hG) := hk1.cell 1
  have hlk := closedCell_good K2.1 hS hG hg hcd hne
  obtain ⟨cl, hcl⟩ : ∃ cl, (slAt h.c.us hS.toNat).val = cl := ⟨_, rfl⟩
  rw [hcl] at hlk hcd ⊢
  obtain ⟨c1, c2, c3, c4⟩ := cl
  obtain rfl : c4 = true := hcd
  have HLK : Hid (Calls Try.prog 50 #[.pointer (some ⟨H, 0, none⟩), .agg #[.int .i64 hS, .int .i64 hG]] w2 fun e w' => e = .returned (.tuple #[.agg #[.string c1, .int .i64 c2, .int .i64 c3, .bool true], .int .i64 0]) ∧ Below w2.heap.size w2 w') := hlk
  have HG : Hid (h.c.Good hS hG) := hg
  clear hh t2 K2 hk1 hg hcl hlk hne
  go_enter Try.func17, Try.ntmps17
  go_wp2_with fail
  refine HLK.out.mono ?_
  rintro e w3 ⟨rfl, hb3⟩
  obtain ⟨C, hC⟩ : ∃ C, w3.heap.size = C := ⟨_, rfl⟩
  obtain ⟨w5, hw5, hk5, t35⟩ : ∃ w5, w3.alloc (.cells #[.string c1, .int .i64 c2, .int .i64 c3, .bool true] 93) = w5 ∧ Bk w5 C 93 #[.string c1, .int .i64 c2, .int .i64 c3, .bool true] ∧ Tn [] w3 w5 := ⟨_, rfl, by rw [← hC]; exact Bk.new _ _ _, (Tn.refl _ _).alloc _⟩
  have hz3 := hb3.size
  have hlt5 := hk5.lt
  have HK5 : Hid (MidH m w [C, w.heap.size] w5 H cB vB eB h av) := (HK2.out.quiet (Tn.of_below hb3 [])).new t35 (by rw [← hC]; simp) (by have := t35.size; simp; omega)
  have HA5 : Hid (Bk w5 w.heap.size 36 #[.int .i64 hS, .int .i64 hG] ∧ Bk w5 C 93 #[.string c1, .int .i64 c2, .int .i64 c3, .bool true] ∧ w.heap.size ≠ C) := ⟨(HA2.out.tn (Tn.of_below hb3 []) (by simp)).tn t35 (by simp), hk5, by omega⟩
  have g3 : w5.cell? ⟨C, 3, none⟩ = some (.bool true) := HA5.out.2.1.cell 3
  have k3 : w5.frozen? ⟨C, 3, none⟩ = false := HA5.out.2.1.frozen 3
  obtain ⟨w10, hw10⟩ : ∃ w10, w5.setCell ⟨C, 3, none⟩ (.bool false) = w10 := ⟨_, rfl⟩
  have HK10 : Hid (MidH m w [C, w.heap.size] w10 H cB vB eB h av) := by
    rw [← hw10]
    exact HK5.out.own ((Tn.refl _ _).setCell (.inl (by simp)) _)
  have HA10 : Hid (Bk w10 w.heap.size 36 #[.int .i64 hS, .int .i64 hG] ∧ Bk w10 C 93 #[.string c1, .int .i64 c2, .int .i64 c3, .bool false]) := by
    rw [← hw10]
    exact ⟨HA5.out.1.other HA5.out.2.2 _, HA5.out.2.1.set 3 _⟩
  have HSET : Hid (Calls Try.prog 42 #[.pointer (some ⟨cB, 0, none⟩), .agg #[.int .i64 hS, .int .i64 hG], .agg #[.string c1, .int .i64 c2, .int .i64 c3, .bool false]] w10.drew fun e w' => e = .returned (.int .i64 0) ∧ MidH m w [C, w.heap.size] w' H cB vB eB (h.setC hS.toNat ⟨c1, c2, c3, false⟩) av ∧ Bk w' w.heap.size 36 #[.int .i64 hS, .int .i64 hG] ∧ Bk w' C 93 #[.string c1, .int .i64 c2, .int .i64 c3, .bool false]) := by
    have K10 := HK10.out.quiet (Tn.refl [] _).drew
    obtain ⟨cb, vb, eb, hI⟩ := K10.1
    refine (setGoodC hI.c hS hG ⟨c1, c2, c3, false⟩ HG.out).mono ?_
    rintro e w11 ⟨rfl, ht⟩
    have ha := hI.stepC ht
    exact ⟨rfl, K10.call ha, ha.blk (by simp) HA10.out.1.drew, ha.blk (by simp) HA10.out.2.drew⟩
  have p0 : w10.cell? ⟨H, 0, none⟩ = some (.pointer (some ⟨cB, 0, none⟩)) := HK10.out.1.ptrs.1
  have m0 : w10.cell? ⟨w.heap.size, 0, none⟩ = some (.int .i64 hS) := HA10.out.1.cell 0
  have m1 : w10.cell? ⟨w.heap.size, 1, none⟩ = some (.int .i64 hG) := HA10.out.1.cell 1
  have n0' : w10.cell? ⟨C, 0, none⟩ = some (.string c1) := HA10.out.2.cell 0
  have n1' : w10.cell? ⟨C, 1, none⟩ = some (.int .i64 c2) := HA10.out.2.cell 1
  have n2' : w10.cell? ⟨C, 2, none⟩ = some (.int .i64 c3) := HA10.out.2.cell 2
  have n3' : w10.cell? ⟨C, 3, none⟩ = some (.bool false) := HA10.out.2.cell 3
  clear HK10 HA10 HA5 HK5 hk5 hz3 hlt5 hw2 hz2 t35 hb3 HLK a0 a1
  go_wp2_with fail
  go_region_held3 (fun w' => w'.cell? ⟨H, 0, none⟩ = some (.pointer (some ⟨cB, 0, none⟩)) ∧ w'.cell? ⟨w.heap.size, 0, none⟩ = some (.int .i64 hS) ∧ w'.cell? ⟨w.heap.size, 1, none⟩ = some (.int .i64 hG) ∧ w'.cell? ⟨C, 0, none⟩ = some (.string c1) ∧ w'.cell? ⟨C, 1, none⟩ = some (.int .i64 c2) ∧ w'.cell? ⟨C, 2, none⟩ = some (.int .i64 c3) ∧ w'.cell? ⟨C, 3, none⟩ = some (.bool false)) (go_keep) (first
    | (go_at_call 42; refine HSET.out.mono ?_; rintro e w11 ⟨rfl, K11, k11a, k11c⟩; have HK11 : Hid (MidH m w [C, w.heap.size] w11 H cB vB eB (h.setC hS.toNat ⟨c1, c2, c3, false⟩) av) := K11; have o0 : w11.cell? ⟨H, 0, none⟩ = some (.pointer (some ⟨cB, 0, none⟩)) := HK11.out.1.ptrs.1; have o1 : w11.cell? ⟨w.heap.size, 0, none⟩ = some (.int .i64 hS) := k11a.cell 0; have o2 : w11.cell? ⟨w.heap.size, 1, none⟩ = some (.int .i64 hG) := k11a.cell 1; have o3 : w11.cell? ⟨C, 0, none⟩ = some (.string c1) := k11c.cell 0; have o4 : w11.cell? ⟨C, 1, none⟩ = some (.int .i64 c2) := k11c.cell 1; have o5 : w11.cell? ⟨C, 2, none⟩ = some (.int .i64 c3) := k11c.cell 2; have o6 : w11.cell? ⟨C, 3, none⟩ = some (.bool false) := k11c.cell 3; clear K11 k11a k11c))
  go_wp2
  go_ret
  exact ⟨rfl, HK11.out.fin⟩

theorem reopen_no2 (hh : Hpn m w H cB vB eB h av) (hS hG : Int)
    (hlk : ∀ w, Hpn m w H cB vB eB h av → Calls Try.prog 50 #[.pointer (some ⟨H, 0, none⟩), .agg #[.int .i64 hS, .int .i64 hG]] w fun e w' => e = .returned (.tuple #[Cl.zero.v, .int .i64 162]) ∧ Below w.heap.size w w') :
    Calls Try.prog 17 #[.pointer (some ⟨H, 0, none⟩), .agg #[.int .i64 hS, .int .i64 hG]] w fun e w' => e = .returned (.int .i64 162) ∧ Below w.heap.size w w' := by
  obtain ⟨w2, hw2, hk1⟩ : ∃ w2, w.alloc (.cells #[.int .i64 hS, .int .i64 hG] 36) = w2 ∧ Bk w2 w.heap.size 36 #[.int .i64 hS, .int .i64 hG] := ⟨_, rfl, Bk.new _ _ _⟩
  have hb2 : Below w.heap.size w w2 := by rw [← hw2]; exact (Below.refl _ _).alloc (Nat.le_refl _) _
  have HB2 : Hid (Below w.heap.size w w2) := hb2
  have a0 : w2.cell? ⟨w.heap.size, 0, none⟩ = some (.int .i64 hS) := hk1.cell 0
  have a1 : w2.cell? ⟨w.heap.size, 1, none⟩ = some (.int .i64 hG) := hk1.cell 1
  obtain ⟨zd, hzd⟩ : ∃ zd : Bool, zd = false := ⟨_, rfl⟩
  have HLK : Hid (Calls Try.prog 50 #[.pointer (some ⟨H, 0, none⟩), .agg #[.int .i64 hS, .int .i64 hG]] w2 fun e w' => e = .returned (.tuple #[.agg #[.string ⟨#[]⟩, .int .i64 0, .int .i64 0, .bool zd], .int .i64 162]) ∧ Below w2.heap.size w2 w') := by rw [hzd]; exact hlk w2 (hh.below hb2)
  clear hh hlk hb2 hk1 hzd
  go_enter Try.func17, Try.ntmps17
  go_wp2_with fail
  refine HLK.out.mono ?_
  rintro e w3 ⟨rfl, hb3⟩
  have HB3 : Hid (∀ o, Below w.heap.size w (w3.alloc o)) := fun o => (HB2.out.trans (hb3.mono HB2.out.size)).alloc (by have := hb3.size; have := HB2.out.size; omega) o
  clear hb3 HLK
  go_wp2
  go_ret
  exact ⟨rfl, HB3.out _⟩

theorem retire_no2 (hh : Hpn m w H cB vB eB h av) (hS hG : Int)
    (hlk : ∀ w, Hpn m w H cB vB eB h av → Calls Try.prog 50 #[.pointer (some ⟨H, 0, none⟩), .agg #[.int .i64 hS, .int .i64 hG]] w fun e w' => e = .returned (.tuple #[Cl.zero.v, .int .i64 162]) ∧ Below w.heap.size w w') :
    Calls Try.prog 18 #[.pointer (some ⟨H, 0, none⟩), .agg #[.int .i64 hS, .int .i64 hG]] w fun e w' => e = .returned (.int .i64 162) ∧ Below w.heap.size w w' := by
  obtain ⟨w2, hw2, hk1⟩ : ∃ w2, w.alloc (.cells #[.int .i64 hS, .int .i64 hG] 36) = w2 ∧ Bk w2 w.heap.size 36 #[.int .i64 hS, .int .i64 hG] := ⟨_, rfl, Bk.new _ _ _⟩
  have hb2 : Below w.heap.size w w2 := by rw [← hw2]; exact (Below.refl _ _).alloc (Nat.le_refl _) _
  have HB2 : Hid (Below w.heap.size w w2) := hb2
  have a0 : w2.cell? ⟨w.heap.size, 0, none⟩ = some (.int .i64 hS) := hk1.cell 0
  have a1 : w2.cell? ⟨w.heap.size, 1, none⟩ = some (.int .i64 hG) := hk1.cell 1
  obtain ⟨zd, hzd⟩ : ∃ zd : Bool, zd = false := ⟨_, rfl⟩
  have HLK : Hid (Calls Try.prog 50 #[.pointer (some ⟨H, 0, none⟩), .agg #[.int .i64 hS, .int .i64 hG]] w2 fun e w' => e = .returned (.tuple #[.agg #[.string ⟨#[]⟩, .int .i64 0, .int .i64 0, .bool zd], .int .i64 162]) ∧ Below w2.heap.size w2 w') := by rw [hzd]; exact hlk w2 (hh.below hb2)
  clear hh hlk hb2 hk1 hzd
  go_enter Try.func18, Try.ntmps18
  go_wp2_with fail
  refine HLK.out.mono ?_
  rintro e w3 ⟨rfl, hb3⟩
  have HB3 : Hid (∀ o, Below w.heap.size w (w3.alloc o)) := fun o => (HB2.out.trans (hb3.mono HB2.out.size)).alloc (by have := hb3.size; have := HB2.out.size; omega) o
  clear hb3 HLK
  go_wp2
  go_ret
  exact ⟨rfl, HB3.out _⟩

/-- Nothing is put to a cell that is closed. -/
theorem install_closed (hh : Hpn m w H cB vB eB h av) (s : Nat) (hs : s < 17) (hn : (shAt h.sh s).has = true) (hS hG : Int) (hg : h.c.Good hS hG) (x : Vs) (hcd : (slAt h.c.us hS.toNat).val.closed = true) :
    Calls Try.prog 13 #[.pointer (some ⟨H, 0, none⟩), .int .i64 (s : Int), .agg #[.int .i64 hS, .int .i64 hG], x.v] w fun e w' => e = .returned (.int .i64 160) ∧ Below w.heap.size w w' := by
  obtain ⟨x1, x2, x3⟩ := x
  obtain ⟨w2, hw2, hk1⟩ : ∃ w2, (w.alloc (.cells #[.int .i64 hS, .int .i64 hG] 36)).alloc (.cells #[.int .i64 x1, .string x2, .bool x3] 34) = w2 ∧ Bk w2 w.heap.size 36 #[.int .i64 hS, .int .i64 hG] := ⟨_, rfl, (Bk.new _ _ _).alloc _⟩
  have hb2 : Below w.heap.size w w2 := by rw [← hw2]; exact ((Below.refl _ _).alloc (Nat.le_refl _) _).alloc (by simp) _
  have HB2 : Hid (Below w.heap.size w w2) := hb2
  have a0 : w2.cell? ⟨w.heap.size, 0, none⟩ = some (.int .i64 hS) := hk1.cell 0
  have a1 : w2.cell? ⟨w.heap.size, 1, none⟩ = some (.int .i64 hG) := hk1.cell 1
  have hask := ask_good (hh.below hb2) s hs hn hS hG hg
  obtain ⟨cl, hcl⟩ : ∃ cl, (slAt h.c.us hS.toNat).val = cl := ⟨_, rfl⟩
  rw [hcl] at hask hcd
  obtain ⟨c1, c2, c3, c4⟩ := cl
  obtain rfl : c4 = true := hcd
  have HASK : Hid (Calls Try.prog 38 #[.pointer (some ⟨H, 0, none⟩), .int .i64 (s : Int), .agg #[.int .i64 hS, .int .i64 hG]] w2 fun e w' => e = .returned (.tuple #[.pointer (some ⟨H, 3 + s * 3, none⟩), .agg #[.string c1, .int .i64 c2, .int .i64 c3, .bool true], .int .i64 0]) ∧ Below w2.heap.size w2 w') := hask
  clear hh hask hb2 hk1 hcl hg hn
  go_enter Try.func13, Try.ntmps13
  go_wp2_with fail
  refine HASK.out.mono ?_
  rintro e w3 ⟨rfl, hb3⟩
  obtain ⟨w5, hw5, hk5⟩ : ∃ w5, w3.alloc (.cells #[.string c1, .int .i64 c2, .int .i64 c3, .bool true] 93) = w5 ∧ Bk w5 w3.heap.size 93 #[.string c1, .int .i64 c2, .int .i64 c3, .bool true] := ⟨_, rfl, Bk.new _ _ _⟩
  have d3 : w5.cell? ⟨w3.heap.size, 3, none⟩ = some (.bool true) := hk5.cell 3
  have HB5 : Hid (Below w.heap.size w w5) := by rw [← hw5]; exact (HB2.out.trans (hb3.mono HB2.out.size)).alloc (by have := hb3.size; have := HB2.out.size; omega) _
  clear hb3 hk5 HASK
  go_wp2
  go_ret
  exact ⟨rfl, HB5.out⟩

end Go.Proofs.Ytbdcdiihaecheaa

namespace Go.Proofs.Ytbdcdiihaecheaa
open Go.RowKit
set_option linter.unusedVariables false
set_option maxRecDepth 100000
set_option linter.unusedSectionVars false
variable [Inhabited Cl] [Inhabited Ln]

variable {m : Nat} {w w1 w2 w' : World} {H cB vB eB : Nat} {cb vb eb : List Nat} {h h' : Hp} {av L L' : List Nat}

/-- A version with another value. -/
def Hp.setV (h : Hp) (i : Nat) (x : Ln) : Hp := { h with v := h.v.set i x }

theorem els_drop {α : Type} {cells : α → List Value} {k : Nat} {W : World} {b o n d j : Nat} {l : List α} (he : Els cells k W (some ⟨b, o, none⟩) l) (hn : l.length = n) (hd : n ≤ d) :
    Els cells k W (if d = j then some ⟨b, o, none⟩ else some ⟨b, o + j * k, none⟩) (l.drop j) := by
  intro h0
  rw [List.length_drop] at h0
  rw [if_neg (by omega)]
  obtain ⟨b', o', hp, hc⟩ := he (by omega)
  cases hp
  refine ⟨b, o + j * k, rfl, fun i x hx q v hv => ?_⟩
  have := hc (j + i) x (by rw [← hx, List.getElem?_drop]) q v hv
  rwa [show o + (j + i) * k + q = o + j * k + i * k + q by rw [Nat.add_mul]; omega] at this

theorem cell_blk {b : Nat} (h : w'.heap[b]? = w.heap[b]?) (o : Nat) : w'.cell? ⟨b, o, none⟩ = w.cell? ⟨b, o, none⟩ := by
  simp only [World.cell?]
  rw [h]

set_option maxHeartbeats 2000000 in
theorem cut_any (hh : Hpn m w H cB vB eB h av) (b1 o1 b2 o2 n1 d1 n2 d2 : Nat) (a : List Vs) (b : List Hd) (k : Nat) (x : Vs) (y : Hd) (hn1 : a.length = n1) (hn2 : b.length = n2) (hc1 : n1 ≤ d1) (hc2 : n2 ≤ d2)
    (h1 : Els Vs.cells 3 w (some ⟨b1, o1, none⟩) a) (h2 : Els Hd.cells 2 w (some ⟨b2, o2, none⟩) b) (hb1 : b1 ∈ av) (hb2 : b2 ∈ av) (hk1 : a[k]? = some x) (hk2 : b[k]? = some y) (hg : h.v.Good y.1 y.2) (hl : n2 ≤ 65536) (hcu : h.e.cur.length ≤ 3400000000000) :
    Calls Try.prog 46 #[.pointer (some ⟨H, 0, none⟩), .agg #[.slice (some ⟨b1, o1, none⟩) n1 d1, .slice (some ⟨b2, o2, none⟩) n2 d2], .int .i64 ((k + 1 : Nat) : Int)] w fun e w' => e = .returned (.tuple #[]) ∧ AftH m w w' H cB vB eB ((h.setV y.1.toNat ⟨x.ts, x.val, x.del, 0, 0⟩).wait 3 (b.drop (k + 1))) av := by
  obtain ⟨w2, hw2, hz2, hk⟩ : ∃ w2, w.alloc (.cells #[.slice (some ⟨b1, o1, none⟩) n1 d1, .slice (some ⟨b2, o2, none⟩) n2 d2] 107) = w2 ∧ w2.heap.size = w.heap.size + 1 ∧ Bk w2 w.heap.size 107 #[.slice (some ⟨b1, o1, none⟩) n1 d1, .slice (some ⟨b2, o2, none⟩) n2 d2] := ⟨_, rfl, by simp, Bk.new _ _ _⟩
  have t2 : Tn [] w w2 := by rw [← hw2]; exact (Tn.refl _ _).alloc _
  have hav := hh.avlt
  have hka : k < n1 := by rw [← hn1]; exact (List.getElem?_eq_some_iff.1 hk1).1
  have hkb : k < n2 := by rw [← hn2]; exact (List.getElem?_eq_some_iff.1 hk2).1
  have hx1 : Els Vs.cells 3 w2 (some ⟨b1, o1, none⟩) a := h1.tn t2 (fun _ _ _ => by simp)
  have hx2 : Els Hd.cells 2 w2 (some ⟨b2, o2, none⟩) b := h2.tn t2 (fun _ _ _ => by simp)
  have K2 : MidH m w [w.heap.size] w2 H cB vB eB h av := (MidH.start hh).new t2 (by simp) (by simp; omega)
  have HK2 : Hid (MidH m w [w.heap.size] w2 H cB vB eB h av) := K2
  have HA2 : Hid (Bk w2 w.heap.size 107 #[.slice (some ⟨b1, o1, none⟩) n1 d1, .slice (some ⟨b2, o2, none⟩) n2 d2] ∧ Els Hd.cells 2 w2 (some ⟨b2, o2, none⟩) b) := ⟨hk, hx2⟩
  have HB : Hid (b1 ∈ av ∧ b2 ∈ av ∧ b.length = n2 ∧ n2 ≤ d2 ∧ n2 ≤ 65536 ∧ h.e.cur.length ≤ 3400000000000 ∧ k < n1 ∧ k < n2 ∧ n1 ≤ d1) := ⟨hb1, hb2, hn2, hc2, hl, hcu, hka, hkb, hc1⟩
  obtain ⟨xt, xv, xd⟩ := x
  obtain ⟨ys, yg⟩ := y
  obtain ⟨b', o', he, hcs⟩ := hx1 (by omega)
  cases he
  have c0 : w2.cell? ⟨b1, o1 + k * 3, none⟩ = some (.int .i64 xt) := hcs k _ hk1 0 _ rfl
  have c1 : w2.cell? ⟨b1, o1 + k * 3 + 1, none⟩ = some (.string xv) := hcs k _ hk1 1 _ rfl
  have c2 : w2.cell? ⟨b1, o1 + k * 3 + 2, none⟩ = some (.bool xd) := hcs k _ hk1 2 _ rfl
  obtain ⟨b', o', he, hcs2⟩ := hx2 (by omega)
  cases he
  have c3 : w2.cell? ⟨b2, o2 + k * 2, none⟩ = some (.int .i64 ys) := hcs2 k _ hk2 0 _ rfl
  have c4 : w2.cell? ⟨b2, o2 + k * 2 + 1, none⟩ = some (.int .i64 yg) := hcs2 k _ hk2 1 _ rfl
  have a0 : w2.cell? ⟨w.heap.size, 0, none⟩ = some (.slice (some ⟨b1, o1, none⟩) n1 d1) := hk.cell 0
  have a1 : w2.cell? ⟨w.heap.size, 1, none⟩ = some (.slice (some ⟨b2, o2, none⟩) n2 d2) := hk.cell 1
  have p1 : w2.cell? ⟨H, 1, none⟩ = some (.pointer (some ⟨vB, 0, none⟩)) := K2.1.ptrs.2.1
  have HSET : Hid (Calls Try.prog 73 #[.pointer (some ⟨vB, 0, none⟩), .agg #[.int .i64 ys, .int .i64 yg], .agg #[.int .i64 xt, .string xv, .bool xd, .int .i64 0, .int .i64 0]] w2.drew fun e w' => e = .returned (.int .i64 0) ∧ MidH m w [w.heap.size] w' H cB vB eB (h.setV ys.toNat ⟨xt, xv, xd, 0, 0⟩) av ∧ Bk w' w.heap.size 107 #[.slice (some ⟨b1, o1, none⟩) n1 d1, .slice (some ⟨b2, o2, none⟩) n2 d2] ∧ Els Hd.cells 2 w' (some ⟨b2, o2, none⟩) b ∧ (∀ (b o : Nat), b ∈ av → w'.cell? ⟨b, o, none⟩ = w2.cell? ⟨b, o, none⟩)) := by
    have K := HK2.out.quiet (Tn.refl [] _).drew
    obtain ⟨cb, vb, eb, hI⟩ := K.1
    refine (setGoodL hI.v ys yg ⟨xt, xv, xd, 0, 0⟩ hg).mono ?_
    rintro e w11 ⟨rfl, ht⟩
    have ha := hI.stepV ht
    exact ⟨rfl, K.call ha, ha.blk (by simp) HA2.out.1.drew, els_blk (els_blk HA2.out.2 (w' := w2.drew) (fun _ _ _ => rfl)) (fun b o e => by cases e; exact ha.2.2 b2 (by simp [HB.out.2.1])), fun b o hb => cell_blk (w' := w11) (w := w2) (ha.2.2 b (by simp [hb])) o⟩
  obtain ⟨kk, hz⟩ : ∃ kk, k + 1 = kk := ⟨_, rfl⟩
  rw [hz]
  have HDR : Hid (∀ W, Els Hd.cells 2 W (some ⟨b2, o2, none⟩) b → Els Hd.cells 2 W (if d2 = kk then some ⟨b2, o2, none⟩ else some ⟨b2, o2 + kk * 2, none⟩) (b.drop kk)) := fun W he => els_drop he hn2 hc2
  have i1 : (0 : Int) ≤ (k : Int) := by omega
  have i2 : (k : Int) < (n1 : Int) := by omega
  have i3 : (k : Int) < (n2 : Int) := by omega
  have i4 : (k : Int) ≤ 65536 := by omega
  have hwz : IntKind.i64.wrap ((kk : Int) - 1) = (k : Int) := by rw [IntKind.wrap_i64]; omega
  clear hx1 hx2 K2 hk t2 h1 h2 hcs hcs2 hk1 hk2 hh hg hn1 hn2 hl hcu hav
  have j1 : (0 : Int) ≤ (kk : Int) := by omega
  have j2 : (kk : Int) ≤ (n2 : Int) := by omega
  have j3 : (n2 : Int) ≤ (d2 : Int) := by omega
  have j4 : (kk : Int) ≤ (d2 : Int) := by omega
  have HKK : Hid (k + 1 = kk) := hz
  clear hz
  go_enter Try.func46, Try.ntmps46
  go_wp2_with fail
  go_region_held3 (fun w' => w'.cell? ⟨H, 1, none⟩ = some (.pointer (some ⟨vB, 0, none⟩)) ∧ w'.cell? ⟨w.heap.size, 0, none⟩ = some (.slice (some ⟨b1, o1, none⟩) n1 d1) ∧ w'.cell? ⟨w.heap.size, 1, none⟩ = some (.slice (some ⟨b2, o2, none⟩) n2 d2) ∧ w'.cell? ⟨b1, o1 + k * 3, none⟩ = some (.int .i64 xt) ∧ w'.cell? ⟨b1, o1 + k * 3 + 1, none⟩ = some (.string xv) ∧ w'.cell? ⟨b1, o1 + k * 3 + 2, none⟩ = some (.bool xd) ∧ w'.cell? ⟨b2, o2 + k * 2, none⟩ = some (.int .i64 ys) ∧ w'.cell? ⟨b2, o2 + k * 2 + 1, none⟩ = some (.int .i64 yg)) (go_keep) (first
    | (go_at_call 73; refine HSET.out.mono ?_; rintro e w3 ⟨rfl, K3, k3, k3e, k3a⟩; have HK3 : Hid (MidH m w [w.heap.size] w3 H cB vB eB (h.setV ys.toNat ⟨xt, xv, xd, 0, 0⟩) av ∧ Els Hd.cells 2 w3 (some ⟨b2, o2, none⟩) b) := ⟨K3, k3e⟩; have o0 : w3.cell? ⟨H, 1, none⟩ = some (.pointer (some ⟨vB, 0, none⟩)) := HK3.out.1.1.ptrs.2.1; have o1' : w3.cell? ⟨w.heap.size, 0, none⟩ = some (.slice (some ⟨b1, o1, none⟩) n1 d1) := k3.cell 0; have o2' : w3.cell? ⟨w.heap.size, 1, none⟩ = some (.slice (some ⟨b2, o2, none⟩) n2 d2) := k3.cell 1; have o3' : w3.cell? ⟨b1, o1 + k * 3, none⟩ = some (.int .i64 xt) := (k3a b1 _ hb1).trans c0; have o4' : w3.cell? ⟨b1, o1 + k * 3 + 1, none⟩ = some (.string xv) := (k3a b1 _ hb1).trans c1; have o5' : w3.cell? ⟨b1, o1 + k * 3 + 2, none⟩ = some (.bool xd) := (k3a b1 _ hb1).trans c2; have o6' : w3.cell? ⟨b2, o2 + k * 2, none⟩ = some (.int .i64 ys) := (k3a b2 _ hb2).trans c3; have o7' : w3.cell? ⟨b2, o2 + k * 2 + 1, none⟩ = some (.int .i64 yg) := (k3a b2 _ hb2).trans c4; clear K3 k3 k3e k3a))
  clear c0 c1 c2 c3 c4 a0 a1 p1 HSET HA2 HK2 o3' o4' o5' o6' o7' hw2
  have HRT : Hid (∀ (p : Option Addr) (c : Nat), p = (if d2 = kk then some ⟨b2, o2, none⟩ else some ⟨b2, o2 + kk * 2, none⟩) → Calls Try.prog 51 #[.pointer (some ⟨H, 0, none⟩), .slice p (n2 - kk) c] w3 fun e w' => e = .returned (.tuple #[]) ∧ MidH m w [w.heap.size] w' H cB vB eB ((h.setV ys.toNat ⟨xt, xv, xd, 0, 0⟩).wait 3 (b.drop kk)) av) := by
    intro p c hp
    have hb := HB.out
    refine (hretire_any HK3.out.1.1 p (n2 - kk) c (b.drop kk) (by rw [List.length_drop]; omega) (by rw [hp]; exact HDR.out w3 HK3.out.2) (fun g o e => ?_) (by omega) (by show h.e.cur.length ≤ _; omega)).mono ?_
    · have hg : g = b2 := by
        rw [hp] at e
        split at e <;> · cases e; rfl
      rw [hg]; simp [hb2]
    · rintro e w4 ⟨rfl, ha⟩
      exact ⟨rfl, HK3.out.1.call ha⟩
  clear HK3 HDR HB
  go_wp2_with fail
  all_goals
    refine (HRT.out _ _ (by first | exact (if_pos ‹_›).symm | exact (if_neg ‹_›).symm)).mono ?_
    rintro e w4 ⟨rfl, K4⟩
    have HK4 := (show Hid (MidH m w _ w4 H cB vB eB _ av) from K4)
    clear K4
    go_wp2
    go_end0
    exact ⟨rfl, HK4.out.fin⟩

end Go.Proofs.Ytbdcdiihaecheaa
