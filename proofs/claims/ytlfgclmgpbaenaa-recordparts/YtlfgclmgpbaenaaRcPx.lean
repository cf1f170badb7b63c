/- One write behind other bytes. -/
import Derived.Test.YtlfgclmgpbaenaaRcPt
import Derived.Test.YtlfgclmgpbaenaaRcOne
namespace Go.Proofs.Ytlfgclmgpbaenaa
open Go.RowKit
set_option linter.unusedVariables false
set_option maxRecDepth 100000

/-- What is wrong with a write behind n bytes. -/
def Rc.putE (n : Nat) (x : Wr) : Int := if Rc.wrE x = 0 then (if n + (Rc.wrB x).length ≤ 1048576 then 0 else 3) else Rc.wrE x

theorem wrB_pos (x : Wr) : 0 < (Rc.wrB x).length := by
  have h := Cd.width_pos x.key.size
  have e := Cd.enc_length x.key.size
  simp only [Rc.wrB, Rc.encT, List.length_append]
  omega

set_option maxHeartbeats 2000000 in
theorem putWrite_any (p : Option Addr) (n c : Nat) (xs : List Int) (x : Wr) (w : World) (hx : Bys w p xs) (hxl : xs.length = n) (hp : p = none → n = 0 ∧ c = 0) (hn : n ≤ 1048576) :
    Calls Try.prog 38 #[.slice p n c, .agg x.cells.toArray] w fun e w' => ∃ v, e = .returned (.tuple #[v, .int .i64 (Rc.putE n x)]) ∧ Came w w' v (Rc.putE n x) (xs ++ Rc.wrB x) := by
  have HP : Hid (∀ w', Below w.heap.size w w' → Bys w' p xs) := fun w' hb => hx.below hb (Nat.le_refl _)
  have HXL : Hid (xs.length = n) := hxl
  have HPN : Hid (p = none → n = 0 ∧ c = 0) := hp
  have HB0 : Hid (Below w.heap.size w (w.alloc (.cells #[.string x.key, .string x.val, .bool x.del] 33))) := (Below.refl _ _).alloc (Nat.le_refl _) _
  clear hx hxl hp
  rw [show x.cells.toArray = #[.string x.key, .string x.val, .bool x.del] from rfl]
  go_enter Try.func38, Try.ntmps38
  go_wp2_with fail
  refine (bytesOf_write x _).mono ?_
  rintro e w1 ⟨v, rfl, hcm⟩
  have HB1 : Hid (Below w.heap.size w w1) := HB0.out.trans (hcm.1.mono HB0.out.size)
  by_cases he : Rc.wrE x = 0
  · have heb : (Rc.wrE x != 0) = false := by simpa using he
    have ho := hcm.2.1 he
    have hsz := Rc.wrE_sizes he
    have hm := Rc.wrB_le hsz.1 hsz.2
    have hpos := wrB_pos x
    obtain ⟨q, d, hv, -, hq, hby⟩ := ho.bys
    subst hv
    have hy1 : Bys w1 q (Rc.wrB x) := hby
    have HY1 : Hid (Bys w1 q (Rc.wrB x)) := hby
    have HQN : Hid (q = none → (Rc.wrB x).length = 0 ∧ d = 0) := hq
    generalize hM : (Rc.wrB x).length = M at *
    have HM : Hid ((Rc.wrB x).length = M) := hM
    have hw1 : wrap64 ((1048576 : Int) - (M : Int)) = 1048576 - (M : Int) := by unfold wrap64; omega
    by_cases hl : n + M ≤ 1048576
    · have hlb : ¬ ((n : Int) > 1048576 - (M : Int)) := by omega
      have HE : Hid (Rc.putE n x = 0) := by unfold Hid Rc.putE; rw [if_pos he, hM, if_pos hl]
      have bk := Bk.new w1 42 #[.slice p n c, .slice q M d]
      have HB2 : Hid (Below w.heap.size w (w1.alloc (.cells #[.slice p n c, .slice q M d] 42))) := HB1.out.alloc HB1.out.size _
      have HK0 : Hid ((w1.alloc (.cells #[.slice p n c, .slice q M d] 42)).cell? ⟨w1.heap.size, 0, none⟩ = some (.slice p n c)) := bk.cell 0
      have HK1 : Hid ((w1.alloc (.cells #[.slice p n c, .slice q M d] 42)).cell? ⟨w1.heap.size, 1, none⟩ = some (.slice q M d)) := bk.cell 1
      have HY2 : Hid (Bys (w1.alloc (.cells #[.slice p n c, .slice q M d] 42)) q (Rc.wrB x)) := HY1.out.below ((Below.refl _ _).alloc (Nat.le_refl _) _) (Nat.le_refl _)
      have HX2 : Hid (Bys (w1.alloc (.cells #[.slice p n c, .slice q M d] 42)) p xs) := HP.out _ HB2.out
      have HNM : Hid (0 < n + M ∧ n + M ≤ 1048576) := ⟨by omega, hl⟩
      clear he ho hby hy1 hq hcm bk
      go_wp2_with fail
      refine (concat_two w1.heap.size p q n c M d xs (Rc.wrB x) _ HK0.out HK1.out HX2.out HXL.out HPN.out HY2.out HM.out HQN.out HNM.out.1 (by have := HNM.out.2; omega)).mono ?_
      rintro e w3 ⟨v3, rfl, ho3, hb3⟩
      have HC : Hid (Came w w3 v3 (Rc.putE n x) (xs ++ Rc.wrB x)) := by
        refine ⟨HB2.out.trans (hb3.mono HB2.out.size), fun _ => ?_, fun h => absurd HE.out h⟩
        rw [List.length_append, HXL.out, HM.out]
        exact ho3.mono HB2.out.size
      clear ho3 hb3
      go_wp2
      go_ret2
      exact ⟨_, by rw [HE.out]; rfl, HC.out⟩
    · have hlb : (n : Int) > 1048576 - (M : Int) := by omega
      have HE : Hid (Rc.putE n x = 3) := by unfold Hid Rc.putE; rw [if_pos he, hM, if_neg hl]
      have HC : Hid (Came w w1 (.slice none 0 0) (Rc.putE n x) (xs ++ Rc.wrB x)) := ⟨HB1.out, (fun h => absurd (HE.out.symm.trans h) (by decide)), fun _ => rfl⟩
      clear he ho hby hy1 hq hcm
      go_wp2
      go_ret2
      exact ⟨_, by rw [HE.out]; rfl, HC.out⟩
  · have heb : (Rc.wrE x != 0) = true := by simpa using he
    have HE : Hid (Rc.putE n x = Rc.wrE x) := by unfold Hid Rc.putE; rw [if_neg he]
    have HC : Hid (Came w w1 (.slice none 0 0) (Rc.putE n x) (xs ++ Rc.wrB x)) := ⟨HB1.out, (fun h => absurd (HE.out.symm.trans h) he), fun _ => rfl⟩
    clear he hcm
    go_wp2
    go_ret2
    exact ⟨_, by rw [HE.out]; rfl, HC.out⟩

end Go.Proofs.Ytlfgclmgpbaenaa
