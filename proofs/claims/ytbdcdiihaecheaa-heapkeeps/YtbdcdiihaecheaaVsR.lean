/- Put: a version ahead of others. -/
import Derived.Test.YtbdcdiihaecheaaVsE
import Derived.Lib.AppendZeros
import Derived.Laws.OwnMore
import Derived.Maps.AppendAt
namespace Go.Proofs.Ytbdcdiihaecheaa
open Go.RowKit Go.Sort
set_option linter.unusedVariables false
set_option maxRecDepth 100000

set_option maxHeartbeats 1000000 in
theorem vgrow_any (n : Nat) (w : World) (hn : n * 32 ≤ 140737488355328) : Calls Try.prog 83 #[.slice none 0 0, .int .i64 n] w fun e w' => ∃ v, e = .returned v ∧ OwnV w' w.heap.size v [] ∧ Below w.heap.size w w' := by
  by_cases h0 : n = 0
  · subst h0
    go_enter Try.func83, Try.ntmps83
    go_wp2
    go_ret
    exact ⟨_, rfl, Own.nil _ _ _, Below.refl _ _⟩
  · obtain ⟨i0, hi0, hz0, hz1, hz2⟩ := info_parts vinfo
    have hpos : (0 : Int) < (n : Int) := by omega
    have hneg : ¬ (n : Int) < 0 := by omega
    have hr := fun ty => Lib.run_append_nil_zeros (P := Try.prog) w 46 3 ty 34 i0 _ .i64 .i64 Try.underlying46 Try.underlying3 hi0 hz0 n (by omega) (by omega) (by omega) (by rw [hz2]; omega)
    have HR : Hid _ := hr
    clear hr
    have hge := grownCap_ge w n 0 34
    have HO : Hid (OwnV (w.drew.alloc (.cells (Builtin.zeroCells (Value.agg #[.int .i64 0, .string ⟨#[]⟩, .bool false]).cells n ++ Builtin.zeroCells (Value.agg #[.int .i64 0, .string ⟨#[]⟩, .bool false]).cells (grownCap w n 0 34 - n)) 34)) w.heap.size (.slice (some ⟨w.heap.size, 0, none⟩) 0 (grownCap w n 0 34)) []) := by
      refine ⟨rfl, .inr ⟨w.heap.size, _, _, rfl, Nat.le_refl _, heap_alloc_new w.drew _, Nat.zero_le _, grownCap_le_maxLen _ _ _ _ (by unfold maxLen; omega), ?_, by simp [flat]⟩⟩
      simp only [Array.size_append, size_zeroCells, ← Nat.add_mul]
      have : (Value.agg #[.int .i64 0, .string ⟨#[]⟩, .bool false]).cells.size = 3 := rfl
      rw [this]
      omega
    have HB : Hid (Below w.heap.size w (w.drew.alloc (.cells (Builtin.zeroCells (Value.agg #[.int .i64 0, .string ⟨#[]⟩, .bool false]).cells n ++ Builtin.zeroCells (Value.agg #[.int .i64 0, .string ⟨#[]⟩, .bool false]).cells (grownCap w n 0 34 - n)) 34))) := (Below.refl _ _).drew.alloc (Nat.le_refl _) _
    go_enter Try.func83, Try.ntmps83
    go_wp2_with (at_builtin; refine Lib.wpList_append_run _ rfl _ _ _ _ rfl _ _ rfl rfl _ _ (HR.out _) ?_)
    go_ret
    exact ⟨_, rfl, HO.out, HB.out⟩

set_option maxHeartbeats 2000000 in
theorem vconcat_any (p q : Option Addr) (n m c d C : Nat) (la lb : List Vs) (w : World) (hk : Bk w C 46 #[.slice p n c, .slice q m d]) (hn : la.length = n) (hm : lb.length = m) (ha : Vrs w p la) (hb : Vrs w q lb) (hpa : p = none → n = 0 ∧ c = 0) (hpb : q = none → m = 0 ∧ d = 0) (hl : (n + m) * 32 ≤ 140737488355328) :
    Calls Try.prog 68 #[.slice (some ⟨C, 0, none⟩) 2 2] w fun e w' => ∃ v, e = .returned v ∧ OwnV w' w.heap.size v (la ++ lb) ∧ Below w.heap.size w w' := by
  have HK : Hid (Bk w C 46 #[.slice p n c, .slice q m d]) := hk
  have HN : Hid (la.length = n) := hn
  have HM : Hid (lb.length = m) := hm
  have HA : Hid (Vrs w p la) := ha
  have HE : Hid (Vrs w q lb) := hb
  have c0 : w.cell? ⟨C, 0, none⟩ = some (.slice p n c) := hk.cell 0
  have c1 : w.cell? ⟨C, 1, none⟩ = some (.slice q m d) := hk.cell 1
  have HPA : Hid (p = none → n = 0 ∧ c = 0) := hpa
  have HPB : Hid (q = none → m = 0 ∧ d = 0) := hpb
  have hnb : (n : Int) ≤ 4398046511104 := by omega
  have hmb : (m : Int) ≤ 4398046511104 := by omega
  clear hk hn hm ha hb hpa hpb
  go_enter Try.func68, Try.ntmps68
  go_wp2_with fail
  go_loopw [11, 3] (fun iv sv wr => w = wr ∧ ((iv = .int .i64 0 ∧ sv = .int .i64 0) ∨ (iv = .int .i64 1 ∧ sv = .int .i64 n) ∨ (iv = .int .i64 2 ∧ sv = .int .i64 ((n + m : Nat) : Int)))) (fun iv _ _ => 2 - (intOf iv).toNat)
  case atStart => exact ⟨rfl, .inl ⟨rfl, rfl⟩⟩
  case round =>
    obtain ⟨rfl, ⟨rfl, rfl⟩ | ⟨rfl, rfl⟩ | ⟨rfl, rfl⟩⟩ := hrel
    · go_wp2_with fail
      go_roundw
      case rel => exact ⟨by first | trivial | rfl, .inr (.inl ⟨by go_num, by go_num⟩)⟩
      case measure => simp [intOf]
    · have hs : ¬ (n : Int) + (m : Int) < 0 := by omega
      go_wp2_with fail
      go_roundw
      case rel => exact ⟨by first | trivial | rfl, .inr (.inr ⟨by go_num, by go_num⟩)⟩
      case measure => simp [intOf]
    · clear c0 c1
      go_wp2_with fail
      refine (vgrow_any (n + m) _ hl).mono ?_
      rintro e w1 ⟨v1, rfl, ho1, hb1⟩
      have HO1 : Hid (OwnV w1 w.heap.size v1 []) := ho1
      have HB1 : Hid (Below w.heap.size w w1) := hb1
      clear ho1 hb1
      go_wp2_with fail
      go_loopw [27, 6] (fun iv vv wr => ∃ v, v = vv ∧ Hid (Below w.heap.size w wr) ∧ ((iv = .int .i64 0 ∧ Hid (OwnV wr w.heap.size v [])) ∨ (iv = .int .i64 1 ∧ Hid (OwnV wr w.heap.size v la)) ∨ (iv = .int .i64 2 ∧ Hid (OwnV wr w.heap.size v (la ++ lb))))) (fun iv _ _ => 2 - (intOf iv).toNat)
      case atStart => exact ⟨_, rfl, HB1, .inl ⟨rfl, HO1⟩⟩
      case round =>
        clear HO1 HB1
        obtain ⟨vv, rfl, HW, ⟨rfl, HO⟩ | ⟨rfl, HO⟩ | ⟨rfl, HO⟩⟩ := hrel
        · have hkr := HK.out.below HW.out HK.out.lt
          have c0 : wr.cell? ⟨C, 0, none⟩ = some (.slice p n c) := hkr.cell 0
          obtain ⟨v', w', hr, h2, h3, h4⟩ := run_appL vknd Try.underlying46 vinfo rfl wr w.heap.size 46 vv [] la p n c HN.out (Els.below HA.out HW.out (Nat.le_refl _)) HPA.out HO.out (by unfold maxLen; simp; omega) (by simp; omega) HW.out.size
          have HR : Hid _ := hr
          have HO2 : Hid (OwnV w' w.heap.size v' la) := h2
          have HW2 : Hid (Below w.heap.size w w') := HW.out.grown h3 HW.out.size (fun k hk => (Own.blk HO.out hk).1)
          clear hkr hr h2 h3 h4
          go_wp2_with (at_builtin; refine Lib.wpList_append_run _ rfl _ _ _ _ rfl _ _ rfl rfl _ _ HR.out ?_)
          go_roundw
          case rel => exact ⟨_, rfl, HW2, .inr (.inl ⟨by go_num, HO2⟩)⟩
          case measure => simp [intOf]
        · have hkr := HK.out.below HW.out HK.out.lt
          have c1 : wr.cell? ⟨C, 1, none⟩ = some (.slice q m d) := hkr.cell 1
          obtain ⟨v', w', hr, h2, h3, h4⟩ := run_appL vknd Try.underlying46 vinfo rfl wr w.heap.size 46 vv la lb q m d HM.out (Els.below HE.out HW.out (Nat.le_refl _)) HPB.out HO.out (by rw [HN.out]; unfold maxLen; omega) (by rw [HN.out]; exact hl) HW.out.size
          have HR : Hid _ := hr
          have HO2 : Hid (OwnV w' w.heap.size v' (la ++ lb)) := h2
          have HW2 : Hid (Below w.heap.size w w') := HW.out.grown h3 HW.out.size (fun k hk => (Own.blk HO.out hk).1)
          clear hkr hr h2 h3 h4
          go_wp2_with (at_builtin; refine Lib.wpList_append_run _ rfl _ _ _ _ rfl _ _ rfl rfl _ _ HR.out ?_)
          go_roundw
          case rel => exact ⟨_, rfl, HW2, .inr (.inr ⟨by go_num, HO2⟩)⟩
          case measure => simp [intOf]
        · go_wp2_with fail
          go_ret
          exact ⟨_, rfl, HO.out, HW.out⟩


/-- What is wrong with one more. -/
def Vr.putE (l : List Vs) (v : Vs) : Int := if Vr.fits v = false then 151 else match l with | [] => 0 | x :: _ => if v.ts ≤ x.ts then 150 else if 1024 ≤ l.length then 3 else 0
def Vr.putL (l : List Vs) (v : Vs) : List Vs := if Vr.putE l v = 0 then v :: l else []
theorem Vr.putE_bad {l : List Vs} {v : Vs} (h : Vr.fits v = false) : Vr.putE l v = 151 ∧ Vr.putL l v = [] := by
  have : Vr.putE l v = 151 := by unfold Vr.putE; rw [if_pos h]
  exact ⟨this, by unfold Vr.putL; rw [this]; rfl⟩
theorem Vr.putE_nil {v : Vs} (h : Vr.fits v = true) : Vr.putE [] v = 0 ∧ Vr.putL [] v = [v] := by
  have : Vr.putE [] v = 0 := by unfold Vr.putE; rw [if_neg (by rw [h]; decide)]
  exact ⟨this, by unfold Vr.putL; rw [this]; rfl⟩
theorem Vr.putE_ord {l : List Vs} {v x : Vs} (h : Vr.fits v = true) (hx : l[0]? = some x) (ho : v.ts ≤ x.ts) : Vr.putE l v = 150 ∧ Vr.putL l v = [] := by
  cases l with
  | nil => simp at hx
  | cons y r =>
    simp at hx
    subst hx
    have : Vr.putE (y :: r) v = 150 := by unfold Vr.putE; rw [if_neg (by rw [h]; decide)]; exact if_pos ho
    exact ⟨this, by unfold Vr.putL; rw [this]; rfl⟩
theorem Vr.putE_long {l : List Vs} {v x : Vs} (h : Vr.fits v = true) (hx : l[0]? = some x) (ho : ¬ v.ts ≤ x.ts) (hl : 1024 ≤ l.length) : Vr.putE l v = 3 ∧ Vr.putL l v = [] := by
  cases l with
  | nil => simp at hx
  | cons y r =>
    simp at hx
    subst hx
    have : Vr.putE (y :: r) v = 3 := by
      unfold Vr.putE
      rw [if_neg (by rw [h]; decide)]
      show (if v.ts ≤ y.ts then (150 : Int) else if 1024 ≤ (y :: r).length then 3 else 0) = 3
      rw [if_neg ho, if_pos hl]
    exact ⟨this, by unfold Vr.putL; rw [this]; rfl⟩
theorem Vr.putE_ok {l : List Vs} {v x : Vs} (h : Vr.fits v = true) (hx : l[0]? = some x) (ho : ¬ v.ts ≤ x.ts) (hl : ¬ 1024 ≤ l.length) : Vr.putE l v = 0 ∧ Vr.putL l v = v :: l := by
  cases l with
  | nil => simp at hx
  | cons y r =>
    simp at hx
    subst hx
    have : Vr.putE (y :: r) v = 0 := by
      unfold Vr.putE
      rw [if_neg (by rw [h]; decide)]
      show (if v.ts ≤ y.ts then (150 : Int) else if 1024 ≤ (y :: r).length then 3 else 0) = 0
      rw [if_neg ho, if_neg hl]
    exact ⟨this, by unfold Vr.putL; rw [this]; rfl⟩
end Go.Proofs.Ytbdcdiihaecheaa
