/- Entries behind entries: append, slices.Grow, slices.Concat. -/
import Derived.Test.YtoehlgigidgfpaaGreatPgSq
import Derived.Lib.AppendZeros
import Derived.Laws.OwnMore
namespace Go.Proofs.YtoehlgigidgfpaaGreat
open Go.RowKit Go.Sort
set_option linter.unusedVariables false
set_option maxRecDepth 100000

/-- 'append(v, x...)', v a row of the call's own, x whatever leads to entries. -/
theorem run_appE (w : World) (base : Nat) (ty : TypeId) (v : Value) (l l2 : List En) (p : Option Addr) (m c : Nat) (hm : l2.length = m) (hens : Ens w p l2) (hnil : p = none → m = 0 ∧ c = 0) (hown : OwnE w base v l) (hb : (l.length + m) * 40 ≤ 140737488355328) (hbase : base ≤ w.heap.size) :
    ∃ v' w', (Builtin.append_ #[27, 27] ty #[v, .slice p m c]).run Tryz.prog w = .ok v' w' ∧ OwnE w' base v' (l ++ l2) ∧ w.grownBy w' v.ownBlock ∧ (v'.ownBlock = v.ownBlock ∨ v'.ownBlock = some w.heap.size) := by
  obtain ⟨i0, hi0, hz0, hz1, hz2⟩ := en_info
  cases p with
  | none =>
    obtain ⟨rfl, rfl⟩ := hnil rfl
    have : l2 = [] := List.eq_nil_of_length_eq_zero hm
    subst this
    refine ⟨v, w, run_append_owned_none (P := Tryz.prog) (w := w) base 27 ty 33 i0 4 Tryz.underlying27 hi0 v l.length (flatE l) hown, by simpa using hown, ⟨rfl, rfl, rfl, Nat.le_refl _, fun _ _ _ => rfl⟩, .inl rfl⟩
  | some ad =>
    obtain ⟨v', w', hr, h2, h3, h4, h5⟩ := run_append_own_at (P := Tryz.prog) w base 27 ty 33 i0 _ 4 40 Tryz.underlying27 hi0 hz0 hz1 hz2 rfl (by decide) v l.length (flatE l) hown ad m c (flatE l2) (by rw [flatE_len, hm]) (hens.news ad rfl) (flatE_one l2) (by unfold maxLen; omega) hb hbase
    refine ⟨v', w', hr, ?_, h3, h5⟩
    unfold OwnE
    rw [flatE_append, List.length_append, hm]
    exact h2

set_option maxHeartbeats 1000000 in
theorem grow_any (n : Nat) (w : World) (hn : n * 40 ≤ 140737488355328) : Calls Tryz.prog 187 #[.slice none 0 0, .int .i64 n] w fun e w' => ∃ v, e = .returned v ∧ OwnE w' w.heap.size v [] ∧ Below w.heap.size w w' := by
  by_cases h0 : n = 0
  · subst h0
    go_enter Tryz.func187, Tryz.ntmps187
    go_wp2
    go_ret
    exact ⟨_, rfl, OwnE.nil _ _, Below.refl _ _⟩
  · obtain ⟨i0, hi0, hz0, hz1, hz2⟩ := en_info
    have hpos : (0 : Int) < (n : Int) := by omega
    have hneg : ¬ (n : Int) < 0 := by omega
    have hr := fun ty => Lib.run_append_nil_zeros (P := Tryz.prog) w 27 3 ty 33 i0 _ .i64 .i64 Tryz.underlying27 Tryz.underlying3 hi0 hz0 n (by omega) (by omega) (by omega) (by rw [hz2]; omega)
    have HR : Hid _ := hr
    clear hr
    have hge := grownCap_ge w n 0 33
    have HO : Hid (OwnE (w.drew.alloc (.cells (Builtin.zeroCells (Value.agg #[.string ⟨#[]⟩, .int .i64 0, .int .i64 0, .int .i64 0]).cells n ++ Builtin.zeroCells (Value.agg #[.string ⟨#[]⟩, .int .i64 0, .int .i64 0, .int .i64 0]).cells (grownCap w n 0 33 - n)) 33)) w.heap.size (.slice (some ⟨w.heap.size, 0, none⟩) 0 (grownCap w n 0 33)) []) := by
      refine ⟨rfl, .inr ⟨w.heap.size, _, _, rfl, Nat.le_refl _, heap_alloc_new w.drew _, Nat.zero_le _, grownCap_le_maxLen _ _ _ _ (by unfold maxLen; omega), ?_, by simp [flatE]⟩⟩
      simp only [Array.size_append, size_zeroCells, ← Nat.add_mul]
      have : (Value.agg #[.string ⟨#[]⟩, .int .i64 0, .int .i64 0, .int .i64 0]).cells.size = 4 := rfl
      rw [this]
      omega
    have HB : Hid (Below w.heap.size w (w.drew.alloc (.cells (Builtin.zeroCells (Value.agg #[.string ⟨#[]⟩, .int .i64 0, .int .i64 0, .int .i64 0]).cells n ++ Builtin.zeroCells (Value.agg #[.string ⟨#[]⟩, .int .i64 0, .int .i64 0, .int .i64 0]).cells (grownCap w n 0 33 - n)) 33))) := (Below.refl _ _).drew.alloc (Nat.le_refl _) _
    go_enter Tryz.func187, Tryz.ntmps187
    go_wp2_with (at_builtin; refine Lib.wpList_append_run _ rfl _ _ _ _ rfl _ _ rfl rfl _ _ (HR.out _) ?_)
    go_ret
    exact ⟨_, rfl, HO.out, HB.out⟩

set_option maxHeartbeats 2000000 in
theorem concat_any (p q : Option Addr) (n m c d C : Nat) (la lb : List En) (w : World) (hk : Bk w C 27 #[.slice p n c, .slice q m d]) (hn : la.length = n) (hm : lb.length = m) (ha : Ens w p la) (hb : Ens w q lb) (hpa : p = none → n = 0 ∧ c = 0) (hpb : q = none → m = 0 ∧ d = 0) (hl : (n + m) * 40 ≤ 140737488355328) :
    Calls Tryz.prog 167 #[.slice (some ⟨C, 0, none⟩) 2 2] w fun e w' => ∃ v, e = .returned v ∧ OwnE w' w.heap.size v (la ++ lb) ∧ Below w.heap.size w w' := by
  have HK : Hid (Bk w C 27 #[.slice p n c, .slice q m d]) := hk
  have HN : Hid (la.length = n) := hn
  have HM : Hid (lb.length = m) := hm
  have HA : Hid (Ens w p la) := ha
  have HE : Hid (Ens w q lb) := hb
  have c0 : w.cell? ⟨C, 0, none⟩ = some (.slice p n c) := hk.cell 0
  have c1 : w.cell? ⟨C, 1, none⟩ = some (.slice q m d) := hk.cell 1
  have HPA : Hid (p = none → n = 0 ∧ c = 0) := hpa
  have HPB : Hid (q = none → m = 0 ∧ d = 0) := hpb
  have hnb : (n : Int) ≤ 4398046511104 := by omega
  have hmb : (m : Int) ≤ 4398046511104 := by omega
  clear hk hn hm ha hb hpa hpb
  go_enter Tryz.func167, Tryz.ntmps167
  go_wp2_with fail
  go_loopw [11, 3] (fun iv sv wr => w = wr ∧ ((iv = .int .i64 0 ∧ sv = .int .i64 0) ∨ (iv = .int .i64 1 ∧ sv = .int .i64 n) ∨ (iv = .int .i64 2 ∧ sv = .int .i64 ((n + m : Nat) : Int)))) (fun iv _ _ => 2 - (intOf iv).toNat)
  case atStart => exact ⟨rfl, .inl ⟨rfl, rfl⟩⟩
  case round =>
    obtain ⟨rfl, ⟨rfl, rfl⟩ | ⟨rfl, rfl⟩ | ⟨rfl, rfl⟩⟩ := hrel
    · go_wp2_with fail
      go_roundw
      case rel => exact ⟨by first | trivial | rfl, .inr (.inl ⟨by go_num, by go_num⟩)⟩
      case measure => simp [intOf]
    · have hs : ¬ (n : Int) + (m : Int) < 0 := by omega
      go_wp2_with fail
      go_roundw
      case rel => exact ⟨by first | trivial | rfl, .inr (.inr ⟨by go_num, by go_num⟩)⟩
      case measure => simp [intOf]
    · clear c0 c1
      go_wp2_with fail
      refine (grow_any (n + m) _ hl).mono ?_
      rintro e w1 ⟨v1, rfl, ho1, hb1⟩
      have HO1 : Hid (OwnE w1 w.heap.size v1 []) := ho1
      have HB1 : Hid (Below w.heap.size w w1) := hb1
      clear ho1 hb1
      go_wp2_with fail
      go_loopw [27, 6] (fun iv vv wr => ∃ v, v = vv ∧ Hid (Below w.heap.size w wr) ∧ ((iv = .int .i64 0 ∧ Hid (OwnE wr w.heap.size v [])) ∨ (iv = .int .i64 1 ∧ Hid (OwnE wr w.heap.size v la)) ∨ (iv = .int .i64 2 ∧ Hid (OwnE wr w.heap.size v (la ++ lb))))) (fun iv _ _ => 2 - (intOf iv).toNat)
      case atStart => exact ⟨_, rfl, HB1, .inl ⟨rfl, HO1⟩⟩
      case round =>
        clear HO1 HB1
        obtain ⟨vv, rfl, HW, ⟨rfl, HO⟩ | ⟨rfl, HO⟩ | ⟨rfl, HO⟩⟩ := hrel
        · have hkr := HK.out.below HW.out HK.out.lt
          have c0 : wr.cell? ⟨C, 0, none⟩ = some (.slice p n c) := hkr.cell 0
          obtain ⟨v', w', hr, h2, h3, h4⟩ := run_appE wr w.heap.size 27 vv [] la p n c HN.out (HA.out.below HW.out (Nat.le_refl _)) HPA.out HO.out (by simp; omega) HW.out.size
          have HR : Hid _ := hr
          have HO2 : Hid (OwnE w' w.heap.size v' la) := h2
          have HW2 : Hid (Below w.heap.size w w') := HW.out.grown h3 HW.out.size (fun k hk => (World.ownsRow.lt HO.out k hk).1)
          clear hkr hr h2 h3 h4
          go_wp2_with (at_builtin; refine Lib.wpList_append_run _ rfl _ _ _ _ rfl _ _ rfl rfl _ _ HR.out ?_)
          go_roundw
          case rel => exact ⟨_, rfl, HW2, .inr (.inl ⟨by go_num, HO2⟩)⟩
          case measure => simp [intOf]
        · have hkr := HK.out.below HW.out HK.out.lt
          have c1 : wr.cell? ⟨C, 1, none⟩ = some (.slice q m d) := hkr.cell 1
          obtain ⟨v', w', hr, h2, h3, h4⟩ := run_appE wr w.heap.size 27 vv la lb q m d HM.out (HE.out.below HW.out (Nat.le_refl _)) HPB.out HO.out (by rw [HN.out]; exact hl) HW.out.size
          have HR : Hid _ := hr
          have HO2 : Hid (OwnE w' w.heap.size v' (la ++ lb)) := h2
          have HW2 : Hid (Below w.heap.size w w') := HW.out.grown h3 HW.out.size (fun k hk => (World.ownsRow.lt HO.out k hk).1)
          clear hkr hr h2 h3 h4
          go_wp2_with (at_builtin; refine Lib.wpList_append_run _ rfl _ _ _ _ rfl _ _ rfl rfl _ _ HR.out ?_)
          go_roundw
          case rel => exact ⟨_, rfl, HW2, .inr (.inr ⟨by go_num, HO2⟩)⟩
          case measure => simp [intOf]
        · go_wp2_with fail
          go_ret
          exact ⟨_, rfl, HO.out, HW.out⟩

end Go.Proofs.YtoehlgigidgfpaaGreat
