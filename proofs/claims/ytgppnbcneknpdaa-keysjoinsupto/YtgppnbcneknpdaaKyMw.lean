/- Minus: the walk. -/
import Derived.Test.YtgppnbcneknpdaaKyMi
namespace Go.Proofs.Ytgppnbcneknpdaa
open Go.RowKit
set_option linter.unusedVariables false
set_option maxRecDepth 100000

theorem Ky.left_at {whole os : List Rg} {i : Nat} {o : Rg} (h : os[i]? = some o) : Ky.left whole (os.take (i + 1)) = Ky.left whole (os.take i) ++ Ky.outs whole o := by
  unfold Ky.left
  rw [List.take_add_one, h, List.flatMap_append]
  simp

theorem Ky.outs_at {whole : List Rg} {o : Rg} {j : Nat} {x : Rg} (h : whole[j]? = some x) : (Ky.outs whole o).take (j + 1) = (Ky.outs whole o).take j ++ [Ky.meet [x, o]] := by
  unfold Ky.outs
  rw [List.take_add_one, List.getElem?_map, h]
  rfl

theorem Ky.outs_len (whole : List Rg) (o : Rg) : (Ky.outs whole o).length = whole.length := by unfold Ky.outs; simp

set_option maxHeartbeats 2000000 in
theorem minus_any (p : Option Addr) (len cap : Nat) (l : List Rg) (r : Rg) (w : World) (hlen : l.length = len) (hx : Rgs w p l) (hl : len ≤ 1048576) (hp : p = none → len = 0) :
    Calls Try.prog 10 #[.slice p len cap, r.val] w fun e w' => ∃ v l1 l2, e = .returned v ∧ l1.Perm (Ky.full l) ∧ Ky.Sorted l1 ∧ l2.Perm (Ky.full (Ky.left (Ky.uni l1) (Ky.around r))) ∧ Ky.Sorted l2 ∧ OwnR w' w.heap.size v (Ky.uni l2) ∧ Below w.heap.size w w' := by
  have HK0 : Hid (Bk (w.alloc (.cells #[.string r.lo, .string r.hi] 24)) w.heap.size 24 #[.string r.lo, .string r.hi]) := Bk.new _ _ _
  have HB0 : Hid (Below w.heap.size w (w.alloc (.cells #[.string r.lo, .string r.hi] 24))) := (Below.refl _ _).alloc (Nat.le_refl _) _
  have HX0 : Hid (Rgs (w.alloc (.cells #[.string r.lo, .string r.hi] 24)) p l) := hx.below HB0.out (Nat.le_refl _)
  clear hx
  go_enter Try.func10, Try.ntmps10
  go_wp2_with fail
  refine (union_any p len cap l _ hlen HX0.out (by omega) hp).mono ?_
  rintro e w1 ⟨v1, l1, rfl, hp1, hs1, ho1, hb1⟩
  have hw1 : (Ky.uni l1).length ≤ 1048576 := by
    have h1 := Ky.uni_len l1 []
    have h2 := hp1.length_eq
    have h3 := Ky.full_le l
    unfold Ky.uni
    simp only [List.length_nil] at h1
    omega
  have HP1 : Hid (l1.Perm (Ky.full l)) := hp1
  have HS1 : Hid (Ky.Sorted l1) := hs1
  have HB1 : Hid (Below w.heap.size w w1) := HB0.out.trans (hb1.mono HB0.out.size)
  have hk1 := HK0.out.below hb1 HK0.out.lt
  have a0 := hk1.cell 0
  have a1 := hk1.cell 1
  simp at a0 a1
  obtain ⟨p5, c5, rfl, hr5, hn5⟩ := ho1.rgs
  have HR5 : Hid (Rgs w1 p5 (Ky.uni l1)) := hr5
  generalize hwh : Ky.uni l1 = whole at hw1 HR5 ⊢
  have HWH : Hid (Ky.uni l1 = whole) := hwh
  clear hp1 hs1 hb1 hk1 ho1 hr5 hn5 hwh HK0 HX0 hp hlen
  go_wp2_with fail
  refine (around_any r _).mono ?_
  rintro e w2 ⟨v2, rfl, ho2, hb2⟩
  have hw2 : (Ky.around r).length ≤ 2 := Ky.around_len r
  have HB2 : Hid (Below w.heap.size w w2) := HB1.out.trans (hb2.mono HB1.out.size)
  have HR52 : Hid (Rgs w2 p5 whole) := HR5.out.below hb2 (Nat.le_refl _)
  obtain ⟨p6, c6, rfl, hr6, hn6⟩ := ho2.rgs
  have HR6 : Hid (Rgs w2 p6 (Ky.around r)) := hr6
  generalize har : Ky.around r = os at hw2 HR6 ⊢
  have HAR : Hid (Ky.around r = os) := har
  clear hb2 ho2 hr6 hn6 har a0 a1 HR5
  obtain ⟨n5, hn5⟩ : ∃ n5, n5 = whole.length := ⟨_, rfl⟩
  obtain ⟨n6, hn6⟩ : ∃ n6, n6 = os.length := ⟨_, rfl⟩
  have HN5 : Hid (n5 = whole.length) := hn5
  have HN6 : Hid (n6 = os.length) := hn6
  rw [← hn5] at hw1 ⊢
  rw [← hn6] at hw2 ⊢
  clear hn5 hn6
  go_wp2_with fail
  go_loopw [6, 16] (fun v i wr => ∃ (k : Nat) (acc : List Rg), k ≤ n6 ∧ i = .int .i64 k ∧ Hid (OwnR wr w2.heap.size v acc) ∧ Hid (acc.length = k * n5) ∧ Hid (Ky.left whole (os.take k) = acc) ∧ Hid (Below w2.heap.size w2 wr)) (fun _ i _ => n6 - (intOf i).toNat)
  case atStart => exact ⟨0, [], Nat.zero_le _, rfl, OwnR.nil _ _, by simp [Hid], rfl, Below.refl _ _⟩
  case round =>
    obtain ⟨k, acc, hk, rfl, HO, HAL, HQ, HW⟩ := hrel
    by_cases hlt : k < n6
    · have hli : (k : Int) < (n6 : Int) := by omega
      obtain ⟨b, o, y, rfl, hg, hblt, c0, c1⟩ := (HR6.out.below HW.out (Nat.le_refl _)).at (j := k) (by have := HN6.out; omega)
      have HG : Hid (os[k]? = some y) := hg
      have HK8 : Hid (Bk (wr.alloc (.cells #[.string y.lo, .string y.hi] 24)) wr.heap.size 24 #[.string y.lo, .string y.hi]) := Bk.new _ _ _
      have HW8 : Hid (Below w2.heap.size w2 (wr.alloc (.cells #[.string y.lo, .string y.hi] 24))) := HW.out.alloc HW.out.size _
      have HO8 : Hid (OwnR (wr.alloc (.cells #[.string y.lo, .string y.hi] 24)) w2.heap.size u6 acc) := HO.out.below ((Below.refl _ _).alloc (Nat.le_refl _) _) (Nat.le_refl _)
      have HNE : Hid (u6.ownBlock ≠ some wr.heap.size) := by
        intro e
        have := (World.ownsRow.lt HO.out _ e).2
        omega
      clear hg
      go_wp2_with fail
      generalize (wr.alloc (.cells #[.string y.lo, .string y.hi] 24)) = w8 at HK8 HW8 HO8 ⊢
      generalize wr.heap.size = b8 at HK8 HNE ⊢
      clear c0 c1 hblt HO HW
      go_loopw [6, 22] (fun v i wi => ∃ (j : Nat) (acc2 : List Rg), j ≤ n5 ∧ i = .int .i64 j ∧ Hid (OwnR wi w2.heap.size v acc2) ∧ Hid (acc2.length = k * n5 + j) ∧ Hid (acc ++ (Ky.outs whole y).take j = acc2) ∧ Hid (Below w2.heap.size w2 wi) ∧ Hid (Bk wi b8 24 #[.string y.lo, .string y.hi]) ∧ Hid (v.ownBlock ≠ some b8)) (fun _ i _ => n5 - (intOf i).toNat)
      case atStart => exact ⟨0, acc, Nat.zero_le _, rfl, HO8, HAL, by simp [Hid], HW8, HK8, HNE⟩
      case round =>
        obtain ⟨j, acc2, hj, rfl, HO9, HAL9, HQ9, HW9, HK9, HNE9⟩ := hrel
        by_cases hjt : j < n5
        · have hji : (j : Int) < (n5 : Int) := by omega
          obtain ⟨b5, o5, x, rfl, hg5, hblt5, d0, d1⟩ := (HR52.out.below HW9.out (Nat.le_refl _)).at (j := j) (by have := HN5.out; omega)
          have HG5 : Hid (whole[j]? = some x) := hg5
          have hkn : k * n5 + j + 1 ≤ 2097152 := by
            have h1 : (k + 1) * n5 ≤ 2 * 1048576 := Nat.mul_le_mul (by omega) hw1
            have h2 : (k + 1) * n5 = k * n5 + n5 := by rw [Nat.add_mul, Nat.one_mul]
            omega
          have hb8l : b8 < wr.heap.size := HK9.out.lt
          obtain ⟨w10, hw10⟩ : ∃ w10, w10 = wr.alloc (.cells #[.string x.lo, .string x.hi] 24) := ⟨_, rfl⟩
          have hsz10 : w10.heap.size = wr.heap.size + 1 := by rw [hw10]; simp
          have HB10 : Hid (Below wr.heap.size wr w10) := by rw [hw10]; exact (Below.refl _ _).alloc (Nat.le_refl _) _
          have hk8 : Bk w10 b8 24 #[.string y.lo, .string y.hi] := HK9.out.below HB10.out hb8l
          have hk10 : Bk w10 wr.heap.size 24 #[.string x.lo, .string x.hi] := by rw [hw10]; exact Bk.new _ _ _
          have e0 := hk8.cell 0
          have e1 := hk8.cell 1
          have f0 := hk10.cell 0
          have f1 := hk10.cell 1
          simp at e0 e1 f0 f1
          have HX11 : Hid (Rgs (w10.alloc (.cells #[.string x.lo, .string x.hi, .string y.lo, .string y.hi] 24)) (some ⟨wr.heap.size + 1, 0, none⟩) [x, y]) := by
            have := rgs_two w10 x y
            rw [hsz10] at this
            exact this
          have HB11 : Hid (Below wr.heap.size wr (w10.alloc (.cells #[.string x.lo, .string x.hi, .string y.lo, .string y.hi] 24))) := HB10.out.alloc HB10.out.size _
          have HLT : Hid (b8 < wr.heap.size) := hb8l
          clear hk8 hk10 hsz10 hg5
          subst hw10
          go_wp2_with fail
          refine (meet_any _ 2 2 [x, y] _ rfl HX11.out (by decide)).mono ?_
          rintro e w12 ⟨rfl, hb12⟩
          have hB12 : Below wr.heap.size wr w12 := HB11.out.trans (hb12.mono HB11.out.size)
          have HO12 : Hid (OwnR w12 w2.heap.size u6 acc2) := HO9.out.below hB12 (Nat.le_refl _)
          have HW12 : Hid (Below w2.heap.size w2 w12) := HW9.out.trans (hB12.mono HW9.out.size)
          have HK12 : Hid (Bk w12 b8 24 #[.string y.lo, .string y.hi]) := HK9.out.below hB12 HLT.out
          clear hb12 hB12 e0 e1 f0 f1 d0 d1 HX11 HB10 HB11
          go_wp2_with (at_builtin; refine appS w12 rfl _ _ rfl w2.heap.size u6 acc2 rfl (Ky.meet [x, y]) _ rfl rfl HO12.out (by have := HAL9.out; omega) HW12.out.size ?_; intro v13 w13 ho13 hb13 hk13)
          have HO13 : Hid (OwnR w13 w2.heap.size v13 (acc2 ++ [Ky.meet [x, y]])) := ho13
          have HW13 : Hid (Below w2.heap.size w2 w13) := HW12.out.trans hb13
          obtain ⟨hk14, hne14⟩ := hk13 b8 _ _ HK12.out HNE9.out
          have HK13 : Hid (Bk w13 b8 24 #[.string y.lo, .string y.hi]) := hk14
          have HNE13 : Hid (v13.ownBlock ≠ some b8) := hne14
          clear ho13 hb13 hk13 hk14 hne14
          go_wp2
          go_roundw
          case rel => exact ⟨j + 1, acc2 ++ [Ky.meet [x, y]], by omega, by go_num, HO13, by unfold Hid; rw [List.length_append, HAL9.out]; rfl, by unfold Hid; rw [Ky.outs_at HG5.out, ← List.append_assoc, HQ9.out], HW13, HK13, HNE13⟩
          case measure => simp [intOf]; omega
        · have hjj : j = n5 := by omega
          have hji : ¬ ((j : Int) < (n5 : Int)) := by omega
          go_wp2
          go_roundw
          case rel =>
            refine ⟨k + 1, acc2, by omega, by go_num, HO9, ?_, ?_, HW9⟩
            · unfold Hid
              rw [HAL9.out, hjj, Nat.add_mul, Nat.one_mul]
            · unfold Hid
              rw [Ky.left_at HG.out, HQ.out, ← HQ9.out, List.take_of_length_le (by rw [Ky.outs_len]; have := HN5.out; omega)]
          case measure => simp [intOf]; omega
    · have hkk : k = n6 := by omega
      have hli : ¬ ((k : Int) < (n6 : Int)) := by omega
      have hnn : n6 * n5 ≤ 2097152 := by
        have := Nat.mul_le_mul hw2 hw1
        omega
      have HLF : Hid (Ky.left (Ky.uni l1) (Ky.around r) = acc) := by
        unfold Hid
        rw [HWH.out, HAR.out, ← HQ.out, List.take_of_length_le (by have := HN6.out; omega)]
      obtain ⟨p9, c9, hv9, hr9, hn9⟩ := HO.out.rgs
      subst hv9
      have HR9 : Hid (Rgs wr p9 acc) := hr9
      have hp9 : p9 = none → acc.length = 0 := fun h => by rw [hn9 h]; rfl
      have hal : acc.length ≤ 3298534883328 := by have := HAL.out; rw [hkk] at this; omega
      clear hr9 hn9
      go_wp2_with fail
      refine (union_any p9 acc.length c9 acc _ rfl HR9.out hal hp9).mono ?_
      rintro e w20 ⟨v20, l2, rfl, hp20, hs20, ho20, hb20⟩
      have HB20 : Hid (Below w.heap.size w w20) := (HB2.out.trans (HW.out.mono HB2.out.size)).trans (hb20.mono (Nat.le_trans HB2.out.size HW.out.size))
      have HO20 : Hid (OwnR w20 w.heap.size v20 (Ky.uni l2)) := ho20.mono (Nat.le_trans HB2.out.size HW.out.size)
      have HP20 : Hid (l2.Perm (Ky.full acc)) := hp20
      have HS20 : Hid (Ky.Sorted l2) := hs20
      clear hp20 hs20 ho20 hb20 hp9 hal
      go_wp2
      go_ret
      refine ⟨_, l1, l2, rfl, HP1.out, HS1.out, ?_, HS20.out, HO20.out, HB20.out⟩
      rw [HLF.out]
      exact HP20.out
end Go.Proofs.Ytgppnbcneknpdaa
