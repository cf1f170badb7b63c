/- Behind any crash each sector has what was sure, or what was written last. -/
import Derived.Test.YtahcfpfjijkchaaDkTab
namespace Go.Proofs.Ytahcfpfjijkchaa
open Go.ChangeShapes Go.WideShapes Go.ChangeAt Go.RowKit Go.Shelf
set_option linter.unusedVariables false

def On1A (n : Nat) (d : Dk) (f h : Nat → Option (List Int)) : Prop := (∀ i, i < n → f i = some (d.last i)) ∧ ∀ i, i < n → h i = none
def On2A (n : Nat) (d : Dk) (f h : Nat → Option (List Int)) : Prop := (∀ i, i < n → f i = some (d.sure i)) ∧ ∀ i, i < n → h i = d.dirty i

theorem On1A.put {n : Nat} {d : Dk} {f h : Nat → Option (List Int)} (H : On1A n d f h) {k : Nat} (hk : k < n) {xs : List Int} : On1A n (d.put k xs) (upd f k xs) h := by
  refine ⟨fun i hi => ?_, H.2⟩
  simp only [upd, Dk.last, Dk.put]
  split
  · rfl
  · exact H.1 i hi

theorem On2A.put {n : Nat} {d : Dk} {f h : Nat → Option (List Int)} (H : On2A n d f h) {k : Nat} (hk : k < n) {xs : List Int} : On2A n (d.put k xs) f (upd h k xs) := by
  refine ⟨H.1, fun i hi => ?_⟩
  simp only [upd, Dk.put]
  split
  · rfl
  · exact H.2 i hi

structure On1 (w wr : World) (n B O L : Nat) (d : Dk) (f h : Nat → Option (List Int)) (av : List Nat) : Prop where
  tt : TT wr w.heap.size B d O L n f h av
  plain : Plain d n
  below : Below w.heap.size w wr
  agree : On1A n d f h

structure On2 (w wr : World) (n B O L : Nat) (d : Dk) (f h : Nat → Option (List Int)) (av : List Nat) : Prop where
  tt : TT wr w.heap.size B d O L n f h av
  plain : Plain d n
  below : Below w.heap.size w wr
  agree : On2A n d f h

structure On4 (w wr : World) (n B O L : Nat) (d : Dk) (f h : Nat → Option (List Int)) (av : List Nat) : Prop where
  tt : TT wr w.heap.size B d O L n f h av
  below : Below w.heap.size w wr

theorem TT.secs {w : World} {m B O L n : Nat} {d : Dk} {f g : Nat → Option (List Int)} {av : List Nat} (h : TT w m B d O L n f g av) : ∀ i, i < d.n → Sec (d.last i) := by
  obtain ⟨bs, h1, -⟩ := h.sep
  exact h1.facts.2.2.1

/-- A disk with two empty tables. -/
theorem tt_new {w1 w2 w3 : World} {m B n : Nat} {d : Dk} (h : Sep w1 m B d []) (hm : m ≤ w1.heap.size) (t1 : Tab w2 [] w1.heap.size n (fun _ => none)) (b1 : Below w1.heap.size w1 w2) (t2 : Tab w3 [] w2.heap.size n (fun _ => none)) (b2 : Below w2.heap.size w2 w3) :
    TT w3 m B d w1.heap.size w2.heap.size n (fun _ => none) (fun _ => none) [] := by
  have t1' := t1
  have t2' := t2
  obtain ⟨c1, k1, -, -⟩ := t1
  obtain ⟨c2, k2, -, -⟩ := t2
  have l1 := k1.lt
  have l2 := k2.lt
  exact {
    sep := ((h.add b1 (Nat.le_refl _) l1).add b2 (Nat.le_refl _) l2).fewer (by simp only [List.mem_cons]; rintro y (h | h | h) <;> simp_all)
    oav := by simp
    lav := by simp
    ol := by omega
    mO := hm
    mL := by omega
    tO := t1'.keep (fun _ h => h) (fun y hy => by cases hy) (b2.block _ l1)
    tL := t2' }

set_option maxRecDepth 100000 in
set_option maxHeartbeats 8000000 in
theorem walk_diskOldNew (i : Int) (q : Option Addr) (m qc : Nat) (os : List GOp) (q2 : Option Addr) (m2 qc2 : Nat) (os2 : List GOp) (p : Option Addr) (len cap : Nat) (ks : List Bool) (w : World) (hi : (Lit.int .i64 i).wf = true) (hos : InOps w q m qc os) (hos2 : InOps w q2 m2 qc2 os2) (hin : InK w p len cap ks) :
    Calls Try.prog 6 #[.int .i64 i, .slice q m qc, .slice q2 m2 qc2, .slice p len cap] w fun e w' => e = .returned (.bool true) ∧ Below w.heap.size w w' := by
  have HI : Hid (InK w p len cap ks) := hin
  have HO : Hid (InOps w q m qc os) := hos
  have HO2 : Hid (InOps w q2 m2 qc2 os2) := hos2
  have HLT : Hid (∀ ad, p = some ad → 0 < ks.length → ad.block < w.heap.size) := hin.lt
  have hle := hin.le
  have hroom := hin.room
  have hle2 := hos.le
  have hroom2 := hos.room
  have hle3 := hos2.le
  have hroom3 := hos2.room
  clear hin hos hos2 hi
  by_cases h1 : i < 1
  · go_enter Try.func6, Try.ntmps6
    go_wp2_with fail
    refine (begun_any w).mono ?_
    rintro e w2 ⟨rfl, hb2⟩
    go_wp2
    go_ret
    exact ⟨rfl, hb2⟩
  · by_cases h2 : 64 < i
    · go_enter Try.func6, Try.ntmps6
      go_wp2_with fail
      refine (begun_any w).mono ?_
      rintro e w2 ⟨rfl, hb2⟩
      go_wp2
      go_ret
      exact ⟨rfl, hb2⟩
    · obtain ⟨n, rfl⟩ : ∃ n : Nat, i = (n : Int) := ⟨i.toNat, by omega⟩
      have hn64 : n ≤ 16384 := by omega
      go_enter Try.func6, Try.ntmps6
      go_wp2_with fail
      refine (newF n w (by omega) (by omega)).mono ?_
      rintro e w1 ⟨B, rfl, hd1, hb1⟩
      have HD1 : Hid (Sep w1 w.heap.size B (Dk.fresh n) []) := Sep.of hd1
      have HB1 : Hid (Below w.heap.size w w1) := hb1
      clear hd1 hb1
      go_wp2_with fail
      refine (begun_any w1).mono ?_
      rintro e w2 ⟨rfl, hb2⟩
      have HD2 : Hid (Sep w2 w.heap.size B (Dk.fresh n) []) := HD1.out.below hb2
      have HB2 : Hid (Below w.heap.size w w2) := HB1.out.trans (hb2.mono HB1.out.size)
      clear hb2 HD1 HB1
      go_wp2_with (refine wp_make_tab rfl _ _ rfl n hn64 rfl rfl ?_; intro w3 t3 b3; refine Hid.out ?_)
      unfold Hid
      have HT3 : Hid (Tab w3 [] w2.heap.size n (fun _ => none)) := t3
      have HBL3 : Hid (Below w2.heap.size w2 w3) := b3
      clear t3 b3
      go_wp2_with (refine wp_make_tab rfl _ _ rfl n hn64 rfl rfl ?_; intro w4 t4 b4; refine Hid.out ?_)
      unfold Hid
      have HT4 : Hid (TT w4 w.heap.size B (Dk.fresh n) w2.heap.size w3.heap.size n (fun _ => none) (fun _ => none) []) := tt_new HD2.out HB2.out.size HT3.out HBL3.out t4 b4
      have HB4 : Hid (Below w.heap.size w w4) := (HB2.out.trans (HBL3.out.mono HB2.out.size)).trans (b4.mono (Nat.le_trans HB2.out.size HBL3.out.size))
      clear t4 b4 HT3 HBL3 HD2 HB2
      generalize w2.heap.size = O at *
      generalize w3.heap.size = L at *
      go_wp2_with fail
      go_loopw [53] (fun iv wr => ∃ (j : Nat) (av : List Nat), j ≤ n ∧ iv = .int .i64 j ∧ Hid (TT wr w.heap.size B (Dk.fresh n) O L n (fun x => if x < j then some zeros else none) (fun _ => none) av) ∧ Hid (Below w.heap.size w wr)) (fun iv _ => n - (intOf iv).toNat)
      case atStart => exact ⟨0, [], Nat.zero_le _, rfl, HT4, HB4⟩
      case round =>
        obtain ⟨j, av, hj, rfl, HT, HB⟩ := hrel
        clear HT4 HB4
        by_cases hq : j < n
        · have hqi : (j : Int) < (n : Int) := by omega
          go_wp2_with (refine wp_make_secW rfl _ _ rfl rfl rfl ?_; intro wh zd hld hzd hzbk hbh hsd; refine Hid.out ?_)
          unfold Hid
          have HT5 : Hid (TT wh w.heap.size B (Dk.fresh n) O L n (fun x => if x < j then some zeros else none) (fun _ => none) (wr.heap.size :: av)) := HT.out.add hbh (Nat.le_refl _) hzbk.lt
          have HB5 : Hid (Below w.heap.size w wh) := HB.out.trans (hbh.mono HB.out.size)
          have HR5 : Hid (Row wh wr.heap.size zd) := Row.of_sec hzbk
          have HZ : Hid (zd = zeros) := hzd
          obtain ⟨v, cv, fv, -⟩ := HT5.out.tO.cell hq
          clear hzd hzbk hbh hsd HT HB
          go_wp2
          go_roundw
          case rel =>
            refine ⟨j + 1, wr.heap.size :: av, by omega, by go_num, ?_, HB5.out.setCell HT5.out.mO _⟩
            have hf : (fun x => if x < j + 1 then some zeros else none) = upd (fun x => if x < j then some zeros else none) j zd := by
              funext x
              rw [HZ.out]
              simp only [upd]
              by_cases hx : x = j
              · subst hx; simp
              · rw [if_neg hx]
                by_cases hx2 : x < j
                · rw [if_pos hx2, if_pos (by omega)]
                · rw [if_neg hx2, if_neg (by omega)]
            rw [hf]
            exact HT5.out.setO hq (by simp) HR5.out
          case measure => simp [intOf]; omega
        · have hjn : n = j := by omega
          subst hjn
          have HF0 : Hid (On1 w wr n B O L (Dk.fresh n) (fun x => if x < n then some zeros else none) (fun _ => none) av) := ⟨HT.out, Plain.fresh n, HB.out, fun x hx => by show (if x < n then some zeros else none) = _; rw [if_pos hx]; rfl, fun _ _ => rfl⟩
          clear HT HB
          go_wp2_with fail
          go_loopw [63] (fun iv wr => ∃ (j : Nat) (d : Dk) (f h : Nat → Option (List Int)) (av : List Nat), j ≤ m ∧ iv = .int .i64 j ∧ Hid (On1 w wr n B O L d f h av)) (fun iv _ => m - (intOf iv).toNat)
          case atStart => exact ⟨0, _, _, _, _, Nat.zero_le _, rfl, HF0⟩
          case round =>
            obtain ⟨j, d, f, h, av, hj, rfl, HF⟩ := hrel
            clear HF0
            by_cases hq : j < m
            · have hqi : (j : Int) < (m : Int) := by omega
              have HO1 : Hid (InOps wr q m qc os) := HO.out.up HF.out.below
              obtain ⟨b, o, g, hqe, hg, hop, hblt, c0, c1, c2, c3, c4, c5, c6⟩ := HO1.out.at hq
              subst hqe
              have ha := hop.a
              have hb := hop.b
              clear hg hop HO1
              have hb5 : Below wr.heap.size wr (wr.alloc (.cells g.cells.toArray 34)) := (Below.refl _ _).alloc (Nat.le_refl _) _
              have HT5 : Hid (TT (wr.alloc (.cells g.cells.toArray 34)) w.heap.size B d O L n f h (wr.heap.size :: av)) := HF.out.tt.add hb5 (Nat.le_refl _) (by simp)
              have HP : Hid (Plain d n) := HF.out.plain
              have HA : Hid (On1A n d f h) := HF.out.agree
              have HB5 : Hid (Below w.heap.size w (wr.alloc (.cells g.cells.toArray 34))) := HF.out.below.trans (hb5.mono HF.out.below.size)
              have HK5 : Hid (Bk (wr.alloc (.cells g.cells.toArray 34)) wr.heap.size 34 g.cells.toArray) := Bk.new _ _ _
              have HS : Hid (Sec (sct g.a g.b)) := sec_sct ha hb
              clear hb5 HF ha hb
              go_wp2_with fail
              refine (sector_any g.a g.b _).mono ?_
              rintro e w6 ⟨g6, rfl, hg6, hr6, hb6⟩
              have HT6 : Hid (TT w6 w.heap.size B d O L n f h (g6 :: wr.heap.size :: av)) := HT5.out.add hb6 hg6 hr6.lt
              have HB6 : Hid (Below w.heap.size w w6) := HB5.out.trans (hb6.mono HB5.out.size)
              have HK6 : Hid (Bk w6 wr.heap.size 34 g.cells.toArray) := HK5.out.below hb6 HK5.out.lt
              have HR6 : Hid (Row w6 g6 (sct g.a g.b)) := hr6
              obtain ⟨d1, d2, d3⟩ := op_box HK6.out
              clear hg6 hr6 hb6 HT5 HB5 HK5 c0 c1 c2 c3 c4 c5 c6
              go_wp2_with fail
              refine (writeT HT6.out HB6.out.size g.pl _ 512 _ (sct g.a g.b) HS.out.1 HR6.out.bys HS.out.2).mono ?_
              rintro e w7 ⟨rfl, ht7, hb7, hk7⟩
              have HB7 : Hid (Below w.heap.size w w7) := HB6.out.trans hb7
              have HR7 : Hid (Row w7 g6 (sct g.a g.b)) := by
                obtain ⟨cur, r1, r2⟩ := HR6.out
                exact ⟨cur, (hk7 g6 (by simp)).trans r1, r2⟩
              have HK7 : Hid (Bk w7 wr.heap.size 34 g.cells.toArray) := (hk7 wr.heap.size (by simp)).trans HK6.out
              rcases HP.out.write g.pl (sct g.a g.b) HS.out.1 with ⟨hr, hw⟩ | ⟨hr, hw, hpp⟩
              · rw [hw] at ht7 ⊢
                have hrb : (d.reach g.pl == 0) = false := by simpa using hr
                have HF7 : Hid (On1 w w7 n B O L d f h (g6 :: wr.heap.size :: av)) := ⟨ht7, HP.out, HB7.out, HA.out⟩
                clear ht7 hb7 hk7 hr hw HT6 HB6 HK6 HR6 HR7 HK7 d1 d2 d3
                go_wp2
                go_roundw
                case rel => exact ⟨j + 1, _, _, _, _, by omega, by go_num, HF7⟩
                case measure => simp [intOf]; omega
              · rw [hw] at ht7 ⊢
                obtain ⟨_, k, hk, hkn⟩ := Dk.reach_ok hr
                rw [HP.out.n] at hkn
                rw [hk, Int.toNat_natCast] at ht7 hpp
                obtain ⟨e1, e2, e3⟩ := op_box HK7.out
                rw [hk] at e1
                have HT7 : Hid (TT w7 w.heap.size B (d.put k (sct g.a g.b)) O L n f h (g6 :: wr.heap.size :: av)) := ht7
                have HPP : Hid (Plain (d.put k (sct g.a g.b)) n) := hpp
                obtain ⟨v, cv, fv, -⟩ := HT7.out.tO.cell hkn
                have hki : (k : Int) < (n : Int) := by omega
                clear ht7 hb7 hk7 hr hw hpp HT6 HB6 HK6 HR6 HK7 d1 d2 d3 hk
                go_wp2
                go_roundw
                case rel => exact ⟨j + 1, _, _, _, _, by omega, by go_num, ⟨HT7.out.setO hkn (by simp) HR7.out, HPP.out, HB7.out.setCell (by have := HT7.out.mO; exact this) _, HA.out.put hkn⟩⟩
                case measure => simp [intOf]; omega
            · have hjm : m = j := by omega
              subst hjm
              have HT : Hid (TT wr w.heap.size B d O L n f h av) := HF.out.tt
              have HP : Hid (Plain d n) := HF.out.plain
              have HA : Hid (On1A n d f h) := HF.out.agree
              have HB : Hid (Below w.heap.size w wr) := HF.out.below
              clear HF
              go_wp2_with fail
              refine (barT HT.out HB.out.size).mono ?_
              rintro e w8 ⟨rfl, ht8, hb8⟩
              rw [HP.out.bar.1] at ht8 ⊢
              have HF1 : Hid (On2 w w8 n B O L d.flush f h av) := ⟨ht8, HP.out.bar.2, HB.out.trans hb8, HA.out.1, HA.out.2⟩
              clear ht8 hb8 HT HP HA HB
              go_wp2_with fail
              go_loopw [88] (fun iv wr => ∃ (j : Nat) (d : Dk) (f h : Nat → Option (List Int)) (av : List Nat), j ≤ m2 ∧ iv = .int .i64 j ∧ Hid (On2 w wr n B O L d f h av)) (fun iv _ => m2 - (intOf iv).toNat)
              case atStart => exact ⟨0, _, _, _, _, Nat.zero_le _, rfl, HF1⟩
              case round =>
                obtain ⟨j, d, f, h, av, hj, rfl, HF⟩ := hrel
                clear HF1
                by_cases hq : j < m2
                · have hqi : (j : Int) < (m2 : Int) := by omega
                  have HO1 : Hid (InOps wr q2 m2 qc2 os2) := HO2.out.up HF.out.below
                  obtain ⟨b, o, g, hqe, hg, hop, hblt, c0, c1, c2, c3, c4, c5, c6⟩ := HO1.out.at hq
                  subst hqe
                  have ha := hop.a
                  have hb := hop.b
                  clear hg hop HO1
                  have hb5 : Below wr.heap.size wr (wr.alloc (.cells g.cells.toArray 34)) := (Below.refl _ _).alloc (Nat.le_refl _) _
                  have HT5 : Hid (TT (wr.alloc (.cells g.cells.toArray 34)) w.heap.size B d O L n f h (wr.heap.size :: av)) := HF.out.tt.add hb5 (Nat.le_refl _) (by simp)
                  have HP : Hid (Plain d n) := HF.out.plain
                  have HA : Hid (On2A n d f h) := HF.out.agree
                  have HB5 : Hid (Below w.heap.size w (wr.alloc (.cells g.cells.toArray 34))) := HF.out.below.trans (hb5.mono HF.out.below.size)
                  have HK5 : Hid (Bk (wr.alloc (.cells g.cells.toArray 34)) wr.heap.size 34 g.cells.toArray) := Bk.new _ _ _
                  have HS : Hid (Sec (sct g.a g.b)) := sec_sct ha hb
                  clear hb5 HF ha hb
                  go_wp2_with fail
                  refine (sector_any g.a g.b _).mono ?_
                  rintro e w6 ⟨g6, rfl, hg6, hr6, hb6⟩
                  have HT6 : Hid (TT w6 w.heap.size B d O L n f h (g6 :: wr.heap.size :: av)) := HT5.out.add hb6 hg6 hr6.lt
                  have HB6 : Hid (Below w.heap.size w w6) := HB5.out.trans (hb6.mono HB5.out.size)
                  have HK6 : Hid (Bk w6 wr.heap.size 34 g.cells.toArray) := HK5.out.below hb6 HK5.out.lt
                  have HR6 : Hid (Row w6 g6 (sct g.a g.b)) := hr6
                  obtain ⟨d1, d2, d3⟩ := op_box HK6.out
                  clear hg6 hr6 hb6 HT5 HB5 HK5 c0 c1 c2 c3 c4 c5 c6
                  go_wp2_with fail
                  refine (writeT HT6.out HB6.out.size g.pl _ 512 _ (sct g.a g.b) HS.out.1 HR6.out.bys HS.out.2).mono ?_
                  rintro e w7 ⟨rfl, ht7, hb7, hk7⟩
                  have HB7 : Hid (Below w.heap.size w w7) := HB6.out.trans hb7
                  have HR7 : Hid (Row w7 g6 (sct g.a g.b)) := by
                    obtain ⟨cur, r1, r2⟩ := HR6.out
                    exact ⟨cur, (hk7 g6 (by simp)).trans r1, r2⟩
                  have HK7 : Hid (Bk w7 wr.heap.size 34 g.cells.toArray) := (hk7 wr.heap.size (by simp)).trans HK6.out
                  rcases HP.out.write g.pl (sct g.a g.b) HS.out.1 with ⟨hr, hw⟩ | ⟨hr, hw, hpp⟩
                  · rw [hw] at ht7 ⊢
                    have hrb : (d.reach g.pl == 0) = false := by simpa using hr
                    have HF7 : Hid (On2 w w7 n B O L d f h (g6 :: wr.heap.size :: av)) := ⟨ht7, HP.out, HB7.out, HA.out⟩
                    clear ht7 hb7 hk7 hr hw HT6 HB6 HK6 HR6 HR7 HK7 d1 d2 d3
                    go_wp2
                    go_roundw
                    case rel => exact ⟨j + 1, _, _, _, _, by omega, by go_num, HF7⟩
                    case measure => simp [intOf]; omega
                  · rw [hw] at ht7 ⊢
                    obtain ⟨_, k, hk, hkn⟩ := Dk.reach_ok hr
                    rw [HP.out.n] at hkn
                    rw [hk, Int.toNat_natCast] at ht7 hpp
                    obtain ⟨e1, e2, e3⟩ := op_box HK7.out
                    rw [hk] at e1
                    have HT7 : Hid (TT w7 w.heap.size B (d.put k (sct g.a g.b)) O L n f h (g6 :: wr.heap.size :: av)) := ht7
                    have HPP : Hid (Plain (d.put k (sct g.a g.b)) n) := hpp
                    obtain ⟨v, cv, fv, -⟩ := HT7.out.tL.cell hkn
                    have hki : (k : Int) < (n : Int) := by omega
                    clear ht7 hb7 hk7 hr hw hpp HT6 HB6 HK6 HR6 HK7 d1 d2 d3 hk
                    go_wp2
                    go_roundw
                    case rel => exact ⟨j + 1, _, _, _, _, by omega, by go_num, ⟨HT7.out.setL hkn (by simp) HR7.out, HPP.out, HB7.out.setCell (by have := HT7.out.mL; exact this) _, HA.out.put hkn⟩⟩
                    case measure => simp [intOf]; omega
                · have hjm : m2 = j := by omega
                  subst hjm
                  have HT0 : Hid (TT wr w.heap.size B d O L n f h av) := HF.out.tt
                  have HP : Hid (Plain d n) := HF.out.plain
                  have HA : Hid (On2A n d f h) := HF.out.agree
                  have HB0 : Hid (Below w.heap.size w wr) := HF.out.below
                  have HI0 : Hid (InK wr p len cap ks) := HI.out.below HB0.out HLT.out
                  clear HF
                  go_wp2_with fail
                  refine (crashT HT0.out HB0.out.size p cap ks len HI0.out.lenq HI0.out.bls HLT.out).mono ?_
                  rintro e w8 ⟨rfl, ht8, hb8⟩
                  rw [show d.crash ks = (0, d.lose ks) by rw [Dk.crash, if_neg (by simp [HP.out.up])]] at ht8 ⊢
                  have HT8 : Hid (TT w8 w.heap.size B (d.lose ks) O L n f h av) := ht8
                  have HB8 : Hid (Below w.heap.size w w8) := HB0.out.trans hb8
                  clear ht8 hb8 HT0 HB0 HI0
                  go_wp2_with fail
                  refine (restartT HT8.out HB8.out.size).mono ?_
                  rintro e w9 ⟨rfl, ht9, hb9⟩
                  have hl9 : ∀ x, ({ d.lose ks with down := false } : Dk).last x = loseS d.dirty ks d.sure x := fun x => rfl
                  have hn9 : ({ d.lose ks with down := false } : Dk).n = n := HP.out.n
                  have hu9 : ({ d.lose ks with down := false } : Dk).down = false := rfl
                  generalize ({ d.lose ks with down := false } : Dk) = d4 at *
                  have HL : Hid (∀ x, d4.last x = loseS d.dirty ks d.sure x) := hl9
                  have HN : Hid (d4.n = n) := hn9
                  have HU : Hid (d4.down = false) := hu9
                  have HF9 : Hid (On4 w w9 n B O L d4 f h av) := ⟨ht9, HB8.out.trans hb9⟩
                  clear ht9 hb9 hl9 hn9 hu9 HT8 HB8
                  go_wp2_with fail
                  go_loopw [20, 115] (fun cv iv wr => ∃ (j cn : Nat), j ≤ n ∧ iv = .int .i64 j ∧ cv = .int .i64 cn ∧ Hid (cn = (dirts d.dirty j).length) ∧ Hid (On4 w wr n B O L d4 f h av)) (fun _ iv _ => n - (intOf iv).toNat)
                  case atStart => exact ⟨0, 0, Nat.zero_le _, rfl, rfl, rfl, HF9⟩
                  case round =>
                    obtain ⟨j, cn, hj, rfl, rfl, HC, HF⟩ := hrel
                    clear HF9
                    by_cases hq : j < n
                    · have hqi : (j : Int) < (n : Int) := by omega
                      have hcn : cn ≤ 64 := by
                        have := dirts_le d.dirty j
                        rw [HC.out]
                        omega
                      have HT : Hid (TT wr w.heap.size B d4 O L n f h av) := HF.out.tt
                      have HB : Hid (Below w.heap.size w wr) := HF.out.below
                      have HSE : Hid (Sec (d4.last j)) := HT.out.secs j (by rw [HN.out]; exact hq)
                      have HII : Hid (InK wr p len cap ks) := HI.out.below HB.out HLT.out
                      obtain ⟨v1, cv1, fv1, ev1⟩ := HT.out.tO.cell hq
                      obtain ⟨v2, cv2, fv2, ev2⟩ := HT.out.tL.cell hq
                      rw [HA.out.1 j hq] at ev1
                      rw [HA.out.2 j hq] at ev2
                      obtain ⟨gx, rfl, -, hrx⟩ := ev1
                      have HRX : Hid (Row wr gx (d.sure j)) := hrx
                      have HLJ : Hid (d4.last j = loseS d.dirty ks d.sure j) := HL.out j
                      have HDS : Hid (dirts d.dirty (j + 1) = dirts d.dirty j ++ (if (d.dirty j).isSome = true then [j] else [])) := dirts_succ _ _
                      clear fv1 fv2 HF hrx
                      cases hdj : d.dirty j with
                      | none =>
                        rw [hdj] at ev2
                        obtain rfl := ev2.none_inv
                        have HW : Hid (Row wr gx (d4.last j)) := by
                          have e : d4.last j = d.sure j := by
                            rw [HLJ.out, loseS, hdj]
                            simp
                          rw [e]
                          exact HRX.out
                        have HCN : Hid (cn = (dirts d.dirty (j + 1)).length) := by
                          rw [HDS.out, hdj]
                          simpa [Hid] using HC.out
                        clear ev2 HRX HLJ HDS hdj HC
                        go_wp2_with fail
                        refine (readT HT.out j (by rw [HN.out]; exact hq) HU.out).mono ?_
                        rintro e w2 ⟨x, rfl, hrx, ht2, hb2⟩
                        have HR2 : Hid (Row w2 x (d4.last j)) := hrx
                        have HW2 : Hid (Row w2 gx (d4.last j)) := HW.out.below hb2 HW.out.lt
                        have HT2 : Hid (TT w2 w.heap.size B d4 O L n f h av) := ht2
                        have HB2 : Hid (Below w.heap.size w w2) := HB.out.trans (hb2.mono HB.out.size)
                        clear hrx ht2 hb2 HW HT HB
                        go_wp2_with fail
                        refine (eqRow HR2.out HW2.out HSE.out HSE.out _ _).mono ?_
                        rintro e w3 ⟨rfl, rfl⟩
                        simp only [decide_true]
                        go_wp2
                        go_roundw
                        case rel => exact ⟨j + 1, cn, by omega, by go_num, by go_num, HCN, ⟨HT2.out, HB2.out⟩⟩
                        case measure => simp [intOf]; omega
                      | some ys =>
                        rw [hdj] at ev2
                        obtain ⟨gy, rfl, -, hry⟩ := ev2
                        have HRY : Hid (Row wr gy ys) := hry
                        have HCN : Hid (cn + 1 = (dirts d.dirty (j + 1)).length) := by
                          rw [HDS.out, hdj]
                          simpa [Hid] using HC.out
                        have HLV : Hid (d4.last j = if ks.getD cn false = true then ys else d.sure j) := by
                          show d4.last j = _
                          rw [HLJ.out, loseS, hdj, HC.out]
                          rfl
                        clear hry HLJ HDS hdj HC
                        by_cases hcl : cn < len
                        · have hcli : (cn : Int) < (len : Int) := by omega
                          obtain ⟨kb0, ko, hpe, hcs⟩ := HII.out.bls (by rw [HII.out.lenq]; omega)
                          subst hpe
                          have ck := hcs cn (by rw [HII.out.lenq]; exact hcl)
                          clear hcs
                          cases hkb : ks.getD cn false with
                          | true =>
                            rw [hkb] at ck
                            have HW : Hid (Row wr gy (d4.last j)) := by
                              rw [HLV.out, hkb]
                              exact HRY.out
                            clear HRX HRY HLV hkb
                            go_wp2_with fail
                            refine (readT HT.out j (by rw [HN.out]; exact hq) HU.out).mono ?_
                            rintro e w2 ⟨x, rfl, hrx, ht2, hb2⟩
                            have HR2 : Hid (Row w2 x (d4.last j)) := hrx
                            have HW2 : Hid (Row w2 gy (d4.last j)) := HW.out.below hb2 HW.out.lt
                            have HT2 : Hid (TT w2 w.heap.size B d4 O L n f h av) := ht2
                            have HB2 : Hid (Below w.heap.size w w2) := HB.out.trans (hb2.mono HB.out.size)
                            clear hrx ht2 hb2 HW HT HB
                            go_wp2_with fail
                            refine (eqRow HR2.out HW2.out HSE.out HSE.out _ _).mono ?_
                            rintro e w3 ⟨rfl, rfl⟩
                            simp only [decide_true]
                            go_wp2
                            go_roundw
                            case rel => exact ⟨j + 1, cn + 1, by omega, by go_num, by go_num, HCN, ⟨HT2.out, HB2.out⟩⟩
                            case measure => simp [intOf]; omega
                          | false =>
                            rw [hkb] at ck
                            have HW : Hid (Row wr gx (d4.last j)) := by
                              rw [HLV.out, hkb]
                              exact HRX.out
                            clear HRX HRY HLV hkb
                            go_wp2_with fail
                            refine (readT HT.out j (by rw [HN.out]; exact hq) HU.out).mono ?_
                            rintro e w2 ⟨x, rfl, hrx, ht2, hb2⟩
                            have HR2 : Hid (Row w2 x (d4.last j)) := hrx
                            have HW2 : Hid (Row w2 gx (d4.last j)) := HW.out.below hb2 HW.out.lt
                            have HT2 : Hid (TT w2 w.heap.size B d4 O L n f h av) := ht2
                            have HB2 : Hid (Below w.heap.size w w2) := HB.out.trans (hb2.mono HB.out.size)
                            clear hrx ht2 hb2 HW HT HB
                            go_wp2_with fail
                            refine (eqRow HR2.out HW2.out HSE.out HSE.out _ _).mono ?_
                            rintro e w3 ⟨rfl, rfl⟩
                            simp only [decide_true]
                            go_wp2
                            go_roundw
                            case rel => exact ⟨j + 1, cn + 1, by omega, by go_num, by go_num, HCN, ⟨HT2.out, HB2.out⟩⟩
                            case measure => simp [intOf]; omega
                        · have hkb : ks.getD cn false = false := by
                            have := HII.out.lenq
                            simp [List.getD, show ¬ cn < ks.length by omega]
                          have hcli : ¬ (cn : Int) < (len : Int) := by omega
                          have HW : Hid (Row wr gx (d4.last j)) := by
                            rw [HLV.out, hkb]
                            exact HRX.out
                          clear HRX HRY HLV hkb
                          go_wp2_with fail
                          refine (readT HT.out j (by rw [HN.out]; exact hq) HU.out).mono ?_
                          rintro e w2 ⟨x, rfl, hrx, ht2, hb2⟩
                          have HR2 : Hid (Row w2 x (d4.last j)) := hrx
                          have HW2 : Hid (Row w2 gx (d4.last j)) := HW.out.below hb2 HW.out.lt
                          have HT2 : Hid (TT w2 w.heap.size B d4 O L n f h av) := ht2
                          have HB2 : Hid (Below w.heap.size w w2) := HB.out.trans (hb2.mono HB.out.size)
                          clear hrx ht2 hb2 HW HT HB
                          go_wp2_with fail
                          refine (eqRow HR2.out HW2.out HSE.out HSE.out _ _).mono ?_
                          rintro e w3 ⟨rfl, rfl⟩
                          simp only [decide_true]
                          go_wp2
                          go_roundw
                          case rel => exact ⟨j + 1, cn + 1, by omega, by go_num, by go_num, HCN, ⟨HT2.out, HB2.out⟩⟩
                          case measure => simp [intOf]; omega
                    · have HB : Hid (Below w.heap.size w wr) := HF.out.below
                      clear HF
                      go_wp2
                      go_ret
                      exact ⟨rfl, HB.out⟩

end Go.Proofs.Ytahcfpfjijkchaa
