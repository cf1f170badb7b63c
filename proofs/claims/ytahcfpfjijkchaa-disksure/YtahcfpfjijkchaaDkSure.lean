/- What was written ahead of a barrier, and not since, is read behind any crash. -/
import Derived.Test.YtahcfpfjijkchaaDkWant
import Derived.Deep.RegionHeld3
namespace Go.Proofs.Ytahcfpfjijkchaa
open Go.ChangeShapes Go.WideShapes Go.ChangeAt Go.RowKit Go.Shelf
set_option linter.unusedVariables false

def Clean (d : Dk) (D : DataW Nat) : Prop := ∀ i : Nat, Maps.has D (.int .i64 (i : Int)) = true → d.dirty i = none

theorem Clean.put {d : Dk} {D : DataW Nat} (h : Clean d D) (k : Nat) (xs : List Int) : Clean (d.put k xs) (D.del (.int .i64 (k : Int))) := by
  intro i hi
  by_cases hik : i = k
  · subst hik
    rw [Maps.has_del_same] at hi
    cases hi
  · rw [Maps.has_del_other (key_ne hik)] at hi
    simp only [Dk.put, upd, if_neg hik]
    exact h i hi

theorem put_last (d : Dk) (k : Nat) (xs : List Int) : (d.put k xs).last k = xs ∧ ∀ x, x ≠ k → (d.put k xs).last x = d.last x := by
  refine ⟨by simp [Dk.put, Dk.last, upd], fun x hx => by simp [Dk.put, Dk.last, upd, hx]⟩

structure Su1 (w wr : World) (n B M : Nat) (d : Dk) (nb : Nat) (D : DataW Nat) (av : List Nat) (j : Nat) : Prop where
  wt : WT wr w.heap.size B d M nb D av d.last
  plain : Plain d n
  below : Below w.heap.size w wr
  x : nb ≤ j

structure Su2 (w wr : World) (n B M : Nat) (d : Dk) (nb : Nat) (D : DataW Nat) (av : List Nat) : Prop where
  wt : WT wr w.heap.size B d M nb D av d.sure
  plain : Plain d n
  below : Below w.heap.size w wr
  x : Clean d D

structure Su3 (w wr : World) (B M : Nat) (d : Dk) (nb : Nat) (D : DataW Nat) (av : List Nat) : Prop where
  wt : WT wr w.heap.size B d M nb D av d.last
  below : Below w.heap.size w wr

set_option maxRecDepth 100000 in
set_option maxHeartbeats 8000000 in
theorem walk_diskSure (i : Int) (q : Option Addr) (m qc : Nat) (os : List GOp) (q2 : Option Addr) (m2 qc2 : Nat) (os2 : List GOp) (p : Option Addr) (len cap : Nat) (ks : List Bool) (w : World) (hi : (Lit.int .i64 i).wf = true) (hos : InOps w q m qc os) (hos2 : InOps w q2 m2 qc2 os2) (hin : InK w p len cap ks) :
    Calls Try.prog 5 #[.int .i64 i, .slice q m qc, .slice q2 m2 qc2, .slice p len cap] w fun e w' => e = .returned (.bool true) ∧ Below w.heap.size w w' := by
  have HI : Hid (InK w p len cap ks) := hin
  have HO : Hid (InOps w q m qc os) := hos
  have HO2 : Hid (InOps w q2 m2 qc2 os2) := hos2
  have HLT : Hid (∀ ad, p = some ad → 0 < ks.length → ad.block < w.heap.size) := hin.lt
  have hle := hin.le
  have hroom := hin.room
  have hle2 := hos.le
  have hroom2 := hos.room
  have hle3 := hos2.le
  have hroom3 := hos2.room
  clear hin hos hos2 hi
  by_cases h1 : i < 1
  · go_enter Try.func5, Try.ntmps5
    go_wp2_with fail
    refine (new_bad i w (.inl h1)).mono ?_
    rintro e w1 ⟨rfl, rfl⟩
    go_wp2_with fail
    refine (begun_any w1).mono ?_
    rintro e w2 ⟨rfl, hb2⟩
    go_wp2
    go_ret
    exact ⟨rfl, hb2⟩
  · by_cases h2 : 16384 < i
    · go_enter Try.func5, Try.ntmps5
      go_wp2_with fail
      refine (new_bad i w (.inr h2)).mono ?_
      rintro e w1 ⟨rfl, rfl⟩
      go_wp2_with fail
      refine (begun_any w1).mono ?_
      rintro e w2 ⟨rfl, hb2⟩
      go_wp2
      go_ret
      exact ⟨rfl, hb2⟩
    · obtain ⟨n, rfl⟩ : ∃ n : Nat, i = (n : Int) := ⟨i.toNat, by omega⟩
      obtain ⟨r, hr⟩ : ∃ r : Nat, r = min n 64 := ⟨_, rfl⟩
      have hrn : r ≤ n := by omega
      have HR : Hid (r = min n 64) := hr
      have hmm := @run_makeMap Try.prog
      clear hr
      go_enter Try.func5, Try.ntmps5
      go_wp2_with fail
      refine (newF n w (by omega) (by omega)).mono ?_
      rintro e w1 ⟨B, rfl, hd1, hb1⟩
      have HD1 : Hid (Sep w1 w.heap.size B (Dk.fresh n) []) := Sep.of hd1
      have HB1 : Hid (Below w.heap.size w w1) := hb1
      clear hd1 hb1
      go_wp2_with fail
      refine (begun_any w1).mono ?_
      rintro e w2 ⟨rfl, hb2⟩
      have HB2 : Hid (Below w.heap.size w w2) := HB1.out.trans (hb2.mono HB1.out.size)
      have HF0 : Hid (Su1 w (w2.alloc (.map #[] 0)) n B w2.heap.size (Dk.fresh n) 0 (.map []) [] 0) := ⟨wt_new (HD1.out.below hb2) HB2.out.size _, Plain.fresh n, HB2.out.alloc HB2.out.size _, Nat.le_refl _⟩
      clear hb2 HD1 HB1 HB2
      go_wp2_with fail
      generalize w2.alloc (.map #[] 0) = w3 at *
      generalize w2.heap.size = M at *
      go_loopw [47] (fun iv wr => ∃ (j nb : Nat) (d : Dk) (D : DataW Nat) (av : List Nat), j ≤ m ∧ nb ≤ m ∧ iv = .int .i64 j ∧ Hid (Su1 w wr n B M d nb D av j)) (fun iv _ => m - (intOf iv).toNat)
      case atStart => exact ⟨0, _, _, _, _, Nat.zero_le _, Nat.zero_le _, rfl, HF0⟩
      case round =>
        obtain ⟨j, nb, d, D, av, hj, hnb, rfl, HF⟩ := hrel
        clear HF0
        by_cases hq : j < m
        · have hqi : (j : Int) < (m : Int) := by omega
          have HO1 : Hid (InOps wr q m qc os) := HO.out.up HF.out.below
          obtain ⟨b, o, g, hqe, hg, hop, hblt, c0, c1, c2, c3, c4, c5, c6⟩ := HO1.out.at hq
          subst hqe
          have ha := hop.a
          have hb := hop.b
          clear hg hop HO1
          have hb5 : Below wr.heap.size wr (wr.alloc (.cells g.cells.toArray 34)) := (Below.refl _ _).alloc (Nat.le_refl _) _
          have HT5 : Hid (WT (wr.alloc (.cells g.cells.toArray 34)) w.heap.size B d M nb D (wr.heap.size :: av) d.last) := HF.out.wt.add hb5 (Nat.le_refl _) (by simp)
          have HP : Hid (Plain d n) := HF.out.plain
          have HX : Hid (nb ≤ j) := HF.out.x
          have HB5 : Hid (Below w.heap.size w (wr.alloc (.cells g.cells.toArray 34))) := HF.out.below.trans (hb5.mono HF.out.below.size)
          have HK5 : Hid (Bk (wr.alloc (.cells g.cells.toArray 34)) wr.heap.size 34 g.cells.toArray) := Bk.new _ _ _
          have HS : Hid (Sec (sct g.a g.b)) := sec_sct ha hb
          clear HF ha hb
          clear hb5
          go_wp2_with fail
          refine (sector_any g.a g.b _).mono ?_
          rintro e w6 ⟨g6, rfl, hg6, hr6, hb6⟩
          have HT6 : Hid (WT w6 w.heap.size B d M nb D (g6 :: wr.heap.size :: av) d.last) := HT5.out.add hb6 hg6 hr6.lt
          have HB6 : Hid (Below w.heap.size w w6) := HB5.out.trans (hb6.mono HB5.out.size)
          have HK6 : Hid (Bk w6 wr.heap.size 34 g.cells.toArray) := HK5.out.below hb6 HK5.out.lt
          have HR6 : Hid (Row w6 g6 (sct g.a g.b)) := hr6
          obtain ⟨d1, d2, d3⟩ := op_box HK6.out
          clear hg6 hr6 hb6 HT5 HB5 HK5 c0 c1 c2 c3 c4 c5 c6
          go_wp2_with fail
          refine (writeW HT6.out HB6.out.size g.pl _ 512 _ (sct g.a g.b) HS.out.1 HR6.out.bys HS.out.2).mono ?_
          rintro e w7 ⟨rfl, ht7, hb7, hk7⟩
          have HB7 : Hid (Below w.heap.size w w7) := HB6.out.trans hb7
          have HR7 : Hid (Row w7 g6 (sct g.a g.b)) := HR6.out.heap (hk7 g6 (by simp))
          have HK7 : Hid (Bk w7 wr.heap.size 34 g.cells.toArray) := (hk7 wr.heap.size (by simp)).trans HK6.out
          rcases HP.out.write g.pl (sct g.a g.b) HS.out.1 with ⟨hr, hw⟩ | ⟨hr, hw, hpp⟩
          · rw [hw] at ht7 ⊢
            have hrb : (d.reach g.pl == 0) = false := by simpa using hr
            have HF7 : Hid (Su1 w w7 n B M d nb D (g6 :: wr.heap.size :: av) (j + 1)) := ⟨ht7, HP.out, HB7.out, Nat.le_succ_of_le HX.out⟩
            clear ht7 hb7 hk7 hr hw HT6 HB6 HK6 HR6 HR7 HK7 d1 d2 d3
            go_wp2
            go_roundw
            case rel => exact ⟨j + 1, _, _, _, _, by omega, by omega, by go_num, HF7⟩
            case measure => simp [intOf]; omega
          · rw [hw] at ht7 ⊢
            obtain ⟨_, k, hk, hkn⟩ := Dk.reach_ok hr
            rw [HP.out.n] at hkn
            rw [hk, Int.toNat_natCast] at ht7 hpp
            obtain ⟨e1, e2, e3⟩ := op_box HK7.out
            rw [hk] at e1
            have HT7 : Hid (WT w7 w.heap.size B (d.put k (sct g.a g.b)) M nb D (g6 :: wr.heap.size :: av) d.last) := ht7
            have HPP : Hid (Plain (d.put k (sct g.a g.b)) n) := hpp
            have HPL : Hid ((d.put k (sct g.a g.b)).last k = sct g.a g.b ∧ ∀ x, x ≠ k → (d.put k (sct g.a g.b)).last x = d.last x) := put_last d k _
            have HNB : Hid (nb ≤ 1759218604390) := by show nb ≤ _; omega
            have HKN : Hid (k ≤ 16384) := by show k ≤ _; omega
            clear ht7 hb7 hk7 hr hw hpp HT6 HB6 HK6 HR6 HK7 d1 d2 d3 hk e2 e3
            go_wp2_with (at_mapUpdate; refine wp_update_row rfl _ _ _ rfl HT7.out HNB.out rfl k HKN.out rfl g6 _ (by simp) HR7.out rfl _ HPL.out ?_; intro w8 D8 ht8 hg8; refine Hid.out ?_)
            unfold Hid
            have HF8 : Hid (Su1 w w8 n B M (d.put k (sct g.a g.b)) (nb + 1) D8 (g6 :: wr.heap.size :: av) (j + 1)) := ⟨ht8, HPP.out, HB7.out.trans ((grown_tn hg8).below HB7.out.size (by simp; exact HT7.out.mM)), Nat.succ_le_succ HX.out⟩
            have hnbj : nb ≤ j := HX.out
            clear ht8 hg8 HT7 HB7 HR7 HPL HPP e1
            go_wp2
            go_roundw
            case rel => exact ⟨j + 1, _, _, _, _, by omega, by omega, by go_num, HF8⟩
            case measure => simp [intOf]; omega
        · have hjm : m = j := by omega
          subst hjm
          have HT : Hid (WT wr w.heap.size B d M nb D av d.last) := HF.out.wt
          have HP : Hid (Plain d n) := HF.out.plain
          have HB : Hid (Below w.heap.size w wr) := HF.out.below
          clear HF
          go_wp2_with fail
          refine (barW HT.out HB.out.size).mono ?_
          rintro e w8 ⟨rfl, ht8, hb8⟩
          rw [HP.out.bar.1] at ht8 ⊢
          have HF1 : Hid (Su2 w w8 n B M d.flush nb D av) := ⟨ht8, HP.out.bar.2, HB.out.trans hb8, fun _ _ => rfl⟩
          clear ht8 hb8 HT HP HB
          go_wp2_with fail
          go_loopw [72] (fun iv wr => ∃ (j nb : Nat) (d : Dk) (D : DataW Nat) (av : List Nat), j ≤ m2 ∧ nb ≤ m ∧ iv = .int .i64 j ∧ Hid (Su2 w wr n B M d nb D av)) (fun iv _ => m2 - (intOf iv).toNat)
          case atStart => exact ⟨0, _, _, _, _, Nat.zero_le _, hnb, rfl, HF1⟩
          case round =>
            obtain ⟨j, nb, d, D, av, hj, hnb, rfl, HF⟩ := hrel
            clear HF1
            by_cases hq : j < m2
            · have hqi : (j : Int) < (m2 : Int) := by omega
              have HO1 : Hid (InOps wr q2 m2 qc2 os2) := HO2.out.up HF.out.below
              obtain ⟨b, o, g, hqe, hg, hop, hblt, c0, c1, c2, c3, c4, c5, c6⟩ := HO1.out.at hq
              subst hqe
              have ha := hop.a
              have hb := hop.b
              clear hg hop HO1
              have hb5 : Below wr.heap.size wr (wr.alloc (.cells g.cells.toArray 34)) := (Below.refl _ _).alloc (Nat.le_refl _) _
              have HT5 : Hid (WT (wr.alloc (.cells g.cells.toArray 34)) w.heap.size B d M nb D (wr.heap.size :: av) d.sure) := HF.out.wt.add hb5 (Nat.le_refl _) (by simp)
              have HP : Hid (Plain d n) := HF.out.plain
              have HX : Hid (Clean d D) := HF.out.x
              have HB5 : Hid (Below w.heap.size w (wr.alloc (.cells g.cells.toArray 34))) := HF.out.below.trans (hb5.mono HF.out.below.size)
              have HK5 : Hid (Bk (wr.alloc (.cells g.cells.toArray 34)) wr.heap.size 34 g.cells.toArray) := Bk.new _ _ _
              have HS : Hid (Sec (sct g.a g.b)) := sec_sct ha hb
              clear HF ha hb
              have hbd : Below (wr.alloc (.cells g.cells.toArray 34)).heap.size (wr.alloc (.cells g.cells.toArray 34)) (wr.alloc (.cells g.cells.toArray 34)).drew := (Below.refl _ _).drew
              have HT5d : Hid (WT (wr.alloc (.cells g.cells.toArray 34)).drew w.heap.size B d M nb D (wr.heap.size :: av) d.sure) := HT5.out.below hbd
              have HB5d : Hid (Below w.heap.size w (wr.alloc (.cells g.cells.toArray 34)).drew) := HB5.out.drew
              have HK5d : Hid (Bk (wr.alloc (.cells g.cells.toArray 34)).drew wr.heap.size 34 g.cells.toArray) := HK5.out
              clear hbd HT5 HB5 hb5
              obtain ⟨cb1, cb2, cb3⟩ := op_box HK5.out
              go_wp2_with fail
              go_region_held3 (fun w' => w'.cell? ⟨wr.heap.size, 1, none⟩ = some (.int .i64 g.pl) ∧ w'.cell? ⟨wr.heap.size, 2, none⟩ = some (.int .u8 g.a) ∧ w'.cell? ⟨wr.heap.size, 3, none⟩ = some (.int .u8 g.b)) (go_keep) (first
                | (go_at_call 22; refine (sector_any g.a g.b _).mono ?_; rintro e w6 ⟨g6, rfl, hg6, hr6, hb6⟩; have ht6 := HT5d.out.below hb6; have hbk6 := HK5d.out.below hb6 HK5d.out.lt; have hbb6 := HB5d.out.trans (hb6.mono HB5d.out.size); have hk6 := op_box hbk6)
                | (go_at_call 23; refine (writeW ht6 hbb6.size g.pl _ 512 _ (sct g.a g.b) HS.out.1 hr6.bys HS.out.2).mono ?_; rintro e w7 ⟨rfl, ht7, hb7, he7⟩; have hbk7 : Bk w7 wr.heap.size 34 g.cells.toArray := (he7 wr.heap.size (by simp)).trans hbk6; have hbb7 := hbb6.trans hb7; have hk7 := op_box hbk7))
              rcases HP.out.write g.pl (sct g.a g.b) HS.out.1 with ⟨hr, hw⟩ | ⟨hr, hw, hpp⟩
              · rw [hw] at ht7 ⊢
                have hrb : (d.reach g.pl == 0) = false := by simpa using hr
                have HF7 : Hid (Su2 w w7 n B M d nb D (wr.heap.size :: av)) := ⟨ht7, HP.out, hbb7, HX.out⟩
                clear hr hw hg6 hr6 hb6 ht6 hbk6 hbb6 hk6 ht7 hb7 he7 hbk7 hbb7 hk7 HT5d HB5d HK5d HK5 cb1 cb2 cb3 c0 c1 c2 c3 c4 c5 c6
                go_wp2
                go_roundw
                case rel => exact ⟨j + 1, _, _, _, _, by omega, hnb, by go_num, HF7⟩
                case measure => simp [intOf]; omega
              · rw [hw] at ht7 ⊢
                obtain ⟨_, k, hk, hkn⟩ := Dk.reach_ok hr
                rw [HP.out.n] at hkn
                rw [hk, Int.toNat_natCast] at ht7 hpp
                obtain ⟨e1, e2, e3⟩ := hk7
                rw [hk] at e1
                have HT7 : Hid (WT w7 w.heap.size B (d.put k (sct g.a g.b)) M nb D (wr.heap.size :: av) d.sure) := ht7
                have HPP : Hid (Plain (d.put k (sct g.a g.b)) n) := hpp
                have HB7 : Hid (Below w.heap.size w w7) := hbb7
                have HKE : Hid (g.pl = (k : Int)) := hk
                have HKN : Hid (k ≤ 16384) := by show k ≤ _; omega
                clear hr hw hpp hk hg6 hr6 hb6 ht6 hbk6 hbb6 hk6 ht7 hb7 he7 hbk7 hbb7 HT5d HB5d HK5d HK5 cb1 cb2 cb3 c0 c1 c2 c3 c4 c5 c6 e2 e3
                go_wp2_with (at_delete; refine wp_delete_row rfl _ _ rfl HT7.out rfl k HKN.out (by first | rfl | exact congrArg (Value.int .i64) HKE.out) ?_; intro w8 ht8 hg8; refine Hid.out ?_)
                unfold Hid
                have HF8 : Hid (Su2 w w8 n B M (d.put k (sct g.a g.b)) nb (D.del (.int .i64 (k : Int))) (wr.heap.size :: av)) := ⟨ht8, HPP.out, HB7.out.trans ((grown_tn hg8).below HB7.out.size (by simp; exact HT7.out.mM)), HX.out.put k _⟩
                clear ht8 hg8 HT7 HB7 HPP e1
                go_wp2
                go_roundw
                case rel => exact ⟨j + 1, _, _, _, _, by omega, hnb, by go_num, HF8⟩
                case measure => simp [intOf]; omega
            · have hjm : m2 = j := by omega
              subst hjm
              have HT0 : Hid (WT wr w.heap.size B d M nb D av d.sure) := HF.out.wt
              have HP : Hid (Plain d n) := HF.out.plain
              have HX : Hid (Clean d D) := HF.out.x
              have HB0 : Hid (Below w.heap.size w wr) := HF.out.below
              have HI0 : Hid (InK wr p len cap ks) := HI.out.below HB0.out HLT.out
              clear HF
              go_wp2_with fail
              refine (crashW HT0.out HB0.out.size p cap ks len HI0.out.lenq HI0.out.bls HLT.out).mono ?_
              rintro e w8 ⟨rfl, ht8, hb8⟩
              rw [show d.crash ks = (0, d.lose ks) by rw [Dk.crash, if_neg (by simp [HP.out.up])]] at ht8 ⊢
              have HT8 : Hid (WT w8 w.heap.size B (d.lose ks) M nb D av d.sure) := ht8
              have HB8 : Hid (Below w.heap.size w w8) := HB0.out.trans hb8
              clear ht8 hb8 HT0 HB0 HI0
              go_wp2_with fail
              refine (restartW HT8.out HB8.out.size).mono ?_
              rintro e w9 ⟨rfl, ht9, hb9⟩
              have hl9 : ∀ x : Nat, Maps.has D (.int .i64 (x : Int)) = true → ({ d.lose ks with down := false } : Dk).last x = d.sure x := fun x hx => by
                show loseS d.dirty ks d.sure x = _
                rw [loseS, HX.out x hx]
                simp
              have hn9 : ({ d.lose ks with down := false } : Dk).n = n := HP.out.n
              have hu9 : ({ d.lose ks with down := false } : Dk).down = false := rfl
              have ht9' := ht9.as hl9
              generalize ({ d.lose ks with down := false } : Dk) = d4 at *
              have HN : Hid (d4.n = n) := hn9
              have HU : Hid (d4.down = false) := hu9
              have HF9 : Hid (Su3 w w9 B M d4 nb D av) := ⟨ht9', HB8.out.trans hb9⟩
              clear ht9 ht9' hb9 hl9 hn9 hu9 HT8 HB8
              go_wp2_with fail
              rw [show min (n : Int) 64 = (r : Int) by have := HR.out; omega]
              go_loopw [101] (fun iv wr => ∃ (j : Nat), j ≤ r ∧ iv = .int .i64 j ∧ Hid (Su3 w wr B M d4 nb D av)) (fun iv _ => r - (intOf iv).toNat)
              case atStart => exact ⟨0, Nat.zero_le _, rfl, HF9⟩
              case round =>
                obtain ⟨j, hj, rfl, HF⟩ := hrel
                clear HF9
                by_cases hq : j < r
                · have hqi : (j : Int) < (r : Int) := by omega
                  have hjn : j < n := by omega
                  have HT : Hid (WT wr w.heap.size B d4 M nb D av d4.last) := HF.out.wt
                  have HB : Hid (Below w.heap.size w wr) := HF.out.below
                  have HSE : Hid (Sec (d4.last j)) := HT.out.secs j (by rw [HN.out]; exact hjn)
                  have HKN : Hid (j ≤ 16384) := by show j ≤ _; omega
                  clear HF
                  go_wp2_with fail
                  refine (readW HT.out j (by rw [HN.out]; exact hjn) HU.out).mono ?_
                  rintro e w2 ⟨x, rfl, hrx, ht2, hb2⟩
                  have HR2 : Hid (Row w2 x (d4.last j)) := hrx
                  have HT2 : Hid (WT w2 w.heap.size B d4 M nb D av d4.last) := ht2
                  have HB2 : Hid (Below w.heap.size w w2) := HB.out.trans (hb2.mono HB.out.size)
                  clear hrx ht2 hb2 HT HB
                  cases hhas : Maps.has D (.int .i64 (j : Int)) with
                  | true =>
                    have HH : Hid (Maps.has D (.int .i64 (j : Int)) = true) := hhas
                    obtain ⟨gw, hat, -, hrw⟩ := HT2.out.rows j hhas
                    have HAT : Hid (∀ z, D.atKey (.int .i64 (j : Int)) z = .held (gw + 1)) := hat
                    have HRW : Hid (Row w2 gw (d4.last j)) := hrw
                    clear hhas hat hrw
                    go_wp2_with (at_lookup; refine wp_lookup_hit rfl _ _ rfl HT2.out rfl j HKN.out rfl gw HH.out HAT.out ?_; refine Hid.out ?_)
                    unfold Hid
                    go_wp2_with fail
                    refine (eqRow HR2.out HRW.out HSE.out HSE.out _ _).mono ?_
                    rintro e w3 ⟨rfl, rfl⟩
                    simp only [decide_true]
                    go_wp2
                    go_roundw
                    case rel => exact ⟨j + 1, by omega, by go_num, ⟨HT2.out, HB2.out⟩⟩
                    case measure => simp [intOf]; omega
                  | false =>
                    have HH : Hid (Maps.has D (.int .i64 (j : Int)) = false) := hhas
                    clear hhas
                    go_wp2_with (at_lookup; refine wp_lookup_miss rfl _ _ rfl HT2.out rfl j HKN.out rfl HH.out ?_; intro v; refine Hid.out ?_)
                    unfold Hid
                    go_wp2
                    go_roundw
                    case rel => exact ⟨j + 1, by omega, by go_num, ⟨HT2.out, HB2.out⟩⟩
                    case measure => simp [intOf]; omega
                · have HB : Hid (Below w.heap.size w wr) := HF.out.below
                  clear HF
                  go_wp2
                  go_ret
                  exact ⟨rfl, HB.out⟩

end Go.Proofs.Ytahcfpfjijkchaa
